/-
  Sc5 Cl1 Cp1 Cp2 Ky1 Ky2 Ky3 Mv1 Mv2 Mv3 Mv4 Sm1 Sm2 Sm3 Sm4 Mk3 Mk4 Mk5 Mk6 Rs1 Mk7 Arg0 Rs2, one behind the other.
-/
import Derived.Test.YtngjiggplabfkaaGreatC22
import Derived.Test.YtngjiggplabfkaaGreatC21
import Derived.Test.YtngjiggplabfkaaGreatC10
import Derived.Test.YtngjiggplabfkaaGreatRows
import Derived.Carry
import Derived.ChangeSlices
namespace Go.Proofs.YtngjiggplabfkaaGreat.Hs.Sc
open Go.Gv So Fm
open Go.Ev (cn fadd fsub fmul fdiv fsqrt fneg feq flt fle fgt fge fabs isNan)

theorem rtC_t {f n : Nat} {c : Nat → List AV} {g : List AV → Int} {s : Scn} {sk : Nat → Int} {k : Nat} (hk : k < n) (h : FSpec Tryz.prog f [.agg (c k)] (iA (g (c k)))) (o : Option Out) (r : Int → Option Out) (oe : Option Out) : rtC g s (k : Nat) f n c sk o r oe = cond (weE (g (c k)) (sk k) s.nK == 0) o (r (weE (g (c k)) (sk k) s.nK)) := by
  unfold rtC weE
  rw [dec_lt hk, ixB_t hk, Int.toNat_natCast, gate_pos h]
  cases hg : g (c k) == 0
  · show r (g (c k)) = cond (g (c k) == 0) o (r (g (c k)))
    rw [hg]; rfl
  · cases decide (sk k ≥ (s.nK : Int)) <;> rfl
theorem rtC_e (f n : Nat) (c : Nat → List AV) (g : List AV → Int) (s : Scn) (sk : Nat → Int) (o : Option Out) (r : Int → Option Out) (oe : Option Out) : rtC g s (n : Nat) f n c sk o r oe = oe := by
  unfold rtC
  rw [dec_self, cond_false]
theorem rlC_t {s : Scn} {k : Nat} (hk : k < s.nL) (o : Option Out) (r : Int → Option Out) (oe : Option Out) : rlC s (k : Nat) o r oe = cond (eL s k == 0) o (r (eL s k)) := by
  unfold rlC eL lmE
  rw [dec_lt hk, ixB_t hk, Int.toNat_natCast]
  cases fineS (s.LA k 0) (s.LA k 1) (s.LA k 2) <;> cases liB (s.LL k) <;> rfl
section
variable {s : Scn}
theorem r1_sound (h : s.nK ≤ 1000) : LSound Tryz.prog (loopAt Tryz.f22 0) (mayT [1, 3] [some 0] (rS s 3) (.exit 0) rE (eK s) s.nK) := by
  refine mayT_sound (by simp) (fun k hk hb => ?_) (fun k hk hb => ?_) ?_
  · refine leads_ev (finN_sub _ _) e_nil k1_ok noL_ok ((r1_step fSk s (k : Nat)).trans ?_)
    rw [mlC_t hk (fSk_ok _).2, show fSk (skC (s.K k)) = 0 from hb, w64_next (by omega)]; rfl
  · refine leads_ev (finR_sub _ _) e_nil k1_ok noL_ok ((r1_ret fSk s (k : Nat)).trans ?_)
    rw [mlC_t hk (fSk_ok _).2, beq_false_of_ne (show fSk (skC (s.K k)) ≠ 0 from hb)]; rfl
  · exact leads_ev (finE_sub _ _) e_nil k1_ok noL_ok ((r1_end fSk s (s.nK : Nat)).trans (mlC_e _ _ _ _ _ _ _))
theorem r2_sound (h : s.nS ≤ 1000) : LSound Tryz.prog (loopAt Tryz.f22 1) (mayT [1, 5] [some 0] (rS s 5) (.exit 2) rE (eS s) s.nS) := by
  refine mayT_sound (by simp) (fun k hk hb => ?_) (fun k hk hb => ?_) ?_
  · refine leads_ev (finN_sub _ _) e_nil k1_ok noL_ok ((r2_step fSh s (k : Nat)).trans ?_)
    rw [rtC_t hk (fSh_ok _).2, show weE (fSh (s.S k).c) (s.S k).sk s.nK = 0 from hb, w64_next (by omega)]; rfl
  · refine leads_ev (finR_sub _ _) e_nil k1_ok noL_ok ((r2_ret fSh s (k : Nat)).trans ?_)
    rw [rtC_t hk (fSh_ok _).2, beq_false_of_ne (show weE (fSh (s.S k).c) (s.S k).sk s.nK ≠ 0 from hb)]; rfl
  · exact leads_ev (finE_sub _ _) e_nil k1_ok noL_ok ((r2_end fSh s (s.nS : Nat)).trans (rtC_e _ _ _ _ _ _ _ _ _))
theorem r3_sound (h : s.nO ≤ 1000) : LSound Tryz.prog (loopAt Tryz.f22 2) (mayT [1, 7] [some 0] (rS s 7) (.exit 4) rE (eO s) s.nO) := by
  refine mayT_sound (by simp) (fun k hk hb => ?_) (fun k hk hb => ?_) ?_
  · refine leads_ev (finN_sub _ _) e_nil k1_ok noL_ok ((r3_step fSo s (k : Nat)).trans ?_)
    rw [rtC_t hk (fSo_ok _).2, show weE (fSo (s.O k).c) (s.O k).sk s.nK = 0 from hb, w64_next (by omega)]; rfl
  · refine leads_ev (finR_sub _ _) e_nil k1_ok noL_ok ((r3_ret fSo s (k : Nat)).trans ?_)
    rw [rtC_t hk (fSo_ok _).2, beq_false_of_ne (show weE (fSo (s.O k).c) (s.O k).sk s.nK ≠ 0 from hb)]; rfl
  · exact leads_ev (finE_sub _ _) e_nil k1_ok noL_ok ((r3_end fSo s (s.nO : Nat)).trans (rtC_e _ _ _ _ _ _ _ _ _))
theorem r4_sound (h : s.nF ≤ 1000) : LSound Tryz.prog (loopAt Tryz.f22 3) (mayT [1, 9] [some 0] (rS s 9) (.exit 6) rE (eF s) s.nF) := by
  refine mayT_sound (by simp) (fun k hk hb => ?_) (fun k hk hb => ?_) ?_
  · refine leads_ev (finN_sub _ _) e_nil k1_ok noL_ok ((r4_step fFd s (k : Nat)).trans ?_)
    rw [rtC_t hk (fFd_ok _).1.2, show weE (fFd (s.F k).c) (s.F k).sk s.nK = 0 from hb, w64_next (by omega)]; rfl
  · refine leads_ev (finR_sub _ _) e_nil k1_ok noL_ok ((r4_ret fFd s (k : Nat)).trans ?_)
    rw [rtC_t hk (fFd_ok _).1.2, beq_false_of_ne (show weE (fFd (s.F k).c) (s.F k).sk s.nK ≠ 0 from hb)]; rfl
  · exact leads_ev (finE_sub _ _) e_nil k1_ok noL_ok ((r4_end fFd s (s.nF : Nat)).trans (rtC_e _ _ _ _ _ _ _ _ _))
theorem r5_sound (h : s.nL ≤ 1000) : LSound Tryz.prog (loopAt Tryz.f22 4) (mayT [1, 11] [some 0] (rS s 11) (.exit 8) rE (eL s) s.nL) := by
  refine mayT_sound (by simp) (fun k hk hb => ?_) (fun k hk hb => ?_) ?_
  · refine leads_ev (finN_sub _ _) RL_ok k_nil noL_ok ((r5_step s (k : Nat)).trans ?_)
    rw [rlC_t hk, hb, w64_next (by omega)]; rfl
  · refine leads_ev (finR_sub _ _) RL_ok k_nil noL_ok ((r5_ret s (k : Nat)).trans ?_)
    rw [rlC_t hk, beq_false_of_ne hb]; rfl
  · refine leads_ev (finE_sub _ _) RL_ok k_nil noL_ok ((r5_end s (s.nL : Nat)).trans ?_)
    unfold rlC
    rw [dec_self, cond_false]
end
theorem rsc_spec (s : Scn) : FSpec Tryz.prog 22 [.agg s.c] (iA (scE s)) := by
  cases ht : tmB s
  · obtain ⟨a1, a2, a3, a4, a5⟩ := tm_few s ht
    refine gspec RL_ok k1_ok Tryz.func22 (by kernel_rfl) (by kernel_rfl) (lok_cons (lok_at 0 5 (by kernel_rfl) (by kernel_rfl) (r1_sound (by omega))) (lok_cons (lok_at 1 5 (by kernel_rfl) (by kernel_rfl) (r2_sound (by omega))) (lok_cons (lok_at 2 5 (by kernel_rfl) (by kernel_rfl) (r3_sound (by omega))) (lok_cons (lok_at 3 5 (by kernel_rfl) (by kernel_rfl) (r4_sound (by omega))) (lok_cons (lok_at 4 5 (by kernel_rfl) (by kernel_rfl) (r5_sound (by omega))) lok_nil))))) rfl ((r_ev s (eK s) (eS s) (eO s) (eF s) (eL s) (eyE s.eye)).trans ?_)
    rw [gate_pos (rey_spec _), lpO_t, lpO_t, lpO_t, lpO_t, lpO_t, ht]
    unfold scE
    rw [ht]
    cases hk : seqE (eK s) s.nK == 0
    · rfl
    · unfold thE
      cases h1 : seqE (eS s) s.nS == 0
      · show oI (seqE (eS s) s.nS) = some (Out.of (iA (cond (seqE (eS s) s.nS == 0) _ (seqE (eS s) s.nS))))
        rw [h1]; rfl
      · cases h2 : seqE (eO s) s.nO == 0
        · show oI (seqE (eO s) s.nO) = some (Out.of (iA (cond (seqE (eO s) s.nO == 0) _ (seqE (eO s) s.nO))))
          rw [h2]; rfl
        · cases h3 : seqE (eF s) s.nF == 0
          · show oI (seqE (eF s) s.nF) = some (Out.of (iA (cond (seqE (eF s) s.nF == 0) _ (seqE (eF s) s.nF))))
            rw [h3]; rfl
          · have h3' := eq_of_beq h3
            show cond (seqE (eL s) s.nL == 0) _ _ = some (Out.of (iA (cond (seqE (eF s) s.nF == 0) _ _)))
            rw [h3']
            cases hl : seqE (eL s) s.nL == 0
            · rfl
            · cases liB s.sky <;> rfl
  · have e : scE s = 4 := by unfold scE; rw [ht]; rfl
    rw [e]
    refine gspec RL_ok k_nil Tryz.func22 (by kernel_rfl) (by kernel_rfl) (lok_cons (lok_none 4) (lok_cons (lok_none 10) (lok_cons (lok_none 18) (lok_cons (lok_none 26) (lok_cons (lok_none 34) lok_nil))))) rfl ((r_ev0 s).trans ?_)
    rw [ht]; rfl
end Go.Proofs.YtngjiggplabfkaaGreat.Hs.Sc

namespace Go.Proofs.YtngjiggplabfkaaGreat.Hs.Sc
open Go.Gv So Fm

theorem wd_any {A0 R : Nat → Prop} {w0 E : Env} (h : Wd A0 R w0 E []) (mem : List Row) : Wd A0 R w0 E mem := by
  have no : ∀ k p, E.O k = some p → False := fun k p hp => by have := h.dom k p.1 p.2 hp; exact Nat.not_lt_zero _ this
  exact ⟨fun k b c hb => (no k _ hb).elim, h.small, h.old, fun k b c hb => (no k _ hb).elim, fun k _ b c _ hb => (no k _ hb).elim, h.below, h.le0⟩
def cpB (n by' : Nat) : Bool := ((0 == 0) && (Nat.blt 0 n && (allB n (fun _ => true) && Nat.ble ((0 + n) * by') 140737488355328))) || false
theorem cpB_t {n b : Nat} (h0 : 0 < n) (h : n * b ≤ 140737488355328) : cpB n b = true := by
  unfold cpB
  rw [blt_t h0, allB_true fun _ _ => rfl, Nat.ble_eq_true_of_le (show (0 + n) * b ≤ 140737488355328 by rw [Nat.zero_add]; exact h)]; rfl
section
variable (n : Nat) (S : Nat → Shp)
theorem cSh_evN : evG Tryz.prog [] [] [] noL Tryz.f40 [.sl 13 n fun q => (S q).c] [] [some 1] = cond (Nat.blt 0 n || false) (cond (cpB n 104) (gout (.osl 0 13 0 (0 + n)) [.a 58 13 (0 + n) fun q => mixL (Nat.blt q 0) [] ((S (q - 0)).c)]) none) none := by kernel_rfl
theorem cSh_ev1 (c : Nat) : evG Tryz.prog [] [] [] noL Tryz.f40 [.x (.slice none 0 c)] [] [] = gout (.x (.slice none 0 0)) [] := by kernel_rfl
theorem cSh_ev2 (ad : Addr) (c : Nat) : evG Tryz.prog [] [] [] noL Tryz.f40 [.x (.slice (some ad) 0 c)] [] [some 0] = gout (.osl 0 13 0 0) [.a 58 13 0 fun _ => []] := by kernel_rfl
def rSh : List Row := [.a 58 13 n fun q => (S q).c]
theorem cloneSh (hn : n ≤ 1000000) : GSpec Tryz.prog 40 [.sl 13 n fun q => (S q).c] [] (.osl 0 13 0 n) (rSh n S) := by
  by_cases h0 : n = 0
  · subst h0
    have g1 : ∀ c, GSpec Tryz.prog 40 [.x (.slice none 0 c)] [] (.x (.slice none 0 0)) [] := fun c => gspecG (mem := []) e_nil k_nil m_nil Tryz.func40 (by kernel_rfl) (by kernel_rfl) noL_ok rfl (by kernel_rfl) (cSh_ev1 c)
    have g2 : ∀ ad c, GSpec Tryz.prog 40 [.x (.slice (some ad) 0 c)] [] (.osl 0 13 0 0) [.a 58 13 0 fun _ => []] := fun ad c => gspecG (mem := []) e_nil k_nil m_nil Tryz.func40 (by kernel_rfl) (by kernel_rfl) noL_ok rfl (by kernel_rfl) (cSh_ev2 ad c)
    refine ⟨(g1 0).1, fun R E cargs hp hW hg hr => ?_⟩
    obtain ⟨u, us, e1, r1, r2⟩ := rels_cons.1 hr
    obtain ⟨a, c, rfl, _, _⟩ := rel_sl.1 r1
    cases a with
    | none =>
      refine ((g1 c).2 R E cargs hp hW hg (rels_cons.2 ⟨_, us, e1, rel_x.2 rfl, r2⟩)).mono ?_
      rintro e w' ⟨v, E', he, hw, hW', hv⟩
      exact ⟨v, E', he, hw, wd_any hW' _, rel_osl.2 (Or.inl ⟨rfl, rfl, rel_x.1 hv⟩)⟩
    | some ad =>
      have g3 := (g2 ad c).of_rows (mem2 := rSh 0 S) ⟨Or.inr ⟨58, 13, 0, _, _, rfl, rfl, fun q hq => absurd hq (Nat.not_lt_zero q)⟩, trivial⟩
      exact g3.2 R E cargs hp hW hg (rels_cons.2 ⟨_, us, e1, rel_x.2 rfl, r2⟩)
  · have hev := cSh_evN n S
    rw [blt_t (by omega), cpB_t (by omega) (by omega), Nat.zero_add] at hev
    refine (gspecG (mem := []) e_nil k_nil m_nil Tryz.func40 (by kernel_rfl) (by kernel_rfl) noL_ok rfl (by kernel_rfl) hev).of_rows ⟨Or.inr ⟨58, 13, n, _, _, rfl, rfl, fun q hq => ?_⟩, trivial⟩
    rfl
end
section
variable (n : Nat) (O : Nat → Sld)
theorem cSo_evN : evG Tryz.prog [] [] [] noL Tryz.f41 [.sl 2 n fun q => (O q).c] [] [some 1] = cond (Nat.blt 0 n || false) (cond (cpB n 32) (gout (.osl 0 2 0 (0 + n)) [.a 65 2 (0 + n) fun q => mixL (Nat.blt q 0) [] ((O (q - 0)).c)]) none) none := by kernel_rfl
theorem cSo_ev1 (c : Nat) : evG Tryz.prog [] [] [] noL Tryz.f41 [.x (.slice none 0 c)] [] [] = gout (.x (.slice none 0 0)) [] := by kernel_rfl
theorem cSo_ev2 (ad : Addr) (c : Nat) : evG Tryz.prog [] [] [] noL Tryz.f41 [.x (.slice (some ad) 0 c)] [] [some 0] = gout (.osl 0 2 0 0) [.a 65 2 0 fun _ => []] := by kernel_rfl
def rSo : List Row := [.a 65 2 n fun q => (O q).c]
theorem cloneSo (hn : n ≤ 1000000) : GSpec Tryz.prog 41 [.sl 2 n fun q => (O q).c] [] (.osl 0 2 0 n) (rSo n O) := by
  by_cases h0 : n = 0
  · subst h0
    have g1 : ∀ c, GSpec Tryz.prog 41 [.x (.slice none 0 c)] [] (.x (.slice none 0 0)) [] := fun c => gspecG (mem := []) e_nil k_nil m_nil Tryz.func41 (by kernel_rfl) (by kernel_rfl) noL_ok rfl (by kernel_rfl) (cSo_ev1 c)
    have g2 : ∀ ad c, GSpec Tryz.prog 41 [.x (.slice (some ad) 0 c)] [] (.osl 0 2 0 0) [.a 65 2 0 fun _ => []] := fun ad c => gspecG (mem := []) e_nil k_nil m_nil Tryz.func41 (by kernel_rfl) (by kernel_rfl) noL_ok rfl (by kernel_rfl) (cSo_ev2 ad c)
    refine ⟨(g1 0).1, fun R E cargs hp hW hg hr => ?_⟩
    obtain ⟨u, us, e1, r1, r2⟩ := rels_cons.1 hr
    obtain ⟨a, c, rfl, _, _⟩ := rel_sl.1 r1
    cases a with
    | none =>
      refine ((g1 c).2 R E cargs hp hW hg (rels_cons.2 ⟨_, us, e1, rel_x.2 rfl, r2⟩)).mono ?_
      rintro e w' ⟨v, E', he, hw, hW', hv⟩
      exact ⟨v, E', he, hw, wd_any hW' _, rel_osl.2 (Or.inl ⟨rfl, rfl, rel_x.1 hv⟩)⟩
    | some ad =>
      have g3 := (g2 ad c).of_rows (mem2 := rSo 0 O) ⟨Or.inr ⟨65, 2, 0, _, _, rfl, rfl, fun q hq => absurd hq (Nat.not_lt_zero q)⟩, trivial⟩
      exact g3.2 R E cargs hp hW hg (rels_cons.2 ⟨_, us, e1, rel_x.2 rfl, r2⟩)
  · have hev := cSo_evN n O
    rw [blt_t (by omega), cpB_t (by omega) (by omega), Nat.zero_add] at hev
    refine (gspecG (mem := []) e_nil k_nil m_nil Tryz.func41 (by kernel_rfl) (by kernel_rfl) noL_ok rfl (by kernel_rfl) hev).of_rows ⟨Or.inr ⟨65, 2, n, _, _, rfl, rfl, fun q hq => ?_⟩, trivial⟩
    rfl
end
section
variable (n : Nat) (F : Nat → Fm.Fd)
theorem cFd_evN : evG Tryz.prog [] [] [] noL Tryz.f42 [.sl 8 n fun q => (F q).c] [] [some 1] = cond (Nat.blt 0 n || false) (cond (cpB n 80) (gout (.osl 0 8 0 (0 + n)) [.a 70 8 (0 + n) fun q => mixL (Nat.blt q 0) [] ((F (q - 0)).c)]) none) none := by kernel_rfl
theorem cFd_ev1 (c : Nat) : evG Tryz.prog [] [] [] noL Tryz.f42 [.x (.slice none 0 c)] [] [] = gout (.x (.slice none 0 0)) [] := by kernel_rfl
theorem cFd_ev2 (ad : Addr) (c : Nat) : evG Tryz.prog [] [] [] noL Tryz.f42 [.x (.slice (some ad) 0 c)] [] [some 0] = gout (.osl 0 8 0 0) [.a 70 8 0 fun _ => []] := by kernel_rfl
def rFd : List Row := [.a 70 8 n fun q => (F q).c]
theorem cloneFd (hn : n ≤ 1000000) : GSpec Tryz.prog 42 [.sl 8 n fun q => (F q).c] [] (.osl 0 8 0 n) (rFd n F) := by
  by_cases h0 : n = 0
  · subst h0
    have g1 : ∀ c, GSpec Tryz.prog 42 [.x (.slice none 0 c)] [] (.x (.slice none 0 0)) [] := fun c => gspecG (mem := []) e_nil k_nil m_nil Tryz.func42 (by kernel_rfl) (by kernel_rfl) noL_ok rfl (by kernel_rfl) (cFd_ev1 c)
    have g2 : ∀ ad c, GSpec Tryz.prog 42 [.x (.slice (some ad) 0 c)] [] (.osl 0 8 0 0) [.a 70 8 0 fun _ => []] := fun ad c => gspecG (mem := []) e_nil k_nil m_nil Tryz.func42 (by kernel_rfl) (by kernel_rfl) noL_ok rfl (by kernel_rfl) (cFd_ev2 ad c)
    refine ⟨(g1 0).1, fun R E cargs hp hW hg hr => ?_⟩
    obtain ⟨u, us, e1, r1, r2⟩ := rels_cons.1 hr
    obtain ⟨a, c, rfl, _, _⟩ := rel_sl.1 r1
    cases a with
    | none =>
      refine ((g1 c).2 R E cargs hp hW hg (rels_cons.2 ⟨_, us, e1, rel_x.2 rfl, r2⟩)).mono ?_
      rintro e w' ⟨v, E', he, hw, hW', hv⟩
      exact ⟨v, E', he, hw, wd_any hW' _, rel_osl.2 (Or.inl ⟨rfl, rfl, rel_x.1 hv⟩)⟩
    | some ad =>
      have g3 := (g2 ad c).of_rows (mem2 := rFd 0 F) ⟨Or.inr ⟨70, 8, 0, _, _, rfl, rfl, fun q hq => absurd hq (Nat.not_lt_zero q)⟩, trivial⟩
      exact g3.2 R E cargs hp hW hg (rels_cons.2 ⟨_, us, e1, rel_x.2 rfl, r2⟩)
  · have hev := cFd_evN n F
    rw [blt_t (by omega), cpB_t (by omega) (by omega), Nat.zero_add] at hev
    refine (gspecG (mem := []) e_nil k_nil m_nil Tryz.func42 (by kernel_rfl) (by kernel_rfl) noL_ok rfl (by kernel_rfl) hev).of_rows ⟨Or.inr ⟨70, 8, n, _, _, rfl, rfl, fun q hq => ?_⟩, trivial⟩
    rfl
end
section
variable (n : Nat) (K : Nat → Nat → Int)
theorem cSk_evN : evG Tryz.prog [] [] [] noL Tryz.f43 [.sl 10 n fun q => skC (K q)] [] [some 1] = cond (Nat.blt 0 n || false) (cond (cpB n 80) (gout (.osl 0 10 0 (0 + n)) [.a 72 10 (0 + n) fun q => mixL (Nat.blt q 0) [] (skC (K (q - 0)))]) none) none := by kernel_rfl
theorem cSk_ev1 (c : Nat) : evG Tryz.prog [] [] [] noL Tryz.f43 [.x (.slice none 0 c)] [] [] = gout (.x (.slice none 0 0)) [] := by kernel_rfl
theorem cSk_ev2 (ad : Addr) (c : Nat) : evG Tryz.prog [] [] [] noL Tryz.f43 [.x (.slice (some ad) 0 c)] [] [some 0] = gout (.osl 0 10 0 0) [.a 72 10 0 fun _ => []] := by kernel_rfl
def rSk : List Row := [.a 72 10 n fun q => skC (K q)]
theorem cloneSk (hn : n ≤ 1000000) : GSpec Tryz.prog 43 [.sl 10 n fun q => skC (K q)] [] (.osl 0 10 0 n) (rSk n K) := by
  by_cases h0 : n = 0
  · subst h0
    have g1 : ∀ c, GSpec Tryz.prog 43 [.x (.slice none 0 c)] [] (.x (.slice none 0 0)) [] := fun c => gspecG (mem := []) e_nil k_nil m_nil Tryz.func43 (by kernel_rfl) (by kernel_rfl) noL_ok rfl (by kernel_rfl) (cSk_ev1 c)
    have g2 : ∀ ad c, GSpec Tryz.prog 43 [.x (.slice (some ad) 0 c)] [] (.osl 0 10 0 0) [.a 72 10 0 fun _ => []] := fun ad c => gspecG (mem := []) e_nil k_nil m_nil Tryz.func43 (by kernel_rfl) (by kernel_rfl) noL_ok rfl (by kernel_rfl) (cSk_ev2 ad c)
    refine ⟨(g1 0).1, fun R E cargs hp hW hg hr => ?_⟩
    obtain ⟨u, us, e1, r1, r2⟩ := rels_cons.1 hr
    obtain ⟨a, c, rfl, _, _⟩ := rel_sl.1 r1
    cases a with
    | none =>
      refine ((g1 c).2 R E cargs hp hW hg (rels_cons.2 ⟨_, us, e1, rel_x.2 rfl, r2⟩)).mono ?_
      rintro e w' ⟨v, E', he, hw, hW', hv⟩
      exact ⟨v, E', he, hw, wd_any hW' _, rel_osl.2 (Or.inl ⟨rfl, rfl, rel_x.1 hv⟩)⟩
    | some ad =>
      have g3 := (g2 ad c).of_rows (mem2 := rSk 0 K) ⟨Or.inr ⟨72, 10, 0, _, _, rfl, rfl, fun q hq => absurd hq (Nat.not_lt_zero q)⟩, trivial⟩
      exact g3.2 R E cargs hp hW hg (rels_cons.2 ⟨_, us, e1, rel_x.2 rfl, r2⟩)
  · have hev := cSk_evN n K
    rw [blt_t (by omega), cpB_t (by omega) (by omega), Nat.zero_add] at hev
    refine (gspecG (mem := []) e_nil k_nil m_nil Tryz.func43 (by kernel_rfl) (by kernel_rfl) noL_ok rfl (by kernel_rfl) hev).of_rows ⟨Or.inr ⟨72, 10, n, _, _, rfl, rfl, fun q hq => ?_⟩, trivial⟩
    rfl
theorem plainSk : PlainRows (rSk n K) := by
  intro k e sz c el hk i hi
  match k, hk with
  | 0, hk => cases hk; rfl
  | k + 1, hk => simp [rSk] at hk
theorem copySk (hn : n ≤ 1000000) : FSpec Tryz.prog 43 [.sl 10 n fun q => skC (K q)] (.sl 10 n fun q => skC (K q)) := by
  have hF := fresh_rows (cloneSk n K hn) (by show (Nat.beq 10 10 && Nat.ble (0 + n) n) = true; rw [Nat.zero_add, Nat.ble_eq_true_of_le (Nat.le_refl n)]; rfl) (plainSk n K)
  have hF2 : FreshSpec Tryz.prog 43 [.sl 10 n fun q => skC (K q)] (.sl 10 n fun q => skC (K q)) := by
    refine hF.of_res fun E v hv => ?_
    have hv' : rel E (.sl 10 n fun q => skC (K (0 + q))) v := hv
    exact sl_like hv' fun i hi => by rw [Nat.zero_add]
  exact hF2.spec rfl rfl
end
section
variable (n : Nat) (A : Nat → Nat → Nat) (L : Nat → Nat → Int)
theorem cLm_evN : evG Tryz.prog [] [] [] noL Tryz.f44 [.sl 6 n fun q => lmC (A q) (L q)] [] [some 1] = cond (Nat.blt 0 n || false) (cond (cpB n 48) (gout (.osl 0 6 0 (0 + n)) [.a 74 6 (0 + n) fun q => mixL (Nat.blt q 0) [] (lmC (A (q - 0)) (L (q - 0)))]) none) none := by kernel_rfl
theorem cLm_ev1 (c : Nat) : evG Tryz.prog [] [] [] noL Tryz.f44 [.x (.slice none 0 c)] [] [] = gout (.x (.slice none 0 0)) [] := by kernel_rfl
theorem cLm_ev2 (ad : Addr) (c : Nat) : evG Tryz.prog [] [] [] noL Tryz.f44 [.x (.slice (some ad) 0 c)] [] [some 0] = gout (.osl 0 6 0 0) [.a 74 6 0 fun _ => []] := by kernel_rfl
def rLm : List Row := [.a 74 6 n fun q => lmC (A q) (L q)]
theorem cloneLm (hn : n ≤ 1000000) : GSpec Tryz.prog 44 [.sl 6 n fun q => lmC (A q) (L q)] [] (.osl 0 6 0 n) (rLm n A L) := by
  by_cases h0 : n = 0
  · subst h0
    have g1 : ∀ c, GSpec Tryz.prog 44 [.x (.slice none 0 c)] [] (.x (.slice none 0 0)) [] := fun c => gspecG (mem := []) e_nil k_nil m_nil Tryz.func44 (by kernel_rfl) (by kernel_rfl) noL_ok rfl (by kernel_rfl) (cLm_ev1 c)
    have g2 : ∀ ad c, GSpec Tryz.prog 44 [.x (.slice (some ad) 0 c)] [] (.osl 0 6 0 0) [.a 74 6 0 fun _ => []] := fun ad c => gspecG (mem := []) e_nil k_nil m_nil Tryz.func44 (by kernel_rfl) (by kernel_rfl) noL_ok rfl (by kernel_rfl) (cLm_ev2 ad c)
    refine ⟨(g1 0).1, fun R E cargs hp hW hg hr => ?_⟩
    obtain ⟨u, us, e1, r1, r2⟩ := rels_cons.1 hr
    obtain ⟨a, c, rfl, _, _⟩ := rel_sl.1 r1
    cases a with
    | none =>
      refine ((g1 c).2 R E cargs hp hW hg (rels_cons.2 ⟨_, us, e1, rel_x.2 rfl, r2⟩)).mono ?_
      rintro e w' ⟨v, E', he, hw, hW', hv⟩
      exact ⟨v, E', he, hw, wd_any hW' _, rel_osl.2 (Or.inl ⟨rfl, rfl, rel_x.1 hv⟩)⟩
    | some ad =>
      have g3 := (g2 ad c).of_rows (mem2 := rLm 0 A L) ⟨Or.inr ⟨74, 6, 0, _, _, rfl, rfl, fun q hq => absurd hq (Nat.not_lt_zero q)⟩, trivial⟩
      exact g3.2 R E cargs hp hW hg (rels_cons.2 ⟨_, us, e1, rel_x.2 rfl, r2⟩)
  · have hev := cLm_evN n A L
    rw [blt_t (by omega), cpB_t (by omega) (by omega), Nat.zero_add] at hev
    refine (gspecG (mem := []) e_nil k_nil m_nil Tryz.func44 (by kernel_rfl) (by kernel_rfl) noL_ok rfl (by kernel_rfl) hev).of_rows ⟨Or.inr ⟨74, 6, n, _, _, rfl, rfl, fun q hq => ?_⟩, trivial⟩
    rfl
theorem plainLm : PlainRows (rLm n A L) := by
  intro k e sz c el hk i hi
  match k, hk with
  | 0, hk => cases hk; rfl
  | k + 1, hk => simp [rLm] at hk
theorem copyLm (hn : n ≤ 1000000) : FSpec Tryz.prog 44 [.sl 6 n fun q => lmC (A q) (L q)] (.sl 6 n fun q => lmC (A q) (L q)) := by
  have hF := fresh_rows (cloneLm n A L hn) (by show (Nat.beq 6 6 && Nat.ble (0 + n) n) = true; rw [Nat.zero_add, Nat.ble_eq_true_of_le (Nat.le_refl n)]; rfl) (plainLm n A L)
  have hF2 : FreshSpec Tryz.prog 44 [.sl 6 n fun q => lmC (A q) (L q)] (.sl 6 n fun q => lmC (A q) (L q)) := by
    refine hF.of_res fun E v hv => ?_
    have hv' : rel E (.sl 6 n fun q => lmC (A (0 + q)) (L (0 + q))) v := hv
    exact sl_like hv' fun i hi => by rw [Nat.zero_add]
  exact hF2.spec rfl rfl
end
section
variable (n : Nat) (P : Nat → Prt)
theorem cPt_evN : evG Tryz.prog [] [] [] noL Tryz.f45 [.sl 16 n fun q => (P q).c] [] [some 1] = cond (Nat.blt 0 n || false) (cond (cpB n 128) (gout (.osl 0 16 0 (0 + n)) [.a 67 16 (0 + n) fun q => mixL (Nat.blt q 0) [] ((P (q - 0)).c)]) none) none := by kernel_rfl
theorem cPt_ev1 (c : Nat) : evG Tryz.prog [] [] [] noL Tryz.f45 [.x (.slice none 0 c)] [] [] = gout (.x (.slice none 0 0)) [] := by kernel_rfl
theorem cPt_ev2 (ad : Addr) (c : Nat) : evG Tryz.prog [] [] [] noL Tryz.f45 [.x (.slice (some ad) 0 c)] [] [some 0] = gout (.osl 0 16 0 0) [.a 67 16 0 fun _ => []] := by kernel_rfl
def rPt : List Row := [.a 67 16 n fun q => (P q).c]
theorem clonePt (hn : n ≤ 1000000) : GSpec Tryz.prog 45 [.sl 16 n fun q => (P q).c] [] (.osl 0 16 0 n) (rPt n P) := by
  by_cases h0 : n = 0
  · subst h0
    have g1 : ∀ c, GSpec Tryz.prog 45 [.x (.slice none 0 c)] [] (.x (.slice none 0 0)) [] := fun c => gspecG (mem := []) e_nil k_nil m_nil Tryz.func45 (by kernel_rfl) (by kernel_rfl) noL_ok rfl (by kernel_rfl) (cPt_ev1 c)
    have g2 : ∀ ad c, GSpec Tryz.prog 45 [.x (.slice (some ad) 0 c)] [] (.osl 0 16 0 0) [.a 67 16 0 fun _ => []] := fun ad c => gspecG (mem := []) e_nil k_nil m_nil Tryz.func45 (by kernel_rfl) (by kernel_rfl) noL_ok rfl (by kernel_rfl) (cPt_ev2 ad c)
    refine ⟨(g1 0).1, fun R E cargs hp hW hg hr => ?_⟩
    obtain ⟨u, us, e1, r1, r2⟩ := rels_cons.1 hr
    obtain ⟨a, c, rfl, _, _⟩ := rel_sl.1 r1
    cases a with
    | none =>
      refine ((g1 c).2 R E cargs hp hW hg (rels_cons.2 ⟨_, us, e1, rel_x.2 rfl, r2⟩)).mono ?_
      rintro e w' ⟨v, E', he, hw, hW', hv⟩
      exact ⟨v, E', he, hw, wd_any hW' _, rel_osl.2 (Or.inl ⟨rfl, rfl, rel_x.1 hv⟩)⟩
    | some ad =>
      have g3 := (g2 ad c).of_rows (mem2 := rPt 0 P) ⟨Or.inr ⟨67, 16, 0, _, _, rfl, rfl, fun q hq => absurd hq (Nat.not_lt_zero q)⟩, trivial⟩
      exact g3.2 R E cargs hp hW hg (rels_cons.2 ⟨_, us, e1, rel_x.2 rfl, r2⟩)
  · have hev := cPt_evN n P
    rw [blt_t (by omega), cpB_t (by omega) (by omega), Nat.zero_add] at hev
    refine (gspecG (mem := []) e_nil k_nil m_nil Tryz.func45 (by kernel_rfl) (by kernel_rfl) noL_ok rfl (by kernel_rfl) hev).of_rows ⟨Or.inr ⟨67, 16, n, _, _, rfl, rfl, fun q hq => ?_⟩, trivial⟩
    rfl
theorem plainPt : PlainRows (rPt n P) := by
  intro k e sz c el hk i hi
  match k, hk with
  | 0, hk => cases hk; rfl
  | k + 1, hk => simp [rPt] at hk
theorem copyPt (hn : n ≤ 1000000) : FSpec Tryz.prog 45 [.sl 16 n fun q => (P q).c] (.sl 16 n fun q => (P q).c) := by
  have hF := fresh_rows (clonePt n P hn) (by show (Nat.beq 16 16 && Nat.ble (0 + n) n) = true; rw [Nat.zero_add, Nat.ble_eq_true_of_le (Nat.le_refl n)]; rfl) (plainPt n P)
  have hF2 : FreshSpec Tryz.prog 45 [.sl 16 n fun q => (P q).c] (.sl 16 n fun q => (P q).c) := by
    refine hF.of_res fun E v hv => ?_
    have hv' : rel E (.sl 16 n fun q => (P (0 + q)).c) v := hv
    exact sl_like hv' fun i hi => by rw [Nat.zero_add]
  exact hF2.spec rfl rfl
end
section
variable (n : Nat) (g : Nat → Int)
theorem cIn_evN : evG Tryz.prog [] [] [] noL Tryz.f46 [.sl 1 n fun q => [iA (g q)]] [] [some 1] = cond (Nat.blt 0 n || false) (cond (cpB n 8) (gout (.osl 0 1 0 (0 + n)) [.a 3 1 (0 + n) fun q => mixL (Nat.blt q 0) [] ([iA (g (q - 0))])]) none) none := by kernel_rfl
theorem cIn_ev1 (c : Nat) : evG Tryz.prog [] [] [] noL Tryz.f46 [.x (.slice none 0 c)] [] [] = gout (.x (.slice none 0 0)) [] := by kernel_rfl
theorem cIn_ev2 (ad : Addr) (c : Nat) : evG Tryz.prog [] [] [] noL Tryz.f46 [.x (.slice (some ad) 0 c)] [] [some 0] = gout (.osl 0 1 0 0) [.a 3 1 0 fun _ => []] := by kernel_rfl
def rIn : List Row := [.a 3 1 n fun q => [iA (g q)]]
theorem cloneIn (hn : n ≤ 1000000) : GSpec Tryz.prog 46 [.sl 1 n fun q => [iA (g q)]] [] (.osl 0 1 0 n) (rIn n g) := by
  by_cases h0 : n = 0
  · subst h0
    have g1 : ∀ c, GSpec Tryz.prog 46 [.x (.slice none 0 c)] [] (.x (.slice none 0 0)) [] := fun c => gspecG (mem := []) e_nil k_nil m_nil Tryz.func46 (by kernel_rfl) (by kernel_rfl) noL_ok rfl (by kernel_rfl) (cIn_ev1 c)
    have g2 : ∀ ad c, GSpec Tryz.prog 46 [.x (.slice (some ad) 0 c)] [] (.osl 0 1 0 0) [.a 3 1 0 fun _ => []] := fun ad c => gspecG (mem := []) e_nil k_nil m_nil Tryz.func46 (by kernel_rfl) (by kernel_rfl) noL_ok rfl (by kernel_rfl) (cIn_ev2 ad c)
    refine ⟨(g1 0).1, fun R E cargs hp hW hg hr => ?_⟩
    obtain ⟨u, us, e1, r1, r2⟩ := rels_cons.1 hr
    obtain ⟨a, c, rfl, _, _⟩ := rel_sl.1 r1
    cases a with
    | none =>
      refine ((g1 c).2 R E cargs hp hW hg (rels_cons.2 ⟨_, us, e1, rel_x.2 rfl, r2⟩)).mono ?_
      rintro e w' ⟨v, E', he, hw, hW', hv⟩
      exact ⟨v, E', he, hw, wd_any hW' _, rel_osl.2 (Or.inl ⟨rfl, rfl, rel_x.1 hv⟩)⟩
    | some ad =>
      have g3 := (g2 ad c).of_rows (mem2 := rIn 0 g) ⟨Or.inr ⟨3, 1, 0, _, _, rfl, rfl, fun q hq => absurd hq (Nat.not_lt_zero q)⟩, trivial⟩
      exact g3.2 R E cargs hp hW hg (rels_cons.2 ⟨_, us, e1, rel_x.2 rfl, r2⟩)
  · have hev := cIn_evN n g
    rw [blt_t (by omega), cpB_t (by omega) (by omega), Nat.zero_add] at hev
    refine (gspecG (mem := []) e_nil k_nil m_nil Tryz.func46 (by kernel_rfl) (by kernel_rfl) noL_ok rfl (by kernel_rfl) hev).of_rows ⟨Or.inr ⟨3, 1, n, _, _, rfl, rfl, fun q hq => ?_⟩, trivial⟩
    rfl
theorem plainIn : PlainRows (rIn n g) := by
  intro k e sz c el hk i hi
  match k, hk with
  | 0, hk => cases hk; rfl
  | k + 1, hk => simp [rIn] at hk
theorem copyIn (hn : n ≤ 1000000) : FSpec Tryz.prog 46 [.sl 1 n fun q => [iA (g q)]] (.sl 1 n fun q => [iA (g q)]) := by
  have hF := fresh_rows (cloneIn n g hn) (by show (Nat.beq 1 1 && Nat.ble (0 + n) n) = true; rw [Nat.zero_add, Nat.ble_eq_true_of_le (Nat.le_refl n)]; rfl) (plainIn n g)
  have hF2 : FreshSpec Tryz.prog 46 [.sl 1 n fun q => [iA (g q)]] (.sl 1 n fun q => [iA (g q)]) := by
    refine hF.of_res fun E v hv => ?_
    have hv' : rel E (.sl 1 n fun q => [iA (g (0 + q))]) v := hv
    exact sl_like hv' fun i hi => by rw [Nat.zero_add]
  exact hF2.spec rfl rfl
end
end Go.Proofs.YtngjiggplabfkaaGreat.Hs.Sc

namespace Go.Proofs.YtngjiggplabfkaaGreat.Hs.Sc
open Go.Gv So Fm

theorem like_eq {l l' : List AV} (h : l = l') : l'.length = l.length ∧ ∀ (E : Env) (cs : List Value), pre E l cs → pre E l' cs := by subst h; exact ⟨rfl, fun _ _ h => h⟩
def gId : List AV → AV
  | [x] => x
  | _ => .any
section
variable (s : Scn)
def zS : List AV := [.x (.slice none 0 0), .x (.slice none 0 0), .x (.slice none 0 0), .x (.slice none 0 0), .x (.slice none 0 0), iA 0, iA 0, iA 0, .f 0, .f 0, .f 0, .f 0, .f 0, .f 0, .f 0, .f 0, .f 0, .f 0]
/-- A scene's cells, with these things. -/
def Scn.w (a b c : AV) : List AV := [a, b, c, s.vK, s.vL, iA (s.sky 0), iA (s.sky 1), iA (s.sky 2), .f (s.eye 0), .f (s.eye 1), .f (s.eye 2), .f (s.eye 3), .f (s.eye 4), .f (s.eye 5), .f (s.eye 6), .f (s.eye 7), .f (s.eye 8), .f (s.eye 9)]
def rwS : Row := .a 58 13 s.nS fun q => (s.S q).c
def rwO (el : Nat → List AV) : Row := .a 65 2 s.nO el
def rwF (el : Nat → List AV) : Row := .a 70 8 s.nF el
def cp1E (i : Int) (el : Nat → List AV) : St := mkS 64 [(1, .own 0 0), (2, .own 1 0), (3, .own 2 0), (30, s.vO), (31, iA s.nO), (32, iA i)] [.c s.c, .c zS, .c (s.w (.osl 3 13 0 s.nS) (.osl 4 2 0 s.nO) (.osl 5 8 0 s.nF)), rwS s, rwO s el, rwF s fun q => (s.F q).c]
def cp1S (i : Int) : St := cp1E s i fun q => (s.O q).c
def keepP : List Nat := [1, 2, 3, 30, 31, 32]
def cp2E (i : Int) (el : Nat → List AV) : St := mkS 64 [(1, .own 0 0), (2, .own 1 0), (3, .own 2 0), (47, s.vF), (48, iA s.nF), (49, iA i)] [.c s.c, .c zS, .c (s.w (.osl 3 13 0 s.nS) (.osl 4 2 0 s.nO) (.osl 5 8 0 s.nF)), rwS s, rwO s fun q => (s.O q).c, rwF s el]
def cp2S (i : Int) : St := cp2E s i fun q => (s.F q).c
def keepQ : List Nat := [1, 2, 3, 47, 48, 49]
def tau6 : List (Option Nat) := [some 0, some 1, some 2, some 3, some 4, some 5]
variable (i : Int)
def cwB (n : Nat) : Bool := (ixB i n || false) && ((Nat.blt (0 + i.toNat) n || false) && true)
noncomputable def cpC (o oe : Option Out) : Option Out := cond (decide (i < s.nO)) (cond (ixB i s.nO || false) (gate (FSpec Tryz.prog 45 [prS (s.O i.toNat).n (s.O i.toNat).P] (prS (s.O i.toNat).n (s.O i.toNat).P)) (cond (cwB i s.nO) o none)) none) oe
theorem cp1_step : evC Tryz.prog [] [kS Tryz.prog 45 gId] noL (loopAt Tryz.f19 0) (cp1S s i) (finN keepP tau6) = cpC s i (some ⟨.normal, cp1E s (w64 (i + 1)) (fun q => mixL (q == 0 + i.toNat) [prS (s.O i.toNat).n (s.O i.toNat).P, iA (s.O (0 + i.toNat)).sk] (s.O q).c), .any⟩) none := by kernel_rfl
theorem cp1_end : evC Tryz.prog [] [kS Tryz.prog 45 gId] noL (loopAt Tryz.f19 0) (cp1S s i) (finE keepP tau6) = cpC s i none (some ⟨.exit 0, cp1S s i, .any⟩) := by kernel_rfl
abbrev hiV (F : Fm.Fd) : AV := .sl 1 F.n fun q => [iA (F.hs q)]
noncomputable def cqC (o oe : Option Out) : Option Out := cond (decide (i < s.nF)) (cond (ixB i s.nF || false) (gate (FSpec Tryz.prog 46 [hiV (s.F i.toNat)] (hiV (s.F i.toNat))) (cond (cwB i s.nF) o none)) none) oe
def fdW (F G : Fm.Fd) : List AV := [iA G.W, iA G.H, .f (G.at_ 0), .f (G.at_ 1), .f (G.at_ 2), .f G.sd, hiV F, iA G.sk]
theorem cp2_step : evC Tryz.prog [] [kS Tryz.prog 46 gId] noL (loopAt Tryz.f19 1) (cp2S s i) (finN keepQ tau6) = cqC s i (some ⟨.normal, cp2E s (w64 (i + 1)) (fun q => mixL (q == 0 + i.toNat) (fdW (s.F i.toNat) (s.F (0 + i.toNat))) (s.F q).c), .any⟩) none := by kernel_rfl
theorem cp2_end : evC Tryz.prog [] [kS Tryz.prog 46 gId] noL (loopAt Tryz.f19 1) (cp2S s i) (finE keepQ tau6) = cqC s i none (some ⟨.exit 2, cp2S s i, .any⟩) := by kernel_rfl
end
theorem cwB_t {k n : Nat} (h : k < n) : cwB (k : Nat) n = true := by
  unfold cwB
  rw [ixB_t h, Int.toNat_natCast, Nat.zero_add, blt_t h]; rfl
theorem mix_O (a b : Sld) (e : Bool) (h : e = true → b = a) : mixL e a.c b.c = b.c := by
  cases e
  · rfl
  · rw [h rfl]; rfl
theorem mix_F (a b : Fm.Fd) (e : Bool) (h : e = true → b = a) : mixL e a.c b.c = b.c := by
  cases e
  · rfl
  · rw [h rfl]; rfl
theorem cp1_leads {s : Scn} (h : s.nO ≤ 1000) (hp : ∀ q, q < s.nO → (s.O q).n ≤ 1000) : Leads Tryz.prog (.loop (loopAt Tryz.f19 0)) (cp1S s 0) (.exit 0) (cp1S s s.nO) := by
  refine loop_rule (fun k => cp1S s (k : Nat)) s.nO (.exit 0) _ (by simp) (fun k hk => ?_) ?_
  · have hl : Leads Tryz.prog (loopAt Tryz.f19 0) (cp1S s (k : Nat)) .normal (cp1E s ((k + 1 : Nat) : Int) fun q => mixL (q == k) (s.O k).c (s.O q).c) := by
      refine leads_ev (finN_sub _ _) e_nil k1_ok noL_ok ((cp1_step s (k : Nat)).trans ?_)
      unfold cpC
      rw [dec_lt hk, ixB_t hk, cwB_t hk, Int.toNat_natCast, Nat.zero_add, gate_pos (show FSpec Tryz.prog 45 [prS (s.O k).n (s.O k).P] (prS (s.O k).n (s.O k).P) from copyPt _ _ (Nat.le_trans (hp k hk) (by decide))), w64_next (by omega)]; rfl
    refine hl.sub (Sub.refl _) (sub_like ⟨Or.inl rfl, Or.inl rfl, Or.inl rfl, Or.inl rfl, Or.inr (Or.inl ⟨65, 2, s.nO, _, _, rfl, rfl, fun q hq => like_eq ?_⟩), Or.inl rfl, trivial⟩)
    exact mix_O _ _ _ fun e => by rw [eq_of_beq e]
  · refine leads_ev (finE_sub _ _) e_nil k1_ok noL_ok ((cp1_end s (s.nO : Nat)).trans ?_)
    unfold cpC
    rw [dec_self, cond_false]
theorem cp2_leads {s : Scn} (h : s.nF ≤ 1000) (hp : ∀ q, q < s.nF → (s.F q).n ≤ 1000) : Leads Tryz.prog (.loop (loopAt Tryz.f19 1)) (cp2S s 0) (.exit 2) (cp2S s s.nF) := by
  refine loop_rule (fun k => cp2S s (k : Nat)) s.nF (.exit 2) _ (by simp) (fun k hk => ?_) ?_
  · have hl : Leads Tryz.prog (loopAt Tryz.f19 1) (cp2S s (k : Nat)) .normal (cp2E s ((k + 1 : Nat) : Int) fun q => mixL (q == k) (s.F k).c (s.F q).c) := by
      refine leads_ev (finN_sub _ _) e_nil k1_ok noL_ok ((cp2_step s (k : Nat)).trans ?_)
      unfold cqC
      rw [dec_lt hk, ixB_t hk, cwB_t hk, Int.toNat_natCast, Nat.zero_add, gate_pos (copyIn _ _ (Nat.le_trans (hp k hk) (by decide))), w64_next (by omega)]; rfl
    refine hl.sub (Sub.refl _) (sub_like ⟨Or.inl rfl, Or.inl rfl, Or.inl rfl, Or.inl rfl, Or.inl rfl, Or.inr (Or.inl ⟨70, 8, s.nF, _, _, rfl, rfl, fun q hq => like_eq ?_⟩), trivial⟩)
    exact mix_F _ _ _ fun e => by rw [eq_of_beq e]
  · refine leads_ev (finE_sub _ _) e_nil k1_ok noL_ok ((cp2_end s (s.nF : Nat)).trans ?_)
    unfold cqC
    rw [dec_self, cond_false]
end Go.Proofs.YtngjiggplabfkaaGreat.Hs.Sc

namespace Go.Gv
/-- One thing told otherwise, then another. -/
def zThen (h g : ZFun) : ZFun := fun s k => h s fun s1 => g s1 k
theorem zThen_ok {np : Nat} {h g : ZFun} (hh : ZSoundN np h) (hg : ZSoundN np g) : ZSoundN np (zThen h g) := fun s k r e => by
  obtain ⟨s1, e1, p1⟩ := hh s _ r e
  obtain ⟨s2, e2, p2⟩ := hg s1 k r e1
  exact ⟨s2, e2, p1.trans p2⟩
noncomputable def evGZ (P : Program) (l : List Entry) (ks : List KEntry) (ms : List MEntry) (L : Nat → Option LFun) (Z : Nat → Option ZFun) (fn : Func) (args : List AV) (mem : List Row) (τ : List (Option Nat)) : Option Out := abodyGZ P (tabM l ks ms) (drawnK P (tabM l ks ms)) L Z 40 fn args mem τ
end Go.Gv
namespace Go.Proofs.YtngjiggplabfkaaGreat.Hs.Sc
open Go.Gv So Fm

theorem gspecGZ {l : List Entry} {ks : List KEntry} {ms : List MEntry} {L : Nat → Option LFun} {Z : Nat → Option ZFun} (hZ : ∀ i h, Z i = some h → ZSoundN 0 h) (hl : ∀ e, e ∈ l → EOk Tryz.prog e) (hks : ∀ e, e ∈ ks → KOk Tryz.prog e) (hms : ∀ e, e ∈ ms → MEOk Tryz.prog e) {f : Nat} {fn : Func} (hf : Tryz.prog.funcs[f]? = some fn) (hnm : (fn.name == "runtime.NumGoroutine") = false) (hb : fn.body = some (bodyOf fn)) (hL : LOk Tryz.prog L (bodyOf fn))
    {args : List AV} (hlen : Nat.ble args.length fn.ntmps = true) {τ : List (Option Nat)} (hpin : pinT 0 τ = true) {v : AV} {mem1 : List Row} (h : evGZ Tryz.prog l ks ms L Z fn args [] τ = gout v mem1) : GSpec Tryz.prog f args [] v mem1 :=
  gspec_of_bodyZ (mem := []) (tabM_ok hl hks hms) (drawnK_ok (tabM_ok hl hks hms) (by kernel_rfl)) 40 hf hnm hb hZ hL hlen hpin h
section
variable (s : Scn)
noncomputable def cpL : Nat → Option LFun := manyL [(8, toldF keepP tau6 (cp1S s 0) (.exit 0) (cp1S s s.nO)), (13, toldF keepQ tau6 (cp2S s 0) (.exit 2) (cp2S s s.nF))]
def cpZ : Nat → Option ZFun := fun j => cond (Nat.beq j 17) (some (zThen (frzK 4) (frzK 5))) none
noncomputable def cpK : List KEntry := [kS Tryz.prog 43 gId, kS Tryz.prog 44 gId]
noncomputable def cpM : List MEntry := [mR Tryz.prog 40 (fun _ => .osl 0 13 0 s.nS) (fun _ => rSh s.nS s.S), mR Tryz.prog 41 (fun _ => .osl 0 2 0 s.nO) (fun _ => rSo s.nO s.O), mR Tryz.prog 42 (fun _ => .osl 0 8 0 s.nF) (fun _ => rFd s.nF s.F)]
def fzB (n : Nat) : Bool := (Nat.beq n n && true) && true
theorem cp_ev : evGZ Tryz.prog [] cpK (cpM s) (cpL s) cpZ Tryz.f19 [.agg s.c] [] [some 3] = cond (propB (GSpec Tryz.prog 40 [s.vS] [] (.osl 0 13 0 s.nS) (rSh s.nS s.S))) (cond (propB (GSpec Tryz.prog 41 [s.vO] [] (.osl 0 2 0 s.nO) (rSo s.nO s.O))) (cond (propB (GSpec Tryz.prog 42 [s.vF] [] (.osl 0 8 0 s.nF) (rFd s.nF s.F))) (gate (FSpec Tryz.prog 43 [s.vK] s.vK) (gate (FSpec Tryz.prog 44 [s.vL] s.vL) (gate (Sub (cp1S s 0) (cp1S s 0)) (gate (Sub (cp2S s 0) (cp2S s 0)) (cond (fzB s.nO) (cond (fzB s.nF) (gout (.agg (s.w (.osl 0 13 0 s.nS) s.vO s.vF)) (rSh s.nS s.S)) none) none))))) none) none) none := by kernel_rfl
end
theorem cpZ_ok : ∀ i h, cpZ i = some h → ZSoundN 0 h := fun i h e => by
  unfold cpZ at e
  cases h1 : Nat.beq i 17
  · rw [h1] at e; cases e
  · rw [h1, cond_true] at e; cases e; exact zThen_ok (frzK_ok 4) (frzK_ok 5)
theorem fzB_t (n : Nat) : fzB n = true := by unfold fzB; rw [Nat.beq_refl]; rfl
/-- reel.copied: the same scene, its row of shapes ours. -/
theorem copied_spec {s : Scn} (h1 : s.nS ≤ 1000) (h2 : s.nO ≤ 1000) (h3 : s.nF ≤ 1000) (h4 : s.nK ≤ 1000) (h5 : s.nL ≤ 1000) (hO : ∀ q, q < s.nO → (s.O q).n ≤ 1000) (hF : ∀ q, q < s.nF → (s.F q).n ≤ 1000) : GSpec Tryz.prog 19 [.agg s.c] [] (.agg (s.w (.osl 0 13 0 s.nS) s.vO s.vF)) (rSh s.nS s.S) := by
  refine gspecGZ cpZ_ok e_nil (k_cons kS_ok (k_cons kS_ok k_nil)) (m_cons mR_ok (m_cons mR_ok (m_cons mR_ok m_nil))) Tryz.func19 (by kernel_rfl) (by kernel_rfl) (lok_cons (lok_at 0 2 (by kernel_rfl) (by kernel_rfl) (toldF_sound (cp1_leads h2 hO))) (lok_cons (lok_at 1 2 (by kernel_rfl) (by kernel_rfl) (toldF_sound (cp2_leads h3 hF))) lok_nil)) rfl (by kernel_rfl) ((cp_ev s).trans ?_)
  rw [propB_t (cloneSh s.nS s.S (by omega)), propB_t (cloneSo s.nO s.O (by omega)), propB_t (cloneFd s.nF s.F (by omega)), gate_pos (copySk s.nK s.K (by omega)), gate_pos (copyLm s.nL s.LA s.LL (by omega)), gate_pos (Sub.refl _), gate_pos (Sub.refl _), fzB_t, fzB_t]
  rfl
end Go.Proofs.YtngjiggplabfkaaGreat.Hs.Sc

namespace Go.Proofs.YtngjiggplabfkaaGreat.Hs.Sc
open Go.Gv So Fm

section
variable (n : Nat) (T : Nat → Int) (X : Nat → Nat → Int) (i : Int)
def kyS : St := mkS 73 [(0, kSl n T X), (3, iA i)] []
def kyE (e : Int) : St := mkS 73 [(2, iA e)] []
def gF (b : Bool) : Bool := !(decide (b = false) && true)
def gTF (a b : Bool) : Bool := !(decide (a = true) && (decide (b = false) && true))
def kB0 : Bool := decide (T i.toNat < 0)
def kB1 : Bool := cond (kB0 T i) true (decide (T i.toNat > 1000000))
def kB2 : Bool := cond (kB1 T i) true (cond (decide (i > 0)) (decide (T i.toNat ≤ T (w64 (i - 1)).toNat)) false)
def kyG : Bool := (ixB i n || false) && ((ixB i n || gF (kB0 T i)) && ((ixB i n || gTF (decide (i > 0)) (kB1 T i)) && ((ixB (w64 (i - 1)) n || gTF (decide (i > 0)) (kB1 T i)) && true)))
def nbB (x : Int) : Bool := cond (decide (x < -1000000)) true (decide (x > 1000000))
def kyX (c : Nat) (o' o : Option Out) : Option Out := cond (ixB i n || false) (cond (ixB i n || gF (decide (X i.toNat c < -1000000))) (cond (nbB (X i.toNat c)) o' o) none) none
def kyC (r : Int → Option Out) (o oe : Option Out) : Option Out := cond (decide (i < n)) (cond (kyG n T i) (cond (kB2 T i) (r 6) (kyX n X i 0 (r 1) (kyX n X i 1 (r 1) (kyX n X i 2 (r 1) o)))) none) oe
theorem ky_step : evC Tryz.prog [] [] noL (loopAt Tryz.f9 0) (kyS n T X i) (finN [0, 3] []) = kyC n T X i (fun _ => none) (some ⟨.normal, kyS n T X (w64 (i + 1)), .any⟩) none := by kernel_rfl
theorem ky_ret : evC Tryz.prog [] [] noL (loopAt Tryz.f9 0) (kyS n T X i) (finR [2] []) = kyC n T X i (fun e => some ⟨.ret, kyE e, .any⟩) none none := by kernel_rfl
theorem ky_end : evC Tryz.prog [] [] noL (loopAt Tryz.f9 0) (kyS n T X i) (finE [0, 3] []) = kyC n T X i (fun _ => none) none (some ⟨.exit 0, kyS n T X i, .any⟩) := by kernel_rfl
def kyX' (R : Option Out) : Option Out := cond (cond (decide ((n : Int) < 1)) true (decide ((n : Int) > 32))) (oI 5) R
theorem ky_ev (fb : Nat → Int) : ev Tryz.prog [] [] (manyL [(4, mayT [0, 3] [] (kyS n T X) (.exit 0) kyE fb n)]) Tryz.f9 [kSl n T X] ret = kyX' n (lpO fb n (kyS n T X 0) (oI 0)) := by kernel_rfl
theorem ky_ev0 : ev Tryz.prog [] [] (manyL [(4, fun _ _ => none)]) Tryz.f9 [kSl n T X] ret = kyX' n none := by kernel_rfl
theorem fl_ev (a d : Int) : ev Tryz.prog [] [] noL Tryz.f16 [iA a, iA d] ret = cond ((!(d == 0)) && true) (cond ((!(d == 0)) && true) (cond (decide (a.tmod d < 0)) (some (Out.of (.tup [iA (w64 (w64 (a.tdiv d) - 1)), iA (w64 (a.tmod d + d))]))) (some (Out.of (.tup [iA (w64 (a.tdiv d)), iA (a.tmod d)])))) none) none := by kernel_rfl
end
end Go.Proofs.YtngjiggplabfkaaGreat.Hs.Sc

namespace Go.Proofs.YtngjiggplabfkaaGreat.Hs.Sc
open Go.Gv So Fm

theorem kmF_seq (T : Nat → Int) (X : Nat → Nat → Int) : ∀ n, kmF T X n = seqE (Go.Proofs.YtngjiggplabfkaaGreat.kbad T X) n
  | 0 => rfl
  | n + 1 => by
    show cond (kmF T X n == 0) (Go.Proofs.YtngjiggplabfkaaGreat.kbad T X n) (kmF T X n) = cond (seqE (Go.Proofs.YtngjiggplabfkaaGreat.kbad T X) n == 0) (Go.Proofs.YtngjiggplabfkaaGreat.kbad T X n) (seqE (Go.Proofs.YtngjiggplabfkaaGreat.kbad T X) n)
    rw [kmF_seq T X n]
theorem kyX_t {n : Nat} {X : Nat → Nat → Int} {k : Nat} (hk : k < n) (c : Nat) (o' o : Option Out) : kyX n X (k : Nat) c o' o = cond (nrB (X k c)) o' o := by
  unfold kyX
  rw [ixB_t hk, Int.toNat_natCast]
  rfl
theorem kyC_t {n : Nat} {T : Nat → Int} {X : Nat → Nat → Int} {k : Nat} (hk : k < n) (hn : n ≤ 1000) (r : Int → Option Out) (o oe : Option Out) : kyC n T X (k : Nat) r o oe = cond (Go.Proofs.YtngjiggplabfkaaGreat.kbad T X k == 0) o (r (Go.Proofs.YtngjiggplabfkaaGreat.kbad T X k)) := by
  have hB : kB2 T (k : Nat) = (decide (T k < 0) || (decide (T k > 1000000) || (decide (0 < k) && decide (T k ≤ T (k - 1))))) := by
    unfold kB2 kB1 kB0
    by_cases h0 : 0 < k
    · have e : w64 ((k : Nat) - 1) = ((k - 1 : Nat) : Int) := by rw [w64_id (by omega) (by omega)]; omega
      rw [e, Int.toNat_natCast, Int.toNat_natCast, decide_eq_true h0, decide_eq_true (show ((k : Nat) : Int) > 0 by omega)]
      cases decide (T k < 0) <;> cases decide (T k > 1000000) <;> cases decide (T k ≤ T (k - 1)) <;> rfl
    · rw [decide_eq_false h0, decide_eq_false (show ¬ ((k : Nat) : Int) > 0 by omega), Int.toNat_natCast]
      cases decide (T k < 0) <;> cases decide (T k > 1000000) <;> rfl
  have hG : kyG n T (k : Nat) = true := by
    unfold kyG
    rw [ixB_t hk]
    by_cases h0 : 0 < k
    · have e : w64 ((k : Nat) - 1) = ((k - 1 : Nat) : Int) := by rw [w64_id (by omega) (by omega)]; omega
      rw [e, ixB_t (show k - 1 < n by omega)]; rfl
    · rw [decide_eq_false (show ¬ ((k : Nat) : Int) > 0 by omega)]
      cases ixB (w64 ((k : Nat) - 1)) n <;> rfl
  unfold kyC
  rw [dec_lt hk, hG, hB, kyX_t hk, kyX_t hk, kyX_t hk]
  unfold Go.Proofs.YtngjiggplabfkaaGreat.kbad
  rw [← kb1 (X k)]
  unfold nrV
  cases (decide (T k < 0) || (decide (T k > 1000000) || (decide (0 < k) && decide (T k ≤ T (k - 1))))) <;> cases nrB (X k 0) <;> cases nrB (X k 1) <;> cases nrB (X k 2) <;> rfl
theorem kyX'_eq {n : Nat} {T : Nat → Int} {X : Nat → Nat → Int} {R : Option Out} (hR : ¬ (n < 1 ∨ 32 < n) → R = oI (kmF T X n)) : kyX' n R = oI (kmay T X n) := by
  unfold kyX' kmay
  by_cases h1 : n < 1
  · rw [decide_eq_true h1, decide_eq_true (show (n : Int) < 1 by omega)]; rfl
  · by_cases h2 : 32 < n
    · rw [decide_eq_false h1, decide_eq_true h2, decide_eq_false (show ¬ (n : Int) < 1 by omega), decide_eq_true (show (n : Int) > 32 by omega)]; rfl
    · rw [decide_eq_false h1, decide_eq_false h2, decide_eq_false (show ¬ (n : Int) < 1 by omega), decide_eq_false (show ¬ (n : Int) > 32 by omega), hR (by omega)]; rfl
theorem rky_spec (n : Nat) (T : Nat → Int) (X : Nat → Nat → Int) : FSpec Tryz.prog 9 [kSl n T X] (iA (kmay T X n)) := by
  by_cases hc : n < 1 ∨ 32 < n
  · exact gspec e_nil k_nil Tryz.func9 (by kernel_rfl) (by kernel_rfl) (lok_cons (lok_none 4) lok_nil) rfl ((ky_ev0 n T X).trans (kyX'_eq fun h => absurd hc h))
  · have hs : LSound Tryz.prog (loopAt Tryz.f9 0) (mayT [0, 3] [] (kyS n T X) (.exit 0) kyE (Go.Proofs.YtngjiggplabfkaaGreat.kbad T X) n) := by
      refine mayT_sound (by simp) (fun k hk hb => ?_) (fun k hk hb => ?_) ?_
      · refine leads_ev (finN_sub _ _) e_nil k_nil noL_ok ((ky_step n T X (k : Nat)).trans ?_)
        rw [kyC_t hk (by omega), hb, w64_next (by omega)]; rfl
      · refine leads_ev (finR_sub _ _) e_nil k_nil noL_ok ((ky_ret n T X (k : Nat)).trans ?_)
        rw [kyC_t hk (by omega), beq_false_of_ne hb]; rfl
      · refine leads_ev (finE_sub _ _) e_nil k_nil noL_ok ((ky_end n T X (n : Nat)).trans ?_)
        unfold kyC
        rw [dec_self, cond_false]
    refine gspec e_nil k_nil Tryz.func9 (by kernel_rfl) (by kernel_rfl) (lok_cons (lok_at 0 2 (by kernel_rfl) (by kernel_rfl) hs) lok_nil) rfl ((ky_ev n T X (Go.Proofs.YtngjiggplabfkaaGreat.kbad T X)).trans (kyX'_eq fun _ => ?_))
    rw [lpO_t, kmF_seq]
    cases h : seqE (Go.Proofs.YtngjiggplabfkaaGreat.kbad T X) n == 0
    · rfl
    · rw [eq_of_beq h]; rfl
def frV (a d : Int) : Int := cond (decide (a.tmod d < 0)) (w64 (a.tmod d + d)) (a.tmod d)
theorem fl_spec {a d : Int} (hd : d ≠ 0) : FSpec Tryz.prog 16 [iA a, iA d] (.tup [iA (dwV a d), iA (frV a d)]) := by
  refine gspec e_nil k_nil Tryz.func16 (by kernel_rfl) (by kernel_rfl) noL_ok rfl ((fl_ev a d).trans ?_)
  rw [beq_false_of_ne hd]
  unfold dwV frV
  cases decide (a.tmod d < 0) <;> rfl
def flG (f g : Int → Int → Int) : List AV → AV
  | [.x (.int .i64 a), .x (.int .i64 d)] => .tup [iA (f a d), iA (g a d)]
  | _ => .any
section
variable (ff fr : Int → Int → Int) (n : Nat) (T : Nat → Int) (X : Nat → Nat → Int) (t i : Int) (v : Nat → Int)
def kaS : St := mkS 101 [(0, kSl n T X), (1, iA t), (4, .own 0 0), (5, iA 0), (7, iA i)] [.c [iA 0, iA 0, iA 0]]
def kaE : St := mkS 101 [(4, .own 0 0), (5, iA 0)] [.c (l3 v)]
def keepK : List Nat := [0, 1, 4, 5, 7]
def faN (a b ta tb t : Int) : Int := w64 (w64 (w64 (w64 (2 * w64 (b - a)) * w64 (t - ta)) + tb) - ta)
def faD (ta tb : Int) : Int := w64 (2 * w64 (tb - ta))
noncomputable def flO (a b ta tb : Int) (o : Option Out) : Option Out := gate (FSpec Tryz.prog 16 [iA (faN a b ta tb t), iA (faD ta tb)] (.tup [iA (ff (faN a b ta tb t) (faD ta tb)), iA (fr (faN a b ta tb t) (faD ta tb))])) o
def faV (a b ta tb : Int) : Int := w64 (a + ff (faN a b ta tb t) (faD ta tb))
abbrev pI : Nat := (w64 (i - 1)).toNat
noncomputable def kaC (r : List AV → Option Out) (o oe : Option Out) : Option Out := cond (decide (i < n)) (cond (ixB (w64 (i - 1)) n || false) (cond (ixB i n || false) (cond (decide (t ≥ T i.toNat)) o (flO ff fr t (X (pI i) 0) (X i.toNat 0) (T (pI i)) (T i.toNat) (flO ff fr t (X (pI i) 1) (X i.toNat 1) (T (pI i)) (T i.toNat) (flO ff fr t (X (pI i) 2) (X i.toNat 2) (T (pI i)) (T i.toNat) (r [iA (faV ff t (X (pI i) 0) (X i.toNat 0) (T (pI i)) (T i.toNat)), iA (faV ff t (X (pI i) 1) (X i.toNat 1) (T (pI i)) (T i.toNat)), iA (faV ff t (X (pI i) 2) (X i.toNat 2) (T (pI i)) (T i.toNat))]))))) none) none) oe
theorem ka_step : evC Tryz.prog [] [kS Tryz.prog 16 (flG ff fr)] noL (loopAt Tryz.f7 0) (kaS n T X t i) (finN keepK [some 0]) = kaC ff fr n T X t i (fun _ => none) (some ⟨.normal, kaS n T X t (w64 (i + 1)), .any⟩) none := by kernel_rfl
theorem ka_ret : evC Tryz.prog [] [kS Tryz.prog 16 (flG ff fr)] noL (loopAt Tryz.f7 0) (kaS n T X t i) (finR [4, 5] [some 0]) = kaC ff fr n T X t i (fun l => some ⟨.ret, mkS 101 [(4, .own 0 0), (5, iA 0)] [.c l], .any⟩) none none := by kernel_rfl
theorem ka_end : evC Tryz.prog [] [kS Tryz.prog 16 (flG ff fr)] noL (loopAt Tryz.f7 0) (kaS n T X t i) (finE keepK [some 0]) = kaC ff fr n T X t i (fun _ => none) none (some ⟨.exit 0, kaS n T X t i, .any⟩) := by kernel_rfl
end
end Go.Proofs.YtngjiggplabfkaaGreat.Hs.Sc

namespace Go.Proofs.YtngjiggplabfkaaGreat.Hs.Sc
open Go.Gv So Fm

theorem fa_eq {ta tb t a b : Int} (h0 : 0 ≤ ta) (h1 : tb ≤ 1000000) (h2 : ta < tb) (h3 : ta ≤ t) (h4 : t ≤ tb) (ha : -1000000 ≤ a ∧ a ≤ 1000000) (hb : -1000000 ≤ b ∧ b ≤ 1000000) :
    faD ta tb ≠ 0 ∧ faV dwV t a b ta tb = a + (2 * (b - a) * (t - ta) + (tb - ta)) / (2 * (tb - ta)) := by
  have m := mul_abs (a := b - a) (b := t - ta) (A := 2000000) (B := 1000000) (by omega) (by omega) (by omega) (by omega)
  have hm : 2 * (b - a) * (t - ta) = 2 * ((b - a) * (t - ta)) := Int.mul_assoc 2 (b - a) (t - ta)
  have ed : faD ta tb = 2 * (tb - ta) := by
    unfold faD
    rw [w64_id (n := tb - ta) (by omega) (by omega), w64_id (by omega) (by omega)]
  have en : faN a b ta tb t = 2 * (b - a) * (t - ta) + (tb - ta) := by
    unfold faN
    rw [w64_id (n := b - a) (by omega) (by omega), w64_id (n := 2 * (b - a)) (by omega) (by omega), w64_id (n := t - ta) (by omega) (by omega), w64_id (n := 2 * (b - a) * (t - ta)) (by omega) (by omega), w64_id (n := 2 * (b - a) * (t - ta) + tb) (by omega) (by omega), w64_id (by omega) (by omega)]
    omega
  refine ⟨by rw [ed]; omega, ?_⟩
  unfold faV
  rw [en, ed, dwV_eq (by omega) (by omega) (by omega)]
  have := div_le (n := 2 * (b - a) * (t - ta) + (tb - ta)) (d := 2 * (tb - ta)) (B := 4000001000000) (by omega) (by omega) (by omega)
  rw [w64_id (by omega) (by omega)]
section
variable (fe : AE) (b : Bool) (n : Nat) (T : Nat → Int) (X : Nat → Nat → Int) (t : Int) (v : Nat → Int)
def oT (v : Nat → Int) (e : Int) : Option Out := some (Out.of (.tup [.agg (l3 v), iA e]))
noncomputable def kaX (R : Option Out) : Option Out := gate (FSpec Tryz.prog 9 [kSl n T X] (iA (fe n (kEl T X)))) (cond (!(fe n (kEl T X) == 0)) (oT (fun _ => 0) (fe n (kEl T X))) (cond (ixB 0 n || false) (cond (decide (t ≤ T 0)) (cond (ixB 0 n || false) (oT (X 0) 0) none) R) none))
noncomputable def kaL : LFun := condL b (toldF keepK [some 0] (kaS n T X t 1) (.exit 0) (kaS n T X t n)) (toldF keepK [some 0] (kaS n T X t 1) .ret (kaE v))
theorem ka_ev : ev Tryz.prog [] [kS Tryz.prog 9 (kmG fe)] (manyL [(7, kaL b n T X t v)]) Tryz.f7 [kSl n T X, iA t] ret = kaX fe n T X t (cond b (gate (Sub (kaS n T X t 1) (kaS n T X t 1)) (cond (ixB (w64 ((n : Int) - 1)) n || false) (oT (X (w64 ((n : Int) - 1)).toNat) 0) none)) (gate (Sub (kaS n T X t 1) (kaS n T X t 1)) (oT v 0))) := by kernel_rfl
theorem ka_ev0 : ev Tryz.prog [] [kS Tryz.prog 9 (kmG fe)] (manyL [(7, fun _ _ => none)]) Tryz.f7 [kSl n T X, iA t] ret = kaX fe n T X t none := by kernel_rfl
end
section
variable {n : Nat} {T : Nat → Int} {X : Nat → Nat → Int} {t : Int}
theorem kaC_go {i : Nat} (hi : i + 1 < n) (hn : n ≤ 32) (h : T (i + 1) ≤ t) (r : List AV → Option Out) (o oe : Option Out) : kaC dwV frV n T X t ((i + 1 : Nat) : Int) r o oe = o := by
  have e : w64 (((i + 1 : Nat) : Int) - 1) = (i : Int) := by rw [w64_id (by omega) (by omega)]; omega
  unfold kaC
  rw [e, dec_lt hi, ixB_t hi, ixB_t (show i < n by omega), Int.toNat_natCast, decide_eq_true (show t ≥ T (i + 1) by omega)]
  rfl
theorem kaC_stop {i : Nat} (hi : i + 1 < n) (hn : n ≤ 32) (ka : KeyIn T X i) (kb : KeyIn T X (i + 1)) (up : T i < T (i + 1)) (h0 : T i ≤ t) (h : t < T (i + 1)) (r : List AV → Option Out) (o oe : Option Out) : kaC dwV frV n T X t ((i + 1 : Nat) : Int) r o oe = r (l3 fun c => ipV T X t c i) := by
  have e : w64 (((i + 1 : Nat) : Int) - 1) = (i : Int) := by rw [w64_id (by omega) (by omega)]; omega
  have f : ∀ c, c < 3 → faD (T i) (T (i + 1)) ≠ 0 ∧ faV dwV t (X i c) (X (i + 1) c) (T i) (T (i + 1)) = ipV T X t c i := fun c hc => fa_eq ka.t0 kb.t1 up h0 (by omega) (ka.x c hc) (kb.x c hc)
  unfold kaC pI
  rw [e, dec_lt hi, ixB_t hi, ixB_t (show i < n by omega), Int.toNat_natCast, Int.toNat_natCast, decide_eq_false (show ¬ t ≥ T (i + 1) by omega)]
  unfold flO
  rw [gate_pos (fl_spec (f 0 (by decide)).1), gate_pos (fl_spec (f 1 (by decide)).1), gate_pos (fl_spec (f 2 (by decide)).1), (f 0 (by decide)).2, (f 1 (by decide)).2, (f 2 (by decide)).2]
  rfl
end
theorem rka_spec (n : Nat) (T : Nat → Int) (X : Nat → Nat → Int) (hX : xOf (kEl T X) = X) (t : Int) : FSpec Tryz.prog 7 [kSl n T X, iA t] (.tup [.agg (l3 (kat T X n t)), iA (kmay T X n)]) := by
  have e : feE n (kEl T X) = kmay T X n := by unfold feE; rw [hX]; rfl
  have hM : FSpec Tryz.prog 9 [kSl n T X] (iA (feE n (kEl T X))) := by rw [e]; exact rky_spec n T X
  by_cases h : kmay T X n = 0
  · have kk := kmay_zero h
    have hn := kk.n32
    have n1 := kk.n1
    have ek : ∀ c, kat T X n t c = kat0 T X n t c := fun c => by unfold kat; rw [h]; rfl
    have hin : ∀ i, i < n → KeyIn T X i := fun i hi => by
      refine kbad_in (kmF_zero n ?_ i hi)
      have h' := h
      unfold kmay at h'
      rw [decide_eq_false (by omega), decide_eq_false (by omega)] at h'
      exact h'
    have hx : ∀ R : Option Out, kaX feE n T X t R = cond (decide (t ≤ T 0)) (oT (X 0) 0) R := fun R => by
      unfold kaX
      have i0 : ixB 0 n = true := ixB_t (i := 0) n1
      rw [gate_pos hM, e, h, i0]
      rfl
    by_cases h0 : t ≤ T 0
    · refine gspec e_nil k1_ok Tryz.func7 (by kernel_rfl) (by kernel_rfl) (lok_cons (lok_none 7) lok_nil) rfl ((ka_ev0 feE n T X t).trans ?_)
      have ev : l3 (kat T X n t) = l3 (X 0) := l3_eq fun c _ => by rw [ek]; unfold kat0; rw [decide_eq_true h0, cond_true]
      rw [hx, decide_eq_true h0, ev, h]; rfl
    · rcases all_or_first (fun i => decide (T (i + 1) ≤ t)) (n - 1) with hl | ⟨K, hK, hp, hq⟩
      · have hl' : ∀ i, i < n - 1 → T (i + 1) ≤ t := fun i hi => by simpa using hl i hi
        have lead : Leads Tryz.prog (.loop (loopAt Tryz.f7 0)) (kaS n T X t 1) (.exit 0) (kaS n T X t n) := by
          refine loop_rule (fun k => kaS n T X t ((k + 1 : Nat) : Int)) (n - 1) (.exit 0) _ (by simp) (fun k hk => ?_) ?_
          · refine leads_ev (finN_sub _ _) e_nil k1_ok noL_ok ((ka_step dwV frV n T X t ((k + 1 : Nat) : Int)).trans ?_)
            rw [kaC_go (by omega) hn (hl' k hk), w64_next (by omega)]
          · refine leads_ev (finE_sub _ _) e_nil k1_ok noL_ok ((ka_end dwV frV n T X t ((n - 1 + 1 : Nat) : Int)).trans ?_)
            unfold kaC
            rw [show n - 1 + 1 = n by omega, dec_self, cond_false]
        have hw : w64 ((n : Int) - 1) = ((n - 1 : Nat) : Int) := by rw [w64_id (by omega) (by omega)]; omega
        have ev : l3 (kat T X n t) = l3 (X (n - 1)) := l3_eq fun c _ => by
          rw [ek]
          unfold kat0
          rw [decide_eq_false h0, cond_false]
          have := katR_skip (T := T) (X := X) (n := n) (t := t) (c := c) (n - 1) 0 1 fun j g1 g2 => by
            have := hl' (j - 1) (by omega)
            rw [show j - 1 + 1 = j by omega] at this
            omega
          rw [Nat.add_zero] at this
          rw [this]
          rfl
        refine gspec e_nil k1_ok Tryz.func7 (by kernel_rfl) (by kernel_rfl) (lok_cons (lok_at 0 2 (by kernel_rfl) (by kernel_rfl) (condL_sound (b := true) (fun _ => toldF_sound lead) fun h => by cases h)) lok_nil) rfl ((ka_ev feE true n T X t fun _ => 0).trans ?_)
        rw [hx, decide_eq_false h0, cond_false, cond_true, gate_pos (Sub.refl _), hw, ixB_t (show n - 1 < n by omega), Int.toNat_natCast, ev, h]
        rfl
      · have hp' : t < T (K + 1) := by simpa using hp
        have hq' : ∀ i, i < K → T (i + 1) ≤ t := fun i hi => by simpa using hq i hi
        have up := kk.up K (by omega)
        have hlo : T K ≤ t := by
          cases K with
          | zero => omega
          | succ K => exact hq' K (by omega)
        have lead : Leads Tryz.prog (.loop (loopAt Tryz.f7 0)) (kaS n T X t 1) .ret (kaE fun c => ipV T X t c K) := by
          refine loop_rule (fun k => kaS n T X t ((k + 1 : Nat) : Int)) K .ret _ (by simp) (fun k hk => ?_) ?_
          · refine leads_ev (finN_sub _ _) e_nil k1_ok noL_ok ((ka_step dwV frV n T X t ((k + 1 : Nat) : Int)).trans ?_)
            rw [kaC_go (by omega) hn (hq' k hk), w64_next (by omega)]
          · refine leads_ev (finR_sub _ _) e_nil k1_ok noL_ok ((ka_ret dwV frV n T X t ((K + 1 : Nat) : Int)).trans ?_)
            rw [kaC_stop (by omega) hn (hin K (by omega)) (hin (K + 1) (by omega)) up hlo hp']
            rfl
        have ev : l3 (kat T X n t) = l3 fun c => ipV T X t c K := l3_eq fun c _ => by
          rw [ek]
          unfold kat0
          rw [decide_eq_false h0, cond_false, show n - 1 = K + (n - 2 - K + 1) by omega]
          rw [katR_skip (T := T) (X := X) (n := n) (t := t) (c := c) K (n - 2 - K + 1) 1 fun j g1 g2 => by
            have := hq' (j - 1) (by omega)
            rw [show j - 1 + 1 = j by omega] at this
            omega]
          show cond (decide (t < T (1 + K))) (ipV T X t c (1 + K - 1)) _ = _
          rw [show 1 + K = K + 1 by omega, decide_eq_true hp', cond_true, show K + 1 - 1 = K by omega]
        refine gspec e_nil k1_ok Tryz.func7 (by kernel_rfl) (by kernel_rfl) (lok_cons (lok_at 0 2 (by kernel_rfl) (by kernel_rfl) (condL_sound (b := false) (fun h => by cases h) fun _ => toldF_sound lead)) lok_nil) rfl ((ka_ev feE false n T X t fun c => ipV T X t c K).trans ?_)
        rw [hx, decide_eq_false h0, cond_false, cond_false, gate_pos (Sub.refl _), ev, h]
        rfl
  · refine gspec e_nil k1_ok Tryz.func7 (by kernel_rfl) (by kernel_rfl) (lok_cons (lok_none 7) lok_nil) rfl ((ka_ev0 feE n T X t).trans ?_)
    have ev : l3 (kat T X n t) = l3 fun _ => 0 := l3_eq fun c _ => by unfold kat; rw [beq_false_of_ne h]; rfl
    unfold kaX
    rw [gate_pos hM, e, beq_false_of_ne h, ev]
    rfl
end Go.Proofs.YtngjiggplabfkaaGreat.Hs.Sc

namespace Go.Proofs.YtngjiggplabfkaaGreat.Hs.Sc
open Go.Gv So Fm
open Go.Ev (cn fadd fsub fmul fdiv fsqrt fneg feq flt fle fgt fge fabs isNan)

def waN (z : Int) : Nat := fdiv (cn (FloatKind.f64.nearest z)) 4652007308841189376
def waV (v : Nat → Int) : AV := V (waN (v 0)) (waN (v 1)) (waN (v 2))
theorem wa_spec (v : Nat → Int) : FSpec Tryz.prog 21 [.agg (l3 v)] (waV v) := gspec e_nil k_nil Tryz.func21 (by kernel_rfl) (by kernel_rfl) noL_ok rfl (show ev Tryz.prog [] [] noL Tryz.f21 [.agg (l3 v)] ret = some (Out.of (waV v)) by kernel_rfl)
section
variable (k : Int) (a : Nat → Nat) (sk : Int) (x y z : Nat)
def mv1 : List AV := [iA k, .f (fadd (a 0) x), .f (fadd (a 1) y), .f (fadd (a 2) z), .f (a 3), .f (a 4), .f (a 5), .f (a 6), .f (a 7), .f (a 8), .f (a 9), .f (a 10), iA sk]
def mv2 : List AV := [iA k, .f (fadd (a 0) x), .f (fadd (a 1) y), .f (fadd (a 2) z), .f (fadd (a 3) x), .f (fadd (a 4) y), .f (fadd (a 5) z), .f (a 6), .f (a 7), .f (a 8), .f (a 9), .f (a 10), iA sk]
def mv3 : List AV := [iA k, .f (fadd (a 0) x), .f (fadd (a 1) y), .f (fadd (a 2) z), .f (fadd (a 3) x), .f (fadd (a 4) y), .f (fadd (a 5) z), .f (fadd (a 6) x), .f (fadd (a 7) y), .f (fadd (a 8) z), .f (a 9), .f (a 10), iA sk]
def mv4 : List AV := [iA k, .f (fadd (a 0) x), .f (fadd (a 1) y), .f (fadd (a 2) z), .f (a 3), .f (a 4), .f (a 5), .f (fadd (a 6) x), .f (fadd (a 7) y), .f (fadd (a 8) z), .f (a 9), .f (a 10), iA sk]
def oA (l : List AV) : Option Out := some (Out.of (.agg l))
def mvX (f : List AV → Option Out) : Option Out := cond (cond (k == 2) true (k == 3)) (cond (k == 3) (f (mv3 k a sk x y z)) (f (mv2 k a sk x y z))) (cond (k == 3) (f (mv4 k a sk x y z)) (f (mv1 k a sk x y z)))
theorem sh_ev : ev Tryz.prog V1 [] noL Tryz.f20 [SH k a sk, V x y z] ret = mvX k a sk x y z oA := by kernel_rfl
end
/-- A shape that has gone on. -/
def mvA (k : Int) (a : Nat → Nat) (x y z : Nat) : Nat → Nat := ls [fadd (a 0) x, fadd (a 1) y, fadd (a 2) z, cond (cond (k == 2) true (k == 3)) (fadd (a 3) x) (a 3), cond (cond (k == 2) true (k == 3)) (fadd (a 4) y) (a 4), cond (cond (k == 2) true (k == 3)) (fadd (a 5) z) (a 5), cond (k == 3) (fadd (a 6) x) (a 6), cond (k == 3) (fadd (a 7) y) (a 7), cond (k == 3) (fadd (a 8) z) (a 8), a 9, a 10]
def mvS (s : Shp) (x y z : Nat) : Shp := ⟨s.k, mvA s.k s.a x y z, s.sk⟩
theorem mvX_eq (s : Shp) (x y z : Nat) (f : List AV → Option Out) : mvX s.k s.a s.sk x y z f = f (mvS s x y z).c := by
  unfold mvX mvS mvA
  cases h3 : s.k == 3
  · cases h2 : s.k == 2 <;> rfl
  · have h2 : (s.k == 2) = false := by rw [eq_of_beq h3]; rfl
    rw [h2]; rfl
theorem sh_spec (s : Shp) (x y z : Nat) : FSpec Tryz.prog 20 [.agg s.c, V x y z] (.agg (mvS s x y z).c) :=
  gspec V1_ok k_nil Tryz.func20 (by kernel_rfl) (by kernel_rfl) noL_ok rfl ((sh_ev s.k s.a s.sk x y z).trans (mvX_eq s x y z oA))
end Go.Proofs.YtngjiggplabfkaaGreat.Hs.Sc

namespace Go.Proofs.YtngjiggplabfkaaGreat.Hs.Sc
open Go.Gv So Fm
open Go.Ev (cn fadd fsub fmul fdiv fsqrt fneg feq flt fle fgt fge fabs isNan)

def eMv : List AV → Option AV
  | [.agg [.x (.int .i64 k), .f a0, .f a1, .f a2, .f a3, .f a4, .f a5, .f a6, .f a7, .f a8, .f a9, .f a10, .x (.int .i64 sk)], .agg [.f x, .f y, .f z]] => some (.agg (mvS ⟨k, ls [a0, a1, a2, a3, a4, a5, a6, a7, a8, a9, a10], sk⟩ x y z).c)
  | _ => none
theorem eMv_ok : EOk Tryz.prog ⟨20, eMv⟩ := fun args r hr => by
  simp only [eMv] at hr
  split at hr
  · cases hr; exact Or.inl (sh_spec ⟨_, ls [_, _, _, _, _, _, _, _, _, _, _], _⟩ _ _ _)
  · cases hr
def eWa : List AV → Option AV
  | [.agg [.x (.int .i64 a), .x (.int .i64 b), .x (.int .i64 c)]] => some (V (waN a) (waN b) (waN c))
  | _ => none
theorem eWa_ok : EOk Tryz.prog ⟨21, eWa⟩ := fun args r hr => by
  simp only [eWa] at hr
  split at hr
  · rename_i a b c
    cases hr; exact Or.inl (wa_spec fun q => match q with | 0 => a | 1 => b | _ => c)
  · cases hr
def MvE : List Entry := [⟨20, eMv⟩, ⟨21, eWa⟩]
theorem MvE_ok : ∀ e, e ∈ MvE → EOk Tryz.prog e := e_cons eMv_ok (e_cons eWa_ok e_nil)
section
variable (s : Scn) (fm : List AV → Int) (v : Nat → Int) (e : Int) (w : Int) (n : Nat) (T : Nat → Int) (X : Nat → Nat → Int) (t : Int)
noncomputable def MvK : List KEntry := [kS Tryz.prog 18 (gO fm), kS Tryz.prog 6 (fun _ => .tup [.agg (l3 v), iA e])]
noncomputable def MvM : List MEntry := [mR Tryz.prog 19 (fun _ => .agg (s.w (.osl 0 13 0 s.nS) s.vO s.vF)) (fun _ => rSh s.nS s.S)]
def MvZ : Nat → Option ZFun := fun j => cond (Nat.beq j 11) (some (frzK 3)) none
def mwB (n : Nat) : Bool := (ixB w n || false) && ((ixB w n || false) && ((Nat.blt (0 + w.toNat) n || false) && true))
def fz2 (n : Nat) : Bool := (Nat.beq n n && true) && ((Nat.beq n n && true) && true)
def mvd : Shp := mvS (s.S w.toNat) (waN (v 0)) (waN (v 1)) (waN (v 2))
def vM : AV := .sl 13 s.nS fun q => mixL (q == 0 + w.toNat) (mvd s v w).c (s.S q).c
def oM (c : List AV) (e : Int) : Option Out := some (Out.of (.tup [.agg c, iA e]))
noncomputable def mvE (f g : Nat) (c : List AV) (ok : Option Out → Option Out) : Option Out := gate (FSpec Tryz.prog f [.agg s.c] (iA (fm s.c))) (cond (!(fm s.c == 0)) (oM zS (fm s.c)) (cond (cond (decide (w < 0)) true (decide (w ≥ (s.nS : Int)))) (oM zS 9) (gate (FSpec Tryz.prog g [kSl n T X, iA t] (.tup [.agg (l3 v), iA e])) (cond (!(e == 0)) (oM zS e) (ok (gate (FSpec Tryz.prog f [.agg c] (iA (fm c))) (cond (!(fm c == 0)) (oM zS (fm c)) (oM c 0))))))))
theorem mv_ev : evZ Tryz.prog MvE (MvK fm v e) (MvM s) noL MvZ Tryz.f10 [.agg s.c, iA w, kSl n T X, iA t] ret = mvE s fm v e w n T X t 18 6 (s.w (vM s v w) s.vO s.vF) (fun o => cond (propB (GSpec Tryz.prog 19 [.agg s.c] [] (.agg (s.w (.osl 0 13 0 s.nS) s.vO s.vF)) (rSh s.nS s.S))) (cond (mwB w s.nS) (cond (fz2 s.nS) o none) none) none) := by kernel_rfl
end
def dSh : List AV → Shp
  | [.x (.int .i64 k), .f a0, .f a1, .f a2, .f a3, .f a4, .f a5, .f a6, .f a7, .f a8, .f a9, .f a10, .x (.int .i64 sk)] => ⟨k, ls [a0, a1, a2, a3, a4, a5, a6, a7, a8, a9, a10], sk⟩
  | _ => ⟨0, fun _ => 0, 0⟩
def dIn : List AV → Int
  | [.x (.int .i64 n)] => n
  | _ => 0
def dFd : List AV → Fm.Fd
  | [.x (.int .i64 w), .x (.int .i64 h), .f a, .f b, .f c, .f d, .sl _ n el, .x (.int .i64 sk)] => ⟨w, h, ls [a, b, c], d, n, fun i => dIn (el i), sk⟩
  | _ => ⟨0, 0, fun _ => 0, 0, 0, fun _ => 0, 0⟩
def iAt : List AV → Nat → Int
  | [], _ => 0
  | x :: _, 0 => dIn [x]
  | _ :: l, i + 1 => iAt l i
def fAt : List AV → Nat → Nat
  | [], _ => 0
  | .f x :: _, 0 => x
  | _ :: _, 0 => 0
  | _ :: l, i + 1 => fAt l i
def decSc : List AV → Scn
  | [.sl _ n1 e1, .sl _ n2 e2, .sl _ n3 e3, .sl _ n4 e4, .sl _ n5 e5, x, y, z, a, b, c, d, e, f, g, h, i, j] => ⟨n1, fun q => dSh (e1 q), n2, fun q => dSo (e2 q), n3, fun q => dFd (e3 q), n4, fun q => iAt (e4 q), n5, fun q => fAt (e5 q), fun q r => iAt (e5 q) (r + 3), iAt [x, y, z], fAt [a, b, c, d, e, f, g, h, i, j]⟩
  | _ => ⟨0, fun _ => dSh [], 0, fun _ => dSo [], 0, fun _ => dFd [], 0, fun _ _ => 0, 0, fun _ _ => 0, fun _ _ => 0, fun _ => 0, fun _ => 0⟩
noncomputable def fSc (c : List AV) : Int := scE (decSc c)
theorem fSc_eq (s : Scn) : fSc s.c = scE s := rfl
end Go.Proofs.YtngjiggplabfkaaGreat.Hs.Sc

namespace Go.Proofs.YtngjiggplabfkaaGreat.Hs.Sc
open Go.Gv So Fm
open Go.Ev (cn fadd fsub fmul fdiv fsqrt fneg feq flt fle fgt fge fabs isNan)

section
variable (s : Scn) (fm : List AV → Int) (v : Nat → Int) (e : Int) (w : Int) (n : Nat) (T : Nat → Int) (X : Nat → Nat → Int) (t : Int)
noncomputable def RvK : List KEntry := [kS Tryz.prog 22 (gO fm), kS Tryz.prog 7 (fun _ => .tup [.agg (l3 v), iA e])]
def RvZ : Nat → Option ZFun := fun j => cond (Nat.beq j 19) (some (frzK 5)) none
def apS (n : Nat) : Bool := (Nat.blt 0 n && (allB n (fun _ => true) && Nat.ble ((0 + n) * 104) 140737488355328)) || false
def blB (n : Nat) : Bool := Nat.blt (0 + w.toNat) n || false
def fz5 (n : Nat) : Bool := (Nat.beq n n && (Nat.beq n n && (Nat.beq n n && (Nat.beq n n && (Nat.beq n n && true))))) && ((Nat.beq n n && true) && true)
def vR (l : List AV) : AV := .sl 13 (0 + s.nS) fun q => mixL (q == 0 + w.toNat) l (s.S q).c
noncomputable def rvT (l : List AV) : Option Out := cond (ixB w (0 + s.nS) || false) (cond (blB w (0 + s.nS)) (cond (fz5 (0 + s.nS)) (gate (FSpec Tryz.prog 22 [.agg (s.w (vR s w l) s.vO s.vF)] (iA (fm (s.w (vR s w l) s.vO s.vF)))) (cond (!(fm (s.w (vR s w l) s.vO s.vF) == 0)) (oM zS (fm (s.w (vR s w l) s.vO s.vF))) (oM (s.w (vR s w l) s.vO s.vF) 0))) none) none) none
abbrev sAt : Shp := s.S (0 + w.toNat)
noncomputable def rvE : Option Out := gate (FSpec Tryz.prog 22 [.agg s.c] (iA (fm s.c))) (cond (!(fm s.c == 0)) (oM zS (fm s.c)) (cond (cond (decide (w < 0)) true (decide (w ≥ (s.nS : Int)))) (oM zS 9) (gate (FSpec Tryz.prog 7 [kSl n T X, iA t] (.tup [.agg (l3 v), iA e])) (cond (!(e == 0)) (oM zS e) (cond (apS s.nS) (cond (ixB w (0 + s.nS) || false) (cond (blB w (0 + s.nS)) (mvX (sAt s w).k (sAt s w).a (sAt s w).sk (waN (v 0)) (waN (v 1)) (waN (v 2)) (rvT s fm w)) none) none) none)))))
theorem rv_ev : evZ Tryz.prog R1 (RvK fm v e) [] noL RvZ Tryz.f11 [.agg s.c, iA w, kSl n T X, iA t] ret = rvE s fm v e w n T X t := by kernel_rfl
end
end Go.Proofs.YtngjiggplabfkaaGreat.Hs.Sc

namespace Go.Proofs.YtngjiggplabfkaaGreat.Hs.Sc
open Go.Gv So Fm
open Go.Ev (cn fadd fsub fmul fdiv fsqrt fneg feq flt fle fgt fge fabs isNan)

theorem gspecZ {l : List Entry} {ks : List KEntry} {ms : List MEntry} {L : Nat → Option LFun} {Z : Nat → Option ZFun} (hZ : ∀ i h, Z i = some h → ZSoundN 0 h) (hl : ∀ e, e ∈ l → EOk Tryz.prog e) (hks : ∀ e, e ∈ ks → KOk Tryz.prog e) (hms : ∀ e, e ∈ ms → MEOk Tryz.prog e) {f : Nat} {fn : Func} (hf : Tryz.prog.funcs[f]? = some fn) (hnm : (fn.name == "runtime.NumGoroutine") = false) (hb : fn.body = some (bodyOf fn)) (hL : LOk Tryz.prog L (bodyOf fn))
    {args : List AV} (hlen : Nat.ble args.length fn.ntmps = true) {r : AV} (h : evZ Tryz.prog l ks ms L Z fn args ret = some (Out.of r)) : FSpec Tryz.prog f args r := spec_of_bodyZ hZ (tabM_ok hl hks hms) (drawnK_ok (tabM_ok hl hks hms) (by kernel_rfl)) 40 hf hnm hb hL hlen h
theorem FSpec.of_val {f : Nat} {args : List AV} {r r' : AV} (h : FSpec Tryz.prog f args r) (hr : ∀ (E : Env) (v : Value), rel E r v → rel E r' v) : FSpec Tryz.prog f args r' :=
  ⟨h.1, fun A w cargs hA hv hg => (h.2 A w cargs hA hv hg).mono fun _ _ ⟨v, he, h1, h2⟩ => ⟨v, he, hr _ _ h1, h2⟩⟩
theorem rel_nil {E : Env} {sz : Nat} {el : Nat → List AV} {v : Value} (h : rel E (.x (.slice none 0 0)) v) : rel E (.sl sz 0 el) v :=
  rel_sl.2 ⟨none, 0, rel_x.1 h, Nat.le_refl _, Or.inl rfl⟩
/-- No scene. -/
def Z0 : Scn := ⟨0, fun _ => ⟨0, fun _ => 0, 0⟩, 0, fun _ => ⟨0, fun _ => ⟨0, 0, 0, 0, fun _ => 0, 0⟩, 0⟩, 0, fun _ => ⟨0, 0, fun _ => 0, 0, 0, fun _ => 0, 0⟩, 0, fun _ _ => 0, 0, fun _ _ => 0, fun _ _ => 0, fun _ => 0, fun _ => 0⟩
theorem zero_val {E : Env} {v : Value} {e : Int} (h : rel E (.tup [.agg zS, iA e]) v) : rel E (.tup [.agg Z0.c, iA e]) v := by
  obtain ⟨vs, e1, h⟩ := rel_tup.1 h
  refine rel_tup.2 ⟨vs, e1, ?_⟩
  obtain ⟨u, us, e2, h, h'⟩ := rels_cons.1 h
  refine rels_cons.2 ⟨u, us, e2, ?_, h'⟩
  obtain ⟨ws, e3, h⟩ := rel_agg.1 h
  refine rel_agg.2 ⟨ws, e3, ?_⟩
  obtain ⟨u1, t1, q1, r1, h⟩ := rels_cons.1 h
  obtain ⟨u2, t2, q2, r2, h⟩ := rels_cons.1 h
  obtain ⟨u3, t3, q3, r3, h⟩ := rels_cons.1 h
  obtain ⟨u4, t4, q4, r4, h⟩ := rels_cons.1 h
  obtain ⟨u5, t5, q5, r5, h⟩ := rels_cons.1 h
  exact rels_cons.2 ⟨u1, t1, q1, rel_nil r1, rels_cons.2 ⟨u2, t2, q2, rel_nil r2, rels_cons.2 ⟨u3, t3, q3, rel_nil r3, rels_cons.2 ⟨u4, t4, q4, rel_nil r4, rels_cons.2 ⟨u5, t5, q5, rel_nil r5, h⟩⟩⟩⟩⟩
/-- The scene in which a shape has gone on. -/
def mvdS (s : Scn) (w : Int) (v : Nat → Int) : Scn := ⟨s.nS, fun q => cond (q == w.toNat) (mvS (s.S w.toNat) (waN (v 0)) (waN (v 1)) (waN (v 2))) (s.S q), s.nO, s.O, s.nF, s.F, s.nK, s.K, s.nL, s.LA, s.LL, s.sky, s.eye⟩
noncomputable def mvR (s : Scn) (w : Int) (n : Nat) (T : Nat → Int) (X : Nat → Nat → Int) (t : Int) : Scn × Int :=
  cond (scE s == 0) (cond (cond (decide (w < 0)) true (decide (w ≥ (s.nS : Int)))) (Z0, 9) (cond (kmay T X n == 0) (cond (scE (mvdS s w (kat T X n t)) == 0) (mvdS s w (kat T X n t), 0) (Z0, scE (mvdS s w (kat T X n t)))) (Z0, kmay T X n))) (Z0, scE s)
theorem mix_S (e : Bool) (a b : Shp) : mixL e a.c b.c = (cond e a b).c := by cases e <;> rfl
theorem vM_eq (s : Scn) (v : Nat → Int) (w : Int) : s.w (vM s v w) s.vO s.vF = (mvdS s w v).c := by
  have h : vM s v w = (mvdS s w v).vS := by
    unfold vM mvd
    have : (fun q => mixL (q == 0 + w.toNat) (mvS (s.S w.toNat) (waN (v 0)) (waN (v 1)) (waN (v 2))).c (s.S q).c) = fun q => ((mvdS s w v).S q).c := funext fun q => by
      rw [Nat.zero_add]; exact mix_S _ _ _
    rw [this]; rfl
  rw [h]; rfl
theorem vR_eq (s : Scn) (v : Nat → Int) (w : Int) : s.w (vR s w (mvS (sAt s w) (waN (v 0)) (waN (v 1)) (waN (v 2))).c) s.vO s.vF = (mvdS s w v).c := by
  have h : vR s w (mvS (sAt s w) (waN (v 0)) (waN (v 1)) (waN (v 2))).c = (mvdS s w v).vS := by
    unfold vR sAt
    rw [Nat.zero_add, Nat.zero_add]
    have : (fun q => mixL (q == w.toNat) (mvS (s.S w.toNat) (waN (v 0)) (waN (v 1)) (waN (v 2))).c (s.S q).c) = fun q => ((mvdS s w v).S q).c := funext fun q => mix_S _ _ _
    rw [this]; rfl
  rw [h]; rfl
structure Cons (s : Scn) : Prop where
  few : s.nS ≤ 64 ∧ s.nO ≤ 8 ∧ s.nF ≤ 2 ∧ s.nK ≤ 16 ∧ s.nL ≤ 4
  parts : ∀ q, q < s.nO → (s.O q).n ≤ 16
  fields : ∀ q, q < s.nF → fineS ((s.F q).at_ 0) ((s.F q).at_ 1) ((s.F q).at_ 2) = true ∧ nearS (s.F q).sd = true ∧ (s.F q).n ≤ 64
  lamps : ∀ q, q < s.nL → fineS (s.LA q 0) (s.LA q 1) (s.LA q 2) = true
  eye : feB s.eye = false
theorem we_zero {e sk : Int} {n : Nat} (h : weE e sk n = 0) : e = 0 := by
  unfold weE at h
  by_cases he : e = 0
  · exact he
  · rw [beq_false_of_ne he] at h; exact h
theorem so_16 {n : Nat} {P : Nat → Prt} {sn : Int} (h : soE n P sn = 0) : n ≤ 16 := by
  unfold soE at h
  by_cases h1 : n < 1
  · omega
  · by_cases h2 : 16 < n
    · rw [decide_eq_false (show ¬ (n : Int) < 1 by omega), decide_eq_true (show (n : Int) > 16 by omega)] at h
      exact absurd (show (5 : Int) = 0 from h) (by decide)
    · omega
theorem cons_of {s : Scn} (h : scE s = 0) : Cons s := by
  unfold scE at h
  cases ht : tmB s
  · rw [ht, cond_false] at h
    by_cases hk : seqE (eK s) s.nK = 0
    · rw [hk] at h
      have h : cond (thE s == 0) (cond (seqE (eL s) s.nL == 0) (cond (!liB s.sky) 6 (eyE s.eye)) (seqE (eL s) s.nL)) (thE s) = 0 := h
      by_cases hh : thE s = 0
      · rw [hh] at h
        have h : cond (seqE (eL s) s.nL == 0) (cond (!liB s.sky) 6 (eyE s.eye)) (seqE (eL s) s.nL) = 0 := h
        by_cases hl : seqE (eL s) s.nL = 0
        · rw [hl] at h
          have h : cond (!liB s.sky) 6 (eyE s.eye) = 0 := h
          cases hi : liB s.sky
          · rw [hi] at h; exact absurd (show (6 : Int) = 0 from h) (by decide)
          · rw [hi] at h
            have h : eyE s.eye = 0 := h
            have hS : seqE (eS s) s.nS = 0 ∧ seqE (eO s) s.nO = 0 ∧ seqE (eF s) s.nF = 0 := by
              unfold thE at hh
              by_cases a : seqE (eS s) s.nS = 0
              · rw [a] at hh
                have hh : cond (seqE (eO s) s.nO == 0) (seqE (eF s) s.nF) (seqE (eO s) s.nO) = 0 := hh
                by_cases b : seqE (eO s) s.nO = 0
                · rw [b] at hh; exact ⟨a, b, hh⟩
                · rw [beq_false_of_ne b] at hh; exact absurd hh b
              · rw [beq_false_of_ne a] at hh; exact absurd hh a
            refine ⟨tm_few s ht, fun q hq => ?_, fun q hq => ?_, fun q hq => ?_, ?_⟩
            · exact so_16 (we_zero (seq_zero _ hS.2.1 q hq))
            · exact (fFd_ok (s.F q)).2 (we_zero (seq_zero _ hS.2.2 q hq))
            · have := seq_zero _ hl q hq
              unfold eL lmE at this
              cases hf : fineS (s.LA q 0) (s.LA q 1) (s.LA q 2)
              · rw [hf] at this; exact absurd (show (1 : Int) = 0 from this) (by decide)
              · rfl
            · unfold eyE at h
              cases hf : feB s.eye
              · rfl
              · rw [hf] at h; exact absurd (show (1 : Int) = 0 from h) (by decide)
        · rw [beq_false_of_ne hl] at h; exact absurd h hl
      · rw [beq_false_of_ne hh] at h; exact absurd h hh
    · rw [beq_false_of_ne hk] at h; exact absurd h hk
  · rw [ht] at h; exact absurd (show (4 : Int) = 0 from h) (by decide)
theorem MvZ_ok : ∀ i h, MvZ i = some h → ZSoundN 0 h := fun i h e => by
  unfold MvZ at e
  cases h1 : Nat.beq i 11
  · rw [h1] at e; cases e
  · rw [h1, cond_true] at e; cases e; exact frzK_ok 3
theorem RvZ_ok : ∀ i h, RvZ i = some h → ZSoundN 0 h := fun i h e => by
  unfold RvZ at e
  cases h1 : Nat.beq i 19
  · rw [h1] at e; cases e
  · rw [h1, cond_true] at e; cases e; exact frzK_ok 5
section
variable (s : Scn) (w : Int) (n : Nat) (T : Nat → Int) (X : Nat → Nat → Int) (hX : xOf (kEl T X) = X) (t : Int)
include hX
theorem moved_spec : FSpec Tryz.prog 10 [.agg s.c, iA w, kSl n T X, iA t] (.tup [.agg (mvR s w n T X t).1.c, iA (mvR s w n T X t).2]) := by
  have go : ∀ c e, mvE s fSc (kat T X n t) (kmay T X n) w n T X t 18 6 (s.w (vM s (kat T X n t) w) s.vO s.vF) (fun o => cond (propB (GSpec Tryz.prog 19 [.agg s.c] [] (.agg (s.w (.osl 0 13 0 s.nS) s.vO s.vF)) (rSh s.nS s.S))) (cond (mwB w s.nS) (cond (fz2 s.nS) o none) none) none) = oM c e → FSpec Tryz.prog 10 [.agg s.c, iA w, kSl n T X, iA t] (.tup [.agg c, iA e]) := fun c e h =>
    gspecZ MvZ_ok MvE_ok (k_cons kS_ok (k_cons kS_ok k_nil)) (m_cons mR_ok m_nil) Tryz.func10 (by kernel_rfl) (by kernel_rfl) noL_ok rfl ((mv_ev s fSc (kat T X n t) (kmay T X n) w n T X t).trans h)
  have hA := at_spec0 n T X hX t
  unfold mvE at go
  rw [vM_eq, fSc_eq s, fSc_eq (mvdS s w (kat T X n t)), gate_pos (sc_spec s), gate_pos hA, gate_pos (sc_spec (mvdS s w (kat T X n t)))] at go
  unfold mvR
  by_cases h1 : scE s = 0
  · rw [h1] at go ⊢
    cases h2 : cond (decide (w < 0)) true (decide (w ≥ (s.nS : Int)))
    · rw [h2] at go
      by_cases h3 : kmay T X n = 0
      · rw [h3] at go ⊢
        have c := cons_of h1
        have hw : 0 ≤ w ∧ w < (s.nS : Int) := by
          by_cases a : w < 0
          · rw [decide_eq_true a] at h2; cases h2
          · rw [decide_eq_false a, cond_false] at h2
            exact ⟨by omega, by have := of_decide_eq_false h2; omega⟩
        obtain ⟨k, rfl⟩ : ∃ k : Nat, w = (k : Int) := ⟨w.toNat, by omega⟩
        have hk : k < s.nS := by omega
        have few := c.few
        have cp := copied_spec (s := s) (by omega) (by omega) (by omega) (by omega) (by omega) (fun q hq => by have := c.parts q hq; omega) (fun q hq => by have := (c.fields q hq).2.2; omega)
        have m1 : mwB (k : Nat) s.nS = true := by unfold mwB; rw [ixB_t hk, Int.toNat_natCast, Nat.zero_add, blt_t hk]; rfl
        have m2 : fz2 s.nS = true := by unfold fz2; rw [Nat.beq_refl]; rfl
        rw [propB_t cp, m1, m2] at go
        by_cases h4 : scE (mvdS s (k : Nat) (kat T X n t)) = 0
        · rw [h4] at go ⊢
          exact go _ _ rfl
        · rw [beq_false_of_ne h4] at go ⊢
          exact FSpec.of_val (go _ _ rfl) fun _ _ => zero_val
      · rw [beq_false_of_ne h3] at go ⊢
        exact FSpec.of_val (go _ _ rfl) fun _ _ => zero_val
    · rw [h2] at go
      exact FSpec.of_val (go _ _ rfl) fun _ _ => zero_val
  · rw [beq_false_of_ne h1] at go ⊢
    exact FSpec.of_val (go _ _ rfl) fun _ _ => zero_val
theorem rmoved_spec : FSpec Tryz.prog 11 [.agg s.c, iA w, kSl n T X, iA t] (.tup [.agg (mvR s w n T X t).1.c, iA (mvR s w n T X t).2]) := by
  have go : ∀ c e, rvE s fSc (kat T X n t) (kmay T X n) w n T X t = oM c e → FSpec Tryz.prog 11 [.agg s.c, iA w, kSl n T X, iA t] (.tup [.agg c, iA e]) := fun c e h =>
    gspecZ RvZ_ok R1_ok (k_cons kS_ok (k_cons kS_ok k_nil)) m_nil Tryz.func11 (by kernel_rfl) (by kernel_rfl) noL_ok rfl ((rv_ev s fSc (kat T X n t) (kmay T X n) w n T X t).trans h)
  have hA := rka_spec n T X hX t
  unfold rvE at go
  rw [fSc_eq s, gate_pos (rsc_spec s), gate_pos hA, mvX_eq] at go
  unfold rvT at go
  rw [vR_eq, fSc_eq (mvdS s w (kat T X n t)), gate_pos (rsc_spec (mvdS s w (kat T X n t)))] at go
  unfold mvR
  by_cases h1 : scE s = 0
  · rw [h1] at go ⊢
    cases h2 : cond (decide (w < 0)) true (decide (w ≥ (s.nS : Int)))
    · rw [h2] at go
      by_cases h3 : kmay T X n = 0
      · rw [h3] at go ⊢
        have c := cons_of h1
        have hw : 0 ≤ w ∧ w < (s.nS : Int) := by
          by_cases a : w < 0
          · rw [decide_eq_true a] at h2; cases h2
          · rw [decide_eq_false a, cond_false] at h2
            exact ⟨by omega, by have := of_decide_eq_false h2; omega⟩
        obtain ⟨k, rfl⟩ : ∃ k : Nat, w = (k : Int) := ⟨w.toNat, by omega⟩
        have hk : k < s.nS := by omega
        have few := c.few
        have m1 : apS s.nS = true := by unfold apS; rw [blt_t (by omega), allB_true fun _ _ => rfl, Nat.ble_eq_true_of_le (show (0 + s.nS) * 104 ≤ 140737488355328 by omega)]; rfl
        have m2 : blB (k : Nat) s.nS = true := by unfold blB; rw [Int.toNat_natCast, Nat.zero_add, blt_t hk]; rfl
        have m3 : fz5 s.nS = true := by unfold fz5; rw [Nat.beq_refl]; rfl
        rw [Nat.zero_add, m1, ixB_t hk, m2, m3] at go
        by_cases h4 : scE (mvdS s (k : Nat) (kat T X n t)) = 0
        · rw [h4] at go ⊢
          exact go _ _ rfl
        · rw [beq_false_of_ne h4] at go ⊢
          exact FSpec.of_val (go _ _ rfl) fun _ _ => zero_val
      · rw [beq_false_of_ne h3] at go ⊢
        exact FSpec.of_val (go _ _ rfl) fun _ _ => zero_val
    · rw [h2] at go
      exact FSpec.of_val (go _ _ rfl) fun _ _ => zero_val
  · rw [beq_false_of_ne h1] at go ⊢
    exact FSpec.of_val (go _ _ rfl) fun _ _ => zero_val
end
end Go.Proofs.YtngjiggplabfkaaGreat.Hs.Sc

namespace Go.Proofs.YtngjiggplabfkaaGreat.Hs.Sc
open Go.Gv So Fm
open Go.Ev (cn fadd fsub fmul fdiv fsqrt fneg feq flt fle fgt fge fabs isNan)

def likeS (a b : Nat) : Bool := cond (feq a b) true (cond (!feq a a) (!feq b b) false)
theorem lk_spec (a b : Nat) : FSpec Tryz.prog 56 [.f a, .f b] (bA (likeS a b)) := gspec e_nil k_nil Tryz.func56 (by kernel_rfl) (by kernel_rfl) noL_ok rfl (show ev Tryz.prog [] [] noL Tryz.f56 [.f a, .f b] ret = oB (likeS a b) by kernel_rfl)
def lkVS (a b c d e f : Nat) : Bool := cond (cond (likeS a d) (likeS b e) false) (likeS c f) false
def LK1 : List Entry := [⟨56, eFF fun a b => bA (likeS a b)⟩]
theorem LK1_ok : ∀ e, e ∈ LK1 → EOk Tryz.prog e := e_cons (eFF_ok lk_spec) e_nil
theorem lkV_spec (a b c d e f : Nat) : FSpec Tryz.prog 55 [V a b c, V d e f] (bA (lkVS a b c d e f)) := gspec LK1_ok k_nil Tryz.func55 (by kernel_rfl) (by kernel_rfl) noL_ok rfl (show ev Tryz.prog LK1 [] noL Tryz.f55 [V a b c, V d e f] ret = oB (lkVS a b c d e f) by kernel_rfl)
def LK2 : List Entry := ⟨55, eVV fun a b c d e f => bA (lkVS a b c d e f)⟩ :: LK1
theorem LK2_ok : ∀ e, e ∈ LK2 → EOk Tryz.prog e := e_cons (eVV_ok lkV_spec) LK1_ok
def sSh (s u : Shp) : Bool := cond (cond (cond (cond (cond (cond (s.k == u.k) (s.sk == u.sk) false) (lkVS (s.a 0) (s.a 1) (s.a 2) (u.a 0) (u.a 1) (u.a 2)) false) (lkVS (s.a 3) (s.a 4) (s.a 5) (u.a 3) (u.a 4) (u.a 5)) false) (lkVS (s.a 6) (s.a 7) (s.a 8) (u.a 6) (u.a 7) (u.a 8)) false) (likeS (s.a 9) (u.a 9)) false) (likeS (s.a 10) (u.a 10)) false
theorem ss_ev (s u : Shp) : ev Tryz.prog LK2 [] noL Tryz.f24 [.agg s.c, .agg u.c] ret = oB (sSh s u) := by kernel_rfl
theorem like_self (x : Nat) : likeS x x = true := by
  unfold likeS
  cases feq x x <;> rfl
theorem ss_same (s : Shp) : FSpec Tryz.prog 24 [.agg s.c, .agg s.c] (bA true) := by
  refine gspec LK2_ok k_nil Tryz.func24 (by kernel_rfl) (by kernel_rfl) noL_ok rfl ((ss_ev s s).trans ?_)
  unfold sSh lkVS
  simp only [like_self, BEq.rfl, cond_true]
  rfl
end Go.Proofs.YtngjiggplabfkaaGreat.Hs.Sc

namespace Go.Proofs.YtngjiggplabfkaaGreat.Hs.Sc
open Go.Gv So Fm
open Go.Ev (cn fadd fsub fmul fdiv fsqrt fneg feq flt fle fgt fge fabs isNan)

def dxB (i : Int) (n : Nat) : Bool := (ixB i n || false) && ((ixB i n || false) && true)
section
variable (F : Fm.Fd) (i : Int)
def v3B (a b c : Nat) : Bool := feq a a && (feq b b && (feq c c && true))
def fdB : Bool := cond (cond (cond (cond (cond (!(F.W == F.W)) true (!(F.H == F.H))) true (!v3B (F.at_ 0) (F.at_ 1) (F.at_ 2))) true (!feq F.sd F.sd)) true (!(F.sk == F.sk))) true (!((F.n : Int) == F.n))
def sfS : St := mkS 66 [(2, .own 0 0), (3, .own 1 0), (5, iA i)] [.c F.c, .c F.c]
def sfC (o oe : Option Out) : Option Out := cond (decide (i < F.n)) (cond (dxB i F.n) (cond (!(F.hs i.toNat == F.hs i.toNat)) none o) none) oe
theorem sf_step : evC Tryz.prog [] [] noL (loopAt Tryz.f25 0) (sfS F i) (finN [2, 3, 5] [some 0, some 1]) = sfC F i (some ⟨.normal, sfS F (w64 (i + 1)), .any⟩) none := by kernel_rfl
theorem sf_end : evC Tryz.prog [] [] noL (loopAt Tryz.f25 0) (sfS F i) (finE [2, 3, 5] [some 0, some 1]) = sfC F i none (some ⟨.exit 0, sfS F i, .any⟩) := by kernel_rfl
theorem sf_ev : ev Tryz.prog [] [] (oneL 4 (toldF [2, 3, 5] [some 0, some 1] (sfS F 0) (.exit 0) (sfS F F.n))) Tryz.f25 [.agg F.c, .agg F.c] ret = cond (fdB F) (oB false) (gate (Sub (sfS F 0) (sfS F 0)) (oB true)) := by kernel_rfl
end
section
variable (s : Scn) (i k : Int)
def e10 (e : Nat → Nat) : Bool := v3B (e 0) (e 1) (e 2) && (v3B (e 3) (e 4) (e 5) && (v3B (e 6) (e 7) (e 8) && (feq (e 9) (e 9) && true)))
def i3 (e : Nat → Int) : Bool := (e 0 == e 0) && ((e 1 == e 1) && ((e 2 == e 2) && true))
def hdB : Bool := cond (cond (cond (cond (cond (cond (!((s.nS : Int) == s.nS)) true (!((s.nK : Int) == s.nK))) true (!((s.nL : Int) == s.nL))) true (!((s.nO : Int) == s.nO))) true (!((s.nF : Int) == s.nF))) true (!i3 s.sky)) true (!e10 s.eye)
def snS (sl : Nat) : St := mkS 223 [(2, .own 0 0), (3, .own 1 0), (sl, iA i)] [.c s.c, .c s.c]
/-- Shapes. -/
def gB (b : Bool) : List AV → AV := fun _ => bA b
noncomputable def n1C (f n : Nat) (c : Nat → List AV) (o oe : Option Out) : Option Out := cond (decide (i < n)) (gate (FSpec Tryz.prog f [.agg (c i.toNat), .agg (c i.toNat)] (bA true)) (cond (dxB i n) o none)) oe
theorem n1_step : evC Tryz.prog [] [kS Tryz.prog 24 (gB true)] noL (loopAt Tryz.f12 0) (snS s i 5) (finN [2, 3, 5] [some 0, some 1]) = n1C i 24 s.nS (fun q => (s.S q).c) (some ⟨.normal, snS s (w64 (i + 1)) 5, .any⟩) none := by kernel_rfl
theorem n1_end : evC Tryz.prog [] [kS Tryz.prog 24 (gB true)] noL (loopAt Tryz.f12 0) (snS s i 5) (finE [2, 3, 5] [some 0, some 1]) = n1C i 24 s.nS (fun q => (s.S q).c) none (some ⟨.exit 0, snS s i 5, .any⟩) := by kernel_rfl
/-- Fields. -/
theorem n4_step : evC Tryz.prog [] [kS Tryz.prog 25 (gB true)] noL (loopAt Tryz.f12 3) (snS s i 12) (finN [2, 3, 12] [some 0, some 1]) = n1C i 25 s.nF (fun q => (s.F q).c) (some ⟨.normal, snS s (w64 (i + 1)) 12, .any⟩) none := by kernel_rfl
theorem n4_end : evC Tryz.prog [] [kS Tryz.prog 25 (gB true)] noL (loopAt Tryz.f12 3) (snS s i 12) (finE [2, 3, 12] [some 0, some 1]) = n1C i 25 s.nF (fun q => (s.F q).c) none (some ⟨.exit 6, snS s i 12, .any⟩) := by kernel_rfl
/-- Skins. -/
def j3 (a b c : Int) : Bool := (a == a) && ((b == b) && ((c == c) && true))
def i10 (e : Nat → Int) : Bool := j3 (e 0) (e 1) (e 2) && (j3 (e 3) (e 4) (e 5) && (j3 (e 6) (e 7) (e 8) && ((e 9 == e 9) && true)))
def n5C (n : Nat) (b : Bool) (o oe : Option Out) : Option Out := cond (decide (i < n)) (cond (dxB i n) (cond (!b) none o) none) oe
theorem n5_step : evC Tryz.prog [] [] noL (loopAt Tryz.f12 4) (snS s i 14) (finN [2, 3, 14] [some 0, some 1]) = n5C i s.nK (i10 (s.K i.toNat)) (some ⟨.normal, snS s (w64 (i + 1)) 14, .any⟩) none := by kernel_rfl
theorem n5_end : evC Tryz.prog [] [] noL (loopAt Tryz.f12 4) (snS s i 14) (finE [2, 3, 14] [some 0, some 1]) = n5C i s.nK (i10 (s.K i.toNat)) none (some ⟨.exit 8, snS s i 14, .any⟩) := by kernel_rfl
/-- Lamps. -/
def lm6 (a : Nat → Nat) (l : Nat → Int) : Bool := v3B (a 0) (a 1) (a 2) && (j3 (l 0) (l 1) (l 2) && true)
theorem n6_step : evC Tryz.prog [] [] noL (loopAt Tryz.f12 5) (snS s i 15) (finN [2, 3, 15] [some 0, some 1]) = n5C i s.nL (lm6 (s.LA i.toNat) (s.LL i.toNat)) (some ⟨.normal, snS s (w64 (i + 1)) 15, .any⟩) none := by kernel_rfl
theorem n6_end : evC Tryz.prog [] [] noL (loopAt Tryz.f12 5) (snS s i 15) (finE [2, 3, 15] [some 0, some 1]) = n5C i s.nL (lm6 (s.LA i.toNat) (s.LL i.toNat)) none (some ⟨.exit 10, snS s i 15, .any⟩) := by kernel_rfl
end
end Go.Proofs.YtngjiggplabfkaaGreat.Hs.Sc

namespace Go.Proofs.YtngjiggplabfkaaGreat.Hs.Sc
open Go.Gv So Fm
open Go.Ev (cn fadd fsub fmul fdiv fsqrt fneg feq flt fle fgt fge fabs isNan)

def eSS (g : List AV → List AV → Bool) : List AV → Option AV
  | [.agg [.x (.int .i64 k), .f a0, .f a1, .f a2, .f a3, .f a4, .f a5, .f a6, .f a7, .f a8, .f a9, .f a10, .x (.int .i64 sk)], .agg [.x (.int .i64 k'), .f b0, .f b1, .f b2, .f b3, .f b4, .f b5, .f b6, .f b7, .f b8, .f b9, .f b10, .x (.int .i64 sk')]] => some (bA (g [.x (.int .i64 k), .f a0, .f a1, .f a2, .f a3, .f a4, .f a5, .f a6, .f a7, .f a8, .f a9, .f a10, .x (.int .i64 sk)] [.x (.int .i64 k'), .f b0, .f b1, .f b2, .f b3, .f b4, .f b5, .f b6, .f b7, .f b8, .f b9, .f b10, .x (.int .i64 sk')]))
  | _ => none
def gSS (c d : List AV) : Bool := sSh (dSh c) (dSh d)
theorem ss_spec (s u : Shp) : FSpec Tryz.prog 24 [.agg s.c, .agg u.c] (bA (sSh s u)) := gspec LK2_ok k_nil Tryz.func24 (by kernel_rfl) (by kernel_rfl) noL_ok rfl (ss_ev s u)
theorem eSS_ok : EOk Tryz.prog ⟨24, eSS gSS⟩ := fun args r hr => by
  simp only [eSS] at hr
  split at hr
  · cases hr; exact Or.inl (ss_spec ⟨_, ls [_, _, _, _, _, _, _, _, _, _, _], _⟩ ⟨_, ls [_, _, _, _, _, _, _, _, _, _, _], _⟩)
  · cases hr
section
variable (g : List AV → List AV → Bool) (s : Scn) (i : Int) (o : Sld) (k : Int)
def n3S : St := mkS 223 [(2, .own 0 0), (3, .own 1 0), (6, iA i), (7, .own 2 0), (8, .own 3 0), (9, iA k)] [.c s.c, .c s.c, .c o.c, .c o.c]
def keep3' : List Nat := [2, 3, 6, 7, 8, 9]
def tau4 : List (Option Nat) := [some 0, some 1, some 2, some 3]
def pB (p : Prt) : Bool := cond (cond (cond (!(p.op == p.op)) true (!(p.l == p.l))) true (!(p.r == p.r))) true (!g p.s p.s)
def n3C (u ue : Option Out) : Option Out := cond (decide (k < o.n)) (cond (ixB k o.n || false) (cond (ixB k o.n || false) (cond (pB g (o.P k.toNat)) none u) none) none) ue
theorem n3_step : evC Tryz.prog [⟨24, eSS g⟩] [] noL (loopAt Tryz.f12 2) (n3S s i o k) (finN keep3' tau4) = n3C g o k (some ⟨.normal, n3S s i o (w64 (k + 1)), .any⟩) none := by kernel_rfl
theorem n3_end : evC Tryz.prog [⟨24, eSS g⟩] [] noL (loopAt Tryz.f12 2) (n3S s i o k) (finE keep3' tau4) = n3C g o k none (some ⟨.exit 4, n3S s i o k, .any⟩) := by kernel_rfl
def n2C (u ue : Option Out) : Option Out := cond (decide (i < s.nO)) (cond (ixB i s.nO || false) (cond (ixB i s.nO || false) (cond (cond (!((s.O i.toNat).sk == (s.O i.toNat).sk)) true (!(((s.O i.toNat).n : Int) == (s.O i.toNat).n))) none u) none) none) ue
noncomputable def n2L (j : Nat) : Nat → Option LFun := oneL 16 (toldF keep3' tau4 (n3S s i (s.O j) 0) (.exit 4) (n3S s i (s.O j) (s.O j).n))
theorem n2_step : evC Tryz.prog [] [] (n2L s i i.toNat) (loopAt Tryz.f12 1) (snS s i 6) (finN [2, 3, 6] [some 0, some 1]) = n2C s i (gate (Sub (n3S s i (s.O i.toNat) 0) (n3S s i (s.O i.toNat) 0)) (some ⟨.normal, snS s (w64 (i + 1)) 6, .any⟩)) none := by kernel_rfl
theorem n2_end : evC Tryz.prog [] [] (oneL 16 fun _ _ => none) (loopAt Tryz.f12 1) (snS s i 6) (finE [2, 3, 6] [some 0, some 1]) = n2C s i none (some ⟨.exit 2, snS s i 6, .any⟩) := by kernel_rfl
noncomputable def snT (sl : Nat) (ex : Exit) (n : Nat) : LFun := toldF [2, 3, sl] [some 0, some 1] (snS s 0 sl) ex (snS s n sl)
noncomputable def snL : Nat → Option LFun := manyL [(4, snT s 5 (.exit 0) s.nS), (9, snT s 6 (.exit 2) s.nO), (23, snT s 12 (.exit 6) s.nF), (29, snT s 14 (.exit 8) s.nK), (34, snT s 15 (.exit 10) s.nL)]
noncomputable def sG (sl : Nat) (u : Option Out) : Option Out := gate (Sub (snS s 0 sl) (snS s 0 sl)) u
theorem sn_ev : ev Tryz.prog [] [] (snL s) Tryz.f12 [.agg s.c, .agg s.c] ret = cond (hdB s) (oB false) (sG s 5 (sG s 6 (sG s 12 (sG s 14 (sG s 15 (oB true)))))) := by kernel_rfl
end
end Go.Proofs.YtngjiggplabfkaaGreat.Hs.Sc

namespace Go.Proofs.YtngjiggplabfkaaGreat.Hs.Sc
open Go.Gv So Fm
open Go.Ev (cn fadd fsub fmul fdiv fsqrt fneg feq flt fle fgt fge fabs isNan)

/-- What is asked of a scene that it be the same as itself. -/
structure SameOk (s : Scn) : Prop where
  few : s.nS ≤ 1000 ∧ s.nO ≤ 1000 ∧ s.nF ≤ 1000 ∧ s.nK ≤ 1000 ∧ s.nL ≤ 1000
  parts : ∀ q, q < s.nO → (s.O q).n ≤ 1000
  fields : ∀ q, q < s.nF → v3B ((s.F q).at_ 0) ((s.F q).at_ 1) ((s.F q).at_ 2) = true ∧ feq (s.F q).sd (s.F q).sd = true ∧ (s.F q).n ≤ 1000
  lamps : ∀ q, q < s.nL → v3B (s.LA q 0) (s.LA q 1) (s.LA q 2) = true
  eye : e10 s.eye = true
theorem near_self {x : Nat} (h : nearS x = true) : feq x x = true := by rw [Go.Ev.feq_self, near_nan h]; rfl
theorem fine_v3 {a b c : Nat} (h : fineS a b c = true) : v3B a b c = true := by
  obtain ⟨h1, h2, h3⟩ := fine_near h
  unfold v3B
  rw [near_self h1, near_self h2, near_self h3]; rfl
theorem same_cons {s : Scn} (c : Cons s) : SameOk s := by
  have few := c.few
  refine ⟨by omega, fun q hq => by have := c.parts q hq; omega, fun q hq => ?_, fun q hq => fine_v3 (c.lamps q hq), ?_⟩
  · obtain ⟨h1, h2, h3⟩ := c.fields q hq
    exact ⟨fine_v3 h1, near_self h2, by omega⟩
  · have h := c.eye
    unfold feB at h
    cases h1 : fineS (s.eye 0) (s.eye 1) (s.eye 2)
    · rw [h1] at h; cases h
    · rw [h1] at h
      cases h2 : fineS (s.eye 3) (s.eye 4) (s.eye 5)
      · rw [h2] at h; cases h
      · rw [h2] at h
        cases h3 : fineS (s.eye 6) (s.eye 7) (s.eye 8)
        · rw [h3] at h; cases h
        · rw [h3] at h
          cases h4 : nearS (s.eye 9)
          · rw [h4] at h; cases h
          · unfold e10
            rw [fine_v3 h1, fine_v3 h2, fine_v3 h3, near_self h4]; rfl
theorem same_zero : SameOk Z0 := ⟨⟨by decide, by decide, by decide, by decide, by decide⟩, fun _ h => absurd h (Nat.not_lt_zero _), fun _ h => absurd h (Nat.not_lt_zero _), fun _ h => absurd h (Nat.not_lt_zero _), by decide +kernel⟩
theorem dxB_t {k n : Nat} (h : k < n) : dxB (k : Nat) n = true := by unfold dxB; rw [ixB_t h]; rfl
theorem sf_same {F : Fm.Fd} (h1 : v3B (F.at_ 0) (F.at_ 1) (F.at_ 2) = true) (h2 : feq F.sd F.sd = true) (h3 : F.n ≤ 1000) : FSpec Tryz.prog 25 [.agg F.c, .agg F.c] (bA true) := by
  have lead : Leads Tryz.prog (.loop (loopAt Tryz.f25 0)) (sfS F 0) (.exit 0) (sfS F F.n) := by
    refine loop_rule (fun k => sfS F (k : Nat)) F.n (.exit 0) _ (by simp) (fun k hk => ?_) ?_
    · refine leads_ev (finN_sub _ _) e_nil k_nil noL_ok ((sf_step F (k : Nat)).trans ?_)
      unfold sfC
      rw [dec_lt hk, dxB_t hk, BEq.rfl, w64_next (by omega)]; rfl
    · refine leads_ev (finE_sub _ _) e_nil k_nil noL_ok ((sf_end F (F.n : Nat)).trans ?_)
      unfold sfC
      rw [dec_self, cond_false]
  refine gspec e_nil k_nil Tryz.func25 (by kernel_rfl) (by kernel_rfl) (lok_at 0 1 (by kernel_rfl) (by kernel_rfl) (toldF_sound lead)) rfl ((sf_ev F).trans ?_)
  unfold fdB
  rw [h1, h2, BEq.rfl, BEq.rfl, BEq.rfl, BEq.rfl, gate_pos (Sub.refl _)]; rfl
section
variable {s : Scn}
theorem n1_leads (h : s.nS ≤ 1000) : Leads Tryz.prog (.loop (loopAt Tryz.f12 0)) (snS s 0 5) (.exit 0) (snS s s.nS 5) := by
  refine loop_rule (fun k => snS s (k : Nat) 5) s.nS (.exit 0) _ (by simp) (fun k hk => ?_) ?_
  · refine leads_ev (finN_sub _ _) e_nil k1_ok noL_ok ((n1_step s (k : Nat)).trans ?_)
    unfold n1C
    rw [dec_lt hk, dxB_t hk, Int.toNat_natCast, gate_pos (ss_same _), w64_next (by omega)]; rfl
  · refine leads_ev (finE_sub _ _) e_nil k1_ok noL_ok ((n1_end s (s.nS : Nat)).trans ?_)
    unfold n1C
    rw [dec_self, cond_false]
theorem n4_leads (ok : SameOk s) : Leads Tryz.prog (.loop (loopAt Tryz.f12 3)) (snS s 0 12) (.exit 6) (snS s s.nF 12) := by
  have few := ok.few
  refine loop_rule (fun k => snS s (k : Nat) 12) s.nF (.exit 6) _ (by simp) (fun k hk => ?_) ?_
  · obtain ⟨h1, h2, h3⟩ := ok.fields k hk
    refine leads_ev (finN_sub _ _) e_nil k1_ok noL_ok ((n4_step s (k : Nat)).trans ?_)
    unfold n1C
    rw [dec_lt hk, dxB_t hk, Int.toNat_natCast, gate_pos (sf_same h1 h2 h3), w64_next (by omega)]; rfl
  · refine leads_ev (finE_sub _ _) e_nil k1_ok noL_ok ((n4_end s (s.nF : Nat)).trans ?_)
    unfold n1C
    rw [dec_self, cond_false]
theorem j3_t (a b c : Int) : j3 a b c = true := by unfold j3; rw [BEq.rfl, BEq.rfl, BEq.rfl]; rfl
theorem i10_t (e : Nat → Int) : i10 e = true := by unfold i10; rw [j3_t, j3_t, j3_t, BEq.rfl]; rfl
theorem n5_leads (h : s.nK ≤ 1000) : Leads Tryz.prog (.loop (loopAt Tryz.f12 4)) (snS s 0 14) (.exit 8) (snS s s.nK 14) := by
  refine loop_rule (fun k => snS s (k : Nat) 14) s.nK (.exit 8) _ (by simp) (fun k hk => ?_) ?_
  · refine leads_ev (finN_sub _ _) e_nil k_nil noL_ok ((n5_step s (k : Nat)).trans ?_)
    unfold n5C
    rw [dec_lt hk, dxB_t hk, i10_t, w64_next (by omega)]; rfl
  · refine leads_ev (finE_sub _ _) e_nil k_nil noL_ok ((n5_end s (s.nK : Nat)).trans ?_)
    unfold n5C
    rw [dec_self, cond_false]
theorem n6_leads (ok : SameOk s) : Leads Tryz.prog (.loop (loopAt Tryz.f12 5)) (snS s 0 15) (.exit 10) (snS s s.nL 15) := by
  have few := ok.few
  refine loop_rule (fun k => snS s (k : Nat) 15) s.nL (.exit 10) _ (by simp) (fun k hk => ?_) ?_
  · refine leads_ev (finN_sub _ _) e_nil k_nil noL_ok ((n6_step s (k : Nat)).trans ?_)
    unfold n5C lm6
    rw [dec_lt hk, dxB_t hk, Int.toNat_natCast, ok.lamps k hk, j3_t, w64_next (by omega)]; rfl
  · refine leads_ev (finE_sub _ _) e_nil k_nil noL_ok ((n6_end s (s.nL : Nat)).trans ?_)
    unfold n5C
    rw [dec_self, cond_false]
theorem sSh_self (u : Shp) : sSh u u = true := by
  unfold sSh lkVS
  simp only [like_self, BEq.rfl, cond_true]
theorem pB_f (p : Prt) : pB gSS p = false := by
  unfold pB gSS
  rw [BEq.rfl, BEq.rfl, BEq.rfl, sSh_self]; rfl
theorem n3_leads (i : Int) {o : Sld} (h : o.n ≤ 1000) : Leads Tryz.prog (.loop (loopAt Tryz.f12 2)) (n3S s i o 0) (.exit 4) (n3S s i o o.n) := by
  have en := e_cons eSS_ok e_nil
  refine loop_rule (fun k => n3S s i o (k : Nat)) o.n (.exit 4) _ (by simp) (fun k hk => ?_) ?_
  · refine leads_ev (finN_sub _ _) en k_nil noL_ok ((n3_step gSS s i o (k : Nat)).trans ?_)
    unfold n3C
    rw [dec_lt hk, ixB_t hk, pB_f, w64_next (by omega)]; rfl
  · refine leads_ev (finE_sub _ _) en k_nil noL_ok ((n3_end gSS s i o (o.n : Nat)).trans ?_)
    unfold n3C
    rw [dec_self, cond_false]
theorem n2L_ok {i : Int} {j : Nat} (h : (s.O j).n ≤ 1000) : LOk Tryz.prog (n2L s i j) (loopAt Tryz.f12 1) :=
  lok_at 0 1 (by kernel_rfl) (by kernel_rfl) (toldF_sound (n3_leads i h))
theorem n2_leads (ok : SameOk s) : Leads Tryz.prog (.loop (loopAt Tryz.f12 1)) (snS s 0 6) (.exit 2) (snS s s.nO 6) := by
  have few := ok.few
  refine loop_rule (fun k => snS s (k : Nat) 6) s.nO (.exit 2) _ (by simp) (fun k hk => ?_) ?_
  · refine leads_ev (finN_sub _ _) e_nil k_nil (n2L_ok (by rw [Int.toNat_natCast]; exact ok.parts k hk)) ((n2_step s (k : Nat)).trans ?_)
    unfold n2C
    rw [dec_lt hk, ixB_t hk, BEq.rfl, BEq.rfl, gate_pos (Sub.refl _), w64_next (by omega)]; rfl
  · refine leads_ev (finE_sub _ _) e_nil k_nil (lok_none 16) ((n2_end s (s.nO : Nat)).trans ?_)
    unfold n2C
    rw [dec_self, cond_false]
/-- A scene is the same as itself. -/
theorem sn_same (ok : SameOk s) : FSpec Tryz.prog 12 [.agg s.c, .agg s.c] (bA true) := by
  have few := ok.few
  refine gspec e_nil k_nil Tryz.func12 (by kernel_rfl) (by kernel_rfl) (lok_cons (lok_at 0 6 (by kernel_rfl) (by kernel_rfl) (toldF_sound (n1_leads (by omega)))) (lok_cons (lok_at 1 6 (by kernel_rfl) (by kernel_rfl) (toldF_sound (n2_leads ok))) (lok_cons (lok_at 3 6 (by kernel_rfl) (by kernel_rfl) (toldF_sound (n4_leads ok))) (lok_cons (lok_at 4 6 (by kernel_rfl) (by kernel_rfl) (toldF_sound (n5_leads (by omega)))) (lok_cons (lok_at 5 6 (by kernel_rfl) (by kernel_rfl) (toldF_sound (n6_leads ok))) lok_nil))))) rfl ((sn_ev s).trans ?_)
  have hd : hdB s = false := by
    unfold hdB i3
    rw [ok.eye, BEq.rfl, BEq.rfl, BEq.rfl, BEq.rfl, BEq.rfl, BEq.rfl, BEq.rfl, BEq.rfl]; rfl
  unfold sG
  rw [hd, gate_pos (Sub.refl _), gate_pos (Sub.refl _), gate_pos (Sub.refl _), gate_pos (Sub.refl _), gate_pos (Sub.refl _)]; rfl
end
end Go.Proofs.YtngjiggplabfkaaGreat.Hs.Sc

namespace Go.Proofs.YtngjiggplabfkaaGreat.Hs.So.T3
open Go.Gv
open Go.Ev (cn fadd fsub fmul fdiv fsqrt fneg feq flt fle fgt fge fabs)

section
variable (n : Nat) (hs : Nat → Int) (pf : Int → Int → Int) (tf : Int → Nat) (rf : Int → Int) (vf : Int → Int → Nat → Nat) (x y w : Nat) (fr : Int)
def xK : Int := w64 (1 + pf (rf fr) 6)
def xR : Nat := tf (w64 (1 + pf (rf (w64 (fr + 8))) 2500))
def xA (B C : Nat → Nat) (R Q : Nat) : List AV := [iA (xK pf rf fr), .f (vf (w64 (fr + 1)) 4000 0), .f (vf (w64 (fr + 1)) 4000 1), .f (vf (w64 (fr + 1)) 4000 2), .f (B 0), .f (B 1), .f (B 2), .f (C 0), .f (C 1), .f (C 2), .f R, .f Q, iA (pf (rf (w64 (fr + 7))) 3)]
def xO (B C : Nat → Nat) (R Q : Nat) : Option Out := some (Out.of (.agg (xA pf rf vf fr B C R Q)))
def xB2 : Nat → Nat := ls [fadd (vf (w64 (fr + 1)) 4000 0) (xR pf tf rf fr), fadd (vf (w64 (fr + 1)) 4000 1) (tf (pf (rf (w64 (fr + 5))) 2000)), fadd (vf (w64 (fr + 1)) 4000 2) (tf (pf (rf (w64 (fr + 6))) 2000))]
def xB3 : Nat → Nat := ls [fadd (vf (w64 (fr + 1)) 4000 0) (vf (w64 (fr + 4)) 3000 0), fadd (vf (w64 (fr + 1)) 4000 1) (vf (w64 (fr + 4)) 3000 1), fadd (vf (w64 (fr + 1)) 4000 2) (vf (w64 (fr + 4)) 3000 2)]
def xD : Int := w64 (1 + pf (rf (w64 (fr + 4))) 3)
def xQ : Nat := tf (w64 (1 + w64 ((pf (rf (w64 (fr + 8))) 2500).tdiv (xD pf rf fr))))
noncomputable def xPu (o : Option Out) : Option Out := gate (FSpec Tryz.prog 80 [V 0 0 0, iA (pf (rf (w64 (fr + 6))) 3), .f (tf (w64 (1 + pf (rf (w64 (fr + 5))) 3000)))] (V x y w)) o
noncomputable def x56 : Option Out := gR n hs rf (w64 (fr + 6)) (gR n hs rf (w64 (fr + 5)) (xPu pf tf rf x y w fr (cond (xK pf rf fr == 6) (gR n hs rf (w64 (fr + 8)) (gR n hs rf (w64 (fr + 4)) (cond ((!(xD pf rf fr == 0)) && true) (xO pf rf vf fr (ls [x, y, w]) z3 (xR pf tf rf fr) (xQ pf tf rf fr)) none))) (xO pf rf vf fr (ls [x, y, w]) z3 (xR pf tf rf fr) 0))))
def x4 : Option Out := cond (noughtB (vf (w64 (fr + 4)) 3000 0) (vf (w64 (fr + 4)) 3000 1) (vf (w64 (fr + 4)) 3000 2)) (xO pf rf vf fr (ls [0, one, 0]) z3 (xR pf tf rf fr) 0) (xO pf rf vf fr (vf (w64 (fr + 4)) 3000) z3 (xR pf tf rf fr) 0)
noncomputable def xX : Option Out := gR n hs rf fr (gV n hs vf (w64 (fr + 1)) 4000 (gR n hs rf (w64 (fr + 7)) (gV n hs vf (w64 (fr + 4)) 3000 (gR n hs rf (w64 (fr + 8))
  (cond (xK pf rf fr == 1) (xO pf rf vf fr z3 z3 (xR pf tf rf fr) 0) (cond (xK pf rf fr == 2) (gR n hs rf (w64 (fr + 5)) (gR n hs rf (w64 (fr + 6)) (xO pf rf vf fr (xB2 pf tf rf vf fr) z3 0 0))) (cond (xK pf rf fr == 3) (gV n hs vf (w64 (fr + 9)) 4000 (xO pf rf vf fr (xB3 vf fr) (ls [vf (w64 (fr + 9)) 4000 0, vf (w64 (fr + 9)) 4000 1, vf (w64 (fr + 9)) 4000 2]) 0 0))
    (cond (xK pf rf fr == 5) (cond (xK pf rf fr == 5) (x56 n hs pf tf rf vf x y w fr) (x4 pf tf rf vf fr)) (cond (xK pf rf fr == 6) (x56 n hs pf tf rf vf x y w fr) (x4 pf tf rf vf fr))))))))))
theorem xs_ev : ev Tryz.prog (M1 pf tf) [rwK rf, vcK vf, kS Tryz.prog 80 fun _ => V x y w] noL Tryz.f57 [sI n hs, iA fr, iA 3] ret = xX n hs pf tf rf vf x y w fr := by kernel_rfl
end
theorem xshape {n : Nat} {hs : Nat → Int} (h : Rng n hs) {f : Nat} (hf : f ≤ 200) : ∃ k a sk, FSpec Tryz.prog 57 [sI n hs, iA (f : Nat), iA 3] (.agg (shC k a sk)) := by
  have h : ∀ i, i < n → -9223372036854775808 ≤ hs i ∧ hs i ≤ 9223372036854775807 := h
  have P : ∀ j : Int, 0 ≤ j → j ≤ 20 → 0 ≤ w64 ((f : Int) + j) ∧ w64 ((f : Int) + j) ≤ 1000 := fun j h1 h2 => by rw [w64_id (by omega) (by omega)]; omega
  have p0 : (0 : Int) ≤ (f : Nat) := Int.natCast_nonneg f
  have p1 := P 1 (by decide) (by decide)
  have p4 := P 4 (by decide) (by decide)
  have p5 := P 5 (by decide) (by decide)
  have p6 := P 6 (by decide) (by decide)
  have p7 := P 7 (by decide) (by decide)
  have p8 := P 8 (by decide) (by decide)
  have p9 := P 9 (by decide) (by decide)
  have ax := mpk_range (m := 3) (mrw_range h p6.1).1 (mrw_range h p6.1).2 (by decide)
  have dd := mpk_range (m := 3) (mrw_range h p4.1).1 (mrw_range h p4.1).2 (by decide)
  have hD : xD mpk (mrw n hs) (f : Nat) ≠ 0 := by
    unfold xD
    generalize mpk (mrw n hs (w64 ((f : Nat) + 4))) 3 = z at dd ⊢
    rw [w64_id (by omega) (by omega)]; omega
  obtain ⟨x, y, w, hp⟩ : ∃ x y w, FSpec Tryz.prog 80 [V 0 0 0, iA (mpk (mrw n hs (w64 ((f : Nat) + 6))) 3), .f (mth (w64 (1 + mpk (mrw n hs (w64 ((f : Nat) + 5))) 3000)))] (V x y w) := by
    generalize mth (w64 (1 + mpk (mrw n hs (w64 ((f : Nat) + 5))) 3000)) = t
    have : mpk (mrw n hs (w64 ((f : Nat) + 6))) 3 = 0 ∨ mpk (mrw n hs (w64 ((f : Nat) + 6))) 3 = 1 ∨ mpk (mrw n hs (w64 ((f : Nat) + 6))) 3 = 2 := by omega
    rcases this with e | e | e <;> rw [e]
    · exact ⟨_, _, _, rput0 0 0 0 t⟩
    · exact ⟨_, _, _, rput1 0 0 0 t⟩
    · exact ⟨_, _, _, rput2 0 0 0 t⟩
  have go : ∃ B C R Q, xX n hs mpk mth (mrw n hs) (mve n hs) x y w (f : Nat) = xO mpk (mrw n hs) (mve n hs) (f : Nat) B C R Q ∧ (xK mpk (mrw n hs) (f : Nat) = 2 → R = 0) := by
    have g56 : ∃ B C R Q, x56 n hs mpk mth (mrw n hs) (mve n hs) x y w (f : Nat) = xO mpk (mrw n hs) (mve n hs) (f : Nat) B C R Q := by
      unfold x56 xPu
      rw [gR_pos p6.1, gR_pos p5.1, gate_pos hp, gR_pos p8.1, gR_pos p4.1, beq_false_of_ne hD]
      cases xK mpk (mrw n hs) (f : Nat) == 6
      · exact ⟨_, _, _, _, rfl⟩
      · exact ⟨_, _, _, _, rfl⟩
    unfold xX
    rw [gR_pos p0, gV_pos p1.1 p1.2 (Or.inl rfl), gR_pos p7.1, gV_pos p4.1 p4.2 (Or.inr (Or.inl rfl)), gR_pos p8.1, gR_pos p5.1, gR_pos p6.1, gV_pos p9.1 p9.2 (Or.inl rfl)]
    cases h1 : xK mpk (mrw n hs) (f : Nat) == 1
    · cases h2 : xK mpk (mrw n hs) (f : Nat) == 2
      · have no : ∀ R : Nat, xK mpk (mrw n hs) (f : Nat) = 2 → R = 0 := fun R e => by rw [e] at h2; cases h2
        cases xK mpk (mrw n hs) (f : Nat) == 3
        · cases xK mpk (mrw n hs) (f : Nat) == 5
          · cases xK mpk (mrw n hs) (f : Nat) == 6
            · show ∃ B C R Q, x4 mpk mth (mrw n hs) (mve n hs) (f : Nat) = _ ∧ _
              unfold x4
              cases noughtB (mve n hs (w64 ((f : Nat) + 4)) 3000 0) (mve n hs (w64 ((f : Nat) + 4)) 3000 1) (mve n hs (w64 ((f : Nat) + 4)) 3000 2)
              · exact ⟨_, _, _, _, rfl, no _⟩
              · exact ⟨_, _, _, _, rfl, no _⟩
            · obtain ⟨B, C, R, Q, e⟩ := g56
              exact ⟨B, C, R, Q, e, no _⟩
          · obtain ⟨B, C, R, Q, e⟩ := g56
            exact ⟨B, C, R, Q, e, no _⟩
        · exact ⟨_, _, _, _, rfl, no _⟩
      · exact ⟨_, _, _, _, rfl, fun _ => rfl⟩
    · exact ⟨_, _, _, _, rfl, fun e => by rw [e] at h1; cases h1⟩
  obtain ⟨B, C, R, Q, e, _⟩ := go
  exact ⟨xK mpk (mrw n hs) (f : Nat), ls [mve n hs (w64 ((f : Nat) + 1)) 4000 0, mve n hs (w64 ((f : Nat) + 1)) 4000 1, mve n hs (w64 ((f : Nat) + 1)) 4000 2, B 0, B 1, B 2, C 0, C 1, C 2, R, Q], mpk (mrw n hs (w64 ((f : Nat) + 7))) 3, gspec M1_ok (k_cons kS_ok (k_cons kS_ok (k_cons kS_ok k_nil))) Tryz.func57 (by kernel_rfl) (by kernel_rfl) noL_ok rfl ((xs_ev n hs mpk mth (mrw n hs) (mve n hs) x y w (f : Nat)).trans e)⟩
end Go.Proofs.YtngjiggplabfkaaGreat.Hs.So.T3
namespace Go.Proofs.YtngjiggplabfkaaGreat.Hs.Sc
open Go.Gv So Fm

def shG (g : Int → Shp) : List AV → AV
  | [_, .x (.int .i64 f), _] => .agg (g f).c
  | _ => .any
section
variable (n : Nat) (hs : Nat → Int) (g : Int → Shp) (N i : Int) (m : Nat) (el : Nat → List AV) (S : Nat → Shp)
def shN : St := mkS 25 [(0, sI n hs), (1, iA N), (2, iA 3), (7, .x (.slice none 0 0)), (8, iA 0)] []
def shE : St := mkS 25 [(0, sI n hs), (1, iA N), (2, iA 3), (7, .osl 0 13 0 m), (8, iA i)] [.a 58 13 m el]
def shS : St := shE n hs N i m fun q => (S q).c
def keepS : List Nat := [0, 1, 2, 7, 8]
noncomputable def shO (f : Int) (o : Option Out) : Option Out := gate (FSpec Tryz.prog 57 [sI n hs, iA f, iA 3] (.agg (g f).c)) o
theorem sp_first : evC Tryz.prog [] [kS Tryz.prog 57 (shG g)] noL (loopAt Tryz.f30 0) (shN n hs N) (finN keepS [some 2]) = cond (decide (0 < N)) (shO n hs g (w64 (13 * 0)) (some ⟨.normal, shE n hs N (w64 (0 + 1)) 1 (fun q => mixL (Nat.blt q 0) [] (g (w64 (13 * 0))).c), .any⟩)) none := by kernel_rfl
theorem sp_step : evC Tryz.prog [] [kS Tryz.prog 57 (shG g)] noL (loopAt Tryz.f30 0) (shS n hs N i m S) (finN keepS [some 3]) = cond (decide (i < N)) (shO n hs g (w64 (13 * i)) (cond (apB m 104 || false) (some ⟨.normal, shE n hs N (w64 (i + 1)) (m + 1) (fun q => mixL (Nat.blt q m) (S q).c (g (w64 (13 * i))).c), .any⟩) none)) none := by kernel_rfl
theorem sp_end : evC Tryz.prog [] [kS Tryz.prog 57 (shG g)] noL (loopAt Tryz.f30 0) (shS n hs N i m S) (finE keepS [some 0]) = cond (decide (i < N)) (shO n hs g (w64 (13 * i)) (cond (apB m 104 || false) none none)) (some ⟨.exit 0, shS n hs N i m S, .any⟩) := by kernel_rfl
theorem sp_ev : ev Tryz.prog [] [] (oneL 3 (toldF keepS [] (shN n hs N) (.exit 0) (shS n hs N i m S))) Tryz.f30 [sI n hs, iA N, iA 3] ret = gate (Sub (shN n hs N) (shN n hs N)) (some (Out.of (.sl 13 m fun q => (S (0 + q)).c))) := by kernel_rfl
end
end Go.Proofs.YtngjiggplabfkaaGreat.Hs.Sc

namespace Go.Proofs.YtngjiggplabfkaaGreat.Hs.Sc
open Go.Gv So Fm
open Go.Ev (cn fadd fsub fmul fdiv fsqrt fneg feq flt fle fgt fge fabs)

section
variable (n : Nat) (hs : Nat → Int) (pf : Int → Int → Int) (tf : Int → Nat) (rf : Int → Int) (vf : Int → Int → Nat → Nat) (W H : Int) (x y z d : Nat) (sk i : Int) (m : Nat) (el : Nat → List AV) (h : Nat → Int)
def zF : List AV := [iA 0, iA 0, .f 0, .f 0, .f 0, .f 0, .x (.slice none 0 0), iA 0]
def fc (a : AV) : List AV := [iA W, iA H, .f x, .f y, .f z, .f d, a, iA sk]
def foN : St := mkS 61 [(0, sI n hs), (1, iA 4), (6, .own 0 0), (7, .own 1 0), (8, iA 0)] [.c zF, .c (fc W H x y z d sk (.x (.slice none 0 0)))]
def foE : St := mkS 61 [(0, sI n hs), (1, iA 4), (6, .own 0 0), (7, .own 1 0), (8, iA i)] [.c zF, .c (fc W H x y z d sk (.osl 2 1 0 m)), .a 3 1 m el]
def foS : St := foE n hs W H x y z d sk i m fun q => [iA (h q)]
def keepF : List Nat := [0, 1, 6, 7, 8]
def aq8 (m : Nat) : Bool := ((Nat.ble m m && Nat.ble ((m + 1) * 8) 140737488355328) || false) && true
def hgV (i : Int) : Int := w64 (pf (rf (w64 (w64 (4 + 7) + i))) 2000 - 1000)
theorem fo_first : evC Tryz.prog (MP pf) [rwK rf] noL (loopAt Tryz.f32 0) (foN n hs W H x y z d sk) (finN keepF [some 0, some 1, some 3]) = cond (decide (0 < w64 (W * H))) (gR n hs rf (w64 (w64 (4 + 7) + 0)) (some ⟨.normal, foE n hs W H x y z d sk (w64 (0 + 1)) 1 (fun q => mixL (Nat.blt q 0) [] [iA (hgV pf rf 0)]), .any⟩)) none := by kernel_rfl
theorem fo_step : evC Tryz.prog (MP pf) [rwK rf] noL (loopAt Tryz.f32 0) (foS n hs W H x y z d sk i m h) (finN keepF [some 0, some 1, some 4]) = cond (decide (i < w64 (W * H))) (gR n hs rf (w64 (w64 (4 + 7) + i)) (cond (aq8 m) (some ⟨.normal, foE n hs W H x y z d sk (w64 (i + 1)) (m + 1) (fun q => mixL (Nat.blt q m) [iA (h q)] [iA (hgV pf rf i)]), .any⟩) none)) none := by kernel_rfl
theorem fo_end : evC Tryz.prog (MP pf) [rwK rf] noL (loopAt Tryz.f32 0) (foS n hs W H x y z d sk i m h) (finE keepF [some 0, some 1, some 2]) = cond (decide (i < w64 (W * H))) (gR n hs rf (w64 (w64 (4 + 7) + i)) (cond (aq8 m) none none)) (some ⟨.exit 0, foS n hs W H x y z d sk i m h, .any⟩) := by kernel_rfl
def dm (k : Int) : Int := w64 (2 + pf (rf k) 3)
noncomputable def foW : Option Out := gR n hs rf 4 (gR n hs rf (w64 (4 + 1)) (gV n hs vf (w64 (4 + 2)) 3000 (gR n hs rf (w64 (4 + 5)) (gR n hs rf (w64 (4 + 6)) (gate (Sub (foN n hs (dm pf rf 4) (dm pf rf (w64 (4 + 1))) (vf (w64 (4 + 2)) 3000 0) (vf (w64 (4 + 2)) 3000 1) (vf (w64 (4 + 2)) 3000 2) (tf (w64 (300 + pf (rf (w64 (4 + 5))) 1500))) (pf (rf (w64 (4 + 6))) 3)) (foN n hs W H x y z d sk)) (cond (((Nat.beq m m) && true) || false) (some (Out.of (.agg (fc W H x y z d sk (.sl 1 m fun q => [iA (h q)]))))) none))))))
theorem fo_ev : evZ Tryz.prog (M0 pf tf) [rwK rf, vcK vf] [] (oneL 3 (toldF keepF [some 0, some 1] (foN n hs W H x y z d sk) (.exit 0) (foS n hs W H x y z d sk i m h))) (oneZ 6 (frzK 2)) Tryz.f32 [sI n hs, iA 4, iA 3] ret = foW n hs pf tf rf vf W H x y z d sk m h := by kernel_rfl
end
theorem aq8_t {m : Nat} (h : m ≤ 1000) : aq8 m = true := by
  unfold aq8
  rw [Nat.ble_eq_true_of_le (Nat.le_refl m), Nat.ble_eq_true_of_le (show (m + 1) * 8 ≤ 140737488355328 by omega)]; rfl
/-- A field made of raw numbers. -/
theorem fieldOf_spec {n : Nat} {hs : Nat → Int} (h : Rng n hs) : ∃ F : Fm.Fd, FSpec Tryz.prog 32 [sI n hs, iA 4, iA 3] (.agg F.c) := by
  have h' : ∀ i, i < n → -9223372036854775808 ≤ hs i ∧ hs i ≤ 9223372036854775807 := h
  have rg : ∀ k m : Int, 0 ≤ k → 0 < m → 0 ≤ mpk (mrw n hs k) m ∧ mpk (mrw n hs k) m < m := fun k m hk hm => mpk_range (mrw_range h' hk).1 (mrw_range h' hk).2 hm
  have r1 := rg 4 3 (by decide) (by decide)
  have r2 := rg (w64 (4 + 1)) 3 (by decide) (by decide)
  obtain ⟨N, hN, h1, h2⟩ : ∃ N : Nat, w64 (dm mpk (mrw n hs) 4 * dm mpk (mrw n hs) (w64 (4 + 1))) = (N : Int) ∧ 1 ≤ N ∧ N ≤ 16 := by
    unfold dm
    generalize mpk (mrw n hs 4) 3 = a at r1 ⊢
    generalize mpk (mrw n hs (w64 (4 + 1))) 3 = b at r2 ⊢
    have ha : a = 0 ∨ a = 1 ∨ a = 2 := by omega
    have hb : b = 0 ∨ b = 1 ∨ b = 2 := by omega
    rcases ha with rfl | rfl | rfl <;> rcases hb with rfl | rfl | rfl <;> first | exact ⟨4, by decide, by decide, by decide⟩ | exact ⟨6, by decide, by decide, by decide⟩ | exact ⟨8, by decide, by decide, by decide⟩ | exact ⟨9, by decide, by decide, by decide⟩ | exact ⟨12, by decide, by decide, by decide⟩ | exact ⟨16, by decide, by decide, by decide⟩
  generalize hW : dm mpk (mrw n hs) 4 = W at hN
  generalize hH : dm mpk (mrw n hs) (w64 (4 + 1)) = H at hN
  generalize hx : mve n hs (w64 (4 + 2)) 3000 0 = x
  generalize hy : mve n hs (w64 (4 + 2)) 3000 1 = y
  generalize hz : mve n hs (w64 (4 + 2)) 3000 2 = z
  generalize hd : mth (w64 (300 + mpk (mrw n hs (w64 (4 + 5))) 1500)) = d
  generalize hk : mpk (mrw n hs (w64 (4 + 6))) 3 = sk
  have pos : ∀ k : Nat, k ≤ 100 → 0 ≤ w64 (w64 (4 + 7) + (k : Int)) := fun k hk => by rw [show w64 (4 + 7) = 11 by decide, w64_id (by omega) (by omega)]; omega
  have lead : Leads Tryz.prog (.loop (loopAt Tryz.f32 0)) (foN n hs W H x y z d sk) (.exit 0) (foS n hs W H x y z d sk (N : Nat) N fun q => hgV mpk (mrw n hs) (q : Nat)) := by
    refine loop_rule (fun k => match k with | 0 => foN n hs W H x y z d sk | k + 1 => foS n hs W H x y z d sk ((k + 1 : Nat) : Int) (k + 1) fun q => hgV mpk (mrw n hs) (q : Nat)) N (.exit 0) _ (by simp) (fun k hk => ?_) ?_
    · cases k with
      | zero =>
        have hl : Leads Tryz.prog (loopAt Tryz.f32 0) (foN n hs W H x y z d sk) .normal (foE n hs W H x y z d sk ((0 + 1 : Nat) : Int) 1 (fun q => mixL (Nat.blt q 0) [] [iA (hgV mpk (mrw n hs) 0)])) := by
          refine leads_ev (finN_sub _ _) MP_ok (k_cons kS_ok k_nil) noL_ok ((fo_first n hs mpk (mrw n hs) W H x y z d sk).trans ?_)
          rw [hN, decide_eq_true (show (0 : Int) < (N : Nat) by omega), cond_true]
          exact gR_pos (by decide)
        refine hl.sub (Sub.refl _) (sub_like ⟨Or.inl rfl, Or.inl rfl, Or.inr (Or.inl ⟨3, 1, 1, _, _, rfl, rfl, fun q hq => ?_⟩), trivial⟩)
        obtain rfl : q = 0 := Nat.lt_one_iff.1 hq
        exact like_eq rfl
      | succ k =>
        have hl : Leads Tryz.prog (loopAt Tryz.f32 0) (foS n hs W H x y z d sk ((k + 1 : Nat) : Int) (k + 1) fun q => hgV mpk (mrw n hs) (q : Nat)) .normal (foE n hs W H x y z d sk ((k + 1 + 1 : Nat) : Int) (k + 1 + 1) (fun q => mixL (Nat.blt q (k + 1)) [iA (hgV mpk (mrw n hs) (q : Nat))] [iA (hgV mpk (mrw n hs) ((k + 1 : Nat) : Int))])) := by
          refine leads_ev (finN_sub _ _) MP_ok (k_cons kS_ok k_nil) noL_ok ((fo_step n hs mpk (mrw n hs) W H x y z d sk ((k + 1 : Nat) : Int) (k + 1) fun q => hgV mpk (mrw n hs) (q : Nat)).trans ?_)
          rw [hN, dec_lt hk, cond_true, gR_pos (pos _ (by omega)), aq8_t (by omega), w64_next (n := k + 1) (by omega)]; rfl
        refine hl.sub (Sub.refl _) (sub_like ⟨Or.inl rfl, Or.inl rfl, Or.inr (Or.inl ⟨3, 1, k + 1 + 1, _, _, rfl, rfl, fun q hq => like_eq ?_⟩), trivial⟩)
        rw [mixI]
        cases hb : Nat.blt q (k + 1)
        · have := not_blt hb
          obtain rfl : q = k + 1 := by omega
          rfl
        · rfl
    · obtain ⟨k, rfl⟩ : ∃ k, N = k + 1 := ⟨N - 1, by omega⟩
      refine leads_ev (finE_sub _ _) MP_ok (k_cons kS_ok k_nil) noL_ok ((fo_end n hs mpk (mrw n hs) W H x y z d sk ((k + 1 : Nat) : Int) (k + 1) fun q => hgV mpk (mrw n hs) (q : Nat)).trans ?_)
      rw [hN, dec_self, cond_false]
  refine ⟨⟨W, H, ls [x, y, z], d, N, fun q => hgV mpk (mrw n hs) (q : Nat), sk⟩, So.gspecZ (oneZ_ok (frzK_ok 2)) M0_ok (k_cons kS_ok (k_cons kS_ok k_nil)) m_nil Tryz.func32 (by kernel_rfl) (by kernel_rfl) (lok_at 0 1 (by kernel_rfl) (by kernel_rfl) (toldF_sound lead)) rfl ((fo_ev n hs mpk mth (mrw n hs) (mve n hs) W H x y z d sk (N : Nat) N fun q => hgV mpk (mrw n hs) (q : Nat)).trans ?_)⟩
  unfold foW
  rw [gR_pos (by decide), gR_pos (by decide), gV_pos (by decide) (by decide) (Or.inr (Or.inl rfl)), gR_pos (by decide), gR_pos (by decide), hW, hH, hx, hy, hz, hd, hk, gate_pos (Sub.refl _), show Nat.beq N N = true from Nat.beq_refl N]
  rfl
/-- Shapes made of raw numbers. -/
theorem shapesOf_spec {n : Nat} {hs : Nat → Int} (h : Rng n hs) {N : Nat} (h1 : 1 ≤ N) (h2 : N ≤ 10) : ∃ S : Nat → Shp, FSpec Tryz.prog 30 [sI n hs, iA (N : Nat), iA 3] (.sl 13 N fun q => (S q).c) := by
  have hx : ∀ f : Int, ∃ y : Shp, ∀ g : Nat, f = (g : Nat) → g ≤ 200 → FSpec Tryz.prog 57 [sI n hs, iA (g : Nat), iA 3] (.agg y.c) := fun f => by
    by_cases hf : 0 ≤ f ∧ f ≤ 200
    · obtain ⟨k, a, sk, hk⟩ := So.T3.xshape h (f := f.toNat) (by omega)
      refine ⟨⟨k, a, sk⟩, fun g hg _ => ?_⟩
      have : f.toNat = g := by omega
      subst this
      exact hk
    · exact ⟨⟨0, fun _ => 0, 0⟩, fun g hg hg' => absurd ⟨by omega, by omega⟩ hf⟩
  obtain ⟨G, hG⟩ := Classical.axiomOfChoice hx
  have pos : ∀ k : Nat, k ≤ 10 → ∀ o, shO n hs G (w64 (13 * (k : Int))) o = o := fun k hk o => by
    have e : w64 (13 * (k : Int)) = ((13 * k : Nat) : Int) := by rw [w64_id (by omega) (by omega)]; omega
    unfold shO
    rw [e]
    exact gate_pos (hG _ (13 * k) rfl (by omega))
  have lead : Leads Tryz.prog (.loop (loopAt Tryz.f30 0)) (shN n hs (N : Nat)) (.exit 0) (shS n hs (N : Nat) (N : Nat) N fun q => G (w64 (13 * ((q : Nat) : Int)))) := by
    refine loop_rule (fun k => match k with | 0 => shN n hs (N : Nat) | k + 1 => shS n hs (N : Nat) ((k + 1 : Nat) : Int) (k + 1) fun q => G (w64 (13 * ((q : Nat) : Int)))) N (.exit 0) _ (by simp) (fun k hk => ?_) ?_
    · cases k with
      | zero =>
        have hl : Leads Tryz.prog (loopAt Tryz.f30 0) (shN n hs (N : Nat)) .normal (shE n hs (N : Nat) ((0 + 1 : Nat) : Int) 1 (fun q => mixL (Nat.blt q 0) [] (G (w64 (13 * 0))).c)) := by
          refine leads_ev (finN_sub _ _) e_nil k1_ok noL_ok ((sp_first n hs G (N : Nat)).trans ?_)
          rw [decide_eq_true (show (0 : Int) < (N : Nat) by omega), cond_true]
          exact pos 0 (by decide) _
        refine hl.sub (Sub.refl _) (sub_like ⟨Or.inr (Or.inl ⟨58, 13, 1, _, _, rfl, rfl, fun q hq => ?_⟩), trivial⟩)
        obtain rfl : q = 0 := Nat.lt_one_iff.1 hq
        exact like_eq rfl
      | succ k =>
        have hl : Leads Tryz.prog (loopAt Tryz.f30 0) (shS n hs (N : Nat) ((k + 1 : Nat) : Int) (k + 1) fun q => G (w64 (13 * ((q : Nat) : Int)))) .normal (shE n hs (N : Nat) ((k + 1 + 1 : Nat) : Int) (k + 1 + 1) (fun q => mixL (Nat.blt q (k + 1)) (G (w64 (13 * ((q : Nat) : Int)))).c (G (w64 (13 * ((k + 1 : Nat) : Int)))).c)) := by
          refine leads_ev (finN_sub _ _) e_nil k1_ok noL_ok ((sp_step n hs G (N : Nat) ((k + 1 : Nat) : Int) (k + 1) fun q => G (w64 (13 * ((q : Nat) : Int)))).trans ?_)
          rw [dec_lt hk, cond_true, pos _ (by omega), apB_t (by omega), w64_next (n := k + 1) (by omega)]; rfl
        refine hl.sub (Sub.refl _) (sub_like ⟨Or.inr (Or.inl ⟨58, 13, k + 1 + 1, _, _, rfl, rfl, fun q hq => like_eq ?_⟩), trivial⟩)
        rw [mix_S]
        cases hb : Nat.blt q (k + 1)
        · have := not_blt hb
          obtain rfl : q = k + 1 := by omega
          rfl
        · rfl
    · obtain ⟨k, rfl⟩ : ∃ k, N = k + 1 := ⟨N - 1, by omega⟩
      refine leads_ev (finE_sub _ _) e_nil k1_ok noL_ok ((sp_end n hs G ((k + 1 : Nat) : Int) ((k + 1 : Nat) : Int) (k + 1) fun q => G (w64 (13 * ((q : Nat) : Int)))).trans ?_)
      rw [dec_self, cond_false]
  refine ⟨fun q => G (w64 (13 * ((q : Nat) : Int))), FSpec.of_val (gspec e_nil k_nil Tryz.func30 (by kernel_rfl) (by kernel_rfl) (lok_at 0 1 (by kernel_rfl) (by kernel_rfl) (toldF_sound lead)) rfl ((sp_ev n hs (N : Nat) (N : Nat) N fun q => G (w64 (13 * ((q : Nat) : Int)))).trans (gate_pos (Sub.refl _)))) fun _ _ hr => ?_⟩
  exact sl_like hr fun q _ => by rw [Nat.zero_add]
end Go.Proofs.YtngjiggplabfkaaGreat.Hs.Sc

namespace Go.Proofs.YtngjiggplabfkaaGreat.Hs.Sc
open Go.Gv So Fm
open Go.Ev (cn fadd fsub fmul fdiv fsqrt fneg feq flt fle fgt fge fabs)

abbrev nilA : AV := .x (.slice none 0 0)
def scW (a b c d e : AV) (u v w : Int) (x y r : Nat) : List AV := [a, b, c, d, e, iA u, iA v, iA w, .f x, .f y, .f 13842939354630062080, .f 0, .f 0, .f 0, .f 0, .f 4607182418800017408, .f 0, .f r]
def soG (G : Int → Sld) : List AV → AV
  | [_, .x (.int .i64 f), _] => .agg (G f).c
  | _ => .any
section
variable (n : Nat) (hs : Nat → Int) (pf : Int → Int → Int) (tf : Int → Nat) (rf : Int → Int) (vf : Int → Int → Nat → Nat) (G : Int → Sld) (N : Int) (x y r : Nat) (u v w : Int) (i : Int) (m l : Nat) (el el' : Nat → List AV) (K : Nat → Nat → Int) (A : Nat → Nat → Nat) (L : Nat → Nat → Int) (s : AV) (O : Nat → Sld)
def c1E : St := mkS 169 [(0, sI n hs), (1, iA N), (4, .own 0 0), (5, .own 1 0), (6, iA i)] [.c zS, .c (scW nilA nilA nilA (.osl 2 10 0 m) nilA 0 0 0 x y r), .a 72 10 m el]
def c1S : St := c1E n hs N x y r i m fun q => skC (K q)
def keepA1 : List Nat := [0, 1, 4, 5, 6]
noncomputable def sk3 (c : Int) (o : Option Out) : Option Out := gR n hs rf (w64 (w64 (11 + w64 (3 * i)) + c)) (gR n hs rf (w64 (w64 (12 + w64 (2 * i)) + c)) (gR n hs rf (w64 (w64 (13 + w64 (5 * i)) + c)) o))
def skN (q : Nat) : Int := match q with
  | 0 => pf (rf (w64 (w64 (11 + w64 (3 * i)) + 0))) 401
  | 1 => pf (rf (w64 (w64 (11 + w64 (3 * i)) + 1))) 401
  | 2 => pf (rf (w64 (w64 (11 + w64 (3 * i)) + 2))) 401
  | 3 => w64 (pf (rf (w64 (w64 (12 + w64 (2 * i)) + 0))) 301 * i.tmod 2)
  | 4 => w64 (pf (rf (w64 (w64 (12 + w64 (2 * i)) + 1))) 301 * i.tmod 2)
  | 5 => w64 (pf (rf (w64 (w64 (12 + w64 (2 * i)) + 2))) 301 * i.tmod 2)
  | 6 => w64 (pf (rf (w64 (w64 (13 + w64 (5 * i)) + 0))) 301 * w64 (i.tdiv 2))
  | 7 => w64 (pf (rf (w64 (w64 (13 + w64 (5 * i)) + 1))) 301 * w64 (i.tdiv 2))
  | 8 => w64 (pf (rf (w64 (w64 (13 + w64 (5 * i)) + 2))) 301 * w64 (i.tdiv 2))
  | _ => w64 (700 + pf (rf (w64 (6 + i))) 1500)
noncomputable def c1C (o oe : Option Out) : Option Out := cond (decide (i < 3)) (gR n hs rf (w64 (6 + i)) (sk3 n hs rf i 0 (sk3 n hs rf i 1 (sk3 n hs rf i 2 (cond (apB m 80 || false) o none))))) oe
theorem c1_step : evC Tryz.prog (M0 pf tf) [rwK rf] noL (loopAt Tryz.f14 0) (c1S n hs N x y r i m K) (finN keepA1 [some 0, some 1, some 5]) = c1C n hs rf i m (some ⟨.normal, c1E n hs N x y r (w64 (i + 1)) (m + 1) (fun q => mixL (Nat.blt q m) (skC (K q)) (skC (skN pf rf i))), .any⟩) none := by kernel_rfl
theorem c1_end : evC Tryz.prog (M0 pf tf) [rwK rf] noL (loopAt Tryz.f14 0) (c1S n hs N x y r i m K) (finE keepA1 [some 0, some 1, some 2]) = c1C n hs rf i m none (some ⟨.exit 0, c1S n hs N x y r i m K, .any⟩) := by kernel_rfl
def c3E : St := mkS 169 [(0, sI n hs), (1, iA N), (4, .own 0 0), (5, .own 1 0), (9, iA i)] [.c zS, .c (scW nilA nilA nilA (.osl 2 10 0 3) (.osl 3 6 0 m) 0 0 0 x y r), .a 72 10 3 fun q => skC (K q), .a 74 6 m el]
def c3S : St := c3E n hs N x y r i m (fun q => lmC (A q) (L q)) K
def keepA3 : List Nat := [0, 1, 4, 5, 9]
def lpN (c : Int) : Int := pf (w64 (rf (w64 (w64 (21 + i) + c)) * 977)) 65537
def lmN : List AV := [.f (vf (w64 (17 + w64 (4 * i))) 6000 0), .f (vf (w64 (17 + w64 (4 * i))) 6000 1), .f (vf (w64 (17 + w64 (4 * i))) 6000 2), iA (lpN pf rf i 0), iA (lpN pf rf i 1), iA (lpN pf rf i 2)]
noncomputable def c3C (o oe : Option Out) : Option Out := gR n hs rf 1 (cond (decide (i < pf (rf 1) 3)) (gV n hs vf (w64 (17 + w64 (4 * i))) 6000 (gR n hs rf (w64 (w64 (21 + i) + 0)) (gR n hs rf (w64 (w64 (21 + i) + 1)) (gR n hs rf (w64 (w64 (21 + i) + 2)) (cond (apB m 48 || false) o none))))) oe)
theorem c3_step : evC Tryz.prog (M0 pf tf) [rwK rf, vcK vf] noL (loopAt Tryz.f14 2) (c3S n hs N x y r i m K A L) (finN keepA3 [some 0, some 1, some 2, some 6]) = c3C n hs pf rf vf i m (some ⟨.normal, c3E n hs N x y r (w64 (i + 1)) (m + 1) (fun q => mixL (Nat.blt q m) (lmC (A q) (L q)) (lmN pf rf vf i)) K, .any⟩) none := by kernel_rfl
theorem c3_end : evC Tryz.prog (M0 pf tf) [rwK rf, vcK vf] noL (loopAt Tryz.f14 2) (c3S n hs N x y r i m K A L) (finE keepA3 [some 0, some 1, some 2, some 3]) = c3C n hs pf rf vf i m none (some ⟨.exit 4, c3S n hs N x y r i m K A L, .any⟩) := by kernel_rfl
def c6E : St := mkS 169 [(0, sI n hs), (1, iA N), (4, .own 0 0), (5, .own 1 0), (13, iA i)] [.c zS, .c (scW s (.osl 4 2 0 m) nilA (.osl 2 10 0 3) (.osl 3 6 0 l) u v w x y r), .a 72 10 3 fun q => skC (K q), .a 74 6 l fun q => lmC (A q) (L q), .a 65 2 m el]
def c6S (S : Nat → Shp) (NS : Nat) : St := c6E n hs N x y r u v w i m l (fun q => (O q).c) K A L (.sl 13 NS fun q => (S q).c)
def keepA6 : List Nat := [0, 1, 4, 5, 13]
noncomputable def c6C (o oe : Option Out) : Option Out := gR n hs rf 9 (cond (decide (i < pf (rf 9) 3)) (gate (FSpec Tryz.prog 31 [sI n hs, iA (w64 (5 + w64 (7 * i))), iA 3] (.agg (G (w64 (5 + w64 (7 * i)))).c)) (cond ((apB m 32 || false) && true) o none)) oe)
theorem c6_step (S : Nat → Shp) (NS : Nat) : evC Tryz.prog (M0 pf tf) [rwK rf, kS Tryz.prog 31 (soG G)] noL (loopAt Tryz.f14 5) (c6S n hs N x y r u v w i m l K A L O S NS) (finN keepA6 [some 0, some 1, some 2, some 3, some 6]) = c6C n hs pf rf G i m (some ⟨.normal, c6E n hs N x y r u v w (w64 (i + 1)) (m + 1) l (fun q => mixL (Nat.blt q m) (O q).c (G (w64 (5 + w64 (7 * i)))).c) K A L (.sl 13 NS fun q => (S q).c), .any⟩) none := by kernel_rfl
theorem c6_end (S : Nat → Shp) (NS : Nat) : evC Tryz.prog (M0 pf tf) [rwK rf, kS Tryz.prog 31 (soG G)] noL (loopAt Tryz.f14 5) (c6S n hs N x y r u v w i m l K A L O S NS) (finE keepA6 [some 0, some 1, some 2, some 3, some 4]) = c6C n hs pf rf G i m none (some ⟨.exit 10, c6S n hs N x y r u v w i m l K A L O S NS, .any⟩) := by kernel_rfl
end
end Go.Proofs.YtngjiggplabfkaaGreat.Hs.Sc

namespace Go.Gv
/-- A row is frozen, if it is there. -/
def frzO (k : Nat) : ZFun := fun s kont => match s.mem[k]? with
  | some (.a _ _ _ _) => frzK k s kont
  | _ => kont s
theorem frzO_ok (k : Nat) : ZSoundN 0 (frzO k) := fun s kont r h => by
  unfold frzO at h
  split at h
  · exact frzK_ok k s kont r h
  · exact ⟨s, h, Sub.refl s⟩
end Go.Gv
namespace Go.Proofs.YtngjiggplabfkaaGreat.Hs.Sc
open Go.Gv So Fm
open Go.Ev (cn fadd fsub fmul fdiv fsqrt fneg feq flt fle fgt fge fabs)

section
variable (n : Nat) (hs : Nat → Int) (pf : Int → Int → Int) (tf : Int → Nat) (rf : Int → Int) (vf : Int → Int → Nat → Nat) (mf : Int → Int → Nat) (G : Int → Sld) (F : Fm.Fd) (N : Int) (NL NO : Nat) (K : Nat → Nat → Int) (A : Nat → Nat → Nat) (L : Nat → Nat → Int) (O : Nat → Sld) (S : Nat → Shp) (NS : Nat)
abbrev eX : Nat := mf (rf 3) 2000
abbrev eY : Nat := mf (rf 4) 2000
abbrev eW : Nat := tf (w64 (500 + pf (rf 5) 1500))
abbrev skyN (c : Int) : Int := pf (w64 (rf (w64 (2 + c)) * 661)) 65537
noncomputable def scL : Nat → Option LFun := manyL [(3, toldC keepA1 1 [(3, 2, 10)] (.a 72 10 0 fun q => skC (K q)) [some 0, some 1, none] (c1S n hs N (eX rf mf) (eY rf mf) (eW pf tf rf) 0 0 K) (.exit 0) (c1S n hs N (eX rf mf) (eY rf mf) (eW pf tf rf) 3 3 K)),
  (14, toldC keepA3 1 [(4, 3, 6)] (.a 74 6 0 fun q => lmC (A q) (L q)) [some 0, some 1, some 2, none] (c3S n hs N (eX rf mf) (eY rf mf) (eW pf tf rf) 0 0 K A L) (.exit 4) (c3S n hs N (eX rf mf) (eY rf mf) (eW pf tf rf) NL NL K A L)),
  (28, toldC keepA6 1 [(1, 4, 2)] (.a 65 2 0 fun q => (O q).c) [some 0, some 1, some 2, some 3, none] (c6S n hs N (eX rf mf) (eY rf mf) (eW pf tf rf) (skyN pf rf 0) (skyN pf rf 1) (skyN pf rf 2) 0 0 NL K A L O S NS) (.exit 10) (c6S n hs N (eX rf mf) (eY rf mf) (eW pf tf rf) (skyN pf rf 0) (skyN pf rf 1) (skyN pf rf 2) NO NO NL K A L O S NS))]
def scZ : Nat → Option ZFun := fun j => cond (Nat.beq j 33) (some (zThen (frzK 2) (zThen (frzK 3) (zThen (frzK 4) (frzO 6))))) none
noncomputable def scK : List KEntry := [rwK rf, vcK vf, kS Tryz.prog 26 (miG' mf), kS Tryz.prog 30 (fun _ => .sl 13 NS fun q => (S q).c), kS Tryz.prog 32 (fun _ => .agg F.c)]
def scO (f : AV) : Option Out := cond (fzB NL) (cond (fzB NO) (some (Out.of (.agg (scW (.sl 13 NS fun q => (S q).c) (.sl 2 NO fun q => (O q).c) f (.sl 10 3 fun q => skC (K q)) (.sl 6 NL fun q => lmC (A q) (L q)) (skyN pf rf 0) (skyN pf rf 1) (skyN pf rf 2) (eX rf mf) (eY rf mf) (eW pf tf rf))))) none) none
noncomputable def scX : Option Out := gR n hs rf 3 (gMi mf (rf 3) 2000 (gR n hs rf 4 (gMi mf (rf 4) 2000 (gR n hs rf 5 (gate (Sub (c1S n hs N (eX rf mf) (eY rf mf) (eW pf tf rf) 0 0 K) (c1S n hs N (eX rf mf) (eY rf mf) (eW pf tf rf) 0 0 K)) (gate (Sub (c3S n hs N (eX rf mf) (eY rf mf) (eW pf tf rf) 0 0 K A L) (c3S n hs N (eX rf mf) (eY rf mf) (eW pf tf rf) 0 0 K A L)) (gR n hs rf (w64 (2 + 0)) (gR n hs rf (w64 (2 + 1)) (gR n hs rf (w64 (2 + 2)) (gate (FSpec Tryz.prog 30 [sI n hs, iA N, iA 3] (.sl 13 NS fun q => (S q).c)) (gate (Sub (c6S n hs N (eX rf mf) (eY rf mf) (eW pf tf rf) (skyN pf rf 0) (skyN pf rf 1) (skyN pf rf 2) 0 0 NL K A L O S NS) (c6S n hs N (eX rf mf) (eY rf mf) (eW pf tf rf) (skyN pf rf 0) (skyN pf rf 1) (skyN pf rf 2) 0 0 NL K A L O S NS)) (gR n hs rf 8 (cond (pf (rf 8) 3 == 0) (gate (FSpec Tryz.prog 32 [sI n hs, iA 4, iA 3] (.agg F.c)) (scO pf tf rf mf NL NO K A L O S NS (.sl 8 1 fun q => mixL (Nat.blt q 0) [] F.c))) (scO pf tf rf mf NL NO K A L O S NS nilA))))))))))))))
theorem sc_ev : evZ Tryz.prog (M0 pf tf) (scK rf vf mf F S NS) [] (scL n hs pf tf rf mf N NL NO K A L O S NS) scZ Tryz.f14 [sI n hs, iA N] ret = scX n hs pf tf rf mf F N NL NO K A L O S NS := by kernel_rfl
theorem mil6_ev (c : Int) : ev Tryz.prog (M0 pf tf) [] noL Tryz.f26 [iA c, iA 2000] ret = some (Out.of (.f (mmi pf tf c 2000))) := by kernel_rfl
end
theorem mmilli2 (c : Int) : FSpec Tryz.prog 26 [iA c, iA 2000] (.f (mmi mpk mth c 2000)) := gspec M0_ok k_nil Tryz.func26 (by kernel_rfl) (by kernel_rfl) noL_ok rfl (mil6_ev mpk mth c)
theorem scZ_ok : ∀ i h, scZ i = some h → ZSoundN 0 h := fun i h e => by
  unfold scZ at e
  cases h1 : Nat.beq i 33
  · rw [h1] at e; cases e
  · rw [h1, cond_true] at e; cases e; exact zThen_ok (frzK_ok 2) (zThen_ok (frzK_ok 3) (zThen_ok (frzK_ok 4) (frzO_ok 6)))
section
variable {n : Nat} {hs : Nat → Int} {N : Int} {x y r : Nat}
theorem p2 {a b c : Int} {k : Nat} (ha : 0 ≤ a) (ha' : a ≤ 100) (hb : 0 ≤ b) (hb' : b ≤ 10) (hc : 0 ≤ c) (hc' : c ≤ 10) (hk : k ≤ 10) : 0 ≤ w64 (w64 (a + w64 (b * (k : Int))) + c) := by
  have h1 : 0 ≤ b * (k : Int) ∧ b * (k : Int) ≤ 100 := by
    refine ⟨Int.mul_nonneg hb (by omega), ?_⟩
    have : b * (k : Int) ≤ 10 * 10 := Int.mul_le_mul hb' (by omega) (by omega) (by decide)
    omega
  rw [w64_id (n := b * (k : Int)) (by omega) (by omega), w64_id (n := a + b * (k : Int)) (by omega) (by omega), w64_id (by omega) (by omega)]
  omega
theorem mix_K (b : Bool) (k j : Nat → Int) : mixL b (skC k) (skC j) = skC (cond b k j) := by cases b <;> rfl
theorem mix_L (b : Bool) (a c : Nat → Nat) (k j : Nat → Int) : mixL b (lmC a k) (lmC c j) = lmC (cond b a c) (cond b k j) := by cases b <;> rfl
theorem mix_O2 (b : Bool) (a c : Sld) : mixL b a.c c.c = (cond b a c).c := by cases b <;> rfl
theorem c1_leads : Leads Tryz.prog (.loop (loopAt Tryz.f14 0)) (c1S n hs N x y r 0 0 fun q => skN mpk (mrw n hs) (q : Nat)) (.exit 0) (c1S n hs N x y r 3 3 fun q => skN mpk (mrw n hs) (q : Nat)) := by
  refine loop_rule (fun k => c1S n hs N x y r (k : Nat) k fun q => skN mpk (mrw n hs) (q : Nat)) 3 (.exit 0) _ (by simp) (fun k hk => ?_) ?_
  · have hl : Leads Tryz.prog (loopAt Tryz.f14 0) (c1S n hs N x y r (k : Nat) k fun q => skN mpk (mrw n hs) (q : Nat)) .normal (c1E n hs N x y r ((k + 1 : Nat) : Int) (k + 1) (fun q => mixL (Nat.blt q k) (skC (skN mpk (mrw n hs) (q : Nat))) (skC (skN mpk (mrw n hs) (k : Nat))))) := by
      refine leads_ev (finN_sub _ _) M0_ok (k_cons kS_ok k_nil) noL_ok ((c1_step n hs mpk mth (mrw n hs) N x y r (k : Nat) k fun q => skN mpk (mrw n hs) (q : Nat)).trans ?_)
      unfold c1C sk3
      rw [decide_eq_true (show ((k : Nat) : Int) < 3 by omega), cond_true, gR_pos (show 0 ≤ w64 (6 + (k : Int)) by rw [w64_id (by omega) (by omega)]; omega)]
      iterate 3 rw [gR_pos (p2 (by decide) (by decide) (by decide) (by decide) (by decide) (by decide) (by omega)), gR_pos (p2 (by decide) (by decide) (by decide) (by decide) (by decide) (by decide) (by omega)), gR_pos (p2 (by decide) (by decide) (by decide) (by decide) (by decide) (by decide) (by omega))]
      rw [apB_t (by omega), w64_next (n := k) (by omega)]; rfl
    refine hl.sub (Sub.refl _) (sub_like ⟨Or.inl rfl, Or.inl rfl, Or.inr (Or.inl ⟨72, 10, k + 1, _, _, rfl, rfl, fun q hq => like_eq ?_⟩), trivial⟩)
    rw [mix_K]
    cases hb : Nat.blt q k
    · have := not_blt hb
      obtain rfl : q = k := by omega
      rfl
    · rfl
  · exact leads_ev (finE_sub _ _) M0_ok (k_cons kS_ok k_nil) noL_ok ((c1_end n hs mpk mth (mrw n hs) N x y r ((3 : Nat) : Int) 3 fun q => skN mpk (mrw n hs) (q : Nat)).trans rfl)
theorem c3_leads {NL : Nat} (K : Nat → Nat → Int) (hN : mpk (mrw n hs 1) 3 = (NL : Nat)) (h3 : NL ≤ 3) : Leads Tryz.prog (.loop (loopAt Tryz.f14 2)) (c3S n hs N x y r 0 0 K (fun q => mve n hs (w64 (17 + w64 (4 * (q : Int)))) 6000) fun q c => lpN mpk (mrw n hs) (q : Nat) (c : Nat)) (.exit 4) (c3S n hs N x y r NL NL K (fun q => mve n hs (w64 (17 + w64 (4 * (q : Int)))) 6000) fun q c => lpN mpk (mrw n hs) (q : Nat) (c : Nat)) := by
  refine loop_rule (fun k => c3S n hs N x y r (k : Nat) k K (fun q => mve n hs (w64 (17 + w64 (4 * (q : Int)))) 6000) fun q c => lpN mpk (mrw n hs) (q : Nat) (c : Nat)) NL (.exit 4) _ (by simp) (fun k hk => ?_) ?_
  · have e : w64 (17 + w64 (4 * (k : Int))) = 17 + 4 * (k : Int) := by rw [w64_id (n := 4 * (k : Int)) (by omega) (by omega), w64_id (by omega) (by omega)]
    have pl : ∀ c : Int, 0 ≤ c → c ≤ 2 → 0 ≤ w64 (w64 (21 + (k : Int)) + c) := fun c h0 h2 => by rw [w64_id (n := 21 + (k : Int)) (by omega) (by omega), w64_id (by omega) (by omega)]; omega
    have hl : Leads Tryz.prog (loopAt Tryz.f14 2) (c3S n hs N x y r (k : Nat) k K (fun q => mve n hs (w64 (17 + w64 (4 * (q : Int)))) 6000) fun q c => lpN mpk (mrw n hs) (q : Nat) (c : Nat)) .normal (c3E n hs N x y r ((k + 1 : Nat) : Int) (k + 1) (fun q => mixL (Nat.blt q k) (lmC (mve n hs (w64 (17 + w64 (4 * (q : Int)))) 6000) fun c => lpN mpk (mrw n hs) (q : Nat) (c : Nat)) (lmC (mve n hs (w64 (17 + w64 (4 * (k : Int)))) 6000) fun c => lpN mpk (mrw n hs) (k : Nat) (c : Nat))) K) := by
      refine leads_ev (finN_sub _ _) M0_ok (k_cons kS_ok (k_cons kS_ok k_nil)) noL_ok ((c3_step n hs mpk mth (mrw n hs) (mve n hs) N x y r (k : Nat) k K (fun q => mve n hs (w64 (17 + w64 (4 * (q : Int)))) 6000) fun q c => lpN mpk (mrw n hs) (q : Nat) (c : Nat)).trans ?_)
      unfold c3C
      rw [gR_pos (by decide), hN, dec_lt hk, cond_true, gV_pos (by rw [e]; omega) (by rw [e]; omega) (Or.inr (Or.inr (Or.inl rfl))), gR_pos (pl 0 (by decide) (by decide)), gR_pos (pl 1 (by decide) (by decide)), gR_pos (pl 2 (by decide) (by decide)), apB_t (by omega), w64_next (n := k) (by omega)]; rfl
    refine hl.sub (Sub.refl _) (sub_like ⟨Or.inl rfl, Or.inl rfl, Or.inl rfl, Or.inr (Or.inl ⟨74, 6, k + 1, _, _, rfl, rfl, fun q hq => like_eq ?_⟩), trivial⟩)
    rw [mix_L]
    cases hb : Nat.blt q k
    · have := not_blt hb
      obtain rfl : q = k := by omega
      rfl
    · rfl
  · refine leads_ev (finE_sub _ _) M0_ok (k_cons kS_ok (k_cons kS_ok k_nil)) noL_ok ((c3_end n hs mpk mth (mrw n hs) (mve n hs) N x y r (NL : Nat) NL K (fun q => mve n hs (w64 (17 + w64 (4 * (q : Int)))) 6000) fun q c => lpN mpk (mrw n hs) (q : Nat) (c : Nat)).trans ?_)
    unfold c3C
    rw [gR_pos (by decide), hN, dec_self, cond_false]
theorem c6_leads {G : Int → Sld} (hG : ∀ F : Nat, F ≤ 50 → FSpec Tryz.prog 31 [sI n hs, iA (F : Nat), iA 3] (.agg (G (F : Nat)).c)) {NO : Nat} (u v w : Int) (l : Nat) (K : Nat → Nat → Int) (A : Nat → Nat → Nat) (L : Nat → Nat → Int) (S : Nat → Shp) (NS : Nat) (hN : mpk (mrw n hs 9) 3 = (NO : Nat)) (h3 : NO ≤ 3) : Leads Tryz.prog (.loop (loopAt Tryz.f14 5)) (c6S n hs N x y r u v w 0 0 l K A L (fun q => G (w64 (5 + w64 (7 * (q : Int))))) S NS) (.exit 10) (c6S n hs N x y r u v w NO NO l K A L (fun q => G (w64 (5 + w64 (7 * (q : Int))))) S NS) := by
  refine loop_rule (fun k => c6S n hs N x y r u v w (k : Nat) k l K A L (fun q => G (w64 (5 + w64 (7 * (q : Int))))) S NS) NO (.exit 10) _ (by simp) (fun k hk => ?_) ?_
  · have e : w64 (5 + w64 (7 * (k : Int))) = ((5 + 7 * k : Nat) : Int) := by rw [w64_id (n := 7 * (k : Int)) (by omega) (by omega), w64_id (by omega) (by omega)]; omega
    have hs' : FSpec Tryz.prog 31 [sI n hs, iA (w64 (5 + w64 (7 * (k : Int)))), iA 3] (.agg (G (w64 (5 + w64 (7 * (k : Int))))).c) := by rw [e]; exact hG _ (by omega)
    have hl : Leads Tryz.prog (loopAt Tryz.f14 5) (c6S n hs N x y r u v w (k : Nat) k l K A L (fun q => G (w64 (5 + w64 (7 * (q : Int))))) S NS) .normal (c6E n hs N x y r u v w ((k + 1 : Nat) : Int) (k + 1) l (fun q => mixL (Nat.blt q k) (G (w64 (5 + w64 (7 * (q : Int))))).c (G (w64 (5 + w64 (7 * (k : Int))))).c) K A L (.sl 13 NS fun q => (S q).c)) := by
      refine leads_ev (finN_sub _ _) M0_ok (k_cons kS_ok (k_cons kS_ok k_nil)) noL_ok ((c6_step n hs mpk mth (mrw n hs) G N x y r u v w (k : Nat) k l K A L (fun q => G (w64 (5 + w64 (7 * (q : Int))))) S NS).trans ?_)
      unfold c6C
      rw [gR_pos (by decide), hN, dec_lt hk, cond_true, gate_pos hs', apB_t (by omega), w64_next (n := k) (by omega)]; rfl
    refine hl.sub (Sub.refl _) (sub_like ⟨Or.inl rfl, Or.inl rfl, Or.inl rfl, Or.inl rfl, Or.inr (Or.inl ⟨65, 2, k + 1, _, _, rfl, rfl, fun q hq => like_eq ?_⟩), trivial⟩)
    rw [mix_O2]
    cases hb : Nat.blt q k
    · have := not_blt hb
      obtain rfl : q = k := by omega
      rfl
    · rfl
  · refine leads_ev (finE_sub _ _) M0_ok (k_cons kS_ok (k_cons kS_ok k_nil)) noL_ok ((c6_end n hs mpk mth (mrw n hs) G N x y r u v w (NO : Nat) NO l K A L (fun q => G (w64 (5 + w64 (7 * (q : Int))))) S NS).trans ?_)
    unfold c6C
    rw [gR_pos (by decide), hN, dec_self, cond_false]
end
end Go.Proofs.YtngjiggplabfkaaGreat.Hs.Sc

namespace Go.Proofs.YtngjiggplabfkaaGreat.Hs.Sc
open Go.Gv So Fm
open Go.Ev (cn fadd fsub fmul fdiv fsqrt fneg feq flt fle fgt fge fabs isNan)

section
variable (s r : Scn) (w : Int) (n : Nat) (T : Nat → Int) (X : Nat → Nat → Int) (t : Int) (hv : Bool) (v : Nat → Int) (m e : Int)
def hvB : Bool := decide (w64 (w64 (w64 (w64 ((s.nS : Int) + s.nK) + s.nL) + s.nO) + s.nF) > 99)
theorem hv_spec : FSpec Tryz.prog 5 [.agg s.c] (bA (hvB s)) := gspec e_nil k_nil Tryz.func5 (by kernel_rfl) (by kernel_rfl) noL_ok rfl (show ev Tryz.prog [] [] noL Tryz.f5 [.agg s.c] ret = oB (hvB s) by kernel_rfl)
noncomputable def rsK : List KEntry := [kS Tryz.prog 5 (fun _ => bA hv), kS Tryz.prog 6 (fun _ => .tup [.agg (l3 v), iA m]), kS Tryz.prog 7 (fun _ => .tup [.agg (l3 v), iA m]), kS Tryz.prog 8 (fun _ => iA m), kS Tryz.prog 9 (fun _ => iA m), kS Tryz.prog 10 (fun _ => .tup [.agg r.c, iA e]), kS Tryz.prog 11 (fun _ => .tup [.agg r.c, iA e]), kS Tryz.prog 12 (fun _ => bA true)]
def kyB : Bool := cond (cond (!(m == m)) true (!(m == m))) true (!j3 (v 0) (v 1) (v 2))
noncomputable def rsX : Option Out := gate (FSpec Tryz.prog 5 [.agg s.c] (bA hv)) (cond (cond hv true (decide ((n : Int) > 40))) (oB true) (gate (FSpec Tryz.prog 6 [kSl n T X, iA t] (.tup [.agg (l3 v), iA m])) (gate (FSpec Tryz.prog 7 [kSl n T X, iA t] (.tup [.agg (l3 v), iA m])) (gate (FSpec Tryz.prog 8 [kSl n T X] (iA m)) (gate (FSpec Tryz.prog 9 [kSl n T X] (iA m)) (cond (kyB v m) (oB false) (gate (FSpec Tryz.prog 10 [.agg s.c, iA w, kSl n T X, iA t] (.tup [.agg r.c, iA e])) (gate (FSpec Tryz.prog 11 [.agg s.c, iA w, kSl n T X, iA t] (.tup [.agg r.c, iA e])) (gate (FSpec Tryz.prog 12 [.agg r.c, .agg r.c] (bA true)) (oB (cond (e == e) true false)))))))))))
theorem rs_ev : ev Tryz.prog [] (rsK r hv v m e) noL Tryz.f3 [.agg s.c, iA w, kSl n T X, iA t] ret = rsX s r w n T X t hv v m e := by kernel_rfl
end
theorem mvR_same (s : Scn) (w : Int) (n : Nat) (T : Nat → Int) (X : Nat → Nat → Int) (t : Int) : SameOk (mvR s w n T X t).1 := by
  unfold mvR
  by_cases h1 : scE s = 0
  · rw [h1]
    cases cond (decide (w < 0)) true (decide (w ≥ (s.nS : Int)))
    · by_cases h3 : kmay T X n = 0
      · rw [h3]
        by_cases h4 : scE (mvdS s w (kat T X n t)) = 0
        · rw [h4]; exact same_cons (cons_of h4)
        · rw [beq_false_of_ne h4]; exact same_zero
      · rw [beq_false_of_ne h3]; exact same_zero
    · exact same_zero
  · rw [beq_false_of_ne h1]; exact same_zero
/-- THE LAW ReelSays, of all scenes and keys. -/
theorem reelSays_law (s : Scn) (w : Int) (n : Nat) (T : Nat → Int) (X : Nat → Nat → Int) (hX : xOf (kEl T X) = X) (t : Int) : FSpec Tryz.prog 3 [.agg s.c, iA w, kSl n T X, iA t] (bA true) := by
  refine gspec e_nil (k_cons kS_ok (k_cons kS_ok (k_cons kS_ok (k_cons kS_ok (k_cons kS_ok (k_cons kS_ok (k_cons kS_ok (k_cons kS_ok k_nil)))))))) Tryz.func3 (by kernel_rfl) (by kernel_rfl) noL_ok rfl ((rs_ev s (mvR s w n T X t).1 w n T X t (hvB s) (kat T X n t) (kmay T X n) (mvR s w n T X t).2).trans ?_)
  have hk : kyB (kat T X n t) (kmay T X n) = false := by
    unfold kyB
    rw [BEq.rfl, j3_t]; rfl
  unfold rsX
  rw [gate_pos (hv_spec s), gate_pos (at_spec0 n T X hX t), gate_pos (rka_spec n T X hX t), gate_pos (km_spec n T X), gate_pos (rky_spec n T X), hk, gate_pos (moved_spec s w n T X hX t), gate_pos (rmoved_spec s w n T X hX t), gate_pos (sn_same (mvR_same s w n T X t)), BEq.rfl]
  cases cond (hvB s) true (decide ((n : Int) > 40)) <;> rfl
end Go.Proofs.YtngjiggplabfkaaGreat.Hs.Sc

namespace Go.Proofs.YtngjiggplabfkaaGreat.Hs.Sc
open Go.Gv So Fm
open Go.Ev (cn fadd fsub fmul fdiv fsqrt fneg feq flt fle fgt fge fabs)

theorem agg_third {E : Env} {a b c c' : AV} {l : List AV} {v : Value} (hc : ∀ u, rel E c u → rel E c' u) (h : rel E (.agg (a :: b :: c :: l)) v) : rel E (.agg (a :: b :: c' :: l)) v := by
  obtain ⟨vs, e, h⟩ := rel_agg.1 h
  refine rel_agg.2 ⟨vs, e, ?_⟩
  obtain ⟨u0, us, q0, r0, h⟩ := rels_cons.1 h
  obtain ⟨u1, us, q1, r1, h⟩ := rels_cons.1 h
  obtain ⟨u2, us, q2, r2, h⟩ := rels_cons.1 h
  exact rels_cons.2 ⟨u0, _, q0, r0, rels_cons.2 ⟨u1, _, q1, r1, rels_cons.2 ⟨u2, _, q2, hc _ r2, h⟩⟩⟩
/-- A scene made of raw numbers. -/
theorem sceneOf_spec {n : Nat} {hs : Nat → Int} (h : Rng n hs) (hn : n ≤ 512) {N : Nat} (h1 : 1 ≤ N) (h2 : N ≤ 10) : ∃ s : Scn, FSpec Tryz.prog 14 [sI n hs, iA (N : Nat)] (.agg s.c) := by
  have h' : ∀ i, i < n → -9223372036854775808 ≤ hs i ∧ hs i ≤ 9223372036854775807 := h
  have rg : ∀ k m : Int, 0 ≤ k → 0 < m → 0 ≤ mpk (mrw n hs k) m ∧ mpk (mrw n hs k) m < m := fun k m hk hm => mpk_range (mrw_range h' hk).1 (mrw_range h' hk).2 hm
  have r1 := rg 1 3 (by decide) (by decide)
  have r9 := rg 9 3 (by decide) (by decide)
  obtain ⟨NL, hL, hL3⟩ : ∃ NL : Nat, mpk (mrw n hs 1) 3 = (NL : Nat) ∧ NL ≤ 3 := ⟨(mpk (mrw n hs 1) 3).toNat, by omega, by omega⟩
  obtain ⟨NO, hO, hO3⟩ : ∃ NO : Nat, mpk (mrw n hs 9) 3 = (NO : Nat) ∧ NO ≤ 3 := ⟨(mpk (mrw n hs 9) 3).toNat, by omega, by omega⟩
  obtain ⟨S, hS⟩ := shapesOf_spec h h1 h2
  obtain ⟨F, hF⟩ := fieldOf_spec h
  have hx : ∀ f : Int, ∃ y : Sld, ∀ g : Nat, f = (g : Nat) → g ≤ 50 → FSpec Tryz.prog 31 [sI n hs, iA (g : Nat), iA 3] (.agg y.c) := fun f => by
    by_cases hf : 0 ≤ f ∧ f ≤ 50
    · obtain ⟨m, P, sk, hk⟩ := solidOf_spec h hn (F := f.toNat) (by omega)
      refine ⟨⟨m, P, sk⟩, fun g hg _ => ?_⟩
      have : f.toNat = g := by omega
      subst this
      exact hk
    · exact ⟨⟨0, fun _ => ⟨0, 0, 0, 0, fun _ => 0, 0⟩, 0⟩, fun g hg hg' => absurd ⟨by omega, by omega⟩ hf⟩
  obtain ⟨G, hG0⟩ := Classical.axiomOfChoice hx
  have hG : ∀ F : Nat, F ≤ 50 → FSpec Tryz.prog 31 [sI n hs, iA (F : Nat), iA 3] (.agg (G (F : Nat)).c) := fun F hF => hG0 (F : Nat) F rfl hF
  have hLk : LOk Tryz.prog (scL n hs mpk mth (mrw n hs) (mmi mpk mth) (N : Nat) NL NO (fun q => skN mpk (mrw n hs) (q : Nat)) (fun q => mve n hs (w64 (17 + w64 (4 * (q : Int)))) 6000) (fun q c => lpN mpk (mrw n hs) (q : Nat) (c : Nat)) (fun q => G (w64 (5 + w64 (7 * (q : Int))))) S N) (bodyOf Tryz.f14) :=
    lok_cons (lok_at 0 6 (by kernel_rfl) (by kernel_rfl) (toldC_sound c1_leads)) (lok_cons (lok_at 2 6 (by kernel_rfl) (by kernel_rfl) (toldC_sound (c3_leads _ hL hL3))) (lok_cons (lok_at 5 6 (by kernel_rfl) (by kernel_rfl) (toldC_sound (c6_leads hG _ _ _ _ _ _ _ _ _ hO hO3))) lok_nil))
  have go : ∀ c, scX n hs mpk mth (mrw n hs) (mmi mpk mth) F (N : Nat) NL NO (fun q => skN mpk (mrw n hs) (q : Nat)) (fun q => mve n hs (w64 (17 + w64 (4 * (q : Int)))) 6000) (fun q c => lpN mpk (mrw n hs) (q : Nat) (c : Nat)) (fun q => G (w64 (5 + w64 (7 * (q : Int))))) S N = some (Out.of (.agg c)) → FSpec Tryz.prog 14 [sI n hs, iA (N : Nat)] (.agg c) := fun c hc =>
    So.gspecZ scZ_ok M0_ok (k_cons kS_ok (k_cons kS_ok (k_cons kS_ok (k_cons kS_ok (k_cons kS_ok k_nil))))) m_nil Tryz.func14 (by kernel_rfl) (by kernel_rfl) hLk rfl ((sc_ev n hs mpk mth (mrw n hs) (mve n hs) (mmi mpk mth) F (N : Nat) NL NO _ _ _ _ S N).trans hc)
  unfold scX gMi at go
  rw [gR_pos (by decide), gate_pos (mmilli2 _), gR_pos (by decide), gate_pos (mmilli2 _), gR_pos (by decide), gate_pos (Sub.refl _), gate_pos (Sub.refl _), gR_pos (by decide), gR_pos (by decide), gR_pos (by decide), gate_pos hS, gate_pos (Sub.refl _), gR_pos (by decide), gate_pos hF] at go
  unfold scO at go
  rw [fzB_t, fzB_t] at go
  let e : Nat → Nat := ls [mmi mpk mth (mrw n hs 3) 2000, mmi mpk mth (mrw n hs 4) 2000, 13842939354630062080, 0, 0, 0, 0, 4607182418800017408, 0, mth (w64 (500 + mpk (mrw n hs 5) 1500))]
  let u : Nat → Int := fun q => match q with | 0 => skyN mpk (mrw n hs) 0 | 1 => skyN mpk (mrw n hs) 1 | _ => skyN mpk (mrw n hs) 2
  cases hb : mpk (mrw n hs 8) 3 == 0
  · rw [hb] at go
    exact ⟨⟨N, S, NO, fun q => G (w64 (5 + w64 (7 * (q : Int)))), 0, fun _ => F, 3, fun q => skN mpk (mrw n hs) (q : Nat), NL, fun q => mve n hs (w64 (17 + w64 (4 * (q : Int)))) 6000, fun q c => lpN mpk (mrw n hs) (q : Nat) (c : Nat), u, e⟩, FSpec.of_val (go _ rfl) fun _ _ hr => agg_third (fun _ => rel_nil) hr⟩
  · rw [hb] at go
    exact ⟨⟨N, S, NO, fun q => G (w64 (5 + w64 (7 * (q : Int)))), 1, fun _ => F, 3, fun q => skN mpk (mrw n hs) (q : Nat), NL, fun q => mve n hs (w64 (17 + w64 (4 * (q : Int)))) 6000, fun q c => lpN mpk (mrw n hs) (q : Nat) (c : Nat), u, e⟩, FSpec.of_val (go _ rfl) fun _ _ hr => agg_third (fun _ h => sl_like h fun _ _ => rfl) hr⟩
def pkG (pf : Int → Int → Int) : List AV → AV
  | [.x (.int .i64 c), .x (.int .i64 k)] => iA (pf c k)
  | _ => .any
section
variable (n : Nat) (hs : Nat → Int) (pf : Int → Int → Int) (s : Scn) (n0 w : Int) (m : Nat) (T : Nat → Int) (X : Nat → Nat → Int) (t : Int)
noncomputable def rmX : Option Out := cond (decide ((n : Int) > 512)) (oB true) (gate (FSpec Tryz.prog 13 [iA n0, iA 6] (iA (pf n0 6))) (gate (FSpec Tryz.prog 14 [sI n hs, iA (w64 (1 + pf n0 6))] (.agg s.c)) (gate (FSpec Tryz.prog 13 [iA w, iA (w64 (1 + pf n0 6))] (iA (pf w (w64 (1 + pf n0 6))))) (gate (FSpec Tryz.prog 3 [.agg s.c, iA (pf w (w64 (1 + pf n0 6))), kSl m T X, iA t] (bA true)) (oB true)))))
theorem rm_ev : ev Tryz.prog [] [kS Tryz.prog 13 (pkG pf), kS Tryz.prog 14 (fun _ => .agg s.c), kS Tryz.prog 3 (fun _ => bA true)] noL Tryz.f4 [sI n hs, iA n0, iA w, kSl m T X, iA t] ret = rmX n hs pf s n0 w m T X t := by kernel_rfl
end
/-- THE LAW ReelMade. -/
theorem reelMade_law {n : Nat} {hs : Nat → Int} (h : Rng n hs) {n0 : Int} (h0 : -9223372036854775808 ≤ n0 ∧ n0 ≤ 9223372036854775807) (w : Int) (m : Nat) (T : Nat → Int) (X : Nat → Nat → Int) (hX : xOf (kEl T X) = X) (t : Int) : FSpec Tryz.prog 4 [sI n hs, iA n0, iA w, kSl m T X, iA t] (bA true) := by
  have ks : ∀ s : Scn, ∀ e, e ∈ [kS Tryz.prog 13 (pkG mpk), kS Tryz.prog 14 (fun _ => .agg s.c), kS Tryz.prog 3 (fun _ => bA true)] → KOk Tryz.prog e := fun s => k_cons kS_ok (k_cons kS_ok (k_cons kS_ok k_nil))
  by_cases hn : n ≤ 512
  · have r6 := mpk_range (m := 6) h0.1 h0.2 (by decide)
    obtain ⟨N, hN, g1, g2⟩ : ∃ N : Nat, w64 (1 + mpk n0 6) = (N : Nat) ∧ 1 ≤ N ∧ N ≤ 10 := ⟨(1 + mpk n0 6).toNat, by rw [w64_id (by omega) (by omega)]; omega, by omega, by omega⟩
    obtain ⟨s, hs1⟩ := sceneOf_spec h hn g1 g2
    refine gspec e_nil (ks s) Tryz.func4 (by kernel_rfl) (by kernel_rfl) noL_ok rfl ((rm_ev n hs mpk s n0 w m T X t).trans ?_)
    unfold rmX
    rw [hN, decide_eq_false (show ¬ (n : Int) > 512 by omega), cond_false, gate_pos (mpick (by decide)), gate_pos hs1, gate_pos (mpick (by rw [beq_false_of_ne (show ((N : Nat) : Int) ≠ 0 by omega)]; rfl)), gate_pos (reelSays_law s _ m T X hX t)]
    rfl
  · refine gspec e_nil (ks Z0) Tryz.func4 (by kernel_rfl) (by kernel_rfl) noL_ok rfl ((rm_ev n hs mpk Z0 n0 w m T X t).trans ?_)
    unfold rmX
    rw [decide_eq_true (show (n : Int) > 512 by omega)]; rfl
end Go.Proofs.YtngjiggplabfkaaGreat.Hs.Sc

namespace Go.Proofs.YtngjiggplabfkaaGreat
open Go.Gv Go.RowKit Go.ChangeShapes Go.WideShapes Go.ChangeAt

def rsl (n : Nat) (hs : Nat → Int) : AV := .sl 1 n fun i => [iA (hs i)]
theorem open_num {H : Type} {enc : TypeId × Value → H} {P : Program} {w : World} {r : Reach} {b0 : Nat} {t : TypeId} {v : Value} {d : DataW H} {p : List MemPlace} {k : IntKind} (hu : P.underlying t = some (.int k)) (hk : kds P 1 t = some [.i k]) (hv : Value.okWide P w r b0 t v)
    (h : DataW.Trod enc P w 0 (fun _ => true) true t v d p) : ∃ n, rel (Env.all w) (.x (.int k n)) v ∧ (Lit.int k n).wf = true := by
  have hone : v.cells = #[v] := by
    obtain ⟨n, rfl, _⟩ := okWide_int hu hv
    rfl
  obtain ⟨fuel, hf⟩ := h
  obtain ⟨a, h1, h2⟩ := open_arg hf hk hone
  rw [fitA] at h1
  obtain ⟨n, rfl, hw⟩ := h1
  exact ⟨n, h2, hw⟩
def numOf (el : Nat → List AV) (i : Nat) : Int := match el i with
  | [.x (.int .i64 h)] => h
  | _ => 0
theorem sl_same {E : Env} {sz n : Nat} {el el' : Nat → List AV} {v : Value} (h : rel E (.sl sz n el) v) (he : ∀ i, i < n → el' i = el i) : rel E (.sl sz n el') v := by
  have h : relA _ _ _ := h
  show relA _ _ _
  rw [relA] at h ⊢
  obtain ⟨a, c, h1, h2, h3⟩ := h
  refine ⟨a, c, h1, h2, ?_⟩
  rcases h3 with h3 | ⟨b, o, cs, e, fz, h4, h5, h6, h7⟩
  · exact Or.inl h3
  · exact Or.inr ⟨b, o, cs, e, fz, h4, h5, h6, fun i hi => by rw [he i hi]; exact h7 i hi⟩
theorem fitL_single {k : Kd} {zs : List AV} (h : fitL [k] zs) : ∃ a, zs = [a] ∧ fitA k a := by
  match zs, h with
  | [a], h => exact ⟨a, rfl, (fitL_cons.1 h).1⟩
  | [], h => have := fitL_length h; simp at this
  | _ :: _ :: _, h => have := fitL_length h; simp at this
/-- A row of whole numbers that came in: as many, each a number of 64 bits. -/
theorem open_raw {H : Type} {enc : TypeId × Value → H} {P : Program} {w : World} {r : Reach} {b0 : Nat} {t e : TypeId} {v : Value} {d : DataW H} {p : List MemPlace} (hu : P.underlying t = some (.slice e)) (hk : kds P 2 t = some [.l 1 [.i .i64]]) (hv : Value.okWide P w r b0 t v)
    (h : DataW.Trod enc P w 0 (fun _ => true) true t v d p) : ∃ n hs, rel (Env.all w) (rsl n hs) v ∧ ∀ i, i < n → (Lit.int .i64 (hs i)).wf = true := by
  have hone : v.cells = #[v] := by
    obtain ⟨a, len, cap, rfl⟩ := okWide_slice hu hv
    rfl
  obtain ⟨fuel, hf⟩ := h
  obtain ⟨a, h1, h2⟩ := open_arg hf hk hone
  rw [fitA] at h1
  obtain ⟨n, el, rfl, _, hel⟩ := h1
  have key : ∀ i, i < n → el i = [iA (numOf el i)] ∧ (Lit.int .i64 (numOf el i)).wf = true := fun i hi => by
    obtain ⟨a, ha, hf⟩ := fitL_single (hel i hi)
    rw [fitA] at hf
    obtain ⟨m, rfl, hw⟩ := hf
    have e : numOf el i = m := by unfold numOf; rw [ha]
    rw [e]
    exact ⟨ha, hw⟩
  exact ⟨n, numOf el, sl_same h2 fun i hi => (key i hi).1.symm, fun i hi => (key i hi).2⟩
end Go.Proofs.YtngjiggplabfkaaGreat

namespace Go.Proofs.YtngjiggplabfkaaGreat
open Go.Gv Go.RowKit Go.ChangeShapes Go.WideShapes Go.ChangeAt
open Go.Ev (cn law_post)

namespace Hs.Sc
open So Fm
theorem fitL_c {k : Kd} {ks : List Kd} {zs : List AV} (h : fitL (k :: ks) zs) : ∃ x l, zs = x :: l ∧ fitA k x ∧ fitL ks l := by
  match zs, h with
  | [], h => have := fitL_length h; simp at this
  | x :: l, h => exact ⟨x, l, rfl, (fitL_cons.1 h).1, (fitL_cons.1 h).2⟩
theorem fitL_e {zs : List AV} (h : fitL [] zs) : zs = [] := by
  match zs, h with
  | [], _ => rfl
  | _ :: _, h => have := fitL_length h; simp at this
theorem fitI' {a : AV} (h : fitA (.i .i64) a) : ∃ n, a = iA n := by
  rw [fitA] at h
  obtain ⟨n, rfl, _⟩ := h
  exact ⟨n, rfl⟩
theorem sl_imp {E : Env} {sz n : Nat} {el el' : Nat → List AV} {v : Value} (he : ∀ q, q < n → (el' q).length = (el q).length ∧ ∀ (E : Env) (cs : List Value), pre E (el q) cs → pre E (el' q) cs) (h : rel E (.sl sz n el) v) : rel E (.sl sz n el') v := by
  obtain ⟨a, c, e, hc, h1⟩ := rel_sl.1 h
  refine rel_sl.2 ⟨a, c, e, hc, ?_⟩
  rcases h1 with h1 | ⟨b, o, cs, e', fz, h2, h3, h4, h5⟩
  · exact Or.inl h1
  · exact Or.inr ⟨b, o, cs, e', fz, h2, h3, h4, fun i hi => ⟨(he i hi).1.trans (h5 i hi).1, (he i hi).2 _ _ (h5 i hi).2⟩⟩
theorem sl_same' {E : Env} {sz n : Nat} {el el' : Nat → List AV} {v : Value} (he : ∀ q, q < n → el q = el' q) (h : rel E (.sl sz n el) v) : rel E (.sl sz n el') v := sl_imp (fun q hq => like_eq (he q hq)) h
theorem key_arg {zs : List AV} (h : fitL [.i .i64, .i .i64, .i .i64, .i .i64] zs) : zs = [iA (iAt zs 0), iA (iAt zs 1), iA (iAt zs 2), iA (iAt zs 3)] := by
  obtain ⟨x0, l, rfl, h0, h⟩ := fitL_c h
  obtain ⟨x1, l, rfl, h1, h⟩ := fitL_c h
  obtain ⟨x2, l, rfl, h2, h⟩ := fitL_c h
  obtain ⟨x3, l, rfl, h3, h⟩ := fitL_c h
  obtain rfl := fitL_e h
  obtain ⟨a0, rfl⟩ := fitI' h0
  obtain ⟨a1, rfl⟩ := fitI' h1
  obtain ⟨a2, rfl⟩ := fitI' h2
  obtain ⟨a3, rfl⟩ := fitI' h3
  rfl
theorem keys_arg {E : Env} {a : AV} {v : Value} (h : fitA (.l 4 [.i .i64, .i .i64, .i .i64, .i .i64]) a) (hr : rel E a v) : ∃ n T X, xOf (kEl T X) = X ∧ rel E (kSl n T X) v := by
  rw [fitA] at h
  obtain ⟨n, el, rfl, hn, hel⟩ := h
  refine ⟨n, fun i => iAt (el i) 0, xOf (kEl (fun i => iAt (el i) 0) fun i c => iAt (el i) (c + 1)), ?_, sl_same' (fun q hq => key_arg (hel q hq)) hr⟩
  exact funext fun _ => funext fun c => match c with | 0 => rfl | 1 => rfl | 2 => rfl | _ + 3 => rfl
theorem open_keys {H : Type} {enc : TypeId × Value → H} {P : Program} {w : World} {r : Reach} {b0 : Nat} {t e : TypeId} {v : Value} {d : DataW H} {p : List MemPlace} (hu : P.underlying t = some (.slice e)) (hk : kds P 6 t = some [.l 4 [.i .i64, .i .i64, .i .i64, .i .i64]]) (hv : Value.okWide P w r b0 t v)
    (h : DataW.Trod enc P w 0 (fun _ => true) true t v d p) : ∃ n T X, xOf (kEl T X) = X ∧ rel (Env.all w) (kSl n T X) v := by
  have hone : v.cells = #[v] := by
    obtain ⟨a, len, cap, rfl⟩ := okWide_slice hu hv
    rfl
  obtain ⟨fuel, hf⟩ := h
  obtain ⟨a, h1, h2⟩ := open_arg hf hk hone
  exact keys_arg h1 h2
end Hs.Sc
end Go.Proofs.YtngjiggplabfkaaGreat
