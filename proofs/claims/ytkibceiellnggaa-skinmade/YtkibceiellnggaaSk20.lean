/-
  The law of skins: its loop, and the whole.
-/
import Derived.Test.YtkibceiellnggaaSk19
namespace Go.Proofs.Ytkibceiellnggaa
open Go.Gv

theorem one_eq {p : Pic} {wd ht : Nat} (h : PG p wd ht) : (cond (p.W == 1) (p.H == 1) false) = decide (wd = 1 ∧ ht = 1) := by
  rw [h.W, h.H]
  by_cases h1 : wd = 1
  · subst h1
    by_cases h2 : ht = 1
    · subst h2; rfl
    · rw [beq_false_of_ne (show ((ht : Nat) : Int) ≠ 1 by omega), decide_eq_false (show ¬ (1 = 1 ∧ ht = 1) from fun hc => h2 hc.2)]; rfl
  · rw [beq_false_of_ne (show ((wd : Nat) : Int) ≠ 1 by omega), decide_eq_false (show ¬ (wd = 1 ∧ ht = 1) from fun hc => h1 hc.1)]; rfl
theorem lw_leads {p : Pic} {wd ht : Nat} (h : PG p wd ht) {K : Nat} (hK : K ≤ 6) (hend : hwk wd K = 1 ∧ hwk ht K = 1) (hbe : ∀ k, k < K → ¬ (hwk wd k = 1 ∧ hwk ht k = 1)) :
    Leads Try.prog (.loop (loopAt Try.f3 0)) (lwS p (K + 1) (hp p wd ht) 0) .ret (lwE (K + 1) (hp p wd ht) (K : Nat) true) := by
  refine loop_rule (fun k => lwS (hp p wd ht k) (K + 1) (hp p wd ht) (k : Nat)) K .ret _ (by simp) (fun k hk => ?_) ?_
  · have st := lw_step (hp p wd ht k) (hp p wd ht (k + 1)) (K + 1) (hp p wd ht) (k : Nat)
    rw [dec_lt (show k < K + 1 by omega), dec_nonneg, one_eq (hp_pg h k), decide_eq_false (hbe k hk), gate_pos rfl, gate_pos rfl, w64_next (by omega)] at st
    exact leads_ev (finN_sub _ _) e_nil (k_cons (kfix_ok (same_spec _)) (k_cons (kfix_ok (halfR_good (hp_pg h k))) k_nil)) noL_ok st
  · have st := lw_end (hp p wd ht K) (K + 1) (hp p wd ht) (K : Nat)
    have e : (((K : Nat) : Int) == w64 (((K + 1 : Nat) : Int) - 1)) = true := by
      rw [w64_id (by omega) (by omega), show ((K + 1 : Nat) : Int) - 1 = (K : Nat) by omega, BEq.rfl]
    rw [dec_lt (show K < K + 1 by omega), dec_nonneg, one_eq (hp_pg h K), decide_eq_true hend, gate_pos rfl, e] at st
    exact leads_ev (finX_sub _ _) e_nil (k_cons (kfix_ok (same_spec _)) (k_cons (kno_ok _) k_nil)) noL_ok st
def a4 (p : Pic) (w u v : Int) : List AV := [.agg p.c, iA w, iA u, iA v]
noncomputable def lawL (p : Pic) (M : Nat) (fs : Nat → Pic) (k : Int) : Nat → Option LFun := oneL 16 (toldF [8, 10, 15, 16, 17] [some 4] (lwS p M fs 0) .ret (lwE M fs k true))
def four4 (a b c d : Int) (i : Nat) : Int := Gv.byteOf (([yA a, yA b, yA c, yA d].drop (0 + 0 + i)).take 1)
noncomputable def lawK (p x : Pic) (w u v a b c d e m2 e2 : Int) (m M : Nat) (g : Nat → Int) (fs : Nat → Pic) : List KEntry :=
  [kfix 6 [.agg p.c] (.x (.bool false)), kfix 7 (a4 p w u v) (.tup [.agg [yA a, yA b, yA c, yA d], iA e]), kfix 8 (a4 p w u v) (.tup [sB m g, iA e]), kfix 9 [.agg p.c] (iA m2), kfix 10 [.agg p.c] (iA m2),
    kfix 11 [.agg p.c] (.tup [.agg x.c, iA e2]), kfix 12 [.agg p.c] (.tup [.agg x.c, iA e2]), kfix 13 [.agg x.c, .agg x.c] (.x (.bool true)), kfix 14 [.agg p.c] (.tup [.sl 3 M (fun j => (fs j).c), iA e2])]
/-- All is well. -/
theorem law_ev0 (p x : Pic) (w u v a b c d k : Int) (M : Nat) (g : Nat → Int) (fs : Nat → Pic) : ev Try.prog [] (lawK p x w u v a b c d 0 0 0 4 M g fs) (lawL p M fs k) Try.f3 (a4 p w u v) ret =
    gate ([AV.agg p.c] = [AV.agg p.c]) (gate (a4 p w u v = a4 p w u v) (gate (a4 p w u v = a4 p w u v) (gate ([AV.agg p.c] = [AV.agg p.c]) (gate ([AV.agg p.c] = [AV.agg p.c])
      (cond (cond (!((strF 4 (four4 a b c d)).toList == (strF 4 g).toList)) true false) (some (Out.of (.x (.bool false))))
        (gate ([AV.agg p.c] = [AV.agg p.c]) (gate ([AV.agg p.c] = [AV.agg p.c]) (gate ([AV.agg x.c, .agg x.c] = [AV.agg x.c, .agg x.c]) (gate ([AV.agg p.c] = [AV.agg p.c])
          (gate (Sub (lwS p M fs 0) (lwS p M fs 0)) (some (Out.of (.x (.bool true)))))))))))))) := by kernel_rfl
end Go.Proofs.Ytkibceiellnggaa
