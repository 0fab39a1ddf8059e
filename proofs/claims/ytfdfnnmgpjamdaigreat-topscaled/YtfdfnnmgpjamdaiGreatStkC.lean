import Derived.Test.YtfdfnnmgpjamdaiGreatStkB
namespace Go.Proofs.YtfdfnnmgpjamdaiGreat
open Go.Ev
theorem strike1 [Tok] {sk : Int} {s r : Nat → Nat} (h : okS 1 0 sk s r = true) : FSpec Tryz.prog 17 [] [SH 1 s sk, RY r] (hitV 1 0 s r) := by
  refine sp3 A3_ok mall_nil (KB4_ok (show 0 < 3 by decide)) Tryz.func17 (by kernel_rfl) rfl ?_
  have e : ev3 Tryz.prog [] A3 [] (KB4 Tryz.prog 0 Tryz.f118 Tryz.f140 Tryz.f148 Tryz.f113 Tryz.f142 Tryz.f114 Tryz.f123 Tryz.f134 Tryz.f143 Tryz.f112 Tryz.f121 Tryz.f126 Tryz.f133 Tryz.f141 Tryz.f125 Tryz.f128 Tryz.f136 Tryz.f82 Tryz.f116 Tryz.f145 Tryz.f67 Tryz.f41 Tryz.f42) Tryz.f17 [SH 1 s sk, RY r] = pre1 sk s (cond (!fgt (s 9) 0) (erV 6) (pre2 (box1 s) r (pre3 (box1 s) r fun n f => cond (!ok1 s r) missV
      (cond (fge (abI (fun i => fsub (r i) (s i)) (vB r) (s 9)) (r 6)) (finV (abI (fun i => fsub (r i) (s i)) (vB r) (s 9)) n f (r 6)) (finV (abO (fun i => fsub (r i) (s i)) (vB r) (s 9)) n f (r 6)))))) := by kernel_rfl
  have g := okS_of h
  have m : fgt (s 9) 0 = true := g.may
  rw [e, pre1_ok g.sk g.a g.b g.c g.R g.Q, m, Bool.not_true, cond_false, pre2_ok (show (mayS (box1 s) == 0) = true from g.box) g.ray]
  refine pre3_ok (ok := ok1 s r) (t := t1 s r) ?_
  unfold t1
  rw [fin_res, fin_res]
  cases ok1 s r
  · rfl
  · cases fge (abI (fun i => fsub (r i) (s i)) (vB r) (s 9)) (r 6) <;> rfl
theorem strike2 [Tok] {sk : Int} {s r : Nat → Nat} (h : okS 2 0 sk s r = true) : FSpec Tryz.prog 17 [] [SH 2 s sk, RY r] (hitV 2 0 s r) := by
  refine sp3 A3_ok mall_nil (KB4_ok (show 0 < 3 by decide)) Tryz.func17 (by kernel_rfl) rfl ?_
  have e : ev3 Tryz.prog [] A3 [] (KB4 Tryz.prog 0 Tryz.f118 Tryz.f140 Tryz.f148 Tryz.f113 Tryz.f142 Tryz.f114 Tryz.f123 Tryz.f134 Tryz.f143 Tryz.f112 Tryz.f121 Tryz.f126 Tryz.f133 Tryz.f141 Tryz.f125 Tryz.f128 Tryz.f136 Tryz.f82 Tryz.f116 Tryz.f145 Tryz.f67 Tryz.f41 Tryz.f42) Tryz.f17 [SH 2 s sk, RY r] = pre1 sk s (cond (cond (cond (fgt (s 0) (s 3)) true (fgt (s 1) (s 4))) true (fgt (s 2) (s 5))) (erV 6) (pre2 (box2 s) r (pre3 (box2 s) r fun n f =>
      (cond (fgt n (r 6)) (finV n n f (r 6)) (finV f n f (r 6)))))) := by kernel_rfl
  have g := okS_of h
  have m : cond (cond (fgt (s 0) (s 3)) true (fgt (s 1) (s 4))) true (fgt (s 2) (s 5)) = false := by
    have : (!cond (cond (fgt (s 0) (s 3)) true (fgt (s 1) (s 4))) true (fgt (s 2) (s 5))) = true := g.may
    cases hc : cond (cond (fgt (s 0) (s 3)) true (fgt (s 1) (s 4))) true (fgt (s 2) (s 5))
    · rfl
    · rw [hc] at this; cases this
  rw [e, pre1_ok g.sk g.a g.b g.c g.R g.Q, m, cond_false, pre2_ok (show (mayS (box2 s) == 0) = true from g.box) g.ray]
  refine pre3_ok (ok := true) (t := t2 (meetN (box2 s) r) (meetF (box2 s) r) (r 6)) ?_
  unfold t2
  rw [fin_res, fin_res]
  cases fgt (meetN (box2 s) r) (r 6) <;> rfl
def triTree (z : Nat) (sk : Int) (s r : Nat → Nat) : Option Value := pre1 sk s (pre2 (box3 s) r (pre3 (box3 s) r fun n f => cond (zS r == z) (cond (!triOk z s r) missV (finV (triT z s r) n f (r 6))) none))
theorem tri_tree {z : Nat} {sk : Int} {s r : Nat → Nat} (h : okS 3 z sk s r = true) : triTree z sk s r = some (hitV 3 z s r) := by
  have g := okS_of h
  have hz : (zS r == z) = true := g.z
  unfold triTree
  rw [pre1_ok g.sk g.a g.b g.c g.R g.Q, pre2_ok (show (mayS (box3 s) == 0) = true from g.box) g.ray]
  refine pre3_ok (ok := triOk z s r) (t := triT z s r) ?_
  rw [hz, fin_res]
  cases triOk z s r <;> rfl
theorem strike3a [Tok] {sk : Int} {s r : Nat → Nat} (h : okS 3 0 sk s r = true) : FSpec Tryz.prog 17 [] [SH 3 s sk, RY r] (hitV 3 0 s r) := by
  refine sp3 A3_ok mall_nil (KB4_ok (show 0 < 3 by decide)) Tryz.func17 (by kernel_rfl) rfl ?_
  have e : ev3 Tryz.prog [] A3 [] (KB4 Tryz.prog 0 Tryz.f118 Tryz.f140 Tryz.f148 Tryz.f113 Tryz.f142 Tryz.f114 Tryz.f123 Tryz.f134 Tryz.f143 Tryz.f112 Tryz.f121 Tryz.f126 Tryz.f133 Tryz.f141 Tryz.f125 Tryz.f128 Tryz.f136 Tryz.f82 Tryz.f116 Tryz.f145 Tryz.f67 Tryz.f41 Tryz.f42) Tryz.f17 [SH 3 s sk, RY r] = triTree 0 sk s r := by kernel_rfl
  rw [e]; exact tri_tree h
theorem strike3b [Tok] {sk : Int} {s r : Nat → Nat} (h : okS 3 1 sk s r = true) : FSpec Tryz.prog 17 [] [SH 3 s sk, RY r] (hitV 3 1 s r) := by
  refine sp3 A3_ok mall_nil (KB4_ok (show 1 < 3 by decide)) Tryz.func17 (by kernel_rfl) rfl ?_
  have e : ev3 Tryz.prog [] A3 [] (KB4 Tryz.prog 1 Tryz.f118 Tryz.f140 Tryz.f148 Tryz.f113 Tryz.f142 Tryz.f114 Tryz.f123 Tryz.f134 Tryz.f143 Tryz.f112 Tryz.f121 Tryz.f126 Tryz.f133 Tryz.f141 Tryz.f125 Tryz.f128 Tryz.f136 Tryz.f82 Tryz.f116 Tryz.f145 Tryz.f67 Tryz.f41 Tryz.f42) Tryz.f17 [SH 3 s sk, RY r] = triTree 1 sk s r := by kernel_rfl
  rw [e]; exact tri_tree h
theorem strike3c [Tok] {sk : Int} {s r : Nat → Nat} (h : okS 3 2 sk s r = true) : FSpec Tryz.prog 17 [] [SH 3 s sk, RY r] (hitV 3 2 s r) := by
  refine sp3 A3_ok mall_nil (KB4_ok (show 2 < 3 by decide)) Tryz.func17 (by kernel_rfl) rfl ?_
  have e : ev3 Tryz.prog [] A3 [] (KB4 Tryz.prog 2 Tryz.f118 Tryz.f140 Tryz.f148 Tryz.f113 Tryz.f142 Tryz.f114 Tryz.f123 Tryz.f134 Tryz.f143 Tryz.f112 Tryz.f121 Tryz.f126 Tryz.f133 Tryz.f141 Tryz.f125 Tryz.f128 Tryz.f136 Tryz.f82 Tryz.f116 Tryz.f145 Tryz.f67 Tryz.f41 Tryz.f42) Tryz.f17 [SH 3 s sk, RY r] = triTree 2 sk s r := by kernel_rfl
  rw [e]; exact tri_tree h
theorem strike4 [Tok] {sk : Int} {s r : Nat → Nat} (h : okS 4 0 sk s r = true) : FSpec Tryz.prog 17 [] [SH 4 s sk, RY r] (hitV 4 0 s r) := by
  refine sp3 A3_ok mall_nil (KB4_ok (show 0 < 3 by decide)) Tryz.func17 (by kernel_rfl) rfl ?_
  have e : ev3 Tryz.prog [] A3 [] (KB4 Tryz.prog 0 Tryz.f118 Tryz.f140 Tryz.f148 Tryz.f113 Tryz.f142 Tryz.f114 Tryz.f123 Tryz.f134 Tryz.f143 Tryz.f112 Tryz.f121 Tryz.f126 Tryz.f133 Tryz.f141 Tryz.f125 Tryz.f128 Tryz.f136 Tryz.f82 Tryz.f116 Tryz.f145 Tryz.f67 Tryz.f41 Tryz.f42) Tryz.f17 [SH 4 s sk, RY r] = pre1 sk s (cond (!fgt (s 9) 0) (erV 6) (cond (unOk (vB s)) (pre2 (box1 s) r (pre3 (box1 s) r fun n f => cond (unOk (vB s))
      (cond (feq (plD s r) 0) missV (finO (fle (dotP (plQ s r) (plQ s r)) (fmul (s 9) (s 9))) (plT s r) n f (r 6))) none)) none)) := by kernel_rfl
  have g := okS_of h
  have m : (fgt (s 9) 0 && unOk (vB s)) = true := g.may
  simp only [Bool.and_eq_true] at m
  rw [e, pre1_ok g.sk g.a g.b g.c g.R g.Q, m.1, Bool.not_true, cond_false, m.2, cond_true, pre2_ok (show (mayS (box1 s) == 0) = true from g.box) g.ray]
  refine pre3_ok (ok := plOk s r) (t := plT s r) ?_
  rw [cond_true, finO_res]
  unfold plOk
  cases feq (plD s r) 0 <;> rfl
def tubTail (r : Nat → Nat) (n f i o : Nat) : Option Value := cond (fgt i o) missV (cond (fgt i (r 6)) (finV i n f (r 6)) (finV o n f (r 6)))
def tubTree (z : Nat) (sk : Int) (s r : Nat → Nat) : Option Value := pre1 sk s (cond (onlyAt z (vB s)) (cond (!fgt (s 9) 0) (erV 6) (cond (onlyAt z (vB s)) (pre2 (box5 z s) r (cond (onlyAt z (vB s)) (pre3 (box5 z s) r fun n f => cond (onlyAt z (vB s))
  (cond (tubZ z r) (cond (fle (dotP (tubO z s r) (tubO z s r)) (fmul (s 9) (s 9))) (cond (fgt n (r 6)) (finV n n f (r 6)) (finV f n f (r 6))) missV)
    (cond (!fge (abE (tubO z s r) (tubD z r) (s 9)) 0) missV
      (cond (!fgt (abI (tubO z s r) (tubD z r) (s 9)) n) (cond (!flt (abO (tubO z s r) (tubD z r) (s 9)) f) (tubTail r n f n f) (tubTail r n f n (abO (tubO z s r) (tubD z r) (s 9))))
        (cond (!flt (abO (tubO z s r) (tubD z r) (s 9)) f) (tubTail r n f (abI (tubO z s r) (tubD z r) (s 9)) f) (tubTail r n f (abI (tubO z s r) (tubD z r) (s 9)) (abO (tubO z s r) (tubD z r) (s 9))))))) none) none)) none)) none)
theorem tub_tree {z : Nat} {sk : Int} {s r : Nat → Nat} (h : okS 5 z sk s r = true) : tubTree z sk s r = some (hitV 5 z s r) := by
  have g := okS_of h
  have m : (onlyAt z (vB s) && fgt (s 9) 0) = true := g.may
  simp only [Bool.and_eq_true] at m
  unfold tubTree
  rw [pre1_ok g.sk g.a g.b g.c g.R g.Q, m.1, m.2]
  simp only [cond_true, Bool.not_true, cond_false]
  rw [pre2_ok (show (mayS (box5 z s) == 0) = true from g.box) g.ray]
  refine pre3_ok (ok := tubOk z s r (meetN (box5 z s) r) (meetF (box5 z s) r)) (t := tubT z s r (meetN (box5 z s) r) (meetF (box5 z s) r) (r 6)) ?_
  generalize meetN (box5 z s) r = n
  generalize meetF (box5 z s) r = f
  unfold tubTail tubOk tubT tubI tubX
  simp only [fin_res]
  cases tubZ z r
  · simp only [cond_false]
    cases fge (abE (tubO z s r) (tubD z r) (s 9)) 0
    · rfl
    · simp only [Bool.not_true, cond_false, cond_true]
      cases fgt (abI (tubO z s r) (tubD z r) (s 9)) n <;> cases flt (abO (tubO z s r) (tubD z r) (s 9)) f <;> simp only [Bool.not_true, Bool.not_false, cond_true, cond_false]
      all_goals
        generalize fgt _ (r 6) = p
        generalize fgt _ _ = q
        cases p <;> cases q <;> rfl
  · simp only [cond_true]
    cases fle (dotP (tubO z s r) (tubO z s r)) (fmul (s 9) (s 9)) <;> cases fgt n (r 6) <;> rfl
theorem strike5a [Tok] {sk : Int} {s r : Nat → Nat} (h : okS 5 0 sk s r = true) : FSpec Tryz.prog 17 [] [SH 5 s sk, RY r] (hitV 5 0 s r) := by
  refine sp3 A3_ok mall_nil (KB4_ok (show 0 < 3 by decide)) Tryz.func17 (by kernel_rfl) rfl ?_
  have e : ev3 Tryz.prog [] A3 [] (KB4 Tryz.prog 0 Tryz.f118 Tryz.f140 Tryz.f148 Tryz.f113 Tryz.f142 Tryz.f114 Tryz.f123 Tryz.f134 Tryz.f143 Tryz.f112 Tryz.f121 Tryz.f126 Tryz.f133 Tryz.f141 Tryz.f125 Tryz.f128 Tryz.f136 Tryz.f82 Tryz.f116 Tryz.f145 Tryz.f67 Tryz.f41 Tryz.f42) Tryz.f17 [SH 5 s sk, RY r] = tubTree 0 sk s r := by kernel_rfl
  rw [e]; exact tub_tree h
theorem strike5b [Tok] {sk : Int} {s r : Nat → Nat} (h : okS 5 1 sk s r = true) : FSpec Tryz.prog 17 [] [SH 5 s sk, RY r] (hitV 5 1 s r) := by
  refine sp3 A3_ok mall_nil (KB4_ok (show 1 < 3 by decide)) Tryz.func17 (by kernel_rfl) rfl ?_
  have e : ev3 Tryz.prog [] A3 [] (KB4 Tryz.prog 1 Tryz.f118 Tryz.f140 Tryz.f148 Tryz.f113 Tryz.f142 Tryz.f114 Tryz.f123 Tryz.f134 Tryz.f143 Tryz.f112 Tryz.f121 Tryz.f126 Tryz.f133 Tryz.f141 Tryz.f125 Tryz.f128 Tryz.f136 Tryz.f82 Tryz.f116 Tryz.f145 Tryz.f67 Tryz.f41 Tryz.f42) Tryz.f17 [SH 5 s sk, RY r] = tubTree 1 sk s r := by kernel_rfl
  rw [e]; exact tub_tree h
theorem strike5c [Tok] {sk : Int} {s r : Nat → Nat} (h : okS 5 2 sk s r = true) : FSpec Tryz.prog 17 [] [SH 5 s sk, RY r] (hitV 5 2 s r) := by
  refine sp3 A3_ok mall_nil (KB4_ok (show 2 < 3 by decide)) Tryz.func17 (by kernel_rfl) rfl ?_
  have e : ev3 Tryz.prog [] A3 [] (KB4 Tryz.prog 2 Tryz.f118 Tryz.f140 Tryz.f148 Tryz.f113 Tryz.f142 Tryz.f114 Tryz.f123 Tryz.f134 Tryz.f143 Tryz.f112 Tryz.f121 Tryz.f126 Tryz.f133 Tryz.f141 Tryz.f125 Tryz.f128 Tryz.f136 Tryz.f82 Tryz.f116 Tryz.f145 Tryz.f67 Tryz.f41 Tryz.f42) Tryz.f17 [SH 5 s sk, RY r] = tubTree 2 sk s r := by kernel_rfl
  rw [e]; exact tub_tree h
end Go.Proofs.YtfdfnnmgpjamdaiGreat
