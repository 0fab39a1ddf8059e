/-
  The document's answer on rays and boxes: its contracts; and what the law SlabSays gives.
-/
import Derived.Test.YtiagpcjonaahlaaGreatMeet
import Derived.Test.YtiagpcjonaahlaaGreatMono
namespace Go.Proofs.YtiagpcjonaahlaaGreat
open Go.Ev

theorem rnear [Tok] (x : Nat) : FSpec Tryz.prog 21 [] [F x] (B (nearS x)) := sp all_nil Tryz.func21 (by kernel_rfl) rfl (by kernel_rfl)
theorem rcleanN [Tok] (x : Nat) : FSpec Tryz.prog 48 [] [F x] (F (cleanS x)) := by
  refine sp all_nil Tryz.func48 (by kernel_rfl) rfl ?_
  have h : ev Tryz.prog [] Tryz.f48 [F x] = cond (cond (fgt x 13740701229962882445) (flt x 4517329193108106637) false) (some (F 0)) (some (F x)) := by kernel_rfl
  rw [h, cond_some', cond_F]
  rfl
theorem rless [Tok] (a b : Nat) : FSpec Tryz.prog 50 [] [F a, F b] (F (lessS a b)) := by
  refine sp all_nil Tryz.func50 (by kernel_rfl) rfl ?_
  have h : ev Tryz.prog [] Tryz.f50 [F a, F b] = cond (flt b a) (some (F b)) (some (F a)) := by kernel_rfl
  rw [h]; unfold lessS; cases flt b a <;> rfl
theorem rmore [Tok] (a b : Nat) : FSpec Tryz.prog 49 [] [F a, F b] (F (moreS a b)) := by
  refine sp all_nil Tryz.func49 (by kernel_rfl) rfl ?_
  have h : ev Tryz.prog [] Tryz.f49 [F a, F b] = cond (fgt b a) (some (F b)) (some (F a)) := by kernel_rfl
  rw [h]; unfold moreS; cases fgt b a <;> rfl
theorem rsame [Tok] (a b : Nat) : FSpec Tryz.prog 14 [] [F a, F b] (B (sameS a b)) := by
  refine sp all_nil Tryz.func14 (by kernel_rfl) rfl ?_
  have h : ev Tryz.prog [] Tryz.f14 [F a, F b] = cond (cond (!feq a a) true (!feq b b)) (some (B (cond (!feq a a) (!feq b b) false))) (some (B (cond (feq a b) (cond (!feq a 0) true (feq (fdiv one a) (fdiv one b))) false))) := by kernel_rfl
  rw [h, cond_some', cond_B]
  rfl
def R1 [Tok] (P : Program) (f53 : Func) : List Entry := (21, eF fun x => B (nearS x)) :: (48, eF fun x => F (cleanS x)) :: (50, eFF fun a b => F (lessS a b)) :: (49, eFF fun a b => F (moreS a b)) :: (14, eFF fun a b => B (sameS a b)) :: (42, inl P [] f53) :: S4
theorem R1_ok [Tok] : ∀ e, e ∈ R1 Tryz.prog Tryz.f42 → EOk Tryz.prog e := all_cons (eF_ok rnear) <| all_cons (eF_ok rcleanN) <| all_cons (eFF_ok rless) <| all_cons (eFF_ok rmore) <| all_cons (eFF_ok rsame) <|
  all_cons (inl_ok (by kernel_rfl) all_nil Tryz.func42 (by kernel_rfl)) S4_ok

theorem rfine [Tok] (a b c : Nat) : FSpec Tryz.prog 20 [] [V a b c] (B (fineS a b c)) := sp R1_ok Tryz.func20 (by kernel_rfl) rfl (by kernel_rfl)
theorem rsameV [Tok] (a b c d e f : Nat) : FSpec Tryz.prog 23 [] [V a b c, V d e f] (B (sameVS a b c d e f)) := sp R1_ok Tryz.func23 (by kernel_rfl) rfl (by kernel_rfl)
theorem rlow [Tok] (a b c d e f : Nat) : FSpec Tryz.prog 40 [] [V a b c, V d e f] (lowV a b c d e f) := sp R1_ok Tryz.func40 (by kernel_rfl) rfl (by kernel_rfl)
theorem rhigh [Tok] (a b c d e f : Nat) : FSpec Tryz.prog 41 [] [V a b c, V d e f] (highV a b c d e f) := sp R1_ok Tryz.func41 (by kernel_rfl) rfl (by kernel_rfl)
def R2 [Tok] (P : Program) (f53 : Func) : List Entry := (20, eV fun a b c => B (fineS a b c)) :: (23, eVV fun a b c d e f => B (sameVS a b c d e f)) :: (40, eVV lowV) :: (41, eVV highV) :: R1 P f53
theorem R2_ok [Tok] : ∀ e, e ∈ R2 Tryz.prog Tryz.f42 → EOk Tryz.prog e := all_cons (eV_ok rfine) <| all_cons (eVV_ok rsameV) <| all_cons (eVV_ok rlow) <| all_cons (eVV_ok rhigh) <| R1_ok

theorem rsameB [Tok] (s t : Nat → Nat) : FSpec Tryz.prog 9 [] [BX s, BX t] (B (sameB s t)) := sp R2_ok Tryz.func9 (by kernel_rfl) rfl (by kernel_rfl)
theorem rmay [Tok] (b : Nat → Nat) : FSpec Tryz.prog 22 [] [BX b] (I (mayS b)) := by
  refine sp R2_ok Tryz.func22 (by kernel_rfl) rfl ?_
  have h : ev Tryz.prog (R2 Tryz.prog Tryz.f42) Tryz.f22 [BX b] = cond (cond (!fineS (b 0) (b 1) (b 2)) true (!fineS (b 3) (b 4) (b 5))) (some (I 1))
    (cond (fgt (b 0) (b 3)) (some (I 6)) (cond (fgt (b 1) (b 4)) (some (I 6)) (cond (fgt (b 2) (b 5)) (some (I 6)) (some (I 0))))) := by kernel_rfl
  rw [h]
  unfold mayS
  cases cond (!fineS (b 0) (b 1) (b 2)) true (!fineS (b 3) (b 4) (b 5)) <;> cases fgt (b 0) (b 3) <;> cases fgt (b 1) (b 4) <;> cases fgt (b 2) (b 5) <;> rfl
theorem rrfine [Tok] (r : Nat → Nat) : FSpec Tryz.prog 29 [] [RY r] (I (rayS r)) := by
  refine sp R2_ok Tryz.func29 (by kernel_rfl) rfl ?_
  have h : ev Tryz.prog (R2 Tryz.prog Tryz.f42) Tryz.f29 [RY r] = cond (rayF r) (some (I 1)) (cond (cond (cond (feq (r 3) 0) (feq (r 4) 0) false) (feq (r 5) 0) false) (some (I 2))
    (cond (!feq (r 3) (cleanS (r 3))) (some (I 1)) (cond (!feq (r 4) (cleanS (r 4))) (some (I 1)) (cond (!feq (r 5) (cleanS (r 5))) (some (I 1)) (cond (flt (r 6) 0) (some (I 6)) (some (I 0))))))) := by kernel_rfl
  rw [h]
  unfold rayS rayZ rayC
  cases rayF r <;> cases feq (r 3) 0 <;> cases feq (r 4) 0 <;> cases feq (r 5) 0 <;> cases feq (r 3) (cleanS (r 3)) <;> cases feq (r 4) (cleanS (r 4)) <;> cases feq (r 5) (cleanS (r 5)) <;> cases flt (r 6) 0 <;> rfl
def R3 [Tok] (P : Program) (f53 : Func) : List Entry := (9, pe (eBB0 fun s t => B (sameB s t))) :: (22, pe (eB0 fun b => I (mayS b))) :: (29, pe (eY0 fun r => I (rayS r))) :: R2 P f53
theorem R3_ok [Tok] : ∀ e, e ∈ R3 Tryz.prog Tryz.f42 → EOk Tryz.prog e := all_cons (eBB_ok rsameB) <| all_cons (eB_ok rmay) <| all_cons (eY_ok rrfine) R2_ok

/-! ### Where a ray meets a box, as the answer says it -/
def zeroT : Option Value := some (.tuple #[F 0, F 0, B false])
def stepR (lo hi o d n f : Nat) (k : Nat → Nat → Option Value) : Option Value :=
  cond (feq d 0) (cond (cond (flt o lo) true (fgt o hi)) zeroT (k n f))
    (cond (flt d 0) (k (moreS n (fdiv (fsub hi o) d)) (lessS f (fdiv (fsub lo o) d))) (k (moreS n (fdiv (fsub lo o) d)) (lessS f (fdiv (fsub hi o) d))))
theorem stepR_eq {lo hi o d n f : Nat} (k : Nat → Nat → Option Value) (hlo : Nr lo) (hhi : Nr hi) (ho : Nr o) : stepR lo hi o d n f k = cond (cutOk lo hi o d) (k (cutN lo hi o d n) (cutF lo hi o d f)) zeroT := by
  unfold stepR cutOk cutN cutF cutA cutB moreS lessS
  cases feq d 0 <;> simp only [cond_true, cond_false]
  · cases flt d 0 <;> rfl
  · rw [flt_key ho.nan hlo.nan, fgt_key ho.nan hhi.nan, fge_key ho.nan hlo.nan, fle_key ho.nan hhi.nan]
    by_cases g1 : key o < key lo <;> by_cases g2 : key hi < key o
    all_goals
      first
        | (have e1 : ¬ key lo ≤ key o := by omega)
        | (have e1 : key lo ≤ key o := by omega)
      first
        | (have e2 : ¬ key o ≤ key hi := by omega)
        | (have e2 : key o ≤ key hi := by omega)
      simp [g1, g2, e1, e2]
def lastR (n f : Nat) : Option Value := cond (fgt n f) zeroT (some (.tuple #[F n, F f, B true]))
def meetR (b r : Nat → Nat) : Option Value := cond (badS b r) zeroT (stepR (b 0) (b 3) (r 0) (r 3) (r 6) maxFar fun n f => stepR (b 1) (b 4) (r 1) (r 4) n f fun n f => stepR (b 2) (b 5) (r 2) (r 5) n f lastR)
theorem bad_false {b r : Nat → Nat} (h : badS b r = false) : Bx b ∧ Ry r := by
  unfold badS at h
  cases h1 : mayS b == 0
  · rw [h1] at h; cases h
  · rw [h1] at h
    exact ⟨bx_of (by simpa using h1), ry_of (by simpa using h)⟩
theorem meetR_eq (b r : Nat → Nat) : meetR b r = some (meetV b r) := by
  unfold meetR
  cases hb : badS b r
  · obtain ⟨hx, hy⟩ := bad_false hb
    rw [cond_false, stepR_eq _ hx.n0 hx.n3 hy.n0, stepR_eq _ hx.n1 hx.n4 hy.n1, stepR_eq _ hx.n2 hx.n5 hy.n2]
    unfold meetV meetN meetF meetK
    rw [hb]
    unfold missS m3K m3N m3F m2K m2N m2F m1K m1N m1F lastR zeroT
    cases cutOk (b 0) (b 3) (r 0) (r 3) <;> simp only [cond_true, cond_false]
    · rfl
    cases cutOk (b 1) (b 4) (r 1) (r 4) <;> simp only [cond_true, cond_false]
    · rfl
    cases cutOk (b 2) (b 5) (r 2) (r 5) <;> simp only [cond_true, cond_false]
    · rfl
    generalize fgt _ _ = z
    cases z <;> rfl
  · unfold meetV meetN meetF meetK
    rw [hb]
    rfl
theorem rmeets [Tok] (b r : Nat → Nat) : FSpec Tryz.prog 30 [] [BX b, RY r] (meetV b r) := by
  refine sp R3_ok Tryz.func30 (by kernel_rfl) rfl ?_
  have h : ev Tryz.prog (R3 Tryz.prog Tryz.f42) Tryz.f30 [BX b, RY r] = meetR b r := by kernel_rfl
  rw [h]; exact meetR_eq b r
def R4 [Tok] (P : Program) (f53 : Func) : List Entry := (30, pe (eBY0 meetV)) :: R3 P f53
theorem R4_ok [Tok] : ∀ e, e ∈ R4 Tryz.prog Tryz.f42 → EOk Tryz.prog e := all_cons (eBY_ok rmeets) R3_ok

end Go.Proofs.YtiagpcjonaahlaaGreat
