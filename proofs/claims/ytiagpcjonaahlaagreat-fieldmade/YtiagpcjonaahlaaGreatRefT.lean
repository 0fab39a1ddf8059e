/-
  The document's answer, of a triangle and a ray.
-/
import Derived.Test.YtiagpcjonaahlaaGreatRefS
import Derived.Test.YtiagpcjonaahlaaGreatTri
namespace Go.Proofs.YtiagpcjonaahlaaGreat
open Go.Ev

theorem rtimes [Tok] (a b : Nat) : FSpec Tryz.prog 44 [] [F a, F b] (F (fmul a b)) := sp all_nil Tryz.func44 (by kernel_rfl) rfl (by kernel_rfl)
theorem rsub [Tok] (a b c d e f : Nat) : FSpec Tryz.prog 63 [] [V a b c, V d e f] (V (fsub a d) (fsub b e) (fsub c f)) := sp all_nil Tryz.func63 (by kernel_rfl) rfl (by kernel_rfl)
def T1 [Tok] (P : Program) (fx : Func) : List Entry := (44, eFF fun a b => F (fmul a b)) :: (63, eVV fun a b c d e f => V (fsub a d) (fsub b e) (fsub c f)) :: (102, eF fun a => F (fabs a)) :: R4 P fx
theorem T1_ok [Tok] : ∀ e, e ∈ T1 Tryz.prog Tryz.f42 → EOk Tryz.prog e := all_cons (eFF_ok rtimes) <| all_cons (eVV_ok rsub) <| all_cons (eF_ok eabs) R4_ok
theorem rdeep [Tok] (a b c : Nat) : FSpec Tryz.prog 85 [] [V a b c] (I ((zS (dirR a b c) : Nat) : Int)) := by
  refine sp T1_ok Tryz.func85 (by kernel_rfl) rfl ?_
  have h : ev Tryz.prog (T1 Tryz.prog Tryz.f42) Tryz.f85 [V a b c] = (cond (fgt (fabs b) (fabs a)) (cond (fgt (fabs c) (fabs b)) (some (I 2)) (some (I 1))) (cond (fgt (fabs c) (fabs a)) (some (I 2)) (some (I 0)))) := by kernel_rfl
  rw [h]
  show cond (gt12 (dirR a b c)) _ _ = _
  unfold zS is2 is1
  cases gt12 (dirR a b c) <;> simp only [cond_true, cond_false]
  · show cond (fgt (fabs c) (fabs a)) _ _ = some (I ((cond (fgt (fabs c) (fabs a)) 2 0 : Nat) : Int))
    cases fgt (fabs c) (fabs a) <;> rfl
  · show cond (fgt (fabs c) (fabs b)) _ _ = some (I ((cond (fgt (fabs c) (fabs b)) 2 1 : Nat) : Int))
    cases fgt (fabs c) (fabs b) <;> rfl
def TK [Tok] : List KEntry := (85, kDeep) :: []
theorem TK_ok [Tok] : ∀ e, e ∈ TK → KOk Tryz.prog e := kall_cons (kDeep_ok rdeep) kall_nil
theorem zS_dir (r : Nat → Nat) : zS (dirR (r 3) (r 4) (r 5)) = zS r := rfl
theorem rplace [Tok] (r : Nat → Nat) (a b c : Nat) : FSpec Tryz.prog 70 [] [RY r, V a b c] (V (qX r (v3 a b c)) (qY r (v3 a b c)) (qZ r (v3 a b c))) := by
  refine sp3 T1_ok mall_nil TK_ok Tryz.func70 (by kernel_rfl) rfl ?_
  have h : ev3 Tryz.prog [] (T1 Tryz.prog Tryz.f42) [] TK Tryz.f70 [RY r, V a b c] = by3 (dirR (r 3) (r 4) (r 5)) fun z => some (plV z r (v3 a b c)) := by kernel_rfl
  rw [h, by3_eq, zS_dir, plV_q]
def eYV0 (g : (Nat → Nat) → (Nat → Nat) → Value) : List Value → Option Value
  | [x, y] => match asY x, asV y with
    | some r, some (a, b, c) => some (g r (v3 a b c))
    | _, _ => none
  | _ => none
theorem eYV_ok [Tok] {P : Program} {f : Nat} {g : (Nat → Nat) → (Nat → Nat) → Value} (h : ∀ r a b c, FSpec P f [] [RY r, V a b c] (g r (v3 a b c))) : EOk P (f, pe (eYV0 g)) := by
  refine pe_ok fun args r hr => ?_
  simp only [eYV0] at hr
  split at hr
  · split at hr
    · rename_i m a b c hm hv
      cases hr; rw [asY_some hm, asV_some hv]; exact Or.inl (h m a b c)
    · cases hr
  · cases hr
def T2 [Tok] (P : Program) (fx : Func) : List Entry := (70, pe (eYV0 fun r g => V (qX r g) (qY r g) (qZ r g))) :: T1 P fx
theorem T2_ok [Tok] : ∀ e, e ∈ T2 Tryz.prog Tryz.f42 → EOk Tryz.prog e := all_cons (eYV_ok rplace) T1_ok
theorem rside [Tok] (r : Nat → Nat) (a b c d e f : Nat) : FSpec Tryz.prog 69 [] [RY r, V a b c, V d e f] (F (sdS r (v3 a b c) (v3 d e f))) := by
  rw [← sdS_q]
  exact sp T2_ok Tryz.func69 (by kernel_rfl) rfl (by kernel_rfl)
def T3 [Tok] (P : Program) (fx : Func) : List Entry := (69, pe (eYVV0 fun r p q => F (sdS r p q))) :: T2 P fx
theorem T3_ok [Tok] : ∀ e, e ∈ T3 Tryz.prog Tryz.f42 → EOk Tryz.prog e := all_cons (eYVV_ok rside) T2_ok
theorem rEdge [Tok] (r : Nat → Nat) (a b c d e f : Nat) : FSpec Tryz.prog 84 [] [RY r, V a b c, V d e f] (edgeV r (v3 a b c) (v3 d e f)) := by
  refine sp T3_ok Tryz.func84 (by kernel_rfl) rfl ?_
  have h : ev Tryz.prog (T3 Tryz.prog Tryz.f42) Tryz.f84 [RY r, V a b c, V d e f] =
      cond (!(rayS r == 0)) (some (.tuple #[F 0, I (rayS r)])) (cond (cond (!fineP (v3 a b c)) true (!fineP (v3 d e f))) (some (.tuple #[F 0, I 1])) (some (.tuple #[F (sdS r (v3 a b c) (v3 d e f)), I 0]))) := by kernel_rfl
  rw [h]
  unfold edgeV edgeF pass2
  cases hr : rayS r == 0
  · simp only [Bool.not_false, cond_true, hr]
  · cases fineP (v3 a b c)
    · rfl
    · cases fineP (v3 d e f) <;> rfl
def T4 [Tok] (P : Program) (fx : Func) : List Entry := (84, pe (eYVV0 edgeV)) :: T3 P fx
theorem T4_ok [Tok] : ∀ e, e ∈ T4 Tryz.prog Tryz.f42 → EOk Tryz.prog e := all_cons (eYVV_ok rEdge) T3_ok
theorem rThrough [Tok] (r : Nat → Nat) (a b c d e f x y z : Nat) : FSpec Tryz.prog 68 [] [RY r, V a b c, V d e f, V x y z] (thruV r (v3 a b c) (v3 d e f) (v3 x y z)) := by
  refine sp T4_ok Tryz.func68 (by kernel_rfl) rfl ?_
  have h : ev Tryz.prog (T4 Tryz.prog Tryz.f42) Tryz.f68 [RY r, V a b c, V d e f, V x y z] =
      cond (!(pass2 r (v3 a b c) (v3 d e f) == 0)) (some (.tuple #[B false, I (pass2 r (v3 a b c) (v3 d e f))])) (cond (!fineP (v3 x y z)) (some (.tuple #[B false, I 1]))
        (some (.tuple #[B (thr (sdS r (v3 d e f) (v3 x y z)) (sdS r (v3 x y z) (v3 a b c)) (sdS r (v3 a b c) (v3 d e f))), I 0]))) := by kernel_rfl
  rw [h]
  unfold thruV thruB pass3 pass2
  cases hr : rayS r == 0
  · simp only [Bool.not_false, cond_true, hr]
  · cases fineP (v3 a b c)
    · rfl
    · cases fineP (v3 d e f)
      · rfl
      · cases fineP (v3 x y z) <;> rfl
def T5 [Tok] (P : Program) (fx : Func) : List Entry := (68, pe (eYVVV0 thruV)) :: T4 P fx
theorem T5_ok [Tok] : ∀ e, e ∈ T5 Tryz.prog Tryz.f42 → EOk Tryz.prog e := all_cons (eYVVV_ok rThrough) T4_ok
/-! ### Strike -/
theorem raround3 [Tok] (sk : Int) (s : Nat → Nat) : FSpec Tryz.prog 52 [] [SH 3 s sk] (BX (box3 s)) := sp T5_ok Tryz.func52 (by kernel_rfl) rfl (by kernel_rfl)
def asS : Value → Option ((Nat → Nat) × Int)
  | .agg ⟨[.int .i64 k, .float .f64 a0, .float .f64 a1, .float .f64 a2, .float .f64 a3, .float .f64 a4, .float .f64 a5, .float .f64 a6, .float .f64 a7, .float .f64 a8, .float .f64 a9, .float .f64 a10, .int .i64 sk]⟩ => cond (k == 3) (some (ls [a0, a1, a2, a3, a4, a5, a6, a7, a8, a9, a10], sk)) none
  | _ => none
theorem asS_some {v : Value} {s : Nat → Nat} {sk : Int} (h : asS v = some (s, sk)) : v = SH 3 s sk := by
  unfold asS at h; split at h
  · rename_i k _ _ _ _ _ _ _ _ _ _ _ _
    cases hk : k == 3
    · rw [hk] at h; cases h
    · rw [hk] at h
      have := eq_of_beq hk
      subst this
      cases h; rfl
  · cases h
def eS0 (g : (Nat → Nat) → Int → Value) : List Value → Option Value
  | [x] => match asS x with
    | some (s, sk) => some (g s sk)
    | none => none
  | _ => none
theorem eS_ok [Tok] {P : Program} {f : Nat} {g : (Nat → Nat) → Int → Value} (h : ∀ s sk, FSpec P f [] [SH 3 s sk] (g s sk)) : EOk P (f, pe (eS0 g)) := by
  refine pe_ok fun args r hr => ?_
  simp only [eS0] at hr
  split at hr
  · split at hr
    · rename_i s sk hs
      cases hr; rw [asS_some hs]; exact Or.inl (h s sk)
    · cases hr
  · cases hr
def T6 [Tok] (P : Program) (fx : Func) : List Entry := (52, pe (eS0 fun s _ => BX (box3 s))) :: T5 P fx
theorem T6_ok [Tok] : ∀ e, e ∈ T6 Tryz.prog Tryz.f42 → EOk Tryz.prog e := all_cons (eS_ok fun s sk => raround3 sk s) T5_ok
def mayT (sk : Int) (s : Nat → Nat) : Int := cond (skBad sk) 4 (cond (shFar s) 1 (cond (!(mayS (box3 s) == 0)) 1 0))
theorem rmay3 [Tok] (sk : Int) (s : Nat → Nat) : FSpec Tryz.prog 51 [] [SH 3 s sk] (I (mayT sk s)) := by
  refine sp T6_ok Tryz.func51 (by kernel_rfl) rfl ?_
  have h : ev Tryz.prog (T6 Tryz.prog Tryz.f42) Tryz.f51 [SH 3 s sk] = cond (skBad sk) (some (I 4)) (cond (shFar s) (some (I 1)) (cond (!(mayS (box3 s) == 0)) (some (I 1)) (some (I 0)))) := by kernel_rfl
  rw [h]
  unfold mayT
  cases skBad sk <;> cases shFar s <;> cases mayS (box3 s) == 0 <;> rfl
def thruS (s r : Nat → Nat) : Bool := thruB r (v3 (s 0) (s 1) (s 2)) (v3 (s 3) (s 4) (s 5)) (v3 (s 6) (s 7) (s 8))
def ownT (s r : Nat → Nat) : Nat := fdiv (fadd (fadd (fmul (sdS r (v3 (s 3) (s 4) (s 5)) (v3 (s 6) (s 7) (s 8))) (qZ r (v3 (s 0) (s 1) (s 2)))) (fmul (sdS r (v3 (s 6) (s 7) (s 8)) (v3 (s 0) (s 1) (s 2))) (qZ r (v3 (s 3) (s 4) (s 5))))) (fmul (sdS r (v3 (s 0) (s 1) (s 2)) (v3 (s 3) (s 4) (s 5))) (qZ r (v3 (s 6) (s 7) (s 8)))))
  (fadd (fadd (sdS r (v3 (s 3) (s 4) (s 5)) (v3 (s 6) (s 7) (s 8))) (sdS r (v3 (s 6) (s 7) (s 8)) (v3 (s 0) (s 1) (s 2)))) (sdS r (v3 (s 0) (s 1) (s 2)) (v3 (s 3) (s 4) (s 5))))
theorem rown3 [Tok] (sk : Int) (s r : Nat → Nat) (n f : Nat) : FSpec Tryz.prog 53 [] [SH 3 s sk, RY r, F n, F f] (.tuple #[F (cond (thruS s r) (ownT s r) 0), B (thruS s r)]) := by
  refine sp T6_ok Tryz.func53 (by kernel_rfl) rfl ?_
  have h : ev Tryz.prog (T6 Tryz.prog Tryz.f42) Tryz.f53 [SH 3 s sk, RY r, F n, F f] = cond (!thruS s r) (some (.tuple #[F 0, B false])) (some (.tuple #[F (ownT s r), B true])) := by kernel_rfl
  rw [h]
  cases thruS s r <;> rfl
def eOwn0 : List Value → Option Value
  | [x, y, _, _] => match asS x, asY y with
    | some (s, _), some r => some (.tuple #[F (cond (thruS s r) (ownT s r) 0), B (thruS s r)])
    | _, _ => none
  | _ => none
def eOwn1 : List Value → Option Value
  | [x, y, u, v] => match asS x, asY y, asF u, asF v with
    | some (s, _), some r, some _, some _ => some (.tuple #[F (cond (thruS s r) (ownT s r) 0), B (thruS s r)])
    | _, _, _, _ => none
  | _ => none
theorem eOwn_ok [Tok] : EOk Tryz.prog (53, pe eOwn1) := by
  refine pe_ok fun args r hr => ?_
  simp only [eOwn1] at hr
  split at hr
  · split at hr
    · rename_i s sk m n f hs hm hn hf
      cases hr; rw [asS_some hs, asY_some hm, asF_some hn, asF_some hf]; exact Or.inl (rown3 sk s m n f)
    · cases hr
  · cases hr
def T7 [Tok] (P : Program) (fx : Func) : List Entry := (51, pe (eS0 fun s sk => I (mayT sk s))) :: (53, pe eOwn1) :: T6 P fx
theorem T7_ok [Tok] : ∀ e, e ∈ T7 Tryz.prog Tryz.f42 → EOk Tryz.prog e := all_cons (eS_ok fun s sk => rmay3 sk s) <| all_cons eOwn_ok T6_ok
theorem own_same (s r : Nat → Nat) : ownT s r = triT (zS r) s r := by
  unfold ownT triT
  rw [sdS_z, sdS_z, sdS_z]
  have e : ∀ g, pZ (zS r) r g = qZ r g := fun g => by unfold zS qZ; cases is2 r <;> cases is1 r <;> rfl
  rw [e, e, e]
  rfl
theorem meet_le {b r : Nat → Nat} (h : meetK b r = true) : fgt (meetN b r) (meetF b r) = false := by
  unfold meetN meetF
  rw [h]
  unfold meetK at h
  simp only [cond_true]
  cases hb : badS b r
  · rw [hb] at h
    unfold missS at h
    cases hk : m3K b r
    · rw [hk] at h; cases h
    · rw [hk] at h
      cases hg : fgt (m3N b r) (m3F b r)
      · rfl
      · rw [hg] at h; cases h
  · rw [hb] at h; cases h
def triTreeR (sk : Int) (s r : Nat → Nat) : Option Value := cond (!(mayT sk s == 0)) (some (.tuple #[F 0, B false, I (mayT sk s)])) (cond (!(rayS r == 0)) (some (.tuple #[F 0, B false, I (rayS r)]))
  (cond (!meetK (box3 s) r) missV (cond (cond (!thruS s r) true (!fge (cond (thruS s r) (ownT s r) 0) (r 6))) missV
    (cond (flt (cond (thruS s r) (ownT s r) 0) (meetN (box3 s) r)) (cond (fgt (meetN (box3 s) r) (meetF (box3 s) r)) (some (.tuple #[F (meetF (box3 s) r), B true, I 0])) (some (.tuple #[F (meetN (box3 s) r), B true, I 0])))
      (cond (fgt (cond (thruS s r) (ownT s r) 0) (meetF (box3 s) r)) (some (.tuple #[F (meetF (box3 s) r), B true, I 0])) (some (.tuple #[F (cond (thruS s r) (ownT s r) 0), B true, I 0])))))))
theorem tri_treeR (sk : Int) (s r : Nat → Nat) : triTreeR sk s r = some (triV sk s r) := by
  unfold triTreeR triV triF triK triM triE missV mayT
  rw [own_same]
  cases skBad sk
  · cases hf : shFar s
    · cases hm : mayS (box3 s) == 0
      · rfl
      · cases hr : rayS r == 0
        · simp only [cond_true, cond_false, Bool.not_true, Bool.not_false, hr]; rfl
        · have e0 : rayS r = 0 := by simpa using hr
          have ht : thruS s r = triOk (zS r) s r := by
            have hp : pass3 r (v3 (s 0) (s 1) (s 2)) (v3 (s 3) (s 4) (s 5)) (v3 (s 6) (s 7) (s 8)) = 0 := by
              unfold pass3
              unfold shFar at hf
              rw [hr]
              show cond (!true) _ (cond (!fineS (s 0) (s 1) (s 2)) _ (cond (!fineS (s 3) (s 4) (s 5)) _ (cond (!fineS (s 6) (s 7) (s 8)) _ _))) = _
              revert hf
              cases fineS (s 0) (s 1) (s 2) <;> cases fineS (s 3) (s 4) (s 5) <;> cases fineS (s 6) (s 7) (s 8) <;> intro hf <;> first | rfl | (cases hf)
            unfold thruS thruB triOk
            rw [hp, sdS_z, sdS_z, sdS_z]
            rfl
          rw [ht]
          simp only [cond_false, Bool.not_true, e0]
          cases hk : meetK (box3 s) r
          · rfl
          · have hle := meet_le hk
            rw [hle]
            cases triOk (zS r) s r
            · rfl
            · simp only [cond_true, cond_false, Bool.not_true]
              cases fge (triT (zS r) s r) (r 6)
              · rfl
              · cases flt (triT (zS r) s r) (meetN (box3 s) r)
                · cases fgt (triT (zS r) s r) (meetF (box3 s) r) <;> rfl
                · rfl
    · rfl
  · rfl
theorem rstrike3 [Tok] (sk : Int) (s r : Nat → Nat) : FSpec Tryz.prog 31 [] [SH 3 s sk, RY r] (triV sk s r) := by
  refine sp T7_ok Tryz.func31 (by kernel_rfl) rfl ?_
  have e : ev Tryz.prog (T7 Tryz.prog Tryz.f42) Tryz.f31 [SH 3 s sk, RY r] = triTreeR sk s r := by kernel_rfl
  rw [e]; exact tri_treeR sk s r
end Go.Proofs.YtiagpcjonaahlaaGreat
