/-
  The contracts of package slab: what each function hands back, as a plain function of the floats that go in.
-/
import Derived.Test.YtiagpcjonaahlaaGreatSh
import Derived.Test.YtiagpcjonaahlaaGreatRows
import Derived.KernelRfl
namespace Go.Proofs.YtiagpcjonaahlaaGreat
open Go.Ev

theorem sp [Tok] {L : List Entry} (hL : ∀ e, e ∈ L → EOk Tryz.prog e) {f : Nat} {fn : Func} (hf : Tryz.prog.funcs[f]? = some fn) (hnm : (fn.name == "runtime.NumGoroutine") = false) {args : List Value} (hlen : Nat.ble args.length fn.ntmps = true) {r : Value}
    (h : ev Tryz.prog L fn args = some r) : FSpec Tryz.prog f [] args r := spec_of_ev (by kernel_rfl) hL hf hnm hlen h
theorem sp2 [Tok] {L : List Entry} {M : List MEntry} (hL : ∀ e, e ∈ L → EOk Tryz.prog e) (hM : ∀ e, e ∈ M → MOk Tryz.prog e) {f : Nat} {fn : Func} (hf : Tryz.prog.funcs[f]? = some fn) (hnm : (fn.name == "runtime.NumGoroutine") = false) {args : List Value} (hlen : Nat.ble args.length fn.ntmps = true) {r : Value}
    (h : ev2 Tryz.prog L M fn args = some r) : FSpec Tryz.prog f [] args r := spec_of_ev2 (by kernel_rfl) hL hM hf hnm hlen h
theorem spM [Tok] {L : List Entry} (hL : ∀ e, e ∈ L → EOk Tryz.prog e) {f : Nat} {fn : Func} (hf : Tryz.prog.funcs[f]? = some fn) (hnm : (fn.name == "runtime.NumGoroutine") = false) {cells args : List Value} (hlen : Nat.ble args.length fn.ntmps = true) {r : Value}
    (h : evM Tryz.prog L fn cells args = some r) : MSpec Tryz.prog f cells args r := mspec_of_ev (by kernel_rfl) hL hf hnm hlen h

theorem vnear [Tok] (x : Nat) : FSpec Tryz.prog 56 [] [F x] (B (nearS x)) := sp all_nil Tryz.func56 (by kernel_rfl) rfl (by kernel_rfl)
theorem vcleanN [Tok] (x : Nat) : FSpec Tryz.prog 75 [] [F x] (F (cleanS x)) := by
  refine sp all_nil Tryz.func75 (by kernel_rfl) rfl ?_
  have h : ev Tryz.prog [] Tryz.f75 [F x] = cond (cond (fgt x 13740701229962882445) (flt x 4517329193108106637) false) (some (F 0)) (some (F x)) := by kernel_rfl
  rw [h, cond_some', cond_F]
  rfl
theorem sless [Tok] (a b : Nat) : FSpec Tryz.prog 73 [] [F a, F b] (F (lessS a b)) := by
  refine sp all_nil Tryz.func73 (by kernel_rfl) rfl ?_
  have h : ev Tryz.prog [] Tryz.f73 [F a, F b] = cond (flt b a) (some (F b)) (some (F a)) := by kernel_rfl
  rw [h]; unfold lessS; cases flt b a <;> rfl
theorem smore [Tok] (a b : Nat) : FSpec Tryz.prog 74 [] [F a, F b] (F (moreS a b)) := by
  refine sp all_nil Tryz.func74 (by kernel_rfl) rfl ?_
  have h : ev Tryz.prog [] Tryz.f74 [F a, F b] = cond (fgt b a) (some (F b)) (some (F a)) := by kernel_rfl
  rw [h]; unfold moreS; cases fgt b a <;> rfl
def S1 : List Entry := [(56, eF fun x => B (nearS x)), (75, eF fun x => F (cleanS x)), (73, eFF fun a b => F (lessS a b)), (74, eFF fun a b => F (moreS a b))]
theorem S1_ok [Tok] : ∀ e, e ∈ S1 → EOk Tryz.prog e := all_cons (eF_ok vnear) <| all_cons (eF_ok vcleanN) <| all_cons (eFF_ok sless) <| all_cons (eFF_ok smore) all_nil

theorem vfine [Tok] (a b c : Nat) : FSpec Tryz.prog 55 [] [V a b c] (B (fineS a b c)) := sp S1_ok Tryz.func55 (by kernel_rfl) rfl (by kernel_rfl)
theorem vclean [Tok] (a b c : Nat) : FSpec Tryz.prog 58 [] [V a b c] (V (cleanS a) (cleanS b) (cleanS c)) := sp S1_ok Tryz.func58 (by kernel_rfl) rfl (by kernel_rfl)
theorem sjoin [Tok] (a b : Nat → Nat) : FSpec Tryz.prog 57 [] [BX a, BX b] (BX (joinS a b)) := sp S1_ok Tryz.func57 (by kernel_rfl) rfl (by kernel_rfl)
def S2 : List Entry := (55, eV fun a b c => B (fineS a b c)) :: (58, eV fun a b c => V (cleanS a) (cleanS b) (cleanS c)) :: (57, pe (eBB0 fun a b => BX (joinS a b))) :: S1
theorem S2_ok [Tok] : ∀ e, e ∈ S2 → EOk Tryz.prog e := all_cons (eV_ok vfine) <| all_cons (eV_ok vclean) <| all_cons (eBB_ok sjoin) S1_ok

theorem smay [Tok] (b : Nat → Nat) : FSpec Tryz.prog 39 [] [BX b] (I (mayS b)) := by
  refine sp S2_ok Tryz.func39 (by kernel_rfl) rfl ?_
  have h : ev Tryz.prog S2 Tryz.f39 [BX b] = cond (cond (!fineS (b 0) (b 1) (b 2)) true (!fineS (b 3) (b 4) (b 5))) (some (I 1)) (cond (cond (cond (fgt (b 0) (b 3)) true (fgt (b 1) (b 4))) true (fgt (b 2) (b 5))) (some (I 6)) (some (I 0))) := by kernel_rfl
  rw [h, cond_some', cond_some', cond_I, cond_I]; rfl
theorem sfine [Tok] (r : Nat → Nat) : FSpec Tryz.prog 45 [] [RY r] (I (rayS r)) := by
  refine sp S2_ok Tryz.func45 (by kernel_rfl) rfl ?_
  have h : ev Tryz.prog S2 Tryz.f45 [RY r] = cond (rayF r) (some (I 1)) (cond (rayZ r) (some (I 2)) (cond (!rayC r) (some (I 1)) (cond (flt (r 6) 0) (some (I 6)) (some (I 0))))) := by kernel_rfl
  rw [h, cond_some', cond_some', cond_some', cond_some', cond_I, cond_I, cond_I, cond_I]; rfl
theorem scut [Tok] (lo hi o d n f : Nat) : MSpec Tryz.prog 46 [F n, F f] [.pointer (some ⟨0, 0, none⟩), F lo, F hi, F o, F d] (.tuple #[B (cutOk lo hi o d), .agg #[F (cutN lo hi o d n), F (cutF lo hi o d f)]]) := by
  refine spM S2_ok Tryz.func46 (by kernel_rfl) rfl ?_
  have h : evM Tryz.prog S2 Tryz.f46 [F n, F f] [.pointer (some ⟨0, 0, none⟩), F lo, F hi, F o, F d] =
    cond (feq d 0) (some (.tuple #[B (cond (fge o lo) (fle o hi) false), .agg #[F n, F f]]))
    (cond (flt d 0)
      (cond (fgt (fdiv (fsub hi o) d) n) (cond (flt (fdiv (fsub lo o) d) f) (some (.tuple #[B true, .agg #[F (fdiv (fsub hi o) d), F (fdiv (fsub lo o) d)]])) (some (.tuple #[B true, .agg #[F (fdiv (fsub hi o) d), F f]])))
        (cond (flt (fdiv (fsub lo o) d) f) (some (.tuple #[B true, .agg #[F n, F (fdiv (fsub lo o) d)]])) (some (.tuple #[B true, .agg #[F n, F f]]))))
      (cond (fgt (fdiv (fsub lo o) d) n) (cond (flt (fdiv (fsub hi o) d) f) (some (.tuple #[B true, .agg #[F (fdiv (fsub lo o) d), F (fdiv (fsub hi o) d)]])) (some (.tuple #[B true, .agg #[F (fdiv (fsub lo o) d), F f]])))
        (cond (flt (fdiv (fsub hi o) d) f) (some (.tuple #[B true, .agg #[F n, F (fdiv (fsub hi o) d)]])) (some (.tuple #[B true, .agg #[F n, F f]]))))) := by kernel_rfl
  rw [h]
  unfold cutOk cutN cutF cutA cutB
  cases feq d 0 <;> cases flt d 0 <;> simp only [cond_true, cond_false]
  · cases fgt (fdiv (fsub lo o) d) n <;> cases flt (fdiv (fsub hi o) d) f <;> rfl
  · cases fgt (fdiv (fsub hi o) d) n <;> cases flt (fdiv (fsub lo o) d) f <;> rfl

/-- The entry of a call that writes a stretch. -/
def eCut : List Value → List Value → Option Value
  | [x, y], [p, a, b, c, d] => match asF x, asF y, p, asF a, asF b, asF c, asF d with
    | some n, some f, .pointer (some ⟨0, 0, none⟩), some lo, some hi, some o, some d => some (.tuple #[B (cutOk lo hi o d), .agg #[F (cutN lo hi o d n), F (cutF lo hi o d f)]])
    | _, _, _, _, _, _, _ => none
  | _, _ => none
theorem cut_ok [Tok] : MOk Tryz.prog (46, eCut) := by
  intro cells args r h
  simp only [eCut] at h
  split at h
  · split at h
    · rename_i h1 h2 h3 h4 h5 h6
      cases h
      rw [asF_some h1, asF_some h2, asF_some h3, asF_some h4, asF_some h5, asF_some h6]
      exact scut _ _ _ _ _ _
    · cases h
  · cases h
def SM : List MEntry := [(46, eCut)]
theorem SM_ok [Tok] : ∀ e, e ∈ SM → MOk Tryz.prog e := fun e h => by
  rcases List.mem_cons.1 h with rfl | h
  · exact cut_ok
  · cases h
def S3 : List Entry := (39, pe (eB0 fun b => I (mayS b))) :: (45, pe (eY0 fun r => I (rayS r))) :: S2
theorem S3_ok [Tok] : ∀ e, e ∈ S3 → EOk Tryz.prog e := all_cons (eB_ok smay) <| all_cons (eY_ok sfine) S2_ok

end Go.Proofs.YtiagpcjonaahlaaGreat
