/-
  The ray of an eye, of code and answer.
-/
import Derived.Test.YtenaeijehjnfeaaBra2
import Derived.Test.YtenaeijehjnfeaaGm
namespace Go.Proofs.Ytenaeijehjnfeaa
open Go.Ev

/-! ### The ray -/
def riA (e : Nat → Nat) : Nat := fdiv (sqA e) (sqL e)
def riB (e : Nat → Nat) : Nat := fdiv (sqB e) (sqL e)
def riC (e : Nat → Nat) : Nat := fdiv (sqC e) (sqL e)
def upA (e : Nat → Nat) : Nat := crossX (riA e) (riB e) (riC e) (ahA e) (ahB e) (ahC e)
def upB (e : Nat → Nat) : Nat := crossX (riB e) (riC e) (riA e) (ahB e) (ahC e) (ahA e)
def upC (e : Nat → Nat) : Nat := crossX (riC e) (riA e) (riB e) (ahC e) (ahA e) (ahB e)
def plX (e : Nat → Nat) (u : Int) : Nat := fmul (fsub (fdiv (cn (FloatKind.f64.nearest u)) 4679240012837945344) 4602678819172646912) (e 9)
def plY (e : Nat → Nat) (v : Int) (t : Nat) : Nat := fmul (fmul (fsub 4602678819172646912 (fdiv (cn (FloatKind.f64.nearest v)) 4679240012837945344)) (e 9)) t
def diA (e : Nat → Nat) (u v : Int) (t : Nat) : Nat := cleanS (fadd (fadd (ahA e) (fmul (riA e) (plX e u))) (fmul (upA e) (plY e v t)))
def diB (e : Nat → Nat) (u v : Int) (t : Nat) : Nat := cleanS (fadd (fadd (ahB e) (fmul (riB e) (plX e u))) (fmul (upB e) (plY e v t)))
def diC (e : Nat → Nat) (u v : Int) (t : Nat) : Nat := cleanS (fadd (fadd (ahC e) (fmul (riC e) (plX e u))) (fmul (upC e) (plY e v t)))
def seen (e : Nat → Nat) (u v : Int) (t : Nat) : Nat → Nat := ls [e 0, e 1, e 2, diA e u v t, diB e u v t, diC e u v t, 0]
def sOk (e : Nat → Nat) (u v : Int) (t : Nat) : Bool := lookS e u v t == 0
def sEr (e : Nat → Nat) (u v : Int) (t : Nat) : Int := cond (sOk e u v t) (rayS (seen e u v t)) (lookS e u v t)
def sAt (e : Nat → Nat) (u v : Int) (t i : Nat) : Nat := cond (sOk e u v t) (seen e u v t i) 0
open Go.Gv (AV)
def rA (r : Nat → Nat) : List AV := [.f (r 0), .f (r 1), .f (r 2), .f (r 3), .f (r 4), .f (r 5), .f (r 6)]
def eC (r : Nat → Nat) : List AV := [.f (r 0), .f (r 1), .f (r 2), .f (r 3), .f (r 4), .f (r 5), .f (r 6), .f (r 7), .f (r 8), .f (r 9)]
def sV (e : Nat → Nat) (u v : Int) (t : Nat) : AV := .tup [.agg (rA fun i => sAt e u v t i), iA (sEr e u v t)]
end Go.Proofs.Ytenaeijehjnfeaa
namespace Go.Proofs.Ytenaeijehjnfeaa
open Go.Gv
open Go.Ev (cn fadd fsub fmul fdiv fsqrt feq flt fle fgt fge)

theorem gspec {l : List Entry} {ks : List KEntry} {L : Nat → Option LFun} (hl : ∀ e, e ∈ l → EOk Try.prog e) (hks : ∀ e, e ∈ ks → KOk Try.prog e) {f : Nat} {fn : Func} (hf : Try.prog.funcs[f]? = some fn) (hnm : (fn.name == "runtime.NumGoroutine") = false) (hb : fn.body = some (bodyOf fn)) (hL : LOk Try.prog L (bodyOf fn))
    {args : List AV} (hlen : Nat.ble args.length fn.ntmps = true) {r : AV} (h : ev Try.prog l ks L fn args ret = some (Out.of r)) : FSpec Try.prog f args r := spec_of_ev hl hks (by kernel_rfl) hf hnm hb hL hlen h

def gE : AV → Option (Nat → Nat)
  | .agg [.f a0, .f a1, .f a2, .f a3, .f a4, .f a5, .f a6, .f a7, .f a8, .f a9] => some (ls [a0, a1, a2, a3, a4, a5, a6, a7, a8, a9])
  | _ => none
theorem gE_some {x : AV} {a : Nat → Nat} (h : gE x = some a) : x = partA (EY a) ∧ x = .agg (eC a) ∧ M10 a = a := by
  unfold gE at h; split at h
  · cases h; exact ⟨rfl, rfl, rfl⟩
  · cases h
def gLook {α : Type} (w : α → AV) (g : (Nat → Nat) → Int → Int → Nat → α) : List AV → Option AV
  | [x, .x (.int .i64 u), .x (.int .i64 v), y] => match gE x, gF y with
    | some e, some t => some (w (g e u v t))
    | _, _ => none
  | _ => none
theorem gLook_ok {f : Nat} {g : (Nat → Nat) → Int → Int → Nat → Value} (h3 : ∀ e u v t, wholeOk (g e u v t) = true) (h : ∀ e u v t, @Ev.FSpec noTok Try.prog f [] [EY e, Ev.I u, Ev.I v, Ev.F t] (g (M10 e) u v t)) : EOk Try.prog ⟨f, gLook wholeA g⟩ := by
  intro args r hr
  simp only [gLook] at hr
  split at hr
  · rename_i x u v y
    split at hr
    · rename_i e t h1 h2
      cases hr
      have h4 := h e u v t
      rw [(gE_some h1).2.2] at h4
      rw [(gE_some h1).1, gF_some h2]
      exact Or.inl (bridge h4 rfl (h3 e u v t))
    · cases hr
  · cases hr
theorem gLook_ok' {f : Nat} {g : (Nat → Nat) → Int → Int → Nat → AV} (h : ∀ e u v t, FSpec Try.prog f [.agg (eC e), iA u, iA v, .f t] (g (M10 e) u v t)) : EOk Try.prog ⟨f, gLook id g⟩ := by
  intro args r hr
  simp only [gLook] at hr
  split at hr
  · rename_i x u v y
    split at hr
    · rename_i e t h1 h2
      cases hr
      have h4 := h e u v t
      rw [(gE_some h1).2.2] at h4
      rw [(gE_some h1).2.1, gF_some h2]
      exact Or.inl h4
    · cases hr
  · cases hr
def gE1 (g : (Nat → Nat) → Value) : List AV → Option AV
  | [x] => match gE x with
    | some a => some (wholeA (g a))
    | none => none
  | _ => none
theorem gE1_ok {f : Nat} {g : (Nat → Nat) → Value} (h3 : ∀ a, wholeOk (g a) = true) (h : ∀ a, @Ev.FSpec noTok Try.prog f [] [EY a] (g (M10 a))) : EOk Try.prog ⟨f, gE1 g⟩ := by
  intro args r hr
  simp only [gE1] at hr
  split at hr
  · split at hr
    · rename_i a ha
      cases hr
      have h4 := h a
      rw [(gE_some ha).2.2] at h4
      rw [(gE_some ha).1]
      exact Or.inl (bridge h4 rfl (h3 a))
    · cases hr
  · cases hr
def v1 (g : Nat → Nat → Nat → Value) : List AV → Option AV := g1 gV fun a => g (a 0) (a 1) (a 2)
def v2 (g : Nat → Nat → Nat → Nat → Nat → Nat → Value) : List AV → Option AV := g2 gV gV fun a b => g (a 0) (a 1) (a 2) (b 0) (b 1) (b 2)
def vf (g : Nat → Nat → Nat → Nat → Value) : List AV → Option AV := g2 gV gF fun a k => g (a 0) (a 1) (a 2) k
theorem v1_ok {f : Nat} {g : Nat → Nat → Nat → Value} (h3 : ∀ a b c, wholeOk (g a b c) = true) (h : ∀ a b c, @Ev.FSpec noTok Try.prog f [] [Ev.V a b c] (g a b c)) : EOk Try.prog ⟨f, v1 g⟩ :=
  g1_ok (mk := fun a : Nat → Nat => Ev.V (a 0) (a 1) (a 2)) gV_some (fun _ => rfl) (fun _ => h3 _ _ _) (fun _ => h _ _ _)
theorem v2_ok {f : Nat} {g : Nat → Nat → Nat → Nat → Nat → Nat → Value} (h3 : ∀ a b c d e f, wholeOk (g a b c d e f) = true) (h : ∀ a b c d e k, @Ev.FSpec noTok Try.prog f [] [Ev.V a b c, Ev.V d e k] (g a b c d e k)) : EOk Try.prog ⟨f, v2 g⟩ :=
  g2_ok (mk := fun a : Nat → Nat => Ev.V (a 0) (a 1) (a 2)) (mk' := fun a : Nat → Nat => Ev.V (a 0) (a 1) (a 2)) gV_some gV_some (fun _ => rfl) (fun _ => rfl) (fun _ _ => h3 _ _ _ _ _ _) (fun _ _ => h _ _ _ _ _ _)
theorem vf_ok {f : Nat} {g : Nat → Nat → Nat → Nat → Value} (h3 : ∀ a b c d, wholeOk (g a b c d) = true) (h : ∀ a b c k, @Ev.FSpec noTok Try.prog f [] [Ev.V a b c, Ev.F k] (g a b c k)) : EOk Try.prog ⟨f, vf g⟩ :=
  g2_ok (mk := fun a : Nat → Nat => Ev.V (a 0) (a 1) (a 2)) (mk' := fun a : Nat => Ev.F a) gV_some gF_some (fun _ => rfl) (fun _ => rfl) (fun _ _ => h3 _ _ _ _) (fun _ _ => h _ _ _ _)
def D1 : List Entry := ⟨8, v1 unitV⟩ :: ⟨19, v1 unitV⟩ :: ⟨12, v1 fun a b c => Ev.F (lengthS a b c)⟩ :: ⟨23, v1 fun a b c => Ev.F (lengthS a b c)⟩ :: ⟨15, v1 cleanE⟩ :: ⟨27, v1 cleanE⟩ ::
  ⟨9, v2 subE⟩ :: ⟨20, v2 subE⟩ :: ⟨13, v2 addE⟩ :: ⟨25, v2 addE⟩ :: ⟨10, v2 crossE⟩ :: ⟨21, v2 crossE⟩ :: ⟨6, v2 fun a b c d e f => Ev.B (sameVS a b c d e f)⟩ ::
  ⟨11, vf overE⟩ :: ⟨22, vf overE⟩ :: ⟨14, vf scaleE⟩ :: ⟨26, vf scaleE⟩ :: ⟨16, g1 gY fun r => Ev.I (rayS r)⟩ :: ⟨28, g1 gY fun r => Ev.I (rayS r)⟩ ::
  ⟨24, g2 gF gF fun a b => Ev.F (fmul a b)⟩ :: ⟨18, g1 gF fun a => Ev.B (nearS a)⟩ :: ⟨7, gLook wholeA fun e u v t => Ev.I (lookS e u v t)⟩ :: ⟨17, gE1 fun e => Ev.I (eyeS e)⟩ :: []
theorem D1_ok : ∀ e, e ∈ D1 → EOk Try.prog e :=
  letI := noTok
  e_cons (v1_ok (fun _ _ _ => rfl) vunit) <| e_cons (v1_ok (fun _ _ _ => rfl) runit) <| e_cons (v1_ok (fun _ _ _ => rfl) vlength) <| e_cons (v1_ok (fun _ _ _ => rfl) rlength) <| e_cons (v1_ok (fun _ _ _ => rfl) vclean) <| e_cons (v1_ok (fun _ _ _ => rfl) rclean) <|
  e_cons (v2_ok (fun _ _ _ _ _ _ => rfl) vsub) <| e_cons (v2_ok (fun _ _ _ _ _ _ => rfl) rsub) <| e_cons (v2_ok (fun _ _ _ _ _ _ => rfl) vadd) <| e_cons (v2_ok (fun _ _ _ _ _ _ => rfl) radd) <| e_cons (v2_ok (fun _ _ _ _ _ _ => rfl) vcross) <| e_cons (v2_ok (fun _ _ _ _ _ _ => rfl) rcross) <| e_cons (v2_ok (fun _ _ _ _ _ _ => rfl) rsameV) <|
  e_cons (vf_ok (fun _ _ _ _ => rfl) vover) <| e_cons (vf_ok (fun _ _ _ _ => rfl) rover) <| e_cons (vf_ok (fun _ _ _ _ => rfl) vscale) <| e_cons (vf_ok (fun _ _ _ _ => rfl) rscale) <| e_cons (g1_ok gY_some (fun _ => rfl) (fun _ => rfl) sfine) <| e_cons (g1_ok gY_some (fun _ => rfl) (fun _ => rfl) rrfine) <|
  e_cons (g2_ok gF_some gF_some (fun _ => rfl) (fun _ => rfl) (fun _ _ => rfl) rtimes) <| e_cons (g1_ok gF_some (fun _ => rfl) (fun _ => rfl) rnear) <| e_cons (gLook_ok (fun _ _ _ _ => rfl) blook) <| e_cons (gE1_ok (fun _ => rfl) reyeMay) e_nil

def sZ (n : Int) : Option Out := some (Out.of (.tup [.agg (rA fun _ => 0), iA n]))
def sR (e : Nat → Nat) (u v : Int) (t : Nat) : Option Out := some (Out.of (.tup [.agg (rA (seen e u v t)), iA (rayS (seen e u v t))]))
theorem noL_ok {P : Program} {c : Code} : LOk P noL c := fun _ _ _ _ _ h => by cases h
theorem bray (e : Nat → Nat) (u v : Int) (t : Nat) : FSpec Try.prog 4 [.agg (eC e), iA u, iA v, .f t] (sV (M10 e) u v t) := by
  refine gspec D1_ok k_nil Try.func4 (by kernel_rfl) (by kernel_rfl) noL_ok rfl ?_
  have h : ev Try.prog D1 [] noL Try.f4 [.agg (eC e), iA u, iA v, .f t] ret = cond (!(lookS (M10 e) u v t == 0)) (sZ (lookS (M10 e) u v t)) (sR (M10 e) u v t) := by kernel_rfl
  rw [h]
  unfold sV sAt sEr sOk
  cases lookS (M10 e) u v t == 0 <;> rfl
theorem reyeRay (e : Nat → Nat) (u v : Int) (t : Nat) : FSpec Try.prog 5 [.agg (eC e), iA u, iA v, .f t] (sV (M10 e) u v t) := by
  refine gspec D1_ok k_nil Try.func5 (by kernel_rfl) (by kernel_rfl) noL_ok rfl ?_
  have h : ev Try.prog D1 [] noL Try.f5 [.agg (eC e), iA u, iA v, .f t] ret = cond (!(eyeS (M10 e) == 0)) (sZ (eyeS (M10 e))) (cond (tallS t) (sZ 1)
      (cond (cond (cond (cond (decide (u < 0)) true (decide (u > 65536))) true (decide (v < 0))) true (decide (v > 65536))) (sZ 6) (sR (M10 e) u v t))) := by kernel_rfl
  have hp : cond (cond (cond (decide (u < 0)) true (decide (u > 65536))) true (decide (v < 0))) true (decide (v > 65536)) = cond (!partS u) true (!partS v) := by
    unfold partS
    by_cases h1 : u < 0 <;> by_cases h2 : u > 65536 <;> by_cases h3 : v < 0 <;> by_cases h4 : v > 65536
    all_goals
      first
        | (have g1 : ¬ (0 ≤ u) := by omega)
        | (have g1 : 0 ≤ u := by omega)
      first
        | (have g2 : ¬ (u ≤ 65536) := by omega)
        | (have g2 : u ≤ 65536 := by omega)
      first
        | (have g3 : ¬ (0 ≤ v) := by omega)
        | (have g3 : 0 ≤ v := by omega)
      first
        | (have g4 : ¬ (v ≤ 65536) := by omega)
        | (have g4 : v ≤ 65536 := by omega)
      simp [h1, h2, h3, h4, g1, g2, g3, g4]
  rw [h, hp]
  have hl : lookS (M10 e) u v t = cond (!(eyeS (M10 e) == 0)) (eyeS (M10 e)) (cond (tallS t) 1 (cond (cond (!partS u) true (!partS v)) 6 0)) := rfl
  unfold sV sAt sEr sOk
  rw [hl]
  cases h1 : eyeS (M10 e) == 0
  · simp only [Bool.not_false, cond_true, h1]
    rfl
  · cases tallS t
    · cases cond (!partS u) true (!partS v) <;> rfl
    · rfl
def D2 : List Entry := ⟨4, gLook id sV⟩ :: ⟨5, gLook id sV⟩ :: D1
theorem D2_ok : ∀ e, e ∈ D2 → EOk Try.prog e := e_cons (gLook_ok' bray) <| e_cons (gLook_ok' reyeRay) D1_ok

end Go.Proofs.Ytenaeijehjnfeaa
