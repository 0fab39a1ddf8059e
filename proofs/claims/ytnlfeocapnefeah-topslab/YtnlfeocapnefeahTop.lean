/-
  The law TopSlab returns true for all boxes and rays, of any floats, the numbers that are none among them, and leaves its arguments as they were.
-/
import Derived.Test.YtnlfeocapnefeahMeet
import Derived.Test.YtnlfeocapnefeahMono
import Derived.Test.YtnlfeocapnefeahEv8
import Derived.Carry
namespace Go.Proofs.Ytnlfeocapnefeah
open Go.Ev Go.RowKit Go.ChangeShapes Go.WideShapes Go.ChangeAt

theorem top_ev (b c r : Nat → Nat) : ev Try.prog S4 Try.f3 [BX b, BX c, RY r] = some (B true) := by
  have h : ev Try.prog S4 Try.f3 [BX b, BX c, RY r] = cond (cond (!(mayS b == 0)) true (!(mayS c == 0))) (some (B true))
      (cond (cond (cond (!insideS b (joinS b c)) true (!insideS c (joinS b c))) true (!(mayS (joinS b c) == 0))) (some (B false))
      (cond (!meetK b r) (some (B (cond (feq (meetN b r) 0) (feq (meetF b r) 0) false)))
      (some (B (cond (cond (cond (cond (meetK (joinS b c) r) (fle (meetN (joinS b c) r) (meetN b r)) false) (fle (meetF b r) (meetF (joinS b c) r)) false) (fle (meetN b r) (meetF b r)) false) (fge (meetN b r) (r 6)) false))))) := by kernel_rfl
  rw [h]
  cases h1 : mayS b == 0
  · rfl
  cases h2 : mayS c == 0
  · rfl
  have hb := bx_of (by simpa using h1)
  have hc := bx_of (by simpa using h2)
  obtain ⟨hd, hwb, hwc⟩ := join_ok hb hc
  rw [inside_ok hb hd hwb, inside_ok hc hd hwc, bx_mk hd]
  cases hk : meetK b r
  · have e1 : meetN b r = 0 := by unfold meetN; rw [hk]; rfl
    have e2 : meetF b r = 0 := by unfold meetF; rw [hk]; rfl
    rw [e1, e2]
    have : feq 0 0 = true := by decide +kernel
    rw [this]
    rfl
  · obtain ⟨g1, g2, g3, g4, g5⟩ := meet_mono hb hd hwb hk
    rw [g1, g2, g3, g4, g5]
    rfl
theorem top3 (b c r : Nat → Nat) : FSpec Try.prog 3 [] [BX b, BX c, RY r] (B true) := sp S4_ok Try.func3 (by kernel_rfl) rfl (top_ev b c r)

theorem Try.own : ownKnob Try.prog.godebug = none := by kernel_rfl
theorem Try.laidOut : laidOutB Try.prog = true := by kernel_rfl
theorem Try.flat26 : flatKinds Try.prog 6 26 = some [.float .f64 0, .float .f64 0, .float .f64 0, .float .f64 0, .float .f64 0, .float .f64 0] := by kernel_rfl
theorem Try.flat28 : flatKinds Try.prog 6 28 = some [.float .f64 0, .float .f64 0, .float .f64 0, .float .f64 0, .float .f64 0, .float .f64 0, .float .f64 0] := by kernel_rfl

theorem box_arg {H : Type} {enc : TypeId × Value → H} {W : World} {r : Reach} {b0 : Nat} {v : Value} {d : DataW H} {p : List MemPlace} (hv : Value.okWide Try.prog W r b0 26 v) (h : DataW.Trod enc Try.prog W 0 (fun _ => true) true 26 v d p) :
    ∃ m : Nat → Nat, v = BX m := by
  obtain ⟨cs, rfl, hf⟩ := flat_arg Try.underlying26 rfl Try.flat26 hv h
  match cs, hf with
  | [_, _, _, _, _, _], ⟨⟨a0, h0, _⟩, ⟨a1, h1, _⟩, ⟨a2, h2, _⟩, ⟨a3, h3, _⟩, ⟨a4, h4, _⟩, ⟨a5, h5, _⟩, _⟩ =>
    exact ⟨ls [a0, a1, a2, a3, a4, a5], by rw [h0, h1, h2, h3, h4, h5]; rfl⟩
theorem ray_arg {H : Type} {enc : TypeId × Value → H} {W : World} {r : Reach} {b0 : Nat} {v : Value} {d : DataW H} {p : List MemPlace} (hv : Value.okWide Try.prog W r b0 28 v) (h : DataW.Trod enc Try.prog W 0 (fun _ => true) true 28 v d p) :
    ∃ m : Nat → Nat, v = RY m := by
  obtain ⟨cs, rfl, hf⟩ := flat_arg Try.underlying28 rfl Try.flat28 hv h
  match cs, hf with
  | [_, _, _, _, _, _, _], ⟨⟨a0, h0, _⟩, ⟨a1, h1, _⟩, ⟨a2, h2, _⟩, ⟨a3, h3, _⟩, ⟨a4, h4, _⟩, ⟨a5, h5, _⟩, ⟨a6, h6, _⟩, _⟩ =>
    exact ⟨ls [a0, a1, a2, a3, a4, a5, a6], by rw [h0, h1, h2, h3, h4, h5, h6]; rfl⟩
theorem box_rel (bs : List Nat) (m : Nat → Nat) : vrel bs (BX fun i => cn (m i)) (BX m) :=
  ⟨_, rfl, ⟨_, rfl, rfl⟩, ⟨_, rfl, rfl⟩, ⟨_, rfl, rfl⟩, ⟨_, rfl, rfl⟩, ⟨_, rfl, rfl⟩, ⟨_, rfl, rfl⟩, trivial⟩
theorem ray_rel (bs : List Nat) (m : Nat → Nat) : vrel bs (RY fun i => cn (m i)) (RY m) :=
  ⟨_, rfl, ⟨_, rfl, rfl⟩, ⟨_, rfl, rfl⟩, ⟨_, rfl, rfl⟩, ⟨_, rfl, rfl⟩, ⟨_, rfl, rfl⟩, ⟨_, rfl, rfl⟩, ⟨_, rfl, rfl⟩, trivial⟩

set_option maxRecDepth 100000 in
theorem top_lifted (os : Os) (started : os.Started) (H : Type) (enc : TypeId × Value → H) :
    ReturnsInHanded {} Try.checked os 3 .any (Rows.topSlabSpec.pre6 enc Try.prog Try.f3 Rows.topSlabRow.domain false) (Rows.topSlabSpec.post enc Try.prog Try.f3 false true false false) := by
  refine returnsInHanded_of_change (C := Try.checked) Try.own started (by kernel_rfl) Try.func3
    (ChangeSpec.witness6 (enc := enc) (C := Try.checked) false ⟨#[], #[BX (fun _ => 0), BX (fun _ => 0), RY (fun _ => 0)], []⟩ 8 (by kernel_rfl) (by kernel_rfl) (by kernel_rfl) (by kernel_rfl)) ?_
  intro W base args ds gs before hval0 hW hcnd _
  have hval : ∀ (j : Nat) t v, Try.f3.params[j]? = some t → args[j]? = some v → Value.okWide Try.prog W .any base t v := hval0
  have hW' := hW
  obtain ⟨p, q, hA0, hV, rfl, hfz, hnd⟩ := hW
  have hA : DataW.TrodAll enc Try.prog W 0 (fun _ => true) true Try.f3.params.toList args.toList ds p := hA0
  rw [Try.params3] at hA hval
  obtain ⟨v0, v1, v2, d0, d1, d2, p0, p1, p2, rfl, rfl, rfl, h0, h1, h2⟩ := trodAll_three hA
  obtain ⟨rfl, rfl⟩ := trodVars_none hV
  obtain ⟨m, rfl⟩ := box_arg (hval 0 26 v0 rfl rfl) h0
  obtain ⟨n, rfl⟩ := box_arg (hval 1 26 v1 rfl rfl) h1
  obtain ⟨x, rfl⟩ := ray_arg (hval 2 28 v2 rfl rfl) h2
  refine ((top3 (fun i => cn (m i)) (fun i => cn (n i)) (fun i => cn (x i))).2 [] W #[BX m, BX n, RY x] ⟨rfl, fun i b cells hb => by simp at hb⟩ ⟨box_rel _ m, box_rel _ n, ray_rel _ x, trivial⟩).mono ?_
  rintro e' W' ⟨v, rfl, hv, hb⟩
  have hvt : v = .bool true := vrel_bool hv
  subst hvt
  exact ⟨_, rfl, law_post Try.laidOut (by kernel_rfl) rfl (by kernel_rfl) Try.underlying4 rfl hW' hb⟩

/-- THE STATEMENT. -/
theorem topSlab_holds : Rows.TopSlabSaid :=
  OpenClaim.holds_of_wide 3 Try.f3 rfl rfl rfl rfl rfl rfl rfl ⟨rfl, rfl, rfl, rfl, rfl⟩ rfl rfl rfl rfl rfl (by kernel_rfl) Try.func3 (by kernel_rfl)
    (of_decide_eq_true (by kernel_rfl)) (by unfold Func.isWrapper; first | (rw [if_pos (by decide +kernel)]; kernel_rfl) | (rw [if_neg (by decide +kernel)]; exact ⟨rfl, rfl⟩))
    (fun os started H enc _ => top_lifted os started H enc)
#print axioms topSlab_holds
end Go.Proofs.Ytnlfeocapnefeah
