/-
  The law TopEdges returns true for all rays and points, of any floats, the numbers that are none among them, and leaves its arguments as they were.
-/
import Derived.Test.YtfiihlgnbhcpeaiGreatStk
import Derived.Test.YtfiihlgnbhcpeaiGreatEMath
import Derived.Test.YtfiihlgnbhcpeaiGreatEv8
import Derived.Carry
namespace Go.Proofs.YtfiihlgnbhcpeaiGreat
open Go.Ev Go.RowKit Go.ChangeShapes Go.WideShapes Go.ChangeAt

def T1 [Tok] : List Entry := (6, pe (eN0 (B true))) :: A1
theorem T1_ok [Tok] : ∀ e, e ∈ T1 → EOk Tryz.prog e := all_cons (eN_ok strikes_ok) A1_ok

def withinB (x y z t : Nat) : Bool := cond (cond (cond (fgt x 0) (fgt y 0) false) (fgt z 0) false) (fgt t 0) false
theorem tedge_ev [Tok] (r : Nat → Nat) (a1 a2 a3 b1 b2 b3 c1 c2 c3 d1 d2 d3 : Nat) : ev Tryz.prog T1 Tryz.f3 [RY r, V a1 a2 a3, V b1 b2 b3, V c1 c2 c3, V d1 d2 d3] = some (B true) := by
  have h : ev Tryz.prog T1 Tryz.f3 [RY r, V a1 a2 a3, V b1 b2 b3, V c1 c2 c3, V d1 d2 d3] =
      cond (cond (!(pass2 r (v3 a1 a2 a3) (v3 b1 b2 b3) == pass2 r (v3 b1 b2 b3) (v3 a1 a2 a3))) true (cond (pass2 r (v3 a1 a2 a3) (v3 b1 b2 b3) == 0) (!feq (edgeF r (v3 a1 a2 a3) (v3 b1 b2 b3)) (fneg (edgeF r (v3 b1 b2 b3) (v3 a1 a2 a3)))) false)) (some (B false))
      (cond (cond (cond (cond (!(pass2 r (v3 a1 a2 a3) (v3 b1 b2 b3) == 0)) true (!(pass2 r (v3 b1 b2 b3) (v3 c1 c2 c3) == 0))) true (!(pass2 r (v3 c1 c2 c3) (v3 d1 d2 d3) == 0))) true (!(pass2 r (v3 d1 d2 d3) (v3 a1 a2 a3) == 0))) (some (B true))
      (cond (cond (!(pass3 r (v3 a1 a2 a3) (v3 b1 b2 b3) (v3 c1 c2 c3) == 0)) true (!(pass3 r (v3 a1 a2 a3) (v3 c1 c2 c3) (v3 d1 d2 d3) == 0))) (some (B false))
      (some (B (cond (cond (!withinB (edgeF r (v3 a1 a2 a3) (v3 b1 b2 b3)) (edgeF r (v3 b1 b2 b3) (v3 c1 c2 c3)) (edgeF r (v3 c1 c2 c3) (v3 d1 d2 d3)) (edgeF r (v3 d1 d2 d3) (v3 a1 a2 a3))) true (thruB r (v3 a1 a2 a3) (v3 b1 b2 b3) (v3 c1 c2 c3))) true (thruB r (v3 a1 a2 a3) (v3 c1 c2 c3) (v3 d1 d2 d3))))))) := by kernel_rfl
  rw [h]
  generalize v3 a1 a2 a3 = a
  generalize v3 b1 b2 b3 = b
  generalize v3 c1 c2 c3 = c
  generalize v3 d1 d2 d3 = d
  rw [pass2_comm r b a]
  have e0 : (pass2 r a b == pass2 r a b) = true := by simp
  rw [e0]
  cases h1 : pass2 r a b == 0
  · rfl
  obtain ⟨hr, fa, fb⟩ := pass2_zero h1
  have hd := deep_ok hr
  have e1 : edgeF r a b = sd (zS r) r a b := by unfold edgeF; rw [h1, ← sdS_z]; rfl
  have e2 : edgeF r b a = sd (zS r) r b a := by unfold edgeF; rw [pass2_comm, h1, ← sdS_z]; rfl
  rw [e1, e2, sd_turn hd (pt_of fa) (pt_of fb)]
  cases h2 : pass2 r b c == 0
  · rfl
  cases h3 : pass2 r c d == 0
  · rfl
  cases h4 : pass2 r d a == 0
  · rfl
  obtain ⟨_, _, fc⟩ := pass2_zero h2
  obtain ⟨_, _, fd⟩ := pass2_zero h3
  have p1 := pass3_zero hr fa fb fc
  have p2 := pass3_zero hr fa fc fd
  have e3 : edgeF r b c = sd (zS r) r b c := by unfold edgeF; rw [h2, ← sdS_z]; rfl
  have e4 : edgeF r c d = sd (zS r) r c d := by unfold edgeF; rw [h3, ← sdS_z]; rfl
  have e5 : edgeF r d a = sd (zS r) r d a := by unfold edgeF; rw [h4, ← sdS_z]; rfl
  have t1 : thruB r a b c = thr (sd (zS r) r b c) (sd (zS r) r c a) (sd (zS r) r a b) := by unfold thruB; rw [p1, ← sdS_z, ← sdS_z, ← sdS_z]; rfl
  have t2 : thruB r a c d = thr (sd (zS r) r c d) (sd (zS r) r d a) (sd (zS r) r a c) := by unfold thruB; rw [p2, ← sdS_z, ← sdS_z, ← sdS_z]; rfl
  rw [p1, p2, e3, e4, e5, t1, t2]
  cases hw : withinB (sd (zS r) r a b) (sd (zS r) r b c) (sd (zS r) r c d) (sd (zS r) r d a)
  · rfl
  unfold withinB at hw
  cases g1 : fgt (sd (zS r) r a b) 0
  · rw [g1] at hw; cases hw
  cases g2 : fgt (sd (zS r) r b c) 0
  · rw [g1, g2] at hw; cases hw
  cases g3 : fgt (sd (zS r) r c d) 0
  · rw [g1, g2, g3] at hw; cases hw
  cases g4 : fgt (sd (zS r) r d a) 0
  · rw [g1, g2, g3, g4] at hw; cases hw
  rcases through_one hd (pt_of fa) (pt_of fb) (pt_of fc) (pt_of fd) g1 g2 g3 g4 with e | e
  · rw [e]; rfl
  · rw [e]
    cases thr (sd (zS r) r b c) (sd (zS r) r c a) (sd (zS r) r a b) <;> rfl
theorem tedge [Tok] (r : Nat → Nat) (a1 a2 a3 b1 b2 b3 c1 c2 c3 d1 d2 d3 : Nat) : FSpec Tryz.prog 3 [] [RY r, V a1 a2 a3, V b1 b2 b3, V c1 c2 c3, V d1 d2 d3] (B true) := sp T1_ok Tryz.func3 (by kernel_rfl) rfl (tedge_ev r a1 a2 a3 b1 b2 b3 c1 c2 c3 d1 d2 d3)

theorem Tryz.own : ownKnob Tryz.prog.godebug = none := by kernel_rfl
theorem Tryz.laidOut : laidOutB Tryz.prog = true := by kernel_rfl
theorem Tryz.flat24 : flatKinds Tryz.prog 6 24 = some [.float .f64 0, .float .f64 0, .float .f64 0] := by kernel_rfl
theorem Tryz.flat26 : flatKinds Tryz.prog 6 26 = some [.float .f64 0, .float .f64 0, .float .f64 0, .float .f64 0, .float .f64 0, .float .f64 0, .float .f64 0] := by kernel_rfl

set_option maxRecDepth 100000 in
theorem vec_arg {H : Type} {enc : TypeId × Value → H} {W : World} {r : Reach} {b0 : Nat} {v : Value} {d : DataW H} {p : List MemPlace} (hv : Value.okWide Tryz.prog W r b0 24 v) (h : DataW.Trod enc Tryz.prog W 0 (fun _ => true) true 24 v d p) :
    ∃ a b c, v = V a b c := by
  obtain ⟨cs, rfl, hf⟩ := flat_arg Tryz.underlying24 rfl Tryz.flat24 hv h
  match cs, hf with
  | [_, _, _], ⟨⟨a, ha, _⟩, ⟨b, hb, _⟩, ⟨c, hc, _⟩, _⟩ => exact ⟨a, b, c, by rw [ha, hb, hc]⟩
set_option maxRecDepth 100000 in
theorem ray_arg {H : Type} {enc : TypeId × Value → H} {W : World} {r : Reach} {b0 : Nat} {v : Value} {d : DataW H} {p : List MemPlace} (hv : Value.okWide Tryz.prog W r b0 26 v) (h : DataW.Trod enc Tryz.prog W 0 (fun _ => true) true 26 v d p) :
    ∃ m : Nat → Nat, v = RY m := by
  obtain ⟨cs, rfl, hf⟩ := flat_arg Tryz.underlying26 rfl Tryz.flat26 hv h
  match cs, hf with
  | [_, _, _, _, _, _, _], ⟨⟨a0, h0, _⟩, ⟨a1, h1, _⟩, ⟨a2, h2, _⟩, ⟨a3, h3, _⟩, ⟨a4, h4, _⟩, ⟨a5, h5, _⟩, ⟨a6, h6, _⟩, _⟩ =>
    exact ⟨ls [a0, a1, a2, a3, a4, a5, a6], by rw [h0, h1, h2, h3, h4, h5, h6]; rfl⟩
theorem vec_rel [Tok] (bs : List Nat) (a b c : Nat) : vrel bs (V (cn a) (cn b) (cn c)) (V a b c) :=
  ⟨_, rfl, ⟨a, rfl, rfl⟩, ⟨b, rfl, rfl⟩, ⟨c, rfl, rfl⟩, trivial⟩
theorem ray_rel [Tok] (bs : List Nat) (m : Nat → Nat) : vrel bs (RY fun i => cn (m i)) (RY m) :=
  ⟨_, rfl, ⟨_, rfl, rfl⟩, ⟨_, rfl, rfl⟩, ⟨_, rfl, rfl⟩, ⟨_, rfl, rfl⟩, ⟨_, rfl, rfl⟩, ⟨_, rfl, rfl⟩, ⟨_, rfl, rfl⟩, trivial⟩

theorem trodAll_five {H : Type} {enc : TypeId × Value → H} {P : Program} {w : World} {base : Nat} {spare : Nat → Bool} {held : Bool} {t0 t1 t2 t3 t4 : TypeId} {args : Array Value} {ds : List (DataW H)} {ps : List MemPlace} (h : DataW.TrodAll enc P w base spare held [t0, t1, t2, t3, t4] args.toList ds ps) :
    ∃ v0 v1 v2 v3 v4 d0 d1 d2 d3 d4 p0 p1 p2 p3 p4, args = #[v0, v1, v2, v3, v4] ∧ ds = [d0, d1, d2, d3, d4] ∧ ps = p0 ++ (p1 ++ (p2 ++ (p3 ++ p4))) ∧ DataW.Trod enc P w base spare held t0 v0 d0 p0 ∧ DataW.Trod enc P w base spare held t1 v1 d1 p1 ∧ DataW.Trod enc P w base spare held t2 v2 d2 p2 ∧ DataW.Trod enc P w base spare held t3 v3 d3 p3 ∧ DataW.Trod enc P w base spare held t4 v4 d4 p4 := by
  obtain ⟨v0, w0, d0, e0, p0, q0, hargs, rfl, rfl, h0, r0⟩ := trodAll_cons h
  obtain ⟨v1, w1, d1, e1, p1, q1, rfl, rfl, rfl, h1, r1⟩ := trodAll_cons r0
  obtain ⟨v2, w2, d2, e2, p2, q2, rfl, rfl, rfl, h2, r2⟩ := trodAll_cons r1
  obtain ⟨v3, w3, d3, e3, p3, q3, rfl, rfl, rfl, h3, r3⟩ := trodAll_cons r2
  obtain ⟨v4, w4, d4, e4, p4, q4, rfl, rfl, rfl, h4, r4⟩ := trodAll_cons r3
  obtain ⟨rfl, rfl, rfl⟩ := trodAll_nil r4
  exact ⟨v0, v1, v2, v3, v4, d0, d1, d2, d3, d4, p0, p1, p2, p3, p4, by cases args; simp_all, rfl, by simp, h0, h1, h2, h3, h4⟩

set_option maxRecDepth 100000 in
theorem tedge_lifted (os : Os) (started : os.Started) (H : Type) (enc : TypeId × Value → H) :
    ReturnsInHanded {} Tryz.checked os 3 .any (Rows.topEdgesSpec.pre6 enc Tryz.prog Tryz.f3 Rows.topEdgesRow.domain false) (Rows.topEdgesSpec.post enc Tryz.prog Tryz.f3 false true false false) := by
  letI : Tok := ⟨fun _ => 0, fun _ => 0⟩
  refine returnsInHanded_of_change (C := Tryz.checked) Tryz.own started (by kernel_rfl) Tryz.func3
    (ChangeSpec.witness6 (enc := enc) (C := Tryz.checked) false ⟨#[], #[RY (fun _ => 0), V 0 0 0, V 0 0 0, V 0 0 0, V 0 0 0], []⟩ 8 (by kernel_rfl) (by kernel_rfl) (by kernel_rfl) (by kernel_rfl)) ?_
  intro W base args ds gs before hval0 hW hcnd _
  have hval : ∀ (j : Nat) t v, Tryz.f3.params[j]? = some t → args[j]? = some v → Value.okWide Tryz.prog W .any base t v := hval0
  have hW' := hW
  obtain ⟨p, q, hA0, hV, rfl, hfz, hnd⟩ := hW
  have hA : DataW.TrodAll enc Tryz.prog W 0 (fun _ => true) true Tryz.f3.params.toList args.toList ds p := hA0
  rw [Tryz.params3] at hA hval
  obtain ⟨v0, v1, v2, v3, v4, d0, d1, d2, d3, d4, p0, p1, p2, p3, p4, rfl, rfl, rfl, h0, h1, h2, h3, h4⟩ := trodAll_five hA
  obtain ⟨rfl, rfl⟩ := trodVars_none hV
  obtain ⟨m, rfl⟩ := ray_arg (hval 0 26 v0 rfl rfl) h0
  obtain ⟨a1, a2, a3, rfl⟩ := vec_arg (hval 1 24 v1 rfl rfl) h1
  obtain ⟨b1, b2, b3, rfl⟩ := vec_arg (hval 2 24 v2 rfl rfl) h2
  obtain ⟨c1, c2, c3, rfl⟩ := vec_arg (hval 3 24 v3 rfl rfl) h3
  obtain ⟨e1, e2, e3, rfl⟩ := vec_arg (hval 4 24 v4 rfl rfl) h4
  refine ((tedge (fun i => cn (m i)) (cn a1) (cn a2) (cn a3) (cn b1) (cn b2) (cn b3) (cn c1) (cn c2) (cn c3) (cn e1) (cn e2) (cn e3)).2 [] W #[RY m, V a1 a2 a3, V b1 b2 b3, V c1 c2 c3, V e1 e2 e3] ⟨rfl, fun i b cells hb => by simp at hb⟩ ⟨ray_rel _ m, vec_rel _ a1 a2 a3, vec_rel _ b1 b2 b3, vec_rel _ c1 c2 c3, vec_rel _ e1 e2 e3, trivial⟩).mono ?_
  rintro e' W' ⟨v, rfl, hv, hb⟩
  have hvt : v = .bool true := vrel_bool hv
  subst hvt
  exact ⟨_, rfl, law_post Tryz.laidOut (by kernel_rfl) rfl (by kernel_rfl) Tryz.underlying4 rfl hW' hb⟩

/-- THE STATEMENT. -/
theorem topEdges_holds : Rows.TopEdgesSaid :=
  OpenClaim.holds_of_wide 3 Tryz.f3 rfl rfl rfl rfl rfl rfl rfl ⟨rfl, rfl, rfl, rfl, rfl⟩ rfl rfl rfl rfl rfl (by kernel_rfl) Tryz.func3 (by kernel_rfl)
    (of_decide_eq_true (by kernel_rfl)) (by unfold Func.isWrapper; first | (rw [if_pos (by decide +kernel)]; kernel_rfl) | (rw [if_neg (by decide +kernel)]; exact ⟨rfl, rfl⟩))
    (fun os started H enc _ => tedge_lifted os started H enc)
#print axioms topEdges_holds
end Go.Proofs.YtfiihlgnbhcpeaiGreat
