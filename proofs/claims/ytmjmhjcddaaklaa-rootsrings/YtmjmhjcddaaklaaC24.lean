/-
  Rea Arg0 Ar1, one behind the other.
-/
import Derived.Test.YtmjmhjcddaaklaaC23
import Derived.Test.YtmjmhjcddaaklaaC10
import Derived.Test.YtmjmhjcddaaklaaC19
namespace Go.Proofs.Ytmjmhjcddaaklaa
open Go.Gv

noncomputable def mbR (l : List AV) : Bool := mbI (decJ (a0 l)).1 (decJ (a0 l)).2
def u3 (a b c : Int) (i : Nat) : Int := [a, b, c].getD i 0
theorem mb31 (x : Int) : mbB x = false ↔ M31 x := by
  unfold mbB M31
  by_cases g1 : x < -2147483648
  · rw [decide_eq_true g1, cond_true]
    exact ⟨fun h => (by cases h), fun h => (by omega)⟩
  · rw [decide_eq_false g1, cond_false]
    by_cases g2 : x > 2147483648
    · rw [decide_eq_true g2]
      exact ⟨fun h => (by cases h), fun h => (by omega)⟩
    · rw [decide_eq_false g2]
      exact ⟨fun _ => (by omega), fun _ => rfl⟩
theorem mbI_cong {n : Nat} {u v : Nat → Int} (h : ∀ i, i < n → u i = v i) : mbI n u = mbI n v := by
  unfold mbI
  rcases all_or_first (fun i => !mbB (u i)) n with hl | ⟨K, hK, hp, _⟩
  · rw [allI_t hl, allI_t fun i hi => (by rw [← h i hi]; exact hl i hi)]
  · rw [allI_f hK hp, allI_f hK (by rw [← h K hK]; exact hp)]
theorem mb_three (a b c : Int) : FSpec Try.prog 14 [v3S a b c] (bA (mbR [v3S a b c])) ∧ (mbR [v3S a b c] = true ↔ M31 a ∧ M31 b ∧ M31 c) := by
  have e : mbR [v3S a b c] = mbI 3 (u3 a b c) := mbI_cong (n := 3) fun i hi => by
    match i, hi with
    | 0, _ => rfl
    | 1, _ => rfl
    | 2, _ => rfl
  rw [e]
  refine ⟨FSpec.of_args (mb_spec (n := 3) (u3 a b c) (by decide)) fun E vs h => ?_, ?_⟩
  · obtain ⟨v, ws, rfl, h1, h2⟩ := rels_cons.1 h
    exact rels_cons.2 ⟨v, ws, rfl, sl_like h1 fun i hi => (by
      match i, hi with
      | 0, _ => rfl
      | 1, _ => rfl
      | 2, _ => rfl), h2⟩
  · constructor
    · intro h
      have k := fun i hi => (mb31 _).1 (show mbB (u3 a b c i) = false by simpa using allI_all h i hi)
      exact ⟨k 0 (by omega), k 1 (by omega), k 2 (by omega)⟩
    · rintro ⟨h0, h1, h2⟩
      refine allI_t fun i hi => ?_
      match i, hi with
      | 0, _ => rw [show mbB (u3 a b c 0) = false from (mb31 _).2 h0]; rfl
      | 1, _ => rw [show mbB (u3 a b c 1) = false from (mb31 _).2 h1]; rfl
      | 2, _ => rw [show mbB (u3 a b c 2) = false from (mb31 _).2 h2]; rfl
theorem mb_two (a b : Int) : FSpec Try.prog 14 [p2A a b] (bA (mbR [p2A a b])) ∧ (mbR [p2A a b] = true ↔ M31 a ∧ M31 b) := by
  have e : mbR [p2A a b] = mbI 2 (u3 a b 0) := mbI_cong (n := 2) fun i hi => by
    match i, hi with
    | 0, _ => rfl
    | 1, _ => rfl
  rw [e]
  refine ⟨FSpec.of_args (mb_spec (n := 2) (u3 a b 0) (by decide)) fun E vs h => ?_, ?_⟩
  · obtain ⟨v, ws, rfl, h1, h2⟩ := rels_cons.1 h
    exact rels_cons.2 ⟨v, ws, rfl, sl_like h1 fun i hi => (by
      match i, hi with
      | 0, _ => rfl
      | 1, _ => rfl), h2⟩
  · constructor
    · intro h
      have k := fun i hi => (mb31 _).1 (show mbB (u3 a b 0 i) = false by simpa using allI_all h i hi)
      exact ⟨k 0 (by omega), k 1 (by omega)⟩
    · rintro ⟨h0, h1⟩
      refine allI_t fun i hi => ?_
      match i, hi with
      | 0, _ => rw [show mbB (u3 a b 0 0) = false from (mb31 _).2 h0]; rfl
      | 1, _ => rw [show mbB (u3 a b 0 1) = false from (mb31 _).2 h1]; rfl
section
variable {o0 o1 o2 d0 d1 d2 ax w t lo hi : Int}
theorem riB_eq : riB mbR msI o0 o1 o2 d0 d1 d2 w t lo hi = false ↔ Six o0 o1 o2 d0 d1 d2 w t ∧ msI lo hi = true := by
  have a := (mb_three o0 o1 o2).2
  have b := (mb_three d0 d1 d2).2
  have c := (mb_two w t).2
  unfold riB
  generalize mbR [v3S o0 o1 o2] = x at *
  generalize mbR [v3S d0 d1 d2] = y at *
  generalize mbR [p2A w t] = z at *
  generalize msI lo hi = u at *
  constructor
  · intro h
    cases x <;> cases y <;> cases z <;> cases u <;> first | (cases h; done) | skip
    obtain ⟨h0, h1, h2⟩ := a.1 rfl
    obtain ⟨h3, h4, h5⟩ := b.1 rfl
    obtain ⟨h6, h7⟩ := c.1 rfl
    exact ⟨⟨h0, h1, h2, h3, h4, h5, h6, h7⟩, rfl⟩
  · rintro ⟨h, rfl⟩
    rw [a.2 ⟨h.o0, h.o1, h.o2⟩, b.2 ⟨h.d0, h.d1, h.d2⟩, c.2 ⟨h.w, h.t⟩]
    rfl
theorem ri_go {rp : List AV → Ply} {L : List Int} {r : AV} (h : cond (cond (decide (ax < 0)) true (decide (ax > 2))) (rtBad 3) (cond (riB mbR msI o0 o1 o2 d0 d1 d2 w t lo hi) (rtBad 1) (gY 23 [v3 o0 o1 o2, v3 d0 d1 d2, iA ax, iA w, iA t] (rp [v3 o0 o1 o2, v3 d0 d1 d2, iA ax, iA w, iA t])
    (gate (FSpec Try.prog 16 [PlyA (rp [v3 o0 o1 o2, v3 d0 d1 d2, iA ax, iA w, iA t]), iA lo, iA hi] (lsJ L)) (some (Out.of (.tup [lsJ L, iA 0])))))) = some (Out.of r)) : FSpec Try.prog 10 [v3 o0 o1 o2, v3 d0 d1 d2, iA ax, iA w, iA t, iA lo, iA hi] r := by
  refine gspecZ noZ_ok (e_cons gMs_ok e_nil) (k_cons kS_ok (k_cons kS_ok (k_cons kS_ok k_nil))) (m_cons (born_ok _) m_nil) Try.func10 (by kernel_rfl) (by kernel_rfl) noL_ok rfl ((ri_ev mbR msI rp L o0 o1 o2 d0 d1 d2 ax w t lo hi).trans ?_)
  unfold gB
  rw [gate_pos (mb_three o0 o1 o2).1, gate_pos (mb_three d0 d1 d2).1, gate_pos (mb_two w t).1]
  exact h
end
theorem ax_bad {ax : Int} (h : ax < 0 ∨ ax > 2) : cond (decide (ax < 0)) true (decide (ax > 2)) = true := by
  by_cases g : ax < 0
  · rw [decide_eq_true g]; rfl
  · rw [decide_eq_false g, decide_eq_true (show ax > 2 by omega)]; rfl
theorem ax_good {ax : Int} (h : 0 ≤ ax ∧ ax ≤ 2) : cond (decide (ax < 0)) true (decide (ax > 2)) = false := by
  rw [decide_eq_false (show ¬ ax < 0 by omega), decide_eq_false (show ¬ ax > 2 by omega)]; rfl
theorem ringOk : RingOk where
  bad := fun o0 o1 o2 d0 d1 d2 ax w t lo hi hx => by
    refine bad_like (ri_go (rp := fun _ => zP0) (L := []) ?_)
    rw [ax_bad hx]
    rfl
  far := fun o0 o1 o2 d0 d1 d2 ax w t lo hi hx hs => by
    refine bad_like (ri_go (rp := fun _ => zP0) (L := []) ?_)
    have hb : riB mbR msI o0 o1 o2 d0 d1 d2 w t lo hi = true := by
      cases h : riB mbR msI o0 o1 o2 d0 d1 d2 w t lo hi
      · exact absurd (riB_eq.1 h) hs
      · rfl
    rw [ax_good hx, hb]
    rfl
  good := fun o0 o1 o2 d0 d1 d2 ax w t lo hi hx h6 hm => by
    obtain ⟨hlo, hhi⟩ := ms_lh hm
    obtain ⟨h1, g⟩ := rp_spec h6 hx
    have h2 := plC_spec (lo := lo) (hi := hi) (gd_ri h6.w h6.t (gd_a3 h6) g) (pp_Tp _ _) hlo hhi
    generalize plL (riP (a3P o0 o1 o2 d0 d1 d2) (flP ax o0 o1 o2 d0 d1 d2) w t) lo hi = L at h2 ⊢
    generalize riP (a3P o0 o1 o2 d0 d1 d2) (flP ax o0 o1 o2 d0 d1 d2) w t = Q at h1 h2
    refine ri_go (rp := fun _ => Q) (L := L) ?_
    unfold gY
    rw [ax_good hx, riB_eq.2 ⟨h6, hm⟩, gate_pos h1, gate_pos h2]
    rfl
end Go.Proofs.Ytmjmhjcddaaklaa

namespace Go.Proofs.Ytmjmhjcddaaklaa
open Go.Gv Go.RowKit Go.ChangeShapes Go.WideShapes Go.ChangeAt

end Go.Proofs.Ytmjmhjcddaaklaa

namespace Go.Proofs.Ytmjmhjcddaaklaa
open Go.Gv Go.RowKit Go.ChangeShapes Go.WideShapes Go.ChangeAt

theorem fit_iw {a : AV} {k : IntKind} (h : fitA (.i k) a) : ∃ n, a = .x (.int k n) ∧ (Lit.int k n).wf = true := by rw [fitA] at h; exact h
/-- Four cells, one behind the other. -/
theorem fitL_n3 {k0 k1 k2 : Kd} {zs : List AV} (h : fitL [k0, k1, k2] zs) : ∃ x y z, zs = [x, y, z] ∧ fitA k0 x ∧ fitA k1 y ∧ fitA k2 z := by
  match zs, h with
  | [x, y, z], h =>
    simp only [fitL_cons] at h
    exact ⟨x, y, z, rfl, h.1, h.2.1, h.2.2.1⟩
  | [], h => have := fitL_length h; simp at this
  | [_], h => have := fitL_length h; simp at this
  | [_, _], h => have := fitL_length h; simp at this
  | _ :: _ :: _ :: _ :: _, h => have := fitL_length h; simp at this
def l3A (l : Nat → Int) : List AV := [iA (l 0), iA (l 1), iA (l 2)]
/-- Three whole numbers. -/
theorem three_arg {E : Env} {zs : List AV} {v : Value} (h : fitL [.i .i64, .i .i64, .i .i64] zs) (hr : rel E (.agg zs) v) : ∃ l : Nat → Int, (∀ i, i < 3 → (Lit.int .i64 (l i)).wf = true) ∧ rel E (.agg (l3A l)) v := by
  obtain ⟨x, y, z, rfl, h0, h1, h2⟩ := fitL_n3 h
  obtain ⟨a, rfl, wa⟩ := fit_iw h0
  obtain ⟨b, rfl, wb⟩ := fit_iw h1
  obtain ⟨c, rfl, wc⟩ := fit_iw h2
  refine ⟨fun i => [a, b, c].getD i 0, fun i hi => ?_, hr⟩
  match i, hi with
  | 0, _ => exact wa
  | 1, _ => exact wb
  | 2, _ => exact wc
end Go.Proofs.Ytmjmhjcddaaklaa
