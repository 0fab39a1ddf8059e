/-
  The law SolidSays returns true for every value of its arguments, and leaves them as they were.
-/
import Derived.Test.YtancjnambbkhmaaGreatC25
import Derived.Test.YtancjnambbkhmaaGreatRows
import Derived.Carry
import Derived.ChangeSlices
namespace Go.Proofs.YtancjnambbkhmaaGreat
open Go.Gv Go.RowKit Go.ChangeShapes Go.WideShapes Go.ChangeAt
open Go.Ev (cn law_post)

namespace Hs.So
theorem fitL_c {k : Kd} {ks : List Kd} {zs : List AV} (h : fitL (k :: ks) zs) : ∃ x l, zs = x :: l ∧ fitA k x ∧ fitL ks l := by
  match zs, h with
  | [], h => have := fitL_length h; simp at this
  | x :: l, h => exact ⟨x, l, rfl, (fitL_cons.1 h).1, (fitL_cons.1 h).2⟩
theorem fitL_e {zs : List AV} (h : fitL [] zs) : zs = [] := by
  match zs, h with
  | [], _ => rfl
  | _ :: _, h => have := fitL_length h; simp at this
theorem fitF {a : AV} (h : fitA .f a) : ∃ x, a = .f x := by
  rw [fitA] at h
  obtain ⟨n, e, _⟩ := h
  exact ⟨_, e⟩
theorem fitI' {a : AV} (h : fitA (.i .i64) a) : ∃ n, a = iA n := by
  rw [fitA] at h
  obtain ⟨n, rfl, _⟩ := h
  exact ⟨n, rfl⟩
theorem ray_arg {E : Env} {zs : List AV} {v : Value} (h : fitL [.f, .f, .f, .f, .f, .f, .f] zs) (hr : rel E (.agg zs) v) : ∃ r, rel E (RY r) v := by
  obtain ⟨x1, l, rfl, h1, h⟩ := fitL_c h
  obtain ⟨x2, l, rfl, h2, h⟩ := fitL_c h
  obtain ⟨x3, l, rfl, h3, h⟩ := fitL_c h
  obtain ⟨x4, l, rfl, h4, h⟩ := fitL_c h
  obtain ⟨x5, l, rfl, h5, h⟩ := fitL_c h
  obtain ⟨x6, l, rfl, h6, h⟩ := fitL_c h
  obtain ⟨x7, l, rfl, h7, h⟩ := fitL_c h
  obtain rfl := fitL_e h
  obtain ⟨a1, rfl⟩ := fitF h1
  obtain ⟨a2, rfl⟩ := fitF h2
  obtain ⟨a3, rfl⟩ := fitF h3
  obtain ⟨a4, rfl⟩ := fitF h4
  obtain ⟨a5, rfl⟩ := fitF h5
  obtain ⟨a6, rfl⟩ := fitF h6
  obtain ⟨a7, rfl⟩ := fitF h7
  exact ⟨ls [a1, a2, a3, a4, a5, a6, a7], hr⟩
theorem vec_arg {E : Env} {zs : List AV} {v : Value} (h : fitL [.f, .f, .f] zs) (hr : rel E (.agg zs) v) : ∃ p q u, rel E (V p q u) v := by
  obtain ⟨x1, l, rfl, h1, h⟩ := fitL_c h
  obtain ⟨x2, l, rfl, h2, h⟩ := fitL_c h
  obtain ⟨x3, l, rfl, h3, h⟩ := fitL_c h
  obtain rfl := fitL_e h
  obtain ⟨a1, rfl⟩ := fitF h1
  obtain ⟨a2, rfl⟩ := fitF h2
  obtain ⟨a3, rfl⟩ := fitF h3
  exact ⟨a1, a2, a3, hr⟩
theorem sc_self (a : Crs) : scS a a = true := by
  unfold scS
  rw [sameS_self, BEq.rfl, BEq.rfl]; rfl
theorem lwE_ok : ∀ e, e ∈ lwE scS → EOk Tryz.prog e := e_cons (eCC_ok sc_spec) e_nil
theorem lw_leads (n : Nat) (P : Nat → Prt) (sn : Int) (r : Nat → Nat) (c : Crs) (p q u : Nat) {S : List Spn} (hS : S.length ≤ 1000) : Leads Tryz.prog (.loop (loopAt Tryz.f5 0)) (lwS n P sn r c p q u S 0) (.exit 0) (lwS n P sn r c p q u S S.length) := by
  refine loop_rule (fun k => lwS n P sn r c p q u S (k : Nat)) S.length (.exit 0) _ (by simp) (fun k hk => ?_) ?_
  · refine leads_ev (finN_sub keepLw [some 0, some 1, some 2, some 3]) lwE_ok k_nil noL_ok ((lw_step scS n P sn r c p q u S (k : Nat)).trans ?_)
    unfold lwC lwG
    rw [dec_lt hk, ixB_t hk, Int.toNat_natCast, sc_self, sc_self, w64_next (by omega)]; rfl
  · refine leads_ev (finE_sub keepLw [some 0, some 1, some 2, some 3]) lwE_ok k_nil noL_ok ((lw_end scS n P sn r c p q u S (S.length : Nat)).trans ?_)
    unfold lwC
    rw [dec_self, cond_false]
theorem srS_len (n : Nat) (P : Nat → Prt) (sn : Int) (r : Nat → Nat) : (srS' n P sn r).length ≤ 16 := by
  unfold srS'
  by_cases e : srE n P sn r = 0
  · rw [e]
    have ok := so_ok (srE_ok e).1
    exact soS_len ok.1 ok.2.1 r ok.2.2
  · rw [beq_false_of_ne e]; exact Nat.zero_le _
/-- THE LAW SolidSays, of all solids, rays, crosses and points. -/
theorem solidSays_law (n : Nat) (P : Nat → Prt) (sn : Int) (r : Nat → Nat) (c : Crs) (p q u : Nat) : FSpec Tryz.prog 5 [.agg (soC n P sn), RY r, c.v, V p q u] (bA true) := by
  have hN : FSpec Tryz.prog 33 [.agg (soC n P sn), c.v, V p q u] (.tup [V (soN n P sn c.l c.u p q u).x (soN n P sn c.l c.u p q u).y (soN n P sn c.l c.u p q u).w, iA (soN n P sn c.l c.u p q u).e]) := snormal_spec n P sn c.t c.l c.u p q u
  have hR : FSpec Tryz.prog 34 [.agg (soC n P sn), c.v, V p q u] (.tup [V (soN n P sn c.l c.u p q u).x (soN n P sn c.l c.u p q u).y (soN n P sn c.l c.u p q u).w, iA (soN n P sn c.l c.u p q u).e]) := rsnormal_spec n P sn c.t c.l c.u p q u
  have hl := srS_len n P sn r
  refine gspec (e_cons (eBB_ok rsameB) <| e_cons (eVV_ok rsameV) lwE_ok) (k_cons kS_ok (k_cons kS_ok (k_cons kS_ok (k_cons kS_ok (k_cons kS_ok (k_cons kS_ok (k_cons kS_ok (k_cons kS_ok (k_cons kS_ok (k_cons kS_ok k_nil)))))))))) Tryz.func5 (by kernel_rfl) (by kernel_rfl)
    (lok_at (i := 12) 0 1 (by kernel_rfl) (by kernel_rfl) (toldF_sound (keep := keepLw) (τ := [some 0, some 1, some 2, some 3]) (lw_leads n P sn r c p q u (S := srS' n P sn r) (by omega)))) rfl ((lw_ev scS sameB sameVS n P sn r c p q u (srS' n P sn r) (soB n P sn) (soE n P sn) (srE n P sn r) (sdk n P sn r) (soN n P sn c.l c.u p q u).x (soN n P sn c.l c.u p q u).y (soN n P sn c.l c.u p q u).w (soN n P sn c.l c.u p q u).e).trans ?_)
  unfold lwW lwX lwY lwZ
  rw [gate_pos (sbounds_spec n P sn), gate_pos (rsbounds_spec n P sn), gate_pos (smay_spec n P sn), gate_pos (rsmay_spec n P sn), gate_pos (ss_spec n P sn r), gate_pos (rss_spec n P sn r), gate_pos (Sub.refl _), gate_pos (sk_spec n P sn r), gate_pos (rsk_spec n P sn r), gate_pos hN, gate_pos hR, sameB_self, sameVS_self, sc_self]
  simp only [BEq.rfl]
  cases decide ((n : Int) > 20) <;> rfl
/-! ### The arguments -/
abbrev ptKd : List Kd := [.i .i64, .i .i64, .i .i64, .i .i64, .f, .f, .f, .f, .f, .f, .f, .f, .f, .f, .f, .i .i64]
theorem part_arg {zs : List AV} (h : fitL ptKd zs) : zs = (decP zs).c := by
  obtain ⟨x0, l, rfl, h0, h⟩ := fitL_c h
  obtain ⟨x1, l, rfl, h1, h⟩ := fitL_c h
  obtain ⟨x2, l, rfl, h2, h⟩ := fitL_c h
  obtain ⟨x3, l, rfl, h3, h⟩ := fitL_c h
  obtain ⟨x4, l, rfl, h4, h⟩ := fitL_c h
  obtain ⟨x5, l, rfl, h5, h⟩ := fitL_c h
  obtain ⟨x6, l, rfl, h6, h⟩ := fitL_c h
  obtain ⟨x7, l, rfl, h7, h⟩ := fitL_c h
  obtain ⟨x8, l, rfl, h8, h⟩ := fitL_c h
  obtain ⟨x9, l, rfl, h9, h⟩ := fitL_c h
  obtain ⟨x10, l, rfl, h10, h⟩ := fitL_c h
  obtain ⟨x11, l, rfl, h11, h⟩ := fitL_c h
  obtain ⟨x12, l, rfl, h12, h⟩ := fitL_c h
  obtain ⟨x13, l, rfl, h13, h⟩ := fitL_c h
  obtain ⟨x14, l, rfl, h14, h⟩ := fitL_c h
  obtain ⟨x15, l, rfl, h15, h⟩ := fitL_c h
  obtain rfl := fitL_e h
  obtain ⟨a0, rfl⟩ := fitI' h0
  obtain ⟨a1, rfl⟩ := fitI' h1
  obtain ⟨a2, rfl⟩ := fitI' h2
  obtain ⟨a3, rfl⟩ := fitI' h3
  obtain ⟨a4, rfl⟩ := fitF h4
  obtain ⟨a5, rfl⟩ := fitF h5
  obtain ⟨a6, rfl⟩ := fitF h6
  obtain ⟨a7, rfl⟩ := fitF h7
  obtain ⟨a8, rfl⟩ := fitF h8
  obtain ⟨a9, rfl⟩ := fitF h9
  obtain ⟨a10, rfl⟩ := fitF h10
  obtain ⟨a11, rfl⟩ := fitF h11
  obtain ⟨a12, rfl⟩ := fitF h12
  obtain ⟨a13, rfl⟩ := fitF h13
  obtain ⟨a14, rfl⟩ := fitF h14
  obtain ⟨a15, rfl⟩ := fitI' h15
  rfl
theorem solid_arg {E : Env} {zs : List AV} {v : Value} (h : fitL [.l 16 ptKd, .i .i64] zs) (hr : rel E (.agg zs) v) : ∃ n P sn, rel E (.agg (soC n P sn)) v := by
  obtain ⟨x0, l, rfl, h0, h⟩ := fitL_c h
  obtain ⟨x1, l, rfl, h1, h⟩ := fitL_c h
  obtain rfl := fitL_e h
  rw [fitA] at h0
  obtain ⟨n, el, rfl, hn, hel⟩ := h0
  obtain ⟨sn, rfl⟩ := fitI' h1
  refine ⟨n, fun i => decP (el i), sn, ?_⟩
  obtain ⟨vs, e1, hr⟩ := rel_agg.1 hr
  refine rel_agg.2 ⟨vs, e1, ?_⟩
  obtain ⟨u, us, e2, r1, hr⟩ := rels_cons.1 hr
  exact rels_cons.2 ⟨u, us, e2, sl_congr (fun i hi => part_arg (hel i hi)) r1, hr⟩
theorem cross_arg {E : Env} {zs : List AV} {v : Value} (h : fitL [.f, .i .i64, .b] zs) (hr : rel E (.agg zs) v) : ∃ c : Crs, rel E c.v v := by
  obtain ⟨x0, l, rfl, h0, h⟩ := fitL_c h
  obtain ⟨x1, l, rfl, h1, h⟩ := fitL_c h
  obtain ⟨x2, l, rfl, h2, h⟩ := fitL_c h
  obtain rfl := fitL_e h
  obtain ⟨a0, rfl⟩ := fitF h0
  obtain ⟨a1, rfl⟩ := fitI' h1
  rw [fitA] at h2
  obtain ⟨a2, rfl⟩ := h2
  exact ⟨⟨a0, a1, a2⟩, hr⟩
end Hs.So
set_option maxRecDepth 100000 in
theorem solidSays_lifted (os : Os) (started : os.Started) (H : Type) (enc : TypeId × Value → H) :
    ReturnsInHanded {} Tryz.checked os 5 .any (Rows.solidSaysSpec.pre6 enc Tryz.prog Tryz.f5 Rows.solidSaysRow.domain false) (Rows.solidSaysSpec.post enc Tryz.prog Tryz.f5 false true false false) := by
  refine returnsInHanded_of_change (C := Tryz.checked) Tryz.own started (by kernel_rfl) Tryz.func5
    (ChangeSpec.witness6 (enc := enc) (C := Tryz.checked) false ⟨#[], #[.agg #[.slice none 0 0, .int .i64 0], .agg #[.float .f64 0, .float .f64 0, .float .f64 0, .float .f64 0, .float .f64 0, .float .f64 0, .float .f64 0], .agg #[.float .f64 0, .int .i64 0, .bool false], .agg #[.float .f64 0, .float .f64 0, .float .f64 0]], []⟩ 8 (by kernel_rfl) (by kernel_rfl) (by kernel_rfl) (by kernel_rfl)) ?_
  intro W base args ds gs before hval0 hW hcnd _
  have hval : ∀ (j : Nat) t v, Tryz.f5.params[j]? = some t → args[j]? = some v → Value.okWide Tryz.prog W .any base t v := hval0
  have hW' := hW
  obtain ⟨p, q, hA0, hV, rfl, hfz, hnd⟩ := hW
  have hA : DataW.TrodAll enc Tryz.prog W 0 (fun _ => true) true Tryz.f5.params.toList args.toList ds p := hA0
  rw [Tryz.params5] at hA hval
  obtain ⟨v0, t0, d0, s0, p0, q0, hargs, rfl, rfl, h0, hA⟩ := trodAll_cons hA
  obtain ⟨v1, t1, d1, s1, p1, q1, rfl, rfl, rfl, h1, hA⟩ := trodAll_cons hA
  obtain ⟨v2, t2, d2, s2, p2, q2, rfl, rfl, rfl, h2, hA⟩ := trodAll_cons hA
  obtain ⟨v3, t3, d3, s3, p3, q3, rfl, rfl, rfl, h3, hA⟩ := trodAll_cons hA
  obtain ⟨rfl, rfl, rfl⟩ := trodAll_nil hA
  obtain rfl : args = #[v0, v1, v2, v3] := by rw [← Array.toList_inj, hargs]
  obtain ⟨rfl, rfl⟩ := trodVars_none hV
  obtain ⟨z0, k0, y0⟩ := open_agg (n := 8) (ks := [.l 16 Hs.So.ptKd, .i .i64]) Tryz.underlying52 rfl (by kernel_rfl) (hval 0 52 v0 rfl rfl) h0
  obtain ⟨n, P, sn, r0⟩ := Hs.So.solid_arg k0 y0
  obtain ⟨z1, k1, y1⟩ := open_agg (n := 6) (ks := [.f, .f, .f, .f, .f, .f, .f]) Tryz.underlying28 rfl (by kernel_rfl) (hval 1 28 v1 rfl rfl) h1
  obtain ⟨r, r1⟩ := Hs.So.ray_arg k1 y1
  obtain ⟨z2, k2, y2⟩ := open_agg (n := 6) (ks := [.f, .i .i64, .b]) Tryz.underlying54 rfl (by kernel_rfl) (hval 2 54 v2 rfl rfl) h2
  obtain ⟨c, r2⟩ := Hs.So.cross_arg k2 y2
  obtain ⟨z3, k3, y3⟩ := open_agg (n := 6) (ks := [.f, .f, .f]) Tryz.underlying24 rfl (by kernel_rfl) (hval 3 24 v3 rfl rfl) h3
  obtain ⟨x, y, w, r3⟩ := Hs.So.vec_arg k3 y3
  refine ((Hs.So.solidSays_law n P sn r c x y w).2 (fun _ => False) W #[v0, v1, v2, v3] (fun _ h => h.elim) (rels_cons.2 ⟨v0, _, rfl, r0, rels_cons.2 ⟨v1, _, rfl, r1, rels_cons.2 ⟨v2, _, rfl, r2, rels_cons.2 ⟨v3, _, rfl, r3, rels_nil.2 rfl⟩⟩⟩⟩) (glob_none fun _ => rfl)).mono ?_
  rintro e' W' ⟨v, rfl, hv, hb⟩
  have hvt : v = .bool true := rel_x.1 hv
  subst hvt
  exact ⟨_, rfl, law_post Tryz.laidOut (by kernel_rfl) rfl (by kernel_rfl) Tryz.underlying4 rfl hW' hb⟩

/-- THE STATEMENT. -/
theorem solidSays_holds : Rows.SolidSaysSaid :=
  OpenClaim.holds_of_wide 5 Tryz.f5 rfl rfl rfl rfl rfl rfl rfl ⟨rfl, rfl, rfl, rfl, rfl⟩ rfl rfl rfl rfl rfl (by kernel_rfl) Tryz.func5 (by kernel_rfl)
    (of_decide_eq_true (by kernel_rfl)) (by unfold Func.isWrapper; first | (rw [if_pos (by decide +kernel)]; kernel_rfl) | (rw [if_neg (by decide +kernel)]; exact ⟨rfl, rfl⟩))
    (fun os started H enc _ => solidSays_lifted os started H enc)
#print axioms solidSays_holds
end Go.Proofs.YtancjnambbkhmaaGreat
