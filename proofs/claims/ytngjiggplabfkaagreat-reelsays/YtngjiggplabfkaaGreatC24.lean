/-
  The law ReelSays returns true for every value of its arguments, and leaves them as they were.
-/
import Derived.Test.YtngjiggplabfkaaGreatC23
import Derived.Test.YtngjiggplabfkaaGreatRows
import Derived.Carry
import Derived.ChangeSlices
namespace Go.Proofs.YtngjiggplabfkaaGreat
open Go.Gv Go.RowKit Go.ChangeShapes Go.WideShapes Go.ChangeAt
open Go.Ev (cn law_post)

namespace Hs.Sc
open So Fm
theorem fitL_c {k : Kd} {ks : List Kd} {zs : List AV} (h : fitL (k :: ks) zs) : ∃ x l, zs = x :: l ∧ fitA k x ∧ fitL ks l := by
  match zs, h with
  | [], h => have := fitL_length h; simp at this
  | x :: l, h => exact ⟨x, l, rfl, (fitL_cons.1 h).1, (fitL_cons.1 h).2⟩
theorem fitL_e {zs : List AV} (h : fitL [] zs) : zs = [] := by
  match zs, h with
  | [], _ => rfl
  | _ :: _, h => have := fitL_length h; simp at this
theorem fitF {a : AV} (h : fitA .f a) : ∃ x, a = .f x := by
  rw [fitA] at h
  obtain ⟨n, e, _⟩ := h
  exact ⟨_, e⟩
theorem fitI' {a : AV} (h : fitA (.i .i64) a) : ∃ n, a = iA n := by
  rw [fitA] at h
  obtain ⟨n, rfl, _⟩ := h
  exact ⟨n, rfl⟩
theorem sl_imp {E : Env} {sz n : Nat} {el el' : Nat → List AV} {v : Value} (he : ∀ q, q < n → (el' q).length = (el q).length ∧ ∀ (E : Env) (cs : List Value), pre E (el q) cs → pre E (el' q) cs) (h : rel E (.sl sz n el) v) : rel E (.sl sz n el') v := by
  obtain ⟨a, c, e, hc, h1⟩ := rel_sl.1 h
  refine rel_sl.2 ⟨a, c, e, hc, ?_⟩
  rcases h1 with h1 | ⟨b, o, cs, e', fz, h2, h3, h4, h5⟩
  · exact Or.inl h1
  · exact Or.inr ⟨b, o, cs, e', fz, h2, h3, h4, fun i hi => ⟨(he i hi).1.trans (h5 i hi).1, (he i hi).2 _ _ (h5 i hi).2⟩⟩
theorem sl_same' {E : Env} {sz n : Nat} {el el' : Nat → List AV} {v : Value} (he : ∀ q, q < n → el q = el' q) (h : rel E (.sl sz n el) v) : rel E (.sl sz n el') v := sl_imp (fun q hq => like_eq (he q hq)) h
abbrev ptKd : List Kd := [.i .i64, .i .i64, .i .i64, .i .i64, .f, .f, .f, .f, .f, .f, .f, .f, .f, .f, .f, .i .i64]
abbrev shKd : List Kd := [.i .i64, .f, .f, .f, .f, .f, .f, .f, .f, .f, .f, .f, .i .i64]
abbrev soKd : List Kd := [.l 16 ptKd, .i .i64]
abbrev fdKd : List Kd := [.i .i64, .i .i64, .f, .f, .f, .f, .l 1 [.i .i64], .i .i64]
abbrev skKd : List Kd := [.i .i64, .i .i64, .i .i64, .i .i64, .i .i64, .i .i64, .i .i64, .i .i64, .i .i64, .i .i64]
abbrev lmKd : List Kd := [.f, .f, .f, .i .i64, .i .i64, .i .i64]
abbrev scKd : List Kd := [.l 13 shKd, .l 2 soKd, .l 8 fdKd, .l 10 skKd, .l 6 lmKd, .i .i64, .i .i64, .i .i64, .f, .f, .f, .f, .f, .f, .f, .f, .f, .f]
theorem part_arg {zs : List AV} (h : fitL [.i .i64, .i .i64, .i .i64, .i .i64, .f, .f, .f, .f, .f, .f, .f, .f, .f, .f, .f, .i .i64] zs) : zs = (decP zs).c := by
  obtain ⟨x0, l, rfl, h0, h⟩ := fitL_c h
  obtain ⟨x1, l, rfl, h1, h⟩ := fitL_c h
  obtain ⟨x2, l, rfl, h2, h⟩ := fitL_c h
  obtain ⟨x3, l, rfl, h3, h⟩ := fitL_c h
  obtain ⟨x4, l, rfl, h4, h⟩ := fitL_c h
  obtain ⟨x5, l, rfl, h5, h⟩ := fitL_c h
  obtain ⟨x6, l, rfl, h6, h⟩ := fitL_c h
  obtain ⟨x7, l, rfl, h7, h⟩ := fitL_c h
  obtain ⟨x8, l, rfl, h8, h⟩ := fitL_c h
  obtain ⟨x9, l, rfl, h9, h⟩ := fitL_c h
  obtain ⟨x10, l, rfl, h10, h⟩ := fitL_c h
  obtain ⟨x11, l, rfl, h11, h⟩ := fitL_c h
  obtain ⟨x12, l, rfl, h12, h⟩ := fitL_c h
  obtain ⟨x13, l, rfl, h13, h⟩ := fitL_c h
  obtain ⟨x14, l, rfl, h14, h⟩ := fitL_c h
  obtain ⟨x15, l, rfl, h15, h⟩ := fitL_c h
  obtain rfl := fitL_e h
  obtain ⟨a0, rfl⟩ := fitI' h0
  obtain ⟨a1, rfl⟩ := fitI' h1
  obtain ⟨a2, rfl⟩ := fitI' h2
  obtain ⟨a3, rfl⟩ := fitI' h3
  obtain ⟨a4, rfl⟩ := fitF h4
  obtain ⟨a5, rfl⟩ := fitF h5
  obtain ⟨a6, rfl⟩ := fitF h6
  obtain ⟨a7, rfl⟩ := fitF h7
  obtain ⟨a8, rfl⟩ := fitF h8
  obtain ⟨a9, rfl⟩ := fitF h9
  obtain ⟨a10, rfl⟩ := fitF h10
  obtain ⟨a11, rfl⟩ := fitF h11
  obtain ⟨a12, rfl⟩ := fitF h12
  obtain ⟨a13, rfl⟩ := fitF h13
  obtain ⟨a14, rfl⟩ := fitF h14
  obtain ⟨a15, rfl⟩ := fitI' h15
  rfl
theorem shape_arg {zs : List AV} (h : fitL [.i .i64, .f, .f, .f, .f, .f, .f, .f, .f, .f, .f, .f, .i .i64] zs) : zs = (dSh zs).c := by
  obtain ⟨x0, l, rfl, h0, h⟩ := fitL_c h
  obtain ⟨x1, l, rfl, h1, h⟩ := fitL_c h
  obtain ⟨x2, l, rfl, h2, h⟩ := fitL_c h
  obtain ⟨x3, l, rfl, h3, h⟩ := fitL_c h
  obtain ⟨x4, l, rfl, h4, h⟩ := fitL_c h
  obtain ⟨x5, l, rfl, h5, h⟩ := fitL_c h
  obtain ⟨x6, l, rfl, h6, h⟩ := fitL_c h
  obtain ⟨x7, l, rfl, h7, h⟩ := fitL_c h
  obtain ⟨x8, l, rfl, h8, h⟩ := fitL_c h
  obtain ⟨x9, l, rfl, h9, h⟩ := fitL_c h
  obtain ⟨x10, l, rfl, h10, h⟩ := fitL_c h
  obtain ⟨x11, l, rfl, h11, h⟩ := fitL_c h
  obtain ⟨x12, l, rfl, h12, h⟩ := fitL_c h
  obtain rfl := fitL_e h
  obtain ⟨a0, rfl⟩ := fitI' h0
  obtain ⟨a1, rfl⟩ := fitF h1
  obtain ⟨a2, rfl⟩ := fitF h2
  obtain ⟨a3, rfl⟩ := fitF h3
  obtain ⟨a4, rfl⟩ := fitF h4
  obtain ⟨a5, rfl⟩ := fitF h5
  obtain ⟨a6, rfl⟩ := fitF h6
  obtain ⟨a7, rfl⟩ := fitF h7
  obtain ⟨a8, rfl⟩ := fitF h8
  obtain ⟨a9, rfl⟩ := fitF h9
  obtain ⟨a10, rfl⟩ := fitF h10
  obtain ⟨a11, rfl⟩ := fitF h11
  obtain ⟨a12, rfl⟩ := fitI' h12
  rfl
theorem skin_arg {zs : List AV} (h : fitL [.i .i64, .i .i64, .i .i64, .i .i64, .i .i64, .i .i64, .i .i64, .i .i64, .i .i64, .i .i64] zs) : zs = skC (iAt zs) := by
  obtain ⟨x0, l, rfl, h0, h⟩ := fitL_c h
  obtain ⟨x1, l, rfl, h1, h⟩ := fitL_c h
  obtain ⟨x2, l, rfl, h2, h⟩ := fitL_c h
  obtain ⟨x3, l, rfl, h3, h⟩ := fitL_c h
  obtain ⟨x4, l, rfl, h4, h⟩ := fitL_c h
  obtain ⟨x5, l, rfl, h5, h⟩ := fitL_c h
  obtain ⟨x6, l, rfl, h6, h⟩ := fitL_c h
  obtain ⟨x7, l, rfl, h7, h⟩ := fitL_c h
  obtain ⟨x8, l, rfl, h8, h⟩ := fitL_c h
  obtain ⟨x9, l, rfl, h9, h⟩ := fitL_c h
  obtain rfl := fitL_e h
  obtain ⟨a0, rfl⟩ := fitI' h0
  obtain ⟨a1, rfl⟩ := fitI' h1
  obtain ⟨a2, rfl⟩ := fitI' h2
  obtain ⟨a3, rfl⟩ := fitI' h3
  obtain ⟨a4, rfl⟩ := fitI' h4
  obtain ⟨a5, rfl⟩ := fitI' h5
  obtain ⟨a6, rfl⟩ := fitI' h6
  obtain ⟨a7, rfl⟩ := fitI' h7
  obtain ⟨a8, rfl⟩ := fitI' h8
  obtain ⟨a9, rfl⟩ := fitI' h9
  rfl
theorem lamp_arg {zs : List AV} (h : fitL [.f, .f, .f, .i .i64, .i .i64, .i .i64] zs) : zs = lmC (fAt zs) (fun r => iAt zs (r + 3)) := by
  obtain ⟨x0, l, rfl, h0, h⟩ := fitL_c h
  obtain ⟨x1, l, rfl, h1, h⟩ := fitL_c h
  obtain ⟨x2, l, rfl, h2, h⟩ := fitL_c h
  obtain ⟨x3, l, rfl, h3, h⟩ := fitL_c h
  obtain ⟨x4, l, rfl, h4, h⟩ := fitL_c h
  obtain ⟨x5, l, rfl, h5, h⟩ := fitL_c h
  obtain rfl := fitL_e h
  obtain ⟨a0, rfl⟩ := fitF h0
  obtain ⟨a1, rfl⟩ := fitF h1
  obtain ⟨a2, rfl⟩ := fitF h2
  obtain ⟨a3, rfl⟩ := fitI' h3
  obtain ⟨a4, rfl⟩ := fitI' h4
  obtain ⟨a5, rfl⟩ := fitI' h5
  rfl
theorem int_arg {zs : List AV} (h : fitL [.i .i64] zs) : zs = [iA (dIn zs)] := by
  obtain ⟨x0, l, rfl, h0, h⟩ := fitL_c h
  obtain rfl := fitL_e h
  obtain ⟨a0, rfl⟩ := fitI' h0
  rfl
theorem solid_arg {zs : List AV} (h : fitL soKd zs) : (dSo zs).c.length = zs.length ∧ ∀ (E : Env) (cs : List Value), pre E zs cs → pre E (dSo zs).c cs := by
  obtain ⟨x0, l, rfl, h0, h⟩ := fitL_c h
  obtain ⟨x1, l, rfl, h1, h⟩ := fitL_c h
  obtain rfl := fitL_e h
  rw [fitA] at h0
  obtain ⟨n, el, rfl, hn, hel⟩ := h0
  obtain ⟨sk, rfl⟩ := fitI' h1
  refine ⟨rfl, fun E cs hc => ?_⟩
  obtain ⟨u, us, e, r1, r2⟩ := pre_cons.1 hc
  exact pre_cons.2 ⟨u, us, e, sl_same' (fun q hq => part_arg (hel q hq)) r1, r2⟩
theorem field_arg {zs : List AV} (h : fitL fdKd zs) : (dFd zs).c.length = zs.length ∧ ∀ (E : Env) (cs : List Value), pre E zs cs → pre E (dFd zs).c cs := by
  obtain ⟨x0, l, rfl, h0, h⟩ := fitL_c h
  obtain ⟨x1, l, rfl, h1, h⟩ := fitL_c h
  obtain ⟨x2, l, rfl, h2, h⟩ := fitL_c h
  obtain ⟨x3, l, rfl, h3, h⟩ := fitL_c h
  obtain ⟨x4, l, rfl, h4, h⟩ := fitL_c h
  obtain ⟨x5, l, rfl, h5, h⟩ := fitL_c h
  obtain ⟨x6, l, rfl, h6, h⟩ := fitL_c h
  obtain ⟨x7, l, rfl, h7, h⟩ := fitL_c h
  obtain rfl := fitL_e h
  obtain ⟨a0, rfl⟩ := fitI' h0
  obtain ⟨a1, rfl⟩ := fitI' h1
  obtain ⟨a2, rfl⟩ := fitF h2
  obtain ⟨a3, rfl⟩ := fitF h3
  obtain ⟨a4, rfl⟩ := fitF h4
  obtain ⟨a5, rfl⟩ := fitF h5
  rw [fitA] at h6
  obtain ⟨n, el, rfl, hn, hel⟩ := h6
  obtain ⟨a7, rfl⟩ := fitI' h7
  refine ⟨rfl, fun E cs hc => ?_⟩
  obtain ⟨u0, us, e0, r0, hc⟩ := pre_cons.1 hc
  obtain ⟨u1, us, e1, r1, hc⟩ := pre_cons.1 hc
  obtain ⟨u2, us, e2, r2, hc⟩ := pre_cons.1 hc
  obtain ⟨u3, us, e3, r3, hc⟩ := pre_cons.1 hc
  obtain ⟨u4, us, e4, r4, hc⟩ := pre_cons.1 hc
  obtain ⟨u5, us, e5, r5, hc⟩ := pre_cons.1 hc
  obtain ⟨u6, us, e6, r6, hc⟩ := pre_cons.1 hc
  exact pre_cons.2 ⟨u0, _, e0, r0, pre_cons.2 ⟨u1, _, e1, r1, pre_cons.2 ⟨u2, _, e2, r2, pre_cons.2 ⟨u3, _, e3, r3, pre_cons.2 ⟨u4, _, e4, r4, pre_cons.2 ⟨u5, _, e5, r5, pre_cons.2 ⟨u6, _, e6, sl_same' (fun q hq => int_arg (hel q hq)) r6, hc⟩⟩⟩⟩⟩⟩⟩
theorem scene_arg {E : Env} {zs : List AV} {v : Value} (h : fitL scKd zs) (hr : rel E (.agg zs) v) : ∃ s : Scn, rel E (.agg s.c) v := by
  obtain ⟨x0, l, rfl, h0, h⟩ := fitL_c h
  obtain ⟨x1, l, rfl, h1, h⟩ := fitL_c h
  obtain ⟨x2, l, rfl, h2, h⟩ := fitL_c h
  obtain ⟨x3, l, rfl, h3, h⟩ := fitL_c h
  obtain ⟨x4, l, rfl, h4, h⟩ := fitL_c h
  obtain ⟨x5, l, rfl, h5, h⟩ := fitL_c h
  obtain ⟨x6, l, rfl, h6, h⟩ := fitL_c h
  obtain ⟨x7, l, rfl, h7, h⟩ := fitL_c h
  obtain ⟨x8, l, rfl, h8, h⟩ := fitL_c h
  obtain ⟨x9, l, rfl, h9, h⟩ := fitL_c h
  obtain ⟨x10, l, rfl, h10, h⟩ := fitL_c h
  obtain ⟨x11, l, rfl, h11, h⟩ := fitL_c h
  obtain ⟨x12, l, rfl, h12, h⟩ := fitL_c h
  obtain ⟨x13, l, rfl, h13, h⟩ := fitL_c h
  obtain ⟨x14, l, rfl, h14, h⟩ := fitL_c h
  obtain ⟨x15, l, rfl, h15, h⟩ := fitL_c h
  obtain ⟨x16, l, rfl, h16, h⟩ := fitL_c h
  obtain ⟨x17, l, rfl, h17, h⟩ := fitL_c h
  obtain rfl := fitL_e h
  rw [fitA] at h0
  obtain ⟨n0, e0, rfl, m0, f0⟩ := h0
  rw [fitA] at h1
  obtain ⟨n1, e1, rfl, m1, f1⟩ := h1
  rw [fitA] at h2
  obtain ⟨n2, e2, rfl, m2, f2⟩ := h2
  rw [fitA] at h3
  obtain ⟨n3, e3, rfl, m3, f3⟩ := h3
  rw [fitA] at h4
  obtain ⟨n4, e4, rfl, m4, f4⟩ := h4
  obtain ⟨a5, rfl⟩ := fitI' h5
  obtain ⟨a6, rfl⟩ := fitI' h6
  obtain ⟨a7, rfl⟩ := fitI' h7
  obtain ⟨a8, rfl⟩ := fitF h8
  obtain ⟨a9, rfl⟩ := fitF h9
  obtain ⟨a10, rfl⟩ := fitF h10
  obtain ⟨a11, rfl⟩ := fitF h11
  obtain ⟨a12, rfl⟩ := fitF h12
  obtain ⟨a13, rfl⟩ := fitF h13
  obtain ⟨a14, rfl⟩ := fitF h14
  obtain ⟨a15, rfl⟩ := fitF h15
  obtain ⟨a16, rfl⟩ := fitF h16
  obtain ⟨a17, rfl⟩ := fitF h17
  refine ⟨decSc [.sl 13 n0 e0, .sl 2 n1 e1, .sl 8 n2 e2, .sl 10 n3 e3, .sl 6 n4 e4, iA a5, iA a6, iA a7, .f a8, .f a9, .f a10, .f a11, .f a12, .f a13, .f a14, .f a15, .f a16, .f a17], ?_⟩
  obtain ⟨vs, e, hr⟩ := rel_agg.1 hr
  refine rel_agg.2 ⟨vs, e, ?_⟩
  obtain ⟨u0, us, q0, r0, hr⟩ := rels_cons.1 hr
  obtain ⟨u1, us, q1, r1, hr⟩ := rels_cons.1 hr
  obtain ⟨u2, us, q2, r2, hr⟩ := rels_cons.1 hr
  obtain ⟨u3, us, q3, r3, hr⟩ := rels_cons.1 hr
  obtain ⟨u4, us, q4, r4, hr⟩ := rels_cons.1 hr
  exact rels_cons.2 ⟨u0, _, q0, sl_same' (fun q hq => shape_arg (f0 q hq)) r0, rels_cons.2 ⟨u1, _, q1, sl_imp (fun q hq => solid_arg (f1 q hq)) r1, rels_cons.2 ⟨u2, _, q2, sl_imp (fun q hq => field_arg (f2 q hq)) r2, rels_cons.2 ⟨u3, _, q3, sl_same' (fun q hq => skin_arg (f3 q hq)) r3, rels_cons.2 ⟨u4, _, q4, sl_same' (fun q hq => lamp_arg (f4 q hq)) r4, hr⟩⟩⟩⟩⟩
theorem key_arg {zs : List AV} (h : fitL [.i .i64, .i .i64, .i .i64, .i .i64] zs) : zs = [iA (iAt zs 0), iA (iAt zs 1), iA (iAt zs 2), iA (iAt zs 3)] := by
  obtain ⟨x0, l, rfl, h0, h⟩ := fitL_c h
  obtain ⟨x1, l, rfl, h1, h⟩ := fitL_c h
  obtain ⟨x2, l, rfl, h2, h⟩ := fitL_c h
  obtain ⟨x3, l, rfl, h3, h⟩ := fitL_c h
  obtain rfl := fitL_e h
  obtain ⟨a0, rfl⟩ := fitI' h0
  obtain ⟨a1, rfl⟩ := fitI' h1
  obtain ⟨a2, rfl⟩ := fitI' h2
  obtain ⟨a3, rfl⟩ := fitI' h3
  rfl
theorem keys_arg {E : Env} {a : AV} {v : Value} (h : fitA (.l 4 [.i .i64, .i .i64, .i .i64, .i .i64]) a) (hr : rel E a v) : ∃ n T X, xOf (kEl T X) = X ∧ rel E (kSl n T X) v := by
  rw [fitA] at h
  obtain ⟨n, el, rfl, hn, hel⟩ := h
  refine ⟨n, fun i => iAt (el i) 0, xOf (kEl (fun i => iAt (el i) 0) fun i c => iAt (el i) (c + 1)), ?_, sl_same' (fun q hq => key_arg (hel q hq)) hr⟩
  exact funext fun _ => funext fun c => match c with | 0 => rfl | 1 => rfl | 2 => rfl | _ + 3 => rfl
theorem open_keys {H : Type} {enc : TypeId × Value → H} {P : Program} {w : World} {r : Reach} {b0 : Nat} {t e : TypeId} {v : Value} {d : DataW H} {p : List MemPlace} (hu : P.underlying t = some (.slice e)) (hk : kds P 6 t = some [.l 4 [.i .i64, .i .i64, .i .i64, .i .i64]]) (hv : Value.okWide P w r b0 t v)
    (h : DataW.Trod enc P w 0 (fun _ => true) true t v d p) : ∃ n T X, xOf (kEl T X) = X ∧ rel (Env.all w) (kSl n T X) v := by
  have hone : v.cells = #[v] := by
    obtain ⟨a, len, cap, rfl⟩ := okWide_slice hu hv
    rfl
  obtain ⟨fuel, hf⟩ := h
  obtain ⟨a, h1, h2⟩ := open_arg hf hk hone
  exact keys_arg h1 h2
end Hs.Sc
set_option maxRecDepth 100000 in
theorem reelSays_lifted (os : Os) (started : os.Started) (H : Type) (enc : TypeId × Value → H) :
    ReturnsInHanded {} Tryz.checked os 3 .any (Rows.reelSaysSpec.pre6 enc Tryz.prog Tryz.f3 Rows.reelSaysRow.domain false) (Rows.reelSaysSpec.post enc Tryz.prog Tryz.f3 false true false false) := by
  refine returnsInHanded_of_change (C := Tryz.checked) Tryz.own started (by kernel_rfl) Tryz.func3
    (ChangeSpec.witness6 (enc := enc) (C := Tryz.checked) false ⟨#[], #[.agg #[.slice none 0 0, .slice none 0 0, .slice none 0 0, .slice none 0 0, .slice none 0 0, .int .i64 0, .int .i64 0, .int .i64 0, .float .f64 0, .float .f64 0, .float .f64 0, .float .f64 0, .float .f64 0, .float .f64 0, .float .f64 0, .float .f64 0, .float .f64 0, .float .f64 0], .int .i64 0, .slice none 0 0, .int .i64 0], []⟩ 8 (by kernel_rfl) (by kernel_rfl) (by kernel_rfl) (by kernel_rfl)) ?_
  intro W base args ds gs before hval0 hW hcnd _
  have hval : ∀ (j : Nat) t v, Tryz.f3.params[j]? = some t → args[j]? = some v → Value.okWide Tryz.prog W .any base t v := hval0
  have hW' := hW
  obtain ⟨p, q, hA0, hV, rfl, hfz, hnd⟩ := hW
  have hA : DataW.TrodAll enc Tryz.prog W 0 (fun _ => true) true Tryz.f3.params.toList args.toList ds p := hA0
  rw [Tryz.params3] at hA hval
  obtain ⟨v0, t0, d0, s0, p0, q0, hargs, rfl, rfl, h0, hA⟩ := trodAll_cons hA
  obtain ⟨v1, t1, d1, s1, p1, q1, rfl, rfl, rfl, h1, hA⟩ := trodAll_cons hA
  obtain ⟨v2, t2, d2, s2, p2, q2, rfl, rfl, rfl, h2, hA⟩ := trodAll_cons hA
  obtain ⟨v3, t3, d3, s3, p3, q3, rfl, rfl, rfl, h3, hA⟩ := trodAll_cons hA
  obtain ⟨rfl, rfl, rfl⟩ := trodAll_nil hA
  obtain rfl : args = #[v0, v1, v2, v3] := by rw [← Array.toList_inj, hargs]
  obtain ⟨rfl, rfl⟩ := trodVars_none hV
  obtain ⟨z0, k0, y0⟩ := open_agg (n := 12) (ks := Hs.Sc.scKd) Tryz.underlying34 rfl (by kernel_rfl) (hval 0 34 v0 rfl rfl) h0
  obtain ⟨s, r0⟩ := Hs.Sc.scene_arg k0 y0
  obtain ⟨n1, r1, b1⟩ := open_num Tryz.underlying3 (by kernel_rfl) (hval 1 3 v1 rfl rfl) h1
  obtain ⟨n, T, X, hX, r2⟩ := Hs.Sc.open_keys Tryz.underlying35 (by kernel_rfl) (hval 2 35 v2 rfl rfl) h2
  obtain ⟨n3, r3, b3⟩ := open_num Tryz.underlying3 (by kernel_rfl) (hval 3 3 v3 rfl rfl) h3
  refine ((Hs.Sc.reelSays_law s n1 n T X hX n3).2 (fun _ => False) W #[v0, v1, v2, v3] (fun _ h => h.elim) (rels_cons.2 ⟨v0, _, rfl, r0, rels_cons.2 ⟨v1, _, rfl, r1, rels_cons.2 ⟨v2, _, rfl, r2, rels_cons.2 ⟨v3, _, rfl, r3, rels_nil.2 rfl⟩⟩⟩⟩) (glob_none fun _ => rfl)).mono ?_
  rintro e' W' ⟨v, rfl, hv, hb⟩
  have hvt : v = .bool true := rel_x.1 hv
  subst hvt
  exact ⟨_, rfl, law_post Tryz.laidOut (by kernel_rfl) rfl (by kernel_rfl) Tryz.underlying4 rfl hW' hb⟩

/-- THE STATEMENT. -/
theorem reelSays_holds : Rows.ReelSaysSaid :=
  OpenClaim.holds_of_wide 3 Tryz.f3 rfl rfl rfl rfl rfl rfl rfl ⟨rfl, rfl, rfl, rfl, rfl⟩ rfl rfl rfl rfl rfl (by kernel_rfl) Tryz.func3 (by kernel_rfl)
    (of_decide_eq_true (by kernel_rfl)) (by unfold Func.isWrapper; first | (rw [if_pos (by decide +kernel)]; kernel_rfl) | (rw [if_neg (by decide +kernel)]; exact ⟨rfl, rfl⟩))
    (fun os started H enc _ => reelSays_lifted os started H enc)
#print axioms reelSays_holds
end Go.Proofs.YtngjiggplabfkaaGreat
