/-
  Package skin: sums, means, whether a place may be asked for, the colour at a place.
-/
import Derived.Test.YtkibceiellnggaaSk2
namespace Go.Gv
/-- A contract holds of whatever says as much of the arguments. -/
theorem GSpec.of_args {P : Program} {f : Nat} {args args' : List AV} {mem : List Row} {v : AV} {mem1 : List Row} (h : GSpec P f args' mem v mem1) (ha : ∀ (E : Env) (us : List Value), rels E args us → rels E args' us) : GSpec P f args mem v mem1 :=
  ⟨h.1, fun R E cargs hp hW hg hr => h.2 R E cargs hp hW hg (ha E _ hr)⟩
theorem sl_like {E : Env} {sz n : Nat} {el el' : Nat → List AV} {v : Value} (h : rel E (.sl sz n el) v) (he : ∀ i, i < n → el' i = el i) : rel E (.sl sz n el') v := by
  have h : relA _ _ _ := h
  show relA _ _ _
  rw [relA] at h ⊢
  obtain ⟨a, c, h1, h2, h3⟩ := h
  refine ⟨a, c, h1, h2, ?_⟩
  rcases h3 with h3 | ⟨b, o, cs, e, fz, h4, h5, h6, h7⟩
  · exact Or.inl h3
  · exact Or.inr ⟨b, o, cs, e, fz, h4, h5, h6, fun i hi => by rw [he i hi]; exact h7 i hi⟩
end Go.Gv
namespace Go.Proofs.Ytkibceiellnggaa
open Go.Gv

def addC (af : Int → Int → Int → Int) : List AV → List Row → Option (Bool × AV × List Row)
  | [.own 0 0, .sl 1 4 el, .x (.int .i64 t)], [.c [.x (.int .i64 a), .x (.int .i64 b), .x (.int .i64 c), .x (.int .i64 d)]] => cond (isByte (el 0) && (isByte (el 1) && (isByte (el 2) && isByte (el 3))))
      (some (true, .tup [], [.c [iA (af a (Gv.byteOf (el 0)) t), iA (af b (Gv.byteOf (el 1)) t), iA (af c (Gv.byteOf (el 2)) t), iA (af d (Gv.byteOf (el 3)) t)]])) none
  | _, _ => none
def mAdd (af : Int → Int → Int → Int) : MEntry := ⟨20, liftM (some 0) (addC af)⟩
theorem mAdd_ok : MEOk Try.prog (mAdd addS) := liftM_ok fun args rs v mem1 h => by
  unfold addC at h
  split at h
  · rename_i el t a b c d
    cases hb : (isByte (el 0) && (isByte (el 1) && (isByte (el 2) && isByte (el 3))))
    · rw [hb] at h; cases h
    · rw [hb] at h
      simp only [cond_true, Option.some.injEq, Prod.mk.injEq, true_and] at h
      obtain ⟨rfl, rfl⟩ := h
      simp only [Bool.and_eq_true] at hb
      refine ⟨?_, fun i hi hne => ?_⟩
      · have h1 : GSpec Try.prog 20 [.own 0 0, .sl 1 4 (fun i => [yA (Gv.byteOf (el i))]), iA t] [.c [iA a, iA b, iA c, iA d]] (.tup []) [.c [iA (addS a (Gv.byteOf (el 0)) t), iA (addS b (Gv.byteOf (el 1)) t), iA (addS c (Gv.byteOf (el 2)) t), iA (addS d (Gv.byteOf (el 3)) t)]] :=
          gspecG e_nil k_nil m_nil Try.func20 (by kernel_rfl) (by kernel_rfl) (fun _ _ _ _ _ h => by cases h) rfl rfl (add_ev a b c d t fun i => Gv.byteOf (el i))
        refine h1.of_args fun E us hr => ?_
        obtain ⟨u0, t0, rfl, r0, hr⟩ := rels_cons.1 hr
        obtain ⟨u1, t1, rfl, r1, hr⟩ := rels_cons.1 hr
        refine rels_cons.2 ⟨u0, _, rfl, r0, rels_cons.2 ⟨u1, _, rfl, sl_like r1 fun i hi => ?_, hr⟩⟩
        have : i = 0 ∨ i = 1 ∨ i = 2 ∨ i = 3 := by omega
        rcases this with rfl | rfl | rfl | rfl
        · exact (isByte_eq hb.1).symm
        · exact (isByte_eq hb.2.1).symm
        · exact (isByte_eq hb.2.2.1).symm
        · exact (isByte_eq hb.2.2.2).symm
      · have : i = 0 := by simp at hi; omega
        exact absurd (by rw [this]) hne
  · cases h
/-! ### Means -/
def meS (s c : Int) : Int := IntKind.u8.wrap (w64 ((w64 (w64 (2 * s) + c)).tdiv (w64 (2 * c))))
theorem me_ev (a b c d n : Int) : ev Try.prog [] [] noL Try.f22 [.agg [iA a, iA b, iA c, iA d], iA n] ret =
    cond ((!(w64 (2 * n) == 0)) && true) (cond ((!(w64 (2 * n) == 0)) && true) (cond ((!(w64 (2 * n) == 0)) && true) (cond ((!(w64 (2 * n) == 0)) && true) (some (Out.of (.agg [yA (meS a n), yA (meS b n), yA (meS c n), yA (meS d n)]))) none) none) none) none := by kernel_rfl
def meC : List AV → Bool
  | [.agg [.x (.int .i64 _), .x (.int .i64 _), .x (.int .i64 _), .x (.int .i64 _)], .x (.int .i64 n)] => !(w64 (2 * n) == 0)
  | _ => false
def meG (mf : Int → Int → Int) : List AV → AV
  | [.agg [.x (.int .i64 a), .x (.int .i64 b), .x (.int .i64 c), .x (.int .i64 d)], .x (.int .i64 n)] => .agg [yA (mf a n), yA (mf b n), yA (mf c n), yA (mf d n)]
  | _ => .any
theorem kMe_ok : KOk Try.prog (kIf 22 meC (meG meS)) := kIf_ok fun args h => by
  unfold meC at h
  split at h
  · rename_i a b c d n
    exact gspec e_nil k_nil Try.func22 (by kernel_rfl) (by kernel_rfl) noL_ok rfl ((me_ev a b c d n).trans (by rw [h]; rfl))
  · cases h
/-! ### Whether a place may be asked for -/
def wayS (w : Int) : Bool := cond (cond (!(w == 0)) (!(w == 1)) false) (!(w == 2)) false
def uvS (u v : Int) : Bool := cond (cond (cond (decide (u < -1073741824)) true (decide (u > 1073741824))) true (decide (v < -1073741824))) true (decide (v > 1073741824))
def matS (W H : Int) (n : Nat) (w u v : Int) : Int := cond (!(mayS W H n == 0)) (mayS W H n) (cond (wayS w) 3 (cond (uvS u v) 1 0))
theorem mat_ev (mf : Int → Int → Nat → Int) (W H : Int) (sz n : Nat) (el : Nat → List AV) (w u v : Int) : ev Try.prog [⟨9, gPm mf⟩] [] noL Try.f17 [.agg [iA W, iA H, .sl sz n el], iA w, iA u, iA v] ret =
    cond (!(mf W H n == 0)) (some (Out.of (iA (mf W H n)))) (cond (wayS w) (some (Out.of (iA 3))) (cond (uvS u v) (some (Out.of (iA 1))) (some (Out.of (iA 0))))) := by kernel_rfl
theorem mat_spec (W H : Int) (sz n : Nat) (el : Nat → List AV) (w u v : Int) : FSpec Try.prog 17 [.agg [iA W, iA H, .sl sz n el], iA w, iA u, iA v] (iA (matS W H n w u v)) := by
  refine gspec (e_cons (gPm_ok may_spec) e_nil) k_nil Try.func17 (by kernel_rfl) (by kernel_rfl) noL_ok rfl ((mat_ev mayS W H sz n el w u v).trans ?_)
  unfold matS
  cases !(mayS W H n == 0) <;> cases wayS w <;> cases uvS u v <;> rfl
def gMat (mf : Int → Int → Nat → Int → Int → Int → Int) : List AV → Option AV
  | [.agg [.x (.int .i64 W), .x (.int .i64 H), .sl _ n _], .x (.int .i64 w), .x (.int .i64 u), .x (.int .i64 v)] => some (iA (mf W H n w u v))
  | _ => none
theorem gMat_ok : EOk Try.prog ⟨17, gMat matS⟩ := fun args r hr => by
  simp only [gMat] at hr
  split at hr
  · cases hr; exact Or.inl (mat_spec _ _ _ _ _ _ _ _)
  · cases hr
/-! ### The colour at a place -/
section
variable (mf : Int → Int → Nat → Int → Int → Int → Int) (of : Int → Int → Int → Int) (qf rf : Int → Int) (af : Int → Int → Int → Int) (ef : Int → Int → Int)
def atSum (px : Nat → Int) (p1 p2 p3 p4 : Nat) (t1 t2 t3 t4 : Int) (i : Nat) : Int := af (af (af (af 0 (px (p1 + i)) t1) (px (p2 + i)) t2) (px (p3 + i)) t3) (px (p4 + i)) t4
def pxCB (W : Int) (n : Nat) (x y : Int) : Bool := pxB W n x y && decide (w64 (pxF W x y + 4) - pxF W x y = 4)
def atOut (p : Pic) (x x' y y' s t : Int) : Option Out := cond (pxCB p.W p.n x y) (cond (pxCB p.W p.n x' y) (cond (pxCB p.W p.n x y') (cond (pxCB p.W p.n x' y')
    (some (Out.of (.tup [.agg [yA (ef (atSum af p.px (pxF p.W x y).toNat (pxF p.W x' y).toNat (pxF p.W x y').toNat (pxF p.W x' y').toNat (w64 (w64 (256 - s) * w64 (256 - t))) (w64 (s * w64 (256 - t))) (w64 (w64 (256 - s) * t)) (w64 (s * t)) 0) 65536),
      yA (ef (atSum af p.px (pxF p.W x y).toNat (pxF p.W x' y).toNat (pxF p.W x y').toNat (pxF p.W x' y').toNat (w64 (w64 (256 - s) * w64 (256 - t))) (w64 (s * w64 (256 - t))) (w64 (w64 (256 - s) * t)) (w64 (s * t)) 1) 65536),
      yA (ef (atSum af p.px (pxF p.W x y).toNat (pxF p.W x' y).toNat (pxF p.W x y').toNat (pxF p.W x' y').toNat (w64 (w64 (256 - s) * w64 (256 - t))) (w64 (s * w64 (256 - t))) (w64 (w64 (256 - s) * t)) (w64 (s * t)) 2) 65536),
      yA (ef (atSum af p.px (pxF p.W x y).toNat (pxF p.W x' y).toNat (pxF p.W x y').toNat (pxF p.W x' y').toNat (w64 (w64 (256 - s) * w64 (256 - t))) (w64 (s * w64 (256 - t))) (w64 (w64 (256 - s) * t)) (w64 (s * t)) 3) 65536)], iA 0]))) none) none) none) none
theorem at_ev (p : Pic) (w u v : Int) : evM Try.prog [⟨17, gMat mf⟩] [kIf 18 ceC (ceG qf rf), kIf 19 onC (onG of), kIf 21 pxC pxG, kIf 22 meC (meG ef)] [mAdd af] noL Try.f7 [.agg p.c, iA w, iA u, iA v] ret =
    cond (!(mf p.W p.H p.n w u v == 0)) (some (Out.of (.tup [.agg [yA 0, yA 0, yA 0, yA 0], iA (mf p.W p.H p.n w u v)]))) (cond (inB (w64 (u - 128))) (cond (inB (w64 (v - 128)))
      (cond (inB (qf (w64 (u - 128))) && siB p.W) (cond (inB (w64 (qf (w64 (u - 128)) + 1)) && siB p.W) (cond (inB (qf (w64 (v - 128))) && siB p.H) (cond (inB (w64 (qf (w64 (v - 128)) + 1)) && siB p.H)
        (atOut af ef p (of w (qf (w64 (u - 128))) p.W) (of w (w64 (qf (w64 (u - 128)) + 1)) p.W) (of w (qf (w64 (v - 128))) p.H) (of w (w64 (qf (w64 (v - 128)) + 1)) p.H) (rf (w64 (u - 128))) (rf (w64 (v - 128)))) none) none) none) none) none) none) := by kernel_rfl
end
end Go.Proofs.Ytkibceiellnggaa
