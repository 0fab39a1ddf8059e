/-
  Package field: the points of a grid; a field that is known.
-/
import Derived.Test.YtiagpcjonaahlaaGreatGf2
namespace Go.Proofs.YtiagpcjonaahlaaGreat
open Go.Gv
open Go.Ev (cn fadd fsub fmul fdiv feq flt fle fgt fge)

theorem innerL_ok {F : Fd} {w h y : Nat} (d : Dim F w h) (hy : y < h) : LOk Tryz.prog (innerL F w y) (loopAt Tryz.f37 0) :=
  lok_one (i := 6) 1 (by kernel_rfl) fun j hj _ => by
    have : j = 0 := by omega
    subst this
    have e : (loopsOf (loopAt Tryz.f37 0)).getD 0 .skip = loopAt Tryz.f37 1 := by kernel_rfl
    rw [e]
    exact toldF_sound (inner_leads d hy)
theorem outer_step (F : Fd) (w y : Nat) : evC Tryz.prog [] [] (innerL F w y) (loopAt Tryz.f37 0) (outerS F (y : Nat) (y * w) (pts F)) (finN keepO [some 0, some 1]) =
    cond (decide (((y : Nat) : Int) < F.H)) (gate (Sub (innerS F (y : Nat) 0 (y * w) (pts F)) (innerS F (y : Nat) 0 (y * w) (pts F))) (some ⟨.normal, outerS F (w64 (((y : Nat) : Int) + 1)) (y * w + w) (pts F), .any⟩)) none := by kernel_rfl
theorem outer_end (F : Fd) (w y : Nat) : evC Tryz.prog [] [] (innerL F w y) (loopAt Tryz.f37 0) (outerS F (y : Nat) (y * w) (pts F)) (finX keepO [some 0, some 1]) =
    cond (decide (((y : Nat) : Int) < F.H)) (gate (Sub (innerS F (y : Nat) 0 (y * w) (pts F)) (innerS F (y : Nat) 0 (y * w) (pts F))) none) (some ⟨.exit 0, outerS F (y : Nat) (y * w) (pts F), .any⟩) := by kernel_rfl
/-- A loop of which nothing is told, since it isn't reached. -/
theorem outer_last (F : Fd) (y m : Nat) : evC Tryz.prog [] [] (oneL 6 fun _ _ => none) (loopAt Tryz.f37 0) (outerS F (y : Nat) m (pts F)) (finX keepO [some 0, some 1]) =
    cond (decide (((y : Nat) : Int) < F.H)) none (some ⟨.exit 0, outerS F (y : Nat) m (pts F), .any⟩) := by kernel_rfl
theorem lok_none {P : Program} {c : Code} (i : Nat) : LOk P (oneL i fun _ _ => none) c := by
  intro c' _ i' g' _ hg
  unfold oneL at hg
  cases hb : Nat.beq i' i
  · rw [hb] at hg; cases hg
  · rw [hb] at hg
    cases hg
    exact ⟨fun _ _ _ hr => (by cases hr), fun _ _ _ hk => (by have := hk (fun e s => some ⟨e, s, .any⟩); cases this)⟩
theorem outer_leads {F : Fd} {w h : Nat} (d : Dim F w h) : Leads Tryz.prog (.loop (loopAt Tryz.f37 0)) (outerS F 0 (0 * w) (pts F)) (.exit 0) (outerS F (h : Nat) (h * w) (pts F)) := by
  have h8 := d.h8
  refine loop_rule (fun y => outerS F (y : Nat) (y * w) (pts F)) h (.exit 0) _ (by simp) (fun y hy => ?_) ?_
  · refine leads_ev (finN_sub keepO [some 0, some 1]) e_nil k_nil (innerL_ok d hy) ?_
    have c1 : decide (((y : Nat) : Int) < F.H) = true := by rw [d.H]; exact dec_lt hy
    rw [outer_step, c1, gate_pos (Sub.refl _), w64_next (by omega), Nat.succ_mul]
    rfl
  · refine leads_ev (finX_sub keepO [some 0, some 1]) e_nil k_nil (lok_none 6) ?_
    have c1 : decide (((h : Nat) : Int) < F.H) = false := by rw [d.H]; exact dec_self h
    rw [outer_last, c1]
    rfl
noncomputable def pointsL (F : Fd) (w h : Nat) : Nat → Option LFun := oneL 3 (toldF keepO [some 0, some 1] (outerS F 0 (0 * w) (pts F)) (.exit 0) (outerS F (h : Nat) (h * w) (pts F)))
theorem pointsL_ok {F : Fd} {w h : Nat} (d : Dim F w h) : LOk Tryz.prog (pointsL F w h) (bodyOf Tryz.f37) :=
  lok_one (i := 3) 2 (by kernel_rfl) fun j hj hid => by
    have : j = 0 ∨ j = 1 := by omega
    rcases this with rfl | rfl
    · exact toldF_sound (outer_leads d)
    · have e : firstId ((loopsOf (bodyOf Tryz.f37)).getD 1 .skip) = some 6 := by kernel_rfl
      rw [e] at hid
      cases hid
def rows0 (F : Fd) : St := mkS 63 [(1, .own 0 0), (3, .osl 1 3 0 0), (13, iA F.H), (14, iA 0)] [.c F.c, .a 24 3 0 fun _ => [.f 0, .f 0, .f 0]]
theorem points_ev (F : Fd) (w h : Nat) : ev Tryz.prog [] [] (pointsL F w h) Tryz.f37 [.agg F.c] ret =
    cond ((decide (0 ≤ w64 (F.W * F.H)) && decide (((24 : Nat) : Int) * w64 (F.W * F.H) ≤ 281474976710656)) && true)
      (gate (Sub (rows0 F) (outerS F 0 (0 * w) (pts F))) (some (Out.of (.sl 3 (h * w) fun i => c3 (pt F (0 + i)))))) none := by kernel_rfl
theorem Dim.prod {F : Fd} {w h : Nat} (d : Dim F w h) : w64 (F.W * F.H) = ((w * h : Nat) : Int) := by
  have := d.le
  rw [d.W, d.H, ← Int.natCast_mul]
  exact w64_id (by omega) (by omega)
theorem points_spec {F : Fd} {w h : Nat} (d : Dim F w h) : FSpec Tryz.prog 37 [.agg F.c] (.sl 3 (w * h) fun q => c3 (pt F q)) := by
  refine gspec e_nil k_nil Tryz.func37 (by kernel_rfl) (by kernel_rfl) (pointsL_ok d) rfl ?_
  have hle := d.le
  have hs : Sub (rows0 F) (outerS F 0 (0 * w) (pts F)) := by
    rw [Nat.zero_mul]
    exact sub_same ⟨Or.inl rfl, Or.inr ⟨24, 3, 0, _, _, rfl, rfl, fun q hq => by omega⟩, trivial⟩
  have c2 : decide (((24 : Nat) : Int) * ((w * h : Nat) : Int) ≤ 281474976710656) = true := decide_eq_true (by omega)
  have e : (fun i => c3 (pt F (0 + i))) = fun q => c3 (pt F q) := funext fun i => by rw [Nat.zero_add]
  rw [points_ev, d.prod, dec_nonneg, c2, gate_pos hs, e, Nat.mul_comm h w]
  rfl

/-! ### A field that is known -/
def gridZ : List AV := [iA 0, iA 0, iA 0, .x (.slice none 0 0), .f 0, .f 0, .f 0, .f 0, .f 0, .f 0]
def gridC (F : Fd) (n : Nat) (b : Nat → Nat) : List AV := [iA F.W, iA F.H, iA F.sk, .sl 3 n (fun q => c3 (pt F q)), .f (b 0), .f (b 1), .f (b 2), .f (b 3), .f (b 4), .f (b 5)]
theorem known_ev1 (F : Fd) (e : Int) : ev Tryz.prog D1 [kfix 36 [.agg F.c] (iA e)] noL Tryz.f18 [.agg F.c] ret =
    gate ([AV.agg F.c] = [AV.agg F.c]) (cond (!(e == 0)) (some (Out.of (.tup [.agg gridZ, iA e]))) none) := by kernel_rfl
theorem known_ev2 (F : Fd) (n : Nat) (b : Nat → Nat) : ev Tryz.prog D1 [kfix 36 [.agg F.c] (iA 0), kfix 37 [.agg F.c] (.sl 3 n fun q => c3 (pt F q)), kfix 38 [.sl 3 n fun q => c3 (pt F q)] (.agg (c6 b))] noL Tryz.f18 [.agg F.c] ret =
    gate ([AV.agg F.c] = [AV.agg F.c]) (gate ([AV.agg F.c] = [AV.agg F.c]) (gate ([AV.sl 3 n fun q => c3 (pt F q)] = [AV.sl 3 n fun q => c3 (pt F q)]) (cond (!(mayS b == 0)) (some (Out.of (.tup [.agg gridZ, iA 1]))) (some (Out.of (.tup [.agg (gridC F n b), iA 0])))))) := by kernel_rfl
theorem known_bad {F : Fd} (hn : F.n < 4611686018427387904) (he : F.mayN ≠ 0) : FSpec Tryz.prog 18 [.agg F.c] (.tup [.agg gridZ, iA F.mayN]) := by
  refine gspec D1_ok (k_cons (kfix_ok (may_spec F hn)) k_nil) Tryz.func18 (by kernel_rfl) (by kernel_rfl) noL_ok rfl ?_
  rw [known_ev1, gate_pos rfl, beq_false_of_ne he]
  rfl
/-- The box around all points. -/
def bx (F : Fd) : Nat → Nat := boxQ (pt F) F.n
theorem known_ok {F : Fd} {w h : Nat} (d : Dim F w h) (he : F.mayN = 0) : FSpec Tryz.prog 18 [.agg F.c] (.tup (cond (mayS (bx F) == 0) [.agg (gridC F F.n (bx F)), iA 0] [.agg gridZ, iA 1])) := by
  have hle := d.le
  have hpos : 4 ≤ w * h := Nat.mul_le_mul d.w1 d.h1
  have hn := d.n
  have s1 := may_spec F (by omega)
  rw [he] at s1
  have s2 := points_spec d
  have s3 := around_spec (n := w * h) (pt F) (by omega) (by omega)
  refine gspec D1_ok (k_cons (kfix_ok s1) (k_cons (kfix_ok s2) (k_cons (kfix_ok s3) k_nil))) Tryz.func18 (by kernel_rfl) (by kernel_rfl) noL_ok rfl ?_
  rw [known_ev2, gate_pos rfl, gate_pos rfl, gate_pos rfl]
  unfold bx
  rw [hn]
  cases mayS (boxQ (pt F) (w * h)) == 0 <;> rfl
end Go.Proofs.YtiagpcjonaahlaaGreat
