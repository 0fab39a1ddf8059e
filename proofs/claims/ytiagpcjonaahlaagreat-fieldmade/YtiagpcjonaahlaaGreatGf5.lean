/-
  Package field: the pieces of a grid, whole; what is struck first.
-/
import Derived.Test.YtiagpcjonaahlaaGreatGf4
namespace Go.Proofs.YtiagpcjonaahlaaGreat
open Go.Gv
open Go.Ev (cn fadd fsub fmul fdiv feq flt fle fgt fge)

def poutS (F : Fd) (n : Nat) (b : Nat → Nat) (y : Int) (m : Nat) (ps : Nat → List AV) : St := mkS 73 [(1, .own 0 0), (3, .osl 1 13 0 m), (13, iA (w64 (F.H - 1))), (14, iA y)] [.c (gridC F n b), .a 41 13 m ps]
def keepQ : List Nat := [1, 3, 13, 14]
noncomputable def pinL (F : Fd) (b : Nat → Nat) (w y : Nat) : Nat → Option LFun := oneL 6 (toldF keepP [some 0, some 1] (pinS F F.n b (y : Nat) 0 (2 * (y * (w - 1))) (pcs F w)) (.exit 2) (pinS F F.n b (y : Nat) ((w - 1 : Nat) : Int) (2 * (y * (w - 1) + (w - 1))) (pcs F w)))
theorem pinL_ok {F : Fd} {w h y : Nat} (b : Nat → Nat) (d : Dim F w h) (hy : y < h - 1) : LOk Tryz.prog (pinL F b w y) (loopAt Tryz.f24 0) :=
  lok_one (i := 6) 1 (by kernel_rfl) fun j hj _ => by
    have : j = 0 := by omega
    subst this
    have e : (loopsOf (loopAt Tryz.f24 0)).getD 0 .skip = loopAt Tryz.f24 1 := by kernel_rfl
    rw [e]
    exact toldF_sound (pin_leads b d hy)
theorem pout_step (F : Fd) (b : Nat → Nat) (w y : Nat) : evC Tryz.prog [] [] (pinL F b w y) (loopAt Tryz.f24 0) (poutS F F.n b (y : Nat) (2 * (y * (w - 1))) (pcs F w)) (finN keepQ [some 0, some 1]) =
    cond (decide (((y : Nat) : Int) < w64 (F.H - 1))) (gate (Sub (pinS F F.n b (y : Nat) 0 (2 * (y * (w - 1))) (pcs F w)) (pinS F F.n b (y : Nat) 0 (2 * (y * (w - 1))) (pcs F w))) (some ⟨.normal, poutS F F.n b (w64 (((y : Nat) : Int) + 1)) (2 * (y * (w - 1) + (w - 1))) (pcs F w), .any⟩)) none := by kernel_rfl
theorem pout_last (F : Fd) (b : Nat → Nat) (w y m : Nat) : evC Tryz.prog [] [] (oneL 6 fun _ _ => none) (loopAt Tryz.f24 0) (poutS F F.n b (y : Nat) m (pcs F w)) (finX keepQ [some 0, some 1]) =
    cond (decide (((y : Nat) : Int) < w64 (F.H - 1))) none (some ⟨.exit 0, poutS F F.n b (y : Nat) m (pcs F w), .any⟩) := by kernel_rfl
theorem pout_leads {F : Fd} {w h : Nat} (b : Nat → Nat) (d : Dim F w h) : Leads Tryz.prog (.loop (loopAt Tryz.f24 0)) (poutS F F.n b 0 (2 * (0 * (w - 1))) (pcs F w)) (.exit 0) (poutS F F.n b ((h - 1 : Nat) : Int) (2 * ((h - 1) * (w - 1))) (pcs F w)) := by
  have h8 := d.h8
  refine loop_rule (fun y => poutS F F.n b (y : Nat) (2 * (y * (w - 1))) (pcs F w)) (h - 1) (.exit 0) _ (by simp) (fun y hy => ?_) ?_
  · refine leads_ev (finN_sub keepQ [some 0, some 1]) e_nil k_nil (pinL_ok b d hy) ?_
    rw [pout_step, d.less.2, dec_lt hy, gate_pos (Sub.refl _), w64_next (by omega), Nat.succ_mul y (w - 1)]
    rfl
  · refine leads_ev (finX_sub keepQ [some 0, some 1]) e_nil k_nil (lok_none 6) ?_
    rw [pout_last, d.less.2, dec_self]
    rfl
noncomputable def piecesL (F : Fd) (b : Nat → Nat) (w h : Nat) : Nat → Option LFun := oneL 3 (toldN keepQ [(3, 1, 13)] (.a 41 13 0 (pcs F w)) [some 0, none] (poutS F F.n b 0 (2 * (0 * (w - 1))) (pcs F w)) (.exit 0) (poutS F F.n b ((h - 1 : Nat) : Int) (2 * ((h - 1) * (w - 1))) (pcs F w)))
theorem piecesL_ok {F : Fd} {w h : Nat} (b : Nat → Nat) (d : Dim F w h) : LOk Tryz.prog (piecesL F b w h) (bodyOf Tryz.f24) :=
  lok_one (i := 3) 2 (by kernel_rfl) fun j hj hid => by
    have : j = 0 ∨ j = 1 := by omega
    rcases this with rfl | rfl
    · exact toldN_sound (pout_leads b d)
    · have e : firstId ((loopsOf (bodyOf Tryz.f24)).getD 1 .skip) = some 6 := by kernel_rfl
      rw [e] at hid
      cases hid
theorem pieces_ev (F : Fd) (b : Nat → Nat) (w h : Nat) : ev Tryz.prog [] [] (piecesL F b w h) Tryz.f24 [.agg (gridC F F.n b)] ret =
    gate (Sub (poutS F F.n b 0 0 (pcs F w)) (poutS F F.n b 0 (2 * (0 * (w - 1))) (pcs F w))) (some (Out.of (.sl 13 (2 * ((h - 1) * (w - 1))) fun i => shC (pc F w (0 + i)) F.sk))) := by kernel_rfl
/-- How many pieces there are. -/
def npc (w h : Nat) : Nat := 2 * ((h - 1) * (w - 1))
theorem pieces_spec {F : Fd} {w h : Nat} (b : Nat → Nat) (d : Dim F w h) : FSpec Tryz.prog 24 [.agg (gridC F F.n b)] (.sl 13 (npc w h) fun q => shC (pc F w q) F.sk) := by
  refine gspec e_nil k_nil Tryz.func24 (by kernel_rfl) (by kernel_rfl) (piecesL_ok b d) rfl ?_
  have hs : Sub (poutS F F.n b 0 0 (pcs F w)) (poutS F F.n b 0 (2 * (0 * (w - 1))) (pcs F w)) := by
    rw [Nat.zero_mul]
    exact Sub.refl _
  have e : (fun i => shC (pc F w (0 + i)) F.sk) = fun q => shC (pc F w q) F.sk := funext fun i => by rw [Nat.zero_add]
  rw [pieces_ev, gate_pos hs, e]
  rfl

/-! ### What is struck first -/
/-- What has been found so far: whether, which, and where. -/
structure Hit where
  ok : Bool
  at_ : Int
  t : Nat
/-- The same numbers, as a call has them. -/
def l11 (s : Nat → Nat) : Nat → Nat := ls [s 0, s 1, s 2, s 3, s 4, s 5, s 6, s 7, s 8, s 9, s 10]
def l7 (r : Nat → Nat) : Nat → Nat := ls [r 0, r 1, r 2, r 3, r 4, r 5, r 6]
def better (sk : Int) (s r : Nat → Nat) (x : Hit) : Bool := cond (triK sk (l11 s) (l7 r)) (cond (!x.ok) true (flt (triF sk (l11 s) (l7 r)) x.t)) false
def hitQ (sk : Int) (p : Nat → Nat → Nat) (r : Nat → Nat) : Nat → Hit
  | 0 => ⟨false, 0, 0⟩
  | q + 1 => cond (better sk (p q) r (hitQ sk p r q)) ⟨true, (q : Nat), triF sk (l11 (p q)) (l7 r)⟩ (hitQ sk p r q)
def rC (r : Nat → Nat) : List AV := [.f (r 0), .f (r 1), .f (r 2), .f (r 3), .f (r 4), .f (r 5), .f (r 6)]
def firstS (sk : Int) (n : Nat) (p : Nat → Nat → Nat) (r : Nat → Nat) (x : Hit) (q : Int) : St := mkS 42 [(3, .own 0 0), (4, iA x.at_), (5, .f x.t), (6, bA x.ok), (12, .sl 13 n fun q => shC (p q) sk), (13, iA n), (14, iA q)] [.c (rC r)]
def keepF : List Nat := [3, 4, 5, 6, 12, 13, 14]
theorem first_step (sk : Int) (n : Nat) (p : Nat → Nat → Nat) (r : Nat → Nat) (x : Hit) (q : Int) : evC Tryz.prog D1 [] noL (loopAt Tryz.f28 0) (firstS sk n p r x q) (finN keepF [some 0]) =
    cond (decide (q < (n : Int))) (cond ((decide (0 ≤ q) && decide (q < (n : Int))) && true) (cond (better sk (p q.toNat) r x) (some ⟨.normal, firstS sk n p r ⟨true, q, triF sk (l11 (p q.toNat)) (l7 r)⟩ (w64 (q + 1)), .any⟩) (some ⟨.normal, firstS sk n p r x (w64 (q + 1)), .any⟩)) none) none := by kernel_rfl
theorem first_end (sk : Int) (n : Nat) (p : Nat → Nat → Nat) (r : Nat → Nat) (x : Hit) (q : Int) : evC Tryz.prog D1 [] noL (loopAt Tryz.f28 0) (firstS sk n p r x q) (finX keepF [some 0]) =
    cond (decide (q < (n : Int))) (cond ((decide (0 ≤ q) && decide (q < (n : Int))) && true) (cond (better sk (p q.toNat) r x) none none) none) (some ⟨.exit 0, firstS sk n p r x q, .any⟩) := by kernel_rfl
theorem first_leads (sk : Int) {n : Nat} (p : Nat → Nat → Nat) (r : Nat → Nat) (hn : n < 4611686018427387904) : Leads Tryz.prog (.loop (loopAt Tryz.f28 0)) (firstS sk n p r ⟨false, 0, 0⟩ 0) (.exit 0) (firstS sk n p r (hitQ sk p r n) (n : Nat)) := by
  refine loop_rule (fun q => firstS sk n p r (hitQ sk p r q) (q : Nat)) n (.exit 0) _ (by simp) (fun q hq => ?_) ?_
  · refine leads_ev (finN_sub keepF [some 0]) D1_ok k_nil noL_ok ?_
    rw [first_step, dec_lt hq, dec_nonneg, w64_next (by omega)]
    simp only [Int.toNat_natCast, hitQ]
    cases better sk (p q) r (hitQ sk p r q) <;> rfl
  · refine leads_ev (finX_sub keepF [some 0]) D1_ok k_nil noL_ok ?_
    rw [first_end, dec_self]
    rfl
noncomputable def firstL (sk : Int) (n : Nat) (p : Nat → Nat → Nat) (r : Nat → Nat) : Nat → Option LFun := oneL 2 (toldF keepF [some 0] (firstS sk n p r ⟨false, 0, 0⟩ 0) (.exit 0) (firstS sk n p r (hitQ sk p r n) (n : Nat)))
theorem firstL_ok (sk : Int) {n : Nat} (p : Nat → Nat → Nat) (r : Nat → Nat) (hn : n < 4611686018427387904) : LOk Tryz.prog (firstL sk n p r) (bodyOf Tryz.f28) :=
  lok_one (i := 2) 1 (by kernel_rfl) fun j hj _ => by
    have : j = 0 := by omega
    subst this
    exact toldF_sound (first_leads sk p r hn)
theorem first_ev (sk : Int) (n : Nat) (p : Nat → Nat → Nat) (r : Nat → Nat) : ev Tryz.prog D1 [] (firstL sk n p r) Tryz.f28 [.sl 13 n fun q => shC (p q) sk, .agg (rC r)] ret =
    gate (Sub (firstS sk n p r ⟨false, 0, 0⟩ 0) (firstS sk n p r ⟨false, 0, 0⟩ 0)) (some (Out.of (.tup [iA (hitQ sk p r n).at_, .f (hitQ sk p r n).t, bA (hitQ sk p r n).ok]))) := by kernel_rfl
theorem first_spec (sk : Int) {n : Nat} (p : Nat → Nat → Nat) (r : Nat → Nat) (hn : n < 4611686018427387904) : FSpec Tryz.prog 28 [.sl 13 n fun q => shC (p q) sk, .agg (rC r)] (.tup [iA (hitQ sk p r n).at_, .f (hitQ sk p r n).t, bA (hitQ sk p r n).ok]) := by
  refine gspec D1_ok k_nil Tryz.func28 (by kernel_rfl) (by kernel_rfl) (firstL_ok sk p r hn) rfl ?_
  rw [first_ev, gate_pos (Sub.refl _)]
end Go.Proofs.YtiagpcjonaahlaaGreat
