/-
  Package field: what its face gives.
-/
import Derived.Test.YtiagpcjonaahlaaGreatGf5
namespace Go.Proofs.YtiagpcjonaahlaaGreat
open Go.Gv
open Go.Ev (cn fadd fsub fmul fdiv feq flt fle fgt fge)

def l6 (b : Nat → Nat) : Nat → Nat := ls [b 0, b 1, b 2, b 3, b 4, b 5]
/-- A field that may not be, by the code: what is said of it. -/
structure Bad (F : Fd) (e : Int) : Prop where
  ne : e ≠ 0
  known : FSpec Tryz.prog 18 [.agg F.c] (.tup [.agg gridZ, iA e])
/-- A field that may be, by the code. -/
structure Good (F : Fd) (w h : Nat) : Prop where
  d : Dim F w h
  known : FSpec Tryz.prog 18 [.agg F.c] (.tup [.agg (gridC F F.n (bx F)), iA 0])
section
variable (F : Fd) (e : Int) (r : Nat → Nat)
theorem bounds_ev1 : ev Tryz.prog D1 [kfix 18 [.agg F.c] (.tup [.agg gridZ, iA e])] noL Tryz.f5 [.agg F.c] ret = gate ([AV.agg F.c] = [AV.agg F.c]) (some (Out.of (.tup [.agg z6, iA e]))) := by kernel_rfl
theorem bounds_ev2 (n : Nat) (b : Nat → Nat) : ev Tryz.prog D1 [kfix 18 [.agg F.c] (.tup [.agg (gridC F n b), iA 0])] noL Tryz.f5 [.agg F.c] ret = gate ([AV.agg F.c] = [AV.agg F.c]) (some (Out.of (.tup [.agg (c6 b), iA 0]))) := by kernel_rfl
theorem fmay_ev1 : ev Tryz.prog D1 [kfix 18 [.agg F.c] (.tup [.agg gridZ, iA e])] noL Tryz.f7 [.agg F.c] ret = gate ([AV.agg F.c] = [AV.agg F.c]) (some (Out.of (iA e))) := by kernel_rfl
theorem fmay_ev2 (n : Nat) (b : Nat → Nat) : ev Tryz.prog D1 [kfix 18 [.agg F.c] (.tup [.agg (gridC F n b), iA 0])] noL Tryz.f7 [.agg F.c] ret = gate ([AV.agg F.c] = [AV.agg F.c]) (some (Out.of (iA 0))) := by kernel_rfl
theorem fpcs_ev1 : ev Tryz.prog D1 [kfix 18 [.agg F.c] (.tup [.agg gridZ, iA e])] noL Tryz.f10 [.agg F.c] ret = gate ([AV.agg F.c] = [AV.agg F.c]) (cond (!(e == 0)) (some (Out.of (.tup [.x (.slice none 0 0), iA e]))) none) := by kernel_rfl
theorem fpcs_ev2 (n m : Nat) (b : Nat → Nat) (p : Nat → Nat → Nat) : ev Tryz.prog D1 [kfix 18 [.agg F.c] (.tup [.agg (gridC F n b), iA 0]), kfix 24 [.agg (gridC F n b)] (.sl 13 m fun q => shC (p q) F.sk)] noL Tryz.f10 [.agg F.c] ret =
    gate ([AV.agg F.c] = [AV.agg F.c]) (gate ([AV.agg (gridC F n b)] = [AV.agg (gridC F n b)]) (some (Out.of (.tup [.sl 13 m fun q => shC (p q) F.sk, iA 0])))) := by kernel_rfl
theorem kto_ev1 : ev Tryz.prog D1 [kfix 18 [.agg F.c] (.tup [.agg gridZ, iA e])] noL Tryz.f26 [.agg F.c, .agg (rC r)] ret = gate ([AV.agg F.c] = [AV.agg F.c]) (cond (!(e == 0)) (some (Out.of (.tup [.agg gridZ, iA e]))) (cond (!(rayS (l7 r) == 0)) (some (Out.of (.tup [.agg gridZ, iA (rayS (l7 r))]))) (some (Out.of (.tup [.agg gridZ, iA 0]))))) := by kernel_rfl
theorem kto_ev2 (n : Nat) (b : Nat → Nat) : ev Tryz.prog D1 [kfix 18 [.agg F.c] (.tup [.agg (gridC F n b), iA 0])] noL Tryz.f26 [.agg F.c, .agg (rC r)] ret = gate ([AV.agg F.c] = [AV.agg F.c]) (cond (!(rayS (l7 r) == 0)) (some (Out.of (.tup [.agg gridZ, iA (rayS (l7 r))]))) (some (Out.of (.tup [.agg (gridC F n b), iA 0])))) := by kernel_rfl
theorem fstr_ev1 : ev Tryz.prog D1 [kfix 26 [.agg F.c, .agg (rC r)] (.tup [.agg gridZ, iA e])] noL Tryz.f12 [.agg F.c, .agg (rC r)] ret = gate ([AV.agg F.c, AV.agg (rC r)] = [AV.agg F.c, AV.agg (rC r)]) (cond (!(e == 0)) (some (Out.of (.tup [iA 0, .f 0, bA false, iA e]))) (cond (!meetK (ls [0, 0, 0, 0, 0, 0]) (l7 r)) (some (Out.of (.tup [iA 0, .f 0, bA false, iA 0]))) none)) := by kernel_rfl
theorem fstr_ev2 (n m : Nat) (b : Nat → Nat) (p : Nat → Nat → Nat) (x : Hit) : ev Tryz.prog D1 [kfix 26 [.agg F.c, .agg (rC r)] (.tup [.agg (gridC F n b), iA 0]), kfix 24 [.agg (gridC F n b)] (.sl 13 m fun q => shC (p q) F.sk), kfix 28 [.sl 13 m fun q => shC (p q) F.sk, .agg (rC r)] (.tup [iA x.at_, .f x.t, bA x.ok])] noL Tryz.f12 [.agg F.c, .agg (rC r)] ret =
    gate ([AV.agg F.c, AV.agg (rC r)] = [AV.agg F.c, AV.agg (rC r)]) (cond (!meetK (l6 b) (l7 r)) (some (Out.of (.tup [iA 0, .f 0, bA false, iA 0]))) (gate ([AV.agg (gridC F n b)] = [AV.agg (gridC F n b)]) (gate ([AV.sl 13 m fun q => shC (p q) F.sk, .agg (rC r)] = [AV.sl 13 m fun q => shC (p q) F.sk, .agg (rC r)]) (some (Out.of (.tup [iA x.at_, .f x.t, bA x.ok, iA 0])))))) := by kernel_rfl
end
/-- What the face gives of a field that may not be. -/
structure BadC (F : Fd) (e : Int) (r : Nat → Nat) : Prop where
  bounds : FSpec Tryz.prog 5 [.agg F.c] (.tup [.agg z6, iA e])
  may : FSpec Tryz.prog 7 [.agg F.c] (iA e)
  pieces : FSpec Tryz.prog 10 [.agg F.c] (.tup [.x (.slice none 0 0), iA e])
  strike : FSpec Tryz.prog 12 [.agg F.c, .agg (rC r)] (.tup [iA 0, .f 0, bA false, iA e])
theorem badC {F : Fd} {e : Int} (r : Nat → Nat) (h : Bad F e) : BadC F e r := by
  have hk := k_cons (kfix_ok h.known) k_nil
  have he := beq_false_of_ne h.ne
  refine ⟨gspec D1_ok hk Tryz.func5 (by kernel_rfl) (by kernel_rfl) noL_ok rfl ?_, gspec D1_ok hk Tryz.func7 (by kernel_rfl) (by kernel_rfl) noL_ok rfl ?_, gspec D1_ok hk Tryz.func10 (by kernel_rfl) (by kernel_rfl) noL_ok rfl ?_, ?_⟩
  · rw [bounds_ev1, gate_pos rfl]
  · rw [fmay_ev1, gate_pos rfl]
  · rw [fpcs_ev1, gate_pos rfl, he]; rfl
  · have s1 : FSpec Tryz.prog 26 [.agg F.c, .agg (rC r)] (.tup [.agg gridZ, iA e]) := by
      refine gspec D1_ok hk Tryz.func26 (by kernel_rfl) (by kernel_rfl) noL_ok rfl ?_
      rw [kto_ev1, gate_pos rfl, he]; rfl
    refine gspec D1_ok (k_cons (kfix_ok s1) k_nil) Tryz.func12 (by kernel_rfl) (by kernel_rfl) noL_ok rfl ?_
    rw [fstr_ev1, gate_pos rfl, he]; rfl
/-- What is struck: which piece, where, whether, and what is said. -/
def sE (r : Nat → Nat) : Int := rayS (l7 r)
def sX (F : Fd) (w h : Nat) (r : Nat → Nat) : Hit := cond (sE r == 0) (cond (meetK (l6 (bx F)) (l7 r)) (hitQ F.sk (pc F w) r (npc w h)) ⟨false, 0, 0⟩) ⟨false, 0, 0⟩
structure GoodC (F : Fd) (w h : Nat) (r : Nat → Nat) : Prop where
  bounds : FSpec Tryz.prog 5 [.agg F.c] (.tup [.agg (c6 (bx F)), iA 0])
  may : FSpec Tryz.prog 7 [.agg F.c] (iA 0)
  pieces : FSpec Tryz.prog 10 [.agg F.c] (.tup [.sl 13 (npc w h) fun q => shC (pc F w q) F.sk, iA 0])
  strike : FSpec Tryz.prog 12 [.agg F.c, .agg (rC r)] (.tup [iA (sX F w h r).at_, .f (sX F w h r).t, bA (sX F w h r).ok, iA (sE r)])
theorem goodC {F : Fd} {w h : Nat} (r : Nat → Nat) (g : Good F w h) : GoodC F w h r := by
  have hk := k_cons (kfix_ok g.known) k_nil
  have hp := pieces_spec (bx F) g.d
  have hnpc : npc w h < 4611686018427387904 := by
    have h1 : (h - 1) * (w - 1) ≤ 8 * 8 := Nat.mul_le_mul (by have := g.d.h8; omega) (by have := g.d.w8; omega)
    unfold npc
    omega
  refine ⟨gspec D1_ok hk Tryz.func5 (by kernel_rfl) (by kernel_rfl) noL_ok rfl ?_, gspec D1_ok hk Tryz.func7 (by kernel_rfl) (by kernel_rfl) noL_ok rfl ?_, gspec D1_ok (k_cons (kfix_ok g.known) (k_cons (kfix_ok hp) k_nil)) Tryz.func10 (by kernel_rfl) (by kernel_rfl) noL_ok rfl ?_, ?_⟩
  · rw [bounds_ev2, gate_pos rfl]
  · rw [fmay_ev2, gate_pos rfl]
  · rw [fpcs_ev2, gate_pos rfl, gate_pos rfl]
  · have s1 : ev Tryz.prog D1 [kfix 18 [.agg F.c] (.tup [.agg (gridC F F.n (bx F)), iA 0])] noL Tryz.f26 [.agg F.c, .agg (rC r)] ret = _ := kto_ev2 F r F.n (bx F)
    rw [gate_pos rfl] at s1
    unfold sX
    cases hr : sE r == 0
    · have hr' : (rayS (l7 r) == 0) = false := hr
      rw [hr'] at s1
      have s2 : FSpec Tryz.prog 26 [.agg F.c, .agg (rC r)] (.tup [.agg gridZ, iA (rayS (l7 r))]) := gspec D1_ok hk Tryz.func26 (by kernel_rfl) (by kernel_rfl) noL_ok rfl s1
      refine gspec D1_ok (k_cons (kfix_ok s2) k_nil) Tryz.func12 (by kernel_rfl) (by kernel_rfl) noL_ok rfl ?_
      rw [fstr_ev1, gate_pos rfl, hr']; rfl
    · have hr' : (rayS (l7 r) == 0) = true := hr
      have e0 : sE r = 0 := by simpa using hr
      rw [hr'] at s1
      have s2 : FSpec Tryz.prog 26 [.agg F.c, .agg (rC r)] (.tup [.agg (gridC F F.n (bx F)), iA 0]) := gspec D1_ok hk Tryz.func26 (by kernel_rfl) (by kernel_rfl) noL_ok rfl s1
      have s3 := first_spec F.sk (n := npc w h) (pc F w) r hnpc
      refine gspec D1_ok (k_cons (kfix_ok s2) (k_cons (kfix_ok hp) (k_cons (kfix_ok s3) k_nil))) Tryz.func12 (by kernel_rfl) (by kernel_rfl) noL_ok rfl ?_
      rw [fstr_ev2, gate_pos rfl, gate_pos rfl, gate_pos rfl, e0]
      cases meetK (l6 (bx F)) (l7 r) <;> rfl
end Go.Proofs.YtiagpcjonaahlaaGreat
