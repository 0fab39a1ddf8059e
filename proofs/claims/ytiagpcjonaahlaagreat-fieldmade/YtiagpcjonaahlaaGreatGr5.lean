/-
  The law on fields returns true.
-/
import Derived.Test.YtiagpcjonaahlaaGreatGr4
namespace Go.Proofs.YtiagpcjonaahlaaGreat
open Go.Gv
open Go.Ev (cn fadd fsub fmul fdiv feq flt fle fgt fge)

def lwS (F : Fd) (r : Nat → Nat) (n : Nat) (p : Nat → Nat → Nat) (q : Int) : St := mkS 117 [(2, .own 0 0), (3, .own 1 0), (9, .sl 13 n fun q => shC (p q) F.sk), (10, .sl 13 n fun q => shC (p q) F.sk), (11, iA q)] [.c F.c, .c (rC r)]
def keepL : List Nat := [2, 3, 9, 10, 11]
def eq3 (s : Nat → Nat) (i : Nat) : Bool := feq (s i) (s i) && (feq (s (i + 1)) (s (i + 1)) && (feq (s (i + 2)) (s (i + 2)) && true))
def eqS (s : Nat → Nat) (sk : Int) : Bool := eq3 s 0 && (eq3 s 3 && (eq3 s 6 && (feq (s 9) (s 9) && (feq (s 10) (s 10) && ((sk == sk) && true)))))
theorem lw_step (F : Fd) (r : Nat → Nat) (n : Nat) (p : Nat → Nat → Nat) (q : Int) : evC Tryz.prog D2 [] noL (loopAt Tryz.f3 0) (lwS F r n p q) (finN keepL [some 0, some 1]) =
    cond (decide (q < (n : Int))) (cond ((inR q n || false) && ((inR q n || false) && true)) (cond (!eqS (p q.toNat) F.sk) none (some ⟨.normal, lwS F r n p (w64 (q + 1)), .any⟩)) none) none := by kernel_rfl
theorem lw_end (F : Fd) (r : Nat → Nat) (n : Nat) (p : Nat → Nat → Nat) (q : Int) : evC Tryz.prog D2 [] noL (loopAt Tryz.f3 0) (lwS F r n p q) (fun e s => match e with | .ret => none | e => finX keepL [some 0, some 1] e s) =
    cond (decide (q < (n : Int))) (cond ((inR q n || false) && ((inR q n || false) && true)) (cond (!eqS (p q.toNat) F.sk) none none) none) (some ⟨.exit 0, lwS F r n p q, .any⟩) := by kernel_rfl
theorem lw_end_sub : KSub (fun e s => match e with | .ret => none | e => finX keepL [some 0, some 1] e s) := fun e s o h => by
  cases e <;> simp only at h <;> first | (cases h; done) | exact finX_sub keepL [some 0, some 1] _ s o h
theorem lw_leads {F : Fd} {n : Nat} (r : Nat → Nat) (p : Nat → Nat → Nat) (hn : n < 4611686018427387904) (he : ∀ q, q < n → eqS (p q) F.sk = true) : Leads Tryz.prog (.loop (loopAt Tryz.f3 0)) (lwS F r n p 0) (.exit 0) (lwS F r n p (n : Nat)) := by
  refine loop_rule (fun q => lwS F r n p (q : Nat)) n (.exit 0) _ (by simp) (fun q hq => ?_) ?_
  · refine leads_ev (finN_sub keepL [some 0, some 1]) D2_ok k_nil noL_ok ?_
    rw [lw_step, dec_lt hq, inR_nat hq, w64_next (by omega)]
    simp only [Int.toNat_natCast, he q hq]
    rfl
  · refine leads_ev lw_end_sub D2_ok k_nil noL_ok ?_
    rw [lw_end, dec_self]
    rfl
noncomputable def lwL (F : Fd) (r : Nat → Nat) (n : Nat) (p : Nat → Nat → Nat) : Nat → Option LFun := oneL 12 (toldF keepL [some 0, some 1] (lwS F r n p 0) (.exit 0) (lwS F r n p (n : Nat)))
theorem lwL_ok {F : Fd} {n : Nat} (r : Nat → Nat) (p : Nat → Nat → Nat) (hn : n < 4611686018427387904) (he : ∀ q, q < n → eqS (p q) F.sk = true) : LOk Tryz.prog (lwL F r n p) (bodyOf Tryz.f3) :=
  lok_one (i := 12) 1 (by kernel_rfl) fun j hj _ => by
    have : j = 0 := by omega
    subst this
    exact toldF_sound (lw_leads r p hn he)
noncomputable def w1 (F : Fd) (X : Option Out) : Option Out := gate ([AV.agg F.c] = [AV.agg F.c]) X
noncomputable def w2 (F : Fd) (r : Nat → Nat) (X : Option Out) : Option Out := gate ([AV.agg F.c, AV.agg (rC r)] = [AV.agg F.c, AV.agg (rC r)]) X
theorem w1_eq (F : Fd) (X : Option Out) : w1 F X = X := gate_pos rfl
theorem w2_eq (F : Fd) (r : Nat → Nat) (X : Option Out) : w2 F r X = X := gate_pos rfl
noncomputable def LK1 (F : Fd) (r : Nat → Nat) (e : Int) : List KEntry := [kfix 5 [.agg F.c] (.tup [.agg z6, iA e]), kfix 6 [.agg F.c] (.tup [.agg z6, iA e]), kfix 7 [.agg F.c] (iA e), kfix 8 [.agg F.c] (iA e), kfix 10 [.agg F.c] (.tup [.x (.slice none 0 0), iA e]),
  kfix 11 [.agg F.c] (.tup [.x (.slice none 0 0), iA e]), kfix 12 [.agg F.c, .agg (rC r)] (.tup [iA 0, .f 0, bA false, iA e]), kfix 13 [.agg F.c, .agg (rC r)] (.tup [iA 0, .f 0, bA false, iA e])]
noncomputable def LK2 (F : Fd) (r b : Nat → Nat) (n : Nat) (p : Nat → Nat → Nat) (x : Hit) (e : Int) : List KEntry := [kfix 5 [.agg F.c] (.tup [.agg (c6 b), iA 0]), kfix 6 [.agg F.c] (.tup [.agg (c6 b), iA 0]), kfix 7 [.agg F.c] (iA 0), kfix 8 [.agg F.c] (iA 0), kfix 10 [.agg F.c] (.tup [.sl 13 n fun q => shC (p q) F.sk, iA 0]),
  kfix 11 [.agg F.c] (.tup [.sl 13 n fun q => shC (p q) F.sk, iA 0]), kfix 12 [.agg F.c, .agg (rC r)] (.tup [iA x.at_, .f x.t, bA x.ok, iA e]), kfix 13 [.agg F.c, .agg (rC r)] (.tup [iA x.at_, .f x.t, bA x.ok, iA e])]
theorem law_ev1 (F : Fd) (r : Nat → Nat) (e : Int) : ev Tryz.prog D2 (LK1 F r e) noL Tryz.f3 [.agg F.c, .agg (rC r)] ret =
    cond (decide ((F.n : Int) > 80)) (some (Out.of (bA true))) (w1 F (w1 F (w1 F (w1 F (cond (cond (cond (!(e == e)) true (!(e == e))) true false) (some (Out.of (bA false))) (w1 F (w1 F (cond (cond (!(e == e)) true false) (some (Out.of (bA false))) (w2 F r (w2 F r (some (Out.of (bA (e == e)))))))))))))) := by kernel_rfl
theorem law_ev2 (F : Fd) (r b : Nat → Nat) (n : Nat) (p : Nat → Nat → Nat) (x : Hit) (e : Int) : ev Tryz.prog D2 (LK2 F r b n p x e) (lwL F r n p) Tryz.f3 [.agg F.c, .agg (rC r)] ret =
    cond (decide ((F.n : Int) > 80)) (some (Out.of (bA true))) (w1 F (w1 F (w1 F (w1 F (cond (!sameB (l6 b) (l6 b)) (some (Out.of (bA false))) (w1 F (w1 F (cond (!((n : Int) == (n : Int))) (some (Out.of (bA false))) (gate (Sub (lwS F r n p 0) (lwS F r n p 0)) (w2 F r (w2 F r (some (Out.of (bA (cond (cond (cond (x.at_ == x.at_) (sameS x.t x.t) false) (x.ok == x.ok) false) (e == e) false))))))))))))))) := by kernel_rfl
end Go.Proofs.YtiagpcjonaahlaaGreat
