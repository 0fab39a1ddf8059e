/-
  Shapes of values (vectors, turns, boxes, rays), entries of tables for them, and plain functions of floats: of no particular program.
-/
import Derived.Test.YtenaeijehjnfeaaEv7
import Derived.Test.YtenaeijehjnfeaaFl
namespace Go.Proofs.Ytenaeijehjnfeaa
open Go.Ev

/-! ### The plain functions -/
def one : Nat := 4607182418800017408
def nearS (x : Nat) : Bool := cond (fge x 13920209183539462144) (fle x 4696837146684686336) false
def fineS (a b c : Nat) : Bool := cond (cond (nearS a) (nearS b) false) (nearS c) false
def sameS (a b : Nat) : Bool := cond (cond (!feq a a) true (!feq b b)) (cond (!feq a a) (!feq b b) false) (cond (feq a b) (cond (!feq a 0) true (feq (fdiv one a) (fdiv one b))) false)
def sameVS (a b c d e f : Nat) : Bool := cond (cond (sameS a d) (sameS b e) false) (sameS c f) false
def dotS (a b c d e f : Nat) : Nat := fadd (fadd (fmul a d) (fmul b e)) (fmul c f)
def cleanS (x : Nat) : Nat := cond (cond (fgt x 13740701229962882445) (flt x 4517329193108106637) false) 0 x
def crossX (_a b c _d e f : Nat) : Nat := fsub (fmul b f) (fmul c e)
def lengthS (a b c : Nat) : Nat := fsqrt (dotS a b c a b c)

theorem cond_some' {α : Type} (b : Bool) (x y : α) : cond b (some x) (some y) = some (cond b x y) := by cases b <;> rfl
theorem cond_B (b x y : Bool) : cond b (B x) (B y) = B (cond b x y) := by cases b <;> rfl
theorem cond_F (b : Bool) (x y : Nat) : cond b (F x) (F y) = F (cond b x y) := by cases b <;> rfl
theorem cond_V (b : Bool) (x y z p q r : Nat) : cond b (V x y z) (V p q r) = V (cond b x p) (cond b y q) (cond b z r) := by cases b <;> rfl
theorem cond_I (b : Bool) (x y : Int) : cond b (I x) (I y) = I (cond b x y) := by cases b <;> rfl
theorem cond_T (b : Bool) (x y p q : Value) : cond b (Value.tuple #[x, y]) (Value.tuple #[p, q]) = Value.tuple #[cond b x p, cond b y q] := by cases b <;> rfl

/-- A turn: three rows and where it moves, twelve floats. -/
abbrev TT (m : Nat → Nat) : Value := .agg #[F (m 0), F (m 1), F (m 2), F (m 3), F (m 4), F (m 5), F (m 6), F (m 7), F (m 8), F (m 9), F (m 10), F (m 11)]
/-- Its three rows alone. -/
abbrev RR (m : Nat → Nat) : Value := .agg #[F (m 0), F (m 1), F (m 2), F (m 3), F (m 4), F (m 5), F (m 6), F (m 7), F (m 8)]
def ls (l : List Nat) : Nat → Nat := fun i => l.getD i 0
def asT : Value → Option (Nat → Nat)
  | .agg ⟨[.float .f64 a0, .float .f64 a1, .float .f64 a2, .float .f64 a3, .float .f64 a4, .float .f64 a5, .float .f64 a6, .float .f64 a7, .float .f64 a8, .float .f64 a9, .float .f64 a10, .float .f64 a11]⟩ => some (ls [a0, a1, a2, a3, a4, a5, a6, a7, a8, a9, a10, a11])
  | _ => none
theorem asT_some {v : Value} {m : Nat → Nat} (h : asT v = some m) : v = TT m := by
  unfold asT at h; split at h
  · cases h; rfl
  · cases h
def asR : Value → Option (Nat → Nat)
  | .agg ⟨[.float .f64 a0, .float .f64 a1, .float .f64 a2, .float .f64 a3, .float .f64 a4, .float .f64 a5, .float .f64 a6, .float .f64 a7, .float .f64 a8]⟩ => some (ls [a0, a1, a2, a3, a4, a5, a6, a7, a8])
  | _ => none
theorem asR_some {v : Value} {m : Nat → Nat} (h : asR v = some m) : v = RR m := by
  unfold asR at h; split at h
  · cases h; rfl
  · cases h

def eT0 (g : (Nat → Nat) → Value) : List Value → Option Value
  | [x] => match asT x with
    | some a => some (g a)
    | _ => none
  | _ => none
def eR0 (g : (Nat → Nat) → Value) : List Value → Option Value
  | [x] => match asR x with
    | some a => some (g a)
    | _ => none
  | _ => none
def eTT0 (g : (Nat → Nat) → (Nat → Nat) → Value) : List Value → Option Value
  | [x, y] => match asT x, asT y with
    | some a, some b => some (g a b)
    | _, _ => none
  | _ => none
def eTV0 (g : (Nat → Nat) → Nat → Nat → Nat → Value) : List Value → Option Value
  | [x, y] => match asT x, asV y with
    | some t, some (a, b, c) => some (g t a b c)
    | _, _ => none
  | _ => none
theorem eT_ok [Tok] {P : Program} {f : Nat} {g : (Nat → Nat) → Value} (h : ∀ a, FSpec P f [] [TT a] (g a)) : EOk P (f, pe (eT0 g)) := by
  refine pe_ok fun args r hr => ?_
  simp only [eT0] at hr
  split at hr
  · split at hr
    · rename_i a ha; cases hr; rw [asT_some ha]; exact Or.inl (h a)
    · cases hr
  · cases hr
theorem eR_ok [Tok] {P : Program} {f : Nat} {g : (Nat → Nat) → Value} (h : ∀ a, FSpec P f [] [RR a] (g a)) : EOk P (f, pe (eR0 g)) := by
  refine pe_ok fun args r hr => ?_
  simp only [eR0] at hr
  split at hr
  · split at hr
    · rename_i a ha; cases hr; rw [asR_some ha]; exact Or.inl (h a)
    · cases hr
  · cases hr
theorem eTT_ok [Tok] {P : Program} {f : Nat} {g : (Nat → Nat) → (Nat → Nat) → Value} (h : ∀ a b, FSpec P f [] [TT a, TT b] (g a b)) : EOk P (f, pe (eTT0 g)) := by
  refine pe_ok fun args r hr => ?_
  simp only [eTT0] at hr
  split at hr
  · split at hr
    · rename_i a b ha hb; cases hr; rw [asT_some ha, asT_some hb]; exact Or.inl (h a b)
    · cases hr
  · cases hr
theorem eTV_ok [Tok] {P : Program} {f : Nat} {g : (Nat → Nat) → Nat → Nat → Nat → Value} (h : ∀ t a b c, FSpec P f [] [TT t, V a b c] (g t a b c)) : EOk P (f, pe (eTV0 g)) := by
  refine pe_ok fun args r hr => ?_
  simp only [eTV0] at hr
  split at hr
  · split at hr
    · rename_i t a b c ha hb; cases hr; rw [asT_some ha, asV_some hb]; exact Or.inl (h t a b c)
    · cases hr
  · cases hr

/-- A box: two corners, six floats. -/
abbrev BX (m : Nat → Nat) : Value := .agg #[F (m 0), F (m 1), F (m 2), F (m 3), F (m 4), F (m 5)]
def asB : Value → Option (Nat → Nat)
  | .agg ⟨[.float .f64 a0, .float .f64 a1, .float .f64 a2, .float .f64 a3, .float .f64 a4, .float .f64 a5]⟩ => some (ls [a0, a1, a2, a3, a4, a5])
  | _ => none
theorem asB_some {v : Value} {m : Nat → Nat} (h : asB v = some m) : v = BX m := by
  unfold asB at h; split at h
  · cases h; rfl
  · cases h
def eB0 (g : (Nat → Nat) → Value) : List Value → Option Value
  | [x] => match asB x with
    | some a => some (g a)
    | _ => none
  | _ => none
def eBB0 (g : (Nat → Nat) → (Nat → Nat) → Value) : List Value → Option Value
  | [x, y] => match asB x, asB y with
    | some a, some b => some (g a b)
    | _, _ => none
  | _ => none
def eTB0 (g : (Nat → Nat) → (Nat → Nat) → Value) : List Value → Option Value
  | [x, y] => match asT x, asB y with
    | some a, some b => some (g a b)
    | _, _ => none
  | _ => none
def eN0 (g : Value) : List Value → Option Value
  | [] => some g
  | _ => none
theorem eN_ok [Tok] {P : Program} {f : Nat} {g : Value} (h : FSpec P f [] [] g) : EOk P (f, pe (eN0 g)) := by
  refine pe_ok fun args r hr => ?_
  unfold eN0 at hr
  split at hr
  · cases hr; exact Or.inl h
  · cases hr
theorem eB_ok [Tok] {P : Program} {f : Nat} {g : (Nat → Nat) → Value} (h : ∀ a, FSpec P f [] [BX a] (g a)) : EOk P (f, pe (eB0 g)) := by
  refine pe_ok fun args r hr => ?_
  simp only [eB0] at hr
  split at hr
  · split at hr
    · rename_i a ha; cases hr; rw [asB_some ha]; exact Or.inl (h a)
    · cases hr
  · cases hr
theorem eBB_ok [Tok] {P : Program} {f : Nat} {g : (Nat → Nat) → (Nat → Nat) → Value} (h : ∀ a b, FSpec P f [] [BX a, BX b] (g a b)) : EOk P (f, pe (eBB0 g)) := by
  refine pe_ok fun args r hr => ?_
  simp only [eBB0] at hr
  split at hr
  · split at hr
    · rename_i a b ha hb; cases hr; rw [asB_some ha, asB_some hb]; exact Or.inl (h a b)
    · cases hr
  · cases hr
theorem eTB_ok [Tok] {P : Program} {f : Nat} {g : (Nat → Nat) → (Nat → Nat) → Value} (h : ∀ a b, FSpec P f [] [TT a, BX b] (g a b)) : EOk P (f, pe (eTB0 g)) := by
  refine pe_ok fun args r hr => ?_
  simp only [eTB0] at hr
  split at hr
  · split at hr
    · rename_i a b ha hb; cases hr; rw [asT_some ha, asB_some hb]; exact Or.inl (h a b)
    · cases hr
  · cases hr

/-- A ray: from, along, and its least. -/
abbrev RY (m : Nat → Nat) : Value := .agg #[F (m 0), F (m 1), F (m 2), F (m 3), F (m 4), F (m 5), F (m 6)]
def asY : Value → Option (Nat → Nat)
  | .agg ⟨[.float .f64 a0, .float .f64 a1, .float .f64 a2, .float .f64 a3, .float .f64 a4, .float .f64 a5, .float .f64 a6]⟩ => some (ls [a0, a1, a2, a3, a4, a5, a6])
  | _ => none
theorem asY_some {v : Value} {m : Nat → Nat} (h : asY v = some m) : v = RY m := by
  unfold asY at h; split at h
  · cases h; rfl
  · cases h
def eY0 (g : (Nat → Nat) → Value) : List Value → Option Value
  | [x] => match asY x with
    | some a => some (g a)
    | _ => none
  | _ => none
def eBY0 (g : (Nat → Nat) → (Nat → Nat) → Value) : List Value → Option Value
  | [x, y] => match asB x, asY y with
    | some a, some b => some (g a b)
    | _, _ => none
  | _ => none
theorem eY_ok [Tok] {P : Program} {f : Nat} {g : (Nat → Nat) → Value} (h : ∀ a, FSpec P f [] [RY a] (g a)) : EOk P (f, pe (eY0 g)) := by
  refine pe_ok fun args r hr => ?_
  simp only [eY0] at hr
  split at hr
  · split at hr
    · rename_i a ha; cases hr; rw [asY_some ha]; exact Or.inl (h a)
    · cases hr
  · cases hr
theorem eBY_ok [Tok] {P : Program} {f : Nat} {g : (Nat → Nat) → (Nat → Nat) → Value} (h : ∀ a b, FSpec P f [] [BX a, RY b] (g a b)) : EOk P (f, pe (eBY0 g)) := by
  refine pe_ok fun args r hr => ?_
  simp only [eBY0] at hr
  split at hr
  · split at hr
    · rename_i a b ha hb; cases hr; rw [asB_some ha, asY_some hb]; exact Or.inl (h a b)
    · cases hr
  · cases hr

def lessS (a b : Nat) : Nat := cond (flt b a) b a
def moreS (a b : Nat) : Nat := cond (fgt b a) b a
def lowV (a b c d e f : Nat) : Value := V (lessS a d) (lessS b e) (lessS c f)
def highV (a b c d e f : Nat) : Value := V (moreS a d) (moreS b e) (moreS c f)
def sameB (s t : Nat → Nat) : Bool := cond (sameVS (s 0) (s 1) (s 2) (t 0) (t 1) (t 2)) (sameVS (s 3) (s 4) (s 5) (t 3) (t 4) (t 5)) false
def mayS (b : Nat → Nat) : Int := cond (cond (!fineS (b 0) (b 1) (b 2)) true (!fineS (b 3) (b 4) (b 5))) 1 (cond (cond (cond (fgt (b 0) (b 3)) true (fgt (b 1) (b 4))) true (fgt (b 2) (b 5))) 6 0)
def joinS (a b : Nat → Nat) : Nat → Nat := ls [lessS (a 0) (b 0), lessS (a 1) (b 1), lessS (a 2) (b 2), moreS (a 3) (b 3), moreS (a 4) (b 4), moreS (a 5) (b 5)]
def insideS (a b : Nat → Nat) : Bool := cond (!(cond (cond (flt (a 0) (b 0)) true (flt (a 1) (b 1))) true (flt (a 2) (b 2)))) (!(cond (cond (fgt (a 3) (b 3)) true (fgt (a 4) (b 4))) true (fgt (a 5) (b 5)))) false
def rayZ (r : Nat → Nat) : Bool := feq (r 3) 0 && (feq (r 4) 0 && (feq (r 5) 0 && true))
def rayC (r : Nat → Nat) : Bool := feq (r 3) (cleanS (r 3)) && (feq (r 4) (cleanS (r 4)) && (feq (r 5) (cleanS (r 5)) && true))
def rayF (r : Nat → Nat) : Bool := cond (cond (!fineS (r 0) (r 1) (r 2)) true (!fineS (r 3) (r 4) (r 5))) true (!nearS (r 6))
def rayS (r : Nat → Nat) : Int := cond (rayF r) 1 (cond (rayZ r) 2 (cond (!rayC r) 1 (cond (flt (r 6) 0) 6 0)))
def maxFar : Nat := 4786511204640096256
/-- What is left of a stretch between two walls: whether anything is, from where, to where. -/
def cutOk (lo hi o d : Nat) : Bool := cond (feq d 0) (cond (fge o lo) (fle o hi) false) true
def cutA (lo hi o d : Nat) : Nat := cond (flt d 0) (fdiv (fsub hi o) d) (fdiv (fsub lo o) d)
def cutB (lo hi o d : Nat) : Nat := cond (flt d 0) (fdiv (fsub lo o) d) (fdiv (fsub hi o) d)
def cutN (lo hi o d n : Nat) : Nat := cond (feq d 0) n (cond (fgt (cutA lo hi o d) n) (cutA lo hi o d) n)
def cutF (lo hi o d f : Nat) : Nat := cond (feq d 0) f (cond (flt (cutB lo hi o d) f) (cutB lo hi o d) f)

/-! ### Where a ray meets a box -/
def m1N (b r : Nat → Nat) : Nat := cutN (b 0) (b 3) (r 0) (r 3) (r 6)
def m1F (b r : Nat → Nat) : Nat := cutF (b 0) (b 3) (r 0) (r 3) maxFar
def m1K (b r : Nat → Nat) : Bool := cutOk (b 0) (b 3) (r 0) (r 3)
def m2N (b r : Nat → Nat) : Nat := cond (m1K b r) (cutN (b 1) (b 4) (r 1) (r 4) (m1N b r)) (m1N b r)
def m2F (b r : Nat → Nat) : Nat := cond (m1K b r) (cutF (b 1) (b 4) (r 1) (r 4) (m1F b r)) (m1F b r)
def m2K (b r : Nat → Nat) : Bool := cond (m1K b r) (cutOk (b 1) (b 4) (r 1) (r 4)) false
def m3N (b r : Nat → Nat) : Nat := cond (m2K b r) (cutN (b 2) (b 5) (r 2) (r 5) (m2N b r)) (m2N b r)
def m3F (b r : Nat → Nat) : Nat := cond (m2K b r) (cutF (b 2) (b 5) (r 2) (r 5) (m2F b r)) (m2F b r)
def m3K (b r : Nat → Nat) : Bool := cond (m2K b r) (cutOk (b 2) (b 5) (r 2) (r 5)) false
def badS (b r : Nat → Nat) : Bool := cond (!(mayS b == 0)) true (!(rayS r == 0))
def missS (b r : Nat → Nat) : Bool := cond (!m3K b r) true (fgt (m3N b r) (m3F b r))
def meetK (b r : Nat → Nat) : Bool := cond (badS b r) false (!missS b r)
def meetN (b r : Nat → Nat) : Nat := cond (meetK b r) (m3N b r) 0
def meetF (b r : Nat → Nat) : Nat := cond (meetK b r) (m3F b r) 0
def meetV (b r : Nat → Nat) : Value := .tuple #[F (meetN b r), F (meetF b r), B (meetK b r)]

theorem sameS_self (x : Nat) : sameS x x = true := by
  unfold sameS one
  rw [feq_self]
  cases h : isNan x
  · rw [feq_self, isNan_fdiv_one h]
    cases feq x 0 <;> rfl
  · rfl
theorem sameVS_self (a b c : Nat) : sameVS a b c a b c = true := by
  unfold sameVS; rw [sameS_self, sameS_self, sameS_self]; rfl

theorem order_same (x : Nat) : Ieee.double.order x x = some .eq ∨ Ieee.double.order x x = none := by
  cases h : isNan x
  · exact Or.inl (order_self h)
  · exact Or.inr (order_nan_left h)
theorem flt_self (x : Nat) : flt x x = false := by
  unfold flt; rcases order_same x with h | h <;> rw [h] <;> rfl
theorem fgt_self (x : Nat) : fgt x x = false := by
  unfold fgt; rcases order_same x with h | h <;> rw [h] <;> rfl
theorem less_self (x : Nat) : lessS x x = x := by unfold lessS; rw [flt_self]; rfl
theorem more_self (x : Nat) : moreS x x = x := by unfold moreS; rw [fgt_self]; rfl
theorem sameB_all (t : Nat → Nat) : sameB t t = true := by
  unfold sameB; rw [sameVS_self, sameVS_self]; rfl
end Go.Proofs.Ytenaeijehjnfeaa
