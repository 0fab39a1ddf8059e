/-
  Floats as plain numbers: of all NaNs one is taken for all; what the model's operations give is that of the words so taken.
-/
import Derived.Laws.FloatArith
import Derived.Laws.Cover2
import Derived.RowKit
namespace Go.Ev
open Ieee

/-- The one NaN that stands for all. -/
def nanB : Nat := 9221120237041090561

def isNan (b : Nat) : Bool := (double.read b).isNaN

/-- A float's word, all NaNs taken for one. -/
def cn (b : Nat) : Nat := cond (isNan b) nanB b

def fadd (x y : Nat) : Nat := (double.add x y).getD nanB
def fsub (x y : Nat) : Nat := (double.sub x y).getD nanB
def fmul (x y : Nat) : Nat := (double.mul x y).getD nanB
def fdiv (x y : Nat) : Nat := (double.div x y).getD nanB
def fsqrt (x : Nat) : Nat := (double.sqrt x).getD nanB
def fneg (x : Nat) : Nat := cond (isNan x) nanB (x ^^^ 9223372036854775808)
def feq (x y : Nat) : Bool := double.order x y == some .eq
def flt (x y : Nat) : Bool := double.order x y == some .lt
def fle (x y : Nat) : Bool := double.order x y == some .lt || double.order x y == some .eq
def fgt (x y : Nat) : Bool := double.order x y == some .gt
def fge (x y : Nat) : Bool := double.order x y == some .gt || double.order x y == some .eq

theorem isNan_nanB : isNan nanB = true := by decide +kernel

theorem cn_of_nan {b : Nat} (h : isNan b = true) : cn b = nanB := by simp [cn, h]
theorem cn_of_not {b : Nat} (h : isNan b = false) : cn b = b := by simp [cn, h]

theorem isNan_cn (b : Nat) : isNan (cn b) = isNan b := by
  cases h : isNan b
  · rw [cn_of_not h, h]
  · rw [cn_of_nan h, isNan_nanB]

theorem sum_nan_left {d e : Datum} (h : d.isNaN = true) : d.sum e = none := by
  cases d <;> simp [Datum.isNaN] at h; simp [Datum.sum]
theorem sum_nan_right {d e : Datum} (h : e.isNaN = true) : d.sum e = none := by
  cases e <;> simp [Datum.isNaN] at h; cases d <;> simp [Datum.sum]
theorem product_nan_left {d e : Datum} (h : d.isNaN = true) : d.product e = none := by
  cases d <;> simp [Datum.isNaN] at h; simp [Datum.product]
theorem product_nan_right {d e : Datum} (h : e.isNaN = true) : d.product e = none := by
  cases e <;> simp [Datum.isNaN] at h; cases d <;> simp [Datum.product]
theorem quotient_nan_left {n : Nat} {d e : Datum} (h : d.isNaN = true) : d.quotient n e = none := by
  cases d <;> simp [Datum.isNaN] at h; simp [Datum.quotient]
theorem quotient_nan_right {n : Nat} {d e : Datum} (h : e.isNaN = true) : d.quotient n e = none := by
  cases e <;> simp [Datum.isNaN] at h; cases d <;> simp [Datum.quotient]
theorem order_nan_left {d e : Datum} (h : d.isNaN = true) : d.order e = none := by
  cases d <;> simp [Datum.isNaN] at h; simp [Datum.order]
theorem order_nan_right {d e : Datum} (h : e.isNaN = true) : d.order e = none := by
  cases e <;> simp [Datum.isNaN] at h; cases d <;> simp [Datum.order]
theorem root_nan {n : Nat} {d : Datum} (h : d.isNaN = true) : d.root n = none := by
  cases d <;> simp [Datum.isNaN] at h; simp [Datum.root]
theorem isNaN_opposite (d : Datum) : d.opposite.isNaN = d.isNaN := by cases d <;> rfl

/-- A function of two words that gives none at a NaN is that of the words so taken. -/
theorem cn_two {α : Type} (g : Nat → Nat → Option α) (hl : ∀ x y, isNan x = true → g x y = none) (hr : ∀ x y, isNan y = true → g x y = none) (x y : Nat) :
    g (cn x) (cn y) = g x y := by
  cases hx : isNan x
  · cases hy : isNan y
    · rw [cn_of_not hx, cn_of_not hy]
    · rw [hr _ _ (by rw [isNan_cn, hy]), hr _ _ hy]
  · rw [hl _ _ (by rw [isNan_cn, hx]), hl _ _ hx]

theorem add_cn (x y : Nat) : double.add (cn x) (cn y) = double.add x y :=
  cn_two double.add (fun x y h => by simp [Format.add, sum_nan_left h]) (fun x y h => by simp [Format.add, sum_nan_right h]) x y
theorem sub_cn (x y : Nat) : double.sub (cn x) (cn y) = double.sub x y :=
  cn_two double.sub (fun x y h => by simp [Format.sub, sum_nan_left h]) (fun x y h => by simp [Format.sub, sum_nan_right (d := double.read x) (show (double.read y).opposite.isNaN = true by rw [isNaN_opposite]; exact h)]) x y
theorem mul_cn (x y : Nat) : double.mul (cn x) (cn y) = double.mul x y :=
  cn_two double.mul (fun x y h => by simp [Format.mul, product_nan_left h]) (fun x y h => by simp [Format.mul, product_nan_right h]) x y
theorem div_cn (x y : Nat) : double.div (cn x) (cn y) = double.div x y :=
  cn_two double.div (fun x y h => by simp [Format.div, quotient_nan_left h]) (fun x y h => by simp [Format.div, quotient_nan_right h]) x y
theorem order_cn (x y : Nat) : double.order (cn x) (cn y) = double.order x y :=
  cn_two double.order (fun x y h => by simp [Format.order, order_nan_left h]) (fun x y h => by simp [Format.order, order_nan_right h]) x y
theorem sqrt_cn (x : Nat) : double.sqrt (cn x) = double.sqrt x := by
  cases hx : isNan x
  · rw [cn_of_not hx]
  · have h1 : double.sqrt (cn x) = none := by simp [Format.sqrt, root_nan (show (double.read (cn x)).isNaN = true from by have := isNan_cn x; rw [hx] at this; exact this)]
    have h2 : double.sqrt x = none := by simp [Format.sqrt, root_nan (show (double.read x).isNaN = true from hx)]
    rw [h1, h2]

theorem signW : double.signWeight = 9223372036854775808 := by decide +kernel
theorem infR : double.infRung = 9218868437227405312 := by decide +kernel
theorem binadeV : double.binade = 4503599627370496 := by decide +kernel

theorem word_mod (neg : Bool) {r : Nat} (h : r ≤ 9218868437227405312) : double.word neg r % 9223372036854775808 = r := by
  unfold Format.word; rw [signW]; split <;> omega

theorem read_isNaN (w : Nat) : (double.read w).isNaN = decide (9218868437227405312 < w % 9223372036854775808) := by
  unfold Format.read
  simp only [signW, infR, binadeV]
  split
  · rename_i h; simp [Datum.isNaN]; omega
  · split
    · rename_i h; simp [Datum.isNaN]; omega
    · split
      · rename_i h; simp [Datum.isNaN]; omega
      · simp [Datum.isNaN]; omega

theorem isNan_word (neg : Bool) {r : Nat} (h : r ≤ 9218868437227405312) : isNan (double.word neg r) = false := by
  unfold isNan; rw [read_isNaN, word_mod neg h]; simp; omega

theorem isNan_nearest (neg : Bool) (m : Nat) (p : Int) : isNan (double.nearest neg m p) = false := by
  unfold Format.nearest
  split
  · exact isNan_word neg (by omega)
  · exact isNan_word neg (by rw [← infR]; exact Nat.min_le_right _ _)

theorem isNan_write {d : Datum} (h : d.isNaN = false) : isNan (double.write d) = false := by
  cases d with
  | number s m p => exact isNan_nearest s m p
  | infinity s => exact isNan_word s (by rw [infR]; omega)
  | nan s f => simp [Datum.isNaN] at h

theorem isNaN_sum {d e f : Datum} (h : d.sum e = some f) : f.isNaN = false := by
  cases d <;> cases e <;> simp only [Datum.sum] at h
  all_goals first | (cases h; done) | (cases h; rfl) | (split at h <;> first | (cases h; done) | (cases h; rfl))
theorem isNaN_product {d e f : Datum} (h : d.product e = some f) : f.isNaN = false := by
  cases d <;> cases e <;> simp only [Datum.product] at h
  all_goals first | (cases h; done) | (cases h; rfl) | (split at h <;> first | (cases h; done) | (cases h; rfl))
theorem isNaN_quotient {n : Nat} {d e f : Datum} (h : d.quotient n e = some f) : f.isNaN = false := by
  cases d <;> cases e <;> simp only [Datum.quotient] at h
  all_goals first | (cases h; done) | (cases h; rfl) | (split at h <;> first | (cases h; done) | (cases h; rfl) | (split at h <;> first | (cases h; done) | (cases h; rfl)))
theorem isNaN_root {n : Nat} {d f : Datum} (h : d.root n = some f) : f.isNaN = false := by
  cases d <;> simp only [Datum.root] at h
  all_goals first | (cases h; done) | (cases h; rfl) | (split at h <;> first | (cases h; done) | (cases h; rfl) | (split at h <;> first | (cases h; done) | (cases h; rfl)))

theorem isNan_map {o : Option Datum} {r : Nat} (hd : ∀ f, o = some f → f.isNaN = false) (h : o.map double.write = some r) : isNan r = false := by
  cases o with
  | none => cases h
  | some d => cases h; exact isNan_write (hd d rfl)

theorem isNan_add {x y r : Nat} (h : double.add x y = some r) : isNan r = false := isNan_map (fun _ h => isNaN_sum h) h
theorem isNan_sub {x y r : Nat} (h : double.sub x y = some r) : isNan r = false := isNan_map (fun _ h => isNaN_sum h) h
theorem isNan_mul {x y r : Nat} (h : double.mul x y = some r) : isNan r = false := isNan_map (fun _ h => isNaN_product h) h
theorem isNan_div {x y r : Nat} (h : double.div x y = some r) : isNan r = false := isNan_map (fun _ h => isNaN_quotient h) h
theorem isNan_sqrt {x r : Nat} (h : double.sqrt x = some r) : isNan r = false := isNan_map (fun _ h => isNaN_root h) h

/-- What the tape gives for a NaN is one. -/
theorem isNan_cut (x y t : Nat) : isNan ((Question.nanBits .f64 x y).cut t) = true := by
  have h1 : (t / 2) % (2 ^ 52 - 1) < 2 ^ 52 - 1 := Nat.mod_lt _ (by decide)
  have h2 : t % 2 < 2 := Nat.mod_lt _ (by decide)
  unfold isNan; rw [read_isNaN]
  show decide (9218868437227405312 < ((t % 2) * 2 ^ 63 + 0x7ff0000000000000 + 1 + (t / 2) % (2 ^ 52 - 1)) % 9223372036854775808) = true
  generalize (t / 2) % (2 ^ 52 - 1) = u at h1
  generalize t % 2 = v at h2
  simp only [decide_eq_true_eq]
  have : v = 0 ∨ v = 1 := by omega
  rcases this with rfl | rfl <;> omega

/-- One arithmetic operation, in any world: a word that, so taken, is the plain function of the operands so taken; the world but for a draw as it was. -/
theorem run_arith (P : Program) (op : BinOp) (t : TypeId) (g : Nat → Nat → Option Nat) (hg : ∀ x y, floatBits op .f64 x y = g x y) (hop : op = .add ∨ op = .sub ∨ op = .mul ∨ op = .quo)
    (hc : ∀ x y, g (cn x) (cn y) = g x y) (hn : ∀ x y r, g x y = some r → isNan r = false) (w : World) (b c : Nat) :
    ∃ r w', (binOp op t (.float .f64 b) (.float .f64 c)).run P w = .ok (.float .f64 r) w' ∧ (w' = w ∨ w' = w.drew) ∧ cn r = (g (cn b) (cn c)).getD nanB := by
  rw [hc]
  cases h : g b c with
  | some r =>
    refine ⟨r, w, run_float_arith w op t .f64 b c r (by rw [hg]; exact h), Or.inl rfl, ?_⟩
    rw [cn_of_not (hn _ _ _ h)]; rfl
  | none =>
    have h' : floatBits op .f64 b c = none := by rw [hg]; exact h
    refine ⟨(Question.nanBits .f64 b c).cut (w.tape w.drawn (.nanBits .f64 b c)), w.drew, ?_, Or.inr rfl, ?_⟩
    · rcases hop with rfl | rfl | rfl | rfl <;> simp only [floatBits] at h' <;> simp [binOp, Op.floatArith, h', Question.forced]
    · rw [cn_of_nan (isNan_cut _ _ _)]; rfl

end Go.Ev
