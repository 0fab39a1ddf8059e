/-
  Floats: a number is the same as itself.
-/
import Derived.Test.YtenaeijehjnfeaaEv1
namespace Go.Ev
open Ieee

theorem order_self {d : Datum} (h : d.isNaN = false) : d.order d = some .eq := by
  cases d with
  | number s m i => simp only [Datum.order]; simp
  | infinity s => simp [Datum.order]
  | nan s f => simp [Datum.isNaN] at h

theorem feq_self (x : Nat) : feq x x = !isNan x := by
  unfold feq
  cases h : isNan x
  · have : double.order x x = some .eq := order_self h
    rw [this]; rfl
  · have : double.order x x = none := order_nan_left h
    rw [this]; rfl

theorem isNan_fdiv_one {x : Nat} (h : isNan x = false) : isNan (fdiv 4607182418800017408 x) = false := by
  unfold fdiv
  cases hd : double.div 4607182418800017408 x with
  | some r => exact isNan_div hd
  | none =>
    exfalso
    unfold Format.div at hd
    have hr : double.read 4607182418800017408 = .number false 4503599627370496 (-52) := by decide +kernel
    rw [hr] at hd
    cases hx : double.read x with
    | number s m i =>
      rw [hx] at hd
      simp only [Datum.quotient] at hd
      split at hd
      · simp at hd
      · simp at hd
    | infinity s => rw [hx] at hd; simp [Datum.quotient] at hd
    | nan s f => unfold isNan at h; rw [hx] at h; simp [Datum.isNaN] at h

end Go.Ev
