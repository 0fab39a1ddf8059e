/-
  How things are made of raw numbers: plain functions, entries, and that no number that is none comes out. Of no particular program.
-/
import Derived.Test.YtfdfnnmgpjamdaiGreatSh
import Derived.Test.YtfdfnnmgpjamdaiGreatEv7
namespace Go.Proofs.YtfdfnnmgpjamdaiGreat
open Go.Ev

def w64 (n : Int) : Int := IntKind.i64.wrap n
def pickS (c n : Int) : Int := Int.tmod (cond (decide (c < 0)) (w64 (0 - w64 (c + 1))) c) n
def thouS (n : Int) : Nat := fdiv (cn (FloatKind.f64.nearest n)) 4652007308841189376
def milS (c most : Int) : Nat := thouS (w64 (pickS c (w64 (w64 (2 * most) + 1)) - most))
def noughtS (a b c : Nat) : Bool := cond (cond (feq a 0) (feq b 0) false) (feq c 0) false

theorem isNan_fdiv_thousand {x : Nat} (h : isNan x = false) : isNan (fdiv x 4652007308841189376) = false := by
  unfold fdiv
  cases hd : Ieee.double.div x 4652007308841189376 with
  | some r => exact isNan_div hd
  | none =>
    exfalso
    unfold Ieee.Format.div at hd
    have hr : Ieee.double.read 4652007308841189376 = .number false 8796093022208000 (-43) := by decide +kernel
    rw [hr] at hd
    cases hx : Ieee.double.read x with
    | number s m i =>
      rw [hx] at hd
      simp only [Ieee.Datum.quotient] at hd
      split at hd
      · rename_i h0; simp at h0
      · simp at hd
    | infinity s => rw [hx] at hd; simp [Ieee.Datum.quotient] at hd
    | nan s f => unfold isNan at h; rw [hx] at h; simp [Ieee.Datum.isNaN] at h
theorem thou_nan (n : Int) : isNan (thouS n) = false := by
  refine isNan_fdiv_thousand ?_
  rw [isNan_cn]
  show isNan (Ieee.double.write (.number (decide (n < 0)) n.natAbs 0)) = false
  exact isNan_write rfl
theorem mil_nan (c most : Int) : isNan (milS c most) = false := thou_nan _
theorem less_nan {a b : Nat} (ha : isNan a = false) (hb : isNan b = false) : isNan (lessS a b) = false := by unfold lessS; cases flt b a <;> assumption
theorem more_nan {a b : Nat} (ha : isNan a = false) (hb : isNan b = false) : isNan (moreS a b) = false := by unfold moreS; cases fgt b a <;> assumption

/-! ### Entries -/
def ePick0 : List Value → Option Value
  | [.int .i64 c, .int .i64 (.ofNat (m + 1))] => some (I (pickS c (.ofNat (m + 1))))
  | _ => none
def eI0 (g : Int → Value) : List Value → Option Value
  | [.int .i64 c] => some (g c)
  | _ => none
theorem ePick_ok [Tok] {P : Program} {f : Nat} (h : ∀ c (m : Nat), FSpec P f [] [I c, I (.ofNat (m + 1))] (I (pickS c (.ofNat (m + 1))))) : EOk P (f, pe ePick0) := by
  refine pe_ok fun args r hr => ?_
  unfold ePick0 at hr
  split at hr
  · cases hr; exact Or.inl (h _ _)
  · cases hr
theorem eI_ok [Tok] {P : Program} {f : Nat} {g : Int → Value} (h : ∀ c, FSpec P f [] [I c] (g c)) : EOk P (f, pe (eI0 g)) := by
  refine pe_ok fun args r hr => ?_
  unfold eI0 at hr
  split at hr
  · cases hr; exact Or.inl (h _)
  · cases hr

/-- The name of the slice of raw numbers. -/
abbrev TK (k : Nat) : Value := .slice (some ⟨k, 0, some 0⟩) 0 0
/-- A slice that holds nothing. -/
abbrev NIL : Value := .slice none 0 0
def RW [Tok] (l : List Int) : List Value := List.replicate (Tok.o 0) (.map none) ++ l.map fun n => I n
def rawS (l : List Int) (k : Int) : Int := l.getD (Int.tmod k l.length).toNat 0
theorem RW_noPtr [Tok] (l : List Int) : (RW l).all noPtr1 = true := by
  unfold RW
  rw [List.all_append, List.all_replicate, List.all_map]
  simp [noPtr1, Function.comp_def]
/-- What holds of a slice told by its place and length holds of its name. -/
theorem FSpec.named [Tok] {P : Program} {f : Nat} {mem : List (List Value)} {k c x y a b : Nat} {rest : List Value} {r : Value} (h : FSpec P f mem (.slice (some ⟨k, Tok.o k, none⟩) (Tok.n k) c :: rest) r) : FSpec P f mem (.slice (some ⟨k, x, some y⟩) a b :: rest) r := by
  refine ⟨h.1, fun bs w cargs hm hv => h.2 bs w cargs hm ?_⟩
  revert hv
  generalize cargs.toList = vs
  intro hv
  match vs, hv with
  | v :: vs, ⟨hv, hvs⟩ => exact ⟨hv, hvs⟩

end Go.Proofs.YtfdfnnmgpjamdaiGreat
