/-
  What the texts over whole numbers lean on: entries of tables, loops, numbers of 64 bits, a law's arguments.
-/
import Derived.Test.YtefphimaggjihaaGreatDoorC17
import Derived.Test.YtefphimaggjihaaGreatDoorC11
import Derived.Test.YtefphimaggjihaaGreatDoorRows
namespace Go.Proofs.YtefphimaggjihaaGreatDoor
open Go.Gv Go.RowKit Go.ChangeShapes Go.WideShapes Go.ChangeAt

def iA (n : Int) : AV := .x (.int .i64 n)
def bA (b : Bool) : AV := .x (.bool b)
theorem e_nil {P : Program} : ∀ e, e ∈ ([] : List Entry) → EOk P e := fun _ h => by cases h
theorem k_nil {P : Program} : ∀ e, e ∈ ([] : List KEntry) → KOk P e := fun _ h => by cases h
theorem e_cons {P : Program} {e : Entry} {l : List Entry} (h : EOk P e) (hl : ∀ e, e ∈ l → EOk P e) : ∀ e', e' ∈ e :: l → EOk P e' := fun e' he => by
  rcases List.mem_cons.1 he with rfl | he
  · exact h
  · exact hl e' he
theorem k_cons {P : Program} {e : KEntry} {l : List KEntry} (h : KOk P e) (hl : ∀ e, e ∈ l → KOk P e) : ∀ e', e' ∈ e :: l → KOk P e' := fun e' he => by
  rcases List.mem_cons.1 he with rfl | he
  · exact h
  · exact hl e' he
theorem leads_ev {l : List Entry} {ks : List KEntry} {L : Nat → Option LFun} {c : Code} {s s' : St} {e : Exit} {k : Kont} (hk : KSub k) (hl : ∀ e, e ∈ l → EOk Tryz.prog e) (hks : ∀ e, e ∈ ks → KOk Tryz.prog e) (hL : LOk Tryz.prog L c) (h : evC Tryz.prog l ks L c s k = some ⟨e, s', .any⟩) : Leads Tryz.prog c s e s' :=
  leads_ofK hk (tab_ok hl hks) (drawnK_ok (tab_ok hl hks) (by kernel_rfl)) hL h
theorem gspec {l : List Entry} {ks : List KEntry} {L : Nat → Option LFun} (hl : ∀ e, e ∈ l → EOk Tryz.prog e) (hks : ∀ e, e ∈ ks → KOk Tryz.prog e) {f : Nat} {fn : Func} (hf : Tryz.prog.funcs[f]? = some fn) (hnm : (fn.name == "runtime.NumGoroutine") = false) (hb : fn.body = some (bodyOf fn)) (hL : LOk Tryz.prog L (bodyOf fn))
    {args : List AV} (hlen : Nat.ble args.length fn.ntmps = true) {r : AV} (h : ev Tryz.prog l ks L fn args ret = some (Out.of r)) : FSpec Tryz.prog f args r := spec_of_ev hl hks (by kernel_rfl) hf hnm hb hL hlen h
def w64 (n : Int) : Int := IntKind.i64.wrap n
theorem w64_id {n : Int} (h0 : -9223372036854775808 ≤ n) (h1 : n ≤ 9223372036854775807) : w64 n = n := by unfold w64; rw [IntKind.wrap_i64]; omega
theorem dec_nonneg (n : Nat) : decide (0 ≤ (n : Int)) = true := decide_eq_true (Int.natCast_nonneg _)
theorem dec_lt {a b : Nat} (h : a < b) : decide ((a : Int) < (b : Int)) = true := decide_eq_true (by omega)
theorem dec_self (a : Nat) : decide ((a : Int) < (a : Int)) = false := decide_eq_false (by omega)
theorem w64_next {n : Nat} (h : n < 4611686018427387904) : w64 ((n : Int) + 1) = ((n + 1 : Nat) : Int) := by rw [w64_id (by omega) (by omega)]; omega
theorem Tryz.own : ownKnob Tryz.prog.godebug = none := by kernel_rfl
theorem Tryz.laidOut : laidOutB Tryz.prog = true := by kernel_rfl
end Go.Proofs.YtefphimaggjihaaGreatDoor
