/-
  What the texts over whole numbers lean on: entries of tables, loops, numbers of 64 bits, a law's arguments.
-/
import Derived.Test.YthdobfifpkpbnaaDoorGl
import Derived.Test.YthdobfifpkpbnaaDoorGe
import Derived.Test.YthdobfifpkpbnaaDoorRows
namespace Go.Gv
open Go.RowKit Go.Ev

/-- A contract that asks something of its arguments. -/
def kIf (f : Nat) (c : List AV → Bool) (g : List AV → AV) : KEntry := ⟨f, fun args k => cond (c args) (k (g args)) none⟩
theorem kIf_ok {P : Program} {f : Nat} {c : List AV → Bool} {g : List AV → AV} (h : ∀ args, c args = true → FSpec P f args (g args)) : KOk P (kIf f c g) := by
  constructor
  · intro args k o ho
    simp only [kIf] at ho ⊢
    cases hc : c args
    · rw [hc] at ho; cases ho
    · rw [hc] at ho
      exact ⟨g args, ho, fun k' => rfl⟩
  · intro args v hv
    have h1 := hv fun x => some (Out.of x)
    simp only [kIf] at h1
    cases hc : c args
    · rw [hc] at h1; cases h1
    · rw [hc] at h1
      simp only [cond_true, Option.some.injEq, Out.of, Out.mk.injEq, true_and] at h1
      subst h1
      exact Or.inl (h args hc)
theorem lok_all {P : Program} {c : Code} {L : Nat → Option LFun} (m : Nat) (hlen : (loopsOf c).length = m) (h : ∀ j, j < m → ∀ i g, firstId ((loopsOf c).getD j .skip) = some i → L i = some g → LSound P ((loopsOf c).getD j .skip) g) : LOk P L c := by
  intro c' hc i' g' hi hg
  obtain ⟨j, hj, rfl⟩ := List.mem_iff_getElem.1 hc
  have e2 : (loopsOf c).getD j .skip = (loopsOf c)[j] := by rw [List.getD_eq_getElem?_getD, List.getElem?_eq_getElem hj]; rfl
  have := h j (by omega) i' g' (by rw [e2]; exact hi) hg
  rw [e2] at this
  exact this
/-- Where a loop is left by its exit. -/
def finE (keep : List Nat) (τ : List (Option Nat)) : Kont := fun e s => match e with
  | .exit i => finF keep τ (.exit i) s
  | _ => none
theorem finE_sub (keep : List Nat) (τ : List (Option Nat)) : KSub (finE keep τ) := fun e s o h => by
  unfold finE at h
  cases e <;> simp only at h <;> first | (cases h; done) | exact finF_sub keep τ _ s o h
/-- Two loops are told. -/
def twoL (i : Nat) (g : LFun) (i' : Nat) (g' : LFun) : Nat → Option LFun := fun j => cond (Nat.beq j i) (some g) (cond (Nat.beq j i') (some g') none)
end Go.Gv
namespace Go.Proofs.YthdobfifpkpbnaaDoor
open Go.Gv Go.RowKit Go.ChangeShapes Go.WideShapes Go.ChangeAt

def iA (n : Int) : AV := .x (.int .i64 n)
def bA (b : Bool) : AV := .x (.bool b)
def uA (n : Int) : AV := .x (.int .u32 n)
theorem e_nil {P : Program} : ∀ e, e ∈ ([] : List Entry) → EOk P e := fun _ h => by cases h
theorem k_nil {P : Program} : ∀ e, e ∈ ([] : List KEntry) → KOk P e := fun _ h => by cases h
theorem e_cons {P : Program} {e : Entry} {l : List Entry} (h : EOk P e) (hl : ∀ e, e ∈ l → EOk P e) : ∀ e', e' ∈ e :: l → EOk P e' := fun e' he => by
  rcases List.mem_cons.1 he with rfl | he
  · exact h
  · exact hl e' he
theorem k_cons {P : Program} {e : KEntry} {l : List KEntry} (h : KOk P e) (hl : ∀ e, e ∈ l → KOk P e) : ∀ e', e' ∈ e :: l → KOk P e' := fun e' he => by
  rcases List.mem_cons.1 he with rfl | he
  · exact h
  · exact hl e' he
theorem leads_ev {l : List Entry} {ks : List KEntry} {L : Nat → Option LFun} {c : Code} {s s' : St} {e : Exit} {k : Kont} (hk : KSub k) (hl : ∀ e, e ∈ l → EOk Tryd.prog e) (hks : ∀ e, e ∈ ks → KOk Tryd.prog e) (hL : LOk Tryd.prog L c) (h : evC Tryd.prog l ks L c s k = some ⟨e, s', .any⟩) : Leads Tryd.prog c s e s' :=
  leads_ofK hk (tab_ok hl hks) (drawnK_ok (tab_ok hl hks) (by kernel_rfl)) hL h
theorem gspec {l : List Entry} {ks : List KEntry} {L : Nat → Option LFun} (hl : ∀ e, e ∈ l → EOk Tryd.prog e) (hks : ∀ e, e ∈ ks → KOk Tryd.prog e) {f : Nat} {fn : Func} (hf : Tryd.prog.funcs[f]? = some fn) (hnm : (fn.name == "runtime.NumGoroutine") = false) (hb : fn.body = some (bodyOf fn)) (hL : LOk Tryd.prog L (bodyOf fn))
    {args : List AV} (hlen : Nat.ble args.length fn.ntmps = true) {r : AV} (h : ev Tryd.prog l ks L fn args ret = some (Out.of r)) : FSpec Tryd.prog f args r := spec_of_ev hl hks (by kernel_rfl) hf hnm hb hL hlen h
def w64 (n : Int) : Int := IntKind.i64.wrap n
theorem w64_id {n : Int} (h0 : -9223372036854775808 ≤ n) (h1 : n ≤ 9223372036854775807) : w64 n = n := by unfold w64; rw [IntKind.wrap_i64]; omega
theorem dec_nonneg (n : Nat) : decide (0 ≤ (n : Int)) = true := decide_eq_true (Int.natCast_nonneg _)
theorem dec_lt {a b : Nat} (h : a < b) : decide ((a : Int) < (b : Int)) = true := decide_eq_true (by omega)
theorem dec_self (a : Nat) : decide ((a : Int) < (a : Int)) = false := decide_eq_false (by omega)
theorem w64_next {n : Nat} (h : n < 4611686018427387904) : w64 ((n : Int) + 1) = ((n + 1 : Nat) : Int) := by rw [w64_id (by omega) (by omega)]; omega
theorem w64_nat {n : Nat} (h : n ≤ 9223372036854775807) : w64 (n : Int) = (n : Int) := w64_id (by omega) (by omega)
/-- A whole number that came in. -/
theorem open_int {H : Type} {enc : TypeId × Value → H} {P : Program} {w : World} {r : Reach} {b0 : Nat} {t : TypeId} {v : Value} {d : DataW H} {p : List MemPlace} {k : IntKind} (hu : P.underlying t = some (.int k)) (hk : kds P 1 t = some [.i k]) (hv : Value.okWide P w r b0 t v)
    (h : DataW.Trod enc P w 0 (fun _ => true) true t v d p) : ∃ n, rel (Env.all w) (.x (.int k n)) v ∧ (Lit.int k n).wf = true := by
  have hone : v.cells = #[v] := by
    obtain ⟨n, rfl, _⟩ := okWide_int hu hv
    rfl
  obtain ⟨fuel, hf⟩ := h
  obtain ⟨a, h1, h2⟩ := open_arg hf hk hone
  rw [fitA] at h1
  obtain ⟨n, rfl, hw⟩ := h1
  exact ⟨n, h2, hw⟩
theorem Tryd.own : ownKnob Tryd.prog.godebug = none := by kernel_rfl
theorem Tryd.laidOut : laidOutB Tryd.prog = true := by kernel_rfl
end Go.Proofs.YthdobfifpkpbnaaDoor
