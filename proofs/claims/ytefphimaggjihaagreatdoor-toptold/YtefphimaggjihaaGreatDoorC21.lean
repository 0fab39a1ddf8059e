/-
  Gy Gyw Gyl Gyf Gyr Gya Gyx Gyz Gys, one behind the other.
-/
import Derived.Test.YtefphimaggjihaaGreatDoorC18
import Derived.Test.YtefphimaggjihaaGreatDoorC10
import Derived.Test.YtefphimaggjihaaGreatDoorC19
import Derived.Test.YtefphimaggjihaaGreatDoorC20
import Derived.Test.YtefphimaggjihaaGreatDoorC12
import Derived.Test.YtefphimaggjihaaGreatDoorC15
import Derived.Scope
namespace Go.Gv
/-- Where a loop is left by a return. -/
noncomputable def finR (keep : List Nat) (τ : List (Option Nat)) : Kont := fun e s => match e with
  | .ret => finF keep τ .ret s
  | _ => none
theorem finR_sub (keep : List Nat) (τ : List (Option Nat)) : KSub (finR keep τ) := fun e s o h => by
  unfold finR at h
  cases e <;> simp only at h <;> first | (cases h; done) | exact finF_sub keep τ _ s o h
end Go.Gv
namespace Go.Proofs.YtefphimaggjihaaGreatDoor
open Go.Gv

def yA (b : Int) : AV := .x (.int .u8 b)
/-- A row of whole numbers; of bytes. -/
def sI (n : Nat) (g : Nat → Int) : AV := .sl 1 n fun i => [iA (g i)]
def ixB (i : Int) (n : Nat) : Bool := decide (0 ≤ i) && decide (i < n)
theorem ixB_t {i n : Nat} (h : i < n) : ixB (i : Nat) n = true := by unfold ixB; rw [dec_nonneg, dec_lt h]; rfl
def isId (o : Option Nat) (i : Nat) : Bool := match o with | some k => Nat.beq k i | none => false
/-- The loop with this number is told. -/
theorem lok_at {P : Program} {c : Code} {i : Nat} {g : LFun} (j0 m : Nat) (hlen : (loopsOf c).length = m) (hno : ((List.range m).all fun j => Nat.beq j j0 || !(isId (firstId ((loopsOf c).getD j .skip)) i)) = true) (h : LSound P ((loopsOf c).getD j0 .skip) g) : LOk P (oneL i g) c :=
  lok_one m hlen fun j hj hid => by
    rw [List.all_eq_true] at hno
    have := hno j (List.mem_range.2 hj)
    rw [hid] at this
    simp [isId] at this
    subst this
    exact h
theorem lok_none {P : Program} {c : Code} (i : Nat) : LOk P (oneL i fun _ _ => none) c := by
  intro c' _ i' g' _ hg
  unfold oneL at hg
  cases hb : Nat.beq i' i
  · rw [hb] at hg; cases hg
  · rw [hb] at hg
    cases hg
    constructor
    · intro s k r hr; cases hr
    · intro s s' e' hk
      have := hk fun e s => some ⟨e, s, .any⟩
      cases this
/-- A contract that is asked for where it is used. -/
noncomputable def kS (P : Program) (f : Nat) (g : List AV → AV) : KEntry := ⟨f, fun args k => gate (FSpec P f args (g args)) (k (g args))⟩
theorem kS_ok {P : Program} {f : Nat} {g : List AV → AV} : KOk P (kS P f g) := by
  constructor
  · intro args k o ho
    simp only [kS] at ho ⊢
    obtain ⟨hp, ho⟩ := gate_some ho
    exact ⟨g args, ho, fun k' => by rw [gate_pos hp]⟩
  · intro args v hv
    have h1 := hv fun x => some (Out.of x)
    simp only [kS] at h1
    obtain ⟨hp, h1⟩ := gate_some h1
    simp only [Option.some.injEq, Out.of, Out.mk.injEq, true_and] at h1
    subst h1
    exact Or.inl hp
theorem gspecM {l : List Entry} {ks : List KEntry} {ms : List MEntry} {L : Nat → Option LFun} (hl : ∀ e, e ∈ l → EOk Tryz.prog e) (hks : ∀ e, e ∈ ks → KOk Tryz.prog e) (hms : ∀ e, e ∈ ms → MEOk Tryz.prog e) {f : Nat} {fn : Func} (hf : Tryz.prog.funcs[f]? = some fn) (hnm : (fn.name == "runtime.NumGoroutine") = false) (hb : fn.body = some (bodyOf fn)) (hL : LOk Tryz.prog L (bodyOf fn))
    {args : List AV} (hlen : Nat.ble args.length fn.ntmps = true) {r : AV} (h : evM Tryz.prog l ks ms L fn args ret = some (Out.of r)) : FSpec Tryz.prog f args r := spec_of_evM hl hks hms (by kernel_rfl) hf hnm hb hL hlen h
theorem m_nil {P : Program} : ∀ e, e ∈ ([] : List MEntry) → MEOk P e := fun _ h => by cases h
theorem m_cons {P : Program} {e : MEntry} {l : List MEntry} (h : MEOk P e) (hl : ∀ e, e ∈ l → MEOk P e) : ∀ e', e' ∈ e :: l → MEOk P e' := fun e' he => by
  rcases List.mem_cons.1 he with rfl | he
  · exact h
  · exact hl e' he
theorem FSpec.of_res {P : Program} {f : Nat} {args : List AV} {r r' : AV} (h : FSpec P f args r) (hr : ∀ (E : Env) (v : Value), rel E r v → rel E r' v) : FSpec P f args r' :=
  ⟨h.1, fun A w cargs hA ha hg => (h.2 A w cargs hA ha hg).mono fun _ _ ⟨v, h1, h2, h3⟩ => ⟨v, h1, hr _ _ h2, h3⟩⟩
theorem sl_like {E : Env} {sz n : Nat} {el el' : Nat → List AV} {v : Value} (h : rel E (.sl sz n el) v) (he : ∀ i, i < n → el' i = el i) : rel E (.sl sz n el') v := by
  have h : relA _ _ _ := h
  show relA _ _ _
  rw [relA] at h ⊢
  obtain ⟨a, c, h1, h2, h3⟩ := h
  refine ⟨a, c, h1, h2, ?_⟩
  rcases h3 with h3 | ⟨b, o, cs, e, fz, h4, h5, h6, h7⟩
  · exact Or.inl h3
  · exact Or.inr ⟨b, o, cs, e, fz, h4, h5, h6, fun i hi => by rw [he i hi]; exact h7 i hi⟩
/-- Append of one. -/
def apB (c sz : Nat) : Bool := (c == c) && Nat.ble ((c + 1) * sz) 140737488355328
theorem apB_t {c sz : Nat} (h : (c + 1) * sz ≤ 140737488355328) : apB c sz = true := by unfold apB; rw [BEq.rfl, Nat.ble_eq_true_of_le h]; rfl
theorem u8_id {n : Int} (h0 : 0 ≤ n) (h1 : n ≤ 255) : IntKind.u8.wrap n = n := by
  have e : IntKind.u8.wrap n = n % 256 := by
    unfold IntKind.wrap
    simp only [IntKind.bits, IntKind.signed, Bool.false_and]
    rfl
  rw [e]
  omega
end Go.Proofs.YtefphimaggjihaaGreatDoor

namespace Go.Proofs.YtefphimaggjihaaGreatDoor
open Go.Gv

theorem w_nil {P : Program} : ∀ e, e ∈ ([] : List WEntry) → WEOk P e := fun _ h => by cases h
theorem r_nil {P : Program} : ∀ e, e ∈ ([] : List REntry) → REOk P e := fun _ h => by cases h
theorem w_cons {P : Program} {e : WEntry} {l : List WEntry} (h : WEOk P e) (hl : ∀ e, e ∈ l → WEOk P e) : ∀ e', e' ∈ e :: l → WEOk P e' := fun e' he => by
  rcases List.mem_cons.1 he with rfl | he
  · exact h
  · exact hl e' he
section
variable {l : List Entry} {ks : List KEntry} {ms : List MEntry} {ws : List WEntry} {rs : List REntry} {L : Nat → Option LFun} (hl : ∀ e, e ∈ l → EOk Tryz.prog e) (hks : ∀ e, e ∈ ks → KOk Tryz.prog e) (hms : ∀ e, e ∈ ms → MEOk Tryz.prog e) (hws : ∀ e, e ∈ ws → WEOk Tryz.prog e) (hrs : ∀ e, e ∈ rs → REOk Tryz.prog e)
include hl hks hms hws hrs
theorem gspecGW {f : Nat} {fn : Func} (hf : Tryz.prog.funcs[f]? = some fn) (hnm : (fn.name == "runtime.NumGoroutine") = false) (hb : fn.body = some (bodyOf fn))
    {args : List AV} {mem : List Row} (hL : LOkN mem.length Tryz.prog L (bodyOf fn)) (hlen : Nat.ble args.length fn.ntmps = true) {τ : List (Option Nat)} (hpin : pinT mem.length τ = true) {v : AV} {mem1 : List Row} (h : evGW Tryz.prog l ks ms ws rs L fn args mem τ = gout v mem1) : GSpec Tryz.prog f args mem v mem1 :=
  gspec_of_body (tabW_ok hl hks hms hws hrs) (drawnK_ok (tabW_ok hl hks hms hws hrs) (by kernel_rfl)) 40 hf hnm hb hL hlen hpin h
end
end Go.Proofs.YtefphimaggjihaaGreatDoor

namespace Go.Gv
open Go.RowKit Go.Ev

/-- Rows that say no more, element by element. -/
def RowLike (row row' : Row) : Prop := row' = row ∨ (∃ e sz n el el', row = .a e sz n el ∧ row' = .a e sz n el' ∧ ∀ i, i < n → (el' i).length = (el i).length ∧ ∀ (E : Env) (cs : List Value), pre E (el i) cs → pre E (el' i) cs) ∨ ∃ l l', row = .c l ∧ row' = .c l' ∧ ∀ (E : Env) (cs : List Value), pre E l cs → pre E l' cs
def RowsLike : List Row → List Row → Prop
  | [], [] => True
  | r :: rs, r' :: rs' => RowLike r r' ∧ RowsLike rs rs'
  | _, _ => False
theorem RowsLike.get : ∀ {rs rs' : List Row}, RowsLike rs rs' → ∀ k : Nat, (rs[k]? = none ∧ rs'[k]? = none) ∨ ∃ r r', rs[k]? = some r ∧ rs'[k]? = some r' ∧ RowLike r r'
  | [], [], _, k => Or.inl ⟨by simp, by simp⟩
  | r :: rs, r' :: rs', h, k => by
    cases k with
    | zero => exact Or.inr ⟨r, r', rfl, rfl, h.1⟩
    | succ k => simpa using RowsLike.get h.2 k
  | [], _ :: _, h, _ => h.elim
  | _ :: _, [], h, _ => h.elim
theorem sub_like {np : Nat} {sl : List (AV × Chain)} {mem mem' : List Row} (h : RowsLike mem mem') : SubN np ⟨sl, mem⟩ ⟨sl, mem'⟩ := by
  intro A0 R w0 E a hp0 hI
  have lives : ∀ k, liveAt mem' k = liveAt mem k := fun k => by
    unfold liveAt
    rcases h.get k with ⟨h1, h2⟩ | ⟨r, r', h1, h2, h3⟩
    · rw [h1, h2]
    · rw [h1, h2]
      rcases h3 with rfl | ⟨e, sz, n, el, el', rfl, rfl, _⟩ | ⟨l, l', rfl, rfl, _⟩ <;> rfl
  refine ⟨E, rfl, hI.defers, hI.frame, ⟨fun k b c hb => ?_, hI.wd.small, hI.wd.old, fun k b c hb hl => hI.wd.own k b c hb (by rw [← lives]; exact hl), fun k k' b c c' hb hb' hl hl' => hI.wd.one k k' b c c' hb hb' (by rw [← lives]; exact hl) (by rw [← lives]; exact hl'), hI.wd.below, hI.wd.le0⟩⟩
  obtain ⟨row, h1, h2⟩ := hI.wd.rows k b c hb
  rcases h.get k with ⟨g1, _⟩ | ⟨r, r', g1, g2, g3⟩
  · have : mem[k]? = some row := h1
    rw [g1] at this; cases this
  · have : mem[k]? = some row := h1
    rw [g1] at this
    cases this
    refine ⟨r', g2, ?_⟩
    rcases g3 with rfl | ⟨e, sz, n, el, el', rfl, rfl, g4⟩ | ⟨l, l', rfl, rfl, g4⟩
    · exact h2
    · obtain ⟨cs, k1, k2, k3, k4, k5, k6⟩ := h2
      exact ⟨cs, k1, k2, k3, k4, k5, fun i hi => ⟨(g4 i hi).1.trans (k6 i hi).1, (g4 i hi).2 _ _ (k6 i hi).2⟩⟩
    · obtain ⟨cs, e, k1, k2⟩ := h2
      exact ⟨cs, e, k1, g4 _ _ k2⟩
end Go.Gv

namespace Go.Gv
open Go.RowKit Go.Ev
noncomputable section

theorem ixOf_none {l : List Nat} {k : Nat} (h : ixOf l k = none) : k ∉ l := fun hk => by
  unfold ixOf at h
  rw [List.findIdx?_eq_none_iff] at h
  have := h k hk
  simp at this
/-- Where the callee's rows lie among the caller's. -/
def putF (l : List Nat) (n : Nat) (i : Nat) : Option Nat := match l[i]? with
  | some k => some k
  | none => some (n + (i - l.length))
/-- The caller's rows behind the call. -/
structure MemF (l : List Nat) (mem mem1 mem' : List Row) : Prop where
  other : ∀ k, k ∉ l → k < mem.length → mem'[k]? = mem[k]?
  mine : ∀ (i k : Nat) (r : Row), l[i]? = some k → mem1[i]? = some r → mem'[k]? = some (renRow (putF l mem.length) r)
  fresh : ∀ (i : Nat) (r : Row), l.length ≤ i → mem1[i]? = some r → mem'[mem.length + (i - l.length)]? = some (renRow (putF l mem.length) r)
theorem wframe {P : Program} {f : Nat} {args args0 : List AV} {mem mem0 mem1 mem' : List Row} {v : AV} (h : GSpec P f args0 mem0 v mem1) (l : List Nat) (hl : l.length = mem0.length) (hnd : nodupB l = true)
    (hargs : args0 = renL (ixOf l) args) (hmem : ∀ (i k : Nat), l[i]? = some k → ∃ row, mem[k]? = some row ∧ row.live = true ∧ mem0[i]? = some (renRow (ixOf l) row)) (hF : MemF l mem mem1 mem') : WSpec P f args mem (renA (putF l mem.length) v) mem' := by
  refine ⟨h.1, fun A0 R w0 E cargs hW hgl hr => ?_⟩
  have dom : ∀ k p, E.O k = some p → k < mem.length := fun k p hp => by
    obtain ⟨row, h1, _⟩ := hW.rows k p.1 p.2 hp
    exact (List.getElem?_eq_some_iff.1 h1).1
  have lives : ∀ k, k ∈ l → liveAt mem k = true := fun k hk => by
    obtain ⟨i, hi⟩ := List.mem_iff_getElem?.1 hk
    obtain ⟨row, g1, g2, _⟩ := hmem i k hi
    unfold liveAt
    rw [g1]
    exact g2
  let O1 : Nat → Option (Nat × Nat × Nat) := fun i => (l[i]?).bind E.O
  let E1 : Env := { E with O := O1 }
  have hO1 : ∀ i b c, E1.O i = some (b, c) → ∃ k, l[i]? = some k ∧ E.O k = some (b, c) := fun i b c hi => by
    have hi : (l[i]?).bind E.O = some (b, c) := hi
    cases hx : l[i]? with
    | none => rw [hx] at hi; cases hi
    | some k => rw [hx] at hi; exact ⟨k, rfl, hi⟩
  have hO1' : ∀ (i k : Nat) (p : Nat × Nat × Nat), l[i]? = some k → E.O k = some p → O1 i = some p := fun i k p hi hp => by
    show (l[i]?).bind E.O = some p
    rw [hi]; exact hp
  have hσ : ∀ k i p, ixOf l k = some i → E.O k = some p → O1 i = some p := fun k i p hi hp => hO1' i k p (ixOf_some hi) hp
  let R1 : Nat → Prop := fun b => ∃ k c, k ∈ l ∧ E.O k = some (b, c)
  have hW1 : Wd E.A R1 E1 E1 mem0 := by
    refine ⟨fun i b c hi => ?_, hW.small, fun _ h => h, fun i b c hi _ => ?_, fun i j b c c' hi hj _ _ => ?_, BelowR.refl _ _, Env.le.refl _⟩
    · obtain ⟨k, h1, h2⟩ := hO1 i b c hi
      obtain ⟨row, g1, _, g2⟩ := hmem i k h1
      obtain ⟨row', g3, g4⟩ := hW.rows k b c h2
      rw [g1] at g3
      cases g3
      exact ⟨_, g2, renRow_rel hσ g4⟩
    · obtain ⟨k, h1, h2⟩ := hO1 i b c hi
      have hm := List.mem_of_getElem? h1
      exact ⟨(hW.own k b c h2 (lives k hm)).1, Or.inl ⟨k, c, hm, h2⟩⟩
    · obtain ⟨k, h1, h2⟩ := hO1 i b c hi
      obtain ⟨k', h3, h4⟩ := hO1 j b c' hj
      have := hW.one k k' b c c' h2 h4 (lives k (List.mem_of_getElem? h1)) (lives k' (List.mem_of_getElem? h3))
      subst this
      exact nodupB_get hnd i j k h1 h3
  have hpins : Pins mem0.length E1.A R1 E1 := by
    refine ⟨fun i hi => ?_, fun b hb => ?_, hW.small⟩
    · show (l[i]?).bind E.O = none
      rw [List.getElem?_eq_none (by omega)]; rfl
    · obtain ⟨k, c, hk, hO⟩ := hb
      obtain ⟨i, hi⟩ := List.mem_iff_getElem?.1 hk
      exact ⟨i, c, by have := (List.getElem?_eq_some_iff.1 hi).1; omega, hO1' i k _ hi hO⟩
  have hr1 : rels E1 args0 cargs.toList := by
    rw [hargs]
    exact relsA_ren args hσ _ hr
  refine (h.2 R1 E1 cargs hpins hW1 (glob_O hgl _) hr1).mono ?_
  rintro e w' ⟨u, E', rfl, rfl, hW2, hrel⟩
  have dom1 : ∀ i p, E'.O i = some p → ∃ r, mem1[i]? = some r := fun i p hp => by
    obtain ⟨row, h1, _⟩ := hW2.rows i p.1 p.2 hp
    exact ⟨row, h1⟩
  let O2 : Nat → Option (Nat × Nat × Nat) := fun k => match ixOf l k with
    | some i => E'.O i
    | none => if k < mem.length then E.O k else E'.O (l.length + (k - mem.length))
  let E2 : Env := { E' with O := O2 }
  have isIx : ∀ (i k : Nat), l[i]? = some k → ixOf l k = some i := fun i k hi => by
    cases hx : ixOf l k with
    | none => exact absurd (List.mem_of_getElem? hi) (ixOf_none hx)
    | some j => rw [nodupB_get hnd i j k hi (ixOf_some hx)]
  have hO2 : ∀ k p, E.O k = some p → E2.O k = some p := fun k p hp => by
    show (match ixOf l k with
      | some i => E'.O i
      | none => if k < mem.length then E.O k else E'.O (l.length + (k - mem.length))) = some p
    cases hx : ixOf l k with
    | none => rw [if_pos (dom k p hp)]; exact hp
    | some i => exact hW2.le0.own i p (hO1' i k p (ixOf_some hx) hp)
  /- what stands where, behind the call -/
  have hO2' : ∀ k p, E2.O k = some p → (k ∉ l ∧ k < mem.length ∧ E.O k = some p) ∨ ∃ i r, E'.O i = some p ∧ mem1[i]? = some r ∧ mem'[k]? = some (renRow (putF l mem.length) r) ∧ putF l mem.length i = some k := fun k p hp => by
    have hp : (match ixOf l k with
      | some i => E'.O i
      | none => if k < mem.length then E.O k else E'.O (l.length + (k - mem.length))) = some p := hp
    cases hx : ixOf l k with
    | some i =>
      rw [hx] at hp
      obtain ⟨r, hr⟩ := dom1 i p hp
      have hi := ixOf_some hx
      exact Or.inr ⟨i, r, hp, hr, hF.mine i k r hi hr, by unfold putF; rw [hi]⟩
    | none =>
      rw [hx] at hp
      by_cases hk : k < mem.length
      · simp only [if_pos hk] at hp
        exact Or.inl ⟨ixOf_none hx, hk, hp⟩
      · simp only [if_neg hk] at hp
        obtain ⟨r, hr⟩ := dom1 _ p hp
        have e : mem.length + (l.length + (k - mem.length) - l.length) = k := by omega
        have := hF.fresh _ r (Nat.le_add_right _ _) hr
        rw [e] at this
        exact Or.inr ⟨_, r, hp, hr, this, by unfold putF; rw [List.getElem?_eq_none (by omega)]; simp only; rw [e]⟩
  have hback : ∀ i k' p, putF l mem.length i = some k' → E'.O i = some p → O2 k' = some p := fun i k' p hi hp => by
    unfold putF at hi
    cases hx : l[i]? with
    | some k =>
      rw [hx] at hi
      simp only [Option.some.injEq] at hi
      subst hi
      show (match ixOf l k with
        | some i => E'.O i
        | none => if k < mem.length then E.O k else E'.O (l.length + (k - mem.length))) = some p
      rw [isIx i k hx]
      exact hp
    | none =>
      rw [hx] at hi
      simp only [Option.some.injEq] at hi
      have hil := List.getElem?_eq_none_iff.1 hx
      have hk : ixOf l k' = none := by
        cases hy : ixOf l k' with
        | none => rfl
        | some j =>
          obtain ⟨row, g1, _⟩ := hmem j k' (ixOf_some hy)
          have := (List.getElem?_eq_some_iff.1 g1).1
          omega
      show (match ixOf l k' with
        | some i => E'.O i
        | none => if k' < mem.length then E.O k' else E'.O (l.length + (k' - mem.length))) = some p
      rw [hk]
      simp only
      rw [if_neg (by omega), show l.length + (k' - mem.length) = i by omega]
      exact hp
  have hle : E.le E2 := ⟨hW2.le0.keep, hO2⟩
  have liv1 : ∀ (i k : Nat) (r : Row), mem1[i]? = some r → mem'[k]? = some (renRow (putF l mem.length) r) → liveAt mem' k = true → liveAt mem1 i = true := fun i k r h1 h2 h3 => by
    unfold liveAt at h3 ⊢
    rw [h2] at h3
    rw [h1]
    simp only [renRow_live] at h3
    exact h3
  have liv0 : ∀ k, k ∉ l → k < mem.length → liveAt mem' k = true → liveAt mem k = true := fun k h1 h2 h3 => by
    unfold liveAt at h3 ⊢
    rw [hF.other k h1 h2] at h3
    exact h3
  have cross : ∀ (k i : Nat) (b : Nat) (c c' : Nat × Nat), k ∉ l → E.O k = some (b, c) → liveAt mem k = true → E'.O i = some (b, c') → liveAt mem1 i = true → False := fun k i b c c' hk hb hlk ho hl1 => by
    rcases (hW2.own i b c' ho hl1).2 with ⟨k', c2, hk', hb'⟩ | g2
    · have := hW.one k k' b c c2 hb hb' hlk (lives k' hk')
      subst this
      exact hk hk'
    · have := hW.small b (hW.own k b c hb hlk).1
      have g2 : E.w.heap.size ≤ b := g2
      omega
  refine ⟨u, E2, rfl, rfl, hle, ⟨?_, hW2.small, fun b hb => hW2.old b (hW.old b hb), ?_, ?_, ?_, hW.le0.trans hle⟩, relA_ren v hback u hrel⟩
  · intro k b c hb
    rcases hO2' k _ hb with ⟨h1, h2, h3⟩ | ⟨i, r, h1, h2, h3, _⟩
    · obtain ⟨row, g3, g4⟩ := hW.rows k b c h3
      refine ⟨row, by rw [hF.other k h1 h2]; exact g3, rowRel_keep hle g4 fun hlv => ?_⟩
      have hlk : liveAt mem k = true := by unfold liveAt; rw [g3]; exact hlv
      refine hW2.below.block b (hW.small b (hW.own k b c h3 hlk).1) ?_
      rintro ⟨k', c', hk', hb'⟩
      have := hW.one k k' b c c' h3 hb' hlk (lives k' hk')
      subst this
      exact h1 hk'
    · obtain ⟨row', g3, g4⟩ := hW2.rows i b c h1
      have : row' = r := by
        have g3 : mem1[i]? = some row' := g3
        rw [h2] at g3
        cases g3
        rfl
      subst this
      exact ⟨_, h3, renRow_rel hback g4⟩
  · intro k b c hb hlv
    rcases hO2' k _ hb with ⟨h1, h2, h3⟩ | ⟨i, r, h1, h2, h3, _⟩
    · obtain ⟨g1, g2⟩ := hW.own k b c h3 (liv0 k h1 h2 hlv)
      exact ⟨hW2.old b g1, g2⟩
    · obtain ⟨g1, g2⟩ := hW2.own i b c h1 (liv1 i k r h2 h3 hlv)
      refine ⟨g1, ?_⟩
      rcases g2 with ⟨k', c', hk', hb'⟩ | g2
      · exact (hW.own k' b c' hb' (lives k' hk')).2
      · exact Or.inr (Nat.le_trans hW.below.size g2)
  · intro k k' b c c' hb hb' hlv hlv'
    rcases hO2' k _ hb with ⟨h1, h2, h3⟩ | ⟨i, r, h1, h2, h3, h4⟩
    · rcases hO2' k' _ hb' with ⟨g1, g2, g3⟩ | ⟨i', r', g1, g2, g3, _⟩
      · exact hW.one k k' b c c' h3 g3 (liv0 k h1 h2 hlv) (liv0 k' g1 g2 hlv')
      · exact (cross k i' b c c' h1 h3 (liv0 k h1 h2 hlv) g1 (liv1 i' k' r' g2 g3 hlv')).elim
    · rcases hO2' k' _ hb' with ⟨g1, g2, g3⟩ | ⟨i', r', g1, g2, g3, g4⟩
      · exact (cross k' i b c' c g1 g3 (liv0 k' g1 g2 hlv') h1 (liv1 i k r h2 h3 hlv)).elim
      · have := hW2.one i i' b c c' h1 g1 (liv1 i k r h2 h3 hlv) (liv1 i' k' r' g2 g3 hlv')
        subst this
        rw [h4] at g4
        cases g4
        rfl
  · refine ⟨hW2.below.os.trans hW.below.os, hW2.below.tape.trans hW.below.tape, hW2.below.output.trans hW.below.output, Nat.le_trans hW.below.size hW2.below.size, fun b hb hn => ?_⟩
    refine (hW2.below.block b (Nat.lt_of_lt_of_le hb hW.below.size) ?_).trans (hW.below.block b hb hn)
    rintro ⟨k, c, hk, hk2⟩
    rcases (hW.own k b c hk2 (lives k hk)).2 with h | h
    · exact hn h
    · omega
end
end Go.Gv

namespace Go.Gv
open Go.RowKit Go.Ev
noncomputable section

/-- A contract over all of our rows, asked for where it is used. -/
def wQ (P : Program) (f : Nat) (g : List AV → List Row → AV) (m : List AV → List Row → List Row) : WEntry := ⟨f, fun args mem => some (propB (WSpec P f args mem (g args mem) (m args mem)), g args mem, m args mem)⟩
theorem wQ_ok {P : Program} {f : Nat} {g : List AV → List Row → AV} {m : List AV → List Row → List Row} : WEOk P (wQ P f g m) := fun args mem v mem1 h => by
  have h : some (propB (WSpec P f args mem (g args mem) (m args mem)), g args mem, m args mem) = some (true, v, mem1) := h
  simp only [Option.some.injEq, Prod.mk.injEq] at h
  obtain ⟨h1, rfl, rfl⟩ := h
  exact propB_of h1
end
end Go.Gv

namespace Go.Gv
open Go.RowKit Go.Ev
noncomputable section

/-- In whatever order the operations are taken, what is known in the end is told by K. -/
def AnyS (P : Program) (T : Tab) (ops : Array Oper) (K : St → Prop) : Nat → Array Bool → St → Prop
  | 0, listed, s => Region.ready .any ops listed = [] ∧ K s
  | fuel + 1, listed, s => (Region.ready .any ops listed = [] → K s) ∧ ∀ i, i ∈ Region.ready .any ops listed → ∃ o s1, ops[i]? = some o ∧ AStep P T ops.toList s o s1 ∧ AnyS P T ops K fuel (listed.setIfInBounds i true) s1
section
variable {P : Program} {T : Tab} {ops : Array Oper} {Q : Exit → Act → World → Prop} {A0 R : Nat → Prop} {w0 : Env}
theorem any_wp (hT : TOk P T) {K : St → Prop} (hQ : ∀ (E : Env) (a : Act) (s' : St), K s' → Inv A0 R w0 E s' a → Q .normal a E.w) : ∀ (fuel : Nat) (listed : Array Bool) (E : Env) (s : St) (a : Act), Inv A0 R w0 E s a → AnyS P T ops K fuel listed s → wpAny P .any ops Q fuel listed a E.w
  | 0, listed, E, s, a, hI, h => ⟨h.1, hQ E a s h.2 hI⟩
  | fuel + 1, listed, E, s, a, hI, h => by
    refine ⟨fun h0 => hQ E a s (h.1 h0) hI, fun i hi => ?_⟩
    obtain ⟨o, s1, ho, hs, h4⟩ := h.2 i hi
    have go : ∀ K' : Act → World → Prop, (∀ E' a', Inv A0 R w0 E' s1 a' → K' a' E'.w) → if Region.wanted o (yielded ops a.tmps) then o.wp P a E.w K' Q else K' (a.put o.dst undef) E.w := fun K' hK => by
      rcases hs with (⟨v, mem1, h1, h2, rfl⟩ | ⟨v, rows, h1, h2, rfl⟩ | ⟨g, c, v, h1, h2, h3, h5, rfl⟩ | ⟨b, c, eff, h1, h2, h3, rfl⟩) | ⟨b, c, eff, h1, h2, h3⟩
      · exact wstep_wp hT hI h1 h2 K' hK
      · exact nstep_wp hT hI h1 h2 K' hK
      · exact lstep_wp hT hI h1 h2 h3 h5 K' hK
      · exact astep_wp hT.flat hI h1 h2 h3 K' hK
      · exact fstep_wp hT hI h1 h2 h3 K' hK
    have g := go (wpAny P .any ops Q fuel (listed.setIfInBounds i true)) fun E' a' hI' => any_wp hT hQ fuel _ E' s1 a' hI' h4
    unfold wpOp
    rw [ho]
    simp only
    split
    · rename_i hw
      rw [if_pos hw] at g
      exact Or.inl g
    · rename_i hw
      rw [if_neg hw] at g
      exact g
end
theorem Inv.drew {A0 R : Nat → Prop} {w0 : Env} {E : Env} {s : St} {a : Act} (hI : Inv A0 R w0 E s a) : Inv A0 R w0 { E with w := E.w.drew } s a := by
  obtain ⟨hwd, hle⟩ := hI.wd.on (w' := E.w.drew) (Below.refl _ _).drew
  exact ⟨hI.defers, frel_le hle hI.frame, hwd⟩
/-- A region that draws its order leads from what is known to what is known. -/
def RegOk (P : Program) (ops : Array Oper) (s0 s1 : St) : Prop := ∀ (A0 R : Nat → Prop) (w0 : Env) (E : Env) (a : Act) (id : Nat) (Q : Exit → Act → World → Prop), Inv A0 R w0 E s0 a → (∀ E' a', Inv A0 R w0 E' (clr s1) a' → Q .normal a' E'.w) → (Code.region id ops true).wp P Q a E.w
theorem reg_any {P : Program} {T : Tab} {ops : Array Oper} {s s1 : St} (hT : TOk P T) (hm : P.follows .mixedOrders = true) (h : AnyS P T ops (fun s' => clr s' = clr s1) ops.size (Array.replicate ops.size false) s) : RegOk P ops s s1 := fun A0 R w0 E a id Q hI hQ => by
  refine wp_region_any hm ?_
  refine any_wp (w0 := w0) (A0 := A0) (R := R) hT (fun E' a' s' hs hI' => ?_) ops.size _ { E with w := E.w.drew } s a hI.drew h
  refine hQ E' a' ?_
  rw [← hs]
  exact hI'.clear
/-- One step, out of an evaluation. -/
theorem astep_of {P : Program} {T : Tab} {ops : List Oper} {o : Oper} {s s1 : St} (hT : TPar T) (h : aopsK P T ops [o] s (fun s' => some ⟨.normal, s', .any⟩) = some ⟨.normal, s1, .any⟩) : AStep P T ops s o s1 := by
  obtain ⟨s', ⟨s2, h1, h2⟩, h3, _⟩ := aopsK_some hT h
  have e : s2 = s' := h2
  subst e
  simp only [Option.some.injEq, Out.mk.injEq, and_true, true_and] at h3
  subst h3
  exact h1
def fstD (ops : List Oper) : Option Nat := match ops with
  | o :: _ => o.dst
  | [] => none
def toldD (d : Nat) (ops0 : List Oper) (s0 s1 : St) (D : List Oper → St → SK → Option Out) : List Oper → St → SK → Option Out := fun ops s k => match fstD ops with
  | some d' => cond (Nat.beq d' d) (gate (ops = ops0 ∧ s = s0) (k s1)) (D ops s k)
  | none => D ops s k
theorem toldD_ok {P : Program} {d : Nat} {ops0 : Array Oper} {s0 s1 : St} {D : List Oper → St → SK → Option Out} (hD : DOk P D) (h : RegOk P ops0 s0 s1) : DOk P (toldD d ops0.toList s0 s1 D) := by
  have get : ∀ {ops s k r}, toldD d ops0.toList s0 s1 D ops s k = some r → (D ops s k = some r ∧ ∀ k', toldD d ops0.toList s0 s1 D ops s k' = D ops s k') ∨ (ops = ops0.toList ∧ s = s0 ∧ k s1 = some r ∧ ∀ k', toldD d ops0.toList s0 s1 D ops s k' = k' s1) := fun {ops s k r} hr => by
    unfold toldD at hr ⊢
    split at hr
    · rename_i d' hd
      cases hb : Nat.beq d' d
      · rw [hb] at hr
        exact Or.inl ⟨hr, fun k' => by simp only [cond_false]⟩
      · rw [hb] at hr
        obtain ⟨⟨g1, g2⟩, g3⟩ := gate_some hr
        exact Or.inr ⟨g1, g2, g3, fun k' => by simp only [cond_true]; rw [gate_pos ⟨g1, g2⟩]⟩
    · exact Or.inl ⟨hr, fun k' => rfl⟩
  constructor
  · intro ops s k r hr
    rcases get hr with ⟨g1, g2⟩ | ⟨_, _, g3, g4⟩
    · obtain ⟨s', h1, h2⟩ := hD.1 ops s k r g1
      exact ⟨s', h1, fun k' => by rw [g2]; exact h2 k'⟩
    · exact ⟨s1, g3, g4⟩
  · intro A0 R w0 E s s' a id ops Q hI hk hQ
    have h0 := hk fun s => some ⟨.normal, s, .any⟩
    rcases get h0 with ⟨_, g2⟩ | ⟨g1, g2, g3, _⟩
    · exact hD.2 A0 R w0 E s s' a id ops Q hI (fun k' => by rw [← g2]; exact hk k') hQ
    · simp only [Option.some.injEq, Out.mk.injEq, and_true, true_and] at g3
      subst g3
      have e : ops = ops0 := Array.toList_inj.1 g1
      subst e g2
      exact h A0 R w0 E a id Q hI hQ
end
end Go.Gv

namespace Go.Gv
open Go.RowKit Go.Ev
noncomputable section

/-- The operations that must be done ahead of one. -/
def depsOf (ops : Array Oper) (i : Nat) : List Nat := match ops[i]? with
  | some o => (o.after.toList.filter fun e => Region.binds .any e).map (·.on)
  | none => []
theorem ready_in {ops : Array Oper} {listed : Array Bool} {i : Nat} (h : i ∈ Region.ready .any ops listed) (hs : listed.size = ops.size) : i < ops.size ∧ listed.toList[i]? = some false ∧ ∀ d, d ∈ depsOf ops i → listed.toList[d]? = some true := by
  unfold Region.ready at h
  obtain ⟨h1, h2⟩ := List.mem_filter.1 h
  have hi : i < ops.size := List.mem_range.1 h1
  simp only [Bool.and_eq_true, Bool.not_eq_true'] at h2
  obtain ⟨h3, h4⟩ := h2
  have hil : i < listed.size := by omega
  refine ⟨hi, ?_, fun d hd => ?_⟩
  · rw [Array.getElem?_toList, Array.getElem?_eq_getElem hil]
    simpa [Array.getD, hil] using h3
  · unfold depsOf at hd
    rw [Array.getElem?_eq_getElem hi] at hd h4
    simp only [Option.map_some, Option.getD_some] at h4
    obtain ⟨e, he, rfl⟩ := List.mem_map.1 hd
    obtain ⟨he1, he2⟩ := List.mem_filter.1 he
    have := Array.all_eq_true'.1 h4 e (by simpa using he1)
    rw [he2] at this
    simp only [Bool.not_true, Bool.false_or] at this
    by_cases hl : e.on < listed.size
    · rw [Array.getElem?_toList, Array.getElem?_eq_getElem hl]
      simpa [Array.getD, hl] using this
    · simp [Array.getD, hl] at this
theorem ready_least {ops : Array Oper} {listed : Array Bool} (hs : listed.size = ops.size) (hlow : ∀ i, i < ops.size → ∀ d, d ∈ depsOf ops i → d < i) (h : Region.ready .any ops listed = []) : ∀ i, i < ops.size → listed.toList[i]? = some true := by
  intro i
  induction i using Nat.strongRecOn with
  | ind i ih =>
    intro hi
    have hil : i < listed.size := by omega
    rw [Array.getElem?_toList, Array.getElem?_eq_getElem hil]
    cases hb : listed[i] with
    | true => rfl
    | false =>
      have hm : i ∈ Region.ready .any ops listed := by
        unfold Region.ready
        refine List.mem_filter.2 ⟨List.mem_range.2 hi, ?_⟩
        simp only [Bool.and_eq_true, Bool.not_eq_true']
        refine ⟨by simp [Array.getD, hil, hb], ?_⟩
        rw [Array.getElem?_eq_getElem hi]
        simp only [Option.map_some, Option.getD_some]
        refine Array.all_eq_true'.2 fun e he => ?_
        cases hbd : Region.binds .any e
        · rfl
        · have hd : e.on ∈ depsOf ops i := by
            unfold depsOf
            rw [Array.getElem?_eq_getElem hi]
            exact List.mem_map.2 ⟨e, List.mem_filter.2 ⟨by simpa using he, hbd⟩, rfl⟩
          have hlt := hlow i hi _ hd
          have := ih e.on hlt (by omega)
          rw [Array.getElem?_toList, Array.getElem?_eq_getElem (by omega)] at this
          simp only [Option.some.injEq] at this
          simp [Array.getD, show e.on < listed.size by omega, this]
      rw [h] at hm
      cases hm
theorem anyS_fun {P : Program} {T : Tab} {ops : Array Oper} {K : St → Prop} (st : List Bool → St) (hlow : ∀ i, i < ops.size → ∀ d, d ∈ depsOf ops i → d < i)
    (hstep : ∀ (bs : List Bool) (i : Nat), bs.length = ops.size → i < ops.size → bs[i]? = some false → (∀ d, d ∈ depsOf ops i → bs[d]? = some true) → ∃ o, ops[i]? = some o ∧ AStep P T ops.toList (st bs) o (st (bs.set i true)))
    (hend : K (st (List.replicate ops.size true))) : ∀ (fuel : Nat) (listed : Array Bool), listed.size = ops.size → listed.toList.count false ≤ fuel → AnyS P T ops K fuel listed (st listed.toList) := by
  have done : ∀ listed : Array Bool, listed.size = ops.size → (∀ i, i < ops.size → listed.toList[i]? = some true) → listed.toList = List.replicate ops.size true := fun listed hs h => by
    apply List.ext_getElem?
    intro i
    by_cases hi : i < ops.size
    · rw [h i hi, List.getElem?_replicate, if_pos hi]
    · rw [List.getElem?_eq_none (by simp; omega), List.getElem?_eq_none (by simp; omega)]
  intro fuel
  induction fuel with
  | zero =>
    intro listed hs hc
    have hall : ∀ i, i < ops.size → listed.toList[i]? = some true := fun i hi => by
      rw [List.getElem?_eq_getElem (by simp; omega)]
      cases hb : listed.toList[i]'(by simp; omega) with
      | true => rfl
      | false =>
        have : false ∈ listed.toList := by rw [← hb]; exact List.getElem_mem _
        have := List.count_pos_iff.2 this
        omega
    refine ⟨?_, by rw [done listed hs hall]; exact hend⟩
    cases hr : Region.ready .any ops listed with
    | nil => rfl
    | cons i r =>
      obtain ⟨h1, h2, _⟩ := ready_in (i := i) (by rw [hr]; simp) hs
      rw [hall i h1] at h2
      cases h2
  | succ fuel ih =>
    intro listed hs hc
    refine ⟨fun h0 => by rw [done listed hs (ready_least hs hlow h0)]; exact hend, fun i hi => ?_⟩
    obtain ⟨h1, h2, h3⟩ := ready_in hi hs
    obtain ⟨o, ho, hA⟩ := hstep listed.toList i (by simpa using hs) h1 h2 h3
    have e : (listed.setIfInBounds i true).toList = listed.toList.set i true := by simp
    refine ⟨o, _, ho, hA, ?_⟩
    rw [← e]
    refine ih _ (by simpa using hs) ?_
    rw [e]
    have hl : i < listed.toList.length := by simpa [hs] using h1
    have hb : listed.toList[i] = false := by rw [List.getElem?_eq_getElem hl] at h2; simpa using h2
    have hp : 0 < listed.toList.count false := List.count_pos_iff.2 (by rw [← hb]; exact List.getElem_mem hl)
    rw [List.count_set hl, hb]
    show listed.toList.count false - 1 + 0 ≤ fuel
    omega
end
end Go.Gv

namespace Go.Gv
open Go.RowKit Go.Ev
noncomputable section
end
end Go.Gv

namespace Go.Gv
open Go.RowKit Go.Ev
theorem finX_subN {np : Nat} (keep : List Nat) {τ : List (Option Nat)} (hp : pinT np τ = true) : KSubN np (finX keep τ) := fun e s o h => by
  unfold finX at h
  cases e <;> simp only at h <;> first | (cases h; done) | exact finF_subN keep hp _ s o h
/-- From the label on it goes from state to state, then out. -/
theorem scope_rule {np : Nat} {P : Program} {c rest : Code} {l : Nat} (hf : findLabel c l = some rest) {s sf : St} {e : Exit} (he : ∀ l', e ≠ .goto l') (S : Nat → St) (n : Nat) (h0 : LeadsN np P c s (.goto l) (S 0)) (hk : ∀ j, j < n → LeadsN np P rest (S j) (.goto l) (S (j + 1))) (hn : LeadsN np P rest (S n) e sf) : LeadsN np P (.scope c) s e sf := fun A0 R w0 E a hp hI => by
  intro b k cs
  have hg : gotoIn l (.inScope c :: k) = some (.code rest :: .inScope c :: k) := by simp [gotoIn, hf]
  have key : ∀ m j, j + m = n → ∀ (E : Env) (a : Act), Inv A0 R w0 E (S j) a → ∃ e' a' w', (e' = e ∧ ∃ E', E'.w = w' ∧ Inv A0 R w0 E' sf a') ∧ Arrives P (lone (b.at a (.code rest :: .inScope c :: k)) cs E.w) b k cs e' a' w' := by
    intro m
    induction m with
    | zero =>
      intro j hj E a hI
      obtain rfl : j = n := by omega
      obtain ⟨e', a₁, w₁, ⟨rfl, hq⟩, harr⟩ := hn A0 R w0 E a hp hI b (.inScope c :: k) cs
      cases e' with
      | normal => exact ⟨.normal, a₁, w₁, ⟨rfl, hq⟩, Steps.trans harr (.one step_inScope)⟩
      | exit id => exact ⟨.exit id, a₁, w₁, ⟨rfl, hq⟩, fun k' hk => harr k' (by simp [exitTo, hk])⟩
      | goto l' => exact absurd rfl (he l')
      | ret => exact ⟨_, a₁, w₁, ⟨rfl, hq⟩, harr⟩
      | panic ch => exact ⟨_, a₁, w₁, ⟨rfl, hq⟩, harr⟩
      | outgrown => exact ⟨_, a₁, w₁, ⟨rfl, hq⟩, harr⟩
    | succ m ih =>
      intro j hj E a hI
      obtain ⟨e', a₁, w₁, ⟨rfl, E', rfl, hI'⟩, harr⟩ := hk j (by omega) A0 R w0 E a hp hI b (.inScope c :: k) cs
      obtain ⟨e₂, a₂, w₂, hq₂, harr₂⟩ := ih (j + 1) (by omega) E' a₁ hI'
      exact ⟨e₂, a₂, w₂, hq₂, .of_steps (harr _ hg) harr₂⟩
  obtain ⟨e', a₁, w₁, ⟨rfl, E', rfl, hI'⟩, harr⟩ := h0 A0 R w0 E a hp hI b (.inScope c :: k) cs
  obtain ⟨e₂, a₂, w₂, hq₂, harr₂⟩ := key n 0 (by omega) E' a₁ hI'
  exact ⟨e₂, a₂, w₂, hq₂, .of_steps (.head step_scope (harr _ hg)) harr₂⟩
theorem gspec_of_leads {P : Program} {f : Nat} {fn : Func} (hf : P.funcs[f]? = some fn) (hnm : (fn.name == "runtime.NumGoroutine") = false) {c : Code} (hb : fn.body = some c) {args : List AV} {mem : List Row} (hlen : Nat.ble args.length fn.ntmps = true) {τ : List (Option Nat)} (hpin : pinT mem.length τ = true) {sf : St} {v : AV} {mem1 : List Row}
    (hL : LeadsN mem.length P c (start fn mem args) .normal sf) (hout : outG P fn τ sf = some ⟨.normal, ⟨[], mem1⟩, v⟩) : GSpec P f args mem v mem1 := by
  refine ⟨⟨fn, hf, hnm, by rw [hb]; rfl⟩, fun R E cargs hp hW hg hv => ?_⟩
  have hlen' : args.length ≤ fn.ntmps := Nat.le_of_ble_eq_true hlen
  refine calls_of_wp hf hb ?_
  have hI : Inv E.A R E E (start fn mem args) { tmps := cargs ++ Array.replicate (fn.ntmps - cargs.size) undef, defers := [] } := ⟨rfl, start_frel hg hv hlen', hW⟩
  refine Go.Code.wp_mono ?_ (hL E.A R E E _ hp hI)
  rintro e a' w' ⟨rfl, E', rfl, hI'⟩
  obtain ⟨u, E2, h1, h2, h3, h4⟩ := outG_run hpin hp hI' hout
  exact ⟨hI'.defers, u, h1, u, E2, rfl, h2, h3, h4⟩
end Go.Gv
