/-
  Tables of contracts; the square root; and how a law's statement follows from what its text gives.
-/
import Derived.Test.YtbmggfmifopddaaEv6d
import Derived.Laws.Externs
namespace Go.Ev
open Go.RowKit

def noPtrs (args : List Value) : Bool := args.all fun v => noPtr v && okArg v

theorem vrows_noPtr [Tok] {bs bs' : List Nat} : ∀ {xs vs : List Value}, noPtrs xs = true → vrows bs xs vs → vrows bs' xs vs
  | [], [], _, _ => trivial
  | x :: xs, v :: vs, hn, h => by
    simp only [noPtrs, List.all_cons, Bool.and_eq_true] at hn
    exact ⟨vrel_of_arel (arel_noPtr hn.1.1 hn.1.2 h.1), vrows_noPtr (by simpa [noPtrs] using hn.2) h.2⟩
  | [], _ :: _, _, h => h.elim
  | _ :: _, [], _, h => h.elim

/-- What is proved over no memory holds over any, where no address goes in. -/
theorem FSpec.any [Tok] {P : Program} {f : Nat} {args : List Value} {r : Value} (h : FSpec P f [] args r) (hn : noPtrs args = true) (mem : List (List Value)) : FSpec P f mem args r := by
  refine ⟨h.1, fun bs w cargs _ hv => ?_⟩
  refine (h.2 [] w cargs ⟨rfl, fun i b cells hb => by simp at hb⟩ (vrows_noPtr hn hv)).mono ?_
  rintro e w' ⟨v, he, hr, hb⟩
  exact ⟨v, he, by simpa using vrel_more bs hr, hb⟩

abbrev Entry := Nat × (List (List Value) → List Value → Option Value)

abbrev MEntry := Nat × (List Value → List Value → Option Value)

def tab2 (l : List Entry) (m : List MEntry) : Tab where
  f := fun f mem args => match l.lookup f with
    | some g => g mem args
    | none => none
  m := fun f cells args => match m.lookup f with
    | some g => g cells args
    | none => none
  k := fun _ => none
abbrev tab (l : List Entry) : Tab := tab2 l []

/-- One entry of a table. -/
def EOk [Tok] (P : Program) (e : Entry) : Prop := ∀ mem args r, e.2 mem args = some r → FSpec P e.1 mem args r ∨ XSpec P e.1 args r
/-- The same over memory that begins with these rows. -/
def EOkH [Tok] (P : Program) (hd : List (List Value)) (e : Entry) : Prop := ∀ mem args r, Pre hd mem → e.2 mem args = some r → FSpec P e.1 mem args r ∨ XSpec P e.1 args r
theorem EOk.over [Tok] {P : Program} {e : Entry} (h : EOk P e) (hd : List (List Value)) : EOkH P hd e := fun mem args r _ hr => h mem args r hr

/-- An entry that asks nothing of memory. -/
def pe (g : List Value → Option Value) : List (List Value) → List Value → Option Value := fun _ args => cond (noPtrs args) (g args) none

theorem pe_ok [Tok] {P : Program} {f : Nat} {g : List Value → Option Value} (h : ∀ args r, g args = some r → FSpec P f [] args r ∨ XSpec P f args r) : EOk P (f, pe g) := by
  intro mem args r hr
  simp only [pe] at hr
  cases hn : noPtrs args
  · rw [hn] at hr; cases hr
  · rw [hn] at hr
    simp only [cond_true] at hr
    rcases h args r hr with h1 | h1
    · exact Or.inl (h1.any hn mem)
    · exact Or.inr h1

theorem lookup_mem {f : Nat} {g : List (List Value) → List Value → Option Value} : ∀ {l : List Entry}, l.lookup f = some g → (f, g) ∈ l
  | [], h => by simp at h
  | (k, g') :: l, h => by
    rw [List.lookup_cons] at h
    split at h
    · rename_i hk
      have : f = k := by simpa using hk
      cases h; subst this; simp
    · exact List.mem_cons_of_mem _ (lookup_mem h)

/-- One entry of the second kind. -/
def MOk [Tok] (P : Program) (e : MEntry) : Prop := ∀ cells args r, e.2 cells args = some r → MSpec P e.1 cells args r

theorem lookup_mem2 {f : Nat} {g : List Value → List Value → Option Value} : ∀ {l : List MEntry}, l.lookup f = some g → (f, g) ∈ l
  | [], h => by simp at h
  | (k, g') :: l, h => by
    rw [List.lookup_cons] at h
    split at h
    · rename_i hk
      have : f = k := by simpa using hk
      cases h; subst this; simp
    · exact List.mem_cons_of_mem _ (lookup_mem2 h)

theorem tab2_okH [Tok] {P : Program} {hd : List (List Value)} {l : List Entry} {m : List MEntry} (h : ∀ e, e ∈ l → EOkH P hd e) (h2 : ∀ e, e ∈ m → MOk P e) : TOk P (tab2 l m) hd := by
  refine ⟨?_, ?_, fun f g hg => by cases hg⟩
  · intro f mem args r hp ht
    unfold tab2 at ht
    simp only at ht
    split at ht
    · rename_i g hg
      exact h (f, g) (lookup_mem hg) mem args r hp ht
    · cases ht
  · intro f cells args r ht
    unfold tab2 at ht
    simp only at ht
    split at ht
    · rename_i g hg
      exact h2 (f, g) (lookup_mem2 hg) cells args r ht
    · cases ht
theorem tab2_ok [Tok] {P : Program} {l : List Entry} {m : List MEntry} (h : ∀ e, e ∈ l → EOk P e) (h2 : ∀ e, e ∈ m → MOk P e) : TOk P (tab2 l m) [] := tab2_okH (fun e he => (h e he).over []) h2
theorem tab_ok [Tok] {P : Program} {l : List Entry} (h : ∀ e, e ∈ l → EOk P e) : TOk P (tab l) [] := tab2_ok h (fun e he => by cases he)

/-- What a function's text gives over a table of contracts. -/
def ev [Tok] (P : Program) (L : List Entry) (fn : Func) (args : List Value) : Option Value := abody P (tab L) (drawnM P (tab L)) 40 fn [] args

theorem spec_of_ev [Tok] {P : Program} (hm : P.follows .mixedOrders = true) {L : List Entry} (hL : ∀ e, e ∈ L → EOk P e) {f : Nat} {fn : Func} (hf : P.funcs[f]? = some fn) (hnm : (fn.name == "runtime.NumGoroutine") = false) {args : List Value}
    (hlen : Nat.ble args.length fn.ntmps = true) {r : Value} (h : ev P L fn args = some r) : FSpec P f [] args r :=
  spec_of_body (tab_ok hL) (drawnM_ok (tab_ok hL) hm) 40 hf hnm (Pre.nil _) hlen h

/-! ### With calls that write one block -/
def ev2 [Tok] (P : Program) (L : List Entry) (M : List MEntry) (fn : Func) (args : List Value) : Option Value := abody P (tab2 L M) (drawnM P (tab2 L M)) 40 fn [] args
theorem spec_of_ev2 [Tok] {P : Program} (hm : P.follows .mixedOrders = true) {L : List Entry} {M : List MEntry} (hL : ∀ e, e ∈ L → EOk P e) (hM : ∀ e, e ∈ M → MOk P e) {f : Nat} {fn : Func} (hf : P.funcs[f]? = some fn) (hnm : (fn.name == "runtime.NumGoroutine") = false) {args : List Value}
    (hlen : Nat.ble args.length fn.ntmps = true) {r : Value} (h : ev2 P L M fn args = some r) : FSpec P f [] args r :=
  spec_of_body (tab2_ok hL hM) (drawnM_ok (tab2_ok hL hM) hm) 40 hf hnm (Pre.nil _) hlen h
def evM [Tok] (P : Program) (L : List Entry) (fn : Func) (cells args : List Value) : Option Value := abodyM P (tab L) (drawnM P (tab L)) 40 fn cells args
theorem mspec_of_ev [Tok] {P : Program} (hm : P.follows .mixedOrders = true) {L : List Entry} (hL : ∀ e, e ∈ L → EOk P e) {f : Nat} {fn : Func} (hf : P.funcs[f]? = some fn) (hnm : (fn.name == "runtime.NumGoroutine") = false) {cells args : List Value}
    (hlen : Nat.ble args.length fn.ntmps = true) {r : Value} (h : evM P L fn cells args = some r) : MSpec P f cells args r :=
  mspec_of_body (tab_ok hL) (drawnM_ok (tab_ok hL) hm) 40 hf hnm hlen h

/-! ### Over memory that begins with rows that are known -/
def evH [Tok] (P : Program) (hd : List (List Value)) (L : List Entry) (fn : Func) (args : List Value) : Option Value := abody P (tab L) (drawnM P (tab L)) 40 fn hd args
theorem spec_of_evH [Tok] {P : Program} (hm : P.follows .mixedOrders = true) {hd : List (List Value)} {L : List Entry} (hL : ∀ e, e ∈ L → EOkH P hd e) {f : Nat} {fn : Func} (hf : P.funcs[f]? = some fn) (hnm : (fn.name == "runtime.NumGoroutine") = false) {args : List Value}
    (hlen : Nat.ble args.length fn.ntmps = true) {r : Value} (h : evH P hd L fn args = some r) : FSpec P f hd args r :=
  spec_of_body (tab2_okH hL (fun e he => by cases he)) (drawnM_ok (tab2_okH hL (fun e he => by cases he)) hm) 40 hf hnm (Pre.self _) hlen h
/-- What is proved over some rows holds over more. -/
theorem FSpec.weak [Tok] {P : Program} {f : Nat} {mem0 : List (List Value)} {args : List Value} {r : Value} (h : FSpec P f mem0 args r) (hn : (mem0.all fun c => c.all noPtr1) = true) (hb : args.all (belowN mem0.length) = true) {mem : List (List Value)} (hp : Pre mem0 mem) : FSpec P f mem args r := by
  obtain ⟨rest, rfl⟩ := hp
  refine ⟨h.1, fun bs w cargs hm hv => ?_⟩
  have hl := hm.1
  simp only [List.length_append] at hl
  have hbs : bs = bs.take mem0.length ++ bs.drop mem0.length := (List.take_append_drop _ _).symm
  have hl0 : (bs.take mem0.length).length = mem0.length := by simp; omega
  have hm0 : MemRel (bs.take mem0.length) mem0 w := by
    refine ⟨hl0, fun i b cells h1 h2 => ?_⟩
    have hi : i < mem0.length := (List.getElem?_eq_some_iff.1 h2).1
    have h1' : bs[i]? = some b := by rw [List.getElem?_take, if_pos hi] at h1; exact h1
    obtain ⟨h3, cs, e, fz, h4, h5⟩ := hm.2 i b cells h1' (by rw [List.getElem?_append_left hi]; exact h2)
    exact ⟨h3, cs, e, fz, h4, rowpre_noPtr (List.all_eq_true.1 hn _ (List.mem_of_getElem? h2)) h5⟩
  have hv0 : vrows (bs.take mem0.length) args cargs.toList := by
    rw [hbs] at hv
    exact vrows_below hv (by rw [hl0]; exact hb)
  refine (h.2 (bs.take mem0.length) w cargs hm0 hv0).mono ?_
  rintro e w' ⟨v, he, hr, hbl⟩
  exact ⟨v, he, by rw [hbs]; exact vrel_more _ hr, hbl⟩

/-- A function whose text is gone through at each call. -/
def inl [Tok] (P : Program) (L : List Entry) (fn : Func) : List (List Value) → List Value → Option Value := fun mem args => cond (Nat.ble args.length fn.ntmps) (abody P (tab L) (drawnM P (tab L)) 40 fn mem args) none

theorem inl_ok [Tok] {P : Program} (hm : P.follows .mixedOrders = true) {L : List Entry} (hL : ∀ e, e ∈ L → EOk P e) {f : Nat} {fn : Func} (hf : P.funcs[f]? = some fn) (hnm : (fn.name == "runtime.NumGoroutine") = false) : EOk P (f, inl P L fn) := by
  intro mem args r hr
  simp only [inl] at hr
  cases hn : Nat.ble args.length fn.ntmps
  · rw [hn] at hr; cases hr
  · rw [hn] at hr
    exact Or.inl (spec_of_body (tab_ok hL) (drawnM_ok (tab_ok hL) hm) 40 hf hnm (Pre.nil _) hn hr)

/-! ### Entries that go on by cases -/
abbrev KEntry := Nat × (List (List Value) → List Value → (Value → Option Value) → Option Value)
def KOk [Tok] (P : Program) (e : KEntry) : Prop := KPar e.2 ∧ ∀ hd, KSpec P e.1 hd e.2
theorem lookup_mem3 {f : Nat} {g : List (List Value) → List Value → (Value → Option Value) → Option Value} : ∀ {l : List KEntry}, l.lookup f = some g → (f, g) ∈ l
  | [], h => by simp at h
  | (k, g') :: l, h => by
    rw [List.lookup_cons] at h
    split at h
    · rename_i hk
      have : f = k := by simpa using hk
      cases h; subst this; simp
    · exact List.mem_cons_of_mem _ (lookup_mem3 h)
def tab3 (l : List Entry) (m : List MEntry) (kk : List KEntry) : Tab := { tab2 l m with k := fun f => kk.lookup f }
theorem tab3_okH [Tok] {P : Program} {hd : List (List Value)} {l : List Entry} {m : List MEntry} {kk : List KEntry} (h : ∀ e, e ∈ l → EOkH P hd e) (h2 : ∀ e, e ∈ m → MOk P e) (h3 : ∀ e, e ∈ kk → KOk P e) : TOk P (tab3 l m kk) hd := by
  obtain ⟨a, b, _⟩ := tab2_okH (P := P) (hd := hd) h h2
  exact ⟨a, b, fun f g hg => ⟨(h3 _ (lookup_mem3 hg)).1, (h3 _ (lookup_mem3 hg)).2 hd⟩⟩
/-- What a function's text gives over contracts, calls that write one block, and entries that go on by cases. -/
def ev3 [Tok] (P : Program) (hd : List (List Value)) (L : List Entry) (M : List MEntry) (K : List KEntry) (fn : Func) (args : List Value) : Option Value := abody P (tab3 L M K) (drawnM P (tab3 L M K)) 40 fn hd args
theorem spec_of_ev3 [Tok] {P : Program} (hm : P.follows .mixedOrders = true) {hd : List (List Value)} {L : List Entry} {M : List MEntry} {K : List KEntry} (hL : ∀ e, e ∈ L → EOkH P hd e) (hM : ∀ e, e ∈ M → MOk P e) (hK : ∀ e, e ∈ K → KOk P e) {f : Nat} {fn : Func} (hf : P.funcs[f]? = some fn) (hnm : (fn.name == "runtime.NumGoroutine") = false) {args : List Value}
    (hlen : Nat.ble args.length fn.ntmps = true) {r : Value} (h : ev3 P hd L M K fn args = some r) : FSpec P f hd args r :=
  spec_of_body (tab3_okH hL hM hK) (drawnM_ok (tab3_okH hL hM hK) hm) 40 hf hnm (Pre.self _) hlen h
/-- A function whose text is gone through at each call, by cases. -/
def inlK [Tok] (P : Program) (L : List Entry) (M : List MEntry) (K : List KEntry) (fn : Func) : List (List Value) → List Value → (Value → Option Value) → Option Value :=
  fun mem args k => cond (Nat.ble args.length fn.ntmps) (abodyK P (tab3 L M K) (drawnM P (tab3 L M K)) 40 fn mem args k) none
theorem inlK_ok [Tok] {P : Program} (hm : P.follows .mixedOrders = true) {L : List Entry} {M : List MEntry} {K : List KEntry} (hL : ∀ e, e ∈ L → EOk P e) (hM : ∀ e, e ∈ M → MOk P e) (hK : ∀ e, e ∈ K → KOk P e) {f : Nat} {fn : Func} (hf : P.funcs[f]? = some fn) (hnm : (fn.name == "runtime.NumGoroutine") = false) : KOk P (f, inlK P L M K fn) := by
  have hT : TOk P (tab3 L M K) [] := tab3_okH (fun e he => (hL e he).over []) hM hK
  constructor
  · intro mem args k r h
    simp only [inlK] at h ⊢
    cases hn : Nat.ble args.length fn.ntmps
    · rw [hn] at h; cases h
    · rw [hn] at h
      simp only [cond_true] at h ⊢
      exact abodyK_par hT.par (drawnM_ok hT hm).1 h
  · intro hd mem args v _ h
    simp only [inlK] at h
    cases hn : Nat.ble args.length fn.ntmps
    · rw [hn] at h
      have := h some
      cases this
    · rw [hn] at h
      simp only [cond_true] at h
      exact Or.inl (spec_of_body hT (drawnM_ok hT hm) 40 hf hnm (Pre.nil _) hn (abody_of_K h))
theorem kall_nil [Tok] {P : Program} : ∀ e, e ∈ ([] : List KEntry) → KOk P e := fun e h => by cases h
theorem kall_cons [Tok] {P : Program} {x : KEntry} {l : List KEntry} (hx : KOk P x) (hl : ∀ e, e ∈ l → KOk P e) : ∀ e, e ∈ x :: l → KOk P e := fun e h => by
  rcases List.mem_cons.1 h with rfl | h
  · exact hx
  · exact hl e h
theorem mall_nil [Tok] {P : Program} : ∀ e, e ∈ ([] : List MEntry) → MOk P e := fun e h => by cases h

theorem all_nil [Tok] {P : Program} : ∀ e, e ∈ ([] : List Entry) → EOk P e := fun e h => by cases h
theorem all_cons [Tok] {P : Program} {x : Entry} {l : List Entry} (hx : EOk P x) (hl : ∀ e, e ∈ l → EOk P e) : ∀ e, e ∈ x :: l → EOk P e := fun e h => by
  rcases List.mem_cons.1 h with rfl | h
  · exact hx
  · exact hl e h

/-! ### Shapes of arguments -/
abbrev F (x : Nat) : Value := .float .f64 x
abbrev V (a b c : Nat) : Value := .agg #[F a, F b, F c]
abbrev I (n : Int) : Value := .int .i64 n
abbrev B (b : Bool) : Value := .bool b

def asF : Value → Option Nat
  | .float .f64 x => some x
  | _ => none
def asV : Value → Option (Nat × Nat × Nat)
  | .agg ⟨[.float .f64 a, .float .f64 b, .float .f64 c]⟩ => some (a, b, c)
  | _ => none
theorem asF_some {v : Value} {x : Nat} (h : asF v = some x) : v = F x := by
  unfold asF at h; split at h <;> simp_all
theorem asV_some {v : Value} {a b c : Nat} (h : asV v = some (a, b, c)) : v = V a b c := by
  unfold asV at h; split at h <;> simp_all

def eF0 (g : Nat → Value) : List Value → Option Value
  | [x] => match asF x with
    | some a => some (g a)
    | _ => none
  | _ => none
def eFF0 (g : Nat → Nat → Value) : List Value → Option Value
  | [x, y] => match asF x, asF y with
    | some a, some b => some (g a b)
    | _, _ => none
  | _ => none
def eV0 (g : Nat → Nat → Nat → Value) : List Value → Option Value
  | [x] => match asV x with
    | some (a, b, c) => some (g a b c)
    | _ => none
  | _ => none
def eVV0 (g : Nat → Nat → Nat → Nat → Nat → Nat → Value) : List Value → Option Value
  | [x, y] => match asV x, asV y with
    | some (a, b, c), some (d, e, f) => some (g a b c d e f)
    | _, _ => none
  | _ => none
def eVF0 (g : Nat → Nat → Nat → Nat → Value) : List Value → Option Value
  | [x, y] => match asV x, asF y with
    | some (a, b, c), some k => some (g a b c k)
    | _, _ => none
  | _ => none
def eVVF0 (g : Nat → Nat → Nat → Nat → Nat → Nat → Nat → Value) : List Value → Option Value
  | [x, y, z] => match asV x, asV y, asF z with
    | some (a, b, c), some (d, e, f), some k => some (g a b c d e f k)
    | _, _, _ => none
  | _ => none

abbrev eF (g : Nat → Value) : List (List Value) → List Value → Option Value := pe (eF0 g)
abbrev eFF (g : Nat → Nat → Value) : List (List Value) → List Value → Option Value := pe (eFF0 g)
abbrev eV (g : Nat → Nat → Nat → Value) : List (List Value) → List Value → Option Value := pe (eV0 g)
abbrev eVV (g : Nat → Nat → Nat → Nat → Nat → Nat → Value) : List (List Value) → List Value → Option Value := pe (eVV0 g)
abbrev eVF (g : Nat → Nat → Nat → Nat → Value) : List (List Value) → List Value → Option Value := pe (eVF0 g)
abbrev eVVF (g : Nat → Nat → Nat → Nat → Nat → Nat → Nat → Value) : List (List Value) → List Value → Option Value := pe (eVVF0 g)

theorem eF_ok [Tok] {P : Program} {f : Nat} {g : Nat → Value} (h : ∀ a, FSpec P f [] [F a] (g a)) : EOk P (f, eF g) := by
  refine pe_ok fun args r hr => ?_
  simp only [eF0] at hr
  split at hr
  · split at hr
    · rename_i a ha; cases hr; rw [asF_some ha]; exact Or.inl (h a)
    · cases hr
  · cases hr
theorem eFF_ok [Tok] {P : Program} {f : Nat} {g : Nat → Nat → Value} (h : ∀ a b, FSpec P f [] [F a, F b] (g a b)) : EOk P (f, eFF g) := by
  refine pe_ok fun args r hr => ?_
  simp only [eFF0] at hr
  split at hr
  · split at hr
    · rename_i a b ha hb; cases hr; rw [asF_some ha, asF_some hb]; exact Or.inl (h a b)
    · cases hr
  · cases hr
theorem eV_ok [Tok] {P : Program} {f : Nat} {g : Nat → Nat → Nat → Value} (h : ∀ a b c, FSpec P f [] [V a b c] (g a b c)) : EOk P (f, eV g) := by
  refine pe_ok fun args r hr => ?_
  simp only [eV0] at hr
  split at hr
  · split at hr
    · rename_i a b c ha; cases hr; rw [asV_some ha]; exact Or.inl (h a b c)
    · cases hr
  · cases hr
theorem eVV_ok [Tok] {P : Program} {f : Nat} {g : Nat → Nat → Nat → Nat → Nat → Nat → Value} (h : ∀ a b c d e k, FSpec P f [] [V a b c, V d e k] (g a b c d e k)) : EOk P (f, eVV g) := by
  refine pe_ok fun args r hr => ?_
  simp only [eVV0] at hr
  split at hr
  · split at hr
    · rename_i a b c d e k ha hb; cases hr; rw [asV_some ha, asV_some hb]; exact Or.inl (h a b c d e k)
    · cases hr
  · cases hr
theorem eVF_ok [Tok] {P : Program} {f : Nat} {g : Nat → Nat → Nat → Nat → Value} (h : ∀ a b c k, FSpec P f [] [V a b c, F k] (g a b c k)) : EOk P (f, eVF g) := by
  refine pe_ok fun args r hr => ?_
  simp only [eVF0] at hr
  split at hr
  · split at hr
    · rename_i a b c k ha hb; cases hr; rw [asV_some ha, asF_some hb]; exact Or.inl (h a b c k)
    · cases hr
  · cases hr
theorem eVVF_ok [Tok] {P : Program} {f : Nat} {g : Nat → Nat → Nat → Nat → Nat → Nat → Nat → Value} (h : ∀ a b c d e k x, FSpec P f [] [V a b c, V d e k, F x] (g a b c d e k x)) : EOk P (f, eVVF g) := by
  refine pe_ok fun args r hr => ?_
  simp only [eVVF0] at hr
  split at hr
  · split at hr
    · rename_i a b c d e k x ha hb hx; cases hr; rw [asV_some ha, asV_some hb, asF_some hx]; exact Or.inl (h a b c d e k x)
    · cases hr
  · cases hr

/-! ### The square root -/
theorem run_sqrt (P : Program) (w : World) (b : Nat) : ∃ r w', (Extern.MathSqrt.sqrt #[.float .f64 b]).run P w = .ok (.float .f64 r) w' ∧ (w' = w ∨ w' = w.drew) ∧ cn r = fsqrt (cn b) := by
  have e : Extern.MathSqrt.sqrt #[.float .f64 b] = (match FloatKind.f64.format.sqrt b with
    | some r => (pure (.float .f64 r) : Sem Value)
    | none => do pure (.float .f64 (← choose (.nanBits .f64 b b)))) := rfl
  rw [e]
  unfold fsqrt
  rw [sqrt_cn]
  cases h : Ieee.double.sqrt b with
  | some r =>
    refine ⟨r, w, ?_, Or.inl rfl, ?_⟩
    · have h' : FloatKind.f64.format.sqrt b = some r := h
      simp [h']
    · rw [cn_of_not (isNan_sqrt h)]; rfl
  | none =>
    refine ⟨(Question.nanBits .f64 b b).cut (w.tape w.drawn (.nanBits .f64 b b)), w.drew, ?_, Or.inr rfl, ?_⟩
    · have h' : FloatKind.f64.format.sqrt b = none := h
      simp [h', Question.forced]
    · rw [cn_of_nan (isNan_cut _ _ _)]; rfl

theorem sqrt_ok [Tok] {P : Program} {f : Nat} {fn : Func} (hf : P.funcs[f]? = some fn) (hname : (fn.name == "runtime.NumGoroutine") = false) (hb : fn.body.isNone = true) (hn : Extern.findNext fn = none)
    (he : Extern.find fn = some Extern.MathSqrt.sqrt) : EOk P (f, eF fun x => F (fsqrt x)) := by
  refine pe_ok fun args r hr => ?_
  simp only [eF0] at hr
  split at hr
  · split at hr
    · rename_i a ha
      cases hr
      rw [asF_some ha]
      refine Or.inr fun bs w cargs hv => ?_
      obtain ⟨l⟩ := cargs
      match l, hv with
      | [v], hv =>
        obtain ⟨b, rfl, rfl⟩ := vrel_float hv.1
        obtain ⟨r, w', h1, h2, h3⟩ := run_sqrt P w b
        refine ⟨_, w', ?_, h2, ⟨r, rfl, h3⟩⟩
        rw [run_callFunc_extern hf hname hb hn he, h1]
        rfl
      | [], hv => exact hv.elim
      | _ :: _ :: _, hv => exact hv.2.elim
    · cases hr
  · cases hr

end Go.Ev
