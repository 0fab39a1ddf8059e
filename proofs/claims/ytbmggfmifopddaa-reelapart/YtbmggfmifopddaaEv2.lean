/-
  Values read plainly: floats with all NaNs taken for one, addresses by the number of the block among those that are known; what one operation gives of them.
-/
import Derived.Test.YtbmggfmifopddaaEv1
import Derived.WalkKit
import Derived.WalkLawsBesides
namespace Go.Ev
open Go.RowKit

/-- Slices that came in, by name: where in its block the k-th begins, and how long it is. The name itself is a slice with a mark: '.slice (some ⟨k, 0, some 0⟩) 0 0'. -/
class Tok where
  o : Nat → Nat
  n : Nat → Nat

/-- A value of which nothing is known. -/
def junk : Value := .map (some 0)

/-- One cell: what is known of it, and what it holds. -/
def srel [Tok] (bs : List Nat) (x v : Value) : Prop :=
  match x with
  | .float .f64 a => ∃ b, v = .float .f64 b ∧ cn b = a
  | .pointer (some ⟨i, o, none⟩) => ∃ b, bs[i]? = some b ∧ v = .pointer (some ⟨b, o, none⟩)
  | .pointer (some ⟨_, _, some _⟩) => False
  | .slice (some ⟨i, o, none⟩) l _ => ∃ b c, bs[i]? = some b ∧ l ≤ c ∧ v = .slice (some ⟨b, o, none⟩) l c
  | .slice (some ⟨k, _, some _⟩) _ _ => ∃ b c, bs[k]? = some b ∧ Tok.n k ≤ c ∧ v = .slice (some ⟨b, Tok.o k, none⟩) (Tok.n k) c
  | .slice none l c => v = .slice none l c ∨ (l = 0 ∧ ∃ a c', v = .slice a 0 c')
  | .map none => True
  | .map (some _) => v.oneCell' = true
  | .agg _ => False
  | .tuple _ => False
  | .iface _ _ => False
  | x => v = x

def rowrel [Tok] (bs : List Nat) : List Value → List Value → Prop
  | [], [] => True
  | x :: xs, v :: vs => srel bs x v ∧ rowrel bs xs vs
  | _, _ => False

/-- The first cells of a block. -/
def rowpre [Tok] (bs : List Nat) : List Value → List Value → Prop
  | [], _ => True
  | x :: xs, v :: vs => srel bs x v ∧ rowpre bs xs vs
  | _ :: _, [] => False

/-- What an interface value holds: a row of cells, or one. -/
def crel [Tok] (bs : List Nat) (x v : Value) : Prop :=
  match x with
  | .agg xs => ∃ vs, v = .agg vs ∧ rowrel bs xs.toList vs.toList
  | x => srel bs x v

def arel [Tok] (bs : List Nat) (x v : Value) : Prop :=
  match x with
  | .agg xs => ∃ vs, v = .agg vs ∧ rowrel bs xs.toList vs.toList
  | .map _ => True
  | .iface t y => ∃ u, v = .iface t u ∧ crel bs y u
  | x => srel bs x v

def arows [Tok] (bs : List Nat) : List Value → List Value → Prop
  | [], [] => True
  | x :: xs, v :: vs => arel bs x v ∧ arows bs xs vs
  | _, _ => False

def vrel [Tok] (bs : List Nat) (x v : Value) : Prop :=
  match x with
  | .tuple xs => ∃ vs, v = .tuple vs ∧ arows bs xs.toList vs.toList
  | x => arel bs x v

/-! ### More blocks -/
theorem getElem?_append_some {bs es : List Nat} {i b : Nat} (h : bs[i]? = some b) : (bs ++ es)[i]? = some b := by
  rw [List.getElem?_append_left]
  · exact h
  · exact (List.getElem?_eq_some_iff.1 h).1

theorem srel_more [Tok] {bs : List Nat} (es : List Nat) {x v : Value} (h : srel bs x v) : srel (bs ++ es) x v := by
  unfold srel at h
  split at h
  · exact h
  · obtain ⟨b, h1, h2⟩ := h; exact ⟨b, getElem?_append_some h1, h2⟩
  · exact h
  · obtain ⟨b, c, h1, h2⟩ := h; exact ⟨b, c, getElem?_append_some h1, h2⟩
  · obtain ⟨b, c, h1, h2⟩ := h; exact ⟨b, c, getElem?_append_some h1, h2⟩
  · exact h
  · exact h
  · exact h
  · exact h
  · exact h
  · exact h
  · unfold srel; split <;> first | exact h | (simp_all; done) | (rename_i hx _ _; simp_all; done) | (exfalso; simp_all; rename_i hx; first | exact hx _ _ _ _ rfl rfl rfl rfl | exact hx _ _ _ _ _ rfl rfl rfl rfl rfl)
theorem rowrel_more [Tok] {bs : List Nat} (es : List Nat) : ∀ {xs vs : List Value}, rowrel bs xs vs → rowrel (bs ++ es) xs vs
  | [], [], _ => trivial
  | _ :: _, _ :: _, h => ⟨srel_more es h.1, rowrel_more es h.2⟩
  | [], _ :: _, h => h.elim
  | _ :: _, [], h => h.elim
theorem rowpre_more [Tok] {bs : List Nat} (es : List Nat) : ∀ {xs vs : List Value}, rowpre bs xs vs → rowpre (bs ++ es) xs vs
  | [], _, _ => trivial
  | _ :: _, _ :: _, h => ⟨srel_more es h.1, rowpre_more es h.2⟩
  | _ :: _, [], h => h.elim
theorem crel_more [Tok] {bs : List Nat} (es : List Nat) {x v : Value} (h : crel bs x v) : crel (bs ++ es) x v := by
  unfold crel at *
  split at h
  · obtain ⟨vs, h1, h2⟩ := h; exact ⟨vs, h1, rowrel_more es h2⟩
  · exact srel_more es h
theorem arel_more [Tok] {bs : List Nat} (es : List Nat) {x v : Value} (h : arel bs x v) : arel (bs ++ es) x v := by
  unfold arel at *
  split at h
  · obtain ⟨vs, h1, h2⟩ := h; exact ⟨vs, h1, rowrel_more es h2⟩
  · trivial
  · obtain ⟨u, h1, h2⟩ := h; exact ⟨u, h1, crel_more es h2⟩
  · exact srel_more es h
theorem arows_more [Tok] {bs : List Nat} (es : List Nat) : ∀ {xs vs : List Value}, arows bs xs vs → arows (bs ++ es) xs vs
  | [], [], _ => trivial
  | _ :: _, _ :: _, h => ⟨arel_more es h.1, arows_more es h.2⟩
  | [], _ :: _, h => h.elim
  | _ :: _, [], h => h.elim
theorem vrel_more [Tok] {bs : List Nat} (es : List Nat) {x v : Value} (h : vrel bs x v) : vrel (bs ++ es) x v := by
  unfold vrel at *
  split at h
  · obtain ⟨vs, h1, h2⟩ := h; exact ⟨vs, h1, arows_more es h2⟩
  · exact arel_more es h

/-! ### Rows -/
theorem rowrel_length [Tok] {bs : List Nat} : ∀ {xs vs : List Value}, rowrel bs xs vs → xs.length = vs.length
  | [], [], _ => rfl
  | _ :: _, _ :: _, h => by simp [rowrel_length h.2]
  | [], _ :: _, h => h.elim
  | _ :: _, [], h => h.elim
theorem rowpre_of_rowrel [Tok] {bs : List Nat} : ∀ {xs vs : List Value}, rowrel bs xs vs → rowpre bs xs vs
  | [], _, _ => trivial
  | _ :: _, _ :: _, h => ⟨h.1, rowpre_of_rowrel h.2⟩
  | _ :: _, [], h => h.elim
theorem rowpre_length [Tok] {bs : List Nat} : ∀ {xs vs : List Value}, rowpre bs xs vs → xs.length ≤ vs.length
  | [], _, _ => Nat.zero_le _
  | _ :: _, _ :: _, h => by simp [rowpre_length h.2]
  | _ :: _, [], h => h.elim
theorem rowpre_get [Tok] {bs : List Nat} : ∀ {xs vs : List Value} {i : Nat} {x : Value}, rowpre bs xs vs → xs[i]? = some x → ∃ v, vs[i]? = some v ∧ srel bs x v
  | [], _, i, x, _, h => by simp at h
  | _ :: _, _ :: _, 0, x, hr, h => by simp at h; subst h; exact ⟨_, rfl, hr.1⟩
  | _ :: _, _ :: _, i + 1, x, hr, h => by simp at h; simpa using rowpre_get hr.2 h
  | _ :: _, [], _, _, hr, _ => hr.elim
theorem rowpre_part [Tok] {bs : List Nat} : ∀ {xs vs : List Value} (o n : Nat), rowpre bs xs vs → o + n ≤ xs.length → rowrel bs ((xs.drop o).take n) ((vs.drop o).take n)
  | xs, vs, 0, 0, _, _ => by simp [rowrel]
  | [], vs, 0, n + 1, _, h => by simp at h
  | x :: xs, v :: vs, 0, n + 1, hr, h => by
    simp only [List.drop_zero, List.take_succ_cons]
    exact ⟨hr.1, by have := rowpre_part 0 n hr.2 (by simp at h ⊢; omega); simpa using this⟩
  | _ :: _, [], 0, _ + 1, hr, _ => hr.elim
  | [], vs, o + 1, n, _, h => by
    simp at h
  | x :: xs, v :: vs, o + 1, n, hr, h => by
    simp only [List.drop_succ_cons]
    exact rowpre_part o n hr.2 (by simp at h ⊢; omega)
  | _ :: _, [], _ + 1, _, hr, _ => hr.elim

/-- A cell of which nothing is known. -/
def isHole : Value → Bool
  | .map none => true
  | _ => false
theorem srel_oneCell [Tok] {bs : List Nat} {x v : Value} (h : srel bs x v) (hx : isHole x = false) : v.oneCell' = true := by
  unfold srel at h
  split at h
  · obtain ⟨b, rfl, _⟩ := h; rfl
  · obtain ⟨b, _, rfl⟩ := h; rfl
  · exact h.elim
  · obtain ⟨b, c, _, _, rfl⟩ := h; rfl
  · obtain ⟨b, c, _, _, rfl⟩ := h; rfl
  · rcases h with rfl | ⟨_, a, c', rfl⟩ <;> rfl
  · cases hx
  · exact h
  · exact h.elim
  · exact h.elim
  · exact h.elim
  · subst h; cases v <;> first | rfl | simp_all

/-! ### Memory -/
def MemRel [Tok] (bs : List Nat) (mem : List (List Value)) (w : World) : Prop :=
  bs.length = mem.length ∧ ∀ (i b : Nat) (cells : List Value), bs[i]? = some b → mem[i]? = some cells →
    b < w.heap.size ∧ ∃ cs e fz, w.heap[b]? = some (.cells cs e fz) ∧ rowpre bs cells cs.toList

theorem MemRel.below [Tok] {bs : List Nat} {mem : List (List Value)} {w w' : World} (h : MemRel bs mem w) (hb : Below w.heap.size w w') : MemRel bs mem w' := by
  refine ⟨h.1, fun i b cells h1 h2 => ?_⟩
  obtain ⟨h3, cs, e, fz, h4, h5⟩ := h.2 i b cells h1 h2
  exact ⟨Nat.lt_of_lt_of_le h3 hb.size, cs, e, fz, by rw [hb.block b h3]; exact h4, h5⟩

/-- A known address: the block, its number, what is known of its cells. -/
theorem MemRel.at [Tok] {bs : List Nat} {mem : List (List Value)} {w : World} (h : MemRel bs mem w) {i : Nat} {cells : List Value} (hm : mem[i]? = some cells) :
    ∃ b, bs[i]? = some b ∧ b < w.heap.size ∧ ∃ cs e fz, w.heap[b]? = some (.cells cs e fz) ∧ rowpre bs cells cs.toList := by
  have hi : i < bs.length := by rw [h.1]; exact (List.getElem?_eq_some_iff.1 hm).1
  exact ⟨bs[i], List.getElem?_eq_getElem hi, h.2 i _ cells (List.getElem?_eq_getElem hi) hm⟩

/-! ### The state of a frame -/
/-- Under which tests of its region a slot was written: the slots of the tests, and what they must hold. -/
abbrev Chain := List (Nat × Bool)
def dflt : Value × Chain := (undef, [])

/-- Slots; the blocks that are known, and what is known of their first cells; how many of them are not ours to write. -/
structure St where
  slots : List (Value × Chain)
  mem : List (List Value)
  ro : Nat

/-- A constant, plainly. -/
def canS : Value → Value
  | .float .f64 b => .float .f64 (cn b)
  | .pointer (some _) => junk
  | .slice (some _) _ _ => junk
  | .agg _ => junk
  | .tuple _ => junk
  | .iface _ _ => junk
  | v => v

def aeval (s : St) : Operand → Value
  | .tmp t => (s.slots.getD t dflt).1
  | .const v => canS v
  | .global _ => junk
  | .func f => .func (.func f) #[] #[]

theorem vrel_canS [Tok] (bs : List Nat) (v : Value) : vrel bs (canS v) v := by
  unfold canS
  split
  · exact ⟨_, rfl, rfl⟩
  · exact trivial
  · exact trivial
  · exact trivial
  · exact trivial
  · exact trivial
  · rename_i h1 h2 h3 h4 h5 h6
    cases v with
    | float k b => cases k <;> first | (exact absurd rfl (h1 b)) | rfl
    | pointer a => cases a <;> first | rfl | exact absurd rfl (h2 _)
    | slice a l c => cases a <;> first | exact Or.inl rfl | exact absurd rfl (h3 _ l c)
    | agg cs => exact absurd rfl (h4 cs)
    | tuple vs => exact absurd rfl (h5 vs)
    | iface t y => exact absurd rfl (h6 t y)
    | map r => exact trivial
    | _ => rfl

/-! ### Scalars that are told apart by nothing -/
/-- Values that are just what they are: no float, no address. -/
def isPlain : Value → Bool
  | .bool _ => true
  | .int _ _ => true
  | .string _ => true
  | _ => false

theorem eq_of_plain [Tok] {bs : List Nat} {x v : Value} (hp : isPlain x = true) (h : vrel bs x v) : v = x := by
  cases x <;> simp [isPlain] at hp <;> exact h
theorem vrel_bool [Tok] {bs : List Nat} {b : Bool} {v : Value} (h : vrel bs (.bool b) v) : v = .bool b := h
theorem vrel_float [Tok] {bs : List Nat} {a : Nat} {v : Value} (h : vrel bs (.float .f64 a) v) : ∃ b, v = .float .f64 b ∧ cn b = a := h
theorem vrel_pointer [Tok] {bs : List Nat} {i o : Nat} {v : Value} (h : vrel bs (.pointer (some ⟨i, o, none⟩)) v) : ∃ b, bs[i]? = some b ∧ v = .pointer (some ⟨b, o, none⟩) := h
theorem vrel_agg [Tok] {bs : List Nat} {xs : Array Value} {v : Value} (h : vrel bs (.agg xs) v) : ∃ vs, v = .agg vs ∧ rowrel bs xs.toList vs.toList := h
theorem vrel_tuple [Tok] {bs : List Nat} {xs : Array Value} {v : Value} (h : vrel bs (.tuple xs) v) : ∃ vs, v = .tuple vs ∧ arows bs xs.toList vs.toList := h
theorem vrel_of_arel [Tok] {bs : List Nat} {x v : Value} (h : arel bs x v) : vrel bs x v := by
  cases x <;> first | exact h | exact (show False from h).elim
theorem arel_of_srel [Tok] {bs : List Nat} {x v : Value} (h : srel bs x v) : arel bs x v := by
  cases x <;> first | exact h | exact (show False from h).elim | exact trivial
theorem vrel_of_srel [Tok] {bs : List Nat} {x v : Value} (h : srel bs x v) : vrel bs x v := vrel_of_arel (arel_of_srel h)
/-- A plain result: itself, its NaN taken for one. -/
def canR : Value → Value
  | .float .f64 b => .float .f64 (cn b)
  | .bool b => .bool b
  | .int k n => .int k n
  | .string s => .string s
  | _ => junk
theorem vrel_canR [Tok] (bs : List Nat) (v : Value) : vrel bs (canR v) v := by
  unfold canR; split <;> first | exact ⟨_, rfl, rfl⟩ | exact rfl | exact trivial

/-- What asks nothing of the world: its outcome. -/
def pureOf {α : Type} (P : Program) : Sem α → Option α
  | .pure a => some a
  | .program k => pureOf P (k P)
  | _ => none
theorem run_of_pureOf {α : Type} {P : Program} (w : World) : ∀ {s : Sem α} {a : α}, pureOf P s = some a → s.run P w = .ok a w := by
  intro s
  induction s with
  | pure b => intro a h; simp [pureOf] at h; subst h; rfl
  | program k ih => intro a h; simp only [Sem.run]; exact ih P h
  | _ => intro a h; simp [pureOf] at h

/-! ### One operation -/
def isAggD : TypeDesc → Bool
  | .struct _ => true
  | .array _ _ => true
  | _ => false

def aload (P : Program) (t : TypeId) (cells : List Value) (o : Nat) : Option Value :=
  match P.underlying t, P.info? t with
  | some d, some i => cond (isAggD d) (cond (Nat.ble (o + i.size) cells.length) (some (.agg ((cells.drop o).take i.size).toArray)) none) (cond (Nat.blt o cells.length) (some (cells.getD o junk)) none)
  | _, _ => none
theorem get_cond (cells : List Value) (o : Nat) : (cond (Nat.blt o cells.length) (some (cells.getD o junk)) none) = cells[o]? := by
  by_cases h : o < cells.length
  · have : Nat.blt o cells.length = true := Nat.ble_eq_true_of_le h
    rw [this, List.getElem?_eq_getElem h, List.getD_eq_getElem?_getD, List.getElem?_eq_getElem h]; rfl
  · have : Nat.blt o cells.length = false := by
      cases e : Nat.blt o cells.length
      · rfl
      · exact absurd (Nat.le_of_ble_eq_true e) h
    rw [this, List.getElem?_eq_none (Nat.le_of_not_lt h)]; rfl

def afield (P : Program) (t : TypeId) (i o f : Nat) : Option Value :=
  match P.underlying t with
  | some (.struct fields) =>
    match fields[f]? with
    | some fd => match P.info? fd.type with
      | some inf => cond (inf.size == 0) none (some (.pointer (some ⟨i, o + fd.offset, none⟩)))
      | none => none
    | none => none
  | _ => none

/-- The address of an element: of an array behind a pointer, of a slice. -/
def aindex (P : Program) (t : TypeId) (x ix : Value) : Option Value :=
  match ix with
  | .int _ k => match P.underlying t, x with
    | some (.array n e), .pointer (some ⟨i, o, none⟩) => match P.info? e with
      | some inf => cond (decide (0 ≤ k) && decide (k < (n : Int))) (some (.pointer (some ⟨i, o + k.toNat * inf.size, none⟩))) none
      | none => none
    | some (.slice e), .slice (some ⟨i, o, none⟩) len _ => match P.info? e with
      | some inf => cond (decide (0 ≤ k) && decide (k < (len : Int))) (some (.pointer (some ⟨i, o + k.toNat * inf.size, none⟩))) none
      | none => none
    | _, _ => none
  | _ => none

/-- An element of an array by value. -/
def aelem (P : Program) (t : TypeId) (x ix : Value) : Option Value :=
  match ix, x, P.underlying t with
  | .int _ k, .agg cs, some (.array n e) => match P.info? e with
    | some inf => cond (decide (0 ≤ k) && decide (k < (n : Int))) (aload P e cs.toList (k.toNat * inf.size)) none
    | none => none
  | _, _, _ => none

/-- A field of a struct by value. -/
def apick (P : Program) (t : TypeId) (x : Value) (f : Nat) : Option Value :=
  match x, P.underlying t with
  | .agg cs, some (.struct fields) => match fields[f]? with
    | some fd => aload P fd.type cs.toList fd.offset
    | none => none
  | _, _ => none

def fbin (op : BinOp) (a b : Nat) : Option Value :=
  match op with
  | .add => some (.float .f64 (fadd a b))
  | .sub => some (.float .f64 (fsub a b))
  | .mul => some (.float .f64 (fmul a b))
  | .quo => some (.float .f64 (fdiv a b))
  | .eql => some (.bool (feq a b))
  | .neq => some (.bool (!feq a b))
  | .lss => some (.bool (flt a b))
  | .leq => some (.bool (fle a b))
  | .gtr => some (.bool (fgt a b))
  | .geq => some (.bool (fge a b))
  | _ => none

def isAggT (P : Program) (t : TypeId) : Bool :=
  match P.underlying t with
  | some d => isAggD d
  | none => false

/-- '==' of two values of a type, cell by cell. -/
def aeq (P : Program) : Nat → TypeId → List Value → List Value → Option Bool
  | 0, _, _, _ => none
  | n + 1, t, xs, ys => match P.underlying t with
    | some (.struct fs) => cond (P.stoodInHeld t) none (fs.toList.foldr (fun f acc => match P.info? f.type, acc with
      | some inf, some b => cond ((f.name == "_") || (inf.size == 0) || Nat.blt xs.length (f.offset + inf.size) || Nat.blt ys.length (f.offset + inf.size)) none
          ((aeq P n f.type ((xs.drop f.offset).take inf.size) ((ys.drop f.offset).take inf.size)).map (· && b))
      | _, _ => none) (some true))
    | some (.array len e) => match P.info? e with
      | some inf => (List.range len).foldr (fun i acc => match acc with
        | some b => cond ((inf.size == 0) || Nat.blt xs.length (i * inf.size + inf.size) || Nat.blt ys.length (i * inf.size + inf.size)) none
            ((aeq P n e ((xs.drop (i * inf.size)).take inf.size) ((ys.drop (i * inf.size)).take inf.size)).map (· && b))
        | none => none) (some true)
      | none => none
    | some (.float .f64) => match xs, ys with
      | [.float .f64 a], [.float .f64 b] => some (feq a b)
      | _, _ => none
    | some (.int _) => match xs, ys with
      | [.int k a], [.int k' b] => cond (decide (k = k')) (some (a == b)) none
      | _, _ => none
    | some .bool => match xs, ys with
      | [.bool a], [.bool b] => some (a == b)
      | _, _ => none
    | _ => none

def abin (P : Program) (op : BinOp) (t : TypeId) (x y : Value) : Option Value :=
  match x, y with
  | .float .f64 a, .float .f64 b => fbin op a b
  | .agg xs, .agg ys => cond (isAggT P t && !P.eqGuardType P.depth t) (match op, aeq P 8 t xs.toList ys.toList with
    | .eql, some b => some (.bool b)
    | .neq, some b => some (.bool !b)
    | _, _ => none) none
  | x, y => cond (isPlain x && isPlain y) ((pureOf P (binOp op t x y)).map canR) none

/-! ### Interface values: '==' with nil, making one, asking one -/
def isIfaceD : TypeDesc → Bool
  | .interface _ => true
  | _ => false
def isIfaceT (P : Program) (t : TypeId) : Bool :=
  match P.underlying t with
  | some d => isIfaceD d
  | none => false
def isConst : Operand → Bool
  | .const _ => true
  | _ => false
def nilRes (op : BinOp) (b : Bool) : Option Value :=
  match op with
  | .eql => some (.bool b)
  | .neq => some (.bool !b)
  | _ => none
def abinO (P : Program) (op : BinOp) (t : TypeId) (x y : Operand) (a b : Value) : Option Value :=
  match a, b with
  | .nilIface, .nilIface => cond ((isConst x || isConst y) && isIfaceT P t) (nilRes op true) none
  | .iface _ _, .nilIface => cond (isIfaceT P t) (nilRes op false) none
  | a, b => abin P op t a b
/-- Does a type lack a method that is wanted? -/
def lacks (want : Array (String × TypeId)) (got : Array Method) : Bool :=
  want.toList.any fun p => !got.any fun m => m.name == p.1 && m.sig == p.2
def aassert (P : Program) (x : Value) (asserted : TypeId) (ok : Bool) : Option Value :=
  match x with
  | .iface t v => match P.underlying asserted with
    | some (.interface want) => match P.info? t with
      | some inf => cond (lacks want inf.methods)
          (cond ok (match pureOf P (zeroValue asserted) with
            | some .nilIface => some (.tuple #[.nilIface, .bool false])
            | _ => none) none)
          (cond ok (some (.tuple #[.iface t v, .bool true])) (some (.iface t v)))
      | none => none
    | _ => none
  | _ => none
/-- The function that a call enters, and all that is handed to it. -/
def aMethod (P : Program) (t : TypeId) (name : String) : Option Nat :=
  match P.info? t, P.underlying t with
  | some inf, some (.struct _) => match inf.methods.find? (fun m => m.name == name) with
    | some m => match m.func with
      | some (f, false) => cond m.path.isEmpty (some f) none
      | _ => none
    | none => none
  | _, _ => none

def aun (P : Program) (op : UnOp) (x : Value) : Option Value :=
  match op, x with
  | .neg, .float .f64 a => some (.float .f64 (fneg a))
  | op, x => cond (isPlain x) ((pureOf P (Op.unary op x)).map canR) none

end Go.Ev
