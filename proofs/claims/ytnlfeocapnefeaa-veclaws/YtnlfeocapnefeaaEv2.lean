/-
  Values read plainly: floats with all NaNs taken for one, addresses by the number of the block among those that are known; what one operation gives of them.
-/
import Derived.Test.YtnlfeocapnefeaaEv1
import Derived.WalkKit
import Derived.WalkLawsBesides
namespace Go.Ev
open Go.RowKit

/-- A value of which nothing is known. -/
def junk : Value := .map (some 0)

/-- One cell: what is known of it, and what it holds. -/
def srel (bs : List Nat) (x v : Value) : Prop :=
  match x with
  | .float .f64 a => ∃ b, v = .float .f64 b ∧ cn b = a
  | .pointer (some ⟨i, o, none⟩) => ∃ b, bs[i]? = some b ∧ v = .pointer (some ⟨b, o, none⟩)
  | .pointer (some ⟨_, _, some _⟩) => False
  | .slice (some ⟨i, o, none⟩) l _ => ∃ b c, bs[i]? = some b ∧ l ≤ c ∧ v = .slice (some ⟨b, o, none⟩) l c
  | .slice (some ⟨_, _, some _⟩) _ _ => False
  | .map _ => v.oneCell' = true
  | .agg _ => False
  | .tuple _ => False
  | x => v = x

def rowrel (bs : List Nat) : List Value → List Value → Prop
  | [], [] => True
  | x :: xs, v :: vs => srel bs x v ∧ rowrel bs xs vs
  | _, _ => False

/-- The first cells of a block. -/
def rowpre (bs : List Nat) : List Value → List Value → Prop
  | [], _ => True
  | x :: xs, v :: vs => srel bs x v ∧ rowpre bs xs vs
  | _ :: _, [] => False

def arel (bs : List Nat) (x v : Value) : Prop :=
  match x with
  | .agg xs => ∃ vs, v = .agg vs ∧ rowrel bs xs.toList vs.toList
  | .map _ => True
  | x => srel bs x v

def arows (bs : List Nat) : List Value → List Value → Prop
  | [], [] => True
  | x :: xs, v :: vs => arel bs x v ∧ arows bs xs vs
  | _, _ => False

def vrel (bs : List Nat) (x v : Value) : Prop :=
  match x with
  | .tuple xs => ∃ vs, v = .tuple vs ∧ arows bs xs.toList vs.toList
  | x => arel bs x v

/-! ### More blocks -/
theorem getElem?_append_some {bs es : List Nat} {i b : Nat} (h : bs[i]? = some b) : (bs ++ es)[i]? = some b := by
  rw [List.getElem?_append_left]
  · exact h
  · exact (List.getElem?_eq_some_iff.1 h).1

theorem srel_more {bs : List Nat} (es : List Nat) {x v : Value} (h : srel bs x v) : srel (bs ++ es) x v := by
  unfold srel at h
  split at h
  · exact h
  · obtain ⟨b, h1, h2⟩ := h; exact ⟨b, getElem?_append_some h1, h2⟩
  · exact h
  · obtain ⟨b, c, h1, h2⟩ := h; exact ⟨b, c, getElem?_append_some h1, h2⟩
  · exact h
  · exact h
  · exact h
  · exact h
  · unfold srel; split <;> first | exact h | (simp_all; done) | (rename_i hx _ _; simp_all; done) | (exfalso; simp_all; rename_i hx; first | exact hx _ _ _ _ rfl rfl rfl rfl | exact hx _ _ _ _ _ rfl rfl rfl rfl rfl)
theorem rowrel_more {bs : List Nat} (es : List Nat) : ∀ {xs vs : List Value}, rowrel bs xs vs → rowrel (bs ++ es) xs vs
  | [], [], _ => trivial
  | _ :: _, _ :: _, h => ⟨srel_more es h.1, rowrel_more es h.2⟩
  | [], _ :: _, h => h.elim
  | _ :: _, [], h => h.elim
theorem rowpre_more {bs : List Nat} (es : List Nat) : ∀ {xs vs : List Value}, rowpre bs xs vs → rowpre (bs ++ es) xs vs
  | [], _, _ => trivial
  | _ :: _, _ :: _, h => ⟨srel_more es h.1, rowpre_more es h.2⟩
  | _ :: _, [], h => h.elim
theorem arel_more {bs : List Nat} (es : List Nat) {x v : Value} (h : arel bs x v) : arel (bs ++ es) x v := by
  unfold arel at *
  split at h
  · obtain ⟨vs, h1, h2⟩ := h; exact ⟨vs, h1, rowrel_more es h2⟩
  · trivial
  · exact srel_more es h
theorem arows_more {bs : List Nat} (es : List Nat) : ∀ {xs vs : List Value}, arows bs xs vs → arows (bs ++ es) xs vs
  | [], [], _ => trivial
  | _ :: _, _ :: _, h => ⟨arel_more es h.1, arows_more es h.2⟩
  | [], _ :: _, h => h.elim
  | _ :: _, [], h => h.elim
theorem vrel_more {bs : List Nat} (es : List Nat) {x v : Value} (h : vrel bs x v) : vrel (bs ++ es) x v := by
  unfold vrel at *
  split at h
  · obtain ⟨vs, h1, h2⟩ := h; exact ⟨vs, h1, arows_more es h2⟩
  · exact arel_more es h

/-! ### Rows -/
theorem rowrel_length {bs : List Nat} : ∀ {xs vs : List Value}, rowrel bs xs vs → xs.length = vs.length
  | [], [], _ => rfl
  | _ :: _, _ :: _, h => by simp [rowrel_length h.2]
  | [], _ :: _, h => h.elim
  | _ :: _, [], h => h.elim
theorem rowpre_of_rowrel {bs : List Nat} : ∀ {xs vs : List Value}, rowrel bs xs vs → rowpre bs xs vs
  | [], _, _ => trivial
  | _ :: _, _ :: _, h => ⟨h.1, rowpre_of_rowrel h.2⟩
  | _ :: _, [], h => h.elim
theorem rowpre_length {bs : List Nat} : ∀ {xs vs : List Value}, rowpre bs xs vs → xs.length ≤ vs.length
  | [], _, _ => Nat.zero_le _
  | _ :: _, _ :: _, h => by simp [rowpre_length h.2]
  | _ :: _, [], h => h.elim
theorem rowpre_get {bs : List Nat} : ∀ {xs vs : List Value} {i : Nat} {x : Value}, rowpre bs xs vs → xs[i]? = some x → ∃ v, vs[i]? = some v ∧ srel bs x v
  | [], _, i, x, _, h => by simp at h
  | _ :: _, _ :: _, 0, x, hr, h => by simp at h; subst h; exact ⟨_, rfl, hr.1⟩
  | _ :: _, _ :: _, i + 1, x, hr, h => by simp at h; simpa using rowpre_get hr.2 h
  | _ :: _, [], _, _, hr, _ => hr.elim
theorem rowpre_part {bs : List Nat} : ∀ {xs vs : List Value} (o n : Nat), rowpre bs xs vs → o + n ≤ xs.length → rowrel bs ((xs.drop o).take n) ((vs.drop o).take n)
  | xs, vs, 0, 0, _, _ => by simp [rowrel]
  | [], vs, 0, n + 1, _, h => by simp at h
  | x :: xs, v :: vs, 0, n + 1, hr, h => by
    simp only [List.drop_zero, List.take_succ_cons]
    exact ⟨hr.1, by have := rowpre_part 0 n hr.2 (by simp at h ⊢; omega); simpa using this⟩
  | _ :: _, [], 0, _ + 1, hr, _ => hr.elim
  | [], vs, o + 1, n, _, h => by
    simp at h
  | x :: xs, v :: vs, o + 1, n, hr, h => by
    simp only [List.drop_succ_cons]
    exact rowpre_part o n hr.2 (by simp at h ⊢; omega)
  | _ :: _, [], _ + 1, _, hr, _ => hr.elim

theorem srel_oneCell {bs : List Nat} {x v : Value} (h : srel bs x v) : v.oneCell' = true := by
  unfold srel at h
  split at h
  · obtain ⟨b, rfl, _⟩ := h; rfl
  · obtain ⟨b, _, rfl⟩ := h; rfl
  · exact h.elim
  · obtain ⟨b, c, _, _, rfl⟩ := h; rfl
  · exact h.elim
  · exact h
  · exact h.elim
  · exact h.elim
  · subst h; cases v <;> first | rfl | simp_all

/-! ### Memory -/
def MemRel (bs : List Nat) (mem : List (List Value)) (w : World) : Prop :=
  bs.length = mem.length ∧ ∀ (i b : Nat) (cells : List Value), bs[i]? = some b → mem[i]? = some cells →
    b < w.heap.size ∧ ∃ cs e fz, w.heap[b]? = some (.cells cs e fz) ∧ rowpre bs cells cs.toList

theorem MemRel.below {bs : List Nat} {mem : List (List Value)} {w w' : World} (h : MemRel bs mem w) (hb : Below w.heap.size w w') : MemRel bs mem w' := by
  refine ⟨h.1, fun i b cells h1 h2 => ?_⟩
  obtain ⟨h3, cs, e, fz, h4, h5⟩ := h.2 i b cells h1 h2
  exact ⟨Nat.lt_of_lt_of_le h3 hb.size, cs, e, fz, by rw [hb.block b h3]; exact h4, h5⟩

/-- A known address: the block, its number, what is known of its cells. -/
theorem MemRel.at {bs : List Nat} {mem : List (List Value)} {w : World} (h : MemRel bs mem w) {i : Nat} {cells : List Value} (hm : mem[i]? = some cells) :
    ∃ b, bs[i]? = some b ∧ b < w.heap.size ∧ ∃ cs e fz, w.heap[b]? = some (.cells cs e fz) ∧ rowpre bs cells cs.toList := by
  have hi : i < bs.length := by rw [h.1]; exact (List.getElem?_eq_some_iff.1 hm).1
  exact ⟨bs[i], List.getElem?_eq_getElem hi, h.2 i _ cells (List.getElem?_eq_getElem hi) hm⟩

/-! ### The state of a frame -/
/-- Under which tests of its region a slot was written: the slots of the tests, and what they must hold. -/
abbrev Chain := List (Nat × Bool)
def dflt : Value × Chain := (undef, [])

/-- Slots; the blocks that are known, and what is known of their first cells; how many of them are not ours to write. -/
structure St where
  slots : List (Value × Chain)
  mem : List (List Value)
  ro : Nat

/-- A constant, plainly. -/
def canS : Value → Value
  | .float .f64 b => .float .f64 (cn b)
  | .pointer (some _) => junk
  | .slice (some _) _ _ => junk
  | .agg _ => junk
  | .tuple _ => junk
  | v => v

def aeval (s : St) : Operand → Value
  | .tmp t => (s.slots.getD t dflt).1
  | .const v => canS v
  | .global _ => junk
  | .func f => .func (.func f) #[] #[]

theorem vrel_canS (bs : List Nat) (v : Value) : vrel bs (canS v) v := by
  unfold canS
  split
  · exact ⟨_, rfl, rfl⟩
  · exact trivial
  · exact trivial
  · exact trivial
  · exact trivial
  · rename_i h1 h2 h3 h4 h5
    cases v with
    | float k b => cases k <;> first | (exact absurd rfl (h1 b)) | rfl
    | pointer a => cases a <;> first | rfl | exact absurd rfl (h2 _)
    | slice a l c => cases a <;> first | rfl | exact absurd rfl (h3 _ l c)
    | agg cs => exact absurd rfl (h4 cs)
    | tuple vs => exact absurd rfl (h5 vs)
    | map r => exact trivial
    | _ => rfl

/-! ### Scalars that are told apart by nothing -/
/-- Values that are just what they are: no float, no address. -/
def isPlain : Value → Bool
  | .bool _ => true
  | .int _ _ => true
  | .string _ => true
  | _ => false

theorem eq_of_plain {bs : List Nat} {x v : Value} (hp : isPlain x = true) (h : vrel bs x v) : v = x := by
  cases x <;> simp [isPlain] at hp <;> exact h
theorem vrel_bool {bs : List Nat} {b : Bool} {v : Value} (h : vrel bs (.bool b) v) : v = .bool b := h
theorem vrel_float {bs : List Nat} {a : Nat} {v : Value} (h : vrel bs (.float .f64 a) v) : ∃ b, v = .float .f64 b ∧ cn b = a := h
theorem vrel_pointer {bs : List Nat} {i o : Nat} {v : Value} (h : vrel bs (.pointer (some ⟨i, o, none⟩)) v) : ∃ b, bs[i]? = some b ∧ v = .pointer (some ⟨b, o, none⟩) := h
theorem vrel_agg {bs : List Nat} {xs : Array Value} {v : Value} (h : vrel bs (.agg xs) v) : ∃ vs, v = .agg vs ∧ rowrel bs xs.toList vs.toList := h
theorem vrel_tuple {bs : List Nat} {xs : Array Value} {v : Value} (h : vrel bs (.tuple xs) v) : ∃ vs, v = .tuple vs ∧ arows bs xs.toList vs.toList := h
theorem vrel_of_arel {bs : List Nat} {x v : Value} (h : arel bs x v) : vrel bs x v := by
  cases x <;> first | exact h | exact (show False from h).elim
theorem arel_of_srel {bs : List Nat} {x v : Value} (h : srel bs x v) : arel bs x v := by
  cases x <;> first | exact h | exact (show False from h).elim | exact trivial
theorem vrel_of_srel {bs : List Nat} {x v : Value} (h : srel bs x v) : vrel bs x v := vrel_of_arel (arel_of_srel h)
/-- A plain result: itself, its NaN taken for one. -/
def canR : Value → Value
  | .float .f64 b => .float .f64 (cn b)
  | .bool b => .bool b
  | .int k n => .int k n
  | .string s => .string s
  | _ => junk
theorem vrel_canR (bs : List Nat) (v : Value) : vrel bs (canR v) v := by
  unfold canR; split <;> first | exact ⟨_, rfl, rfl⟩ | exact rfl | exact trivial

/-- What asks nothing of the world: its outcome. -/
def pureOf {α : Type} (P : Program) : Sem α → Option α
  | .pure a => some a
  | .program k => pureOf P (k P)
  | _ => none
theorem run_of_pureOf {α : Type} {P : Program} (w : World) : ∀ {s : Sem α} {a : α}, pureOf P s = some a → s.run P w = .ok a w := by
  intro s
  induction s with
  | pure b => intro a h; simp [pureOf] at h; subst h; rfl
  | program k ih => intro a h; simp only [Sem.run]; exact ih P h
  | _ => intro a h; simp [pureOf] at h

/-! ### One operation -/
def isAggD : TypeDesc → Bool
  | .struct _ => true
  | .array _ _ => true
  | _ => false

def aload (P : Program) (t : TypeId) (cells : List Value) (o : Nat) : Option Value :=
  match P.underlying t, P.info? t with
  | some d, some i => cond (isAggD d) (cond (Nat.ble (o + i.size) cells.length) (some (.agg ((cells.drop o).take i.size).toArray)) none) cells[o]?
  | _, _ => none

def afield (P : Program) (t : TypeId) (i o f : Nat) : Option Value :=
  match P.underlying t with
  | some (.struct fields) =>
    match fields[f]? with
    | some fd => match P.info? fd.type with
      | some inf => cond (inf.size == 0) none (some (.pointer (some ⟨i, o + fd.offset, none⟩)))
      | none => none
    | none => none
  | _ => none

/-- The address of an element: of an array behind a pointer, of a slice. -/
def aindex (P : Program) (t : TypeId) (x ix : Value) : Option Value :=
  match ix with
  | .int _ k => match P.underlying t, x with
    | some (.array n e), .pointer (some ⟨i, o, none⟩) => match P.info? e with
      | some inf => cond (decide (0 ≤ k) && decide (k < (n : Int))) (some (.pointer (some ⟨i, o + k.toNat * inf.size, none⟩))) none
      | none => none
    | some (.slice e), .slice (some ⟨i, o, none⟩) len _ => match P.info? e with
      | some inf => cond (decide (0 ≤ k) && decide (k < (len : Int))) (some (.pointer (some ⟨i, o + k.toNat * inf.size, none⟩))) none
      | none => none
    | _, _ => none
  | _ => none

/-- An element of an array by value. -/
def aelem (P : Program) (t : TypeId) (x ix : Value) : Option Value :=
  match ix, x, P.underlying t with
  | .int _ k, .agg cs, some (.array n e) => match P.info? e with
    | some inf => cond (decide (0 ≤ k) && decide (k < (n : Int))) (aload P e cs.toList (k.toNat * inf.size)) none
    | none => none
  | _, _, _ => none

/-- A field of a struct by value. -/
def apick (P : Program) (t : TypeId) (x : Value) (f : Nat) : Option Value :=
  match x, P.underlying t with
  | .agg cs, some (.struct fields) => match fields[f]? with
    | some fd => aload P fd.type cs.toList fd.offset
    | none => none
  | _, _ => none

def fbin (op : BinOp) (a b : Nat) : Option Value :=
  match op with
  | .add => some (.float .f64 (fadd a b))
  | .sub => some (.float .f64 (fsub a b))
  | .mul => some (.float .f64 (fmul a b))
  | .quo => some (.float .f64 (fdiv a b))
  | .eql => some (.bool (feq a b))
  | .neq => some (.bool (!feq a b))
  | .lss => some (.bool (flt a b))
  | .leq => some (.bool (fle a b))
  | .gtr => some (.bool (fgt a b))
  | .geq => some (.bool (fge a b))
  | _ => none

def isAggT (P : Program) (t : TypeId) : Bool :=
  match P.underlying t with
  | some d => isAggD d
  | none => false

/-- '==' of two values of a type, cell by cell. -/
def aeq (P : Program) : Nat → TypeId → List Value → List Value → Option Bool
  | 0, _, _, _ => none
  | n + 1, t, xs, ys => match P.underlying t with
    | some (.struct fs) => cond (P.stoodInHeld t) none (fs.toList.foldr (fun f acc => match P.info? f.type, acc with
      | some inf, some b => cond ((f.name == "_") || (inf.size == 0) || Nat.blt xs.length (f.offset + inf.size) || Nat.blt ys.length (f.offset + inf.size)) none
          ((aeq P n f.type ((xs.drop f.offset).take inf.size) ((ys.drop f.offset).take inf.size)).map (· && b))
      | _, _ => none) (some true))
    | some (.array len e) => match P.info? e with
      | some inf => (List.range len).foldr (fun i acc => match acc with
        | some b => cond ((inf.size == 0) || Nat.blt xs.length (i * inf.size + inf.size) || Nat.blt ys.length (i * inf.size + inf.size)) none
            ((aeq P n e ((xs.drop (i * inf.size)).take inf.size) ((ys.drop (i * inf.size)).take inf.size)).map (· && b))
        | none => none) (some true)
      | none => none
    | some (.float .f64) => match xs, ys with
      | [.float .f64 a], [.float .f64 b] => some (feq a b)
      | _, _ => none
    | some (.int _) => match xs, ys with
      | [.int k a], [.int k' b] => cond (decide (k = k')) (some (a == b)) none
      | _, _ => none
    | some .bool => match xs, ys with
      | [.bool a], [.bool b] => some (a == b)
      | _, _ => none
    | _ => none

def abin (P : Program) (op : BinOp) (t : TypeId) (x y : Value) : Option Value :=
  match x, y with
  | .float .f64 a, .float .f64 b => fbin op a b
  | .agg xs, .agg ys => cond (isAggT P t && !P.eqGuardType P.depth t) (match op, aeq P 8 t xs.toList ys.toList with
    | .eql, some b => some (.bool b)
    | .neq, some b => some (.bool !b)
    | _, _ => none) none
  | x, y => cond (isPlain x && isPlain y) ((pureOf P (binOp op t x y)).map canR) none

def aun (P : Program) (op : UnOp) (x : Value) : Option Value :=
  match op, x with
  | .neg, .float .f64 a => some (.float .f64 (fneg a))
  | op, x => cond (isPlain x) ((pureOf P (Op.unary op x)).map canR) none

end Go.Ev
