/-
  A text cut in two: what lies in slots at the cut may be told otherwise, where it is the same.
-/
import Derived.Test.YtfiihlgnbhcpeaiGreatEv7
namespace Go.Ev

/-- Statements one behind the other, never one within another. -/
def flatApp : Code → Code → Code
  | .seq a b, r => flatApp a (flatApp b r)
  | c, r => .seq c r
def cutAt : Nat → Code → Code × Code
  | 0, c => (.skip, c)
  | n + 1, .seq x y => (.seq x (cutAt n y).1, (cutAt n y).2)
  | _, c => (c, .skip)

def kfn (P : Program) (fn : Func) : Kont := fun e s => match e with
  | .normal => aresults P fn s
  | .ret => aresults P fn s
  | _ => none

def thenK (k : Kont) (g : St → Option Value) : Kont := fun e s => match e with
  | .normal => g s
  | e => k e s

section
variable {P : Program} {T : Tab} {D : List Oper → St → (St → Option Value) → Option Value} {N : Nat}

theorem aCode_seq [Tok] (x y : Code) (s : St) (k : Kont) : aCode P T D N (.seq x y) s k = aCode P T D N x s (thenK k fun s' => aCode P T D N y s' k) := by
  simp only [aCode]
  congr 1

theorem flatApp_eq [Tok] : ∀ (c r : Code) (s : St) (k : Kont), aCode P T D N (flatApp c r) s k = aCode P T D N (.seq c r) s k := by
  intro c
  induction c with
  | seq a b iha ihb =>
    intro r s k
    simp only [flatApp]
    rw [iha, aCode_seq, aCode_seq, aCode_seq]
    congr 1
    funext e s'
    cases e <;> simp only [thenK]
    rw [ihb, aCode_seq]
  | _ => intro r s k; rfl

theorem thenK_normal (k : Kont) : thenK k (k .normal) = k := by funext e s; cases e <;> rfl

theorem cutAt_eq [Tok] : ∀ (n : Nat) (c : Code) (s : St) (k : Kont), aCode P T D N c s k = aCode P T D N (cutAt n c).1 s (thenK k fun s' => aCode P T D N (cutAt n c).2 s' k) := by
  intro n
  induction n with
  | zero => intro c s k; rfl
  | succ n ih =>
    intro c s k
    cases c with
    | seq x y =>
      simp only [cutAt]
      rw [aCode_seq, aCode_seq]
      congr 1
      funext e s'
      cases e <;> simp only [thenK]
      rw [ih]
    | _ => first | (simp only [cutAt, aCode]; done) | (simp only [cutAt, aCode]; rw [thenK_normal]) | rfl
end

/-- The text up to its n-th statement; what lies in the slots there goes through f; the rest. -/
def stage [Tok] (P : Program) (L : List Entry) (fn : Func) (n : Nat) (f : St → St) (args : List Value) : Option Value :=
  match fn.body with
  | some c => aCode P (tab L) (drawnK P (tab L)) 40 (cutAt n (flatApp c .skip)).1 (start fn [] args) (thenK (kfn P fn) fun s => aCode P (tab L) (drawnK P (tab L)) 40 (cutAt n (flatApp c .skip)).2 (f s) (kfn P fn))
  | none => none

theorem ev_stage [Tok] (P : Program) (L : List Entry) (fn : Func) (n : Nat) (args : List Value) : ev P L fn args = stage P L fn n id args := by
  unfold ev abody stage
  cases hb : fn.body with
  | none => rfl
  | some c =>
    simp only
    show aCode P (tab L) (drawnK P (tab L)) 40 c (start fn [] args) (kfn P fn) = _
    have h1 : aCode P (tab L) (drawnK P (tab L)) 40 (flatApp c .skip) (start fn [] args) (kfn P fn) = aCode P (tab L) (drawnK P (tab L)) 40 c (start fn [] args) (kfn P fn) := by
      rw [flatApp_eq, aCode_seq]
      have : (thenK (kfn P fn) fun s' => aCode P (tab L) (drawnK P (tab L)) 40 .skip s' (kfn P fn)) = kfn P fn := thenK_normal _
      rw [this]
    rw [← h1]
    exact cutAt_eq n _ _ _

/-- Slots told otherwise. -/
def inject (l : List (Nat × Value)) (s : St) : St := { s with slots := l.foldl (fun sl p => sl.set p.1 (p.2, [])) s.slots }

/-- The text up to its n-th statement, and what goes on there. -/
def upto [Tok] (P : Program) (L : List Entry) (fn : Func) (n : Nat) (args : List Value) (k : Kont) : Option Value :=
  match fn.body with
  | some c => aCode P (tab L) (drawnK P (tab L)) 40 (cutAt n (flatApp c .skip)).1 (start fn [] args) k
  | none => none
/-- A state as a value, and back. -/
def encS (s : St) : Value := .tuple #[.tuple (s.slots.map (·.1)).toArray, .tuple (s.mem.map fun r => .tuple r.toArray).toArray, .int .i64 s.ro]
def rowsD : List Value → List (List Value)
  | [] => []
  | .tuple r :: l => r.toList :: rowsD l
  | _ :: l => [] :: rowsD l
def decS : Option Value → St
  | some (.tuple ⟨[.tuple sl, .tuple m, .int .i64 (.ofNat n)]⟩) => { slots := sl.toList.map fun v => (v, []), mem := rowsD m.toList, ro := n }
  | _ => { slots := [], mem := [], ro := 0 }
/-- The state at the cut. -/
def atCut [Tok] (P : Program) (L : List Entry) (fn : Func) (n : Nat) (args : List Value) : St := decS (upto P L fn n args fun _ s => some (encS s))
/-- The text from the n-th statement on. -/
def from_ [Tok] (P : Program) (L : List Entry) (fn : Func) (n : Nat) (s : St) : Option Value :=
  match fn.body with
  | some c => aCode P (tab L) (drawnK P (tab L)) 40 (cutAt n (flatApp c .skip)).2 s (kfn P fn)
  | none => none
theorem ev_cut [Tok] {P : Program} {L : List Entry} {fn : Func} (n : Nat) {args : List Value} {S : St} (h : ∀ k : Kont, upto P L fn n args k = k .normal S) : ev P L fn args = from_ P L fn n S := by
  rw [ev_stage _ _ _ n]
  unfold stage from_
  unfold upto at h
  cases hb : fn.body with
  | none => rfl
  | some c =>
    simp only [hb] at h
    simp only
    rw [h]
    rfl

end Go.Ev
