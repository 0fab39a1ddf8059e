/-
  A loop that is told, and begins with a nil slice in a struct of ours.
-/
import Derived.Test.YtcdhdnfkcmjnpaaDoorC8
namespace Go.Gv
open Go.RowKit Go.Ev
noncomputable section

def nilCells (nils:List (Nat × Nat × Nat)) (σ:Nat→Option Nat):Nat→List AV→List AV
  | _,[]=>[]
  | i,x::xs=>nilR σ (nilAt nils i) x::nilCells nils σ (i+1) xs
theorem nilCells_sub {nils:List (Nat × Nat × Nat)} {σ:Nat→Option Nat}:∀ (i:Nat) (l:List AV),CellSub σ l (nilCells nils σ i l)
  | _,[]=>trivial
  | i,_::xs=>⟨nilR_sub _ _,nilCells_sub (i+1) xs⟩
theorem nilCells_length {nils:List (Nat × Nat × Nat)} {σ:Nat→Option Nat}:∀ (i:Nat) (l:List AV),(nilCells nils σ i l).length=l.length
  | _,[]=>rfl
  | i,_::xs=>by rw [nilCells,List.length_cons,List.length_cons,nilCells_length (i+1) xs]
def keepRC1 (r0:Nat) (nils:List (Nat × Nat × Nat)) (σ:Nat→Option Nat) (k:Nat):Row→Row
  | .c l=>cond (Nat.beq k r0) (.c (nilCells nils σ 0 l)) (.c (renL σ l))
  | .z _ _ _ _ _=>.dead
  | .t e l=>cond (Nat.beq k r0) (.t e (nilCells nils σ 0 l)) (.t e (renL σ l))
  | r=>r
def keepRC (r0:Nat) (nils:List (Nat × Nat × Nat)) (τ:List (Option Nat)) (mem:List Row) (nr:Row):List (Option Nat)→List Row
  | []=>[]
  | none::os=>nr::keepRC r0 nils τ mem nr os
  | some k::os=>keepRC1 r0 nils (renOf τ) k (mem.getD k .dead)::keepRC r0 nils τ mem nr os
theorem keepRC_sub {r0:Nat} {nils:List (Nat × Nat × Nat)} {τ:List (Option Nat)} {mem:List Row} {nr:Row}:∀ (os:List (Option Nat)),(os.all fun o=>match o with | some k=>Nat.blt k mem.length | none=>true)=true→RowSubs τ mem os (keepRC r0 nils τ mem nr os)
  | [],_=>trivial
  | none::os,h=>⟨trivial,keepRC_sub os (by simpa using h)⟩
  | some k::os,h=>by
    simp only [List.all_cons,Bool.and_eq_true] at h
    have hk:k < mem.length:=lt_of_blt h.1
    refine ⟨⟨mem[k],List.getElem?_eq_getElem hk,?_⟩,keepRC_sub os h.2⟩
    have e:mem.getD k .dead=mem[k]:=by rw [List.getD_eq_getElem?_getD,List.getElem?_eq_getElem hk]; rfl
    rw [e]
    cases hr:mem[k] with
    | c l =>
      simp only [keepRC1]
      cases Nat.beq k r0
      · exact Or.inr (Or.inl ⟨l,renL (renOf τ) l,rfl,rfl,renL_sub l⟩)
      · exact Or.inr (Or.inl ⟨l,nilCells nils (renOf τ) 0 l,rfl,rfl,nilCells_sub 0 l⟩)
    | a e sz n el=>exact Or.inr (Or.inr (Or.inl ⟨e,sz,n,el,el,rfl,rfl,fun _ _=>rfl⟩))
    | dead=>exact Or.inl rfl
    | z x e sz n el=>exact Or.inl rfl
    | t e l =>
      simp only [keepRC1]
      cases Nat.beq k r0
      · exact Or.inr (Or.inr (Or.inr ⟨e,l,renL (renOf τ) l,rfl,rfl,renL_sub l,renL_length l⟩))
      · exact Or.inr (Or.inr (Or.inr ⟨e,l,nilCells nils (renOf τ) 0 l,rfl,rfl,nilCells_sub 0 l,nilCells_length 0 l⟩))
def fgtC (keep:List Nat) (r0:Nat) (nils:List (Nat × Nat × Nat)) (nr:Row) (τ:List (Option Nat)) (s:St):St:=⟨keepS keep (renOf τ) 0 s.slots,keepRC r0 nils τ s.mem nr τ⟩
theorem fgtC_sub {keep:List Nat} {r0:Nat} {nils:List (Nat × Nat × Nat)} {nr:Row} {τ:List (Option Nat)} {s:St} (h:fgtOk τ s=true):Sub s (fgtC keep r0 nils nr τ s):=by
  unfold fgtOk at h
  simp only [Bool.and_eq_true] at h
  exact sub_of τ h.1 (keepS_sub 0 s.slots) (keepRC_sub τ h.2)
noncomputable def toldC (keep:List Nat) (r0:Nat) (nils:List (Nat × Nat × Nat)) (nr:Row) (τ:List (Option Nat)) (s0:St) (e:Exit) (sf:St):LFun:=fun s k=>cond (fgtOk τ s) (gate (Sub (fgtC keep r0 nils nr τ s) s0) (k e sf)) none
theorem toldC_sound {P:Program} {c:Code} {keep:List Nat} {r0:Nat} {nils:List (Nat × Nat × Nat)} {nr:Row} {τ:List (Option Nat)} {s0 sf:St} {e:Exit} (h:Leads P (.loop c) s0 e sf):LSound P c (toldC keep r0 nils nr τ s0 e sf):=by
  have h1:=told_sound h
  have get:∀ {s:St} {k:Kont} {r:Out},toldC keep r0 nils nr τ s0 e sf s k=some r→Sub s s0∧k e sf=some r:=fun {s k r} hr=>by
    unfold toldC at hr
    cases hf:fgtOk τ s
    · rw [hf] at hr; cases hr
    · rw [hf] at hr
      simp only [cond_true] at hr
      obtain ⟨h2,h3⟩:=gate_some hr
      exact ⟨(fgtC_sub hf).trans h2,h3⟩
  have eq:∀ {s:St} {k:Kont} {r:Out},toldC keep r0 nils nr τ s0 e sf s k=some r→∀ k',toldC keep r0 nils nr τ s0 e sf s k'=k' e sf:=fun {s k r} hr k'=>by
    unfold toldC at hr ⊢
    cases hf:fgtOk τ s
    · rw [hf] at hr; cases hr
    · rw [hf] at hr
      simp only [cond_true] at hr ⊢
      rw [gate_pos (gate_some hr).1]
  have eq1:∀ {s:St} {k:Kont} {r:Out},toldC keep r0 nils nr τ s0 e sf s k=some r→∀ k',told s0 e sf s k'=k' e sf:=fun {s k r} hr k'=>by
    unfold told
    rw [if_pos (get hr).1]
  constructor
  · intro s k r hr
    exact ⟨e,sf,(get hr).2,eq hr⟩
  · intro s s' e' hk
    have h0:=hk (fun e s=>some ⟨e,s,.any⟩)
    refine h1.2 s s' e' fun k'=>?_
    rw [eq1 h0 k',← eq h0 k']
    exact hk k'
end
end Go.Gv
