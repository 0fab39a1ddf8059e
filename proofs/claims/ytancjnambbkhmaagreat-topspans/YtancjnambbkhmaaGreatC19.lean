/-
  Sq1 Gyo So8 So9, one behind the other.
-/
import Derived.Test.YtancjnambbkhmaaGreatC18
import Derived.Test.YtancjnambbkhmaaGreatC17
import Derived.Test.YtancjnambbkhmaaGreatC16
namespace Go.Proofs.YtancjnambbkhmaaGreat.Hs.So
open Go.Ev (flt fle fgt fge isNan key flt_key fgt_key fle_key fge_key flt_true)

structure Gd (s : Spn) : Prop where
  ni : isNan s.i.t = false
  no : isNan s.o.t = false
  lt : key s.i.t < key s.o.t
def Ris (L : List Spn) : Prop := L.Pairwise (fun a b => key a.o.t < key b.i.t) ∧ ∀ s, s ∈ L → Gd s
def Wn (s a : Spn) : Prop := key a.i.t ≤ key s.i.t ∧ key s.o.t ≤ key a.o.t
theorem ris_nil : Ris [] := ⟨List.Pairwise.nil, fun s h => by cases h⟩
theorem ris_one {s : Spn} (h : Gd s) : Ris [s] := ⟨List.pairwise_singleton _ _, fun x hx => by rw [List.mem_singleton] at hx; subst hx; exact h⟩
theorem ris_tail {a : Spn} {l : List Spn} (h : Ris (a :: l)) : Ris l := ⟨(List.pairwise_cons.1 h.1).2, fun s hs => h.2 s (List.mem_cons_of_mem _ hs)⟩
theorem ris_head {a : Spn} {l : List Spn} (h : Ris (a :: l)) : Gd a ∧ ∀ b, b ∈ l → key a.o.t < key b.i.t := ⟨h.2 a List.mem_cons_self, (List.pairwise_cons.1 h.1).1⟩
theorem ris_app {l m : List Spn} (h : Ris l) (g : Ris m) (k : ∀ a, a ∈ l → ∀ b, b ∈ m → key a.o.t < key b.i.t) : Ris (l ++ m) :=
  ⟨List.pairwise_append.2 ⟨h.1, g.1, k⟩, fun s hs => (List.mem_append.1 hs).elim (h.2 s) (g.2 s)⟩
theorem ris_left {l m : List Spn} (h : Ris (l ++ m)) : Ris l := ⟨(List.pairwise_append.1 h.1).1, fun s hs => h.2 s (List.mem_append_left _ hs)⟩
theorem ris_flat {A : List Spn} {f : Spn → List Spn} (h : Ris A) (hf : ∀ a, a ∈ A → Ris (f a) ∧ ∀ s, s ∈ f a → Wn s a) : Ris (A.flatMap f) := by
  refine ⟨List.pairwise_flatMap.2 ⟨fun a ha => (hf a ha).1.1, ?_⟩, fun s hs => ?_⟩
  · refine List.Pairwise.imp_of_mem (fun {a b} ha hb hab x hx y hy => ?_) h.1
    have := (hf a ha).2 x hx
    have := (hf b hb).2 y hy
    unfold Wn at *
    omega
  · obtain ⟨a, ha, hs⟩ := List.mem_flatMap.1 hs
    exact (hf a ha).1.2 s hs
/-- The piece from one cross to another, if it has a length. -/
def piece (a b : Crs) : List Spn := cond (flt a.t b.t) [⟨a, b⟩] []
theorem piece_mem {a b : Crs} {s : Spn} (h : s ∈ piece a b) : s = ⟨a, b⟩ ∧ Gd s := by
  unfold piece at h
  cases hf : flt a.t b.t <;> rw [hf] at h
  · cases h
  · have e := List.mem_singleton.1 h
    subst e
    have := flt_true hf
    exact ⟨rfl, this.1, this.2.1, this.2.2⟩
theorem piece_ris (a b : Crs) : Ris (piece a b) := by
  refine ⟨?_, fun s hs => (piece_mem hs).2⟩
  unfold piece
  cases flt a.t b.t
  · exact List.Pairwise.nil
  · exact List.pairwise_singleton _ _
theorem late_key {a b : Crs} (ha : isNan a.t = false) (hb : isNan b.t = false) : key a.t ≤ key (lateS a b).t ∧ key b.t ≤ key (lateS a b).t := by
  unfold lateS
  rw [fgt_key hb ha]
  by_cases h : key a.t < key b.t
  · rw [decide_eq_true h, cond_true]; omega
  · rw [decide_eq_false h, cond_false]; omega
theorem earl_key {a b : Crs} (ha : isNan a.t = false) (hb : isNan b.t = false) : key (earlS a b).t ≤ key a.t ∧ key (earlS a b).t ≤ key b.t := by
  unfold earlS
  rw [flt_key hb ha]
  by_cases h : key b.t < key a.t
  · rw [decide_eq_true h, cond_true]; omega
  · rw [decide_eq_false h, cond_false]; omega
theorem late_or (a b : Crs) : lateS a b = a ∨ lateS a b = b := by unfold lateS; cases fgt b.t a.t; exact Or.inl rfl; exact Or.inr rfl
theorem earl_or (a b : Crs) : earlS a b = a ∨ earlS a b = b := by unfold earlS; cases flt b.t a.t; exact Or.inl rfl; exact Or.inr rfl
def both1 (l r : Spn) : List Spn := piece (lateS l.i r.i) (earlS l.o r.o)
def bothL (A B : List Spn) : List Spn := A.flatMap fun l => B.flatMap fun r => both1 l r
theorem both1_wn {l r s : Spn} (hl : Gd l) (hr : Gd r) (h : s ∈ both1 l r) : Wn s l ∧ Wn s r := by
  have e := (piece_mem h).1
  subst e
  have := late_key hl.ni hr.ni
  have := earl_key hl.no hr.no
  unfold Wn
  show (key l.i.t ≤ key (lateS l.i r.i).t ∧ key (earlS l.o r.o).t ≤ key l.o.t) ∧ (key r.i.t ≤ key (lateS l.i r.i).t ∧ key (earlS l.o r.o).t ≤ key r.o.t)
  omega
theorem both_ris {A B : List Spn} (hA : Ris A) (hB : Ris B) : Ris (bothL A B) :=
  ris_flat hA fun l hl => ⟨ris_flat hB fun r hr => ⟨piece_ris _ _, fun s hs => (both1_wn (hA.2 l hl) (hB.2 r hr) hs).2⟩, fun s hs => by
    obtain ⟨r, hr, hs⟩ := List.mem_flatMap.1 hs
    exact (both1_wn (hA.2 l hl) (hB.2 r hr) hs).1⟩
def skipB (h : Spn) (g e : Crs) : Bool := fle h.o.t g.t || fge h.i.t e.t
def cutC (e : Crs) : List Spn → Crs → List Spn
  | [], g => piece g e
  | h :: t, g => cond (skipB h g e) (cutC e t g) (piece g (turnS h.i) ++ cutC e t (turnS h.o))
def lessL (A B : List Spn) : List Spn := A.flatMap fun l => cutC l.o B l.i
theorem cut_ris : ∀ (B : List Spn), Ris B → ∀ (g e : Crs), isNan g.t = false → isNan e.t = false → Ris (cutC e B g) ∧ ∀ s, s ∈ cutC e B g → Wn s ⟨g, e⟩
  | [], _, g, e, _, _ => ⟨piece_ris _ _, fun s hs => by
    have := (piece_mem hs).1
    show Wn s ⟨g, e⟩
    rw [this]; unfold Wn; exact ⟨Int.le_refl _, Int.le_refl _⟩⟩
  | h :: t, hB, g, e, ng, ne => by
    have gh := ris_head hB
    unfold cutC
    cases hs : skipB h g e
    · rw [cond_false]
      unfold skipB at hs
      rw [fle_key gh.1.no ng, fge_key gh.1.ni ne] at hs
      have hs := Bool.or_eq_false_iff.1 hs
      have s1 := of_decide_eq_false hs.1
      have s2 := of_decide_eq_false hs.2
      have ih := cut_ris t (ris_tail hB) (turnS h.o) e gh.1.no ne
      refine ⟨ris_app (piece_ris _ _) ih.1 fun a ha b hb => ?_, fun s hs => ?_⟩
      · have e1 := (piece_mem ha).1
        have := (ih.2 b hb).1
        have := gh.1.lt
        rw [e1]
        show key h.i.t < key b.i.t
        have : key h.o.t ≤ key b.i.t := (ih.2 b hb).1
        omega
      · rcases List.mem_append.1 hs with hs | hs
        · have e1 := (piece_mem hs).1
          rw [e1]
          exact ⟨Int.le_refl _, by show key h.i.t ≤ key e.t; omega⟩
        · have q := ih.2 s hs
          have q1 : key h.o.t ≤ key s.i.t := q.1
          exact ⟨by show key g.t ≤ key s.i.t; omega, q.2⟩
    · rw [cond_true]; exact cut_ris t (ris_tail hB) g e ng ne
theorem less_ris {A B : List Spn} (hA : Ris A) (hB : Ris B) : Ris (lessL A B) :=
  ris_flat hA fun l hl => cut_ris B hB l.i l.o (hA.2 l hl).ni (hA.2 l hl).no
def dS : Spn := ⟨⟨0, 0, false⟩, ⟨0, 0, false⟩⟩
def lastS (L : List Spn) : Spn := L.getD (L.length - 1) dS
def swp (L : List Spn) (s : Spn) : List Spn := cond ((L.length == 0) || fgt s.i.t (lastS L).o.t) (L ++ [s]) (L.set (L.length - 1) ⟨(lastS L).i, lateS (lastS L).o s.o⟩)
theorem swp_nil (s : Spn) : swp [] s = [s] := rfl
theorem swp_concat (L : List Spn) (l s : Spn) : swp (L ++ [l]) s = cond (fgt s.i.t l.o.t) (L ++ [l] ++ [s]) (L ++ [⟨l.i, lateS l.o s.o⟩]) := by
  unfold swp
  have e1 : lastS (L ++ [l]) = l := by
    unfold lastS
    rw [List.length_append, List.length_singleton, Nat.add_sub_cancel, List.getD_eq_getElem?_getD, List.getElem?_append_right (Nat.le_refl _), Nat.sub_self]; rfl
  rw [e1]
  have e2 : ((L ++ [l]).length == 0) = false := by rw [List.length_append, List.length_singleton]; rfl
  rw [e2, Bool.false_or]
  have e3 : (L ++ [l]).set ((L ++ [l]).length - 1) ⟨l.i, lateS l.o s.o⟩ = L ++ [⟨l.i, lateS l.o s.o⟩] := by
    rw [List.length_append, List.length_singleton, Nat.add_sub_cancel, List.set_append_right _ _ (Nat.le_refl _), Nat.sub_self]; rfl
  rw [e3]
theorem swp_ris {L : List Spn} {s : Spn} (hL : Ris L) (hs : Gd s) : Ris (swp L s) := by
  rcases List.eq_nil_or_concat L with h | ⟨L', l, h⟩
  · subst h; exact ris_one hs
  · rw [List.concat_eq_append] at h
    subst h
    rw [swp_concat]
    have gl : Gd l := hL.2 l (List.mem_append_right _ List.mem_cons_self)
    have pl := (List.pairwise_append.1 hL.1).2.2
    cases hf : fgt s.i.t l.o.t
    · rw [cond_false]
      have hk := late_key gl.no hs.no
      refine ris_app (ris_left hL) (ris_one ⟨gl.ni, ?_, ?_⟩) fun a ha b hb => ?_
      · show isNan (lateS l.o s.o).t = false
        rcases late_or l.o s.o with h | h <;> rw [h]
        · exact gl.no
        · exact hs.no
      · show key l.i.t < key (lateS l.o s.o).t
        have := gl.lt
        omega
      · rw [List.mem_singleton.1 hb]
        exact pl a ha l List.mem_cons_self
    · rw [cond_true]
      rw [fgt_key hs.ni gl.no] at hf
      have hf := of_decide_eq_true hf
      refine ris_app hL (ris_one hs) fun a ha b hb => ?_
      rw [List.mem_singleton.1 hb]
      rcases List.mem_append.1 ha with ha | ha
      · have := pl a ha l List.mem_cons_self
        have := gl.lt
        omega
      · rw [List.mem_singleton.1 ha]; exact hf
theorem fold_ris : ∀ (M : List Spn) (L : List Spn), Ris L → (∀ s, s ∈ M → Gd s) → Ris (M.foldl swp L)
  | [], _, h, _ => h
  | s :: M, _, h, g => fold_ris M _ (swp_ris h (g s List.mem_cons_self)) fun x hx => g x (List.mem_cons_of_mem _ hx)
/-- Two rows by their beginnings; of two that are the same the first's. -/
def mrg : List Spn → List Spn → List Spn
  | [], B => B
  | a :: A, [] => a :: A
  | a :: A, b :: B => cond (fle a.i.t b.i.t) (a :: mrg A (b :: B)) (b :: mrg (a :: A) B)
  termination_by A B => A.length + B.length
theorem mrg_mem : ∀ (A B : List Spn) (s : Spn), s ∈ mrg A B → s ∈ A ∨ s ∈ B
  | [], B, s, h => by rw [mrg] at h; exact Or.inr h
  | a :: A, [], s, h => by rw [mrg] at h; exact Or.inl h
  | a :: A, b :: B, s, h => by
    rw [mrg] at h
    cases hf : fle a.i.t b.i.t <;> rw [hf] at h
    · rcases List.mem_cons.1 h with h | h
      · exact Or.inr (by rw [h]; exact List.mem_cons_self)
      · rcases mrg_mem (a :: A) B s h with h | h
        · exact Or.inl h
        · exact Or.inr (List.mem_cons_of_mem _ h)
    · rcases List.mem_cons.1 h with h | h
      · exact Or.inl (by rw [h]; exact List.mem_cons_self)
      · rcases mrg_mem A (b :: B) s h with h | h
        · exact Or.inl (List.mem_cons_of_mem _ h)
        · exact Or.inr h
  termination_by A B => A.length + B.length
def eitherL (A B : List Spn) : List Spn := (mrg A B).foldl swp []
theorem either_ris {A B : List Spn} (hA : Ris A) (hB : Ris B) : Ris (eitherL A B) :=
  fold_ris _ _ ris_nil fun s hs => by
    rcases mrg_mem A B s hs with h | h
    · exact hA.2 s h
    · exact hB.2 s h
def befB (x y : Spn) : Bool := flt x.i.t y.i.t
def ins : List Spn → Spn → List Spn
  | [], x => [x]
  | y :: l, x => cond ((y :: l).all (befB x)) (x :: y :: l) (y :: ins l x)
theorem ins_front {l : List Spn} {x : Spn} (h : ∀ y, y ∈ l → befB x y = true) : ins l x = x :: l := by
  cases l with
  | nil => rfl
  | cons y l =>
    unfold ins
    rw [show (y :: l).all (befB x) = true from List.all_eq_true.2 h]
    rfl
theorem ins_pass {a : Spn} {l : List Spn} {x : Spn} (h : befB x a = false) : ins (a :: l) x = a :: ins l x := by
  show cond ((a :: l).all (befB x)) _ _ = _
  rw [show (a :: l).all (befB x) = false by rw [List.all_cons, h, Bool.false_and]]
  rfl
theorem fold_pass : ∀ (B : List Spn) (a : Spn) (A : List Spn), (∀ b, b ∈ B → befB b a = false) → B.foldl ins (a :: A) = a :: B.foldl ins A
  | [], _, _, _ => rfl
  | b :: B, a, A, h => by
    show B.foldl ins (ins (a :: A) b) = a :: B.foldl ins (ins A b)
    rw [ins_pass (h b List.mem_cons_self)]
    exact fold_pass B a _ fun x hx => h x (List.mem_cons_of_mem _ hx)
theorem bef_f {a b : Spn} (ha : Gd a) (hb : Gd b) (h : key a.i.t ≤ key b.i.t) : befB b a = false := by unfold befB; rw [flt_key hb.ni ha.ni, decide_eq_false (by omega)]
theorem bef_t {a b : Spn} (ha : Gd a) (hb : Gd b) (h : key b.i.t < key a.i.t) : befB b a = true := by unfold befB; rw [flt_key hb.ni ha.ni, decide_eq_true h]
theorem ris_lt {a b : Spn} {l : List Spn} (h : Ris (a :: l)) (hb : b ∈ l) : key a.i.t < key b.i.t := by
  have := (ris_head h).2 b hb
  have := (ris_head h).1.lt
  omega
theorem fold_nil : ∀ (B : List Spn), Ris B → B.foldl ins [] = B
  | [], _ => rfl
  | b :: B, h => by
    show B.foldl ins [b] = b :: B
    rw [fold_pass B b [] fun x hx => bef_f (ris_head h).1 ((ris_tail h).2 x hx) (Int.le_of_lt (ris_lt h hx)), fold_nil B (ris_tail h)]
/-- Laid one behind the other from behind, two rows that rise become the row of both by their beginnings. -/
theorem fold_mrg : ∀ (A B : List Spn), Ris A → Ris B → B.foldl ins A = mrg A B
  | [], B, _, hB => by rw [mrg]; exact fold_nil B hB
  | a :: A, [], _, _ => by rw [mrg]; rfl
  | a :: A, b :: B, hA, hB => by
    rw [mrg]
    have ga := (ris_head hA).1
    have gb := (ris_head hB).1
    rw [fle_key ga.ni gb.ni]
    by_cases h : key a.i.t ≤ key b.i.t
    · rw [decide_eq_true h, cond_true, fold_pass (b :: B) a A, fold_mrg A (b :: B) (ris_tail hA) hB]
      intro x hx
      refine bef_f ga (hB.2 x hx) ?_
      rcases List.mem_cons.1 hx with e | hx
      · rw [e]; exact h
      · have := ris_lt hB hx; omega
    · rw [decide_eq_false h, cond_false]
      show B.foldl ins (ins (a :: A) b) = _
      rw [ins_front, fold_pass B b (a :: A), fold_mrg (a :: A) B hA (ris_tail hB)]
      · intro x hx
        exact bef_f gb ((ris_tail hB).2 x hx) (Int.le_of_lt (ris_lt hB hx))
      · intro y hy
        refine bef_t (hA.2 y hy) gb ?_
        rcases List.mem_cons.1 hy with e | hy
        · rw [e]; omega
        · have := ris_lt hA hy; omega
  termination_by A B => A.length + B.length
/-- The whole sorted: the first row is laid as it is. -/
theorem fold_all {A B : List Spn} (hA : Ris A) (hB : Ris B) : (A ++ B).foldl ins [] = mrg A B := by
  rw [List.foldl_append, fold_nil A hA, fold_mrg A B hA hB]
def Fr (D : Nat → Prop) (L : List Spn) : Prop := ∀ s, s ∈ L → D s.i.t ∧ D s.o.t
theorem fr_piece {D : Nat → Prop} {a b : Crs} (ha : D a.t) (hb : D b.t) : Fr D (piece a b) := fun s hs => by rw [(piece_mem hs).1]; exact ⟨ha, hb⟩
theorem fr_late {D : Nat → Prop} {a b : Crs} (ha : D a.t) (hb : D b.t) : D (lateS a b).t := by rcases late_or a b with h | h <;> rw [h] <;> assumption
theorem fr_earl {D : Nat → Prop} {a b : Crs} (ha : D a.t) (hb : D b.t) : D (earlS a b).t := by rcases earl_or a b with h | h <;> rw [h] <;> assumption
theorem fr_both {D : Nat → Prop} {A B : List Spn} (hA : Fr D A) (hB : Fr D B) : Fr D (bothL A B) := fun s hs => by
  obtain ⟨l, hl, hs⟩ := List.mem_flatMap.1 hs
  obtain ⟨r, hr, hs⟩ := List.mem_flatMap.1 hs
  exact fr_piece (fr_late (hA l hl).1 (hB r hr).1) (fr_earl (hA l hl).2 (hB r hr).2) s hs
theorem fr_cut {D : Nat → Prop} : ∀ {B : List Spn} {g e : Crs}, Fr D B → D g.t → D e.t → Fr D (cutC e B g)
  | [], _, _, _, hg, he => fr_piece hg he
  | h :: t, g, e, hB, hg, he => by
    have ht : Fr D t := fun s hs => hB s (List.mem_cons_of_mem _ hs)
    have hh := hB h List.mem_cons_self
    unfold cutC
    cases skipB h g e
    · intro s hs
      rcases List.mem_append.1 hs with hs | hs
      · exact fr_piece (b := turnS h.i) hg hh.1 s hs
      · exact fr_cut (g := turnS h.o) ht hh.2 he s hs
    · exact fr_cut ht hg he
theorem fr_less {D : Nat → Prop} {A B : List Spn} (hA : Fr D A) (hB : Fr D B) : Fr D (lessL A B) := fun s hs => by
  obtain ⟨l, hl, hs⟩ := List.mem_flatMap.1 hs
  exact fr_cut hB (hA l hl).1 (hA l hl).2 s hs
theorem fr_app {D : Nat → Prop} {A B : List Spn} (hA : Fr D A) (hB : Fr D B) : Fr D (A ++ B) := fun s hs => by
  rcases List.mem_append.1 hs with h | h
  · exact hA s h
  · exact hB s h
theorem fr_one {D : Nat → Prop} {s : Spn} (h1 : D s.i.t) (h2 : D s.o.t) : Fr D [s] := fun x hx => by rw [List.mem_singleton.1 hx]; exact ⟨h1, h2⟩
theorem fr_swp {D : Nat → Prop} {L : List Spn} {s : Spn} (hL : Fr D L) (hs : D s.i.t ∧ D s.o.t) : Fr D (swp L s) := by
  rcases List.eq_nil_or_concat L with h | ⟨L', l, h⟩
  · subst h; exact fr_one hs.1 hs.2
  · rw [List.concat_eq_append] at h
    subst h
    rw [swp_concat]
    have hl := hL l (List.mem_append_right _ List.mem_cons_self)
    cases fgt s.i.t l.o.t
    · exact fr_app (fun x hx => hL x (List.mem_append_left _ hx)) (fr_one hl.1 (fr_late hl.2 hs.2))
    · exact fr_app hL (fr_one hs.1 hs.2)
theorem fr_fold {D : Nat → Prop} : ∀ (M L : List Spn), Fr D L → Fr D M → Fr D (M.foldl swp L)
  | [], _, h, _ => h
  | s :: M, _, h, g => fr_fold M _ (fr_swp h (g s List.mem_cons_self)) fun x hx => g x (List.mem_cons_of_mem _ hx)
theorem fr_either {D : Nat → Prop} {A B : List Spn} (hA : Fr D A) (hB : Fr D B) : Fr D (eitherL A B) :=
  fr_fold _ _ (fun s hs => by cases hs) fun s hs => by
    rcases mrg_mem A B s hs with h | h
    · exact hA s h
    · exact hB s h
theorem len_sub : ∀ (l D : List Nat), l.Nodup → (∀ x, x ∈ l → x ∈ D) → l.length ≤ D.length
  | [], _, _, _ => Nat.zero_le _
  | a :: l, D, h, hs => by
    have ha := hs a List.mem_cons_self
    have hn := List.nodup_cons.1 h
    have := len_sub l (D.erase a) hn.2 fun x hx => by
      have hne : x ≠ a := fun e => by rw [e] at hx; exact hn.1 hx
      exact (List.mem_erase_of_ne hne).2 (hs x (List.mem_cons_of_mem _ hx))
    rw [List.length_erase_of_mem ha] at this
    have := List.length_pos_of_mem ha
    rw [List.length_cons]
    omega
def endsL (L : List Spn) : List Nat := L.flatMap fun s => [s.i.t, s.o.t]
theorem ends_len : ∀ L, (endsL L).length = 2 * L.length
  | [] => rfl
  | a :: L => by
    show (a.i.t :: a.o.t :: endsL L).length = _
    rw [List.length_cons, List.length_cons, List.length_cons, ends_len L]; omega
theorem ends_mem : ∀ {L : List Spn} {x : Nat}, x ∈ endsL L → ∃ s, s ∈ L ∧ (x = s.i.t ∨ x = s.o.t) := fun {L x} h => by
  obtain ⟨s, hs, h⟩ := List.mem_flatMap.1 h
  refine ⟨s, hs, ?_⟩
  rcases List.mem_cons.1 h with h | h
  · exact Or.inl h
  · exact Or.inr (List.mem_singleton.1 h)
theorem ends_nodup : ∀ {L : List Spn}, Ris L → (endsL L).Nodup
  | [], _ => List.nodup_nil
  | a :: L, h => by
    have gh := ris_head h
    show (a.i.t :: a.o.t :: endsL L).Nodup
    have lo : ∀ x, x ∈ endsL L → key a.o.t < key x := fun x hx => by
      obtain ⟨s, hs, e⟩ := ends_mem hx
      have := gh.2 s hs
      have := ((ris_tail h).2 s hs).lt
      rcases e with e | e <;> rw [e] <;> omega
    refine List.nodup_cons.2 ⟨fun hx => ?_, List.nodup_cons.2 ⟨fun hx => ?_, ends_nodup (ris_tail h)⟩⟩
    · have := gh.1.lt
      rcases List.mem_cons.1 hx with e | hx
      · rw [e] at this; omega
      · have := lo _ hx; omega
    · have := lo _ hx; omega
/-- A row that rises has no more spans than half its ends. -/
theorem ris_len {L : List Spn} {D : List Nat} (h : Ris L) (hf : Fr (· ∈ D) L) : 2 * L.length ≤ D.length := by
  rw [← ends_len]
  refine len_sub _ _ (ends_nodup h) fun x hx => ?_
  obtain ⟨s, hs, e⟩ := ends_mem hx
  rcases e with e | e <;> rw [e]
  · exact (hf s hs).1
  · exact (hf s hs).2
end Go.Proofs.YtancjnambbkhmaaGreat.Hs.So

namespace Go.Gv
open Go.RowKit Go.Ev
noncomputable section

/-- A contract over rows where it is called, the rows being there. -/
theorem call_real {P : Program} {f : Nat} {w : Option Nat} {args : List AV} {mem : List Row} {nk : Nat} {rs : List Row} {v : AV} {mem1 : List Row} (hrs : allSome ((rowsL args).map fun k => mem[k]?) = some rs)
    (hk : nodupB (rowsL args) = true ∧ rs.all (fun r => r.live && r.pure) = true ∧ mem1.all Row.pure = true ∧ Nat.ble rs.length mem1.length = true ∧ Nat.ble mem1.length (rs.length + 1) = true)
    (hg : GSpec P f (renL (ixOf (rowsL args)) args) rs v mem1) (hsame : ∀ i, i < rs.length → w ≠ some i → mem1[i]? = rs[i]?)
    {A0 R : Nat → Prop} {w0 E : Env} {mem' : List Row} {cargs : Array Value} (hW : Wd A0 R w0 E mem) (hnk : E.O nk = none) (hgl : glob E) (hr : rels E args cargs.toList)
    (happ : AppOk E mem mem' nk ⟨renA (backOf (rowsL args) ((mem1[(rowsL args).length]?).map fun _ => nk)) v, rowsL args, w.bind fun i => match (rowsL args)[i]?, mem1[i]? with
          | some k, some r => some (k, r)
          | _, _ => none, mem1[(rowsL args).length]?⟩) (hreal : ∀ k, k ∈ rowsL args → ∃ p, E.O k = some p) :
    Calls P f cargs E.w fun e w' => ∃ u E', e = .returned u ∧ E'.w = w' ∧ E.le E' ∧ (∀ k p, E'.O k = some p → E.O k = some p ∨ k = nk) ∧ Wd A0 R w0 E' mem' ∧ rel E' (renA (backOf (rowsL args) ((mem1[(rowsL args).length]?).map fun _ => nk)) v) u := by
  obtain ⟨hnd, hlive, hpure1, hlen1, hlen2⟩ := hk
  have hlen1 := Nat.le_of_ble_eq_true hlen1
  have hlen2 := Nat.le_of_ble_eq_true hlen2
  have hmap := allSome_get hrs
  have hl : rs.length = (rowsL args).length := by
    have := congrArg List.length hmap
    simpa using this.symm
  have hrow : ∀ (i k : Nat), (rowsL args)[i]? = some k → ∃ row, mem[k]? = some row ∧ rs[i]? = some row := fun i k hi => by
    have e1 := congrArg (fun l : List (Option Row) => l[i]?) hmap
    simp only [List.getElem?_map, hi, Option.map_some] at e1
    cases hr : rs[i]? with
    | none => rw [hr] at e1; simp at e1
    | some row =>
      rw [hr] at e1
      simp only [Option.map_some, Option.some.injEq] at e1
      exact ⟨row, e1, rfl⟩
  have hok : ∀ (i : Nat) (row : Row), rs[i]? = some row → row.live = true ∧ row.pure = true := fun i row hi => by
    have := List.all_eq_true.1 hlive row (List.mem_of_getElem? hi)
    simpa using this
  let O1 : Nat → Option (Nat × Nat × Nat) := fun i => ((rowsL args)[i]?).bind E.O
  let E1 : Env := { E with O := O1 }
  have hO1 : ∀ i b c, E1.O i = some (b, c) → ∃ k, (rowsL args)[i]? = some k ∧ E.O k = some (b, c) := fun i b c hi => by
    have hi : ((rowsL args)[i]?).bind E.O = some (b, c) := hi
    cases hx : (rowsL args)[i]? with
    | none => rw [hx] at hi; cases hi
    | some k => rw [hx] at hi; exact ⟨k, rfl, hi⟩
  have hO1' : ∀ (i k : Nat) (p : Nat × Nat × Nat), (rowsL args)[i]? = some k → E.O k = some p → E1.O i = some p := fun i k p hi hp => by
    show ((rowsL args)[i]?).bind E.O = some p
    rw [hi]; exact hp
  let R1 : Nat → Prop := fun b => ∃ k c, k ∈ rowsL args ∧ E.O k = some (b, c)
  have lives : ∀ k, k ∈ rowsL args → liveAt mem k = true := fun k hk => by
    obtain ⟨i, hi⟩ := List.mem_iff_getElem?.1 hk
    obtain ⟨row, g1, g2⟩ := hrow i k hi
    unfold liveAt
    rw [g1]
    exact (hok i row g2).1
  have hW1 : Wd E.A R1 E1 E1 rs := by
    refine ⟨fun i b c hi => ?_, hW.small, fun _ h => h, fun i b c hi _ => ?_, fun i j b c c' hi hj _ _ => ?_, BelowR.refl _ _, Env.le.refl _⟩
    · obtain ⟨k, h1, h2⟩ := hO1 i b c hi
      obtain ⟨row, g1, g2⟩ := hrow i k h1
      obtain ⟨row', g3, g4⟩ := hW.rows k b c h2
      rw [g1] at g3
      cases g3
      exact ⟨row, g2, rowRel_pure (E := E) (E' := E1) rfl (fun _ => Iff.rfl) (hok i row g2).2 g4⟩
    · obtain ⟨k, h1, h2⟩ := hO1 i b c hi
      have hm := List.mem_of_getElem? h1
      exact ⟨(hW.own k b c h2 (lives k hm)).1, Or.inl ⟨k, c, hm, h2⟩⟩
    · obtain ⟨k, h1, h2⟩ := hO1 i b c hi
      obtain ⟨k', h3, h4⟩ := hO1 j b c' hj
      have := hW.one k k' b c c' h2 h4 (lives k (List.mem_of_getElem? h1)) (lives k' (List.mem_of_getElem? h3))
      subst this
      exact nodupB_get hnd i j k h1 h3
  have hpins : Pins rs.length E1.A R1 E1 := by
    refine ⟨fun i hi => ?_, fun h0 => ⟨fun b hb => ?_, hW.small⟩⟩
    · show ((rowsL args)[i]?).bind E.O = none
      rw [List.getElem?_eq_none (by omega)]; rfl
    · obtain ⟨k, c, hk, _⟩ := hb
      have : rowsL args = [] := List.eq_nil_of_length_eq_zero (by omega)
      rw [this] at hk
      cases hk
  have hr1 : rels E1 (renL (ixOf (rowsL args)) args) cargs.toList := relsA_ren args (fun k i p hi hp => hO1' i k p (ixOf_some hi) hp) _ hr
  refine (hg.2 R1 E1 cargs hpins hW1 (glob_O hgl _) hr1).mono ?_
  rintro e w' ⟨u, E', rfl, rfl, hW2, hrel⟩
  have hE1 : ∀ (i k : Nat), (rowsL args)[i]? = some k → ∃ p, E.O k = some p ∧ E'.O i = some p := fun i k hi => by
    obtain ⟨p, hp⟩ := hreal k (List.mem_of_getElem? hi)
    exact ⟨p, hp, hW2.le0.own i p (hO1' i k p hi hp)⟩
  let nw : Option Row := mem1[(rowsL args).length]?
  let O2 : Nat → Option (Nat × Nat × Nat) := fun k => if k = nk then (nw.bind fun _ => E'.O (rowsL args).length) else E.O k
  let E2 : Env := { E' with O := O2 }
  have hO2 : ∀ k p, E.O k = some p → E2.O k = some p := fun k p hp => by
    have : k ≠ nk := fun e => by rw [e, hnk] at hp; cases hp
    show (if k = nk then _ else E.O k) = some p
    rw [if_neg this]; exact hp
  have hO2' : ∀ k p, E2.O k = some p → E.O k = some p ∨ (k = nk ∧ (∃ row, nw = some row) ∧ E'.O (rowsL args).length = some p) := fun k p hp => by
    have hp : (if k = nk then (nw.bind fun _ => E'.O (rowsL args).length) else E.O k) = some p := hp
    by_cases hk : k = nk
    · rw [if_pos hk] at hp
      cases hn : nw with
      | none => rw [hn] at hp; cases hp
      | some row => rw [hn] at hp; exact Or.inr ⟨hk, ⟨row, rfl⟩, hp⟩
    · rw [if_neg hk] at hp; exact Or.inl hp
  have hle : E.le E2 := ⟨hW2.le0.keep, hO2⟩
  have hwr : ∀ k, k ∉ rowsL args → ∀ b c, E.O k = some (b, c) → mem'[k]? = mem[k]? := fun k hk b c hb => by
    have hne : k ≠ nk := fun e => by rw [e, hnk] at hb; cases hb
    have := happ.1 k hne b c hb
    rw [this]
    simp only
    cases hw : (w.bind fun i => match (rowsL args)[i]?, mem1[i]? with | some k, some r => some (k, r) | _, _ => none) with
    | none => rfl
    | some q =>
      obtain ⟨k', row'⟩ := q
      simp only
      rw [if_neg]
      intro e
      subst e
      cases w with
      | none => cases hw
      | some i =>
        simp only [Option.bind_some] at hw
        split at hw
        · rename_i k2 r2 g1 g2
          simp only [Option.some.injEq, Prod.mk.injEq] at hw
          rw [← hw.1] at hk
          exact hk (List.mem_of_getElem? g1)
        · cases hw
  have hin : ∀ (i k : Nat), (rowsL args)[i]? = some k → mem'[k]? = mem1[i]? := fun i k hi => by
    obtain ⟨p, hp, _⟩ := hE1 i k hi
    have hne : k ≠ nk := fun e => by rw [e, hnk] at hp; cases hp
    have h1 := happ.1 k hne p.1 p.2 hp
    obtain ⟨row, g1, g2⟩ := hrow i k hi
    have hil : i < rs.length := (List.getElem?_eq_some_iff.1 g2).1
    rw [h1]
    simp only
    by_cases hwi : w = some i
    · subst hwi
      have hm1 : ∃ r1, mem1[i]? = some r1 := ⟨_, List.getElem?_eq_getElem (by omega)⟩
      obtain ⟨r1, hr1⟩ := hm1
      simp only [Option.bind_some, hi, hr1]
      simp
    · rw [hsame i hil hwi, g2]
      cases hw : (w.bind fun i => match (rowsL args)[i]?, mem1[i]? with | some k, some r => some (k, r) | _, _ => none) with
      | none => exact g1
      | some q =>
        obtain ⟨k', row'⟩ := q
        simp only
        rw [if_neg]
        · exact g1
        · intro e
          subst e
          cases w with
          | none => cases hw
          | some j =>
            simp only [Option.bind_some] at hw
            split at hw
            · rename_i k2 r2 g3 g4
              simp only [Option.some.injEq, Prod.mk.injEq] at hw
              rw [hw.1] at g3
              exact hwi (by rw [nodupB_get hnd j i _ g3 hi])
            · cases hw
  have hback : ∀ i k' p, backOf (rowsL args) ((mem1[(rowsL args).length]?).map fun _ => nk) i = some k' → E'.O i = some p → O2 k' = some p := fun i k' p hi hp => by
    unfold backOf at hi
    cases hx : (rowsL args)[i]? with
    | some k =>
      rw [hx] at hi
      simp only [Option.some.injEq] at hi
      subst hi
      obtain ⟨p', g1, g2⟩ := hE1 i k hx
      rw [hp] at g2
      cases g2
      exact hO2 k p g1
    | none =>
      rw [hx] at hi
      simp only at hi
      cases hb : Nat.beq i (rowsL args).length
      · rw [hb] at hi; cases hi
      · rw [hb] at hi
        simp only [cond_true] at hi
        have e1 := Nat.eq_of_beq_eq_true hb
        cases hn : mem1[(rowsL args).length]? with
        | none => rw [hn] at hi; cases hi
        | some row =>
          rw [hn] at hi
          simp only [Option.map_some, Option.some.injEq] at hi
          subst hi
          show (if nk = nk then (nw.bind fun _ => E'.O (rowsL args).length) else E.O nk) = some p
          rw [if_pos rfl, show nw = some row from hn, ← e1, Option.bind_some]
          exact hp
  have hrow2 : ∀ b c row, row.pure = true → rowRel E' b c row → rowRel E2 b c row := fun b c row hp h => rowRel_pure (E := E') (E' := E2) rfl (fun _ => Iff.rfl) hp h
  have hpure : ∀ (i : Nat) (row : Row), mem1[i]? = some row → row.pure = true := fun i row hi => List.all_eq_true.1 hpure1 row (List.mem_of_getElem? hi)
  have hnwrow : ∀ row, nw = some row → mem'[nk]? = some row := fun row hn => happ.2 row hn
  have back : ∀ k b c, E.O k = some (b, c) → liveAt mem' k = true → liveAt mem k = true := fun k b c hb hlv => by
    by_cases hk : k ∈ rowsL args
    · exact lives k hk
    · unfold liveAt at hlv ⊢
      rw [hwr k hk b c hb] at hlv
      exact hlv
  have hnewblk : ∀ b c row, nw = some row → E'.O (rowsL args).length = some (b, c) → row.live = true → E'.A b ∧ ((∃ k c', k ∈ rowsL args ∧ E.O k = some (b, c')) ∨ E.w.heap.size ≤ b) := fun b c row hn ho hlv => by
    have := hW2.own _ b c ho (by unfold liveAt; rw [show mem1[(rowsL args).length]? = some row from hn]; exact hlv)
    exact ⟨this.1, this.2⟩
  have hlivenk : ∀ row, nw = some row → liveAt mem' nk = true → row.live = true := fun row hn hlv => by
    unfold liveAt at hlv
    rw [hnwrow row hn] at hlv
    exact hlv
  refine ⟨u, E2, rfl, rfl, hle, fun k p hp => (hO2' k p hp).imp id fun h => h.1, ⟨?_, hW2.small, fun b hb => hW2.old b (hW.old b hb), ?_, ?_, ?_, hW.le0.trans hle⟩, relA_ren v hback u hrel⟩
  · intro k b c hb
    rcases hO2' k _ hb with h1 | ⟨rfl, ⟨row, hn⟩, h2⟩
    · by_cases hk : k ∈ rowsL args
      · obtain ⟨i, hi⟩ := List.mem_iff_getElem?.1 hk
        obtain ⟨p, g1, g2⟩ := hE1 i k hi
        rw [h1] at g1
        cases g1
        obtain ⟨row, g3, g4⟩ := hW2.rows i b c g2
        exact ⟨row, by rw [hin i k hi]; exact g3, hrow2 b c row (hpure i row g3) g4⟩
      · obtain ⟨row, g3, g4⟩ := hW.rows k b c h1
        refine ⟨row, by rw [hwr k hk b c h1]; exact g3, rowRel_keep hle g4 fun hlv => ?_⟩
        have hlk : liveAt mem k = true := by unfold liveAt; rw [g3]; exact hlv
        refine hW2.below.block b (hW.small b (hW.own k b c h1 hlk).1) ?_
        rintro ⟨k', c', hk', hb'⟩
        have := hW.one k k' b c c' h1 hb' hlk (lives k' hk')
        subst this
        exact hk hk'
    · obtain ⟨row', g3, g4⟩ := hW2.rows _ b c h2
      have e1 : row' = row := by
        have g3 : mem1[(rowsL args).length]? = some row' := g3
        have hn : mem1[(rowsL args).length]? = some row := hn
        rw [hn] at g3
        cases g3
        rfl
      subst e1
      exact ⟨row', hnwrow row' hn, hrow2 b c row' (hpure _ row' g3) g4⟩
  · intro k b c hb hlv
    rcases hO2' k _ hb with h1 | ⟨rfl, ⟨row, hn⟩, h2⟩
    · obtain ⟨g1, g2⟩ := hW.own k b c h1 (back k b c h1 hlv)
      exact ⟨hW2.old b g1, g2⟩
    · obtain ⟨g1, g2⟩ := hnewblk b c row hn h2 (hlivenk row hn hlv)
      refine ⟨g1, ?_⟩
      rcases g2 with ⟨k', c', hk', hb'⟩ | g2
      · exact (hW.own k' b c' hb' (lives k' hk')).2
      · exact Or.inr (Nat.le_trans hW.below.size g2)
  · have cross : ∀ k b c c', E.O k = some (b, c) → liveAt mem' k = true → (∃ row, nw = some row) → E'.O (rowsL args).length = some (b, c') → liveAt mem' nk = true → False := by
      intro k b c c' hb hlv ⟨row, hn⟩ ho hlv'
      have hrl := hlivenk row hn hlv'
      by_cases hk : k ∈ rowsL args
      · obtain ⟨i, hi⟩ := List.mem_iff_getElem?.1 hk
        obtain ⟨p, g1, g2⟩ := hE1 i k hi
        rw [hb] at g1
        cases g1
        have h1 : liveAt mem1 i = true := by unfold liveAt at hlv ⊢; rw [hin i k hi] at hlv; exact hlv
        have h2 : liveAt mem1 (rowsL args).length = true := by unfold liveAt; rw [show mem1[(rowsL args).length]? = some row from hn]; exact hrl
        have := hW2.one i (rowsL args).length b c c' g2 ho h1 h2
        subst this
        rw [List.getElem?_eq_none (Nat.le_refl _)] at hi
        cases hi
      · have hlk := back k b c hb hlv
        rcases (hnewblk b c' row hn ho hrl).2 with ⟨k', c2, hk', hb'⟩ | g2
        · have := hW.one k k' b c c2 hb hb' hlk (lives k' hk')
          subst this
          exact hk hk'
        · have := hW.small b (hW.own k b c hb hlk).1
          omega
    intro k k' b c c' hb hb' hlv hlv'
    rcases hO2' k _ hb with h1 | ⟨rfl, hn, h2⟩
    · rcases hO2' k' _ hb' with h1' | ⟨rfl, hn', h2'⟩
      · exact hW.one k k' b c c' h1 h1' (back k b c h1 hlv) (back k' b c' h1' hlv')
      · exact (cross k b c c' h1 hlv hn' h2' hlv').elim
    · rcases hO2' k' _ hb' with h1' | ⟨rfl, hn', h2'⟩
      · exact (cross k' b c' c h1' hlv' hn h2 hlv).elim
      · rfl
  · refine ⟨hW2.below.os.trans hW.below.os, hW2.below.tape.trans hW.below.tape, hW2.below.output.trans hW.below.output, Nat.le_trans hW.below.size hW2.below.size, fun b hb hn => ?_⟩
    refine (hW2.below.block b (Nat.lt_of_lt_of_le hb hW.below.size) ?_).trans (hW.below.block b hb hn)
    rintro ⟨k, c, hk, hk2⟩
    rcases (hW.own k b c hk2 (lives k hk)).2 with h | h
    · exact hn h
    · omega
/-- The row gets another number. -/
theorem gspec_moved {P : Program} {f : Nat} {args : List AV} {r0 : Row} {T : TypeId} {sz m : Nat} {u : Nat → List AV} (h : GSpec P f args [r0] (.osl 0 sz 0 m) [.a T sz m u]) : GSpec P f args [r0] (.osl 1 sz 0 m) [.dead, .a T sz m u] := by
  refine ⟨h.1, fun R E cargs hp hW hg hr => (h.2 R E cargs hp hW hg hr).mono ?_⟩
  rintro e w' ⟨x, E', rfl, rfl, hW2, hx⟩
  have dom : ∀ k p, E'.O k = some p → k = 0 := fun k p hk => by
    obtain ⟨row, h1, _⟩ := hW2.rows k p.1 p.2 hk
    have := (List.getElem?_eq_some_iff.1 h1).1
    simp only [List.length_cons, List.length_nil] at this
    omega
  let O2 : Nat → Option (Nat × Nat × Nat) := fun k => if k = 1 then E'.O 0 else E'.O k
  let E2 : Env := { E' with O := O2 }
  have hle : E'.le E2 := ⟨fun b hb ob hob => ⟨hb, hob⟩, fun k p hk => by
    have hne : k ≠ 1 := by rw [dom k p hk]; omega
    show (if k = 1 then E'.O 0 else E'.O k) = some p
    rw [if_neg hne]; exact hk⟩
  have two : ∀ k p, E2.O k = some p → (k = 0 ∨ k = 1) ∧ E'.O 0 = some p := fun k p hk => by
    have hk : (if k = 1 then E'.O 0 else E'.O k) = some p := hk
    by_cases h : k = 1
    · rw [if_pos h] at hk; exact ⟨Or.inr h, hk⟩
    · rw [if_neg h] at hk
      have := dom k p hk
      subst this
      exact ⟨Or.inl rfl, hk⟩
  have live0 : ∀ k, liveAt [.dead, Row.a T sz m u] k = true → k = 1 := fun k hk => by
    unfold liveAt at hk
    rcases k with _ | _ | k
    · cases hk
    · rfl
    · cases hk
  have l0 : liveAt [Row.a T sz m u] 0 = true := rfl
  refine ⟨x, E2, rfl, rfl, ⟨fun k b c hb => ?_, hW2.small, hW2.old, fun k b c hb hl => ?_, fun k k' b c c' _ _ hl hl' => by rw [live0 k hl, live0 k' hl'], hW2.below, hW2.le0.trans hle⟩, ?_⟩
  · obtain ⟨h1, h2⟩ := two k _ hb
    rcases h1 with rfl | rfl
    · exact ⟨.dead, rfl, trivial⟩
    · obtain ⟨row, g1, g2⟩ := hW2.rows 0 b c h2
      cases g1
      exact ⟨_, rfl, rowRel_keep hle g2 fun _ => rfl⟩
  · obtain ⟨_, h2⟩ := two k _ hb
    exact hW2.own 0 b c h2 l0
  · rcases rel_osl.1 hx with ⟨h1, h2, h3⟩ | ⟨b, c, n, h1, h2, h3, h4⟩
    · exact rel_osl.2 (Or.inl ⟨h1, h2, h3⟩)
    · exact rel_osl.2 (Or.inr ⟨b, c, n, by show (if 1 = 1 then E'.O 0 else E'.O 1) = _; rw [if_pos rfl]; exact h1, h2, h3, h4⟩)
/-- What is given back as nil may be told as a row with nothing in it. -/
theorem gspec_nil {P : Program} {f : Nat} {args : List AV} {T : TypeId} {sz : Nat} {u : Nat → List AV} (h : FSpec P f args (.x (.slice none 0 0))) : GSpec P f args [] (.osl 0 sz 0 0) [.a T sz 0 u] := by
  refine ⟨h.1, fun R E cargs hp hW hg hr => ?_⟩
  have hO : E.O = fun _ => none := by funext k; exact hp.1 k (Nat.zero_le _)
  have hr' : rels ⟨E.w, E.A, fun _ => none⟩ args cargs.toList := by rw [← hO]; exact hr
  have hg' : glob ⟨E.w, E.A, fun _ => none⟩ := by rw [← hO]; exact hg
  refine (h.2 E.A E.w cargs hW.small hr' hg').mono ?_
  rintro e w' ⟨v, rfl, hv, hbel⟩
  obtain ⟨h1, _⟩ := hW.on hbel
  refine ⟨v, { E with w := w' }, rfl, rfl, ⟨fun k b c hb => ?_, h1.small, h1.old, fun k b c hb => ?_, fun k k' b c c' hb => ?_, h1.below, h1.le0⟩, rel_osl.2 (Or.inl ⟨rfl, rfl, rel_x.1 hv⟩)⟩
  · have hb : E.O k = some (b, c) := hb
    rw [hO] at hb; cases hb
  · have hb : E.O k = some (b, c) := hb
    rw [hO] at hb; cases hb
  · have hb : E.O k = some (b, c) := hb
    rw [hO] at hb; cases hb
mutual
theorem renA_noOwn : ∀ (x : AV) (σ : Nat → Option Nat), noOwn x = true → renA σ x = x
  | .x _, _, _ => by rw [renA]
  | .f _, _, _ => by rw [renA]
  | .cx _ _, _, _ => by rw [renA]
  | .agg l, σ, h => by rw [renA, renL_noOwn l σ (by simpa [noOwn] using h)]
  | .tup l, σ, h => by rw [renA, renL_noOwn l σ (by simpa [noOwn] using h)]
  | .own _ _, _, h => by simp [noOwn] at h
  | .eown _ _ _ _, _, h => by simp [noOwn] at h
  | .osl _ _ _ _, _, h => by simp [noOwn] at h
  | .view _ _ _ _ _, _, h => by simp [noOwn] at h
  | .ref _ _, _, _ => by rw [renA]
  | .sl _ _ _, _, _ => by rw [renA]
  | .ifc _ x, σ, h => by rw [renA, renA_noOwn x σ (by simpa [noOwn] using h)]
  | .fn _ a b, σ, h => by
    simp only [noOwn, Bool.and_eq_true] at h
    rw [renA, renL_noOwn a σ h.1, renL_noOwn b σ h.2]
  | .any, _, _ => by rw [renA]
theorem renL_noOwn : ∀ (l : List AV) (σ : Nat → Option Nat), noOwns l = true → renL σ l = l
  | [], _, _ => by rw [renL]
  | x :: xs, σ, h => by
    simp only [noOwns, Bool.and_eq_true] at h
    rw [renL, renA_noOwn x σ h.1, renL_noOwn xs σ h.2]
end
/-- What a function does with a row that it is handed, nil or not: it hands back a row of so many elements. -/
def OSpec (P : Program) (f : Nat) (e : TypeId) (sz n : Nat) (el : Nat → List AV) (rest : List AV) (r : Nat × (Nat → List AV)) : Prop :=
  GSpec P f (.osl 0 sz 0 n :: rest) [.a e sz n el] (.osl 1 sz 0 r.1) [.dead, .a e sz r.1 r.2] ∧ (n = 0 → GSpec P f (.x (.slice none 0 0) :: rest) [] (.osl 0 sz 0 r.1) [.a e sz r.1 r.2])
def oRow (P : Program) (f : Nat) (g : Nat → (Nat → List AV) → List AV → Nat × (Nat → List AV)) : MFun := fun args rows nk => match args, rows with
  | .osl k sz 0 m :: rest, [some (.a e sz' n el)] => cond (noOwns rest && (Nat.beq sz sz')) (some (propB (OSpec P f e sz m el rest (g m el rest)) && Nat.beq m n, ⟨.osl nk sz 0 (g m el rest).1, [k], some (k, .dead), some (.a e sz (g m el rest).1 (g m el rest).2)⟩)) none
  | _, _ => none
def mO (P : Program) (f : Nat) (g : Nat → (Nat → List AV) → List AV → Nat × (Nat → List AV)) : MEntry := ⟨f, oRow P f g, none⟩
theorem mO_ok {P : Program} {f : Nat} {g : Nat → (Nat → List AV) → List AV → Nat × (Nat → List AV)} : MEOk P (mO P f g) := by
  refine ⟨⟨fun args mem nk eff h hrd => ?_, fun args rows nk nk' b eff h hn => ?_⟩, fun _ h => by cases h⟩
  · have h : oRow P f g args ((rowsL args).map fun k => mem[k]?) nk = some (true, eff) := h
    unfold oRow at h
    split at h
    · rename_i k sz m rest e sz' n el h0 hrows
      clear h0
      cases hb : (noOwns rest && Nat.beq sz sz')
      · rw [hb] at h; cases h
      · rw [hb] at h
        simp only [cond_true, Option.some.injEq, Prod.mk.injEq, Bool.and_eq_true] at h hb
        obtain ⟨⟨hp, hmn⟩, rfl⟩ := h
        obtain ⟨hno, hsz⟩ := hb
        have e1 := Nat.eq_of_beq_eq_true hsz
        have e2 := Nat.eq_of_beq_eq_true hmn
        subst e1 e2
        have hO := propB_of hp
        have hra : rowsL (.osl k sz 0 m :: rest) = [k] := hrd.symm
        have hrr : rowsL rest = [] := by
          have : rowsL (.osl k sz 0 m :: rest) = [k] ++ rowsL rest := by simp [rowsL, rowsA]
          rw [this] at hra
          simpa using hra
        generalize hr2 : g m el rest = r2 at *
        refine ⟨hO.1.1, fun A0 R w0 E mem' cargs hW hnk hgl hr happ => ?_⟩
        cases hEO : E.O k with
        | some p =>
          have hren : renL (ixOf (rowsL (.osl k sz 0 m :: rest))) (.osl k sz 0 m :: rest) = .osl 0 sz 0 m :: rest := by
            rw [hra, renL, renL_noOwn rest _ hno]
            have : ixOf [k] k = some 0 := by simp [ixOf]
            rw [renA, this]
          have hrs : allSome ((rowsL (.osl k sz 0 m :: rest)).map fun k => mem[k]?) = some [.a e sz m el] := by rw [hrows]; rfl
          have hv : renA (backOf (rowsL (.osl k sz 0 m :: rest)) ((([Row.dead, .a e sz r2.1 r2.2] : List Row)[(rowsL (.osl k sz 0 m :: rest)).length]?).map fun _ => nk)) (.osl 1 sz 0 r2.1) = .osl nk sz 0 r2.1 := by
            rw [hra]; rfl
          have cr := call_real (P := P) (f := f) (w := some 0) (args := .osl k sz 0 m :: rest) (mem := mem) (nk := nk) (rs := [.a e sz m el]) (v := .osl 1 sz 0 r2.1) (mem1 := [.dead, .a e sz r2.1 r2.2]) hrs ⟨by rw [hra]; simp [nodupB], rfl, rfl, rfl, rfl⟩ (by rw [hren]; exact hO.1) (fun i hi hw => by
            have : i = 0 := by simpa using hi
            subst this
            exact absurd rfl hw) hW hnk hgl hr (mem' := mem') (by rw [hv, hra]; exact happ) (fun k' hk' => by
            rw [hra] at hk'
            rw [List.mem_singleton.1 hk']
            exact ⟨p, hEO⟩)
          rw [hv] at cr
          exact cr
        | none =>
          obtain ⟨u, us, e0, r1, hr'⟩ := rels_cons.1 hr
          have hm : m = 0 ∧ u = .slice none 0 0 := by
            rcases rel_osl.1 r1 with ⟨_, h2, h3⟩ | ⟨b, c, n', h1, _⟩
            · exact ⟨h2, h3⟩
            · rw [hEO] at h1; cases h1
          have hG := hO.2 hm.1
          have hra' : rowsL (.x (.slice none 0 0) :: rest) = [] := by simp [rowsL, rowsA, hrr]
          have hren : renL (ixOf (rowsL (.x (.slice none 0 0) :: rest))) (.x (.slice none 0 0) :: rest) = .x (.slice none 0 0) :: rest := by
            rw [renL, renL_noOwn rest _ hno, renA]
          have hv : renA (backOf (rowsL (.x (.slice none 0 0) :: rest)) ((([Row.a e sz r2.1 r2.2] : List Row)[(rowsL (.x (.slice none 0 0) :: rest)).length]?).map fun _ => nk)) (.osl 0 sz 0 r2.1) = .osl nk sz 0 r2.1 := by
            rw [hra']; rfl
          have cr := call_real (P := P) (f := f) (w := none) (args := .x (.slice none 0 0) :: rest) (mem := mem) (nk := nk) (rs := []) (v := .osl 0 sz 0 r2.1) (mem1 := [.a e sz r2.1 r2.2]) (by rw [hra']; rfl) ⟨by rw [hra']; rfl, rfl, rfl, rfl, rfl⟩ (by rw [hren]; exact hG) (fun i hi _ => absurd hi (Nat.not_lt_zero i)) hW hnk hgl (rels_cons.2 ⟨u, us, e0, rel_x.2 hm.2, hr'⟩) (mem' := mem') (by
            rw [hv, hra']
            refine ⟨fun k' hk' b c hb => ?_, happ.2⟩
            have h1 := happ.1 k' hk' b c hb
            have hne : k' ≠ k := fun e' => by rw [e', hEO] at hb; cases hb
            simp only [if_neg hne] at h1
            exact h1) (fun k' hk' => by rw [hra'] at hk'; cases hk')
          rw [hv] at cr
          exact cr
    · cases h
  · have h : oRow P f g args rows nk = some (b, eff) := h
    unfold oRow at h
    split at h
    · rename_i k sz m rest e sz' n el h0
      clear h0
      cases hb : (noOwns rest && Nat.beq sz sz')
      · rw [hb] at h; cases h
      · rw [hb] at h
        simp only [cond_true, Option.some.injEq, Prod.mk.injEq] at h
        rw [← h.2] at hn
        cases hn
    · cases h
end
end Go.Gv

namespace Go.Proofs.YtancjnambbkhmaaGreat.Hs.So
open Go.Gv
open Go.Ev (cn fadd fsub fmul fdiv fsqrt fneg feq flt fle fgt fge fabs isNan)

def elX (X : Nat → Spn) : Nat → List AV := fun q => (X q).c
def gtL (L : List Spn) (q : Nat) : Spn := L.getD q dS
def elL (L : List Spn) : Nat → List AV := fun q => (gtL L q).c
def slL (L : List Spn) : AV := .sl 6 L.length (elL L)
def roL (L : List Spn) : Row := .a 62 6 L.length (elL L)
theorem mix_c (b : Bool) (x y : Spn) : mixL b x.c y.c = (cond b x y).c := by cases b <;> rfl
def decC : AV → Crs
  | .agg [.f t, .x (.int .i64 l), .x (.bool u)] => ⟨t, l, u⟩
  | _ => ⟨0, 0, false⟩
def decS : List AV → Spn
  | [.f t, .x (.int .i64 l), .x (.bool u), .f t', .x (.int .i64 l'), .x (.bool u')] => ⟨⟨t, l, u⟩, ⟨t', l', u'⟩⟩
  | _ => dS
def decL (m : Nat) (el : Nat → List AV) : List Spn := (List.range m).map fun q => decS (el q)
theorem decL_el (L : List Spn) : decL L.length (elL L) = L := by
  apply List.ext_getElem?
  intro q
  unfold decL
  rw [List.getElem?_map]
  by_cases h : q < L.length
  · rw [List.getElem?_range h, List.getElem?_eq_getElem h, Option.map_some]
    show some (gtL L q) = _
    unfold gtL
    rw [List.getD_eq_getElem?_getD, List.getElem?_eq_getElem h]; rfl
  · rw [List.getElem?_eq_none (by rw [List.length_range]; omega), List.getElem?_eq_none (by omega)]; rfl
theorem gtL_app (L : List Spn) (s : Spn) {q : Nat} (hq : q < L.length + 1) : gtL (L ++ [s]) q = cond (Nat.blt q L.length) (gtL L q) s := by
  unfold gtL
  cases hb : Nat.blt q L.length
  · have := not_blt hb
    have e : q = L.length := by omega
    subst e
    rw [List.getD_eq_getElem?_getD, List.getElem?_append_right (Nat.le_refl _), Nat.sub_self]; rfl
  · have hlt : q < L.length := Nat.le_of_ble_eq_true hb
    rw [List.getD_eq_getElem?_getD, List.getD_eq_getElem?_getD, List.getElem?_append_left hlt]; rfl
theorem elL_app (L : List Spn) (s : Spn) {q : Nat} (hq : q < L.length + 1) : mixL (Nat.blt q L.length) (elL L q) s.c = elL (L ++ [s]) q := by
  show mixL (Nat.blt q L.length) (gtL L q).c s.c = (gtL (L ++ [s]) q).c
  rw [mix_c, gtL_app L s hq]
/-- A call that is handed a row of spans, nil or not, and hands one back. -/
noncomputable def mL (f : Nat) (G : List Spn → List AV → List Spn) : MEntry := mO Tryz.prog f fun m el rest => ((G (decL m el) rest).length, elL (G (decL m el) rest))
theorem mL_ok {f : Nat} {G : List Spn → List AV → List Spn} : MEOk Tryz.prog (mL f G) := mO_ok
abbrev LSpec (f : Nat) (L : List Spn) (rest : List AV) (R : List Spn) : Prop := OSpec Tryz.prog f 62 6 L.length (elL L) rest (R.length, elL R)
/-- The condition of such a call. -/
noncomputable def lsB (f : Nat) (L : List Spn) (rest : List AV) (R : List Spn) : Bool := propB (OSpec Tryz.prog f 62 6 L.length (elL L) rest (R.length, elL R)) && Nat.beq L.length L.length
theorem lsB_t {f : Nat} {L : List Spn} {rest : List AV} {R : List Spn} (h : LSpec f L rest R) : lsB f L rest R = true := by
  unfold lsB
  rw [propB_t h, Nat.beq_refl]; rfl
section
variable (a b : Crs) (m : Nat) (X : Nat → Spn)
theorem ap_ev1 : evG Tryz.prog [] [] [] noL Tryz.f126 [.osl 0 6 0 m, a.v, b.v] [.a 62 6 m (elX X)] [some 0, some 4] = cond (flt a.t b.t) (cond (apB m 48 || false) (gout (.osl 1 6 0 (m + 1)) [.dead, .a 62 6 (m + 1) fun q => mixL (Nat.blt q m) (X q).c (⟨a, b⟩ : Spn).c]) none) none := by kernel_rfl
theorem ap_ev2 : evG Tryz.prog [] [] [] noL Tryz.f126 [.x (.slice none 0 0), a.v, b.v] [] [some 3] = cond (flt a.t b.t) (gout (.osl 0 6 0 1) [.a 62 6 1 fun q => mixL (Nat.blt q 0) [] (⟨a, b⟩ : Spn).c]) none := by kernel_rfl
theorem ap_ev3 : ev Tryz.prog [] [] noL Tryz.f126 [.x (.slice none 0 0), a.v, b.v] ret = cond (flt a.t b.t) (some (Out.of (.sl 6 1 fun q => mixL (Nat.blt q 0) [] (⟨a, b⟩ : Spn).c))) (some (Out.of (.x (.slice none 0 0)))) := by kernel_rfl
theorem ap_ev0 : evG Tryz.prog [] [] [] noL Tryz.f126 [.osl 0 6 0 m, a.v, b.v] [.a 62 6 m (elX X)] [some 0] = cond (flt a.t b.t) (cond (apB m 48 || false) (gout .any [.dead]) none) (gout (.osl 0 6 0 m) [.a 62 6 m (elX X)]) := by kernel_rfl
end
/-- A row with a piece laid behind it, if it has a length. -/
theorem ap_spec {L : List Spn} (hm : L.length ≤ 1000000) (a b : Crs) : LSpec 126 L [a.v, b.v] (L ++ piece a b) := by
  unfold piece
  cases h : flt a.t b.t
  · rw [cond_false, List.append_nil]
    refine ⟨gspec_moved (gspecG (mem := [roL L]) e_nil k_nil m_nil Tryz.func126 (by kernel_rfl) (by kernel_rfl) (fun _ _ _ _ _ h => by cases h) rfl (by kernel_rfl) ((ap_ev0 a b L.length (gtL L)).trans ?_)), fun h0 => ?_⟩
    · rw [h]; rfl
    · rw [List.length_eq_zero_iff.1 h0]
      exact gspec_nil (sp e_nil Tryz.func126 (by kernel_rfl) (by kernel_rfl) rfl ((ap_ev3 a b).trans (by rw [h]; rfl)))
  · rw [cond_true]
    have hl : (L ++ [(⟨a, b⟩ : Spn)]).length = L.length + 1 := by rw [List.length_append]; rfl
    unfold LSpec
    rw [hl]
    refine ⟨?_, fun h0 => ?_⟩
    · have h1 : GSpec Tryz.prog 126 [.osl 0 6 0 L.length, a.v, b.v] [roL L] (.osl 1 6 0 (L.length + 1)) [.dead, .a 62 6 (L.length + 1) fun q => mixL (Nat.blt q L.length) (gtL L q).c (⟨a, b⟩ : Spn).c] := gspecG (mem := [roL L]) e_nil k_nil m_nil Tryz.func126 (by kernel_rfl) (by kernel_rfl) (fun _ _ _ _ _ h => by cases h) rfl (by kernel_rfl) ((ap_ev1 a b L.length (gtL L)).trans (by rw [h, apB_t (by omega)]; rfl))
      exact h1.of_rows ⟨Or.inl rfl, Or.inr ⟨62, 6, L.length + 1, _, _, rfl, rfl, fun q hq => (elL_app L _ hq).symm⟩, trivial⟩
    · have e0 := List.length_eq_zero_iff.1 h0
      subst e0
      have h1 : GSpec Tryz.prog 126 [.x (.slice none 0 0), a.v, b.v] [] (.osl 0 6 0 1) [.a 62 6 1 fun q => mixL (Nat.blt q 0) [] (⟨a, b⟩ : Spn).c] := gspecG (mem := []) e_nil k_nil m_nil Tryz.func126 (by kernel_rfl) (by kernel_rfl) (fun _ _ _ _ _ h => by cases h) rfl (by kernel_rfl) ((ap_ev2 a b).trans (by rw [h]; rfl))
      refine h1.of_rows (mem2 := [.a 62 6 1 (elL ([] ++ [⟨a, b⟩]))]) ⟨Or.inr ⟨62, 6, 1, _, _, rfl, rfl, fun q hq => ?_⟩, trivial⟩
      have : q = 0 := by omega
      subst this
      rfl
def eCC (g : Crs → Crs → AV) : List AV → Option AV
  | [.agg [.f t, .x (.int .i64 l), .x (.bool u)], .agg [.f t', .x (.int .i64 l'), .x (.bool u')]] => some (g ⟨t, l, u⟩ ⟨t', l', u'⟩)
  | _ => none
theorem eCC_ok {f : Nat} {g : Crs → Crs → AV} (h : ∀ a b : Crs, FSpec Tryz.prog f [a.v, b.v] (g a b)) : EOk Tryz.prog ⟨f, eCC g⟩ := fun args r hr => by
  simp only [eCC] at hr
  split at hr
  · cases hr; exact Or.inl (h ⟨_, _, _⟩ ⟨_, _, _⟩)
  · cases hr
def eC1 (g : Crs → AV) : List AV → Option AV
  | [.agg [.f t, .x (.int .i64 l), .x (.bool u)]] => some (g ⟨t, l, u⟩)
  | _ => none
theorem eC1_ok {f : Nat} {g : Crs → AV} (h : ∀ a : Crs, FSpec Tryz.prog f [a.v] (g a)) : EOk Tryz.prog ⟨f, eC1 g⟩ := fun args r hr => by
  simp only [eC1] at hr
  split at hr
  · cases hr; exact Or.inl (h ⟨_, _, _⟩)
  · cases hr
end Go.Proofs.YtancjnambbkhmaaGreat.Hs.So

namespace Go.Proofs.YtancjnambbkhmaaGreat.Hs.So
open Go.Gv
open Go.Ev (cn fadd fsub fmul fdiv fsqrt fneg feq flt fle fgt fge fabs isNan)

def biS (A B : List Spn) (l : Spn) (i j : Int) (R : List Spn) : St := mkS 37 [(1, slL B), (5, .osl 1 6 0 R.length), (7, .own 0 0), (10, slL A), (11, iA A.length), (12, iA i), (16, slL B), (17, iA B.length), (18, iA j)] [.c l.c, roL R]
def keepBi : List Nat := [1, 5, 7, 10, 11, 12, 16, 17, 18]
def buS (A B : List Spn) (i : Int) (R : List Spn) : St := mkS 37 [(1, slL B), (5, .osl 0 6 0 R.length), (10, slL A), (11, iA A.length), (12, iA i)] [roL R]
def keepBu : List Nat := [1, 5, 10, 11, 12]
def bE (lf ef : Crs → Crs → Crs) : List Entry := [⟨127, eCC fun a b => (lf a b).v⟩, ⟨128, eCC fun a b => (ef a b).v⟩]
section
variable (lf ef : Crs → Crs → Crs) (G : List Spn → List AV → List Spn) (A B : List Spn) (l : Spn) (i j : Int) (R R' : List Spn)
def biA : List AV := [(lf l.i (gtL B j.toNat).i).v, (ef l.o (gtL B j.toNat).o).v]
noncomputable def biC (f : List Spn → Option Out) (oe : Option Out) : Option Out := cond (decide (j < B.length)) (cond (ixB j B.length || false) (cond ((lsB 126 R (biA lf ef B l j) (G (decL R.length (elL R)) (biA lf ef B l j)) || false) && true) (f (G (decL R.length (elL R)) (biA lf ef B l j))) none) none) oe
theorem bi_step : evCM Tryz.prog (bE lf ef) [] [mL 126 G] noL (loopAt Tryz.f108 1) (biS A B l i j R) (finN keepBi [some 0, some 3]) = biC lf ef G B l j R (fun R' => some ⟨.normal, biS A B l i (w64 (j + 1)) R', .any⟩) none := by kernel_rfl
theorem bi_end : evCM Tryz.prog (bE lf ef) [] [mL 126 G] noL (loopAt Tryz.f108 1) (biS A B l i j R) (finE keepBi [some 0, some 1]) = biC lf ef G B l j R (fun _ => none) (some ⟨.exit 2, biS A B l i j R, .any⟩) := by kernel_rfl
noncomputable def buL : Nat → Option LFun := oneL 6 (toldF keepBi [some 1, some 0] (biS A B (gtL A i.toNat) i 0 R) (.exit 2) (biS A B (gtL A i.toNat) i B.length R'))
noncomputable def buC (o oe : Option Out) : Option Out := cond (decide (i < A.length)) (cond (ixB i A.length || false) (gate (Sub (biS A B (gtL A i.toNat) i 0 R) (biS A B (gtL A i.toNat) i 0 R)) o) none) oe
theorem bu_step : evCM Tryz.prog (bE lf ef) [] [mL 126 G] (buL A B i R R') (loopAt Tryz.f108 0) (buS A B i R) (finN keepBu [some 1]) = buC A B i R (some ⟨.normal, buS A B (w64 (i + 1)) R', .any⟩) none := by kernel_rfl
theorem bu_end : evCM Tryz.prog (bE lf ef) [] [mL 126 G] (oneL 6 fun _ _ => none) (loopAt Tryz.f108 0) (buS A B i R) (finE keepBu [some 0]) = cond (decide (i < A.length)) (cond (ixB i A.length || false) none none) (some ⟨.exit 0, buS A B i R, .any⟩) := by kernel_rfl
theorem bo_evW : evM Tryz.prog (bE lf ef) [] [mL 126 G] (oneL 3 (toldN keepBu [(5, 0, 6)] (roL []) [none] (buS A B 0 []) (.exit 0) (buS A B A.length R))) Tryz.f108 [slL A, slL B] ret = gate (Sub (buS A B 0 []) (buS A B 0 [])) (some (Out.of (.sl 6 R.length fun q => elL R (0 + q)))) := by kernel_rfl
end
theorem bE_ok : ∀ e, e ∈ bE lateS earlS → EOk Tryz.prog e := e_cons (eCC_ok slate) <| e_cons (eCC_ok searl) e_nil
/-- What appendPiece makes of a row. -/
def apG (L : List Spn) (rest : List AV) : List Spn := match rest with
  | [a, b] => L ++ piece (decC a) (decC b)
  | _ => L
theorem flat_len {f : Spn → List Spn} (hf : ∀ s, (f s).length ≤ 1) : ∀ (l : List Spn), (l.flatMap f).length ≤ l.length
  | [] => Nat.le_refl _
  | a :: l => by
    rw [List.flatMap_cons, List.length_append, List.length_cons]
    have := hf a
    have := flat_len hf l
    omega
theorem piece_len (a b : Crs) : (piece a b).length ≤ 1 := by unfold piece; cases flt a.t b.t; exact Nat.zero_le _; exact Nat.le_refl _
theorem take_succ' {L : List Spn} {k : Nat} (hk : k < L.length) : L.take (k + 1) = L.take k ++ [gtL L k] := by
  rw [List.take_add_one, List.getElem?_eq_getElem hk]
  unfold gtL
  rw [List.getD_eq_getElem?_getD, List.getElem?_eq_getElem hk]; rfl
theorem flat_take {f : Spn → List Spn} {L : List Spn} {k : Nat} (hk : k < L.length) : (L.take (k + 1)).flatMap f = (L.take k).flatMap f ++ f (gtL L k) := by
  rw [take_succ' hk, List.flatMap_append, List.flatMap_cons, List.flatMap_nil, List.append_nil]
theorem biA_eq (B : List Spn) (l : Spn) (k : Nat) (R : List Spn) : apG (decL R.length (elL R)) (biA lateS earlS B l (k : Nat)) = R ++ both1 l (gtL B k) := by
  rw [decL_el]
  unfold biA
  rw [Int.toNat_natCast]
  rfl
theorem bi_leads {A B : List Spn} (hB : B.length ≤ 1000) (l : Spn) (i : Int) {R : List Spn} (hR : R.length ≤ 100000) : Leads Tryz.prog (.loop (loopAt Tryz.f108 1)) (biS A B l i 0 R) (.exit 2) (biS A B l i B.length (R ++ B.flatMap (both1 l))) := by
  have h : Leads Tryz.prog (.loop (loopAt Tryz.f108 1)) (biS A B l i (0 : Nat) (R ++ (B.take 0).flatMap (both1 l))) (.exit 2) (biS A B l i (B.length : Nat) (R ++ (B.take B.length).flatMap (both1 l))) := by
    refine loop_rule (fun k => biS A B l i (k : Nat) (R ++ (B.take k).flatMap (both1 l))) B.length (.exit 2) _ (by simp) (fun k hk => ?_) ?_
    · refine leads_evM (finN_sub _ _) bE_ok k_nil (m_cons mL_ok m_nil) noL_ok ((bi_step lateS earlS apG A B l i (k : Nat) (R ++ (B.take k).flatMap (both1 l))).trans ?_)
      have hl := flat_len (f := both1 l) (fun s => piece_len _ _) (B.take k)
      rw [List.length_take] at hl
      unfold biC
      rw [biA_eq, List.append_assoc, ← flat_take hk, dec_lt hk, ixB_t hk, w64_next (by omega)]
      have hs : LSpec 126 (R ++ (B.take k).flatMap (both1 l)) (biA lateS earlS B l (k : Nat)) (R ++ (B.take (k + 1)).flatMap (both1 l)) := by
        have := ap_spec (L := R ++ (B.take k).flatMap (both1 l)) (by rw [List.length_append]; omega) (lateS l.i (gtL B k).i) (earlS l.o (gtL B k).o)
        rw [List.append_assoc] at this
        rw [flat_take hk]
        exact this
      rw [lsB_t hs]
      rfl
    · refine leads_evM (finE_sub _ _) bE_ok k_nil (m_cons mL_ok m_nil) noL_ok ((bi_end lateS earlS apG A B l i (B.length : Nat) (R ++ (B.take B.length).flatMap (both1 l))).trans ?_)
      unfold biC
      rw [dec_self, cond_false]
  rw [List.take_length, List.take_zero, List.flatMap_nil, List.append_nil] at h
  exact h
theorem both_len {A B : List Spn} : (bothL A B).length ≤ A.length * B.length := by
  unfold bothL
  induction A with
  | nil => exact Nat.zero_le _
  | cons a A ih =>
    rw [List.flatMap_cons, List.length_append, List.length_cons, Nat.add_mul, Nat.one_mul]
    have h1 := flat_len (f := both1 a) (fun s => piece_len _ _) B
    exact Nat.le_trans (Nat.add_le_add h1 ih) (by rw [Nat.add_comm]; exact Nat.le_refl _)
theorem bu_leads {A B : List Spn} (hA : A.length ≤ 200) (hB : B.length ≤ 200) : Leads Tryz.prog (.loop (loopAt Tryz.f108 0)) (buS A B 0 []) (.exit 0) (buS A B A.length (bothL A B)) := by
  have hlen : ∀ k, k ≤ A.length → (bothL (A.take k) B).length ≤ 40000 := fun k hk => by
    have h1 := both_len (A := A.take k) (B := B)
    rw [List.length_take] at h1
    have h2 : min k A.length * B.length ≤ 200 * 200 := Nat.mul_le_mul (by omega) hB
    omega
  have hL : ∀ (i : Int) (R R' : List Spn), Leads Tryz.prog (.loop (loopAt Tryz.f108 1)) (biS A B (gtL A i.toNat) i 0 R) (.exit 2) (biS A B (gtL A i.toNat) i B.length R') → LOk Tryz.prog (buL A B i R R') (loopAt Tryz.f108 0) := fun i R R' h => lok_hd (c := loopAt Tryz.f108 0) (i := 6) 0 (by kernel_rfl) (by kernel_rfl) (toldF_sound (keep := keepBi) (τ := [some 1, some 0]) h)
  have h : Leads Tryz.prog (.loop (loopAt Tryz.f108 0)) (buS A B (0 : Nat) (bothL (A.take 0) B)) (.exit 0) (buS A B (A.length : Nat) (bothL (A.take A.length) B)) := by
    refine loop_rule (fun k => buS A B (k : Nat) (bothL (A.take k) B)) A.length (.exit 0) _ (by simp) (fun k hk => ?_) ?_
    · have h1 := bi_leads (A := A) (B := B) (by omega) (gtL A k) (k : Nat) (R := bothL (A.take k) B) (by have := hlen k (by omega); omega)
      have e1 : bothL (A.take k) B ++ B.flatMap (both1 (gtL A k)) = bothL (A.take (k + 1)) B := by
        unfold bothL
        rw [flat_take hk]
      rw [e1] at h1
      refine leads_evM (finN_sub _ _) bE_ok k_nil (m_cons mL_ok m_nil) (hL (k : Nat) (bothL (A.take k) B) (bothL (A.take (k + 1)) B) (by rw [Int.toNat_natCast]; exact h1)) ((bu_step lateS earlS apG A B (k : Nat) (bothL (A.take k) B) (bothL (A.take (k + 1)) B)).trans ?_)
      unfold buC
      rw [dec_lt hk, ixB_t hk, gate_pos (Sub.refl _), w64_next (by omega)]
      rfl
    · refine leads_evM (finE_sub _ _) bE_ok k_nil (m_cons mL_ok m_nil) (lok_none 6) ((bu_end lateS earlS apG A B (A.length : Nat) (bothL (A.take A.length) B)).trans ?_)
      rw [dec_self, cond_false]
  rw [List.take_length, List.take_zero] at h
  exact h
theorem slL_eq (R : List Spn) : (AV.sl 6 R.length fun q => elL R (0 + q)) = slL R := by
  unfold slL
  congr 1
  funext q
  rw [Nat.zero_add]
/-- What is in both. -/
theorem both_spec {A B : List Spn} (hA : A.length ≤ 200) (hB : B.length ≤ 200) : FSpec Tryz.prog 108 [slL A, slL B] (slL (bothL A B)) := by
  have hL := lok_hd (c := bodyOf Tryz.f108) (i := 3) 1 (by kernel_rfl) (by kernel_rfl) (toldN_sound (keep := keepBu) (nils := [(5, 0, 6)]) (nr := roL []) (τ := [none]) (bu_leads hA hB))
  refine spec_of_evM bE_ok k_nil (m_cons mL_ok m_nil) (by kernel_rfl) Tryz.func108 (by kernel_rfl) (by kernel_rfl) hL rfl ((bo_evW lateS earlS apG A B (bothL A B)).trans ?_)
  rw [gate_pos (Sub.refl _), slL_eq]
end Go.Proofs.YtancjnambbkhmaaGreat.Hs.So
