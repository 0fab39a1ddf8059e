/-
  Gyw Gyl Cl1, one behind the other.
-/
import Derived.Test.YtngjiggplabfkaaGreatC20
import Derived.Test.YtngjiggplabfkaaGreatC16
import Derived.Test.YtngjiggplabfkaaGreatC18
namespace Go.Proofs.YtngjiggplabfkaaGreat
open Go.Gv

section
end
end Go.Proofs.YtngjiggplabfkaaGreat

namespace Go.Gv
open Go.RowKit Go.Ev

/-- Rows that say no more, element by element. -/
def RowLike (row row' : Row) : Prop := row' = row ∨ (∃ e sz n el el', row = .a e sz n el ∧ row' = .a e sz n el' ∧ ∀ i, i < n → (el' i).length = (el i).length ∧ ∀ (E : Env) (cs : List Value), pre E (el i) cs → pre E (el' i) cs) ∨ ∃ l l', row = .c l ∧ row' = .c l' ∧ ∀ (E : Env) (cs : List Value), pre E l cs → pre E l' cs
def RowsLike : List Row → List Row → Prop
  | [], [] => True
  | r :: rs, r' :: rs' => RowLike r r' ∧ RowsLike rs rs'
  | _, _ => False
theorem RowsLike.get : ∀ {rs rs' : List Row}, RowsLike rs rs' → ∀ k : Nat, (rs[k]? = none ∧ rs'[k]? = none) ∨ ∃ r r', rs[k]? = some r ∧ rs'[k]? = some r' ∧ RowLike r r'
  | [], [], _, k => Or.inl ⟨by simp, by simp⟩
  | r :: rs, r' :: rs', h, k => by
    cases k with
    | zero => exact Or.inr ⟨r, r', rfl, rfl, h.1⟩
    | succ k => simpa using RowsLike.get h.2 k
  | [], _ :: _, h, _ => h.elim
  | _ :: _, [], h, _ => h.elim
theorem sub_like {np : Nat} {sl : List (AV × Chain)} {mem mem' : List Row} (h : RowsLike mem mem') : SubN np ⟨sl, mem⟩ ⟨sl, mem'⟩ := by
  intro A0 R w0 E a hp0 hI
  have lives : ∀ k, liveAt mem' k = liveAt mem k := fun k => by
    unfold liveAt
    rcases h.get k with ⟨h1, h2⟩ | ⟨r, r', h1, h2, h3⟩
    · rw [h1, h2]
    · rw [h1, h2]
      rcases h3 with rfl | ⟨e, sz, n, el, el', rfl, rfl, _⟩ | ⟨l, l', rfl, rfl, _⟩ <;> rfl
  refine ⟨E, rfl, hI.defers, hI.frame, ⟨fun k b c hb => ?_, hI.wd.small, hI.wd.old, fun k b c hb hl => hI.wd.own k b c hb (by rw [← lives]; exact hl), fun k k' b c c' hb hb' hl hl' => hI.wd.one k k' b c c' hb hb' (by rw [← lives]; exact hl) (by rw [← lives]; exact hl'), hI.wd.below, hI.wd.le0⟩⟩
  obtain ⟨row, h1, h2⟩ := hI.wd.rows k b c hb
  rcases h.get k with ⟨g1, _⟩ | ⟨r, r', g1, g2, g3⟩
  · have : mem[k]? = some row := h1
    rw [g1] at this; cases this
  · have : mem[k]? = some row := h1
    rw [g1] at this
    cases this
    refine ⟨r', g2, ?_⟩
    rcases g3 with rfl | ⟨e, sz, n, el, el', rfl, rfl, g4⟩ | ⟨l, l', rfl, rfl, g4⟩
    · exact h2
    · obtain ⟨cs, k1, k2, k3, k4, k5, k6⟩ := h2
      exact ⟨cs, k1, k2, k3, k4, k5, fun i hi => ⟨(g4 i hi).1.trans (k6 i hi).1, (g4 i hi).2 _ _ (k6 i hi).2⟩⟩
    · obtain ⟨cs, e, k1, k2⟩ := h2
      exact ⟨cs, e, k1, g4 _ _ k2⟩
end Go.Gv

namespace Go.Proofs.YtngjiggplabfkaaGreat.Hs.Sc
open Go.Gv So Fm

theorem wd_any {A0 R : Nat → Prop} {w0 E : Env} (h : Wd A0 R w0 E []) (mem : List Row) : Wd A0 R w0 E mem := by
  have no : ∀ k p, E.O k = some p → False := fun k p hp => by have := h.dom k p.1 p.2 hp; exact Nat.not_lt_zero _ this
  exact ⟨fun k b c hb => (no k _ hb).elim, h.small, h.old, fun k b c hb => (no k _ hb).elim, fun k _ b c _ hb => (no k _ hb).elim, h.below, h.le0⟩
def cpB (n by' : Nat) : Bool := ((0 == 0) && (Nat.blt 0 n && (allB n (fun _ => true) && Nat.ble ((0 + n) * by') 140737488355328))) || false
theorem cpB_t {n b : Nat} (h0 : 0 < n) (h : n * b ≤ 140737488355328) : cpB n b = true := by
  unfold cpB
  rw [blt_t h0, allB_true fun _ _ => rfl, Nat.ble_eq_true_of_le (show (0 + n) * b ≤ 140737488355328 by rw [Nat.zero_add]; exact h)]; rfl
section
variable (n : Nat) (S : Nat → Shp)
theorem cSh_evN : evG Tryz.prog [] [] [] noL Tryz.f40 [.sl 13 n fun q => (S q).c] [] [some 1] = cond (Nat.blt 0 n || false) (cond (cpB n 104) (gout (.osl 0 13 0 (0 + n)) [.a 58 13 (0 + n) fun q => mixL (Nat.blt q 0) [] ((S (q - 0)).c)]) none) none := by kernel_rfl
theorem cSh_ev1 (c : Nat) : evG Tryz.prog [] [] [] noL Tryz.f40 [.x (.slice none 0 c)] [] [] = gout (.x (.slice none 0 0)) [] := by kernel_rfl
theorem cSh_ev2 (ad : Addr) (c : Nat) : evG Tryz.prog [] [] [] noL Tryz.f40 [.x (.slice (some ad) 0 c)] [] [some 0] = gout (.osl 0 13 0 0) [.a 58 13 0 fun _ => []] := by kernel_rfl
def rSh : List Row := [.a 58 13 n fun q => (S q).c]
theorem cloneSh (hn : n ≤ 1000000) : GSpec Tryz.prog 40 [.sl 13 n fun q => (S q).c] [] (.osl 0 13 0 n) (rSh n S) := by
  by_cases h0 : n = 0
  · subst h0
    have g1 : ∀ c, GSpec Tryz.prog 40 [.x (.slice none 0 c)] [] (.x (.slice none 0 0)) [] := fun c => gspecG (mem := []) e_nil k_nil m_nil Tryz.func40 (by kernel_rfl) (by kernel_rfl) noL_ok rfl (by kernel_rfl) (cSh_ev1 c)
    have g2 : ∀ ad c, GSpec Tryz.prog 40 [.x (.slice (some ad) 0 c)] [] (.osl 0 13 0 0) [.a 58 13 0 fun _ => []] := fun ad c => gspecG (mem := []) e_nil k_nil m_nil Tryz.func40 (by kernel_rfl) (by kernel_rfl) noL_ok rfl (by kernel_rfl) (cSh_ev2 ad c)
    refine ⟨(g1 0).1, fun R E cargs hp hW hg hr => ?_⟩
    obtain ⟨u, us, e1, r1, r2⟩ := rels_cons.1 hr
    obtain ⟨a, c, rfl, _, _⟩ := rel_sl.1 r1
    cases a with
    | none =>
      refine ((g1 c).2 R E cargs hp hW hg (rels_cons.2 ⟨_, us, e1, rel_x.2 rfl, r2⟩)).mono ?_
      rintro e w' ⟨v, E', he, hw, hW', hv⟩
      exact ⟨v, E', he, hw, wd_any hW' _, rel_osl.2 (Or.inl ⟨rfl, rfl, rel_x.1 hv⟩)⟩
    | some ad =>
      have g3 := (g2 ad c).of_rows (mem2 := rSh 0 S) ⟨Or.inr ⟨58, 13, 0, _, _, rfl, rfl, fun q hq => absurd hq (Nat.not_lt_zero q)⟩, trivial⟩
      exact g3.2 R E cargs hp hW hg (rels_cons.2 ⟨_, us, e1, rel_x.2 rfl, r2⟩)
  · have hev := cSh_evN n S
    rw [blt_t (by omega), cpB_t (by omega) (by omega), Nat.zero_add] at hev
    refine (gspecG (mem := []) e_nil k_nil m_nil Tryz.func40 (by kernel_rfl) (by kernel_rfl) noL_ok rfl (by kernel_rfl) hev).of_rows ⟨Or.inr ⟨58, 13, n, _, _, rfl, rfl, fun q hq => ?_⟩, trivial⟩
    rfl
end
section
variable (n : Nat) (O : Nat → Sld)
theorem cSo_evN : evG Tryz.prog [] [] [] noL Tryz.f41 [.sl 2 n fun q => (O q).c] [] [some 1] = cond (Nat.blt 0 n || false) (cond (cpB n 32) (gout (.osl 0 2 0 (0 + n)) [.a 65 2 (0 + n) fun q => mixL (Nat.blt q 0) [] ((O (q - 0)).c)]) none) none := by kernel_rfl
theorem cSo_ev1 (c : Nat) : evG Tryz.prog [] [] [] noL Tryz.f41 [.x (.slice none 0 c)] [] [] = gout (.x (.slice none 0 0)) [] := by kernel_rfl
theorem cSo_ev2 (ad : Addr) (c : Nat) : evG Tryz.prog [] [] [] noL Tryz.f41 [.x (.slice (some ad) 0 c)] [] [some 0] = gout (.osl 0 2 0 0) [.a 65 2 0 fun _ => []] := by kernel_rfl
def rSo : List Row := [.a 65 2 n fun q => (O q).c]
theorem cloneSo (hn : n ≤ 1000000) : GSpec Tryz.prog 41 [.sl 2 n fun q => (O q).c] [] (.osl 0 2 0 n) (rSo n O) := by
  by_cases h0 : n = 0
  · subst h0
    have g1 : ∀ c, GSpec Tryz.prog 41 [.x (.slice none 0 c)] [] (.x (.slice none 0 0)) [] := fun c => gspecG (mem := []) e_nil k_nil m_nil Tryz.func41 (by kernel_rfl) (by kernel_rfl) noL_ok rfl (by kernel_rfl) (cSo_ev1 c)
    have g2 : ∀ ad c, GSpec Tryz.prog 41 [.x (.slice (some ad) 0 c)] [] (.osl 0 2 0 0) [.a 65 2 0 fun _ => []] := fun ad c => gspecG (mem := []) e_nil k_nil m_nil Tryz.func41 (by kernel_rfl) (by kernel_rfl) noL_ok rfl (by kernel_rfl) (cSo_ev2 ad c)
    refine ⟨(g1 0).1, fun R E cargs hp hW hg hr => ?_⟩
    obtain ⟨u, us, e1, r1, r2⟩ := rels_cons.1 hr
    obtain ⟨a, c, rfl, _, _⟩ := rel_sl.1 r1
    cases a with
    | none =>
      refine ((g1 c).2 R E cargs hp hW hg (rels_cons.2 ⟨_, us, e1, rel_x.2 rfl, r2⟩)).mono ?_
      rintro e w' ⟨v, E', he, hw, hW', hv⟩
      exact ⟨v, E', he, hw, wd_any hW' _, rel_osl.2 (Or.inl ⟨rfl, rfl, rel_x.1 hv⟩)⟩
    | some ad =>
      have g3 := (g2 ad c).of_rows (mem2 := rSo 0 O) ⟨Or.inr ⟨65, 2, 0, _, _, rfl, rfl, fun q hq => absurd hq (Nat.not_lt_zero q)⟩, trivial⟩
      exact g3.2 R E cargs hp hW hg (rels_cons.2 ⟨_, us, e1, rel_x.2 rfl, r2⟩)
  · have hev := cSo_evN n O
    rw [blt_t (by omega), cpB_t (by omega) (by omega), Nat.zero_add] at hev
    refine (gspecG (mem := []) e_nil k_nil m_nil Tryz.func41 (by kernel_rfl) (by kernel_rfl) noL_ok rfl (by kernel_rfl) hev).of_rows ⟨Or.inr ⟨65, 2, n, _, _, rfl, rfl, fun q hq => ?_⟩, trivial⟩
    rfl
end
section
variable (n : Nat) (F : Nat → Fm.Fd)
theorem cFd_evN : evG Tryz.prog [] [] [] noL Tryz.f42 [.sl 8 n fun q => (F q).c] [] [some 1] = cond (Nat.blt 0 n || false) (cond (cpB n 80) (gout (.osl 0 8 0 (0 + n)) [.a 70 8 (0 + n) fun q => mixL (Nat.blt q 0) [] ((F (q - 0)).c)]) none) none := by kernel_rfl
theorem cFd_ev1 (c : Nat) : evG Tryz.prog [] [] [] noL Tryz.f42 [.x (.slice none 0 c)] [] [] = gout (.x (.slice none 0 0)) [] := by kernel_rfl
theorem cFd_ev2 (ad : Addr) (c : Nat) : evG Tryz.prog [] [] [] noL Tryz.f42 [.x (.slice (some ad) 0 c)] [] [some 0] = gout (.osl 0 8 0 0) [.a 70 8 0 fun _ => []] := by kernel_rfl
def rFd : List Row := [.a 70 8 n fun q => (F q).c]
theorem cloneFd (hn : n ≤ 1000000) : GSpec Tryz.prog 42 [.sl 8 n fun q => (F q).c] [] (.osl 0 8 0 n) (rFd n F) := by
  by_cases h0 : n = 0
  · subst h0
    have g1 : ∀ c, GSpec Tryz.prog 42 [.x (.slice none 0 c)] [] (.x (.slice none 0 0)) [] := fun c => gspecG (mem := []) e_nil k_nil m_nil Tryz.func42 (by kernel_rfl) (by kernel_rfl) noL_ok rfl (by kernel_rfl) (cFd_ev1 c)
    have g2 : ∀ ad c, GSpec Tryz.prog 42 [.x (.slice (some ad) 0 c)] [] (.osl 0 8 0 0) [.a 70 8 0 fun _ => []] := fun ad c => gspecG (mem := []) e_nil k_nil m_nil Tryz.func42 (by kernel_rfl) (by kernel_rfl) noL_ok rfl (by kernel_rfl) (cFd_ev2 ad c)
    refine ⟨(g1 0).1, fun R E cargs hp hW hg hr => ?_⟩
    obtain ⟨u, us, e1, r1, r2⟩ := rels_cons.1 hr
    obtain ⟨a, c, rfl, _, _⟩ := rel_sl.1 r1
    cases a with
    | none =>
      refine ((g1 c).2 R E cargs hp hW hg (rels_cons.2 ⟨_, us, e1, rel_x.2 rfl, r2⟩)).mono ?_
      rintro e w' ⟨v, E', he, hw, hW', hv⟩
      exact ⟨v, E', he, hw, wd_any hW' _, rel_osl.2 (Or.inl ⟨rfl, rfl, rel_x.1 hv⟩)⟩
    | some ad =>
      have g3 := (g2 ad c).of_rows (mem2 := rFd 0 F) ⟨Or.inr ⟨70, 8, 0, _, _, rfl, rfl, fun q hq => absurd hq (Nat.not_lt_zero q)⟩, trivial⟩
      exact g3.2 R E cargs hp hW hg (rels_cons.2 ⟨_, us, e1, rel_x.2 rfl, r2⟩)
  · have hev := cFd_evN n F
    rw [blt_t (by omega), cpB_t (by omega) (by omega), Nat.zero_add] at hev
    refine (gspecG (mem := []) e_nil k_nil m_nil Tryz.func42 (by kernel_rfl) (by kernel_rfl) noL_ok rfl (by kernel_rfl) hev).of_rows ⟨Or.inr ⟨70, 8, n, _, _, rfl, rfl, fun q hq => ?_⟩, trivial⟩
    rfl
end
section
variable (n : Nat) (K : Nat → Nat → Int)
theorem cSk_evN : evG Tryz.prog [] [] [] noL Tryz.f43 [.sl 10 n fun q => skC (K q)] [] [some 1] = cond (Nat.blt 0 n || false) (cond (cpB n 80) (gout (.osl 0 10 0 (0 + n)) [.a 72 10 (0 + n) fun q => mixL (Nat.blt q 0) [] (skC (K (q - 0)))]) none) none := by kernel_rfl
theorem cSk_ev1 (c : Nat) : evG Tryz.prog [] [] [] noL Tryz.f43 [.x (.slice none 0 c)] [] [] = gout (.x (.slice none 0 0)) [] := by kernel_rfl
theorem cSk_ev2 (ad : Addr) (c : Nat) : evG Tryz.prog [] [] [] noL Tryz.f43 [.x (.slice (some ad) 0 c)] [] [some 0] = gout (.osl 0 10 0 0) [.a 72 10 0 fun _ => []] := by kernel_rfl
def rSk : List Row := [.a 72 10 n fun q => skC (K q)]
theorem cloneSk (hn : n ≤ 1000000) : GSpec Tryz.prog 43 [.sl 10 n fun q => skC (K q)] [] (.osl 0 10 0 n) (rSk n K) := by
  by_cases h0 : n = 0
  · subst h0
    have g1 : ∀ c, GSpec Tryz.prog 43 [.x (.slice none 0 c)] [] (.x (.slice none 0 0)) [] := fun c => gspecG (mem := []) e_nil k_nil m_nil Tryz.func43 (by kernel_rfl) (by kernel_rfl) noL_ok rfl (by kernel_rfl) (cSk_ev1 c)
    have g2 : ∀ ad c, GSpec Tryz.prog 43 [.x (.slice (some ad) 0 c)] [] (.osl 0 10 0 0) [.a 72 10 0 fun _ => []] := fun ad c => gspecG (mem := []) e_nil k_nil m_nil Tryz.func43 (by kernel_rfl) (by kernel_rfl) noL_ok rfl (by kernel_rfl) (cSk_ev2 ad c)
    refine ⟨(g1 0).1, fun R E cargs hp hW hg hr => ?_⟩
    obtain ⟨u, us, e1, r1, r2⟩ := rels_cons.1 hr
    obtain ⟨a, c, rfl, _, _⟩ := rel_sl.1 r1
    cases a with
    | none =>
      refine ((g1 c).2 R E cargs hp hW hg (rels_cons.2 ⟨_, us, e1, rel_x.2 rfl, r2⟩)).mono ?_
      rintro e w' ⟨v, E', he, hw, hW', hv⟩
      exact ⟨v, E', he, hw, wd_any hW' _, rel_osl.2 (Or.inl ⟨rfl, rfl, rel_x.1 hv⟩)⟩
    | some ad =>
      have g3 := (g2 ad c).of_rows (mem2 := rSk 0 K) ⟨Or.inr ⟨72, 10, 0, _, _, rfl, rfl, fun q hq => absurd hq (Nat.not_lt_zero q)⟩, trivial⟩
      exact g3.2 R E cargs hp hW hg (rels_cons.2 ⟨_, us, e1, rel_x.2 rfl, r2⟩)
  · have hev := cSk_evN n K
    rw [blt_t (by omega), cpB_t (by omega) (by omega), Nat.zero_add] at hev
    refine (gspecG (mem := []) e_nil k_nil m_nil Tryz.func43 (by kernel_rfl) (by kernel_rfl) noL_ok rfl (by kernel_rfl) hev).of_rows ⟨Or.inr ⟨72, 10, n, _, _, rfl, rfl, fun q hq => ?_⟩, trivial⟩
    rfl
theorem plainSk : PlainRows (rSk n K) := by
  intro k e sz c el hk i hi
  match k, hk with
  | 0, hk => cases hk; rfl
  | k + 1, hk => simp [rSk] at hk
theorem copySk (hn : n ≤ 1000000) : FSpec Tryz.prog 43 [.sl 10 n fun q => skC (K q)] (.sl 10 n fun q => skC (K q)) := by
  have hF := fresh_rows (cloneSk n K hn) (by show (Nat.beq 10 10 && Nat.ble (0 + n) n) = true; rw [Nat.zero_add, Nat.ble_eq_true_of_le (Nat.le_refl n)]; rfl) (plainSk n K)
  have hF2 : FreshSpec Tryz.prog 43 [.sl 10 n fun q => skC (K q)] (.sl 10 n fun q => skC (K q)) := by
    refine hF.of_res fun E v hv => ?_
    have hv' : rel E (.sl 10 n fun q => skC (K (0 + q))) v := hv
    exact sl_like hv' fun i hi => by rw [Nat.zero_add]
  exact hF2.spec rfl rfl
end
section
variable (n : Nat) (A : Nat → Nat → Nat) (L : Nat → Nat → Int)
theorem cLm_evN : evG Tryz.prog [] [] [] noL Tryz.f44 [.sl 6 n fun q => lmC (A q) (L q)] [] [some 1] = cond (Nat.blt 0 n || false) (cond (cpB n 48) (gout (.osl 0 6 0 (0 + n)) [.a 74 6 (0 + n) fun q => mixL (Nat.blt q 0) [] (lmC (A (q - 0)) (L (q - 0)))]) none) none := by kernel_rfl
theorem cLm_ev1 (c : Nat) : evG Tryz.prog [] [] [] noL Tryz.f44 [.x (.slice none 0 c)] [] [] = gout (.x (.slice none 0 0)) [] := by kernel_rfl
theorem cLm_ev2 (ad : Addr) (c : Nat) : evG Tryz.prog [] [] [] noL Tryz.f44 [.x (.slice (some ad) 0 c)] [] [some 0] = gout (.osl 0 6 0 0) [.a 74 6 0 fun _ => []] := by kernel_rfl
def rLm : List Row := [.a 74 6 n fun q => lmC (A q) (L q)]
theorem cloneLm (hn : n ≤ 1000000) : GSpec Tryz.prog 44 [.sl 6 n fun q => lmC (A q) (L q)] [] (.osl 0 6 0 n) (rLm n A L) := by
  by_cases h0 : n = 0
  · subst h0
    have g1 : ∀ c, GSpec Tryz.prog 44 [.x (.slice none 0 c)] [] (.x (.slice none 0 0)) [] := fun c => gspecG (mem := []) e_nil k_nil m_nil Tryz.func44 (by kernel_rfl) (by kernel_rfl) noL_ok rfl (by kernel_rfl) (cLm_ev1 c)
    have g2 : ∀ ad c, GSpec Tryz.prog 44 [.x (.slice (some ad) 0 c)] [] (.osl 0 6 0 0) [.a 74 6 0 fun _ => []] := fun ad c => gspecG (mem := []) e_nil k_nil m_nil Tryz.func44 (by kernel_rfl) (by kernel_rfl) noL_ok rfl (by kernel_rfl) (cLm_ev2 ad c)
    refine ⟨(g1 0).1, fun R E cargs hp hW hg hr => ?_⟩
    obtain ⟨u, us, e1, r1, r2⟩ := rels_cons.1 hr
    obtain ⟨a, c, rfl, _, _⟩ := rel_sl.1 r1
    cases a with
    | none =>
      refine ((g1 c).2 R E cargs hp hW hg (rels_cons.2 ⟨_, us, e1, rel_x.2 rfl, r2⟩)).mono ?_
      rintro e w' ⟨v, E', he, hw, hW', hv⟩
      exact ⟨v, E', he, hw, wd_any hW' _, rel_osl.2 (Or.inl ⟨rfl, rfl, rel_x.1 hv⟩)⟩
    | some ad =>
      have g3 := (g2 ad c).of_rows (mem2 := rLm 0 A L) ⟨Or.inr ⟨74, 6, 0, _, _, rfl, rfl, fun q hq => absurd hq (Nat.not_lt_zero q)⟩, trivial⟩
      exact g3.2 R E cargs hp hW hg (rels_cons.2 ⟨_, us, e1, rel_x.2 rfl, r2⟩)
  · have hev := cLm_evN n A L
    rw [blt_t (by omega), cpB_t (by omega) (by omega), Nat.zero_add] at hev
    refine (gspecG (mem := []) e_nil k_nil m_nil Tryz.func44 (by kernel_rfl) (by kernel_rfl) noL_ok rfl (by kernel_rfl) hev).of_rows ⟨Or.inr ⟨74, 6, n, _, _, rfl, rfl, fun q hq => ?_⟩, trivial⟩
    rfl
theorem plainLm : PlainRows (rLm n A L) := by
  intro k e sz c el hk i hi
  match k, hk with
  | 0, hk => cases hk; rfl
  | k + 1, hk => simp [rLm] at hk
theorem copyLm (hn : n ≤ 1000000) : FSpec Tryz.prog 44 [.sl 6 n fun q => lmC (A q) (L q)] (.sl 6 n fun q => lmC (A q) (L q)) := by
  have hF := fresh_rows (cloneLm n A L hn) (by show (Nat.beq 6 6 && Nat.ble (0 + n) n) = true; rw [Nat.zero_add, Nat.ble_eq_true_of_le (Nat.le_refl n)]; rfl) (plainLm n A L)
  have hF2 : FreshSpec Tryz.prog 44 [.sl 6 n fun q => lmC (A q) (L q)] (.sl 6 n fun q => lmC (A q) (L q)) := by
    refine hF.of_res fun E v hv => ?_
    have hv' : rel E (.sl 6 n fun q => lmC (A (0 + q)) (L (0 + q))) v := hv
    exact sl_like hv' fun i hi => by rw [Nat.zero_add]
  exact hF2.spec rfl rfl
end
section
variable (n : Nat) (P : Nat → Prt)
theorem cPt_evN : evG Tryz.prog [] [] [] noL Tryz.f45 [.sl 16 n fun q => (P q).c] [] [some 1] = cond (Nat.blt 0 n || false) (cond (cpB n 128) (gout (.osl 0 16 0 (0 + n)) [.a 67 16 (0 + n) fun q => mixL (Nat.blt q 0) [] ((P (q - 0)).c)]) none) none := by kernel_rfl
theorem cPt_ev1 (c : Nat) : evG Tryz.prog [] [] [] noL Tryz.f45 [.x (.slice none 0 c)] [] [] = gout (.x (.slice none 0 0)) [] := by kernel_rfl
theorem cPt_ev2 (ad : Addr) (c : Nat) : evG Tryz.prog [] [] [] noL Tryz.f45 [.x (.slice (some ad) 0 c)] [] [some 0] = gout (.osl 0 16 0 0) [.a 67 16 0 fun _ => []] := by kernel_rfl
def rPt : List Row := [.a 67 16 n fun q => (P q).c]
theorem clonePt (hn : n ≤ 1000000) : GSpec Tryz.prog 45 [.sl 16 n fun q => (P q).c] [] (.osl 0 16 0 n) (rPt n P) := by
  by_cases h0 : n = 0
  · subst h0
    have g1 : ∀ c, GSpec Tryz.prog 45 [.x (.slice none 0 c)] [] (.x (.slice none 0 0)) [] := fun c => gspecG (mem := []) e_nil k_nil m_nil Tryz.func45 (by kernel_rfl) (by kernel_rfl) noL_ok rfl (by kernel_rfl) (cPt_ev1 c)
    have g2 : ∀ ad c, GSpec Tryz.prog 45 [.x (.slice (some ad) 0 c)] [] (.osl 0 16 0 0) [.a 67 16 0 fun _ => []] := fun ad c => gspecG (mem := []) e_nil k_nil m_nil Tryz.func45 (by kernel_rfl) (by kernel_rfl) noL_ok rfl (by kernel_rfl) (cPt_ev2 ad c)
    refine ⟨(g1 0).1, fun R E cargs hp hW hg hr => ?_⟩
    obtain ⟨u, us, e1, r1, r2⟩ := rels_cons.1 hr
    obtain ⟨a, c, rfl, _, _⟩ := rel_sl.1 r1
    cases a with
    | none =>
      refine ((g1 c).2 R E cargs hp hW hg (rels_cons.2 ⟨_, us, e1, rel_x.2 rfl, r2⟩)).mono ?_
      rintro e w' ⟨v, E', he, hw, hW', hv⟩
      exact ⟨v, E', he, hw, wd_any hW' _, rel_osl.2 (Or.inl ⟨rfl, rfl, rel_x.1 hv⟩)⟩
    | some ad =>
      have g3 := (g2 ad c).of_rows (mem2 := rPt 0 P) ⟨Or.inr ⟨67, 16, 0, _, _, rfl, rfl, fun q hq => absurd hq (Nat.not_lt_zero q)⟩, trivial⟩
      exact g3.2 R E cargs hp hW hg (rels_cons.2 ⟨_, us, e1, rel_x.2 rfl, r2⟩)
  · have hev := cPt_evN n P
    rw [blt_t (by omega), cpB_t (by omega) (by omega), Nat.zero_add] at hev
    refine (gspecG (mem := []) e_nil k_nil m_nil Tryz.func45 (by kernel_rfl) (by kernel_rfl) noL_ok rfl (by kernel_rfl) hev).of_rows ⟨Or.inr ⟨67, 16, n, _, _, rfl, rfl, fun q hq => ?_⟩, trivial⟩
    rfl
theorem plainPt : PlainRows (rPt n P) := by
  intro k e sz c el hk i hi
  match k, hk with
  | 0, hk => cases hk; rfl
  | k + 1, hk => simp [rPt] at hk
theorem copyPt (hn : n ≤ 1000000) : FSpec Tryz.prog 45 [.sl 16 n fun q => (P q).c] (.sl 16 n fun q => (P q).c) := by
  have hF := fresh_rows (clonePt n P hn) (by show (Nat.beq 16 16 && Nat.ble (0 + n) n) = true; rw [Nat.zero_add, Nat.ble_eq_true_of_le (Nat.le_refl n)]; rfl) (plainPt n P)
  have hF2 : FreshSpec Tryz.prog 45 [.sl 16 n fun q => (P q).c] (.sl 16 n fun q => (P q).c) := by
    refine hF.of_res fun E v hv => ?_
    have hv' : rel E (.sl 16 n fun q => (P (0 + q)).c) v := hv
    exact sl_like hv' fun i hi => by rw [Nat.zero_add]
  exact hF2.spec rfl rfl
end
section
variable (n : Nat) (g : Nat → Int)
theorem cIn_evN : evG Tryz.prog [] [] [] noL Tryz.f46 [.sl 1 n fun q => [iA (g q)]] [] [some 1] = cond (Nat.blt 0 n || false) (cond (cpB n 8) (gout (.osl 0 1 0 (0 + n)) [.a 3 1 (0 + n) fun q => mixL (Nat.blt q 0) [] ([iA (g (q - 0))])]) none) none := by kernel_rfl
theorem cIn_ev1 (c : Nat) : evG Tryz.prog [] [] [] noL Tryz.f46 [.x (.slice none 0 c)] [] [] = gout (.x (.slice none 0 0)) [] := by kernel_rfl
theorem cIn_ev2 (ad : Addr) (c : Nat) : evG Tryz.prog [] [] [] noL Tryz.f46 [.x (.slice (some ad) 0 c)] [] [some 0] = gout (.osl 0 1 0 0) [.a 3 1 0 fun _ => []] := by kernel_rfl
def rIn : List Row := [.a 3 1 n fun q => [iA (g q)]]
theorem cloneIn (hn : n ≤ 1000000) : GSpec Tryz.prog 46 [.sl 1 n fun q => [iA (g q)]] [] (.osl 0 1 0 n) (rIn n g) := by
  by_cases h0 : n = 0
  · subst h0
    have g1 : ∀ c, GSpec Tryz.prog 46 [.x (.slice none 0 c)] [] (.x (.slice none 0 0)) [] := fun c => gspecG (mem := []) e_nil k_nil m_nil Tryz.func46 (by kernel_rfl) (by kernel_rfl) noL_ok rfl (by kernel_rfl) (cIn_ev1 c)
    have g2 : ∀ ad c, GSpec Tryz.prog 46 [.x (.slice (some ad) 0 c)] [] (.osl 0 1 0 0) [.a 3 1 0 fun _ => []] := fun ad c => gspecG (mem := []) e_nil k_nil m_nil Tryz.func46 (by kernel_rfl) (by kernel_rfl) noL_ok rfl (by kernel_rfl) (cIn_ev2 ad c)
    refine ⟨(g1 0).1, fun R E cargs hp hW hg hr => ?_⟩
    obtain ⟨u, us, e1, r1, r2⟩ := rels_cons.1 hr
    obtain ⟨a, c, rfl, _, _⟩ := rel_sl.1 r1
    cases a with
    | none =>
      refine ((g1 c).2 R E cargs hp hW hg (rels_cons.2 ⟨_, us, e1, rel_x.2 rfl, r2⟩)).mono ?_
      rintro e w' ⟨v, E', he, hw, hW', hv⟩
      exact ⟨v, E', he, hw, wd_any hW' _, rel_osl.2 (Or.inl ⟨rfl, rfl, rel_x.1 hv⟩)⟩
    | some ad =>
      have g3 := (g2 ad c).of_rows (mem2 := rIn 0 g) ⟨Or.inr ⟨3, 1, 0, _, _, rfl, rfl, fun q hq => absurd hq (Nat.not_lt_zero q)⟩, trivial⟩
      exact g3.2 R E cargs hp hW hg (rels_cons.2 ⟨_, us, e1, rel_x.2 rfl, r2⟩)
  · have hev := cIn_evN n g
    rw [blt_t (by omega), cpB_t (by omega) (by omega), Nat.zero_add] at hev
    refine (gspecG (mem := []) e_nil k_nil m_nil Tryz.func46 (by kernel_rfl) (by kernel_rfl) noL_ok rfl (by kernel_rfl) hev).of_rows ⟨Or.inr ⟨3, 1, n, _, _, rfl, rfl, fun q hq => ?_⟩, trivial⟩
    rfl
theorem plainIn : PlainRows (rIn n g) := by
  intro k e sz c el hk i hi
  match k, hk with
  | 0, hk => cases hk; rfl
  | k + 1, hk => simp [rIn] at hk
theorem copyIn (hn : n ≤ 1000000) : FSpec Tryz.prog 46 [.sl 1 n fun q => [iA (g q)]] (.sl 1 n fun q => [iA (g q)]) := by
  have hF := fresh_rows (cloneIn n g hn) (by show (Nat.beq 1 1 && Nat.ble (0 + n) n) = true; rw [Nat.zero_add, Nat.ble_eq_true_of_le (Nat.le_refl n)]; rfl) (plainIn n g)
  have hF2 : FreshSpec Tryz.prog 46 [.sl 1 n fun q => [iA (g q)]] (.sl 1 n fun q => [iA (g q)]) := by
    refine hF.of_res fun E v hv => ?_
    have hv' : rel E (.sl 1 n fun q => [iA (g (0 + q))]) v := hv
    exact sl_like hv' fun i hi => by rw [Nat.zero_add]
  exact hF2.spec rfl rfl
end
end Go.Proofs.YtngjiggplabfkaaGreat.Hs.Sc
