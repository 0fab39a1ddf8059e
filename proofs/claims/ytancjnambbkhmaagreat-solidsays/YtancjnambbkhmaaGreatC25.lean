/-
  Sop Soq Sor Sos Sot Sou Arg0, one behind the other.
-/
import Derived.Test.YtancjnambbkhmaaGreatC23
import Derived.Test.YtancjnambbkhmaaGreatC24
import Derived.Test.YtancjnambbkhmaaGreatC10
namespace Go.Proofs.YtancjnambbkhmaaGreat.Hs.So
open Go.Gv
open Go.Ev (cn fadd fsub fmul fdiv fsqrt fneg feq flt fle fgt fge fabs isNan key flt_key fgt_key feq_key)

def soR (n : Nat) (P : Nat → Prt) (r : Nat → Nat) (i : Int) (m : Nat) (el : Nat → List AV) : St := mkS 72 [(0, prS n P), (3, .own 0 0), (5, .osl 1 1 0 m), (6, iA i)] [.c (rC r), .a 57 1 m el]
def soT (n : Nat) (P : Nat → Prt) (r : Nat → Nat) (i : Int) (m : Nat) (W : Nat → List Spn) : St := soR n P r i m fun q => [slL (W q)]
def keepSo : List Nat := [0, 3, 5, 6]
/-- nil is told as a slice with nothing in it. -/
def nilZ (t : Nat) : ZFun := fun s k => match s.slots[t]? with
  | some (.x (.slice none 0 0), _) => cond (s.slots.all fun q => q.2.isEmpty) (k ⟨s.slots.set t (slL [], []), s.mem⟩) none
  | _ => none
def oneT : ZFun := fun s k => cond (Nat.beq s.mem.length 5) (frzK 4 s k) (nilZ 12 s k)
def oneF (s : Spn) : AV := .sl 6 1 fun q => mixL (Nat.blt q 0) [] s.c
section
variable (w : List AV → (Nat → Nat) → Wit) (b1 : List AV → List Spn) (n : Nat) (P : Nat → Prt) (r : Nat → Nat) (i : Int) (m : Nat) (W : Nat → List Spn)
def soA (p : Prt) : List AV := [iA p.op, slL (W (0 + p.l.toNat)), slL (W (0 + p.r.toNat))]
def soJ (l r : Int) (m : Nat) : Bool := (ixB l m || false) && ((bl' l m) && ((ixB r m || false) && ((bl' r m) && ((apB m 24 || false) && true))))
def soW (p : Prt) : Wit := w p.s (l7 r)
noncomputable def soP (f : AV → Option Out) (g : AV → Option Out) (oe : Option Out) : Option Out := cond (decide (i < n)) (cond (ixB i n || false) (cond (decide ((P i.toNat).op > 0)) (gate (FSpec Tryz.prog 111 (soA W (P i.toNat)) (slL (b1 (soA W (P i.toNat))))) (cond (soJ (P i.toNat).l (P i.toNat).r m) (f (slL (b1 (soA W (P i.toNat))))) none))
  (cond (soW w r (P i.toNat)).ok (cond (apB m 24 || false) (g (oneF ⟨⟨(soW w r (P i.toNat)).i, i, false⟩, ⟨(soW w r (P i.toNat)).o, i, false⟩⟩)) none) (cond (apB m 24 || false) (f (slL [])) none))) none) oe
noncomputable def soK : List KEntry := [kS Tryz.prog 111 fun v => slL (b1 v)]
theorem so_st5 : evCZ Tryz.prog [⟨20, eScY fun c r => (w c r).v⟩] (soK b1) [] noL (oneZ 12 oneT) (loopAt Tryz.f74 0) (soT n P r i m W) (finS 5 keepSo [some 0, some 4]) = soP w b1 n P r i m W (fun v => some ⟨.normal, soR n P r (w64 (i + 1)) (m + 1) fun q => mixL (Nat.blt q m) [slL (W q)] [v], .any⟩) (fun _ => none) none := by kernel_rfl
theorem so_st7 : evCZ Tryz.prog [⟨20, eScY fun c r => (w c r).v⟩] (soK b1) [] noL (oneZ 12 oneT) (loopAt Tryz.f74 0) (soT n P r i m W) (finS 7 keepSo [some 0, some 6]) = soP w b1 n P r i m W (fun _ => none) (fun v => some ⟨.normal, soR n P r (w64 (i + 1)) (m + 1) fun q => mixL (Nat.blt q m) [slL (W q)] [v], .any⟩) none := by kernel_rfl
theorem so_end : evCZ Tryz.prog [⟨20, eScY fun c r => (w c r).v⟩] (soK b1) [] noL (oneZ 12 oneT) (loopAt Tryz.f74 0) (soT n P r i m W) (finE keepSo [some 0, some 1]) = soP w b1 n P r i m W (fun _ => none) (fun _ => none) (some ⟨.exit 0, soT n P r i m W, .any⟩) := by kernel_rfl
theorem so_ev74 : ev Tryz.prog [] [] (oneL 3 (toldN keepSo [(5, 1, 1)] (.a 57 1 0 fun q => [slL (W q)]) [some 0, none] (soT n P r 0 0 W) (.exit 0) (soT n P r n n W))) Tryz.f74 [prS n P, RY r] ret = gate (Sub (soT n P r 0 0 W) (soT n P r 0 0 W)) (ow' (w64 ((n : Int) - 1)) n (some (Out.of (slL (W (0 + (w64 ((n : Int) - 1)).toNat)))))) := by kernel_rfl
end
end Go.Proofs.YtancjnambbkhmaaGreat.Hs.So

namespace Go.Proofs.YtancjnambbkhmaaGreat.Hs.So
open Go.Gv
open Go.Ev (cn fadd fsub fmul fdiv fsqrt fneg feq flt fle fgt fge fabs isNan key flt_key fgt_key feq_key)

theorem slotsLike_of : ∀ {xs ys : List (AV × Chain)}, ys.length = xs.length → (∀ t, t < xs.length → SlotLike (xs.getD t dflt) (ys.getD t dflt)) → SlotsLike xs ys
  | [], [], _, _ => trivial
  | x :: xs, y :: ys, h, g => ⟨g 0 (by simp), slotsLike_of (by simpa using h) fun t ht => g (t + 1) (by simpa using ht)⟩
  | [], _ :: _, h, _ => by simp at h
  | _ :: _, [], h, _ => by simp at h
theorem nilZ_ok (t : Nat) : ZSoundN 0 (nilZ t) := fun s k r h => by
  unfold nilZ at h
  split at h
  · rename_i ch hs
    cases hb : s.slots.all fun q => q.2.isEmpty
    · rw [hb] at h; cases h
    · rw [hb, cond_true] at h
      refine ⟨_, h, ?_⟩
      have hall : ∀ u, u < s.slots.length → (s.slots.getD u dflt).2 = [] := fun u hu => by
        rw [List.getD_eq_getElem?_getD, List.getElem?_eq_getElem hu]
        have := List.all_eq_true.1 hb s.slots[u] (List.getElem_mem _)
        simpa using this
      refine sub_slots (slotsLike_of (by simp) fun u hu => ?_)
      have h1 := hall u hu
      by_cases e : u = t
      · subst e
        have e1 : s.slots.getD u dflt = (.x (.slice none 0 0), ch) := by rw [List.getD_eq_getElem?_getD, hs]; rfl
        have e2 : (s.slots.set u (slL [], [])).getD u dflt = (slL [], []) := by rw [List.getD_eq_getElem?_getD, List.getElem?_set_self hu]; rfl
        rw [e1] at h1 ⊢
        rw [e2]
        exact ⟨h1, rfl, fun E v hv => rel_nil_sl hv⟩
      · have e2 : (s.slots.set t (slL [], [])).getD u dflt = s.slots.getD u dflt := by rw [List.getD_eq_getElem?_getD, List.getD_eq_getElem?_getD, List.getElem?_set_ne (fun h => e h.symm)]
        rw [e2]
        exact ⟨h1, h1, fun E v hv => hv⟩
  · cases h
theorem oneT_ok : ZSoundN 0 oneT := fun s k r h => by
  unfold oneT at h
  cases hb : Nat.beq s.mem.length 5
  · rw [hb] at h; exact nilZ_ok 12 s k r h
  · rw [hb] at h; exact frzK_ok 4 s k r h
def cmG : List AV → List Spn
  | [.x (.int .i64 o), .sl _ m el, .sl _ m' el'] => rowV o [] (decL m el) (decL m' el')
  | _ => []
theorem cmG_eq (o : Int) (A B : List Spn) : cmG [iA o, slL A, slL B] = rowV o [] A B := by
  show rowV o [] (decL A.length (elL A)) (decL B.length (elL B)) = _
  rw [decL_el, decL_el]
theorem soE74 : ∀ e, e ∈ [(⟨20, eScY fun c r => (witC c r).v⟩ : Entry)] → EOk Tryz.prog e := e_cons (eScY_ok fun k a sk r => (witC_spec k a sk r).2.1) e_nil
theorem soJ_t {l r m : Nat} (h1 : l < m) (h2 : r < m) (h3 : m ≤ 1000) : soJ (l : Nat) (r : Nat) m = true := by
  unfold soJ bl'
  rw [ixB_t h1, ixB_t h2, Int.toNat_natCast, Int.toNat_natCast, Nat.zero_add, Nat.zero_add, blt_t h1, blt_t h2, apB_t (by omega)]
  rfl
theorem leads_Z {n : Nat} {P : Nat → Prt} {r : Nat → Nat} {s s' : St} {e : Exit} {k : Kont} (hk : KSub k) (h : evCZ Tryz.prog [⟨20, eScY fun c r => (witC c r).v⟩] (soK cmG) [] noL (oneZ 12 oneT) (loopAt Tryz.f74 0) s k = some ⟨e, s', .any⟩) (_ : soT n P r 0 0 (fun _ => []) = soT n P r 0 0 (fun _ => [])) : Leads Tryz.prog (loopAt Tryz.f74 0) s e s' :=
  leads_ofZ hk (oneZ_ok oneT_ok) (tabM_ok soE74 (k_cons kS_ok k_nil) m_nil) (drawnK_ok (tabM_ok soE74 (k_cons kS_ok k_nil) m_nil) (by kernel_rfl)) noL_ok h
theorem mix_sl2 (b : Bool) (A : List Spn) (k : Nat) (X : Nat → Spn) : mixL b [slL A] [.sl 6 k (elX X)] = [cond b (slL A) (.sl 6 k (elX X))] := by
  have e : mixL b [slL A] [.sl 6 k (elX X)] = [.sl 6 (cond b A.length k) fun i => mixL b (gtL A i).c (X i).c] := rfl
  rw [e]
  cases b
  · have : (fun i => mixL false (gtL A i).c (X i).c) = elX X := by funext i; rw [mix_c]; rfl
    rw [this]; rfl
  · have : (fun i => mixL true (gtL A i).c (X i).c) = elL A := by funext i; rw [mix_c]; rfl
    rw [this]; rfl
/-- One more row. -/
theorem so_more {n : Nat} {P : Nat → Prt} {r : Nat → Nat} {i : Int} {m : Nat} {W W' : Nat → List Spn} {k : Nat} {X : Nat → Spn} (h1 : ∀ q, q < m → W' q = W q) (h2 : k = (W' m).length) (h3 : ∀ j, j < k → X j = gtL (W' m) j) : Sub (soR n P r i (m + 1) fun q => mixL (Nat.blt q m) [slL (W q)] [.sl 6 k (elX X)]) (soT n P r i (m + 1) W') := by
  subst h2
  refine sub_like ⟨Or.inl rfl, Or.inr (Or.inl ⟨57, 1, m + 1, _, _, rfl, rfl, fun q hq => ?_⟩), trivial⟩
  rw [mix_sl2]
  refine ⟨rfl, fun E cs hc => ?_⟩
  obtain ⟨u, us, e0, p1, p2⟩ := pre_cons.1 hc
  refine pre_cons.2 ⟨u, us, e0, ?_, pre_nil⟩
  cases hb : Nat.blt q m
  · have hge := not_blt hb
    have eq : q = m := by omega
    subst eq
    rw [hb] at p1
    exact sl_congr (fun j hj => by show (X j).c = (gtL (W' q) j).c; rw [h3 j hj]) p1
  · rw [hb] at p1
    rw [h1 q (Nat.le_of_ble_eq_true hb)]
    exact p1
theorem soP_t {n : Nat} {P : Nat → Prt} {r : Nat → Nat} {k : Nat} (hk : k < n) (hn : n ≤ 16) (hp : ∀ k, k < n → ppE (P k) (k : Nat) = 0) (f g : AV → Option Out) (oe : Option Out) :
    soP witC cmG n P r (k : Nat) k (rwF (plP P r) k) f g oe = cond (decide ((P k).op > 0)) (f (slL (rowV (P k).op [] (rwF (plP P r) k (P k).l.toNat) (rwF (plP P r) k (P k).r.toNat)))) (cond (witC (P k).s (l7 r)).ok (g (oneF ⟨⟨(witC (P k).s (l7 r)).i, (k : Nat), false⟩, ⟨(witC (P k).s (l7 r)).o, (k : Nat), false⟩⟩)) (f (slL []))) := by
  unfold soP
  rw [dec_lt hk, ixB_t hk, Int.toNat_natCast, apB_t (by omega)]
  by_cases h0 : (P k).op > 0
  · rw [decide_eq_true h0]
    rcases pr_ok (hp k hk) with h | ⟨h, l, rr, e1, e2, h1, h2⟩
    · omega
    · have pok := pl_ok r hp
      have il := rw_ok pok k (by omega) l h1
      have ir := rw_ok pok k (by omega) rr h2
      have ll := rw_len pok (by omega) h1 (by omega)
      have lr := rw_len pok (by omega) h2 (by omega)
      unfold soA
      rw [e1, e2, Int.toNat_natCast, Int.toNat_natCast, Nat.zero_add, Nat.zero_add, cmG_eq, soJ_t h1 h2 (by omega)]
      have hs : FSpec Tryz.prog 111 [iA (P k).op, slL (rwF (plP P r) k l), slL (rwF (plP P r) k rr)] (slL (rowV (P k).op [] (rwF (plP P r) k l) (rwF (plP P r) k rr))) := by
        rcases op_three (hp k hk) h with h3 | h3 | h3 <;> rw [h3]
        · exact cm_spec1 (by omega) (by omega)
        · exact cm_spec2 (by omega)
        · exact cm_spec3 (by omega) (by omega) il.ris ir.ris
      rw [gate_pos hs]
      rfl
  · rw [decide_eq_false h0]
    rfl
theorem rwF_low (p : Pl) (k q : Nat) (h : q < k) : rwF p (k + 1) q = rwF p k q := if_neg (by omega)
theorem so_leads {n : Nat} (hn : n ≤ 16) {P : Nat → Prt} (r : Nat → Nat) (hp : ∀ k, k < n → ppE (P k) (k : Nat) = 0) : Leads Tryz.prog (.loop (loopAt Tryz.f74 0)) (soT n P r 0 0 (rwF (plP P r) n)) (.exit 0) (soT n P r n n (rwF (plP P r) n)) := by
  have h0 : Leads Tryz.prog (.loop (loopAt Tryz.f74 0)) (soT n P r (0 : Nat) 0 (rwF (plP P r) 0)) (.exit 0) (soT n P r (n : Nat) n (rwF (plP P r) n)) := by
    refine loop_rule (fun k => soT n P r (k : Nat) k (rwF (plP P r) k)) n (.exit 0) _ (by simp) (fun k hk => ?_) ?_
    · have er : rwF (plP P r) (k + 1) k = rowV (P k).op (lfL (k : Nat) (P k).s (l7 r)) (rwF (plP P r) k (P k).l.toNat) (rwF (plP P r) k (P k).r.toNat) := if_pos rfl
      have s5 := so_st5 witC cmG n P r (k : Nat) k (rwF (plP P r) k)
      have s7 := so_st7 witC cmG n P r (k : Nat) k (rwF (plP P r) k)
      rw [soP_t hk hn hp, w64_next (by omega)] at s5 s7
      by_cases ho : (P k).op > 0
      · rw [decide_eq_true ho, cond_true] at s5
        refine (leads_Z (n := n) (P := P) (r := r) (finS_sub 5 keepSo [some 0, some 4]) s5 rfl).sub (Sub.refl _) ?_
        have e : rwF (plP P r) (k + 1) k = rowV (P k).op [] (rwF (plP P r) k (P k).l.toNat) (rwF (plP P r) k (P k).r.toNat) := by
          rw [er]; unfold rowV; rw [beq_false_of_ne (by omega)]; rfl
        exact so_more (X := gtL (rowV (P k).op [] (rwF (plP P r) k (P k).l.toNat) (rwF (plP P r) k (P k).r.toNat))) (fun q hq => rwF_low _ _ _ hq) (by rw [e]) (fun j hj => by rw [e])
      · rw [decide_eq_false ho, cond_false] at s5 s7
        have hz : (P k).op = 0 := by
          rcases pr_ok (hp k hk) with h | ⟨h, _⟩
          · exact h
          · have := op_three (hp k hk) h
            omega
        have e : rwF (plP P r) (k + 1) k = lfL (k : Nat) (P k).s (l7 r) := by rw [er]; unfold rowV; rw [hz]; rfl
        unfold lfL at e
        cases hw : (witC (P k).s (l7 r)).ok
        · rw [hw] at s5 e
          refine (leads_Z (n := n) (P := P) (r := r) (finS_sub 5 keepSo [some 0, some 4]) s5 rfl).sub (Sub.refl _) ?_
          exact so_more (k := 0) (X := gtL []) (fun q hq => rwF_low _ _ _ hq) (by rw [e]; rfl) (fun j hj => absurd hj (Nat.not_lt_zero j))
        · rw [hw] at s7 e
          refine (leads_Z (n := n) (P := P) (r := r) (finS_sub 7 keepSo [some 0, some 6]) s7 rfl).sub (Sub.refl _) ?_
          refine so_more (k := 1) (X := fun _ => ⟨⟨(witC (P k).s (l7 r)).i, (k : Nat), false⟩, ⟨(witC (P k).s (l7 r)).o, (k : Nat), false⟩⟩) (fun q hq => rwF_low _ _ _ hq) (by rw [e]; rfl) (fun j hj => ?_)
          have : j = 0 := by omega
          subst this
          rw [e]; rfl
    · refine leads_Z (n := n) (P := P) (r := r) (finE_sub keepSo [some 0, some 1]) ((so_end witC cmG n P r (n : Nat) n (rwF (plP P r) n)).trans ?_) rfl
      unfold soP
      rw [dec_self, cond_false]
  exact h0.sub (sub_same ⟨Or.inl rfl, Or.inr ⟨57, 1, 0, _, _, rfl, rfl, fun q hq => absurd hq (Nat.not_lt_zero q)⟩, trivial⟩) (Sub.refl _)
theorem rsp_spec {n : Nat} (h1 : 1 ≤ n) (hn : n ≤ 16) {P : Nat → Prt} (r : Nat → Nat) (hp : ∀ k, k < n → ppE (P k) (k : Nat) = 0) : FSpec Tryz.prog 74 [prS n P, RY r] (slL (soS n P r)) := by
  have hL := lok_hd (c := bodyOf Tryz.f74) (i := 3) 0 (by kernel_rfl) (by kernel_rfl) (toldN_sound (keep := keepSo) (nils := [(5, 1, 1)]) (nr := .a 57 1 0 fun q => [slL (rwF (plP P r) n q)]) (τ := [some 0, none]) (so_leads hn r hp))
  refine gspec e_nil k_nil Tryz.func74 (by kernel_rfl) (by kernel_rfl) hL rfl ((so_ev74 n P r (rwF (plP P r) n)).trans ?_)
  rw [gate_pos (Sub.refl _), w64_id (by omega) (by omega), show ((n : Int) - 1) = ((n - 1 : Nat) : Int) by omega, ow_t (by omega), Int.toNat_natCast, Nat.zero_add]
  rfl
end Go.Proofs.YtancjnambbkhmaaGreat.Hs.So

namespace Go.Proofs.YtancjnambbkhmaaGreat.Hs.So
open Go.Gv
open Go.Ev (cn fadd fsub fmul fdiv fsqrt fneg feq flt fle fgt fge fabs isNan key flt_key fgt_key feq_key)

def tkB (lo : Nat) (c : Crs) : Bool := cond (fge c.t lo) (fgt c.t 0) false
def c0 : Crs := ⟨0, 0, false⟩
def fiS (lo : Nat) (L : List Spn) (i : Int) : St := mkS 37 [(1, .f lo), (4, .own 0 0), (10, slL L), (11, iA L.length), (12, iA i)] [.c c0.c]
def fiR (c : Crs) : St := mkS 37 [(4, .own 0 0), (5, bA true)] [.c c.c]
def keepFi : List Nat := [1, 4, 10, 11, 12]
section
variable (lo : Nat) (L : List Spn) (i : Int)
def fiC (f : Crs → Option Out) (o oe : Option Out) : Option Out := cond (decide (i < L.length)) (cond (ixB i L.length || false) (cond (tkB lo (gtL L i.toNat).i) (f (gtL L i.toNat).i) (cond (tkB lo (gtL L i.toNat).o) (f (gtL L i.toNat).o) o)) none) oe
theorem fi_step : evC Tryz.prog [] [] noL (loopAt Tryz.f76 0) (fiS lo L i) (finN keepFi [some 0]) = fiC lo L i (fun _ => none) (some ⟨.normal, fiS lo L (w64 (i + 1)), .any⟩) none := by kernel_rfl
theorem fi_ret : evC Tryz.prog [] [] noL (loopAt Tryz.f76 0) (fiS lo L i) (finR [4, 5] [some 0]) = fiC lo L i (fun c => some ⟨.ret, fiR c, .any⟩) none none := by kernel_rfl
theorem fi_end : evC Tryz.prog [] [] noL (loopAt Tryz.f76 0) (fiS lo L i) (finE keepFi [some 0]) = fiC lo L i (fun _ => none) none (some ⟨.exit 0, fiS lo L i, .any⟩) := by kernel_rfl
theorem fi_evG (j : Int) : ev Tryz.prog [] [] (oneL 2 (toldF keepFi [some 0] (fiS lo L 0) (.exit 0) (fiS lo L j))) Tryz.f76 [slL L, .f lo] ret = gate (Sub (fiS lo L 0) (fiS lo L 0)) (some (Out.of (.tup [c0.v, bA false]))) := by kernel_rfl
theorem fi_evR (c : Crs) : ev Tryz.prog [] [] (oneL 2 (toldF keepFi [some 0] (fiS lo L 0) .ret (fiR c))) Tryz.f76 [slL L, .f lo] ret = gate (Sub (fiS lo L 0) (fiS lo L 0)) (some (Out.of (.tup [c.v, bA true]))) := by kernel_rfl
end
theorem bw_ev (t n f : Nat) : ev Tryz.prog [] [] noL Tryz.f77 [.f t, .f n, .f f] ret = cond (!(fgt t n)) (cond (!(flt n f)) (some (Out.of (.f f))) (some (Out.of (.f n)))) (cond (!(flt t f)) (some (Out.of (.f f))) (some (Out.of (.f t)))) := by kernel_rfl
/-! ### Spans -/
section
variable (n : Nat) (P : Nat → Prt) (sn : Int) (r : Nat → Nat) (e e' : Int) (S : List Spn)
theorem mm_ev : ev Tryz.prog [] [kS Tryz.prog 26 fun _ => iA e, kS Tryz.prog 87 fun _ => iA e'] noL Tryz.f72 [.agg (soC n P sn), RY r] ret = gate (FSpec Tryz.prog 26 [.agg (soC n P sn)] (iA e)) (cond (!(e == 0)) (some (Out.of (iA e))) (gate (FSpec Tryz.prog 87 [RY r] (iA e')) (some (Out.of (iA e'))))) := by kernel_rfl
theorem ss_ev : ev Tryz.prog [] [kS Tryz.prog 72 fun _ => iA e, kS Tryz.prog 73 fun _ => slL S] noL Tryz.f28 [.agg (soC n P sn), RY r] ret = gate (FSpec Tryz.prog 72 [.agg (soC n P sn), RY r] (iA e)) (cond (!(e == 0)) (some (Out.of (.tup [.x (.slice none 0 0), iA e]))) (gate (FSpec Tryz.prog 73 [prS n P, RY r] (slL S)) (some (Out.of (.tup [slL S, iA 0]))))) := by kernel_rfl
theorem rss_ev : ev Tryz.prog [] [kS Tryz.prog 27 fun _ => iA e, kS Tryz.prog 47 fun _ => iA e', kS Tryz.prog 74 fun _ => slL S] noL Tryz.f29 [.agg (soC n P sn), RY r] ret = gate (FSpec Tryz.prog 27 [.agg (soC n P sn)] (iA e)) (cond (e == 0) (gate (FSpec Tryz.prog 47 [RY r] (iA e')) (cond (!(e' == 0)) (some (Out.of (.tup [.x (.slice none 0 0), iA e']))) (gate (FSpec Tryz.prog 74 [prS n P, RY r] (slL S)) (some (Out.of (.tup [slL S, iA 0])))))) (cond (!(e == 0)) (some (Out.of (.tup [.x (.slice none 0 0), iA e]))) (gate (FSpec Tryz.prog 74 [prS n P, RY r] (slL S)) (some (Out.of (.tup [slL S, iA 0])))))) := by kernel_rfl
end
end Go.Proofs.YtancjnambbkhmaaGreat.Hs.So

namespace Go.Proofs.YtancjnambbkhmaaGreat.Hs.So
open Go.Gv
open Go.Ev (cn fadd fsub fmul fdiv fsqrt fneg feq flt fle fgt fge fabs isNan key flt_key fgt_key feq_key)

/-- The errno of a solid and a ray. -/
noncomputable def srE (n : Nat) (P : Nat → Prt) (sn : Int) (r : Nat → Nat) : Int := cond (soE n P sn == 0) (rayS r) (soE n P sn)
theorem mm_spec (n : Nat) (P : Nat → Prt) (sn : Int) (r : Nat → Nat) : FSpec Tryz.prog 72 [.agg (soC n P sn), RY r] (iA (srE n P sn r)) := by
  refine gspec e_nil (k_cons kS_ok (k_cons kS_ok k_nil)) Tryz.func72 (by kernel_rfl) (by kernel_rfl) noL_ok rfl ((mm_ev n P sn r (soE n P sn) (rayS r)).trans ?_)
  rw [gate_pos (smay_spec n P sn), gate_pos (sfine r)]
  unfold srE
  cases soE n P sn == 0 <;> rfl
/-- The spans of a solid, or none. -/
noncomputable def srS' (n : Nat) (P : Nat → Prt) (sn : Int) (r : Nat → Nat) : List Spn := cond (srE n P sn r == 0) (soS n P r) []
theorem srE_ok {n : Nat} {P : Nat → Prt} {sn : Int} {r : Nat → Nat} (h : srE n P sn r = 0) : soE n P sn = 0 ∧ rayS r = 0 := by
  unfold srE at h
  by_cases e : soE n P sn = 0
  · rw [e] at h; exact ⟨e, h⟩
  · rw [beq_false_of_ne e] at h; exact absurd h e
theorem tup_nil {E : Env} {v : Value} {e : Int} (h : rel E (.tup [.x (.slice none 0 0), iA e]) v) : rel E (.tup [slL [], iA e]) v := by
  obtain ⟨vs, e1, h1⟩ := rel_tup.1 h
  refine rel_tup.2 ⟨vs, e1, ?_⟩
  obtain ⟨u, us, e2, h2, h3⟩ := rels_cons.1 h1
  exact rels_cons.2 ⟨u, us, e2, rel_nil_sl h2, h3⟩
theorem ss_spec (n : Nat) (P : Nat → Prt) (sn : Int) (r : Nat → Nat) : FSpec Tryz.prog 28 [.agg (soC n P sn), RY r] (.tup [slL (srS' n P sn r), iA (srE n P sn r)]) := by
  have h := ss_ev n P sn r (srE n P sn r) (soS n P r)
  rw [gate_pos (mm_spec n P sn r)] at h
  unfold srS'
  by_cases e : srE n P sn r = 0
  · have ok := so_ok (srE_ok e).1
    rw [gate_pos (sp_spec ok.1 ok.2.1 r ok.2.2), e] at h
    rw [e]
    exact gspec e_nil (k_cons kS_ok (k_cons kS_ok k_nil)) Tryz.func28 (by kernel_rfl) (by kernel_rfl) noL_ok rfl h
  · rw [beq_false_of_ne e] at h ⊢
    exact FSpec.of_val (gspec e_nil (k_cons kS_ok (k_cons kS_ok k_nil)) Tryz.func28 (by kernel_rfl) (by kernel_rfl) noL_ok rfl h) fun _ _ => tup_nil
theorem rss_spec (n : Nat) (P : Nat → Prt) (sn : Int) (r : Nat → Nat) : FSpec Tryz.prog 29 [.agg (soC n P sn), RY r] (.tup [slL (srS' n P sn r), iA (srE n P sn r)]) := by
  have h := rss_ev n P sn r (soE n P sn) (rayS r) (soS n P r)
  rw [gate_pos (rsmay_spec n P sn), gate_pos (rrfine r)] at h
  have ks : ∀ e, e ∈ [kS Tryz.prog 27 fun _ => iA (soE n P sn), kS Tryz.prog 47 fun _ => iA (rayS r), kS Tryz.prog 74 fun _ => slL (soS n P r)] → KOk Tryz.prog e := k_cons kS_ok (k_cons kS_ok (k_cons kS_ok k_nil))
  unfold srS'
  by_cases e : srE n P sn r = 0
  · have ok := so_ok (srE_ok e).1
    rw [gate_pos (rsp_spec ok.1 ok.2.1 r ok.2.2)] at h
    rw [e]
    have e1 := (srE_ok e).1
    have e2 := (srE_ok e).2
    generalize soE n P sn = x at *
    generalize rayS r = y at *
    subst e1 e2
    exact gspec e_nil ks Tryz.func29 (by kernel_rfl) (by kernel_rfl) noL_ok rfl h
  · rw [beq_false_of_ne e]
    by_cases e1 : soE n P sn = 0
    · have e2 : srE n P sn r = rayS r := by unfold srE; rw [e1]; rfl
      rw [e2] at e ⊢
      rw [e1, beq_false_of_ne e] at h
      exact FSpec.of_val (gspec e_nil ks Tryz.func29 (by kernel_rfl) (by kernel_rfl) noL_ok rfl (by rw [e1]; exact h)) fun _ _ => tup_nil
    · have e2 : srE n P sn r = soE n P sn := by unfold srE; rw [beq_false_of_ne e1]; rfl
      rw [e2]
      rw [beq_false_of_ne e1] at h
      exact FSpec.of_val (gspec e_nil ks Tryz.func29 (by kernel_rfl) (by kernel_rfl) noL_ok rfl h) fun _ _ => tup_nil
/-! ### The first end that counts -/
def endS (L : List Spn) (i : Nat) : Crs := cond (i % 2 == 1) (gtL L (i / 2)).o (gtL L (i / 2)).i
theorem end_i (L : List Spn) (k : Nat) : endS L (2 * k) = (gtL L k).i := by
  unfold endS
  rw [show 2 * k % 2 = 0 by omega, show 2 * k / 2 = k by omega]; rfl
theorem end_o (L : List Spn) (k : Nat) : endS L (2 * k + 1) = (gtL L k).o := by
  unfold endS
  rw [show (2 * k + 1) % 2 = 1 by omega, show (2 * k + 1) / 2 = k by omega]; rfl
/-- The first end that counts, if there is one. -/
inductive Fst (lo : Nat) (L : List Spn) : Option Crs → Prop
  | none (h : ∀ i, i < 2 * L.length → tkB lo (endS L i) = false) : Fst lo L none
  | some (K : Nat) (hK : K < 2 * L.length) (ht : tkB lo (endS L K) = true) (h : ∀ i, i < K → tkB lo (endS L i) = false) : Fst lo L (some (endS L K))
theorem fst_all (lo : Nat) (L : List Spn) : ∃ o, Fst lo L o := by
  rcases all_or_first (fun i => !(tkB lo (endS L i))) (2 * L.length) with h | ⟨K, h1, h2, h3⟩
  · exact ⟨_, .none fun i hi => by simpa using h i hi⟩
  · exact ⟨_, .some K h1 (by simpa using h2) fun i hi => by simpa using h3 i hi⟩
def fstV (o : Option Crs) : AV := match o with
  | some c => .tup [c.v, bA true]
  | none => .tup [c0.v, bA false]
theorem fi_go {lo : Nat} {L : List Spn} (hL : L.length ≤ 1000) {k : Nat} (hk : k < L.length) (h1 : tkB lo (endS L (2 * k)) = false) (h2 : tkB lo (endS L (2 * k + 1)) = false) : Leads Tryz.prog (loopAt Tryz.f76 0) (fiS lo L (k : Nat)) .normal (fiS lo L ((k + 1 : Nat) : Int)) := by
  rw [end_i] at h1
  rw [end_o] at h2
  refine leads_ev (finN_sub keepFi [some 0]) e_nil k_nil noL_ok ((fi_step lo L (k : Nat)).trans ?_)
  unfold fiC
  rw [dec_lt hk, ixB_t hk, Int.toNat_natCast, h1, h2, w64_next (by omega)]; rfl
theorem fi_spec {lo : Nat} {L : List Spn} (hL : L.length ≤ 1000) {o : Option Crs} (h : Fst lo L o) : FSpec Tryz.prog 76 [slL L, .f lo] (fstV o) := by
  cases h with
  | none h =>
    have lead : Leads Tryz.prog (.loop (loopAt Tryz.f76 0)) (fiS lo L 0) (.exit 0) (fiS lo L (L.length : Nat)) := by
      refine loop_rule (fun k => fiS lo L (k : Nat)) L.length (.exit 0) _ (by simp) (fun k hk => fi_go hL hk (h _ (by omega)) (h _ (by omega))) ?_
      refine leads_ev (finE_sub keepFi [some 0]) e_nil k_nil noL_ok ((fi_end lo L (L.length : Nat)).trans ?_)
      unfold fiC
      rw [dec_self, cond_false]
    exact gspec e_nil k_nil Tryz.func76 (by kernel_rfl) (by kernel_rfl) (lok_at (i := 2) 0 2 (by kernel_rfl) (by kernel_rfl) (toldF_sound (keep := keepFi) (τ := [some 0]) lead)) rfl ((fi_evG lo L (L.length : Nat)).trans (gate_pos (Sub.refl _)))
  | some K hK ht h =>
    have lead : Leads Tryz.prog (.loop (loopAt Tryz.f76 0)) (fiS lo L 0) .ret (fiR (endS L K)) := by
      refine loop_rule (fun k => fiS lo L (k : Nat)) (K / 2) .ret _ (by simp) (fun k hk => fi_go hL (by omega) (h _ (by omega)) (h _ (by omega))) ?_
      refine leads_ev (finR_sub [4, 5] [some 0]) e_nil k_nil noL_ok ((fi_ret lo L ((K / 2 : Nat) : Int)).trans ?_)
      unfold fiC
      rw [dec_lt (show K / 2 < L.length by omega), ixB_t (show K / 2 < L.length by omega), Int.toNat_natCast]
      by_cases hm : K % 2 = 0
      · have e : K = 2 * (K / 2) := by omega
        have e2 : endS L K = (gtL L (K / 2)).i := by rw [← end_i, ← e]
        rw [e2] at ht ⊢
        rw [ht]; rfl
      · have e : K = 2 * (K / 2) + 1 := by omega
        have e2 : endS L K = (gtL L (K / 2)).o := by rw [← end_o, ← e]
        have h1 : tkB lo (gtL L (K / 2)).i = false := by rw [← end_i]; exact h _ (by omega)
        rw [e2] at ht ⊢
        rw [h1, ht]; rfl
    exact gspec e_nil k_nil Tryz.func76 (by kernel_rfl) (by kernel_rfl) (lok_at (i := 2) 0 2 (by kernel_rfl) (by kernel_rfl) (toldF_sound (keep := keepFi) (τ := [some 0]) lead)) rfl ((fi_evR lo L (endS L K)).trans (gate_pos (Sub.refl _)))
theorem bw_spec (t n f : Nat) : FSpec Tryz.prog 77 [.f t, .f n, .f f] (.f (btS t n f)) := by
  refine sp e_nil Tryz.func77 (by kernel_rfl) (by kernel_rfl) rfl ((bw_ev t n f).trans ?_)
  unfold btS
  cases fgt t n <;> cases flt n f <;> cases flt t f <;> rfl
/-! ### Strike -/
def sdV (c : Crs) (b : Bool) (e : Int) : Option Out := some (Out.of (.tup [c.v, bA b, iA e]))
section
variable (n : Nat) (P : Nat → Prt) (sn : Int) (r : Nat → Nat) (e : Int) (b : Nat → Nat) (S : List Spn) (nr fr : Nat) (mk : Bool) (c : Crs) (ck : Bool) (bt : Nat → Nat → Nat → Nat)
noncomputable def skK : List KEntry := [kS Tryz.prog 72 fun _ => iA e, kS Tryz.prog 69 fun _ => BX b, kS Tryz.prog 75 fun _ => .tup [.f nr, .f fr, bA mk], kS Tryz.prog 73 fun _ => slL S, kS Tryz.prog 76 fun _ => .tup [c.v, bA ck]]
theorem sk_ev : ev Tryz.prog [⟨77, eFFF fun t n f => .f (bt t n f)⟩] (skK e b S nr fr mk c ck) noL Tryz.f31 [.agg (soC n P sn), RY r] ret = gate (FSpec Tryz.prog 72 [.agg (soC n P sn), RY r] (iA e)) (cond (!(e == 0)) (sdV c0 false e)
    (gate (FSpec Tryz.prog 69 [prS n P] (BX b)) (gate (FSpec Tryz.prog 75 [BX b, RY r] (.tup [.f nr, .f fr, bA mk])) (cond (!mk) (sdV c0 false 0) (gate (FSpec Tryz.prog 73 [prS n P, RY r] (slL S)) (gate (FSpec Tryz.prog 76 [slL S, .f (r 6)] (.tup [c.v, bA ck])) (cond (!ck) (sdV c0 false 0) (sdV ⟨bt c.t nr fr, c.l, c.u⟩ true 0)))))))) := by kernel_rfl
end
end Go.Proofs.YtancjnambbkhmaaGreat.Hs.So

namespace Go.Proofs.YtancjnambbkhmaaGreat.Hs.So
open Go.Gv
open Go.Ev (cn fadd fsub fmul fdiv fsqrt fneg feq flt fle fgt fge fabs isNan key flt_key fgt_key feq_key)

def rkS (r : Nat → Nat) (S : List Spn) (nr fr : Nat) (i : Int) : St := mkS 76 [(3, .own 0 0), (4, .own 1 0), (7, slL S), (9, .f nr), (10, .f fr), (12, iA i)] [.c (rC r), .c c0.c]
def rkR (c : Crs) : St := mkS 76 [(4, .own 0 0), (5, bA true), (6, iA 0)] [.c c.c]
def keepRk : List Nat := [3, 4, 7, 9, 10, 12]
section
variable (bt : Nat → Nat → Nat → Nat) (n : Nat) (P : Nat → Prt) (sn : Int) (r : Nat → Nat) (e : Int) (b : Nat → Nat) (S : List Spn) (nr fr : Nat) (mk : Bool) (i : Int)
def rkK (f : Crs → Option Out) (o : Option Out) (c : Crs) : Option Out := cond (tkB (r 6) c) (f ⟨bt nr c.t fr, c.l, c.u⟩) o
def rkC (f : Crs → Option Out) (o oe : Option Out) : Option Out := cond (decide (i < w64 (2 * (S.length : Int)))) (cond (ixB (w64 (i.tdiv 2)) S.length || false) (cond ((i.tmod 2) == 1) (cond (ixB (w64 (i.tdiv 2)) S.length || false) (rkK bt r nr fr f o (gtL S (w64 (i.tdiv 2)).toNat).o) none) (rkK bt r nr fr f o (gtL S (w64 (i.tdiv 2)).toNat).i)) none) oe
def rkE : List Entry := [⟨62, eFFF fun n t f => .f (bt n t f)⟩]
theorem rk_step : evC Tryz.prog (rkE bt) [] noL (loopAt Tryz.f32 0) (rkS r S nr fr i) (finN keepRk [some 0, some 1]) = rkC bt r S nr fr i (fun _ => none) (some ⟨.normal, rkS r S nr fr (w64 (i + 1)), .any⟩) none := by kernel_rfl
theorem rk_ret : evC Tryz.prog (rkE bt) [] noL (loopAt Tryz.f32 0) (rkS r S nr fr i) (finR [4, 5, 6] [some 1]) = rkC bt r S nr fr i (fun c => some ⟨.ret, rkR c, .any⟩) none none := by kernel_rfl
theorem rk_end : evC Tryz.prog (rkE bt) [] noL (loopAt Tryz.f32 0) (rkS r S nr fr i) (finE keepRk [some 0, some 1]) = rkC bt r S nr fr i (fun _ => none) none (some ⟨.exit 0, rkS r S nr fr i, .any⟩) := by kernel_rfl
noncomputable def rkKs : List KEntry := [kS Tryz.prog 29 fun _ => .tup [slL S, iA e], kS Tryz.prog 70 fun _ => BX b, kS Tryz.prog 48 fun _ => .tup [.f nr, .f fr, bA mk]]
noncomputable def rkX (o : Option Out) : Option Out := gate (FSpec Tryz.prog 29 [.agg (soC n P sn), RY r] (.tup [slL S, iA e])) (cond (!(e == 0)) (sdV c0 false e) (gate (FSpec Tryz.prog 70 [prS n P] (BX b)) (gate (FSpec Tryz.prog 48 [BX b, RY r] (.tup [.f nr, .f fr, bA mk])) (cond (!mk) (sdV c0 false 0) (gate (Sub (rkS r S nr fr 0) (rkS r S nr fr 0)) o)))))
theorem rk_evG (j : Int) : ev Tryz.prog [] (rkKs e b S nr fr mk) (oneL 8 (toldF keepRk [some 1, some 2] (rkS r S nr fr 0) (.exit 0) (rkS r S nr fr j))) Tryz.f32 [.agg (soC n P sn), RY r] ret = rkX n P sn r e b S nr fr mk (sdV c0 false 0) := by kernel_rfl
theorem rk_evR (c : Crs) : ev Tryz.prog [] (rkKs e b S nr fr mk) (oneL 8 (toldF keepRk [some 1, some 2] (rkS r S nr fr 0) .ret (rkR c))) Tryz.f32 [.agg (soC n P sn), RY r] ret = rkX n P sn r e b S nr fr mk (sdV c true 0) := by kernel_rfl
end
/-- What Strike gives. -/
noncomputable def fstO (lo : Nat) (L : List Spn) : Option Crs := Classical.choose (fst_all lo L)
theorem fstO_ok (lo : Nat) (L : List Spn) : Fst lo L (fstO lo L) := Classical.choose_spec (fst_all lo L)
structure Sdk where
  c : Crs
  k : Bool
  e : Int
def Sdk.v (x : Sdk) : AV := .tup [x.c.v, bA x.k, iA x.e]
noncomputable def sdk (n : Nat) (P : Nat → Prt) (sn : Int) (r : Nat → Nat) : Sdk := cond (srE n P sn r == 0) (cond (meetK (bxS P n (n - 1)) r) (match fstO (r 6) (soS n P r) with
  | some c => ⟨⟨btS c.t (meetN (bxS P n (n - 1)) r) (meetF (bxS P n (n - 1)) r), c.l, c.u⟩, true, 0⟩
  | none => ⟨c0, false, 0⟩) ⟨c0, false, 0⟩) ⟨c0, false, srE n P sn r⟩
theorem soS_len {n : Nat} {P : Nat → Prt} (h1 : 1 ≤ n) (hn : n ≤ 16) (r : Nat → Nat) (hp : ∀ k, k < n → ppE (P k) (k : Nat) = 0) : (soS n P r).length ≤ 16 := by
  have := rw_len' (pl_ok r hp) (Nat.le_refl n) (show n - 1 < n by omega)
  unfold soS
  omega
theorem sk_spec (n : Nat) (P : Nat → Prt) (sn : Int) (r : Nat → Nat) : FSpec Tryz.prog 31 [.agg (soC n P sn), RY r] (sdk n P sn r).v := by
  have en : ∀ e, e ∈ [(⟨77, eFFF fun t n f => .f (btS t n f)⟩ : Entry)] → EOk Tryz.prog e := e_cons (eFFF_ok bw_spec) e_nil
  have ks : ∀ {e : Int} {b : Nat → Nat} {S : List Spn} {nr fr : Nat} {mk : Bool} {c : Crs} {ck : Bool}, ∀ x, x ∈ skK e b S nr fr mk c ck → KOk Tryz.prog x := k_cons kS_ok (k_cons kS_ok (k_cons kS_ok (k_cons kS_ok (k_cons kS_ok k_nil))))
  by_cases e : srE n P sn r = 0
  · have ok := so_ok (srE_ok e).1
    have hl := soS_len ok.1 ok.2.1 r ok.2.2
    have hF := fi_spec (by omega) (fstO_ok (r 6) (soS n P r))
    unfold sdk
    rw [e]
    have hb := bo_spec ok.1 ok.2.1 fun k hk => pr_ok (ok.2.2 k hk)
    have hm : FSpec Tryz.prog 75 [BX (bxS P n (n - 1)), RY r] (.tup [.f (meetN (bxS P n (n - 1)) r), .f (meetF (bxS P n (n - 1)) r), bA (meetK (bxS P n (n - 1)) r)]) := smeets _ r
    have hmm := mm_spec n P sn r
    rw [e] at hmm
    cases ho : fstO (r 6) (soS n P r) with
    | none =>
      rw [ho] at hF
      have h := sk_ev n P sn r 0 (bxS P n (n - 1)) (soS n P r) (meetN (bxS P n (n - 1)) r) (meetF (bxS P n (n - 1)) r) (meetK (bxS P n (n - 1)) r) c0 false btS
      rw [gate_pos hmm, gate_pos hb, gate_pos hm, gate_pos (sp_spec ok.1 ok.2.1 r ok.2.2), gate_pos (show FSpec Tryz.prog 76 [slL (soS n P r), .f (r 6)] (.tup [c0.v, bA false]) from hF)] at h
      refine gspec en ks Tryz.func31 (by kernel_rfl) (by kernel_rfl) noL_ok rfl (h.trans ?_)
      cases meetK (bxS P n (n - 1)) r <;> rfl
    | some c =>
      rw [ho] at hF
      have h := sk_ev n P sn r 0 (bxS P n (n - 1)) (soS n P r) (meetN (bxS P n (n - 1)) r) (meetF (bxS P n (n - 1)) r) (meetK (bxS P n (n - 1)) r) c true btS
      rw [gate_pos hmm, gate_pos hb, gate_pos hm, gate_pos (sp_spec ok.1 ok.2.1 r ok.2.2), gate_pos (show FSpec Tryz.prog 76 [slL (soS n P r), .f (r 6)] (.tup [c.v, bA true]) from hF)] at h
      refine gspec en ks Tryz.func31 (by kernel_rfl) (by kernel_rfl) noL_ok rfl (h.trans ?_)
      cases meetK (bxS P n (n - 1)) r <;> rfl
  · have h := sk_ev n P sn r (srE n P sn r) (fun _ => 0) [] 0 0 false c0 false btS
    rw [gate_pos (mm_spec n P sn r), beq_false_of_ne e] at h
    unfold sdk
    rw [beq_false_of_ne e]
    exact gspec en ks Tryz.func31 (by kernel_rfl) (by kernel_rfl) noL_ok rfl h
/-! ### The answer's -/
theorem rkC_t {bt : Nat → Nat → Nat → Nat} {r : Nat → Nat} {S : List Spn} {nr fr : Nat} {i : Nat} (hi : i < 2 * S.length) (hS : S.length ≤ 1000) (f : Crs → Option Out) (o oe : Option Out) : rkC bt r S nr fr (i : Nat) f o oe = rkK bt r nr fr f o (endS S i) := by
  unfold rkC
  have e1 : w64 (2 * (S.length : Int)) = ((2 * S.length : Nat) : Int) := by rw [w64_id (by omega) (by omega)]; omega
  have e2 : ((i : Nat) : Int).tdiv 2 = ((i / 2 : Nat) : Int) := by
    rw [Int.tdiv_eq_ediv_of_nonneg (by omega)]; omega
  have e3 : ((i : Nat) : Int).tmod 2 = ((i % 2 : Nat) : Int) := by
    rw [Int.tmod_eq_emod_of_nonneg (by omega)]; omega
  rw [e1, e2, e3, w64_id (by omega) (by omega), dec_lt hi, ixB_t (show i / 2 < S.length by omega), Int.toNat_natCast]
  unfold endS
  by_cases h : i % 2 = 1
  · rw [h]; rfl
  · rw [show i % 2 = 0 by omega]; rfl
theorem rbE_ok : ∀ e, e ∈ rkE (fun n t f => btS t n f) → EOk Tryz.prog e := e_cons (eFFF_ok fun n t f => rbetween n t f) e_nil
theorem rk_go {r : Nat → Nat} {S : List Spn} {nr fr : Nat} (hS : S.length ≤ 1000) {i : Nat} (hi : i < 2 * S.length) (h : tkB (r 6) (endS S i) = false) : Leads Tryz.prog (loopAt Tryz.f32 0) (rkS r S nr fr (i : Nat)) .normal (rkS r S nr fr ((i + 1 : Nat) : Int)) := by
  refine leads_ev (finN_sub keepRk [some 0, some 1]) rbE_ok k_nil noL_ok ((rk_step _ r S nr fr (i : Nat)).trans ?_)
  rw [rkC_t hi hS]
  unfold rkK
  rw [h, w64_next (by omega)]; rfl
theorem rsk_spec (n : Nat) (P : Nat → Prt) (sn : Int) (r : Nat → Nat) : FSpec Tryz.prog 32 [.agg (soC n P sn), RY r] (sdk n P sn r).v := by
  have ks : ∀ {e : Int} {b : Nat → Nat} {S : List Spn} {nr fr : Nat} {mk : Bool}, ∀ x, x ∈ rkKs e b S nr fr mk → KOk Tryz.prog x := k_cons kS_ok (k_cons kS_ok (k_cons kS_ok k_nil))
  have hss := rss_spec n P sn r
  by_cases e : srE n P sn r = 0
  · have ok := so_ok (srE_ok e).1
    have hl := soS_len ok.1 ok.2.1 r ok.2.2
    unfold srS' at hss
    rw [e] at hss
    have hss : FSpec Tryz.prog 29 [.agg (soC n P sn), RY r] (.tup [slL (soS n P r), iA 0]) := hss
    have hb := sr_spec ok.1 ok.2.1 ok.2.2
    have hm : FSpec Tryz.prog 48 [BX (bxS P n (n - 1)), RY r] (.tup [.f (meetN (bxS P n (n - 1)) r), .f (meetF (bxS P n (n - 1)) r), bA (meetK (bxS P n (n - 1)) r)]) := rmeets _ r
    unfold sdk
    rw [e]
    have hF := fstO_ok (r 6) (soS n P r)
    generalize fstO (r 6) (soS n P r) = o at hF
    generalize meetN (bxS P n (n - 1)) r = nr at *
    generalize meetF (bxS P n (n - 1)) r = fr at *
    generalize meetK (bxS P n (n - 1)) r = mk at *
    generalize soS n P r = S at *
    cases hF with
    | none h =>
      have lead : Leads Tryz.prog (.loop (loopAt Tryz.f32 0)) (rkS r S nr fr 0) (.exit 0) (rkS r S nr fr ((2 * S.length : Nat) : Int)) := by
        refine loop_rule (fun k => rkS r S nr fr (k : Nat)) (2 * S.length) (.exit 0) _ (by simp) (fun k hk => rk_go (by omega) hk (h k hk)) ?_
        refine leads_ev (finE_sub keepRk [some 0, some 1]) rbE_ok k_nil noL_ok ((rk_end _ r S nr fr ((2 * S.length : Nat) : Int)).trans ?_)
        unfold rkC
        have e1 : w64 (2 * (S.length : Int)) = ((2 * S.length : Nat) : Int) := by rw [w64_id (by omega) (by omega)]; omega
        rw [e1, dec_self, cond_false]
      have h2 := rk_evG n P sn r 0 (bxS P n (n - 1)) S nr fr mk ((2 * S.length : Nat) : Int)
      unfold rkX at h2
      rw [gate_pos hss, gate_pos hb, gate_pos hm, gate_pos (Sub.refl _)] at h2
      refine gspec e_nil ks Tryz.func32 (by kernel_rfl) (by kernel_rfl) (lok_at (i := 8) 0 1 (by kernel_rfl) (by kernel_rfl) (toldF_sound (keep := keepRk) (τ := [some 1, some 2]) lead)) rfl (h2.trans ?_)
      cases mk <;> rfl
    | some K hK ht h =>
      have lead : Leads Tryz.prog (.loop (loopAt Tryz.f32 0)) (rkS r S nr fr 0) .ret (rkR ⟨btS (endS S K).t nr fr, (endS S K).l, (endS S K).u⟩) := by
        refine loop_rule (fun k => rkS r S nr fr (k : Nat)) K .ret _ (by simp) (fun k hk => rk_go (by omega) (by omega) (h k hk)) ?_
        refine leads_ev (finR_sub [4, 5, 6] [some 1]) rbE_ok k_nil noL_ok ((rk_ret _ r S nr fr (K : Nat)).trans ?_)
        rw [rkC_t hK (by omega)]
        unfold rkK
        rw [ht]; rfl
      have h2 := rk_evR n P sn r 0 (bxS P n (n - 1)) S nr fr mk ⟨btS (endS S K).t nr fr, (endS S K).l, (endS S K).u⟩
      unfold rkX at h2
      rw [gate_pos hss, gate_pos hb, gate_pos hm, gate_pos (Sub.refl _)] at h2
      refine gspec e_nil ks Tryz.func32 (by kernel_rfl) (by kernel_rfl) (lok_at (i := 8) 0 1 (by kernel_rfl) (by kernel_rfl) (toldF_sound (keep := keepRk) (τ := [some 1, some 2]) lead)) rfl (h2.trans ?_)
      cases mk <;> rfl
  · unfold srS' at hss
    rw [beq_false_of_ne e] at hss
    have h := rk_evG n P sn r (srE n P sn r) (fun _ => 0) [] 0 0 false 0
    unfold rkX at h
    rw [gate_pos (show FSpec Tryz.prog 29 [.agg (soC n P sn), RY r] (.tup [slL [], iA (srE n P sn r)]) from hss), beq_false_of_ne e] at h
    unfold sdk
    rw [beq_false_of_ne e]
    have lead : Leads Tryz.prog (.loop (loopAt Tryz.f32 0)) (rkS r [] 0 0 0) (.exit 0) (rkS r [] 0 0 0) := by
      refine loop_rule (fun _ => rkS r [] 0 0 0) 0 (.exit 0) _ (by simp) (fun k hk => absurd hk (Nat.not_lt_zero k)) ?_
      exact leads_ev (finE_sub keepRk [some 0, some 1]) rbE_ok k_nil noL_ok (rk_end _ r [] 0 0 0)
    exact gspec e_nil ks Tryz.func32 (by kernel_rfl) (by kernel_rfl) (lok_at (i := 8) 0 1 (by kernel_rfl) (by kernel_rfl) (toldF_sound (keep := keepRk) (τ := [some 1, some 2]) lead)) rfl h
end Go.Proofs.YtancjnambbkhmaaGreat.Hs.So

namespace Go.Proofs.YtancjnambbkhmaaGreat.Hs.So
open Go.Gv
open Go.Ev (cn fadd fsub fmul fdiv fsqrt fneg feq flt fle fgt fge fabs isNan key flt_key fgt_key feq_key)

def scS (a b : Crs) : Bool := cond (cond (sameS a.t b.t) (a.l == b.l) false) (a.u == b.u) false
theorem sc_ev (sf : Nat → Nat → Bool) (a b : Crs) : ev Tryz.prog [⟨15, eFF fun a b => bA (sf a b)⟩] [] noL Tryz.f30 [a.v, b.v] ret = some (Out.of (bA (cond (cond (sf a.t b.t) (a.l == b.l) false) (a.u == b.u) false))) := by kernel_rfl
theorem sc_spec (a b : Crs) : FSpec Tryz.prog 30 [a.v, b.v] (bA (scS a b)) := sp (e_cons (eFF_ok rsame) e_nil) Tryz.func30 (by kernel_rfl) (by kernel_rfl) rfl (sc_ev sameS a b)
def vC (p q u : Nat) : List AV := [.f p, .f q, .f u]
def lwS (n : Nat) (P : Nat → Prt) (sn : Int) (r : Nat → Nat) (c : Crs) (p q u : Nat) (S : List Spn) (i : Int) : St := mkS 156 [(4, .own 0 0), (5, .own 1 0), (6, .own 2 0), (7, .own 3 0), (13, slL S), (14, slL S), (15, iA i)] [.c (soC n P sn), .c (rC r), .c c.c, .c (vC p q u)]
def keepLw : List Nat := [4, 5, 6, 7, 13, 14, 15]
section
variable (sc : Crs → Crs → Bool) (sb : (Nat → Nat) → (Nat → Nat) → Bool) (sv : Nat → Nat → Nat → Nat → Nat → Nat → Bool) (n : Nat) (P : Nat → Prt) (sn : Int) (r : Nat → Nat) (c : Crs) (p q u : Nat) (S : List Spn) (i : Int)
def lwG (b : Bool) : Bool := (ixB i S.length || false) && ((ixB i S.length || false) && ((ixB i S.length || gF b) && ((ixB i S.length || gF b) && true)))
def lwC (o o' oe : Option Out) : Option Out := cond (decide (i < S.length)) (cond (lwG S i (!(sc (gtL S i.toNat).i (gtL S i.toNat).i))) (cond (cond (!(sc (gtL S i.toNat).i (gtL S i.toNat).i)) true (!(sc (gtL S i.toNat).o (gtL S i.toNat).o))) o' o) none) oe
def lwE : List Entry := [⟨30, eCC fun a b => bA (sc a b)⟩]
theorem lw_step : evC Tryz.prog (lwE sc) [] noL (loopAt Tryz.f5 0) (lwS n P sn r c p q u S i) (finN keepLw [some 0, some 1, some 2, some 3]) = lwC sc S i (some ⟨.normal, lwS n P sn r c p q u S (w64 (i + 1)), .any⟩) none none := by kernel_rfl
theorem lw_end : evC Tryz.prog (lwE sc) [] noL (loopAt Tryz.f5 0) (lwS n P sn r c p q u S i) (finE keepLw [some 0, some 1, some 2, some 3]) = lwC sc S i none none (some ⟨.exit 0, lwS n P sn r c p q u S i, .any⟩) := by kernel_rfl
variable (b : Nat → Nat) (e e2 : Int) (k : Sdk) (x y z : Nat) (e4 : Int)
noncomputable def lwK : List KEntry := [kS Tryz.prog 24 fun _ => .tup [BX b, iA e], kS Tryz.prog 25 fun _ => .tup [BX b, iA e], kS Tryz.prog 26 fun _ => iA e, kS Tryz.prog 27 fun _ => iA e, kS Tryz.prog 28 fun _ => .tup [slL S, iA e2], kS Tryz.prog 29 fun _ => .tup [slL S, iA e2], kS Tryz.prog 31 fun _ => k.v, kS Tryz.prog 32 fun _ => k.v, kS Tryz.prog 33 fun _ => .tup [V x y z, iA e4], kS Tryz.prog 34 fun _ => .tup [V x y z, iA e4]]
def rB (b : Bool) : Option Out := some (Out.of (bA b))
noncomputable def lwZ : Option Out := gate (FSpec Tryz.prog 33 [.agg (soC n P sn), c.v, V p q u] (.tup [V x y z, iA e4])) (gate (FSpec Tryz.prog 34 [.agg (soC n P sn), c.v, V p q u] (.tup [V x y z, iA e4])) (rB (cond (e4 == e4) (sv x y z x y z) false)))
noncomputable def lwY (o : Option Out) : Option Out := gate (FSpec Tryz.prog 31 [.agg (soC n P sn), RY r] k.v) (gate (FSpec Tryz.prog 32 [.agg (soC n P sn), RY r] k.v) (cond (cond (cond (!(k.k == k.k)) true (!(k.e == k.e))) true (!(sc k.c k.c))) (rB false) o))
noncomputable def lwX (o : Option Out) : Option Out := gate (FSpec Tryz.prog 28 [.agg (soC n P sn), RY r] (.tup [slL S, iA e2])) (gate (FSpec Tryz.prog 29 [.agg (soC n P sn), RY r] (.tup [slL S, iA e2])) (cond (cond (!(e2 == e2)) true (!((S.length : Int) == (S.length : Int)))) (rB false) (gate (Sub (lwS n P sn r c p q u S 0) (lwS n P sn r c p q u S 0)) o)))
noncomputable def lwW (o : Option Out) : Option Out := gate (FSpec Tryz.prog 24 [.agg (soC n P sn)] (.tup [BX b, iA e])) (gate (FSpec Tryz.prog 25 [.agg (soC n P sn)] (.tup [BX b, iA e])) (gate (FSpec Tryz.prog 26 [.agg (soC n P sn)] (iA e)) (gate (FSpec Tryz.prog 27 [.agg (soC n P sn)] (iA e)) (cond (cond (cond (!(e == e)) true (!(e == e))) true (!(sb (lb b) (lb b)))) (rB false) o))))
theorem lw_ev : ev Tryz.prog (⟨12, eBB fun s t => bA (sb s t)⟩ :: ⟨18, eVV fun a b c d e f => bA (sv a b c d e f)⟩ :: lwE sc) (lwK S b e e2 k x y z e4) (oneL 12 (toldF keepLw [some 0, some 1, some 2, some 3] (lwS n P sn r c p q u S 0) (.exit 0) (lwS n P sn r c p q u S S.length))) Tryz.f5 [.agg (soC n P sn), RY r, c.v, V p q u] ret =
    cond (decide ((n : Int) > 20)) (rB true) (lwW sb n P sn b e (lwX n P sn r c p q u S e2 (lwY sc n P sn r k (lwZ sv n P sn c p q u x y z e4)))) := by kernel_rfl
end
end Go.Proofs.YtancjnambbkhmaaGreat.Hs.So

namespace Go.Proofs.YtancjnambbkhmaaGreat
open Go.Gv Go.RowKit Go.ChangeShapes Go.WideShapes Go.ChangeAt

def rsl (n : Nat) (hs : Nat → Int) : AV := .sl 1 n fun i => [iA (hs i)]
theorem open_num {H : Type} {enc : TypeId × Value → H} {P : Program} {w : World} {r : Reach} {b0 : Nat} {t : TypeId} {v : Value} {d : DataW H} {p : List MemPlace} {k : IntKind} (hu : P.underlying t = some (.int k)) (hk : kds P 1 t = some [.i k]) (hv : Value.okWide P w r b0 t v)
    (h : DataW.Trod enc P w 0 (fun _ => true) true t v d p) : ∃ n, rel (Env.all w) (.x (.int k n)) v ∧ (Lit.int k n).wf = true := by
  have hone : v.cells = #[v] := by
    obtain ⟨n, rfl, _⟩ := okWide_int hu hv
    rfl
  obtain ⟨fuel, hf⟩ := h
  obtain ⟨a, h1, h2⟩ := open_arg hf hk hone
  rw [fitA] at h1
  obtain ⟨n, rfl, hw⟩ := h1
  exact ⟨n, h2, hw⟩
def numOf (el : Nat → List AV) (i : Nat) : Int := match el i with
  | [.x (.int .i64 h)] => h
  | _ => 0
theorem sl_same {E : Env} {sz n : Nat} {el el' : Nat → List AV} {v : Value} (h : rel E (.sl sz n el) v) (he : ∀ i, i < n → el' i = el i) : rel E (.sl sz n el') v := by
  have h : relA _ _ _ := h
  show relA _ _ _
  rw [relA] at h ⊢
  obtain ⟨a, c, h1, h2, h3⟩ := h
  refine ⟨a, c, h1, h2, ?_⟩
  rcases h3 with h3 | ⟨b, o, cs, e, fz, h4, h5, h6, h7⟩
  · exact Or.inl h3
  · exact Or.inr ⟨b, o, cs, e, fz, h4, h5, h6, fun i hi => by rw [he i hi]; exact h7 i hi⟩
theorem fitL_single {k : Kd} {zs : List AV} (h : fitL [k] zs) : ∃ a, zs = [a] ∧ fitA k a := by
  match zs, h with
  | [a], h => exact ⟨a, rfl, (fitL_cons.1 h).1⟩
  | [], h => have := fitL_length h; simp at this
  | _ :: _ :: _, h => have := fitL_length h; simp at this
/-- A row of whole numbers that came in: as many, each a number of 64 bits. -/
theorem open_raw {H : Type} {enc : TypeId × Value → H} {P : Program} {w : World} {r : Reach} {b0 : Nat} {t e : TypeId} {v : Value} {d : DataW H} {p : List MemPlace} (hu : P.underlying t = some (.slice e)) (hk : kds P 2 t = some [.l 1 [.i .i64]]) (hv : Value.okWide P w r b0 t v)
    (h : DataW.Trod enc P w 0 (fun _ => true) true t v d p) : ∃ n hs, rel (Env.all w) (rsl n hs) v ∧ ∀ i, i < n → (Lit.int .i64 (hs i)).wf = true := by
  have hone : v.cells = #[v] := by
    obtain ⟨a, len, cap, rfl⟩ := okWide_slice hu hv
    rfl
  obtain ⟨fuel, hf⟩ := h
  obtain ⟨a, h1, h2⟩ := open_arg hf hk hone
  rw [fitA] at h1
  obtain ⟨n, el, rfl, _, hel⟩ := h1
  have key : ∀ i, i < n → el i = [iA (numOf el i)] ∧ (Lit.int .i64 (numOf el i)).wf = true := fun i hi => by
    obtain ⟨a, ha, hf⟩ := fitL_single (hel i hi)
    rw [fitA] at hf
    obtain ⟨m, rfl, hw⟩ := hf
    have e : numOf el i = m := by unfold numOf; rw [ha]
    rw [e]
    exact ⟨ha, hw⟩
  exact ⟨n, numOf el, sl_same h2 fun i hi => (key i hi).1.symm, fun i hi => (key i hi).2⟩
end Go.Proofs.YtancjnambbkhmaaGreat
