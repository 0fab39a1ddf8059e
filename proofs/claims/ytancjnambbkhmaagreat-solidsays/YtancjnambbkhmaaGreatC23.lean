/-
  Gyw Gyl Soj Sok Sol Som Son Soo Gyn, one behind the other.
-/
import Derived.Test.YtancjnambbkhmaaGreatC22
import Derived.Test.YtancjnambbkhmaaGreatC16
import Derived.Test.YtancjnambbkhmaaGreatC21
namespace Go.Proofs.YtancjnambbkhmaaGreat
open Go.Gv

theorem w_nil {P : Program} : ∀ e, e ∈ ([] : List WEntry) → WEOk P e := fun _ h => by cases h
theorem r_nil {P : Program} : ∀ e, e ∈ ([] : List REntry) → REOk P e := fun _ h => by cases h
theorem w_cons {P : Program} {e : WEntry} {l : List WEntry} (h : WEOk P e) (hl : ∀ e, e ∈ l → WEOk P e) : ∀ e', e' ∈ e :: l → WEOk P e' := fun e' he => by
  rcases List.mem_cons.1 he with rfl | he
  · exact h
  · exact hl e' he
theorem r_cons {P : Program} {e : REntry} {l : List REntry} (h : REOk P e) (hl : ∀ e, e ∈ l → REOk P e) : ∀ e', e' ∈ e :: l → REOk P e' := fun e' he => by
  rcases List.mem_cons.1 he with rfl | he
  · exact h
  · exact hl e' he
section
variable {l : List Entry} {ks : List KEntry} {ms : List MEntry} {ws : List WEntry} {rs : List REntry} {L : Nat → Option LFun} (hl : ∀ e, e ∈ l → EOk Tryz.prog e) (hks : ∀ e, e ∈ ks → KOk Tryz.prog e) (hms : ∀ e, e ∈ ms → MEOk Tryz.prog e) (hws : ∀ e, e ∈ ws → WEOk Tryz.prog e) (hrs : ∀ e, e ∈ rs → REOk Tryz.prog e)
include hl hks hms hws hrs
theorem gspecW {f : Nat} {fn : Func} (hf : Tryz.prog.funcs[f]? = some fn) (hnm : (fn.name == "runtime.NumGoroutine") = false) (hb : fn.body = some (bodyOf fn)) (hL : LOk Tryz.prog L (bodyOf fn))
    {args : List AV} (hlen : Nat.ble args.length fn.ntmps = true) {r : AV} (h : evW Tryz.prog l ks ms ws rs L fn args ret = some (Out.of r)) : FSpec Tryz.prog f args r :=
  spec_of_body (tabW_ok hl hks hms hws hrs) (drawnK_ok (tabW_ok hl hks hms hws hrs) (by kernel_rfl)) 40 hf hnm hb hL hlen h
theorem gspecGW {f : Nat} {fn : Func} (hf : Tryz.prog.funcs[f]? = some fn) (hnm : (fn.name == "runtime.NumGoroutine") = false) (hb : fn.body = some (bodyOf fn))
    {args : List AV} {mem : List Row} (hL : LOkN mem.length Tryz.prog L (bodyOf fn)) (hlen : Nat.ble args.length fn.ntmps = true) {τ : List (Option Nat)} (hpin : pinT mem.length τ = true) {v : AV} {mem1 : List Row} (h : evGW Tryz.prog l ks ms ws rs L fn args mem τ = gout v mem1) : GSpec Tryz.prog f args mem v mem1 :=
  gspec_of_body (tabW_ok hl hks hms hws hrs) (drawnK_ok (tabW_ok hl hks hms hws hrs) (by kernel_rfl)) 40 hf hnm hb hL hlen hpin h
theorem leads_evW {c : Code} {s s' : St} {e : Exit} {k : Kont} (hk : KSub k) (hL : LOk Tryz.prog L c) (h : evCW Tryz.prog l ks ms ws rs L c s k = some ⟨e, s', .any⟩) : Leads Tryz.prog c s e s' :=
  leads_ofK hk (tabW_ok hl hks hms hws hrs) (drawnK_ok (tabW_ok hl hks hms hws hrs) (by kernel_rfl)) hL h
end
end Go.Proofs.YtancjnambbkhmaaGreat

namespace Go.Gv
open Go.RowKit Go.Ev

/-- Rows that say no more, element by element. -/
def RowLike (row row' : Row) : Prop := row' = row ∨ (∃ e sz n el el', row = .a e sz n el ∧ row' = .a e sz n el' ∧ ∀ i, i < n → (el' i).length = (el i).length ∧ ∀ (E : Env) (cs : List Value), pre E (el i) cs → pre E (el' i) cs) ∨ ∃ l l', row = .c l ∧ row' = .c l' ∧ ∀ (E : Env) (cs : List Value), pre E l cs → pre E l' cs
def RowsLike : List Row → List Row → Prop
  | [], [] => True
  | r :: rs, r' :: rs' => RowLike r r' ∧ RowsLike rs rs'
  | _, _ => False
theorem RowsLike.get : ∀ {rs rs' : List Row}, RowsLike rs rs' → ∀ k : Nat, (rs[k]? = none ∧ rs'[k]? = none) ∨ ∃ r r', rs[k]? = some r ∧ rs'[k]? = some r' ∧ RowLike r r'
  | [], [], _, k => Or.inl ⟨by simp, by simp⟩
  | r :: rs, r' :: rs', h, k => by
    cases k with
    | zero => exact Or.inr ⟨r, r', rfl, rfl, h.1⟩
    | succ k => simpa using RowsLike.get h.2 k
  | [], _ :: _, h, _ => h.elim
  | _ :: _, [], h, _ => h.elim
theorem sub_like {np : Nat} {sl : List (AV × Chain)} {mem mem' : List Row} (h : RowsLike mem mem') : SubN np ⟨sl, mem⟩ ⟨sl, mem'⟩ := by
  intro A0 R w0 E a hp0 hI
  have lives : ∀ k, liveAt mem' k = liveAt mem k := fun k => by
    unfold liveAt
    rcases h.get k with ⟨h1, h2⟩ | ⟨r, r', h1, h2, h3⟩
    · rw [h1, h2]
    · rw [h1, h2]
      rcases h3 with rfl | ⟨e, sz, n, el, el', rfl, rfl, _⟩ | ⟨l, l', rfl, rfl, _⟩ <;> rfl
  refine ⟨E, rfl, hI.defers, hI.frame, ⟨fun k b c hb => ?_, hI.wd.small, hI.wd.old, fun k b c hb hl => hI.wd.own k b c hb (by rw [← lives]; exact hl), fun k k' b c c' hb hb' hl hl' => hI.wd.one k k' b c c' hb hb' (by rw [← lives]; exact hl) (by rw [← lives]; exact hl'), hI.wd.below, hI.wd.le0⟩⟩
  obtain ⟨row, h1, h2⟩ := hI.wd.rows k b c hb
  rcases h.get k with ⟨g1, _⟩ | ⟨r, r', g1, g2, g3⟩
  · have : mem[k]? = some row := h1
    rw [g1] at this; cases this
  · have : mem[k]? = some row := h1
    rw [g1] at this
    cases this
    refine ⟨r', g2, ?_⟩
    rcases g3 with rfl | ⟨e, sz, n, el, el', rfl, rfl, g4⟩ | ⟨l, l', rfl, rfl, g4⟩
    · exact h2
    · obtain ⟨cs, k1, k2, k3, k4, k5, k6⟩ := h2
      exact ⟨cs, k1, k2, k3, k4, k5, fun i hi => ⟨(g4 i hi).1.trans (k6 i hi).1, (g4 i hi).2 _ _ (k6 i hi).2⟩⟩
    · obtain ⟨cs, e, k1, k2⟩ := h2
      exact ⟨cs, e, k1, g4 _ _ k2⟩
end Go.Gv

namespace Go.Proofs.YtancjnambbkhmaaGreat.Hs.So
open Go.Gv
open Go.Ev (cn fadd fsub fmul fdiv fsqrt fneg feq flt fle fgt fge fabs isNan key flt_key fgt_key feq_key flt_true)

/-- A solid's parts, in plain words. -/
noncomputable def plP (P : Nat → Prt) (r : Nat → Nat) : Pl := ⟨fun k => (P k).op, fun k => (P k).l.toNat, fun k => (P k).r.toNat, fun k => lfL (k : Nat) (P k).s (l7 r)⟩
theorem lfL_one (num : Int) (p : Prt) (r : Nat → Nat) : lfL num p.s (l7 r) = [] ∨ ∃ s, lfL num p.s (l7 r) = [s] ∧ Gd s := by
  unfold lfL
  cases h : (witC p.s (l7 r)).ok
  · exact Or.inl rfl
  · refine Or.inr ⟨_, rfl, ?_⟩
    have := flt_true ((witC_spec p.k p.a p.sk (l7 r)).2.2 h)
    exact ⟨this.1, this.2.1, this.2.2⟩
theorem pl_ok {n : Nat} {P : Nat → Prt} (r : Nat → Nat) (hp : ∀ k, k < n → ppE (P k) (k : Nat) = 0) : PlOk (plP P r) n := by
  refine ⟨fun j hj => ?_, fun j _ _ => lfL_one _ _ _⟩
  rcases pr_ok (hp j hj) with h | ⟨h, l, r, e1, e2, h1, h2⟩
  · exact Or.inl h
  · refine Or.inr ⟨h, ?_, ?_⟩
    · show (P j).l.toNat < j
      rw [e1, Int.toNat_natCast]; exact h1
    · show (P j).r.toNat < j
      rw [e2, Int.toNat_natCast]; exact h2
theorem op_three {p : Prt} {k : Int} (h : ppE p k = 0) (h0 : p.op ≠ 0) : p.op = 1 ∨ p.op = 2 ∨ p.op = 3 := by
  unfold ppE at h
  rw [beq_false_of_ne h0, cond_false] at h
  cases ho : opB p.op
  · rw [ho] at h; exact absurd (show (11 : Int) = 0 from h) (by decide)
  · unfold opB at ho
    by_cases h1 : p.op = 1
    · exact Or.inl h1
    · by_cases h2 : p.op = 2
      · exact Or.inr (Or.inl h2)
      · rw [beq_false_of_ne h1, beq_false_of_ne h2, Bool.false_or, Bool.false_or] at ho
        exact Or.inr (Or.inr (eq_of_beq ho))
def twoG (f : List Spn → List Spn → List Spn) : List AV → List Spn
  | [.sl _ m el, .sl _ m' el'] => f (decL m el) (decL m' el')
  | _ => []
theorem twoG_eq (f : List Spn → List Spn → List Spn) (A B : List Spn) : twoG f [slL A, slL B] = f A B := by
  show f (decL A.length (elL A)) (decL B.length (elL B)) = _
  rw [decL_el, decL_el]
theorem spC_t {n : Nat} {P : Nat → Prt} {r : Nat → Nat} {k : Nat} (hk : k < n) (hn : n ≤ 16) (hp : ∀ k, k < n → ppE (P k) (k : Nat) = 0) (f : List Spn → Option Out) (o oe : Option Out) :
    spC lfL (twoG bothL) (twoG eitherL) (twoG lessL) n P r (k : Nat) (rwF (plP P r) k) f o oe = f (rowV (P k).op (lfL (k : Nat) (P k).s (l7 r)) (rwF (plP P r) k (P k).l.toNat) (rwF (plP P r) k (P k).r.toNat)) := by
  unfold spC
  rw [dec_lt hk, ixB_t hk, Int.toNat_natCast]
  rcases pr_ok (hp k hk) with h | ⟨h, l, rr, e1, e2, h1, h2⟩
  · have e : ((P k).op == 0) = true := by rw [h]; rfl
    unfold rowV
    rw [e]
    exact ow_t hk _
  · have pok := pl_ok r hp
    have il := rw_ok pok k (by omega) l h1
    have ir := rw_ok pok k (by omega) rr h2
    have ll := rw_len pok (by omega) h1 (by omega)
    have lr := rw_len pok (by omega) h2 (by omega)
    have go : ∀ (fn : Nat) (g : List Spn → List Spn → List Spn), FSpec Tryz.prog fn [slL (rwF (plP P r) k l), slL (rwF (plP P r) k rr)] (slL (g (rwF (plP P r) k l) (rwF (plP P r) k rr))) → spG n (k : Nat) (rwF (plP P r) k) fn (twoG g) (P k) f = f (g (rwF (plP P r) k l) (rwF (plP P r) k rr)) := fun fn g hs => by
      unfold spG spA
      rw [e1, e2, Int.toNat_natCast, Int.toNat_natCast, Nat.zero_add, Nat.zero_add, twoG_eq, gate_pos hs, jnB_t (by omega) (by omega) hk]
      rfl
    unfold rowV
    rw [beq_false_of_ne h, cond_false, cond_true, cond_false, go _ bothL (both_spec (by omega) (by omega)), go _ eitherL (either_spec il.ris ir.ris (by omega)), go _ lessL (less_spec (by omega) (by omega)), e1, e2, Int.toNat_natCast, Int.toNat_natCast]
    rcases op_three (hp k hk) h with h3 | h3 | h3 <;> rw [h3] <;> rfl
theorem spE_ok : ∀ e, e ∈ [(⟨107, eLf lfL⟩ : Entry)] → EOk Tryz.prog e := e_cons eLf_ok e_nil
theorem spK_ok {b1 b2 b3 : List AV → List Spn} : ∀ e, e ∈ spK b1 b2 b3 → KOk Tryz.prog e := k_cons kS_ok (k_cons kS_ok (k_cons kS_ok k_nil))
theorem mix_sl (b : Bool) (A B : List Spn) : mixL b [slL A] [slL B] = [slL (cond b A B)] := by
  have e : mixL b [slL A] [slL B] = [.sl 6 (cond b A.length B.length) fun i => mixL b (elL A i) (elL B i)] := rfl
  rw [e]
  cases b
  · show [AV.sl 6 B.length fun i => mixL false (elL A i) (elL B i)] = [slL B]
    have : (fun i => mixL false (elL A i) (elL B i)) = elL B := by
      funext i
      show mixL false (gtL A i).c (gtL B i).c = _
      rw [mix_c]; rfl
    rw [this]; rfl
  · show [AV.sl 6 A.length fun i => mixL true (elL A i) (elL B i)] = [slL A]
    have : (fun i => mixL true (elL A i) (elL B i)) = elL A := by
      funext i
      show mixL true (gtL A i).c (gtL B i).c = _
      rw [mix_c]; rfl
    rw [this]; rfl
theorem sp_leads {n : Nat} (hn : n ≤ 16) {P : Nat → Prt} (r : Nat → Nat) (hp : ∀ k, k < n → ppE (P k) (k : Nat) = 0) : Leads Tryz.prog (.loop (loopAt Tryz.f73 0)) (spS n P r 0 (rwF (plP P r) 0)) (.exit 0) (spS n P r n (rwF (plP P r) n)) := by
  refine loop_rule (fun k => spS n P r (k : Nat) (rwF (plP P r) k)) n (.exit 0) _ (by simp) (fun k hk => ?_) ?_
  · have st := sp_step lfL (twoG bothL) (twoG eitherL) (twoG lessL) n P r (k : Nat) (rwF (plP P r) k)
    rw [spC_t hk hn hp, w64_next (by omega), Int.toNat_natCast] at st
    refine (leads_ev (finN_sub _ _) spE_ok spK_ok noL_ok st).sub (Sub.refl _) ?_
    refine sub_same ⟨Or.inl rfl, Or.inr ⟨57, 1, n, _, _, rfl, rfl, fun q hq => ?_⟩, trivial⟩
    rw [mix_sl, Nat.zero_add]
    show [slL (if q = k then rowV (P k).op (lfL (k : Nat) (P k).s (l7 r)) (rwF (plP P r) k (P k).l.toNat) (rwF (plP P r) k (P k).r.toNat) else rwF (plP P r) k q)] = _
    by_cases e : q = k
    · subst e; rw [BEq.rfl, if_pos rfl]; rfl
    · rw [beq_false_of_ne e, if_neg e]; rfl
  · refine leads_ev (finE_sub _ _) spE_ok spK_ok noL_ok ((sp_end lfL (twoG bothL) (twoG eitherL) (twoG lessL) n P r (n : Nat) (rwF (plP P r) n)).trans ?_)
    unfold spC
    rw [dec_self, cond_false]
/-- Where a ray is within a solid. -/
noncomputable def soS (n : Nat) (P : Nat → Prt) (r : Nat → Nat) : List Spn := rwF (plP P r) n (n - 1)
theorem sp_spec {n : Nat} (h1 : 1 ≤ n) (hn : n ≤ 16) {P : Nat → Prt} (r : Nat → Nat) (hp : ∀ k, k < n → ppE (P k) (k : Nat) = 0) : FSpec Tryz.prog 73 [prS n P, RY r] (slL (soS n P r)) := by
  refine gspec spE_ok spK_ok Tryz.func73 (by kernel_rfl) (by kernel_rfl) (lok_at (i := 3) 0 1 (by kernel_rfl) (by kernel_rfl) (toldF_sound (keep := keepSp) (τ := [some 0, some 1]) (sp_leads hn r hp))) rfl ((sp_ev lfL (twoG bothL) (twoG eitherL) (twoG lessL) n P r (rwF (plP P r) 0) (rwF (plP P r) n)).trans ?_)
  have hs : Sub (spR n P r 0 fun _ => [.x (.slice none 0 0)]) (spS n P r 0 (rwF (plP P r) 0)) := by
    refine sub_like ⟨Or.inl rfl, Or.inr (Or.inl ⟨57, 1, n, _, _, rfl, rfl, fun i hi => ⟨rfl, fun E cs hc => ?_⟩⟩), trivial⟩
    obtain ⟨u, us, e, h1, h2⟩ := pre_cons.1 hc
    exact pre_cons.2 ⟨u, us, e, rel_nil_sl h1, h2⟩
  have hm : ((decide (0 ≤ (n : Int)) && (decide ((n : Int) ≤ n) && decide (((24 : Nat) : Int) * n ≤ 281474976710656))) || false) = true := by
    rw [decide_eq_true (show (0 : Int) ≤ n by omega), decide_eq_true (show (n : Int) ≤ n by omega), decide_eq_true (show ((24 : Nat) : Int) * n ≤ 281474976710656 by omega)]; rfl
  rw [hm, gate_pos hs, w64_id (by omega) (by omega), show ((n : Int) - 1) = ((n - 1 : Nat) : Int) by omega, ow_t (by omega), Int.toNat_natCast, Nat.zero_add]
  rfl
end Go.Proofs.YtancjnambbkhmaaGreat.Hs.So

namespace Go.Proofs.YtancjnambbkhmaaGreat.Hs.So
open Go.Gv
open Go.Ev (cn fadd fsub fmul fdiv fsqrt fneg feq flt fle fgt fge fabs isNan key flt_key fgt_key feq_key)

def joR (A B : List Spn) (i k : Int) (m : Nat) (el : Nat → List AV) : St := mkS 62 [(0, slL A), (1, slL B), (5, .osl 0 6 0 m), (6, iA i), (7, iA k)] [.a 62 6 m el]
def joS (A B : List Spn) (i k : Int) (R : List Spn) : St := joR A B i k R.length (elL R)
def keepJo : List Nat := [0, 1, 5, 6, 7]
section
variable (A B : List Spn) (i k : Int) (R : List Spn)
def joT : Bool := cond (decide (i < A.length)) true (decide (k < B.length))
def joB : Bool := k == (B.length : Int)
def joN : Bool := !(decide (decide (i < A.length) = true) && (decide (joB B k = false) && true))
def joG : Bool := (ixB i A.length || joN A B i k) && ((ixB k B.length || joN A B i k) && true)
def joP : Bool := cond (joB B k) true (cond (decide (i < A.length)) (fle (gtL A i.toNat).i.t (gtL B k.toNat).i.t) false)
def joC (oa ob oe : Option Out) : Option Out := cond (joT A B i k) (cond (joG A B i k) (cond (joP A B i k) (cond (ixB i A.length || false) (cond (apB R.length 48 || false) oa none) none) (cond (ixB k B.length || false) (cond (apB R.length 48 || false) ob none) none)) none) oe
theorem jo_step : evC Tryz.prog [] [] noL (loopAt Tryz.f134 0) (joS A B i k R) (finN keepJo [some 2]) = joC A B i k R (some ⟨.normal, joR A B (w64 (i + 1)) k (R.length + 1) fun q => mixL (Nat.blt q R.length) (elL R q) (gtL A i.toNat).c, .any⟩) (some ⟨.normal, joR A B i (w64 (k + 1)) (R.length + 1) fun q => mixL (Nat.blt q R.length) (elL R q) (gtL B k.toNat).c, .any⟩) none := by kernel_rfl
theorem jo_end : evC Tryz.prog [] [] noL (loopAt Tryz.f134 0) (joS A B i k R) (finE keepJo [some 0]) = joC A B i k R none none (some ⟨.exit 0, joS A B i k R, .any⟩) := by kernel_rfl
theorem jo_ev (i' k' : Int) : ev Tryz.prog [] [] (oneL 4 (toldN keepJo [(5, 0, 6)] (roL []) [none] (joS A B 0 0 []) (.exit 0) (joS A B i' k' R))) Tryz.f134 [slL A, slL B] ret = gate (Sub (joS A B 0 0 []) (joS A B 0 0 [])) (some (Out.of (.sl 6 R.length fun q => elL R (0 + q)))) := by kernel_rfl
end
theorem mrg_nil (A : List Spn) : mrg A [] = A := by cases A <;> rw [mrg]
theorem mrg_nil' (B : List Spn) : mrg [] B = B := by rw [mrg]
/-- How far both rows are gone through, and what has been laid, behind so many rounds. -/
def joI (A B : List Spn) : Nat → Nat × Nat × List Spn
  | 0 => (0, 0, [])
  | t + 1 => cond (joP A B ((joI A B t).1 : Nat) ((joI A B t).2.1 : Nat)) ((joI A B t).1 + 1, (joI A B t).2.1, (joI A B t).2.2 ++ [gtL A (joI A B t).1]) ((joI A B t).1, (joI A B t).2.1 + 1, (joI A B t).2.2 ++ [gtL B (joI A B t).2.1])
theorem joP_nat (A B : List Spn) (i k : Nat) : joP A B (i : Nat) (k : Nat) = cond (decide (k = B.length)) true (cond (decide (i < A.length)) (fle (gtL A i).i.t (gtL B k).i.t) false) := by
  unfold joP joB
  rw [Int.toNat_natCast, Int.toNat_natCast]
  have e1 : (((k : Nat) : Int) == (B.length : Int)) = decide (k = B.length) := by
    by_cases h : k = B.length
    · rw [h, BEq.rfl, decide_eq_true rfl]
    · rw [beq_false_of_ne (by omega), decide_eq_false h]
  have e2 : decide (((i : Nat) : Int) < (A.length : Int)) = decide (i < A.length) := by
    by_cases h : i < A.length
    · rw [decide_eq_true h, decide_eq_true (by omega)]
    · rw [decide_eq_false h, decide_eq_false (by omega)]
  rw [e1, e2]
structure JoOk (A B : List Spn) (t : Nat) (x : Nat × Nat × List Spn) : Prop where
  sum : x.1 + x.2.1 = t
  a : x.1 ≤ A.length
  b : x.2.1 ≤ B.length
  len : x.2.2.length = t
  mrg : x.2.2 ++ mrg (A.drop x.1) (B.drop x.2.1) = mrg A B
theorem jo_go {A B : List Spn} {i k : Nat} (hi : i ≤ A.length) (hk : k ≤ B.length) (h : i + k < A.length + B.length) :
    (joP A B (i : Nat) (k : Nat) = true ∧ i < A.length ∧ mrg (A.drop i) (B.drop k) = gtL A i :: mrg (A.drop (i + 1)) (B.drop k)) ∨ (joP A B (i : Nat) (k : Nat) = false ∧ k < B.length ∧ mrg (A.drop i) (B.drop k) = gtL B k :: mrg (A.drop i) (B.drop (k + 1))) := by
  rw [joP_nat]
  by_cases h1 : k = B.length
  · subst h1
    rw [decide_eq_true rfl, List.drop_length, mrg_nil, mrg_nil, drop_gt (show i < A.length by omega)]
    exact Or.inl ⟨rfl, by omega, rfl⟩
  · rw [decide_eq_false h1]
    by_cases h2 : i < A.length
    · rw [decide_eq_true h2, drop_gt h2, drop_gt (show k < B.length by omega), mrg]
      cases fle (gtL A i).i.t (gtL B k).i.t
      · exact Or.inr ⟨rfl, by omega, rfl⟩
      · exact Or.inl ⟨rfl, h2, rfl⟩
    · have e : i = A.length := by omega
      subst e
      rw [decide_eq_false h2, List.drop_length, mrg_nil', mrg_nil', drop_gt (show k < B.length by omega)]
      exact Or.inr ⟨rfl, by omega, rfl⟩
theorem joI_ok (A B : List Spn) : ∀ t, t ≤ A.length + B.length → JoOk A B t (joI A B t)
  | 0, _ => ⟨rfl, Nat.zero_le _, Nat.zero_le _, rfl, rfl⟩
  | t + 1, h => by
    have ih := joI_ok A B t (by omega)
    show JoOk A B (t + 1) (cond (joP A B ((joI A B t).1 : Nat) ((joI A B t).2.1 : Nat)) _ _)
    generalize joI A B t = x at ih ⊢
    have hs := ih.sum
    rcases jo_go ih.a ih.b (by omega) with ⟨h1, h2, h3⟩ | ⟨h1, h2, h3⟩
    · rw [h1, cond_true]
      refine ⟨by show x.1 + 1 + x.2.1 = t + 1; omega, h2, ih.b, by show (x.2.2 ++ [_]).length = _; rw [List.length_append, ih.len]; rfl, ?_⟩
      show (x.2.2 ++ [gtL A x.1]) ++ mrg (A.drop (x.1 + 1)) (B.drop x.2.1) = _
      rw [← ih.mrg, h3, List.append_assoc]; rfl
    · rw [h1, cond_false]
      refine ⟨by show x.1 + (x.2.1 + 1) = t + 1; omega, ih.a, h2, by show (x.2.2 ++ [_]).length = _; rw [List.length_append, ih.len]; rfl, ?_⟩
      show (x.2.2 ++ [gtL B x.2.1]) ++ mrg (A.drop x.1) (B.drop (x.2.1 + 1)) = _
      rw [← ih.mrg, h3, List.append_assoc]; rfl
theorem joG_t {A B : List Spn} {i k : Nat} (hk : k ≤ B.length) : joG A B (i : Nat) (k : Nat) = true := by
  unfold joG joN
  by_cases h1 : i < A.length
  · by_cases h2 : k = B.length
    · have : joB B (k : Nat) = true := by unfold joB; rw [h2, BEq.rfl]
      rw [this]; simp
    · rw [ixB_t h1, ixB_t (show k < B.length by omega)]; rfl
  · rw [decide_eq_false (show ¬ ((i : Nat) : Int) < (A.length : Int) by omega)]; simp
theorem jo_leads {A B : List Spn} (h : A.length + B.length ≤ 1000) : ∃ i' k' : Int, Leads Tryz.prog (.loop (loopAt Tryz.f134 0)) (joS A B 0 0 []) (.exit 0) (joS A B i' k' (mrg A B)) := by
  refine ⟨((joI A B (A.length + B.length)).1 : Nat), ((joI A B (A.length + B.length)).2.1 : Nat), ?_⟩
  have hf := joI_ok A B _ (Nat.le_refl (A.length + B.length))
  have hR : (joI A B (A.length + B.length)).2.2 = mrg A B := by
    have hs := hf.sum
    have ha := hf.a
    have hb := hf.b
    have := hf.mrg
    rw [show (joI A B (A.length + B.length)).1 = A.length by omega, show (joI A B (A.length + B.length)).2.1 = B.length by omega, List.drop_length, List.drop_length, mrg_nil, List.append_nil] at this
    exact this
  have hl : Leads Tryz.prog (.loop (loopAt Tryz.f134 0)) (joS A B ((joI A B 0).1 : Nat) ((joI A B 0).2.1 : Nat) (joI A B 0).2.2) (.exit 0) (joS A B ((joI A B (A.length + B.length)).1 : Nat) ((joI A B (A.length + B.length)).2.1 : Nat) (joI A B (A.length + B.length)).2.2) := by
    refine loop_rule (fun t => joS A B ((joI A B t).1 : Nat) ((joI A B t).2.1 : Nat) (joI A B t).2.2) (A.length + B.length) (.exit 0) _ (by simp) (fun t ht => ?_) ?_
    · have ok := joI_ok A B t (by omega)
      show Leads Tryz.prog _ (joS A B ((joI A B t).1 : Nat) ((joI A B t).2.1 : Nat) (joI A B t).2.2) .normal (joS A B ((cond (joP A B ((joI A B t).1 : Nat) ((joI A B t).2.1 : Nat)) ((joI A B t).1 + 1, (joI A B t).2.1, (joI A B t).2.2 ++ [gtL A (joI A B t).1]) ((joI A B t).1, (joI A B t).2.1 + 1, (joI A B t).2.2 ++ [gtL B (joI A B t).2.1])).1 : Nat) ((cond (joP A B ((joI A B t).1 : Nat) ((joI A B t).2.1 : Nat)) ((joI A B t).1 + 1, (joI A B t).2.1, (joI A B t).2.2 ++ [gtL A (joI A B t).1]) ((joI A B t).1, (joI A B t).2.1 + 1, (joI A B t).2.2 ++ [gtL B (joI A B t).2.1])).2.1 : Nat) (cond (joP A B ((joI A B t).1 : Nat) ((joI A B t).2.1 : Nat)) ((joI A B t).1 + 1, (joI A B t).2.1, (joI A B t).2.2 ++ [gtL A (joI A B t).1]) ((joI A B t).1, (joI A B t).2.1 + 1, (joI A B t).2.2 ++ [gtL B (joI A B t).2.1])).2.2)
      generalize joI A B t = x at ok
      obtain ⟨i, k, R⟩ := x
      have hs : i + k = t := ok.sum
      have ha : i ≤ A.length := ok.a
      have hb : k ≤ B.length := ok.b
      have hlen : R.length = t := ok.len
      have st := jo_step A B (i : Nat) (k : Nat) R
      have hT : joT A B (i : Nat) (k : Nat) = true := by
        unfold joT
        by_cases h1 : i < A.length
        · rw [dec_lt h1]; rfl
        · rw [decide_eq_false (by omega), dec_lt (show k < B.length by omega)]; rfl
      unfold joC at st
      rw [hT, joG_t hb, apB_t (by omega)] at st
      rcases jo_go ha hb (by omega) with ⟨h1, h2, _⟩ | ⟨h1, h2, _⟩
      · rw [h1, ixB_t h2, w64_next (by omega), Int.toNat_natCast] at st
        show Leads Tryz.prog _ (joS A B (i : Nat) (k : Nat) R) .normal (joS A B ((cond (joP A B (i : Nat) (k : Nat)) (i + 1, k, R ++ [gtL A i]) (i, k + 1, R ++ [gtL B k])).1 : Nat) ((cond (joP A B (i : Nat) (k : Nat)) (i + 1, k, R ++ [gtL A i]) (i, k + 1, R ++ [gtL B k])).2.1 : Nat) (cond (joP A B (i : Nat) (k : Nat)) (i + 1, k, R ++ [gtL A i]) (i, k + 1, R ++ [gtL B k])).2.2)
        rw [h1]
        refine (leads_ev (finN_sub keepJo [some 2]) e_nil k_nil noL_ok st).sub (Sub.refl _) ?_
        show Sub _ (joS A B ((i + 1 : Nat) : Int) (k : Nat) (R ++ [gtL A i]))
        unfold joS
        have hl1 : (R ++ [gtL A i]).length = R.length + 1 := by rw [List.length_append]; rfl
        rw [hl1]
        exact sub_same ⟨Or.inr ⟨62, 6, R.length + 1, _, _, rfl, rfl, fun q hq => (elL_app R _ hq).symm⟩, trivial⟩
      · rw [h1, cond_true, cond_true, cond_false, ixB_t h2, w64_next (n := k) (by omega), Int.toNat_natCast] at st
        show Leads Tryz.prog _ (joS A B (i : Nat) (k : Nat) R) .normal (joS A B ((cond (joP A B (i : Nat) (k : Nat)) (i + 1, k, R ++ [gtL A i]) (i, k + 1, R ++ [gtL B k])).1 : Nat) ((cond (joP A B (i : Nat) (k : Nat)) (i + 1, k, R ++ [gtL A i]) (i, k + 1, R ++ [gtL B k])).2.1 : Nat) (cond (joP A B (i : Nat) (k : Nat)) (i + 1, k, R ++ [gtL A i]) (i, k + 1, R ++ [gtL B k])).2.2)
        rw [h1]
        refine (leads_ev (finN_sub keepJo [some 2]) e_nil k_nil noL_ok st).sub (Sub.refl _) ?_
        show Sub _ (joS A B (i : Nat) ((k + 1 : Nat) : Int) (R ++ [gtL B k]))
        unfold joS
        have hl1 : (R ++ [gtL B k]).length = R.length + 1 := by rw [List.length_append]; rfl
        rw [hl1]
        exact sub_same ⟨Or.inr ⟨62, 6, R.length + 1, _, _, rfl, rfl, fun q hq => (elL_app R _ hq).symm⟩, trivial⟩
    · have hs := hf.sum
      have ha := hf.a
      have hb := hf.b
      refine leads_ev (finE_sub keepJo [some 0]) e_nil k_nil noL_ok ((jo_end A B _ _ _).trans ?_)
      unfold joC joT
      rw [decide_eq_false (by omega), decide_eq_false (by omega)]; rfl
  rw [hR] at hl
  exact hl
/-- Two rows, by their beginnings. -/
theorem jo_spec {A B : List Spn} (h : A.length + B.length ≤ 1000) : FSpec Tryz.prog 134 [slL A, slL B] (slL (mrg A B)) := by
  obtain ⟨i', k', lead⟩ := jo_leads h
  have hL := lok_hd (c := bodyOf Tryz.f134) (i := 4) 0 (by kernel_rfl) (by kernel_rfl) (toldN_sound (keep := keepJo) (nils := [(5, 0, 6)]) (nr := roL []) (τ := [none]) lead)
  refine gspec e_nil k_nil Tryz.func134 (by kernel_rfl) (by kernel_rfl) hL rfl ((jo_ev A B (mrg A B) i' k').trans ?_)
  rw [gate_pos (Sub.refl _), slL_eq]
end Go.Proofs.YtancjnambbkhmaaGreat.Hs.So

namespace Go.Proofs.YtancjnambbkhmaaGreat.Hs.So
open Go.Gv
open Go.Ev (cn fadd fsub fmul fdiv fsqrt fneg feq flt fle fgt fge fabs isNan key flt_key fgt_key feq_key)

/-! ### The inner loop: what a hole leaves of the pieces -/
def raR (H L : List Spn) (i k : Int) (m : Nat) (el : Nat → List AV) : St := mkS 110 [(1, slL H), (5, .osl 0 6 0 L.length), (6, iA i), (7, .osl 1 6 0 m), (8, iA k)] [roL L, .a 62 6 m el]
def raS (H L : List Spn) (i k : Int) (R : List Spn) : St := raR H L i k R.length (elL R)
/-- Nothing is left yet. -/
def raN (H L : List Spn) (i k : Int) : St := mkS 110 [(1, slL H), (5, .osl 0 6 0 L.length), (6, iA i), (7, .x (.slice none 0 0)), (8, iA k)] [roL L]
def keepRa : List Nat := [1, 5, 6, 7, 8]
def apE1 (R : List Spn) (s : Spn) : Nat → List AV := fun q => mixL (Nat.blt q R.length) (elL R q) s.c
def apE2 (R : List Spn) (s s' : Spn) : Nat → List AV := fun q => mixL (Nat.blt q (R.length + 1)) (mixL (Nat.blt q R.length) (elL R q) s.c) s'.c
section
variable (H L : List Spn) (i k : Int) (R : List Spn)
def raG (b : Bool) : Bool := (ixB i H.length || false) && ((ixB i H.length || gF b) && true)
def raI (o : Option Out) : Option Out := cond (ixB i H.length || false) o none
def raJ (o : Option Out) : Option Out := cond ((ixB i H.length || false) && true) o none
def raA (m : Nat) (o : Option Out) : Option Out := cond (apB m 48 || false) o none
/-- Keep; both ends; the first; the second; none. -/
def raC (a a' : Nat → Option Out → Option Out) (o1 o2 o3 o4 o5 oe : Option Out) : Option Out :=
  cond (decide (k < L.length)) (cond (ixB k L.length || false) (cond (bl' k L.length) (cond (raG H i (fle (gtL H i.toNat).o.t (gtL L (0 + k.toNat)).i.t)) (cond (cond (fle (gtL H i.toNat).o.t (gtL L (0 + k.toNat)).i.t) true (fge (gtL H i.toNat).i.t (gtL L (0 + k.toNat)).o.t)) (a R.length o1)
    (raJ H i (cond (flt (gtL L (0 + k.toNat)).i.t (gtL H i.toNat).i.t) (raI H i (a R.length (raJ H i (cond (flt (gtL H i.toNat).o.t (gtL L (0 + k.toNat)).o.t) (raI H i (a' (R.length + 1) o2)) o3)))) (raJ H i (cond (flt (gtL H i.toNat).o.t (gtL L (0 + k.toNat)).o.t) (raI H i (a R.length o4)) o5))))) none) none) none) oe
def raX : Spn := ⟨(gtL L (0 + k.toNat)).i, turnS (gtL H i.toNat).i⟩
def raY : Spn := ⟨turnS (gtL H i.toNat).o, (gtL L (0 + k.toNat)).o⟩
theorem ra_keep : evC Tryz.prog [] [] noL (loopAt Tryz.f135 1) (raS H L i k R) (finS 5 keepRa [some 0, some 4]) = raC H L i k R raA raA (some ⟨.normal, raR H L i (w64 (k + 1)) (R.length + 1) (apE1 R (gtL L (0 + k.toNat))), .any⟩) none none none none none := by kernel_rfl
theorem ra_both : evC Tryz.prog [] [] noL (loopAt Tryz.f135 1) (raS H L i k R) (finS 9 keepRa [some 0, some 8]) = raC H L i k R raA raA none (some ⟨.normal, raR H L i (w64 (k + 1)) (R.length + 1 + 1) (apE2 R (raX H L i k) (raY H L i k)), .any⟩) none none none none := by kernel_rfl
theorem ra_one : evC Tryz.prog [] [] noL (loopAt Tryz.f135 1) (raS H L i k R) (finS 6 keepRa [some 0, some 5]) = raC H L i k R raA raA none none (some ⟨.normal, raR H L i (w64 (k + 1)) (R.length + 1) (apE1 R (raX H L i k)), .any⟩) (some ⟨.normal, raR H L i (w64 (k + 1)) (R.length + 1) (apE1 R (raY H L i k)), .any⟩) none none := by kernel_rfl
theorem ra_none : evC Tryz.prog [] [] noL (loopAt Tryz.f135 1) (raS H L i k R) (finS 3 keepRa [some 0, some 1]) = raC H L i k R raA raA none none none none (some ⟨.normal, raS H L i (w64 (k + 1)) R, .any⟩) none := by kernel_rfl
theorem ra_end : evC Tryz.prog [] [] noL (loopAt Tryz.f135 1) (raS H L i k R) (finE keepRa [some 0, some 1]) = raC H L i k R raA raA none none none none none (some ⟨.exit 2, raS H L i k R, .any⟩) := by kernel_rfl
end
end Go.Proofs.YtancjnambbkhmaaGreat.Hs.So

namespace Go.Proofs.YtancjnambbkhmaaGreat.Hs.So
open Go.Gv
open Go.Ev (cn fadd fsub fmul fdiv fsqrt fneg feq flt fle fgt fge fabs isNan key flt_key fgt_key feq_key)

def ruR (H : List Spn) (i : Int) (m : Nat) (el : Nat → List AV) : St := mkS 110 [(1, slL H), (5, .osl 0 6 0 m), (6, iA i)] [.a 62 6 m el]
def ruS (H : List Spn) (i : Int) (L : List Spn) : St := ruR H i L.length (elL L)
def ruN (H : List Spn) (i : Int) : St := mkS 110 [(1, slL H), (5, .x (.slice none 0 0)), (6, iA i)] []
def keepRu : List Nat := [1, 5, 6]
section
variable (H L : List Spn) (i k : Int) (R : List Spn) (x : Spn)
theorem ra_noneN : evC Tryz.prog [] [] noL (loopAt Tryz.f135 1) (raN H L i k) (finS 2 keepRa [some 0]) = raC H L i k [] (fun _ o => o) (fun _ o => o) none none none none (some ⟨.normal, raN H L i (w64 (k + 1)), .any⟩) none := by kernel_rfl
theorem ra_endN : evC Tryz.prog [] [] noL (loopAt Tryz.f135 1) (raN H L i k) (finE keepRa [some 0]) = raC H L i k [] (fun _ o => o) (fun _ o => o) none none none none none (some ⟨.exit 2, raN H L i k, .any⟩) := by kernel_rfl
theorem ru_step : evC Tryz.prog [] [] (oneL 7 (toldN keepRa [(7, 1, 6)] (roL []) [some 0, none] (raS H L i 0 []) (.exit 2) (raS H L i L.length R))) (loopAt Tryz.f135 0) (ruS H i L) (finN keepRu [some 1]) = cond (decide (i < H.length)) (gate (Sub (raS H L i 0 []) (raS H L i 0 [])) (some ⟨.normal, ruS H (w64 (i + 1)) R, .any⟩)) none := by kernel_rfl
theorem ru_stepN : evC Tryz.prog [] [] (oneL 7 (toldF keepRa [some 0] (raN H L i 0) (.exit 2) (raN H L i L.length))) (loopAt Tryz.f135 0) (ruS H i L) (finN keepRu []) = cond (decide (i < H.length)) (gate (Sub (raN H L i 0) (raN H L i 0)) (some ⟨.normal, ruN H (w64 (i + 1)), .any⟩)) none := by kernel_rfl
theorem ru_stepNN : evC Tryz.prog [] [] noL (loopAt Tryz.f135 0) (ruN H i) (finN keepRu []) = cond (decide (i < H.length)) (some ⟨.normal, ruN H (w64 (i + 1)), .any⟩) none := by kernel_rfl
theorem ru_end : evC Tryz.prog [] [] (oneL 7 fun _ _ => none) (loopAt Tryz.f135 0) (ruS H i L) (finE keepRu [some 0]) = cond (decide (i < H.length)) none (some ⟨.exit 0, ruS H i L, .any⟩) := by kernel_rfl
theorem ru_endN : evC Tryz.prog [] [] (oneL 7 fun _ _ => none) (loopAt Tryz.f135 0) (ruN H i) (finE keepRu []) = cond (decide (i < H.length)) none (some ⟨.exit 0, ruN H i, .any⟩) := by kernel_rfl
theorem rc_ev : ev Tryz.prog [] [] (oneL 3 (toldF keepRu [some 1] (ruS H 0 [x]) (.exit 0) (ruS H H.length R))) Tryz.f135 [.agg x.c, slL H] ret = gate (Sub (ruR H 0 1 (chunk x.c 6)) (ruS H 0 [x])) (some (Out.of (.sl 6 R.length fun q => elL R (0 + q)))) := by kernel_rfl
theorem rc_evN : ev Tryz.prog [] [] (oneL 3 (toldF keepRu [some 1] (ruS H 0 [x]) (.exit 0) (ruN H H.length))) Tryz.f135 [.agg x.c, slL H] ret = gate (Sub (ruR H 0 1 (chunk x.c 6)) (ruS H 0 [x])) (some (Out.of (.x (.slice none 0 0)))) := by kernel_rfl
end
/-! ### The inner loop -/
theorem raG_t {H : List Spn} {i : Nat} (hi : i < H.length) (b : Bool) : raG H (i : Nat) b = true := by unfold raG; rw [ixB_t hi]; rfl
theorem raI_t {H : List Spn} {i : Nat} (hi : i < H.length) (o : Option Out) : raI H (i : Nat) o = o := by unfold raI; rw [ixB_t hi]; rfl
theorem raJ_t {H : List Spn} {i : Nat} (hi : i < H.length) (o : Option Out) : raJ H (i : Nat) o = o := by unfold raJ; rw [ixB_t hi]; rfl
theorem raA_t {m : Nat} (hm : m ≤ 1000000) (o : Option Out) : raA m o = o := by unfold raA; rw [apB_t (by omega)]; rfl
/-- Which of the five it is. -/
theorem raC_t {H L : List Spn} {i k : Nat} {R : List Spn} (hi : i < H.length) (hk : k < L.length) {a a' : Nat → Option Out → Option Out} (ha : ∀ o, a R.length o = o) (ha' : ∀ o, a' (R.length + 1) o = o) (o1 o2 o3 o4 o5 oe : Option Out) :
    raC H L (i : Nat) (k : Nat) R a a' o1 o2 o3 o4 o5 oe = cond (skipB (gtL H i) (gtL L k).i (gtL L k).o) o1 (cond (flt (gtL L k).i.t (gtL H i).i.t) (cond (flt (gtL H i).o.t (gtL L k).o.t) o2 o3) (cond (flt (gtL H i).o.t (gtL L k).o.t) o4 o5)) := by
  unfold raC bl'
  simp only [raG_t hi, raI_t hi, raJ_t hi, ha, ha']
  rw [dec_lt hk, ixB_t hk, Int.toNat_natCast, Int.toNat_natCast, Nat.zero_add, blt_t hk]
  have e : cond (fle (gtL H i).o.t (gtL L k).i.t) true (fge (gtL H i).i.t (gtL L k).o.t) = skipB (gtL H i) (gtL L k).i (gtL L k).o := by unfold skipB; cases fle (gtL H i).o.t (gtL L k).i.t <;> rfl
  rw [e]
  rfl
theorem cut1_len (h y : Spn) : (cut1 h y).length ≤ 2 := by
  unfold cut1
  cases skipB h y.i y.o
  · rw [cond_false, List.length_append]
    have := piece_len y.i (turnS h.i)
    have := piece_len (turnS h.o) y.o
    omega
  · exact Nat.le_succ _
theorem apE1_sub (H L : List Spn) (i k : Int) (R : List Spn) (s : Spn) : Sub (raR H L i k (R.length + 1) (apE1 R s)) (raS H L i k (R ++ [s])) := by
  unfold raS
  have hl1 : (R ++ [s]).length = R.length + 1 := by rw [List.length_append]; rfl
  rw [hl1]
  exact sub_same ⟨Or.inl rfl, Or.inr ⟨62, 6, R.length + 1, _, _, rfl, rfl, fun q hq => (elL_app R _ hq).symm⟩, trivial⟩
theorem apE2_sub (H L : List Spn) (i k : Int) (R : List Spn) (s s' : Spn) : Sub (raR H L i k (R.length + 1 + 1) (apE2 R s s')) (raS H L i k (R ++ [s, s'])) := by
  unfold raS
  have hl1 : (R ++ [s, s']).length = R.length + 1 + 1 := by rw [List.length_append]; rfl
  rw [hl1]
  refine sub_same ⟨Or.inl rfl, Or.inr ⟨62, 6, R.length + 1 + 1, _, _, rfl, rfl, fun q hq => ?_⟩, trivial⟩
  have e : R ++ [s, s'] = (R ++ [s]) ++ [s'] := by simp
  have hl2 : (R ++ [s]).length = R.length + 1 := by rw [List.length_append]; rfl
  rw [e, ← elL_app (R ++ [s]) s' (by rw [hl2]; exact hq), hl2]
  show mixL (Nat.blt q (R.length + 1)) (gtL (R ++ [s]) q).c s'.c = apE2 R s s' q
  unfold apE2
  show _ = mixL (Nat.blt q (R.length + 1)) (mixL (Nat.blt q R.length) (gtL R q).c s.c) s'.c
  rw [mix_c, mix_c, mix_c]
  refine congrArg Spn.c ?_
  cases hb : Nat.blt q (R.length + 1)
  · rfl
  · rw [gtL_app R s (Nat.le_of_ble_eq_true hb)]
theorem ra_leads {H L : List Spn} {i : Nat} (hi : i < H.length) (hL : L.length ≤ 1000) : Leads Tryz.prog (.loop (loopAt Tryz.f135 1)) (raS H L (i : Nat) 0 []) (.exit 2) (raS H L (i : Nat) L.length (L.flatMap (cut1 (gtL H i)))) := by
  have hlen : ∀ (l : List Spn), (l.flatMap (cut1 (gtL H i))).length ≤ 2 * l.length := fun l => by
    induction l with
    | nil => exact Nat.le_refl _
    | cons a l ih =>
      rw [List.flatMap_cons, List.length_append, List.length_cons]
      have := cut1_len (gtL H i) a
      omega
  have h : Leads Tryz.prog (.loop (loopAt Tryz.f135 1)) (raS H L (i : Nat) (0 : Nat) ((L.take 0).flatMap (cut1 (gtL H i)))) (.exit 2) (raS H L (i : Nat) (L.length : Nat) ((L.take L.length).flatMap (cut1 (gtL H i)))) := by
    refine loop_rule (fun k => raS H L (i : Nat) (k : Nat) ((L.take k).flatMap (cut1 (gtL H i)))) L.length (.exit 2) _ (by simp) (fun k hk => ?_) ?_
    · have hl := hlen (L.take k)
      rw [List.length_take] at hl
      show Leads Tryz.prog _ (raS H L (i : Nat) (k : Nat) ((L.take k).flatMap (cut1 (gtL H i)))) .normal (raS H L (i : Nat) ((k + 1 : Nat) : Int) ((L.take (k + 1)).flatMap (cut1 (gtL H i))))
      rw [flat_take hk]
      generalize (L.take k).flatMap (cut1 (gtL H i)) = R at hl
      have ha : ∀ o, raA R.length o = o := fun o => raA_t (by omega) o
      have ha' : ∀ o, raA (R.length + 1) o = o := fun o => raA_t (by omega) o
      have eX : raX H L (i : Nat) (k : Nat) = ⟨(gtL L k).i, turnS (gtL H i).i⟩ := by unfold raX; rw [Int.toNat_natCast, Int.toNat_natCast, Nat.zero_add]
      have eY : raY H L (i : Nat) (k : Nat) = ⟨turnS (gtL H i).o, (gtL L k).o⟩ := by unfold raY; rw [Int.toNat_natCast, Int.toNat_natCast, Nat.zero_add]
      have ek : w64 ((k : Int) + 1) = ((k + 1 : Nat) : Int) := w64_next (by omega)
      unfold cut1
      cases hs : skipB (gtL H i) (gtL L k).i (gtL L k).o
      · rw [cond_false]
        cases h1 : flt (gtL L k).i.t (gtL H i).i.t
        · have p1 : piece (gtL L k).i (turnS (gtL H i).i) = [] := piece_none h1
          cases h2 : flt (gtL H i).o.t (gtL L k).o.t
          · have p2 : piece (turnS (gtL H i).o) (gtL L k).o = [] := piece_none h2
            rw [p1, p2, List.append_nil, List.append_nil]
            refine leads_ev (finS_sub 3 keepRa [some 0, some 1]) e_nil k_nil noL_ok ((ra_none H L (i : Nat) (k : Nat) R).trans ?_)
            rw [raC_t hi hk ha ha', hs, h1, h2, ek]; rfl
          · have p2 : piece (turnS (gtL H i).o) (gtL L k).o = [⟨turnS (gtL H i).o, (gtL L k).o⟩] := piece_one h2
            rw [p1, p2, List.nil_append]
            have st := ra_one H L (i : Nat) (k : Nat) R
            rw [raC_t hi hk ha ha', hs, h1, h2, ek, eY] at st
            exact (leads_ev (finS_sub 6 keepRa [some 0, some 5]) e_nil k_nil noL_ok st).sub (Sub.refl _) (apE1_sub H L _ _ R _)
        · have p1 : piece (gtL L k).i (turnS (gtL H i).i) = [⟨(gtL L k).i, turnS (gtL H i).i⟩] := piece_one h1
          cases h2 : flt (gtL H i).o.t (gtL L k).o.t
          · have p2 : piece (turnS (gtL H i).o) (gtL L k).o = [] := piece_none h2
            rw [p1, p2, List.append_nil]
            have st := ra_one H L (i : Nat) (k : Nat) R
            rw [raC_t hi hk ha ha', hs, h1, h2, ek, eX] at st
            exact (leads_ev (finS_sub 6 keepRa [some 0, some 5]) e_nil k_nil noL_ok st).sub (Sub.refl _) (apE1_sub H L _ _ R _)
          · have p2 : piece (turnS (gtL H i).o) (gtL L k).o = [⟨turnS (gtL H i).o, (gtL L k).o⟩] := piece_one h2
            rw [p1, p2]
            have st := ra_both H L (i : Nat) (k : Nat) R
            rw [raC_t hi hk ha ha', hs, h1, h2, ek, eX, eY] at st
            exact (leads_ev (finS_sub 9 keepRa [some 0, some 8]) e_nil k_nil noL_ok st).sub (Sub.refl _) (apE2_sub H L _ _ R _ _)
      · rw [cond_true]
        have st := ra_keep H L (i : Nat) (k : Nat) R
        rw [raC_t hi hk ha ha', hs, ek, Int.toNat_natCast, Nat.zero_add] at st
        exact (leads_ev (finS_sub 5 keepRa [some 0, some 4]) e_nil k_nil noL_ok st).sub (Sub.refl _) (apE1_sub H L _ _ R _)
    · refine leads_ev (finE_sub keepRa [some 0, some 1]) e_nil k_nil noL_ok ((ra_end H L (i : Nat) (L.length : Nat) _).trans ?_)
      unfold raC
      rw [dec_self, cond_false]
  rw [List.take_length, List.take_zero] at h
  exact h
/-- Where nothing is left. -/
theorem ra_leadsN {H L : List Spn} {i : Nat} (hi : i < H.length) (hL : L.length ≤ 1000) (he : L.flatMap (cut1 (gtL H i)) = []) : Leads Tryz.prog (.loop (loopAt Tryz.f135 1)) (raN H L (i : Nat) 0) (.exit 2) (raN H L (i : Nat) L.length) := by
  refine loop_rule (fun k => raN H L (i : Nat) (k : Nat)) L.length (.exit 2) _ (by simp) (fun k hk => ?_) ?_
  · have hc : cut1 (gtL H i) (gtL L k) = [] := by
      have hm : gtL L k ∈ L := by
        unfold gtL
        rw [List.getD_eq_getElem?_getD, List.getElem?_eq_getElem hk]
        exact List.getElem_mem _
      cases hx : cut1 (gtL H i) (gtL L k) with
      | nil => rfl
      | cons a l =>
        have : a ∈ L.flatMap (cut1 (gtL H i)) := List.mem_flatMap.2 ⟨_, hm, by rw [hx]; exact List.mem_cons_self⟩
        rw [he] at this; cases this
    unfold cut1 at hc
    refine leads_ev (finS_sub 2 keepRa [some 0]) e_nil k_nil noL_ok ((ra_noneN H L (i : Nat) (k : Nat)).trans ?_)
    rw [raC_t hi hk (fun _ => rfl) (fun _ => rfl)]
    cases hs : skipB (gtL H i) (gtL L k).i (gtL L k).o
    · rw [hs, cond_false] at hc
      have hc := List.append_eq_nil_iff.1 hc
      cases h1 : flt (gtL L k).i.t (gtL H i).i.t
      · cases h2 : flt (gtL H i).o.t (gtL L k).o.t
        · rw [w64_next (by omega)]; rfl
        · have := hc.2
          rw [piece_one (g := turnS (gtL H i).o) h2] at this; cases this
      · have := hc.1
        rw [piece_one (e := turnS (gtL H i).i) h1] at this; cases this
    · rw [hs] at hc; cases hc
  · refine leads_ev (finE_sub keepRa [some 0]) e_nil k_nil noL_ok ((ra_endN H L (i : Nat) (L.length : Nat)).trans ?_)
    unfold raC
    rw [dec_self, cond_false]
/-! ### The outer loop -/
open Classical in
noncomputable def ruX (H : List Spn) (i : Int) (L : List Spn) : St := if L = [] then ruN H i else ruS H i L
theorem ruX_nil (H : List Spn) (i : Int) : ruX H i [] = ruN H i := by unfold ruX; rw [if_pos rfl]
theorem ruX_ne {H : List Spn} {i : Int} {L : List Spn} (h : L ≠ []) : ruX H i L = ruS H i L := by unfold ruX; rw [if_neg h]
theorem cutA_take {H : List Spn} {k : Nat} (hk : k < H.length) (l : List Spn) : cutA (H.take (k + 1)) l = (cutA (H.take k) l).flatMap (cut1 (gtL H k)) := by
  unfold cutA
  rw [take_succ' hk, List.foldl_append]; rfl
theorem ris_take {H : List Spn} (h : Ris H) (k : Nat) : Ris (H.take k) := by
  have := List.take_append_drop k H
  rw [← this] at h
  exact ris_left h
theorem ru_leads {H : List Spn} (hH : Ris H) (hl : H.length ≤ 900) {x : Spn} (hx : Gd x) : Leads Tryz.prog (.loop (loopAt Tryz.f135 0)) (ruS H 0 [x]) (.exit 0) (ruX H H.length (cutA H [x])) := by
  have hlen : ∀ k, k ≤ H.length → (cutA (H.take k) [x]).length ≤ 1000 := fun k hk => by
    rw [cutA_eq (ris_take hH k) hx]
    have := cut_len x.o (H.take k) x.i
    rw [List.length_take] at this
    omega
  have hn : ∀ (c : Code), LSound Tryz.prog c (fun _ _ => none) := fun c => none_soundN
  have h : Leads Tryz.prog (.loop (loopAt Tryz.f135 0)) (ruX H (0 : Nat) (cutA (H.take 0) [x])) (.exit 0) (ruX H (H.length : Nat) (cutA (H.take H.length) [x])) := by
    refine loop_rule (fun k => ruX H (k : Nat) (cutA (H.take k) [x])) H.length (.exit 0) _ (by simp) (fun k hk => ?_) ?_
    · show Leads Tryz.prog _ (ruX H (k : Nat) (cutA (H.take k) [x])) .normal (ruX H ((k + 1 : Nat) : Int) (cutA (H.take (k + 1)) [x]))
      rw [cutA_take hk]
      have hle := hlen k (by omega)
      generalize cutA (H.take k) [x] = L at hle
      have ek : w64 ((k : Int) + 1) = ((k + 1 : Nat) : Int) := w64_next (by omega)
      by_cases h0 : L = []
      · subst h0
        rw [List.flatMap_nil, ruX_nil, ruX_nil]
        refine leads_ev (finN_sub keepRu []) e_nil k_nil noL_ok ((ru_stepNN H (k : Nat)).trans ?_)
        rw [dec_lt hk, ek]; rfl
      · rw [ruX_ne h0]
        by_cases h1 : L.flatMap (cut1 (gtL H k)) = []
        · rw [h1, ruX_nil]
          refine leads_ev (finN_sub keepRu []) e_nil k_nil (lok_hd (c := loopAt Tryz.f135 0) (i := 7) 0 (by kernel_rfl) (by kernel_rfl) (toldF_sound (keep := keepRa) (τ := [some 0]) (ra_leadsN hk hle h1))) ((ru_stepN H L (k : Nat)).trans ?_)
          rw [dec_lt hk, gate_pos (Sub.refl _), ek]; rfl
        · rw [ruX_ne h1]
          refine leads_ev (finN_sub keepRu [some 1]) e_nil k_nil (lok_hd (c := loopAt Tryz.f135 0) (i := 7) 0 (by kernel_rfl) (by kernel_rfl) (toldN_sound (keep := keepRa) (nils := [(7, 1, 6)]) (nr := roL []) (τ := [some 0, none]) (ra_leads hk hle))) ((ru_step H L (k : Nat) (L.flatMap (cut1 (gtL H k)))).trans ?_)
          rw [dec_lt hk, gate_pos (Sub.refl _), ek]; rfl
    · by_cases h0 : cutA (H.take H.length) [x] = []
      · rw [h0, ruX_nil]
        refine leads_ev (finE_sub keepRu []) e_nil k_nil (lok_none 7) ((ru_endN H (H.length : Nat)).trans ?_)
        rw [dec_self, cond_false]
      · rw [ruX_ne h0]
        refine leads_ev (finE_sub keepRu [some 0]) e_nil k_nil (lok_none 7) ((ru_end H _ (H.length : Nat)).trans ?_)
        rw [dec_self, cond_false]
  rw [List.take_length] at h
  have e0 : ruX H ((0 : Nat) : Int) (cutA (H.take 0) [x]) = ruS H 0 [x] := ruX_ne (by intro h; cases h)
  rw [e0] at h
  exact h
theorem rc_sub (H : List Spn) (x : Spn) : Sub (ruR H 0 1 (chunk x.c 6)) (ruS H 0 [x]) := sub_same ⟨Or.inr ⟨62, 6, 1, _, _, rfl, rfl, fun q hq => by
  have : q = 0 := by omega
  subst this
  rfl⟩, trivial⟩
/-- What is left of a span: the code's cut, in one go. -/
theorem rc_spec {H : List Spn} (hH : Ris H) (hl : H.length ≤ 900) {x : Spn} (hx : Gd x) : (cutC x.o H x.i = [] → FSpec Tryz.prog 135 [.agg x.c, slL H] (.x (.slice none 0 0))) ∧ (cutC x.o H x.i ≠ [] → FSpec Tryz.prog 135 [.agg x.c, slL H] (slL (cutC x.o H x.i))) := by
  have lead := ru_leads hH hl hx
  rw [cutA_eq hH hx] at lead
  refine ⟨fun h => ?_, fun h => ?_⟩
  · rw [h, ruX_nil] at lead
    exact gspec e_nil k_nil Tryz.func135 (by kernel_rfl) (by kernel_rfl) (lok_hd (c := bodyOf Tryz.f135) (i := 3) 1 (by kernel_rfl) (by kernel_rfl) (toldF_sound (keep := keepRu) (τ := [some 1]) lead)) rfl ((rc_evN H x).trans (gate_pos (rc_sub H x)))
  · rw [ruX_ne h] at lead
    refine gspec e_nil k_nil Tryz.func135 (by kernel_rfl) (by kernel_rfl) (lok_hd (c := bodyOf Tryz.f135) (i := 3) 1 (by kernel_rfl) (by kernel_rfl) (toldF_sound (keep := keepRu) (τ := [some 1]) lead)) rfl ((rc_ev H (cutC x.o H x.i) x).trans ?_)
    rw [gate_pos (rc_sub H x), slL_eq]
end Go.Proofs.YtancjnambbkhmaaGreat.Hs.So

namespace Go.Proofs.YtancjnambbkhmaaGreat.Hs.So
open Go.Gv
open Go.Ev (cn fadd fsub fmul fdiv fsqrt fneg feq flt fle fgt fge fabs isNan key flt_key fgt_key feq_key)

/-! ### Both -/
def cbR (A B : List Spn) (i j : Int) (m : Nat) (el : Nat → List AV) : St := mkS 154 [(1, slL A), (2, slL B), (7, .osl 0 6 0 m), (8, iA i), (9, iA j)] [.a 62 6 m el]
def cbS (A B : List Spn) (i j : Int) (R : List Spn) : St := cbR A B i j R.length (elL R)
def keepCb : List Nat := [1, 2, 7, 8, 9]
def cuS (A B : List Spn) (i : Int) (R : List Spn) : St := mkS 154 [(1, slL A), (2, slL B), (7, .osl 0 6 0 R.length), (8, iA i)] [roL R]
def keepCu : List Nat := [1, 2, 7, 8]
section
variable (A B : List Spn) (i j : Int) (R R' : List Spn)
def cbM (f : Spn → Option Out) (o : Option Out) (xi xo : Crs) : Option Out := cond (flt xi.t xo.t) (cond (apB R.length 48 || false) (f ⟨xi, xo⟩) none) o
def cbK (f : Spn → Option Out) (o : Option Out) (a b : Spn) (xi : Crs) : Option Out := cond ((ixB j B.length || false) && true) (cond (flt b.o.t a.o.t) (cond (ixB j B.length || false) (cbM R f o xi b.o) none) (cbM R f o xi a.o)) none
def cbC (f : Spn → Option Out) (o oe : Option Out) : Option Out := cond (decide (j < B.length)) (cond (ixB i A.length || false) (cond ((ixB j B.length || false) && true) (cond (fgt (gtL B j.toNat).i.t (gtL A i.toNat).i.t) (cond (ixB j B.length || false) (cbK B j R f o (gtL A i.toNat) (gtL B j.toNat) (gtL B j.toNat).i) none) (cbK B j R f o (gtL A i.toNat) (gtL B j.toNat) (gtL A i.toNat).i)) none) none) oe
theorem cb_app : evC Tryz.prog [] [] noL (loopAt Tryz.f111 1) (cbS A B i j R) (finS 4 keepCb [some 3]) = cbC A B i j R (fun s => some ⟨.normal, cbR A B i (w64 (j + 1)) (R.length + 1) (apE1 R s), .any⟩) none none := by kernel_rfl
theorem cb_no : evC Tryz.prog [] [] noL (loopAt Tryz.f111 1) (cbS A B i j R) (finS 2 keepCb [some 0]) = cbC A B i j R (fun _ => none) (some ⟨.normal, cbS A B i (w64 (j + 1)) R, .any⟩) none := by kernel_rfl
theorem cb_end : evC Tryz.prog [] [] noL (loopAt Tryz.f111 1) (cbS A B i j R) (finE keepCb [some 0]) = cbC A B i j R (fun _ => none) none (some ⟨.exit 5, cbS A B i j R, .any⟩) := by kernel_rfl
theorem cu_step : evC Tryz.prog [] [] (oneL 12 (toldF keepCb [some 0] (cbS A B i 0 R) (.exit 5) (cbS A B i B.length R'))) (loopAt Tryz.f111 0) (cuS A B i R) (finN keepCu [some 0]) = cond (decide (i < A.length)) (gate (Sub (cbS A B i 0 R) (cbS A B i 0 R)) (some ⟨.normal, cuS A B (w64 (i + 1)) R', .any⟩)) none := by kernel_rfl
theorem cu_end : evC Tryz.prog [] [] (oneL 12 fun _ _ => none) (loopAt Tryz.f111 0) (cuS A B i R) (finE keepCu [some 0]) = cond (decide (i < A.length)) none (some ⟨.exit 3, cuS A B i R, .any⟩) := by kernel_rfl
theorem cm_ev1 : ev Tryz.prog [] [] (oneL 9 (toldN keepCu [(7, 0, 6)] (roL []) [none] (cuS A B 0 []) (.exit 3) (cuS A B A.length R))) Tryz.f111 [iA 1, slL A, slL B] ret = gate (Sub (cuS A B 0 []) (cuS A B 0 [])) (some (Out.of (.sl 6 R.length fun q => elL R (0 + q)))) := by kernel_rfl
end
/-! ### Either -/
def ceR (C : List Spn) (i : Int) (m : Nat) (el : Nat → List AV) : St := mkS 154 [(7, .osl 0 6 0 m), (11, slL C), (12, iA i)] [.a 62 6 m el]
def ceS (C : List Spn) (i : Int) (R : List Spn) : St := ceR C i R.length (elL R)
def keepCe : List Nat := [7, 11, 12]
section
variable (A B C : List Spn) (i : Int) (R : List Spn)
def ceG (b : Bool) : Bool := (ixB i C.length || gF b) && ((ixB (lastI R.length) R.length || gF b) && ((Nat.blt (0 + (lastI R.length).toNat) R.length || gF b) && true))
def ceT (s : Spn) : Bool := cond ((R.length : Int) == 0) true (fgt s.i.t (gtL R (0 + (lastI R.length).toNat)).o.t)
def ceW : Bool := (ixB i C.length || false) && ((ixB (lastI R.length) R.length || false) && ((bl' (lastI R.length) R.length) && true))
def ceC (o1 o2 o3 oe : Option Out) : Option Out := cond (decide (i < C.length)) (cond (ceG C i R ((R.length : Int) == 0)) (cond (ceT R (gtL C i.toNat)) (cond (ixB i C.length || false) (cond (apB R.length 48 || false) o1 none) none)
  (cond (ceW C i R) (cond (fgt (gtL C i.toNat).o.t (gtL R (0 + (lastI R.length).toNat)).o.t) (cond (ixB i C.length || false) (ow' (lastI R.length) R.length o2) none) o3) none)) none) oe
theorem ce_app : evC Tryz.prog [] [] noL (loopAt Tryz.f111 2) (ceS C i R) (finS 3 keepCe [some 2]) = ceC C i R (some ⟨.normal, ceR C (w64 (i + 1)) (R.length + 1) (apE1 R (gtL C i.toNat)), .any⟩) none none none := by kernel_rfl
theorem ce_upd : evC Tryz.prog [] [] noL (loopAt Tryz.f111 2) (ceS C i R) (finS 1 keepCe [some 0]) = ceC C i R none (some ⟨.normal, ceR C (w64 (i + 1)) R.length fun q => mixL (q == 0 + (lastI R.length).toNat) (⟨(gtL R (0 + (lastI R.length).toNat)).i, (gtL C i.toNat).o⟩ : Spn).c (elL R q), .any⟩) (some ⟨.normal, ceS C (w64 (i + 1)) R, .any⟩) none := by kernel_rfl
theorem ce_end : evC Tryz.prog [] [] noL (loopAt Tryz.f111 2) (ceS C i R) (finE keepCe [some 0]) = ceC C i R none none none (some ⟨.exit 7, ceS C i R, .any⟩) := by kernel_rfl
theorem cm_ev2 : ev Tryz.prog [] [kS Tryz.prog 134 fun _ => slL C] (oneL 24 (toldN keepCe [(7, 0, 6)] (roL []) [none] (ceS C 0 []) (.exit 7) (ceS C C.length R))) Tryz.f111 [iA 2, slL A, slL B] ret = gate (FSpec Tryz.prog 134 [slL A, slL B] (slL C)) (gate (Sub (ceS C 0 []) (ceS C 0 [])) (some (Out.of (.sl 6 R.length fun q => elL R (0 + q))))) := by kernel_rfl
end
/-! ### Less -/
def cdR (A B : List Spn) (i : Int) (m : Nat) (el : Nat → List AV) : St := mkS 154 [(1, slL A), (2, slL B), (7, .osl 0 6 0 m), (14, iA i)] [.a 62 6 m el]
def cdS (A B : List Spn) (i : Int) (R : List Spn) : St := cdR A B i R.length (elL R)
def keepCd : List Nat := [1, 2, 7, 14]
section
variable (A B : List Spn) (i : Int) (R X : List Spn)
noncomputable def cdC (v : AV) (o oe : Option Out) : Option Out := cond (decide (i < A.length)) (cond (ixB i A.length || false) (gate (FSpec Tryz.prog 135 [.agg (gtL A i.toNat).c, slL B] v) o) none) oe
theorem cd_step : evC Tryz.prog [] [kS Tryz.prog 135 fun _ => slL X] noL (loopAt Tryz.f111 3) (cdS A B i R) (finN keepCd [some 1]) = cdC A B i (slL X) (cond (acB R.length X.length) (some ⟨.normal, cdR A B (w64 (i + 1)) (R.length + X.length) fun q => mixL (Nat.blt q R.length) (elL R q) (elL X (q - R.length)), .any⟩) none) none := by kernel_rfl
theorem cd_stepN : evC Tryz.prog [] [kS Tryz.prog 135 fun _ => .x (.slice none 0 0)] noL (loopAt Tryz.f111 3) (cdS A B i R) (finN keepCd [some 0]) = cdC A B i (.x (.slice none 0 0)) (some ⟨.normal, cdS A B (w64 (i + 1)) R, .any⟩) none := by kernel_rfl
theorem cd_end : evC Tryz.prog [] [kS Tryz.prog 135 fun _ => .x (.slice none 0 0)] noL (loopAt Tryz.f111 3) (cdS A B i R) (finE keepCd [some 0]) = cdC A B i (.x (.slice none 0 0)) none (some ⟨.exit 1, cdS A B i R, .any⟩) := by kernel_rfl
theorem cm_ev3 : ev Tryz.prog [] [] (oneL 4 (toldN keepCd [(7, 0, 6)] (roL []) [none] (cdS A B 0 []) (.exit 1) (cdS A B A.length R))) Tryz.f111 [iA 3, slL A, slL B] ret = gate (Sub (cdS A B 0 []) (cdS A B 0 [])) (some (Out.of (.sl 6 R.length fun q => elL R (0 + q)))) := by kernel_rfl
end
end Go.Proofs.YtancjnambbkhmaaGreat.Hs.So

namespace Go.Proofs.YtancjnambbkhmaaGreat.Hs.So
open Go.Gv
open Go.Ev (cn fadd fsub fmul fdiv fsqrt fneg feq flt fle fgt fge fabs isNan key flt_key fgt_key feq_key)

/-! ### Both -/
theorem cbC_t {A B : List Spn} {i j : Nat} {R : List Spn} (hi : i < A.length) (hj : j < B.length) (hR : R.length ≤ 1000000) (f : Spn → Option Out) (o oe : Option Out) : cbC A B (i : Nat) (j : Nat) R f o oe = cond (flt (lateS (gtL A i).i (gtL B j).i).t (earlS (gtL A i).o (gtL B j).o).t) (f ⟨lateS (gtL A i).i (gtL B j).i, earlS (gtL A i).o (gtL B j).o⟩) o := by
  unfold cbC cbK cbM lateS earlS
  rw [dec_lt hj, ixB_t hi, ixB_t hj, apB_t (by omega), Int.toNat_natCast, Int.toNat_natCast]
  cases fgt (gtL B j).i.t (gtL A i).i.t <;> cases flt (gtL B j).o.t (gtL A i).o.t <;> rfl
theorem cb_leads {A B : List Spn} {i : Nat} (hi : i < A.length) (hB : B.length ≤ 1000) {R : List Spn} (hR : R.length ≤ 100000) : Leads Tryz.prog (.loop (loopAt Tryz.f111 1)) (cbS A B (i : Nat) 0 R) (.exit 5) (cbS A B (i : Nat) B.length (R ++ B.flatMap (both1 (gtL A i)))) := by
  have h : Leads Tryz.prog (.loop (loopAt Tryz.f111 1)) (cbS A B (i : Nat) (0 : Nat) (R ++ (B.take 0).flatMap (both1 (gtL A i)))) (.exit 5) (cbS A B (i : Nat) (B.length : Nat) (R ++ (B.take B.length).flatMap (both1 (gtL A i)))) := by
    refine loop_rule (fun k => cbS A B (i : Nat) (k : Nat) (R ++ (B.take k).flatMap (both1 (gtL A i)))) B.length (.exit 5) _ (by simp) (fun k hk => ?_) ?_
    · have hl := flat_len (f := both1 (gtL A i)) (fun s => piece_len _ _) (B.take k)
      rw [List.length_take] at hl
      show Leads Tryz.prog _ (cbS A B (i : Nat) (k : Nat) (R ++ (B.take k).flatMap (both1 (gtL A i)))) .normal (cbS A B (i : Nat) ((k + 1 : Nat) : Int) (R ++ (B.take (k + 1)).flatMap (both1 (gtL A i))))
      rw [flat_take hk, ← List.append_assoc]
      have hQ : (R ++ (B.take k).flatMap (both1 (gtL A i))).length ≤ 200000 := by rw [List.length_append]; omega
      generalize R ++ (B.take k).flatMap (both1 (gtL A i)) = Q at hQ
      unfold both1 piece
      cases hf : flt (lateS (gtL A i).i (gtL B k).i).t (earlS (gtL A i).o (gtL B k).o).t
      · rw [cond_false, List.append_nil]
        refine leads_ev (finS_sub 2 keepCb [some 0]) e_nil k_nil noL_ok ((cb_no A B (i : Nat) (k : Nat) Q).trans ?_)
        rw [cbC_t hi hk (by omega), hf, w64_next (by omega)]; rfl
      · rw [cond_true]
        have st := cb_app A B (i : Nat) (k : Nat) Q
        rw [cbC_t hi hk (by omega), hf, w64_next (by omega)] at st
        refine (leads_ev (finS_sub 4 keepCb [some 3]) e_nil k_nil noL_ok st).sub (Sub.refl _) ?_
        unfold cbS
        have hl1 : (Q ++ [(⟨lateS (gtL A i).i (gtL B k).i, earlS (gtL A i).o (gtL B k).o⟩ : Spn)]).length = Q.length + 1 := by rw [List.length_append]; rfl
        rw [hl1]
        exact sub_same ⟨Or.inr ⟨62, 6, Q.length + 1, _, _, rfl, rfl, fun q hq => (elL_app Q _ hq).symm⟩, trivial⟩
    · refine leads_ev (finE_sub keepCb [some 0]) e_nil k_nil noL_ok ((cb_end A B (i : Nat) (B.length : Nat) _).trans ?_)
      unfold cbC
      rw [dec_self, cond_false]
  rw [List.take_length, List.take_zero, List.flatMap_nil, List.append_nil] at h
  exact h
theorem cu_leads {A B : List Spn} (hA : A.length ≤ 200) (hB : B.length ≤ 200) : Leads Tryz.prog (.loop (loopAt Tryz.f111 0)) (cuS A B 0 []) (.exit 3) (cuS A B A.length (bothL A B)) := by
  have hlen : ∀ k, k ≤ A.length → (bothL (A.take k) B).length ≤ 40000 := fun k hk => by
    have h1 := both_len (A := A.take k) (B := B)
    rw [List.length_take] at h1
    have h2 : min k A.length * B.length ≤ 200 * 200 := Nat.mul_le_mul (by omega) hB
    omega
  have h : Leads Tryz.prog (.loop (loopAt Tryz.f111 0)) (cuS A B (0 : Nat) (bothL (A.take 0) B)) (.exit 3) (cuS A B (A.length : Nat) (bothL (A.take A.length) B)) := by
    refine loop_rule (fun k => cuS A B (k : Nat) (bothL (A.take k) B)) A.length (.exit 3) _ (by simp) (fun k hk => ?_) ?_
    · have h1 := cb_leads (A := A) (B := B) hk (by omega) (R := bothL (A.take k) B) (by have := hlen k (by omega); omega)
      have e1 : bothL (A.take k) B ++ B.flatMap (both1 (gtL A k)) = bothL (A.take (k + 1)) B := by
        unfold bothL
        rw [flat_take hk]
      rw [e1] at h1
      refine leads_ev (finN_sub keepCu [some 0]) e_nil k_nil (lok_hd (c := loopAt Tryz.f111 0) (i := 12) 0 (by kernel_rfl) (by kernel_rfl) (toldF_sound (keep := keepCb) (τ := [some 0]) h1)) ((cu_step A B (k : Nat) (bothL (A.take k) B) (bothL (A.take (k + 1)) B)).trans ?_)
      rw [dec_lt hk, gate_pos (Sub.refl _), w64_next (by omega)]; rfl
    · refine leads_ev (finE_sub keepCu [some 0]) e_nil k_nil (lok_none 12) ((cu_end A B (A.length : Nat) (bothL (A.take A.length) B)).trans ?_)
      rw [dec_self, cond_false]
  rw [List.take_length, List.take_zero] at h
  exact h
theorem cm_spec1 {A B : List Spn} (hA : A.length ≤ 200) (hB : B.length ≤ 200) : FSpec Tryz.prog 111 [iA 1, slL A, slL B] (slL (bothL A B)) := by
  refine gspec e_nil k_nil Tryz.func111 (by kernel_rfl) (by kernel_rfl) (lok_at (c := bodyOf Tryz.f111) (i := 9) 0 4 (by kernel_rfl) (by kernel_rfl) (toldN_sound (keep := keepCu) (nils := [(7, 0, 6)]) (nr := roL []) (τ := [none]) (cu_leads hA hB))) rfl ((cm_ev1 A B (bothL A B)).trans ?_)
  rw [gate_pos (Sub.refl _), slL_eq]
/-! ### Either -/
theorem beq_len (R : List Spn) : ((R.length : Int) == 0) = (R.length == 0) := by
  by_cases h : R.length = 0
  · rw [h]; rfl
  · rw [beq_false_of_ne h, beq_false_of_ne (by omega)]
theorem ceC_t {C : List Spn} {i : Nat} {R : List Spn} (hi : i < C.length) (hR : R.length ≤ 1000) (o1 o2 o3 oe : Option Out) : ceC C (i : Nat) R o1 o2 o3 oe = cond ((R.length == 0) || fgt (gtL C i).i.t (lastS R).o.t) o1 (cond (fgt (gtL C i).o.t (lastS R).o.t) o2 o3) := by
  unfold ceC ceG ceT ceW gF
  rw [beq_len, dec_lt hi, ixB_t hi, apB_t (by omega), Int.toNat_natCast]
  by_cases h0 : R.length = 0
  · rw [h0]; rfl
  · rw [lastI_pos (by omega) hR, ow_t (by omega)]
    unfold bl'
    rw [ixB_t (by omega), Int.toNat_natCast, Nat.zero_add, blt_t (by omega), beq_false_of_ne h0, Bool.false_or]
    show cond (fgt (gtL C i).i.t (lastS R).o.t) _ (cond (fgt (gtL C i).o.t (lastS R).o.t) _ _) = _
    rfl
theorem ce_leads {C : List Spn} (hC : C.length ≤ 900) : Leads Tryz.prog (.loop (loopAt Tryz.f111 2)) (ceS C 0 []) (.exit 7) (ceS C C.length (C.foldl swp [])) := by
  have h : Leads Tryz.prog (.loop (loopAt Tryz.f111 2)) (ceS C (0 : Nat) (swF C 0)) (.exit 7) (ceS C (C.length : Nat) (swF C C.length)) := by
    refine loop_rule (fun k => ceS C (k : Nat) (swF C k)) C.length (.exit 7) _ (by simp) (fun k hk => ?_) ?_
    · have hl := swF_len C k (by omega)
      show Leads Tryz.prog _ (ceS C (k : Nat) (swF C k)) .normal (ceS C ((k + 1 : Nat) : Int) (swF C (k + 1)))
      rw [swF_succ hk]
      generalize swF C k = R at hl
      cases ht : (R.length == 0) || fgt (gtL C k).i.t (lastS R).o.t
      · have h0 : 0 < R.length := by
          have := (Bool.or_eq_false_iff.1 ht).1
          have : R.length ≠ 0 := fun e => by rw [e] at this; cases this
          omega
        have es : swp R (gtL C k) = R.set (R.length - 1) ⟨(lastS R).i, lateS (lastS R).o (gtL C k).o⟩ := by unfold swp; rw [ht]; rfl
        rw [es]
        have st := ce_upd C (k : Nat) R
        rw [ceC_t hk (by omega), ht, w64_next (by omega), cond_false] at st
        cases hg : fgt (gtL C k).o.t (lastS R).o.t
        · rw [hg, cond_false] at st
          refine (leads_ev (finS_sub 1 keepCe [some 0]) e_nil k_nil noL_ok st).sub (Sub.refl _) ?_
          have e1 : lateS (lastS R).o (gtL C k).o = (lastS R).o := by unfold lateS; rw [hg]; rfl
          rw [e1]
          have e2 : R.set (R.length - 1) ⟨(lastS R).i, (lastS R).o⟩ = R := by
            apply List.ext_getElem?
            intro q
            rw [List.getElem?_set]
            by_cases e : R.length - 1 = q
            · rw [if_pos e, if_pos (by omega), ← e, List.getElem?_eq_getElem (by omega)]
              show some (lastS R) = _
              unfold lastS
              rw [List.getD_eq_getElem?_getD, List.getElem?_eq_getElem (by omega)]; rfl
            · rw [if_neg e]
          rw [e2]
          exact Sub.refl _
        · rw [hg, cond_true, lastI_pos h0 (by omega), Int.toNat_natCast, Nat.zero_add, Int.toNat_natCast] at st
          refine (leads_ev (finS_sub 1 keepCe [some 0]) e_nil k_nil noL_ok st).sub (Sub.refl _) ?_
          have e1 : lateS (lastS R).o (gtL C k).o = (gtL C k).o := by unfold lateS; rw [hg]; rfl
          rw [e1]
          unfold ceS
          rw [List.length_set]
          refine sub_same ⟨Or.inr ⟨62, 6, R.length, _, _, rfl, rfl, fun q hq => ?_⟩, trivial⟩
          show (gtL (R.set (R.length - 1) _) q).c = mixL (q == R.length - 1) _ (gtL R q).c
          rw [mix_c]
          refine congrArg Spn.c ?_
          show (R.set (R.length - 1) _).getD q dS = cond (q == R.length - 1) ⟨(lastS R).i, (gtL C k).o⟩ (R.getD q dS)
          rw [List.getD_eq_getElem?_getD, List.getD_eq_getElem?_getD, List.getElem?_set]
          by_cases e : q = R.length - 1
          · subst e
            rw [BEq.rfl, if_pos rfl, if_pos (by omega)]; rfl
          · rw [beq_false_of_ne e, if_neg (fun h => e h.symm)]; rfl
      · have es : swp R (gtL C k) = R ++ [gtL C k] := by unfold swp; rw [ht]; rfl
        rw [es]
        have st := ce_app C (k : Nat) R
        rw [ceC_t hk (by omega), ht, w64_next (by omega), cond_true, Int.toNat_natCast] at st
        refine (leads_ev (finS_sub 3 keepCe [some 2]) e_nil k_nil noL_ok st).sub (Sub.refl _) ?_
        unfold ceS
        have hl1 : (R ++ [gtL C k]).length = R.length + 1 := by rw [List.length_append]; rfl
        rw [hl1]
        exact sub_same ⟨Or.inr ⟨62, 6, R.length + 1, _, _, rfl, rfl, fun q hq => (elL_app R _ hq).symm⟩, trivial⟩
    · refine leads_ev (finE_sub keepCe [some 0]) e_nil k_nil noL_ok ((ce_end C (C.length : Nat) (swF C C.length)).trans ?_)
      unfold ceC
      rw [dec_self, cond_false]
  have e1 : swF C C.length = C.foldl swp [] := by unfold swF; rw [List.take_length]
  rw [e1] at h
  exact h
theorem mrg_len : ∀ (A B : List Spn), (mrg A B).length = A.length + B.length
  | [], B => by rw [mrg]; simp
  | a :: A, [] => by rw [mrg]; simp
  | a :: A, b :: B => by
    rw [mrg]
    cases fle a.i.t b.i.t
    · rw [cond_false, List.length_cons, mrg_len (a :: A) B]; simp only [List.length_cons]; omega
    · rw [cond_true, List.length_cons, mrg_len A (b :: B)]; simp only [List.length_cons]; omega
  termination_by A B => A.length + B.length
theorem cm_spec2 {A B : List Spn} (h : A.length + B.length ≤ 900) : FSpec Tryz.prog 111 [iA 2, slL A, slL B] (slL (eitherL A B)) := by
  refine gspec e_nil (k_cons kS_ok k_nil) Tryz.func111 (by kernel_rfl) (by kernel_rfl) (lok_at (c := bodyOf Tryz.f111) (i := 24) 2 4 (by kernel_rfl) (by kernel_rfl) (toldN_sound (keep := keepCe) (nils := [(7, 0, 6)]) (nr := roL []) (τ := [none]) (ce_leads (C := mrg A B) (by rw [mrg_len]; exact h)))) rfl ((cm_ev2 A B (mrg A B) (eitherL A B)).trans ?_)
  rw [gate_pos (jo_spec (by omega)), gate_pos (Sub.refl _), slL_eq]
/-! ### Less -/
theorem gtL_app2 (L X : List Spn) {q : Nat} : gtL (L ++ X) q = cond (Nat.blt q L.length) (gtL L q) (gtL X (q - L.length)) := by
  cases hb : Nat.blt q L.length
  · rw [gt_right (not_blt hb)]; rfl
  · rw [gt_left (Nat.le_of_ble_eq_true hb)]; rfl
theorem cd_leads {A B : List Spn} (hA : A.length ≤ 200) (hB : B.length ≤ 200) (rA : Ris A) (rB : Ris B) : Leads Tryz.prog (.loop (loopAt Tryz.f111 3)) (cdS A B 0 []) (.exit 1) (cdS A B A.length (lessL A B)) := by
  have hlen : ∀ k, k ≤ A.length → (lessL (A.take k) B).length ≤ 40200 := fun k hk => by
    have h1 := less_len (A := A.take k) (B := B)
    rw [List.length_take] at h1
    have h2 : min k A.length * (B.length + 1) ≤ 200 * 201 := Nat.mul_le_mul (by omega) (by omega)
    omega
  have h : Leads Tryz.prog (.loop (loopAt Tryz.f111 3)) (cdS A B (0 : Nat) (lessL (A.take 0) B)) (.exit 1) (cdS A B (A.length : Nat) (lessL (A.take A.length) B)) := by
    refine loop_rule (fun k => cdS A B (k : Nat) (lessL (A.take k) B)) A.length (.exit 1) _ (by simp) (fun k hk => ?_) ?_
    · have e1 : lessL (A.take (k + 1)) B = lessL (A.take k) B ++ cutC (gtL A k).o B (gtL A k).i := by
        unfold lessL
        rw [flat_take hk]
      have hle := hlen k (by omega)
      have gA : Gd (gtL A k) := by
        refine rA.2 _ ?_
        unfold gtL
        rw [List.getD_eq_getElem?_getD, List.getElem?_eq_getElem hk]
        exact List.getElem_mem _
      have rc := rc_spec rB (by omega) gA
      have hc := cut_len (gtL A k).o B (gtL A k).i
      show Leads Tryz.prog _ (cdS A B (k : Nat) (lessL (A.take k) B)) .normal (cdS A B ((k + 1 : Nat) : Int) (lessL (A.take (k + 1)) B))
      rw [e1]
      generalize lessL (A.take k) B = R at hle
      generalize cutC (gtL A k).o B (gtL A k).i = X at hc rc
      by_cases h0 : X = []
      · rw [h0, List.append_nil]
        refine leads_ev (finN_sub keepCd [some 0]) e_nil (k_cons kS_ok k_nil) noL_ok ((cd_stepN A B (k : Nat) R).trans ?_)
        unfold cdC
        rw [dec_lt hk, ixB_t hk, Int.toNat_natCast, gate_pos (rc.1 h0), w64_next (by omega)]; rfl
      · have st := cd_step A B (k : Nat) R X
        have hX : 0 < X.length := List.length_pos_iff.2 h0
        have hac : acB R.length X.length = true := by
          unfold acB
          rw [BEq.rfl, blt_t hX, allB_true fun _ _ => rfl, ble_t (by omega)]; rfl
        unfold cdC at st
        rw [dec_lt hk, ixB_t hk, Int.toNat_natCast, gate_pos (rc.2 h0), w64_next (by omega), hac] at st
        refine (leads_ev (finN_sub keepCd [some 1]) e_nil (k_cons kS_ok k_nil) noL_ok st).sub (Sub.refl _) ?_
        unfold cdS
        rw [List.length_append]
        refine sub_same ⟨Or.inr ⟨62, 6, R.length + X.length, _, _, rfl, rfl, fun q hq => ?_⟩, trivial⟩
        show (gtL (R ++ X) q).c = mixL (Nat.blt q R.length) (gtL R q).c (gtL X (q - R.length)).c
        rw [mix_c, gtL_app2]
    · refine leads_ev (finE_sub keepCd [some 0]) e_nil (k_cons kS_ok k_nil) noL_ok ((cd_end A B (A.length : Nat) (lessL (A.take A.length) B)).trans ?_)
      unfold cdC
      rw [dec_self, cond_false]
  rw [List.take_length, List.take_zero] at h
  exact h
theorem cm_spec3 {A B : List Spn} (hA : A.length ≤ 200) (hB : B.length ≤ 200) (rA : Ris A) (rB : Ris B) : FSpec Tryz.prog 111 [iA 3, slL A, slL B] (slL (lessL A B)) := by
  refine gspec e_nil k_nil Tryz.func111 (by kernel_rfl) (by kernel_rfl) (lok_at (c := bodyOf Tryz.f111) (i := 4) 3 4 (by kernel_rfl) (by kernel_rfl) (toldN_sound (keep := keepCd) (nils := [(7, 0, 6)]) (nr := roL []) (τ := [none]) (cd_leads hA hB rA rB))) rfl ((cm_ev3 A B (lessL A B)).trans ?_)
  rw [gate_pos (Sub.refl _), slL_eq]
end Go.Proofs.YtancjnambbkhmaaGreat.Hs.So

namespace Go.Gv

def SlotLike (x y : AV × Chain) : Prop := x.2 = [] ∧ y.2 = [] ∧ ∀ (E : Env) (v : Value), rel E x.1 v → rel E y.1 v
theorem SlotLike.same (x : AV) : SlotLike (x, []) (x, []) := ⟨rfl, rfl, fun _ _ h => h⟩
def SlotsLike : List (AV × Chain) → List (AV × Chain) → Prop
  | [], [] => True
  | x :: xs, y :: ys => SlotLike x y ∧ SlotsLike xs ys
  | _, _ => False
theorem slots_like : ∀ {xs ys : List (AV × Chain)}, SlotsLike xs ys → ys.length = xs.length ∧ ∀ t, SlotLike (xs.getD t dflt) (ys.getD t dflt)
  | [], [], _ => ⟨rfl, fun _ => ⟨rfl, rfl, fun _ _ h => h⟩⟩
  | x :: xs, y :: ys, h => by
    obtain ⟨h1, h2⟩ := slots_like (xs := xs) (ys := ys) h.2
    refine ⟨by simp [h1], fun t => ?_⟩
    cases t with
    | zero => exact h.1
    | succ t => exact h2 t
  | [], _ :: _, h => h.elim
  | _ :: _, [], h => h.elim
theorem sub_slots {np : Nat} {sl sl' : List (AV × Chain)} {mem : List Row} (h : SlotsLike sl sl') : SubN np ⟨sl, mem⟩ ⟨sl', mem⟩ := by
  obtain ⟨hl, hs⟩ := slots_like h
  intro A0 R w0 E a hp hI
  refine ⟨E, rfl, hI.defers, ?_, hI.wd⟩
  have hf := hI.frame
  refine ⟨⟨by rw [hf.1.1]; exact hl.symm, hf.1.2⟩, fun t => ?_⟩
  have h0 := hf.2 t
  obtain ⟨h1, h2, h3⟩ := hs t
  have h1' : (sl.getD t dflt).2 = [] := h1
  have h2' : (sl'.getD t dflt).2 = [] := h2
  show (tru sl' (sl'.getD t dflt).2 = true → _) ∧ (tru sl' (sl'.getD t dflt).2 = false → _)
  rw [h2']
  refine ⟨fun _ => h3 E _ (h0.1 ?_), fun h' => by cases h'⟩
  show tru sl (sl.getD t dflt).2 = true
  rw [h1']
  rfl
theorem slotsLike_map {f g : Nat → AV × Chain} (h : ∀ i, SlotLike (f i) (g i)) : ∀ l : List Nat, SlotsLike (l.map f) (l.map g)
  | [] => trivial
  | i :: l => ⟨h i, slotsLike_map h l⟩
/-- The last slot that is told, told more weakly. -/
theorem sub_mk1 {np n k : Nat} {l : List (Nat × AV)} {x y : AV} {mem : List Row} (h : ∀ (E : Env) (v : Value), rel E x v → rel E y v) : SubN np (mkS n (l ++ [(k, x)]) mem) (mkS n (l ++ [(k, y)]) mem) := by
  refine sub_slots (slotsLike_map (fun i => ?_) _)
  refine ⟨rfl, rfl, fun E v hv => ?_⟩
  simp only [List.find?_append] at hv ⊢
  cases hf : l.find? (fun p => Nat.beq p.1 i) with
  | some p => rw [hf] at hv; exact hv
  | none =>
    rw [hf] at hv
    simp only [Option.none_or, List.find?_cons, List.find?_nil] at hv ⊢
    cases hb : Nat.beq k i with
    | true => rw [hb] at hv; exact h E v hv
    | false => rw [hb] at hv; exact hv
end Go.Gv
