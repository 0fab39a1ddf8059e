/-
  Gym Soa Sob Soc Sod Soe Sg1 Sof Sog Soh Sq2 Soi Sx1, one behind the other.
-/
import Derived.Test.YtancjnambbkhmaaGreatC19
import Derived.Test.YtancjnambbkhmaaGreatC20
import Derived.Test.YtancjnambbkhmaaGreatC16
import Derived.Test.YtancjnambbkhmaaGreatC17
import Derived.WalkKit
namespace Go.Gv
open Go.RowKit Go.Ev
noncomputable section

/-- Slots in which the row 0 is told as the row k. -/
def MovX (k sz m : Nat) : List (Nat × AV) → List (Nat × AV) → Prop
  | [], [] => True
  | p :: ps, q :: qs => q.1 = p.1 ∧ (q.2 = p.2 ∨ (p.2 = .osl 0 sz 0 m ∧ q.2 = .osl k sz 0 m)) ∧ MovX k sz m ps qs
  | _, _ => False
theorem movX_lk {k sz m : Nat} (i : Nat) : ∀ {xs ys : List (Nat × AV)}, MovX k sz m xs ys → lkS ys i = lkS xs i ∨ (lkS xs i = .osl 0 sz 0 m ∧ lkS ys i = .osl k sz 0 m)
  | [], [], _ => Or.inl rfl
  | p :: ps, q :: qs, h => by
    obtain ⟨h1, h2, h3⟩ := h
    unfold lkS
    rw [List.find?_cons, List.find?_cons, h1]
    cases p.1.beq i with
    | true => exact h2
    | false => exact movX_lk i h3
  | [], _ :: _, h => h.elim
  | _ :: _, [], h => h.elim
/-- TO NUMBER THE FIRST ROW ANEW. -/
theorem sub_moved {np n sz m : Nat} {T : TypeId} {u : Nat → List AV} {xs ys : List (Nat × AV)} {rest : List Row} (hX : MovX (rest.length + 1) sz m xs ys) : SubN np (mkS n xs (.a T sz m u :: rest)) (mkS n ys (.dead :: (rest ++ [.a T sz m u]))) := by
  intro A0 R w0 E a hp0 hI
  have hwd : Wd A0 R w0 E (.a T sz m u :: rest) := hI.wd
  let K := rest.length + 1
  have dom : ∀ k p, E.O k = some p → k < K := fun k p hk => by
    obtain ⟨row, h1, _⟩ := hwd.rows k p.1 p.2 hk
    have := (List.getElem?_eq_some_iff.1 h1).1
    simpa using this
  let E' : Env := { E with O := fun k => if k = K then E.O 0 else E.O k }
  have hOK : E'.O K = E.O 0 := by show (if K = K then E.O 0 else E.O K) = _; rw [if_pos rfl]
  have hO : ∀ k, k ≠ K → E'.O k = E.O k := fun k hk => by show (if k = K then E.O 0 else E.O k) = _; rw [if_neg hk]
  have hle : E.le E' := ⟨fun b hb ob hob => ⟨hb, hob⟩, fun k p hk => by rw [hO k (by have := dom k p hk; omega)]; exact hk⟩
  have hrow : ∀ v, rel E (.osl 0 sz 0 m) v → rel E' (.osl K sz 0 m) v := fun v hv => by
    rcases rel_osl.1 hv with h | ⟨b, c, n', h1, h2⟩
    · exact rel_osl.2 (Or.inl h)
    · exact rel_osl.2 (Or.inr ⟨b, c, n', by rw [hOK]; exact h1, h2⟩)
  have get0 : ∀ k, k ≠ 0 → k ≠ K → (Row.dead :: (rest ++ [Row.a T sz m u]))[k]? = (Row.a T sz m u :: rest)[k]? := fun k h0 hk => by
    obtain ⟨j, rfl⟩ : ∃ j, k = j + 1 := ⟨k - 1, by omega⟩
    have hj : j ≠ rest.length := fun e => hk (by show j + 1 = rest.length + 1; omega)
    rw [List.getElem?_cons_succ, List.getElem?_cons_succ]
    by_cases h : j < rest.length
    · rw [List.getElem?_append_left h]
    · rw [List.getElem?_eq_none (by simp; omega), List.getElem?_eq_none (by omega)]
  have getK : (Row.dead :: (rest ++ [Row.a T sz m u]))[K]? = some (.a T sz m u) := by
    show (Row.dead :: (rest ++ [Row.a T sz m u]))[rest.length + 1]? = _
    rw [List.getElem?_cons_succ, List.getElem?_append_right (Nat.le_refl _), Nat.sub_self]; rfl
  have l0 : liveAt (.a T sz m u :: rest) 0 = true := rfl
  have hlive : ∀ k, liveAt (Row.dead :: (rest ++ [Row.a T sz m u])) k = true → k ≠ K → k ≠ 0 ∧ liveAt (.a T sz m u :: rest) k = true := fun k hk hne => by
    have h0 : k ≠ 0 := fun e => by rw [e] at hk; cases hk
    refine ⟨h0, ?_⟩
    unfold liveAt at hk ⊢
    rw [← get0 k h0 hne]; exact hk
  have hfr : frel E' (mkS n ys (.dead :: (rest ++ [.a T sz m u]))).slots (mkS n ys (.dead :: (rest ++ [.a T sz m u]))).slots a.tmps := by
    have h0 := hI.frame
    refine ⟨⟨by have := h0.1.1; simpa [mkS] using this, glob_le hle h0.1.2⟩, fun t => ?_⟩
    have h1 := h0.2 t
    by_cases ht : t < n
    · rw [(mkS_slot n ys _ t).1 ht]
      have h1 : (tru (mkS n xs (.a T sz m u :: rest)).slots ((mkS n xs (.a T sz m u :: rest)).slots.getD t dflt).2 = true → rel E ((mkS n xs (.a T sz m u :: rest)).slots.getD t dflt).1 (a.tmps.getD t undef)) ∧ _ := h1
      rw [(mkS_slot n xs _ t).1 ht] at h1
      have h2 := h1.1 rfl
      refine ⟨fun _ => ?_, fun h => by cases h⟩
      rcases movX_lk t hX with e | ⟨e1, e2⟩
      · show rel E' (lkS ys t) _
        rw [e]; exact rel_le hle h2
      · show rel E' (lkS ys t) _
        rw [e2]
        have h2 : rel E (lkS xs t) (a.tmps.getD t undef) := h2
        rw [e1] at h2
        exact hrow _ h2
    · rw [(mkS_slot n ys _ t).2 ht]
      have h1 : (tru (mkS n xs (.a T sz m u :: rest)).slots ((mkS n xs (.a T sz m u :: rest)).slots.getD t dflt).2 = true → rel E ((mkS n xs (.a T sz m u :: rest)).slots.getD t dflt).1 (a.tmps.getD t undef)) ∧ _ := h1
      rw [(mkS_slot n xs _ t).2 ht] at h1
      exact ⟨fun h => rel_le hle (h1.1 rfl), fun h => by cases h⟩
  refine ⟨E', rfl, hI.defers, hfr, ⟨fun k b c hb => ?_, hwd.small, hwd.old, fun k b c hb hl => ?_, fun k k' b c c' hb hb' hl hl' => ?_, hwd.below, hwd.le0.trans hle⟩⟩
  · by_cases hk : k = K
    · rw [hk, hOK] at hb
      obtain ⟨row, g1, g2⟩ := hwd.rows 0 b c hb
      cases g1
      rw [hk]
      exact ⟨_, getK, rowRel_keep hle g2 fun _ => rfl⟩
    · rw [hO k hk] at hb
      obtain ⟨row, g1, g2⟩ := hwd.rows k b c hb
      by_cases h0 : k = 0
      · rw [h0]; exact ⟨.dead, rfl, trivial⟩
      · exact ⟨row, by rw [← g1]; exact get0 k h0 hk, rowRel_keep hle g2 fun _ => rfl⟩
  · by_cases hk : k = K
    · rw [hk, hOK] at hb
      exact hwd.own 0 b c hb l0
    · rw [hO k hk] at hb
      exact hwd.own k b c hb (hlive k hl hk).2
  · by_cases hk : k = K
    · by_cases hk' : k' = K
      · rw [hk, hk']
      · rw [hk, hOK] at hb
        rw [hO k' hk'] at hb'
        have := hlive k' hl' hk'
        exact absurd (hwd.one 0 k' b c c' hb hb' l0 this.2).symm this.1
    · rw [hO k hk] at hb
      have h1 := hlive k hl hk
      by_cases hk' : k' = K
      · rw [hk', hOK] at hb'
        exact absurd (hwd.one k 0 b c c' hb hb' h1.2 l0) h1.1
      · rw [hO k' hk'] at hb'
        exact hwd.one k k' b c c' hb hb' h1.2 (hlive k' hl' hk').2
end
end Go.Gv

namespace Go.Proofs.YtancjnambbkhmaaGreat.Hs.So
open Go.Gv
open Go.Ev (cn fadd fsub fmul fdiv fsqrt fneg feq flt fle fgt fge fabs isNan)

noncomputable def finS (n : Nat) (keep : List Nat) (τ : List (Option Nat)) : Kont := fun e s => cond (Nat.beq s.mem.length n) (finN keep τ e s) none
theorem finS_subN {np : Nat} (n : Nat) (keep : List Nat) {τ : List (Option Nat)} (hp : pinT np τ = true) : KSubN np (finS n keep τ) := fun e s r h => by
  unfold finS at h
  cases hb : Nat.beq s.mem.length n
  · rw [hb] at h; cases h
  · rw [hb] at h; exact finN_subN keep hp e s r h
theorem leads_evMN {np : Nat} {l : List Entry} {ks : List KEntry} {ms : List MEntry} {L : Nat → Option LFun} {c : Code} {s s' : St} {e : Exit} {k : Kont} (hk : KSubN np k) (hl : ∀ e, e ∈ l → EOk Tryz.prog e) (hks : ∀ e, e ∈ ks → KOk Tryz.prog e) (hms : ∀ e, e ∈ ms → MEOk Tryz.prog e) (hL : LOkN np Tryz.prog L c) (h : evCM Tryz.prog l ks ms L c s k = some ⟨e, s', .any⟩) : LeadsN np Tryz.prog c s e s' :=
  leads_ofKN hk (tabM_ok hl hks hms) (drawnK_ok (tabM_ok hl hks hms) (by kernel_rfl)) hL h
def keepCo : List Nat := [0, 4, 7, 12, 13, 14]
def cE (tf : Crs → Crs) : List Entry := [⟨154, eC1 fun a => (tf a).v⟩]
def skB' (h : Spn) (g e : Crs) : Bool := cond (fle h.o.t g.t) true (fge h.i.t e.t)
/-! ### Handed a row -/
def coS1 (s : Spn) (g : Crs) (H : List Spn) (j : Int) (R : List Spn) : St := mkS 48 [(0, .osl 3 6 0 R.length), (4, .own 1 0), (7, .own 2 0), (12, slL H), (13, iA H.length), (14, iA j)] [.dead, .c s.c, .c g.c, roL R]
section
variable (tf : Crs → Crs) (G : List Spn → List AV → List Spn) (s : Spn) (g : Crs) (H : List Spn) (j : Int) (R R' : List Spn)
noncomputable def coC1 (o : Option Out) (f : List Spn → Option Out) (oe : Option Out) : Option Out := cond (decide (j < H.length)) (cond (ixB j H.length || false) (cond (skB' (gtL H j.toNat) g s.o) o (cond ((lsB 126 R [g.v, (tf (gtL H j.toNat).i).v] (G (decL R.length (elL R)) [g.v, (tf (gtL H j.toNat).i).v]) || false) && true) (f (G (decL R.length (elL R)) [g.v, (tf (gtL H j.toNat).i).v])) none)) none) oe
theorem co_skip1 : evCM Tryz.prog (cE tf) [] [mL 126 G] noL (loopAt Tryz.f133 0) (coS1 s g H j R) (finS 5 keepCo [some 0, some 1, some 2, some 3]) = coC1 tf G s g H j R (some ⟨.normal, coS1 s g H (w64 (j + 1)) R, .any⟩) (fun _ => none) none := by kernel_rfl
theorem co_cut1 : evCM Tryz.prog (cE tf) [] [mL 126 G] noL (loopAt Tryz.f133 0) (coS1 s g H j R) (finS 6 keepCo [some 0, some 1, some 2, some 5]) = coC1 tf G s g H j R none (fun R' => some ⟨.normal, coS1 s (tf (gtL H j.toNat).o) H (w64 (j + 1)) R', .any⟩) none := by kernel_rfl
theorem co_end1 : evCM Tryz.prog (cE tf) [] [mL 126 G] noL (loopAt Tryz.f133 0) (coS1 s g H j R) (finE keepCo [some 0, some 1, some 2, some 3]) = coC1 tf G s g H j R none (fun _ => none) (some ⟨.exit 0, coS1 s g H j R, .any⟩) := by kernel_rfl
end
/-! ### Handed nil -/
def coS0 (s : Spn) (g : Crs) (H : List Spn) (j : Int) (R : List Spn) : St := mkS 48 [(0, .osl 2 6 0 R.length), (4, .own 0 0), (7, .own 1 0), (12, slL H), (13, iA H.length), (14, iA j)] [.c s.c, .c g.c, roL R]
section
variable (tf : Crs → Crs) (G : List Spn → List AV → List Spn) (s : Spn) (g : Crs) (H : List Spn) (j : Int) (R R' : List Spn)
noncomputable def coC0 (o : Option Out) (f : List Spn → Option Out) (oe : Option Out) : Option Out := cond (decide (j < H.length)) (cond (ixB j H.length || false) (cond (skB' (gtL H j.toNat) g s.o) o (cond ((lsB 126 R [g.v, (tf (gtL H j.toNat).i).v] (G (decL R.length (elL R)) [g.v, (tf (gtL H j.toNat).i).v]) || false) && true) (f (G (decL R.length (elL R)) [g.v, (tf (gtL H j.toNat).i).v])) none)) none) oe
theorem co_skip0 : evCM Tryz.prog (cE tf) [] [mL 126 G] noL (loopAt Tryz.f133 0) (coS0 s g H j R) (finS 4 keepCo [some 0, some 1, some 2]) = coC0 tf G s g H j R (some ⟨.normal, coS0 s g H (w64 (j + 1)) R, .any⟩) (fun _ => none) none := by kernel_rfl
theorem co_cut0 : evCM Tryz.prog (cE tf) [] [mL 126 G] noL (loopAt Tryz.f133 0) (coS0 s g H j R) (finS 5 keepCo [some 0, some 1, some 4]) = coC0 tf G s g H j R none (fun R' => some ⟨.normal, coS0 s (tf (gtL H j.toNat).o) H (w64 (j + 1)) R', .any⟩) none := by kernel_rfl
theorem co_end0 : evCM Tryz.prog (cE tf) [] [mL 126 G] noL (loopAt Tryz.f133 0) (coS0 s g H j R) (finE keepCo [some 0, some 1, some 2]) = coC0 tf G s g H j R none (fun _ => none) (some ⟨.exit 0, coS0 s g H j R, .any⟩) := by kernel_rfl
end
end Go.Proofs.YtancjnambbkhmaaGreat.Hs.So

namespace Go.Proofs.YtancjnambbkhmaaGreat.Hs.So
open Go.Gv
open Go.Ev (cn fadd fsub fmul fdiv fsqrt fneg feq flt fle fgt fge fabs isNan)

/-- Where what is left begins, and what has been laid, behind so many holes. -/
def coF (e : Crs) (H : List Spn) (g : Crs) (L : List Spn) : Nat → Crs × List Spn
  | 0 => (g, L)
  | k + 1 => cond (skipB (gtL H k) (coF e H g L k).1 e) (coF e H g L k) (turnS (gtL H k).o, (coF e H g L k).2 ++ piece (coF e H g L k).1 (turnS (gtL H k).i))
theorem coF_cut (e : Crs) (H : List Spn) (g : Crs) (L : List Spn) : ∀ k, k ≤ H.length → (coF e H g L k).2 ++ cutC e (H.drop k) (coF e H g L k).1 = L ++ cutC e H g
  | 0, _ => rfl
  | k + 1, hk => by
    rw [← coF_cut e H g L k (by omega)]
    have hd : H.drop k = gtL H k :: H.drop (k + 1) := by
      rw [List.drop_eq_getElem_cons (by omega)]
      unfold gtL
      rw [List.getD_eq_getElem?_getD, List.getElem?_eq_getElem (by omega)]; rfl
    rw [hd]
    have hc : cutC e (gtL H k :: H.drop (k + 1)) (coF e H g L k).1 = cond (skipB (gtL H k) (coF e H g L k).1 e) (cutC e (H.drop (k + 1)) (coF e H g L k).1) (piece (coF e H g L k).1 (turnS (gtL H k).i) ++ cutC e (H.drop (k + 1)) (turnS (gtL H k).o)) := rfl
    rw [hc]
    show (cond _ _ _ : Crs × List Spn).2 ++ cutC e (H.drop (k + 1)) (cond _ _ _ : Crs × List Spn).1 = _
    cases skipB (gtL H k) (coF e H g L k).1 e
    · rw [cond_false, cond_false, List.append_assoc]
    · rw [cond_true, cond_true]
theorem coF_end (e : Crs) (H : List Spn) (g : Crs) (L : List Spn) : (coF e H g L H.length).2 ++ piece (coF e H g L H.length).1 e = L ++ cutC e H g := by
  have := coF_cut e H g L H.length (Nat.le_refl _)
  rw [List.drop_length] at this
  exact this
theorem coF_len (e : Crs) (H : List Spn) (g : Crs) (L : List Spn) : ∀ k, (coF e H g L k).2.length ≤ L.length + k
  | 0 => Nat.le_refl _
  | k + 1 => by
    have ih := coF_len e H g L k
    show (cond _ _ _ : Crs × List Spn).2.length ≤ _
    cases skipB (gtL H k) (coF e H g L k).1 e
    · show ((coF e H g L k).2 ++ piece _ _).length ≤ _
      rw [List.length_append]
      have := piece_len (coF e H g L k).1 (turnS (gtL H k).i)
      omega
    · show (coF e H g L k).2.length ≤ _
      omega
theorem skB_eq (h : Spn) (g e : Crs) : skB' h g e = skipB h g e := by unfold skB' skipB; cases fle h.o.t g.t <;> rfl
theorem cE_ok : ∀ e, e ∈ cE turnS → EOk Tryz.prog e := e_cons (eC1_ok sturn) e_nil
theorem apG_eq (R : List Spn) (a b : Crs) : apG (decL R.length (elL R)) [a.v, b.v] = R ++ piece a b := by rw [decL_el]; rfl
theorem co_leads1 {s : Spn} {H : List Spn} (hH : H.length ≤ 1000) {L : List Spn} (hL : L.length ≤ 100000) : LeadsN 1 Tryz.prog (.loop (loopAt Tryz.f133 0)) (coS1 s s.i H 0 L) (.exit 0) (coS1 s (coF s.o H s.i L H.length).1 H H.length (coF s.o H s.i L H.length).2) := by
  have h : LeadsN 1 Tryz.prog (.loop (loopAt Tryz.f133 0)) (coS1 s (coF s.o H s.i L 0).1 H (0 : Nat) (coF s.o H s.i L 0).2) (.exit 0) (coS1 s (coF s.o H s.i L H.length).1 H (H.length : Nat) (coF s.o H s.i L H.length).2) := by
    refine loop_rule (fun k => coS1 s (coF s.o H s.i L k).1 H (k : Nat) (coF s.o H s.i L k).2) H.length (.exit 0) _ (by simp) (fun k hk => ?_) ?_
    · have hl := coF_len s.o H s.i L k
      show LeadsN 1 Tryz.prog _ (coS1 s (coF s.o H s.i L k).1 H (k : Nat) (coF s.o H s.i L k).2) .normal (coS1 s (cond _ _ _ : Crs × List Spn).1 H ((k + 1 : Nat) : Int) (cond _ _ _ : Crs × List Spn).2)
      cases hs : skipB (gtL H k) (coF s.o H s.i L k).1 s.o
      · refine leads_evMN (finS_subN 6 keepCo (τ := [some 0, some 1, some 2, some 5]) (by rfl)) cE_ok k_nil (m_cons mL_ok m_nil) noL_okN ((co_cut1 turnS apG s (coF s.o H s.i L k).1 H (k : Nat) (coF s.o H s.i L k).2).trans ?_)
        unfold coC1
        rw [dec_lt hk, ixB_t hk, Int.toNat_natCast, skB_eq, hs, apG_eq, lsB_t (ap_spec (by omega) _ _), w64_next (by omega)]
        rfl
      · refine leads_evMN (finS_subN 5 keepCo (τ := [some 0, some 1, some 2, some 3]) (by rfl)) cE_ok k_nil (m_cons mL_ok m_nil) noL_okN ((co_skip1 turnS apG s (coF s.o H s.i L k).1 H (k : Nat) (coF s.o H s.i L k).2).trans ?_)
        unfold coC1
        rw [dec_lt hk, ixB_t hk, Int.toNat_natCast, skB_eq, hs, w64_next (by omega)]
        rfl
    · refine leads_evMN (finE_subN keepCo (τ := [some 0, some 1, some 2, some 3]) (by rfl)) cE_ok k_nil (m_cons mL_ok m_nil) noL_okN ((co_end1 turnS apG s _ H (H.length : Nat) _).trans ?_)
      unfold coC1
      rw [dec_self, cond_false]
  exact h
theorem co_leads0 {s : Spn} {H : List Spn} (hH : H.length ≤ 1000) {L : List Spn} (hL : L.length ≤ 100000) : LeadsN 0 Tryz.prog (.loop (loopAt Tryz.f133 0)) (coS0 s s.i H 0 L) (.exit 0) (coS0 s (coF s.o H s.i L H.length).1 H H.length (coF s.o H s.i L H.length).2) := by
  have h : LeadsN 0 Tryz.prog (.loop (loopAt Tryz.f133 0)) (coS0 s (coF s.o H s.i L 0).1 H (0 : Nat) (coF s.o H s.i L 0).2) (.exit 0) (coS0 s (coF s.o H s.i L H.length).1 H (H.length : Nat) (coF s.o H s.i L H.length).2) := by
    refine loop_rule (fun k => coS0 s (coF s.o H s.i L k).1 H (k : Nat) (coF s.o H s.i L k).2) H.length (.exit 0) _ (by simp) (fun k hk => ?_) ?_
    · have hl := coF_len s.o H s.i L k
      show LeadsN 0 Tryz.prog _ (coS0 s (coF s.o H s.i L k).1 H (k : Nat) (coF s.o H s.i L k).2) .normal (coS0 s (cond _ _ _ : Crs × List Spn).1 H ((k + 1 : Nat) : Int) (cond _ _ _ : Crs × List Spn).2)
      cases hs : skipB (gtL H k) (coF s.o H s.i L k).1 s.o
      · refine leads_evMN (finS_subN 5 keepCo (τ := [some 0, some 1, some 4]) (by rfl)) cE_ok k_nil (m_cons mL_ok m_nil) noL_okN ((co_cut0 turnS apG s (coF s.o H s.i L k).1 H (k : Nat) (coF s.o H s.i L k).2).trans ?_)
        unfold coC0
        rw [dec_lt hk, ixB_t hk, Int.toNat_natCast, skB_eq, hs, apG_eq, lsB_t (ap_spec (by omega) _ _), w64_next (by omega)]
        rfl
      · refine leads_evMN (finS_subN 4 keepCo (τ := [some 0, some 1, some 2]) (by rfl)) cE_ok k_nil (m_cons mL_ok m_nil) noL_okN ((co_skip0 turnS apG s (coF s.o H s.i L k).1 H (k : Nat) (coF s.o H s.i L k).2).trans ?_)
        unfold coC0
        rw [dec_lt hk, ixB_t hk, Int.toNat_natCast, skB_eq, hs, w64_next (by omega)]
        rfl
    · refine leads_evMN (finE_subN keepCo (τ := [some 0, some 1, some 2]) (by rfl)) cE_ok k_nil (m_cons mL_ok m_nil) noL_okN ((co_end0 turnS apG s _ H (H.length : Nat) _).trans ?_)
      unfold coC0
      rw [dec_self, cond_false]
  exact h
def co01 (s : Spn) (H : List Spn) (L : List Spn) : St := mkS 48 [(0, .osl 0 6 0 L.length), (4, .own 1 0), (7, .own 2 0), (12, slL H), (13, iA H.length), (14, iA 0)] [roL L, .c s.c, .c s.i.c]
section
variable (tf : Crs → Crs) (G : List Spn → List AV → List Spn) (s : Spn) (g : Crs) (H : List Spn) (L R : List Spn)
noncomputable def coQ (o : Option Out) : Option Out := cond (lsB 126 R [g.v, s.o.v] (G (decL R.length (elL R)) [g.v, s.o.v]) || false) o none
theorem co_ev1 : evG Tryz.prog (cE tf) [] [mL 126 G] (oneL 3 (toldP 1 keepCo [some 0, some 1, some 2] (coS1 s s.i H 0 L) (.exit 0) (coS1 s g H H.length R))) Tryz.f133 [.osl 0 6 0 L.length, .agg s.c, slL H] [roL L] [some 0, some 4] =
    gate (SubN 1 (co01 s H L) (coS1 s s.i H 0 L)) (coQ G s g R (gout (.osl 1 6 0 (G (decL R.length (elL R)) [g.v, s.o.v]).length) [.dead, roL (G (decL R.length (elL R)) [g.v, s.o.v])])) := by kernel_rfl
theorem co_ev0 : evG Tryz.prog (cE tf) [] [mL 126 G] (oneL 3 (toldN keepCo [(0, 2, 6)] (roL []) [some 0, some 1, none] (coS0 s s.i H 0 []) (.exit 0) (coS0 s g H H.length R))) Tryz.f133 [.x (.slice none 0 0), .agg s.c, slL H] [] [some 3] =
    gate (Sub (coS0 s s.i H 0 []) (coS0 s s.i H 0 [])) (coQ G s g R (gout (.osl 0 6 0 (G (decL R.length (elL R)) [g.v, s.o.v]).length) [roL (G (decL R.length (elL R)) [g.v, s.o.v])])) := by kernel_rfl
end
theorem co_sub (s : Spn) (H : List Spn) (L : List Spn) : SubN 1 (co01 s H L) (coS1 s s.i H 0 L) :=
  @sub_moved 1 48 6 L.length 62 (elL L) [(0, .osl 0 6 0 L.length), (4, .own 1 0), (7, .own 2 0), (12, slL H), (13, iA H.length), (14, iA 0)] [(0, .osl 3 6 0 L.length), (4, .own 1 0), (7, .own 2 0), (12, slL H), (13, iA H.length), (14, iA 0)] [.c s.c, .c s.i.c] ⟨rfl, Or.inr ⟨rfl, rfl⟩, rfl, Or.inl rfl, rfl, Or.inl rfl, rfl, Or.inl rfl, rfl, Or.inl rfl, rfl, Or.inl rfl, trivial⟩
theorem co_spec {L : List Spn} (hL : L.length ≤ 100000) (s : Spn) {H : List Spn} (hH : H.length ≤ 1000) : LSpec 133 L [.agg s.c, slL H] (L ++ cutC s.o H s.i) := by
  have hl := coF_len s.o H s.i L H.length
  have he := coF_end s.o H s.i L
  have hq : ∀ (o : Option Out), coQ apG s (coF s.o H s.i L H.length).1 (coF s.o H s.i L H.length).2 o = o := fun o => by
    unfold coQ
    rw [apG_eq, lsB_t (ap_spec (by omega) _ _)]; rfl
  refine ⟨?_, fun h0 => ?_⟩
  · refine gspecG (mem := [roL L]) cE_ok k_nil (m_cons mL_ok m_nil) Tryz.func133 (by kernel_rfl) (by kernel_rfl) (lokN_one 1 (by kernel_rfl) fun j hj _ => ?_) rfl (by kernel_rfl) ((co_ev1 turnS apG s (coF s.o H s.i L H.length).1 H L (coF s.o H s.i L H.length).2).trans ?_)
    · have : j = 0 := by omega
      subst this
      exact toldP_sound (keep := keepCo) (τ := [some 0, some 1, some 2]) (by rfl) (co_leads1 hH hL)
    · rw [gate_pos (co_sub s H L), hq, apG_eq, he]
      rfl
  · have e0 := List.length_eq_zero_iff.1 h0
    subst e0
    refine gspecG (mem := []) cE_ok k_nil (m_cons mL_ok m_nil) Tryz.func133 (by kernel_rfl) (by kernel_rfl) (lok_hd (c := bodyOf Tryz.f133) (i := 3) 0 (by kernel_rfl) (by kernel_rfl) (toldN_sound (keep := keepCo) (nils := [(0, 2, 6)]) (nr := roL []) (τ := [some 0, some 1, none]) (co_leads0 (s := s) hH hL))) rfl (by kernel_rfl) ((co_ev0 turnS apG s (coF s.o H s.i [] H.length).1 H (coF s.o H s.i [] H.length).2).trans ?_)
    rw [gate_pos (Sub.refl _), hq, apG_eq, he]
    rfl
/-! ### A row less another -/
def leS (A B : List Spn) (i : Int) (R : List Spn) : St := mkS 20 [(1, slL B), (5, .osl 0 6 0 R.length), (8, slL A), (9, iA A.length), (10, iA i)] [roL R]
def keepLe : List Nat := [1, 5, 8, 9, 10]
section
variable (G : List Spn → List AV → List Spn) (A B : List Spn) (i : Int) (R : List Spn)
noncomputable def leC (f : List Spn → Option Out) (oe : Option Out) : Option Out := cond (decide (i < A.length)) (cond (ixB i A.length || false) (cond (lsB 133 R [.agg (gtL A i.toNat).c, slL B] (G (decL R.length (elL R)) [.agg (gtL A i.toNat).c, slL B]) || false) (f (G (decL R.length (elL R)) [.agg (gtL A i.toNat).c, slL B])) none) none) oe
theorem le_step : evCM Tryz.prog [] [] [mL 133 G] noL (loopAt Tryz.f110 0) (leS A B i R) (finN keepLe [some 2]) = leC G A B i R (fun R' => some ⟨.normal, leS A B (w64 (i + 1)) R', .any⟩) none := by kernel_rfl
theorem le_end : evCM Tryz.prog [] [] [mL 133 G] noL (loopAt Tryz.f110 0) (leS A B i R) (finE keepLe [some 0]) = leC G A B i R (fun _ => none) (some ⟨.exit 0, leS A B i R, .any⟩) := by kernel_rfl
theorem le_ev : evM Tryz.prog [] [] [mL 133 G] (oneL 3 (toldN keepLe [(5, 0, 6)] (roL []) [none] (leS A B 0 []) (.exit 0) (leS A B A.length R))) Tryz.f110 [slL A, slL B] ret = gate (Sub (leS A B 0 []) (leS A B 0 [])) (some (Out.of (.sl 6 R.length fun q => elL R (0 + q)))) := by kernel_rfl
end
def coG (L : List Spn) (rest : List AV) : List Spn := match rest with
  | [.agg c, .sl _ m el] => L ++ cutC (decS c).o (decL m el) (decS c).i
  | _ => L
theorem coG_eq (R : List Spn) (s : Spn) (B : List Spn) : coG (decL R.length (elL R)) [.agg s.c, slL B] = R ++ cutC s.o B s.i := by
  show decL R.length (elL R) ++ cutC s.o (decL B.length (elL B)) s.i = _
  rw [decL_el, decL_el]
theorem cut_len (e : Crs) (B : List Spn) (g : Crs) : (cutC e B g).length ≤ B.length + 1 := by
  have h1 := coF_end e B g []
  have h2 := coF_len e B g [] B.length
  rw [List.nil_append] at h1
  rw [← h1, List.length_append]
  have := piece_len (coF e B g [] B.length).1 e
  simp only [List.length_nil] at h2
  omega
theorem less_len {A B : List Spn} : (lessL A B).length ≤ A.length * (B.length + 1) := by
  unfold lessL
  induction A with
  | nil => exact Nat.zero_le _
  | cons a A ih =>
    rw [List.flatMap_cons, List.length_append, List.length_cons, Nat.add_mul, Nat.one_mul]
    have h1 := cut_len a.o B a.i
    exact Nat.le_trans (Nat.add_le_add h1 ih) (by rw [Nat.add_comm]; exact Nat.le_refl _)
theorem le_leads {A B : List Spn} (hA : A.length ≤ 200) (hB : B.length ≤ 200) : Leads Tryz.prog (.loop (loopAt Tryz.f110 0)) (leS A B 0 []) (.exit 0) (leS A B A.length (lessL A B)) := by
  have hlen : ∀ k, k ≤ A.length → (lessL (A.take k) B).length ≤ 40200 := fun k hk => by
    have h1 := less_len (A := A.take k) (B := B)
    rw [List.length_take] at h1
    have h2 : min k A.length * (B.length + 1) ≤ 200 * 201 := Nat.mul_le_mul (by omega) (by omega)
    omega
  have h : Leads Tryz.prog (.loop (loopAt Tryz.f110 0)) (leS A B (0 : Nat) (lessL (A.take 0) B)) (.exit 0) (leS A B (A.length : Nat) (lessL (A.take A.length) B)) := by
    refine loop_rule (fun k => leS A B (k : Nat) (lessL (A.take k) B)) A.length (.exit 0) _ (by simp) (fun k hk => ?_) ?_
    · refine leads_evM (finN_sub _ _) e_nil k_nil (m_cons mL_ok m_nil) noL_ok ((le_step coG A B (k : Nat) (lessL (A.take k) B)).trans ?_)
      have e1 : lessL (A.take k) B ++ cutC (gtL A k).o B (gtL A k).i = lessL (A.take (k + 1)) B := by
        unfold lessL
        rw [flat_take hk]
      have := hlen k (by omega)
      have hs := co_spec (L := lessL (A.take k) B) (by omega) (gtL A k) (H := B) (by omega)
      rw [e1] at hs
      unfold leC
      rw [dec_lt hk, ixB_t hk, Int.toNat_natCast, coG_eq, e1, lsB_t hs, w64_next (by omega)]
      rfl
    · refine leads_evM (finE_sub _ _) e_nil k_nil (m_cons mL_ok m_nil) noL_ok ((le_end coG A B (A.length : Nat) (lessL (A.take A.length) B)).trans ?_)
      unfold leC
      rw [dec_self, cond_false]
  rw [List.take_length, List.take_zero] at h
  exact h
/-- What is left of a row. -/
theorem less_spec {A B : List Spn} (hA : A.length ≤ 200) (hB : B.length ≤ 200) : FSpec Tryz.prog 110 [slL A, slL B] (slL (lessL A B)) := by
  have hL := lok_hd (c := bodyOf Tryz.f110) (i := 3) 0 (by kernel_rfl) (by kernel_rfl) (toldN_sound (keep := keepLe) (nils := [(5, 0, 6)]) (nr := roL []) (τ := [none]) (le_leads hA hB))
  refine spec_of_evM e_nil k_nil (m_cons mL_ok m_nil) (by kernel_rfl) Tryz.func110 (by kernel_rfl) (by kernel_rfl) hL rfl ((le_ev coG A B (lessL A B)).trans ?_)
  rw [gate_pos (Sub.refl _), slL_eq]
end Go.Proofs.YtancjnambbkhmaaGreat.Hs.So

namespace Go.Proofs.YtancjnambbkhmaaGreat.Hs.So
open Go.Gv
open Go.Ev (cn fadd fsub fmul fdiv fsqrt fneg feq flt fle fgt fge fabs isNan)

theorem nan_ev (a : Nat) : ev Tryz.prog [] [] noL Tryz.f153 [.f a] ret = some (Out.of (bA (!(feq a a)))) := by kernel_rfl
theorem snan (a : Nat) : FSpec Tryz.prog 153 [.f a] (bA (!(feq a a))) := sp e_nil Tryz.func153 (by kernel_rfl) (by kernel_rfl) rfl (nan_ev a)
def eF1 (g : Nat → AV) : List AV → Option AV
  | [.f a] => some (g a)
  | _ => none
theorem eF1_ok {f : Nat} {g : Nat → AV} (h : ∀ a, FSpec Tryz.prog f [.f a] (g a)) : EOk Tryz.prog ⟨f, eF1 g⟩ := fun args r hr => by
  simp only [eF1] at hr
  split at hr
  · cases hr; exact Or.inl (h _)
  · cases hr
def cmpS (a b : Nat) : Int := cond (!(feq a a)) (cond (!(feq b b)) 0 (-1)) (cond (!(feq b b)) 1 (cond (flt a b) (-1) (cond (fgt a b) 1 0)))
theorem cmp_ev (nf : Nat → Bool) (a b : Nat) : ev Tryz.prog [⟨153, eF1 fun a => bA (nf a)⟩] [] noL Tryz.f132 [.f a, .f b] ret = cond (nf a) (cond (nf b) (aiR 0) (aiR (-1))) (cond (nf b) (aiR 1) (cond (flt a b) (aiR (-1)) (cond (fgt a b) (aiR 1) (aiR 0)))) := by kernel_rfl
theorem scmp (a b : Nat) : FSpec Tryz.prog 132 [.f a, .f b] (iA (cmpS a b)) := by
  refine sp (e_cons (eF1_ok snan) e_nil) Tryz.func132 (by kernel_rfl) (by kernel_rfl) rfl ((cmp_ev (fun a => !(feq a a)) a b).trans ?_)
  unfold cmpS aiR
  cases feq a a <;> cases feq b b <;> cases flt a b <;> cases fgt a b <;> rfl
theorem cl_ev (cf : Nat → Nat → Int) (x y : Spn) : ev Tryz.prog [⟨132, eFF fun a b => iA (cf a b)⟩] [] noL Tryz.f131 [.agg x.c, .agg y.c] ret = some (Out.of (iA (cf x.i.t y.i.t))) := by kernel_rfl
theorem scl (x y : Spn) : FSpec Tryz.prog 131 [.agg x.c, .agg y.c] (iA (cmpS x.i.t y.i.t)) := sp (e_cons (eFF_ok scmp) e_nil) Tryz.func131 (by kernel_rfl) (by kernel_rfl) rfl (cl_ev cmpS x y)
def eSS (g : Spn → Spn → AV) : List AV → Option AV
  | [.agg [.f t, .x (.int .i64 l), .x (.bool u), .f t', .x (.int .i64 l'), .x (.bool u')], .agg [.f s, .x (.int .i64 m), .x (.bool v), .f s', .x (.int .i64 m'), .x (.bool v')]] => some (g ⟨⟨t, l, u⟩, ⟨t', l', u'⟩⟩ ⟨⟨s, m, v⟩, ⟨s', m', v'⟩⟩)
  | _ => none
theorem eSS_ok {f : Nat} {g : Spn → Spn → AV} (h : ∀ x y : Spn, FSpec Tryz.prog f [.agg x.c, .agg y.c] (g x y)) : EOk Tryz.prog ⟨f, eSS g⟩ := fun args r hr => by
  simp only [eSS] at hr
  split at hr
  · cases hr; exact Or.inl (h ⟨⟨_, _, _⟩, ⟨_, _, _⟩⟩ ⟨⟨_, _, _⟩, ⟨_, _, _⟩⟩)
  · cases hr
/-! ### The insertion sort -/
def clF : AV := .fn (.func 131) [] []
def iiS (n : Nat) (a b i j : Int) (X : Nat → Spn) : St := mkS 53 [(0, .osl 0 6 0 n), (1, iA a), (2, iA b), (3, clF), (8, iA i), (9, iA j)] [.a 62 6 n (elX X)]
def keepIi : List Nat := [0, 1, 2, 3, 8, 9]
def ioS (n : Nat) (a b i : Int) (X : Nat → Spn) : St := mkS 53 [(0, .osl 0 6 0 n), (1, iA a), (2, iA b), (3, clF), (8, iA i)] [.a 62 6 n (elX X)]
def keepIo : List Nat := [0, 1, 2, 3, 8]
def gB (b : Bool) : Bool := !(decide (b = true) && true)
section
variable (cf : Spn → Spn → Int) (n : Nat) (a b i j : Int) (X : Nat → Spn)
def iiG : Bool := (ixB j n || gB (decide (j > a))) && ((Nat.blt (0 + j.toNat) n || gB (decide (j > a))) && ((ixB (w64 (j - 1)) n || gB (decide (j > a))) && ((Nat.blt (0 + (w64 (j - 1)).toNat) n || gB (decide (j > a))) && true)))
def iiT : Bool := cond (decide (j > a)) (decide (cf (X (0 + j.toNat)) (X (0 + (w64 (j - 1)).toNat)) < 0)) false
def iiW : Bool := (ixB (w64 (j - 1)) n || false) && ((bl' (w64 (j - 1)) n) && ((ixB j n || false) && ((bl' j n) && ((ixB j n || false) && ((bl' j n) && ((ixB (w64 (j - 1)) n || false) && ((bl' (w64 (j - 1)) n) && true)))))))
def iiC (o oe : Option Out) : Option Out := cond (iiG n a j) (cond (iiT cf a j X) (cond (iiW n j) o none) oe) none
def iiE : Nat → List AV := fun q => mixL (q == 0 + (w64 (j - 1)).toNat) (X (0 + j.toNat)).c (mixL (q == 0 + j.toNat) (X (0 + (w64 (j - 1)).toNat)).c (X q).c)
theorem ii_step : evCM Tryz.prog [⟨131, eSS fun x y => iA (cf x y)⟩] [] [] noL (loopAt Tryz.f165 1) (iiS n a b i j X) (finN keepIi [some 0]) = iiC cf n a j X (some ⟨.normal, mkS 53 [(0, .osl 0 6 0 n), (1, iA a), (2, iA b), (3, clF), (8, iA i), (9, iA (w64 (j - 1)))] [.a 62 6 n (iiE j X)], .any⟩) none := by kernel_rfl
theorem ii_end : evCM Tryz.prog [⟨131, eSS fun x y => iA (cf x y)⟩] [] [] noL (loopAt Tryz.f165 1) (iiS n a b i j X) (finE keepIi [some 0]) = iiC cf n a j X none (some ⟨.exit 2, iiS n a b i j X, .any⟩) := by kernel_rfl
end
end Go.Proofs.YtancjnambbkhmaaGreat.Hs.So

namespace Go.Proofs.YtancjnambbkhmaaGreat.Hs.So
open Go.Gv
open Go.Ev (cn fadd fsub fmul fdiv fsqrt fneg feq flt fle fgt fge fabs isNan key flt_key fgt_key feq_key)

section
variable (cf : Spn → Spn → Int) (n : Nat) (a b i : Int) (X X' : Nat → Spn)
noncomputable def ioL (j' : Int) : Nat → Option LFun := oneL 4 (toldP 1 keepIi [some 0] (iiS n a b i i X) (.exit 2) (iiS n a b i j' X'))
theorem io_step (j' : Int) : evCM Tryz.prog [⟨131, eSS fun x y => iA (cf x y)⟩] [] [] (ioL n a b i X X' j') (loopAt Tryz.f165 0) (ioS n a b i X) (finN keepIo [some 0]) = cond (decide (i < b)) (gate (SubN 1 (iiS n a b i i X) (iiS n a b i i X)) (some ⟨.normal, ioS n a b (w64 (i + 1)) X', .any⟩)) none := by kernel_rfl
theorem io_end : evCM Tryz.prog [⟨131, eSS fun x y => iA (cf x y)⟩] [] [] (oneL 4 fun _ _ => none) (loopAt Tryz.f165 0) (ioS n a b i X) (finE keepIo [some 0]) = cond (decide (i < b)) none (some ⟨.exit 0, ioS n a b i X, .any⟩) := by kernel_rfl
theorem is_ev : evG Tryz.prog [⟨131, eSS fun x y => iA (cf x y)⟩] [] [] (oneL 1 (toldP 1 keepIo [some 0] (ioS n a b (w64 (a + 1)) X) (.exit 0) (ioS n a b i X'))) Tryz.f165 [.osl 0 6 0 n, iA a, iA b, clF] [.a 62 6 n (elX X)] [some 0] = gate (SubN 1 (ioS n a b (w64 (a + 1)) X) (ioS n a b (w64 (a + 1)) X)) (gout (.tup []) [.a 62 6 n (elX X')]) := by kernel_rfl
end
/-! ### Where one is laid -/
theorem ins_pos : ∀ (S : List Spn) (x : Spn), ∃ p, p ≤ S.length ∧ (∀ y, y ∈ S.drop p → befB x y = true) ∧ (p = 0 ∨ befB x (gtL S (p - 1)) = false) ∧ ins S x = S.take p ++ x :: S.drop p
  | [], x => ⟨0, Nat.le_refl _, fun y hy => (by cases hy), Or.inl rfl, rfl⟩
  | y :: l, x => by
    cases h : (y :: l).all (befB x)
    · obtain ⟨p, h1, h2, h3, h4⟩ := ins_pos l x
      refine ⟨p + 1, by rw [List.length_cons]; omega, h2, Or.inr ?_, ?_⟩
      · show befB x (gtL (y :: l) p) = false
        rcases h3 with h3 | h3
        · subst h3
          have hl : l.all (befB x) = true := List.all_eq_true.2 h2
          rw [List.all_cons, hl, Bool.and_true] at h
          exact h
        · by_cases hp : p = 0
          · subst hp
            have hl : l.all (befB x) = true := List.all_eq_true.2 h2
            rw [List.all_cons, hl, Bool.and_true] at h
            exact h
          · obtain ⟨q, rfl⟩ : ∃ q, p = q + 1 := ⟨p - 1, by omega⟩
            exact h3
      · show cond ((y :: l).all (befB x)) _ _ = _
        rw [h, cond_false, h4]; rfl
    · refine ⟨0, Nat.zero_le _, List.all_eq_true.1 h, Or.inl rfl, ?_⟩
      show cond ((y :: l).all (befB x)) _ _ = _
      rw [h]; rfl
theorem gt_mid {U V : List Spn} {x : Spn} : gtL (U ++ x :: V) U.length = x := by
  unfold gtL
  rw [List.getD_eq_getElem?_getD, List.getElem?_append_right (Nat.le_refl _), Nat.sub_self]; rfl
theorem gt_swap {U V : List Spn} {x s : Spn} (q : Nat) : cond (q == U.length) x (cond (q == U.length + 1) s (gtL (U ++ s :: x :: V) q)) = gtL (U ++ x :: s :: V) q := by
  by_cases h1 : q = U.length
  · subst h1
    rw [BEq.rfl, cond_true, gt_mid]
  · rw [beq_false_of_ne h1, cond_false]
    by_cases h2 : q = U.length + 1
    · subst h2
      rw [BEq.rfl, cond_true]
      have : U ++ x :: s :: V = (U ++ [x]) ++ s :: V := by simp
      rw [this]
      have hl : U.length + 1 = (U ++ [x]).length := by simp
      rw [hl, gt_mid]
    · rw [beq_false_of_ne h2, cond_false]
      unfold gtL
      rw [List.getD_eq_getElem?_getD, List.getD_eq_getElem?_getD]
      by_cases h3 : q < U.length
      · rw [List.getElem?_append_left h3, List.getElem?_append_left h3]
      · rw [List.getElem?_append_right (by omega), List.getElem?_append_right (by omega)]
        obtain ⟨r, hr⟩ : ∃ r, q - U.length = r + 2 := ⟨q - U.length - 2, by omega⟩
        rw [hr]; rfl
theorem cmp_lt {x y : Spn} (hx : isNan x.i.t = false) (hy : isNan y.i.t = false) : decide (cmpS x.i.t y.i.t < 0) = befB x y := by
  unfold cmpS befB
  have e1 : feq x.i.t x.i.t = true := by rw [feq_key hx hx]; simp
  have e2 : feq y.i.t y.i.t = true := by rw [feq_key hy hy]; simp
  rw [e1, e2]
  cases flt x.i.t y.i.t
  · cases fgt x.i.t y.i.t <;> rfl
  · rfl
/-! ### The inner loop -/
def midL (S T : List Spn) (x : Spn) (j : Nat) : List Spn := S.take j ++ x :: (S.drop j ++ T)
theorem mid_step {S T : List Spn} {x : Spn} {j : Nat} (h0 : 0 < j) (h1 : j ≤ S.length) : ∃ U V, U.length = j - 1 ∧ midL S T x j = U ++ gtL S (j - 1) :: x :: V ∧ midL S T x (j - 1) = U ++ x :: gtL S (j - 1) :: V := by
  obtain ⟨k, rfl⟩ : ∃ k, j = k + 1 := ⟨j - 1, by omega⟩
  refine ⟨S.take k, S.drop (k + 1) ++ T, by rw [List.length_take]; show min k S.length = k; omega, ?_, ?_⟩
  · unfold midL
    rw [take_succ' (by omega), List.append_assoc]; rfl
  · unfold midL
    show S.take k ++ x :: (S.drop k ++ T) = _
    rw [List.drop_eq_getElem_cons (show k < S.length by omega)]
    unfold gtL
    show _ = S.take k ++ x :: S.getD k dS :: _
    rw [List.getD_eq_getElem?_getD, List.getElem?_eq_getElem (by omega)]; rfl
theorem iiG_t {n : Nat} {j : Nat} (hj : j < n) (hn : n ≤ 1000) : iiG n 0 (j : Nat) = true := by
  unfold iiG gB
  by_cases h : 0 < j
  · rw [ixB_t hj, Int.toNat_natCast, Nat.zero_add, blt_t hj, w64_id (by omega) (by omega), show ((j : Int) - 1) = ((j - 1 : Nat) : Int) by omega, ixB_t (by omega), Int.toNat_natCast, Nat.zero_add, blt_t (by omega)]
    rfl
  · have : j = 0 := by omega
    subst this
    rw [decide_eq_false (show ¬ ((0 : Nat) : Int) > 0 by omega)]
    simp
theorem iiW_t {n : Nat} {j : Nat} (h0 : 0 < j) (hj : j < n) (hn : n ≤ 1000) : iiW n (j : Nat) = true := by
  unfold iiW bl'
  rw [ixB_t hj, Int.toNat_natCast, w64_id (by omega) (by omega), show ((j : Int) - 1) = ((j - 1 : Nat) : Int) by omega, ixB_t (by omega), Int.toNat_natCast, Nat.zero_add, Nat.zero_add, blt_t hj, blt_t (by omega)]
  rfl
theorem eCl_ok : ∀ e, e ∈ [(⟨131, eSS fun x y => iA (cmpS x.i.t y.i.t)⟩ : Entry)] → EOk Tryz.prog e := e_cons (eSS_ok scl) e_nil
theorem ii_leads {S T : List Spn} {x : Spn} {n : Nat} {b i : Int} (hn : S.length < n) (hn2 : n ≤ 1000) (hS : ∀ s, s ∈ S → isNan s.i.t = false) (hx : isNan x.i.t = false) : ∃ j' : Int, LeadsN 1 Tryz.prog (.loop (loopAt Tryz.f165 1)) (iiS n 0 b i (S.length : Nat) (gtL (S ++ x :: T))) (.exit 2) (iiS n 0 b i j' (gtL (ins S x ++ T))) := by
  obtain ⟨p, h1, h2, h3, h4⟩ := ins_pos S x
  have gm : ∀ k, k < S.length → isNan (gtL S k).i.t = false := fun k hk => by
    refine hS _ ?_
    unfold gtL
    rw [List.getD_eq_getElem?_getD, List.getElem?_eq_getElem hk]
    exact List.getElem_mem _
  have tst : ∀ j : Nat, j ≤ S.length → iiT (fun x y => cmpS x.i.t y.i.t) 0 (j : Nat) (gtL (midL S T x j)) = cond (decide (0 < j)) (befB x (gtL S (j - 1))) false := fun j hj => by
    unfold iiT
    by_cases h0 : 0 < j
    · obtain ⟨U, V, hu, e1, _⟩ := mid_step (T := T) (x := x) h0 hj
      rw [decide_eq_true (show ((j : Nat) : Int) > 0 by omega), decide_eq_true h0, cond_true, cond_true, Int.toNat_natCast, Nat.zero_add, w64_id (by omega) (by omega), show ((j : Int) - 1) = ((j - 1 : Nat) : Int) by omega, Int.toNat_natCast, Nat.zero_add]
      have g1 : gtL (midL S T x j) (j - 1) = gtL S (j - 1) := by rw [e1, ← hu, gt_mid]
      have g2 : gtL (midL S T x j) j = x := by
        unfold midL
        have hl : (S.take j).length = j := by rw [List.length_take]; omega
        have := gt_mid (U := S.take j) (V := S.drop j ++ T) (x := x)
        rw [hl] at this
        exact this
      rw [g1, g2]
      exact cmp_lt hx (gm _ (by omega))
    · rw [decide_eq_false (show ¬ ((j : Nat) : Int) > 0 by omega), decide_eq_false h0]; rfl
  refine ⟨(p : Nat), ?_⟩
  have h : LeadsN 1 Tryz.prog (.loop (loopAt Tryz.f165 1)) (iiS n 0 b i ((S.length - 0 : Nat) : Int) (gtL (midL S T x (S.length - 0)))) (.exit 2) (iiS n 0 b i (p : Nat) (gtL (midL S T x p))) := by
    refine loop_rule (fun k => iiS n 0 b i ((S.length - k : Nat) : Int) (gtL (midL S T x (S.length - k)))) (S.length - p) (.exit 2) _ (by simp) (fun k hk => ?_) ?_
    · generalize hj : S.length - k = j
      have hj0 : 0 < j := by omega
      have hjp : p < j := by omega
      obtain ⟨U, V, hu, e1, e2⟩ := mid_step (T := T) (x := x) hj0 (show j ≤ S.length by omega)
      have st := ii_step (fun x y => cmpS x.i.t y.i.t) n 0 b i (j : Nat) (gtL (midL S T x j))
      unfold iiC at st
      have hb : befB x (gtL S (j - 1)) = true := by
        refine h2 _ ?_
        unfold gtL
        rw [List.getD_eq_getElem?_getD, List.getElem?_eq_getElem (by omega)]
        show S[j - 1] ∈ _
        have : (S.drop p)[j - 1 - p]? = some S[j - 1] := by rw [List.getElem?_drop, show p + (j - 1 - p) = j - 1 by omega, List.getElem?_eq_getElem (by omega)]
        exact List.mem_of_getElem? this
      rw [iiG_t (by omega) hn2, tst j (by omega), decide_eq_true hj0, cond_true, cond_true, hb, cond_true, iiW_t hj0 (by omega) hn2, cond_true] at st
      refine (leads_evMN (finN_subN keepIi (τ := [some 0]) (by rfl)) eCl_ok k_nil m_nil noL_okN st).sub (SubN.refl _) ?_
      rw [w64_id (by omega) (by omega), show ((j : Int) - 1) = ((S.length - (k + 1) : Nat) : Int) by omega, show S.length - (k + 1) = j - 1 by omega]
      refine sub_same ⟨Or.inr ⟨62, 6, n, _, _, rfl, rfl, fun q hq => ?_⟩, trivial⟩
      unfold iiE
      rw [w64_id (by omega) (by omega), Int.toNat_natCast, Nat.zero_add, show ((j : Int) - 1) = ((j - 1 : Nat) : Int) by omega, Int.toNat_natCast, Nat.zero_add, mix_c, mix_c]
      refine congrArg Spn.c (show gtL (midL S T x (j - 1)) q = _ from ?_)
      rw [e1, e2]
      have g1 : gtL (U ++ gtL S (j - 1) :: x :: V) (j - 1) = gtL S (j - 1) := by rw [← hu, gt_mid]
      have g2 : gtL (U ++ gtL S (j - 1) :: x :: V) j = x := by
        have : U ++ gtL S (j - 1) :: x :: V = (U ++ [gtL S (j - 1)]) ++ x :: V := by simp
        rw [this]
        have hl : (U ++ [gtL S (j - 1)]).length = j := by rw [List.length_append, hu]; show j - 1 + 1 = j; omega
        have := gt_mid (U := U ++ [gtL S (j - 1)]) (V := V) (x := x)
        rw [hl] at this
        exact this
      rw [g1, g2]
      have := gt_swap (U := U) (V := V) (x := x) (s := gtL S (j - 1)) q
      rw [hu, show j - 1 + 1 = j by omega] at this
      exact this.symm
    · rw [show S.length - (S.length - p) = p by omega]
      refine leads_evMN (finE_subN keepIi (τ := [some 0]) (by rfl)) eCl_ok k_nil m_nil noL_okN ((ii_end (fun x y => cmpS x.i.t y.i.t) n 0 b i (p : Nat) (gtL (midL S T x p))).trans ?_)
      unfold iiC
      rw [iiG_t (by omega) hn2, tst p h1, cond_true]
      rcases h3 with h3 | h3
      · subst h3; rfl
      · rw [h3]
        cases decide (0 < p) <;> rfl
  rw [Nat.sub_zero] at h
  have e1 : midL S T x S.length = S ++ x :: T := by unfold midL; rw [List.take_length, List.drop_length]; rfl
  have e2 : midL S T x p = ins S x ++ T := by unfold midL; rw [h4, List.append_assoc]; rfl
  rw [e1, e2] at h
  exact h
/-! ### The outer loop, and the whole -/
theorem none_soundN {np : Nat} {P : Program} {c : Code} : LSoundN np P c (fun _ _ => none) := ⟨fun s k r h => (by cases h), fun s s' e hk => (by have := hk (fun _ _ => some ⟨.normal, s, .any⟩); cases this)⟩
theorem ins_len : ∀ (S : List Spn) (x : Spn), (ins S x).length = S.length + 1 := fun S x => by
  obtain ⟨p, h1, _, _, h4⟩ := ins_pos S x
  rw [h4, List.length_append, List.length_cons, List.length_take, List.length_drop]
  omega
theorem ins_mem {S : List Spn} {x y : Spn} (h : y ∈ ins S x) : y = x ∨ y ∈ S := by
  obtain ⟨p, h1, _, _, h4⟩ := ins_pos S x
  rw [h4] at h
  rcases List.mem_append.1 h with h | h
  · exact Or.inr (List.mem_of_mem_take h)
  · rcases List.mem_cons.1 h with h | h
    · exact Or.inl h
    · exact Or.inr (List.mem_of_mem_drop h)
def srtL (L : List Spn) : List Spn := L.foldl ins []
theorem srt_take {L : List Spn} {k : Nat} (hk : k < L.length) : srtL (L.take (k + 1)) = ins (srtL (L.take k)) (gtL L k) := by
  unfold srtL
  rw [take_succ' hk, List.foldl_append]; rfl
theorem srt_len (L : List Spn) : ∀ k, k ≤ L.length → (srtL (L.take k)).length = k
  | 0, _ => rfl
  | k + 1, hk => by rw [srt_take (by omega), ins_len, srt_len L k (by omega)]
theorem srt_mem {L : List Spn} {y : Spn} : ∀ k, k ≤ L.length → y ∈ srtL (L.take k) → y ∈ L
  | 0, _, h => by cases h
  | k + 1, hk, h => by
    rw [srt_take (by omega)] at h
    rcases ins_mem h with h | h
    · rw [h]
      unfold gtL
      rw [List.getD_eq_getElem?_getD, List.getElem?_eq_getElem (by omega)]
      exact List.getElem_mem _
    · exact srt_mem k (by omega) h
theorem drop_gt {L : List Spn} {k : Nat} (hk : k < L.length) : L.drop k = gtL L k :: L.drop (k + 1) := by
  rw [List.drop_eq_getElem_cons hk]
  unfold gtL
  rw [List.getD_eq_getElem?_getD, List.getElem?_eq_getElem hk]; rfl
theorem io_leads {L : List Spn} (h0 : 0 < L.length) (hn : L.length ≤ 1000) (hL : ∀ s, s ∈ L → isNan s.i.t = false) : LeadsN 1 Tryz.prog (.loop (loopAt Tryz.f165 0)) (ioS L.length 0 L.length 1 (gtL L)) (.exit 0) (ioS L.length 0 L.length L.length (gtL (srtL L))) := by
  have h : LeadsN 1 Tryz.prog (.loop (loopAt Tryz.f165 0)) (ioS L.length 0 L.length ((0 + 1 : Nat) : Int) (gtL (srtL (L.take (0 + 1)) ++ L.drop (0 + 1)))) (.exit 0) (ioS L.length 0 L.length (L.length : Nat) (gtL (srtL L))) := by
    refine loop_rule (fun k => ioS L.length 0 L.length ((k + 1 : Nat) : Int) (gtL (srtL (L.take (k + 1)) ++ L.drop (k + 1)))) (L.length - 1) (.exit 0) _ (by simp) (fun k hk => ?_) ?_
    · have hk1 : k + 1 < L.length := by omega
      have hlen := srt_len L (k + 1) (by omega)
      obtain ⟨j', hj⟩ := ii_leads (S := srtL (L.take (k + 1))) (T := L.drop (k + 1 + 1)) (x := gtL L (k + 1)) (n := L.length) (b := L.length) (i := ((k + 1 : Nat) : Int)) (by omega) hn (fun s hs => hL s (srt_mem _ (by omega) hs)) (hL _ (by
        unfold gtL
        rw [List.getD_eq_getElem?_getD, List.getElem?_eq_getElem hk1]
        exact List.getElem_mem _))
      rw [hlen, ← drop_gt hk1, ← srt_take hk1] at hj
      refine leads_evMN (finN_subN keepIo (τ := [some 0]) (by rfl)) eCl_ok k_nil m_nil (lokN_one (c := loopAt Tryz.f165 0) (i := 4) 1 (by kernel_rfl) fun j hj' _ => ?_) ((io_step (fun x y => cmpS x.i.t y.i.t) L.length 0 L.length ((k + 1 : Nat) : Int) (gtL (srtL (L.take (k + 1)) ++ L.drop (k + 1))) (gtL (srtL (L.take (k + 1 + 1)) ++ L.drop (k + 1 + 1))) j').trans ?_)
      · have : j = 0 := by omega
        subst this
        exact toldP_sound (by rfl) hj
      · rw [dec_lt hk1, gate_pos (SubN.refl _), w64_next (by omega)]
        rfl
    · have e1 : L.length - 1 + 1 = L.length := by omega
      have e2 : srtL (L.take (L.length - 1 + 1)) ++ L.drop (L.length - 1 + 1) = srtL L := by rw [e1, List.take_length, List.drop_length, List.append_nil]
      show LeadsN 1 Tryz.prog _ (ioS L.length 0 L.length ((L.length - 1 + 1 : Nat) : Int) (gtL (srtL (L.take (L.length - 1 + 1)) ++ L.drop (L.length - 1 + 1)))) _ _
      rw [e2, e1]
      refine leads_evMN (finE_subN keepIo (τ := [some 0]) (by rfl)) eCl_ok k_nil m_nil (lokN_one (c := loopAt Tryz.f165 0) (i := 4) 1 (by kernel_rfl) fun j hj' _ => ?_) ((io_end (fun x y => cmpS x.i.t y.i.t) L.length 0 L.length (L.length : Nat) (gtL (srtL L))).trans ?_)
      · exact none_soundN
      · rw [dec_self, cond_false]
  have e0 : srtL (L.take (0 + 1)) ++ L.drop (0 + 1) = L := by
    rw [srt_take h0]
    show ins [] (gtL L 0) ++ L.drop (0 + 1) = L
    show gtL L 0 :: L.drop (0 + 1) = L
    rw [← drop_gt h0]; rfl
  rw [e0] at h
  exact h
/-- A row sorted. -/
theorem is_spec {L : List Spn} (h0 : 0 < L.length) (hn : L.length ≤ 1000) (hL : ∀ s, s ∈ L → isNan s.i.t = false) : GSpec Tryz.prog 165 [.osl 0 6 0 L.length, iA 0, iA L.length, clF] [roL L] (.tup []) [.a 62 6 L.length (elL (srtL L))] := by
  refine gspecG (mem := [roL L]) eCl_ok k_nil m_nil Tryz.func165 (by kernel_rfl) (by kernel_rfl) (lokN_one (c := bodyOf Tryz.f165) (i := 1) 2 (by kernel_rfl) fun j hj hid => ?_) rfl (by kernel_rfl) ((is_ev (fun x y => cmpS x.i.t y.i.t) L.length 0 L.length L.length (gtL L) (gtL (srtL L))).trans ?_)
  · have : j = 0 ∨ j = 1 := by omega
    rcases this with rfl | rfl
    · exact toldP_sound (by rfl) (io_leads h0 hn hL)
    · exact absurd hid (by decide)
  · rw [gate_pos (SubN.refl _)]
    rfl
/-- Nothing to sort. -/
theorem is_spec0 {L : List Spn} (a b : Int) (h : ¬ w64 (a + 1) < b) : GSpec Tryz.prog 165 [.osl 0 6 0 L.length, iA a, iA b, clF] [roL L] (.tup []) [roL L] := by
  refine gspecG (mem := [roL L]) eCl_ok k_nil m_nil Tryz.func165 (by kernel_rfl) (by kernel_rfl) (lokN_one (c := bodyOf Tryz.f165) (i := 1) 2 (by kernel_rfl) fun j hj hid => ?_) rfl (by kernel_rfl) ((is_ev (fun x y => cmpS x.i.t y.i.t) L.length a b (w64 (a + 1)) (gtL L) (gtL L)).trans ?_)
  · have : j = 0 ∨ j = 1 := by omega
    rcases this with rfl | rfl
    · refine toldP_sound (by rfl) (loop_rule (fun _ => ioS L.length a b (w64 (a + 1)) (gtL L)) 0 (.exit 0) _ (by simp) (fun j hj => absurd hj (Nat.not_lt_zero j)) ?_)
      refine leads_evMN (finE_subN keepIo (τ := [some 0]) (by rfl)) eCl_ok k_nil m_nil (lokN_one (c := loopAt Tryz.f165 0) (i := 4) 1 (by kernel_rfl) fun j hj' _ => ?_) ((io_end (fun x y => cmpS x.i.t y.i.t) L.length a b (w64 (a + 1)) (gtL L)).trans ?_)
      · exact none_soundN
      · rw [decide_eq_false h, cond_false]
    · exact absurd hid (by decide)
  · rw [gate_pos (SubN.refl _)]
    rfl
end Go.Proofs.YtancjnambbkhmaaGreat.Hs.So

namespace Go.Proofs.YtancjnambbkhmaaGreat.Hs.So
open Go.Gv
open Go.Ev (cn fadd fsub fmul fdiv fsqrt fneg feq flt fle fgt fge fabs isNan key flt_key fgt_key feq_key)

abbrev SG : Type := Nat → (Nat → List AV) → Int → Int → Nat → Spn
noncomputable def srC' (f : Nat) (G : SG) : List AV → List Row → Option (Bool × AV × List Row)
  | [.osl 0 6 0 m, .x (.int .i64 a), .x (.int .i64 b), g], [.a e sz n el] => some (propB (GSpec Tryz.prog f [.osl 0 6 0 m, iA a, iA b, g] [.a e sz n el] (.tup []) [.a 62 6 n (elX (G n el a b))]), .tup [], [.a 62 6 n (elX (G n el a b))])
  | _, _ => none
noncomputable def mSr (f : Nat) (G : SG) : MEntry := ⟨f, liftM (some 0) (srC' f G), none⟩
theorem mSr_ok {f : Nat} {G : SG} : MEOk Tryz.prog (mSr f G) := by
  refine ⟨liftM_ok fun args rs v mem1 hc => ?_, fun _ h => by cases h⟩
  unfold srC' at hc
  split at hc
  · simp only [Option.some.injEq, Prod.mk.injEq] at hc
    obtain ⟨h1, rfl, rfl⟩ := hc
    refine ⟨propB_of h1, fun i hi hw => ?_⟩
    have : i = 0 := by simpa using hi
    subst this
    exact absurd rfl hw
  · cases hc
noncomputable def mqB (f : Nat) (G : SG) (n : Nat) (X : Nat → Spn) (a b : Int) : Bool := (propB (GSpec Tryz.prog f [.osl 0 6 0 n, iA a, iA b, clF] [.a 62 6 n (elX X)] (.tup []) [.a 62 6 n (elX (G n (elX X) a b))]) && (Nat.blt 0 (0 + n) && true)) || false
def s1S (n : Nat) (a b : Int) (X : Nat → Spn) : St := mkS 63 [(0, .osl 0 6 0 n), (1, iA n), (2, clF), (6, iA 20), (7, iA a), (8, iA b)] [.a 62 6 n (elX X)]
def keepS1 : List Nat := [0, 1, 2, 6, 7, 8]
section
variable (G : SG) (n : Nat) (a b : Int) (X : Nat → Spn)
theorem s1_step : evCM Tryz.prog [] [] [mSr 165 G] noL (loopAt Tryz.f152 0) (s1S n a b X) (finN keepS1 [some 0]) = cond (decide (b ≤ n)) (cond (mqB 165 G n X a b) (some ⟨.normal, s1S n b (w64 (b + 20)) (G n (elX X) a b), .any⟩) none) none := by kernel_rfl
theorem s1_end : evCM Tryz.prog [] [] [mSr 165 G] noL (loopAt Tryz.f152 0) (s1S n a b X) (finE keepS1 [some 0]) = cond (decide (b ≤ n)) (cond (mqB 165 G n X a b) none none) (some ⟨.exit 0, s1S n a b X, .any⟩) := by kernel_rfl
noncomputable def s2L (a' b' : Int) (X' : Nat → Spn) : Nat → Option LFun := twoL 2 (toldP 1 keepS1 [some 0] (s1S n 0 20 X) (.exit 0) (s1S n a' b' X')) 7 (toldP 1 keepS1 [some 0] (s1S n a' b' (G n (elX X') a' n)) (.exit 2) (s1S n a' b' (G n (elX X') a' n)))
theorem st_ev (a' b' : Int) (X' : Nat → Spn) : evG Tryz.prog [] [] [mSr 165 G] (s2L G n X a' b' X') Tryz.f152 [.osl 0 6 0 n, iA n, clF] [.a 62 6 n (elX X)] [some 0] =
    gate (SubN 1 (s1S n 0 20 X) (s1S n 0 20 X)) (cond (mqB 165 G n X' a' n) (gate (SubN 1 (s1S n a' b' (G n (elX X') a' n)) (s1S n a' b' (G n (elX X') a' n))) (gout (.tup []) [.a 62 6 n (elX (G n (elX X') a' n))])) none) := by kernel_rfl
theorem s2_end : evCM Tryz.prog [] [] [mSr 165 G] (oneL 9 fun _ _ => none) (loopAt Tryz.f152 1) (s1S n a b X) (finE keepS1 [some 0]) = cond (decide ((20 : Int) < n)) none (some ⟨.exit 2, s1S n a b X, .any⟩) := by kernel_rfl
end
theorem lokN_all {np : Nat} {P : Program} {c : Code} {L : Nat → Option LFun} (m : Nat) (hlen : (loopsOf c).length = m) (h : ∀ j, j < m → ∀ i g, firstId ((loopsOf c).getD j .skip) = some i → L i = some g → LSoundN np P ((loopsOf c).getD j .skip) g) : LOkN np P L c := by
  intro c' hc i g hi hg
  obtain ⟨j, hj, rfl⟩ := List.mem_iff_getElem.1 hc
  have e2 : (loopsOf c).getD j .skip = (loopsOf c)[j] := by rw [List.getD_eq_getElem?_getD, List.getElem?_eq_getElem hj]; rfl
  have := h j (by omega) i g (by rw [e2]; exact hi) hg
  rw [e2] at this
  exact this
/-- What the sorting of a part makes of a row. -/
def srG (n : Nat) (el : Nat → List AV) (a _b : Int) : Nat → Spn := cond (a == 0) (gtL (srtL (decL n el))) (gtL (decL n el))
theorem srG_0 (L : List Spn) (b : Int) : srG L.length (elX (gtL L)) 0 b = gtL (srtL L) := by
  show gtL (srtL (decL L.length (elL L))) = _
  rw [decL_el]
theorem srtL_len (L : List Spn) : (srtL L).length = L.length := by
  have := srt_len L L.length (Nat.le_refl _)
  rw [List.take_length] at this
  exact this
theorem srG_20 {L : List Spn} (h : L.length = 20) (b : Int) : srG 20 (elX (gtL L)) 20 b = gtL L := by
  show gtL (decL 20 (elL L)) = _
  rw [← h, decL_el]
theorem mq_t {L : List Spn} (h0 : 0 < L.length) (hn : L.length ≤ 1000) (hL : ∀ s, s ∈ L → isNan s.i.t = false) : mqB 165 srG L.length (gtL L) 0 L.length = true := by
  unfold mqB
  rw [srG_0, propB_t (show GSpec Tryz.prog _ [.osl 0 6 0 L.length, iA 0, iA L.length, clF] [.a 62 6 L.length (elX (gtL L))] (.tup []) [.a 62 6 L.length (elX (gtL (srtL L)))] from is_spec h0 hn hL), blt_t (by omega)]
  rfl
theorem s2_leads {n : Nat} (hn : n ≤ 20) (a b : Int) (X : Nat → Spn) : LeadsN 1 Tryz.prog (.loop (loopAt Tryz.f152 1)) (s1S n a b X) (.exit 2) (s1S n a b X) := by
  refine loop_rule (fun _ => s1S n a b X) 0 (.exit 2) _ (by simp) (fun j hj => absurd hj (Nat.not_lt_zero j)) ?_
  refine leads_evMN (finE_subN keepS1 (τ := [some 0]) (by rfl)) e_nil k_nil (m_cons mSr_ok m_nil) (lokN_one (c := loopAt Tryz.f152 1) (i := 9) 1 (by kernel_rfl) fun _ _ _ => none_soundN) ((s2_end srG n a b X).trans ?_)
  rw [decide_eq_false (by omega), cond_false]
theorem st_of {n : Nat} (hn : n ≤ 20) {X X' : Nat → Spn} {a' b' : Int} (h1 : LeadsN 1 Tryz.prog (.loop (loopAt Tryz.f152 0)) (s1S n 0 20 X) (.exit 0) (s1S n a' b' X')) (h2 : mqB 165 srG n X' a' n = true) :
    GSpec Tryz.prog 152 [.osl 0 6 0 n, iA n, clF] [.a 62 6 n (elX X)] (.tup []) [.a 62 6 n (elX (srG n (elX X') a' n))] := by
  refine gspecG (mem := [.a 62 6 n (elX X)]) e_nil k_nil (m_cons mSr_ok m_nil) Tryz.func152 (by kernel_rfl) (by kernel_rfl) (lokN_all (c := bodyOf Tryz.f152) (L := s2L srG n X a' b' X') 3 (by kernel_rfl) fun j hj i g hi hg => ?_) rfl (by kernel_rfl) ((st_ev srG n X a' b' X').trans ?_)
  · have : j = 0 ∨ j = 1 ∨ j = 2 := by omega
    rcases this with rfl | rfl | rfl
    · have e : i = 2 := Option.some.inj (hi.symm.trans (by decide))
      subst e
      cases hg
      exact toldP_sound (by rfl) h1
    · have e : i = 7 := Option.some.inj (hi.symm.trans (by decide))
      subst e
      cases hg
      exact toldP_sound (by rfl) (s2_leads hn a' b' _)
    · have e : i = 9 := Option.some.inj (hi.symm.trans (by decide))
      subst e
      cases hg
  · rw [gate_pos (SubN.refl _), h2, cond_true, gate_pos (SubN.refl _)]
/-- A row of at most twenty, sorted. -/
theorem st_spec {L : List Spn} (h0 : 0 < L.length) (hn : L.length ≤ 20) (hL : ∀ s, s ∈ L → isNan s.i.t = false) : GSpec Tryz.prog 152 [.osl 0 6 0 L.length, iA L.length, clF] [roL L] (.tup []) [.a 62 6 L.length (elL (srtL L))] := by
  by_cases h : L.length < 20
  · have h1 : LeadsN 1 Tryz.prog (.loop (loopAt Tryz.f152 0)) (s1S L.length 0 20 (gtL L)) (.exit 0) (s1S L.length 0 20 (gtL L)) := by
      refine loop_rule (fun _ => s1S L.length 0 20 (gtL L)) 0 (.exit 0) _ (by simp) (fun j hj => absurd hj (Nat.not_lt_zero j)) ?_
      refine leads_evMN (finE_subN keepS1 (τ := [some 0]) (by rfl)) e_nil k_nil (m_cons mSr_ok m_nil) noL_okN ((s1_end srG L.length 0 20 (gtL L)).trans ?_)
      rw [decide_eq_false (show ¬ (20 : Int) ≤ L.length by omega), cond_false]
    have := st_of hn h1 (mq_t h0 (by omega) hL)
    rw [srG_0] at this
    exact this
  · have e : L.length = 20 := by omega
    have hl2 : (srtL L).length = 20 := by rw [srtL_len, e]
    have h1 : LeadsN 1 Tryz.prog (.loop (loopAt Tryz.f152 0)) (s1S L.length 0 20 (gtL L)) (.exit 0) (s1S L.length 20 40 (gtL (srtL L))) := by
      refine loop_rule (fun k => cond (k == 0) (s1S L.length 0 20 (gtL L)) (s1S L.length 20 40 (gtL (srtL L)))) 1 (.exit 0) _ (by simp) (fun j hj => ?_) ?_
      · have : j = 0 := by omega
        subst this
        refine leads_evMN (finN_subN keepS1 (τ := [some 0]) (by rfl)) e_nil k_nil (m_cons mSr_ok m_nil) noL_okN ((s1_step srG L.length 0 20 (gtL L)).trans ?_)
        have hq := mq_t h0 (by omega) hL
        rw [show ((L.length : Nat) : Int) = 20 by omega] at hq
        rw [decide_eq_true (show (20 : Int) ≤ L.length by omega), cond_true, hq, cond_true, srG_0]
        rfl
      · refine leads_evMN (finE_subN keepS1 (τ := [some 0]) (by rfl)) e_nil k_nil (m_cons mSr_ok m_nil) noL_okN ((s1_end srG L.length 20 40 (gtL (srtL L))).trans ?_)
        rw [decide_eq_false (show ¬ (40 : Int) ≤ L.length by omega), cond_false]
    have hq : mqB 165 srG L.length (gtL (srtL L)) 20 L.length = true := by
      unfold mqB
      have h3 := is_spec0 (L := srtL L) 20 20 (by decide)
      rw [e, srG_20 hl2]
      rw [hl2] at h3
      have h4 : GSpec Tryz.prog 165 [.osl 0 6 0 20, iA 20, iA ((20 : Nat) : Int), clF] [.a 62 6 20 (elX (gtL (srtL L)))] (.tup []) [.a 62 6 20 (elX (gtL (srtL L)))] := by
        unfold roL at h3
        rw [hl2] at h3
        exact h3
      rw [propB_t h4]
      rfl
    have := st_of hn h1 hq
    rw [e] at this ⊢
    rw [srG_20 hl2] at this
    unfold roL
    rw [e]
    exact this
/-! ### SortStableFunc -/
abbrev SH2 : Type := Nat → (Nat → List AV) → Nat → Spn
noncomputable def stC (f : Nat) (G : SH2) : List AV → List Row → Option (Bool × AV × List Row)
  | .osl 0 6 0 m :: rest, [.a e sz n el] => some (propB (GSpec Tryz.prog f (.osl 0 6 0 m :: rest) [.a e sz n el] (.tup []) [.a 62 6 n (elX (G n el))]), .tup [], [.a 62 6 n (elX (G n el))])
  | _, _ => none
noncomputable def mSt (f : Nat) (G : SH2) : MEntry := ⟨f, liftM (some 0) (stC f G), none⟩
theorem mSt_ok {f : Nat} {G : SH2} : MEOk Tryz.prog (mSt f G) := by
  refine ⟨liftM_ok fun args rs v mem1 hc => ?_, fun _ h => by cases h⟩
  unfold stC at hc
  split at hc
  · simp only [Option.some.injEq, Prod.mk.injEq] at hc
    obtain ⟨h1, rfl, rfl⟩ := hc
    refine ⟨propB_of h1, fun i hi hw => ?_⟩
    have : i = 0 := by simpa using hi
    subst this
    exact absurd rfl hw
  · cases hc
noncomputable def mtB (f : Nat) (G : SH2) (n : Nat) (X : Nat → Spn) (rest : List AV) : Bool := (propB (GSpec Tryz.prog f (.osl 0 6 0 n :: rest) [.a 62 6 n (elX X)] (.tup []) [.a 62 6 n (elX (G n (elX X)))]) && (Nat.blt 0 (0 + n) && true)) || false
theorem so_ev (G : SH2) (n : Nat) (X : Nat → Spn) : evG Tryz.prog [] [] [mSt 152 G] noL Tryz.f130 [.osl 0 6 0 n, clF] [.a 62 6 n (elX X)] [some 0] = cond (mtB 152 G n X [iA n, clF]) (gout (.tup []) [.a 62 6 n (elX (G n (elX X)))]) none := by kernel_rfl
def srD : SH2 := fun n el => gtL (srtL (decL n el))
theorem srD_eq (L : List Spn) : srD L.length (elX (gtL L)) = gtL (srtL L) := by
  show gtL (srtL (decL L.length (elL L))) = _
  rw [decL_el]
theorem mt_t {f : Nat} {L : List Spn} {rest : List AV} (h0 : 0 < L.length) (h : GSpec Tryz.prog f (.osl 0 6 0 L.length :: rest) [roL L] (.tup []) [.a 62 6 L.length (elL (srtL L))]) : mtB f srD L.length (gtL L) rest = true := by
  unfold mtB
  rw [srD_eq, propB_t (show GSpec Tryz.prog f (.osl 0 6 0 L.length :: rest) [.a 62 6 L.length (elX (gtL L))] (.tup []) [.a 62 6 L.length (elX (gtL (srtL L)))] from h), blt_t (by omega)]
  rfl
theorem so_spec {L : List Spn} (h0 : 0 < L.length) (hn : L.length ≤ 20) (hL : ∀ s, s ∈ L → isNan s.i.t = false) : GSpec Tryz.prog 130 [.osl 0 6 0 L.length, clF] [roL L] (.tup []) [.a 62 6 L.length (elL (srtL L))] := by
  refine gspecG (mem := [roL L]) e_nil k_nil (m_cons mSt_ok m_nil) Tryz.func130 (by kernel_rfl) (by kernel_rfl) (fun _ _ _ _ _ h => by cases h) rfl (by kernel_rfl) ((so_ev srD L.length (gtL L)).trans ?_)
  rw [mt_t h0 (st_spec h0 hn hL), cond_true, srD_eq]
  rfl
end Go.Proofs.YtancjnambbkhmaaGreat.Hs.So

namespace Go.Proofs.YtancjnambbkhmaaGreat.Hs.So
open Go.RowKit Go.Gv

theorem info62 : (Tryz.prog.info? 62).map (fun i => (i.zero, i.size, i.bytes)) = some (some (.agg #[.float .f64 0, .int .i64 0, .bool false, .float .f64 0, .int .i64 0, .bool false]), 6, 48) := by kernel_rfl
theorem by62 : Tryz.t62.bytes = 48 := by kernel_rfl
/-- The cells of a new row of spans with so much room. -/
def gwC (n c : Nat) : Array Value := Builtin.zeroCells #[.float .f64 0, .int .i64 0, .bool false, .float .f64 0, .int .i64 0, .bool false] n ++ Builtin.zeroCells #[.float .f64 0, .int .i64 0, .bool false, .float .f64 0, .int .i64 0, .bool false] (c - n)
set_option maxHeartbeats 1600000 in
set_option maxRecDepth 1000000 in
theorem grow_walk (n : Nat) (w : World) (h1 : 0 < n) (h2 : n ≤ 1000) :
    Calls Tryz.prog 151 #[.slice none 0 0, .int .i64 n] w fun e w' => e = .returned (.slice (some ⟨w.heap.size, 0, none⟩) 0 (grownCap w n 0 62)) ∧ w' = (w.alloc (.cells (gwC n (grownCap w n 0 62)) 62)).drew := by
  obtain ⟨i0, hi, hz0, hz1, hz2⟩ := info_parts info62
  have e1 : (0 : Int) ≤ ↑n := by omega
  have e2 : ¬ n = 0 := by omega
  have e3 : ¬ 281474976710656 < Builtin.nextslicecap n 0 * Tryz.t62.bytes := by rw [nextslicecap_zero h1, by62]; omega
  have e4 : ¬ n * 6 = 0 := by omega
  have e5 : (n : Int) * (Tryz.t62.bytes : Int) ≤ 281474976710656 := by rw [by62]; omega
  have e6 : (n : Int) ≤ 9223372036854775807 := by omega
  have e7 : ¬ (n : Int) < 0 := by omega
  have e8 : (0 : Int) < n := by omega
  clear h2
  go_enter Tryz.func151, Tryz.ntmps151
  go_wp2
  go_ret
  exact ⟨rfl, rfl⟩
theorem gwC_size (n c : Nat) (h : n ≤ c) : (gwC n c).size = c * 6 := by
  unfold gwC
  rw [Array.size_append, size_zeroCells, size_zeroCells]
  show n * 6 + (c - n) * 6 = c * 6
  omega
/-- A new row of spans, with nothing in it yet. -/
theorem grow_spec (n : Nat) (h1 : 0 < n) (h2 : n ≤ 1000) (el : Nat → List AV) : GSpec Tryz.prog 151 [.x (.slice none 0 0), iA n] [] (.osl 0 6 0 0) [.a 62 6 0 el] := by
  refine ⟨⟨Tryz.f151, Tryz.func151, by kernel_rfl, by kernel_rfl⟩, fun R E cargs hp hW hg hr => ?_⟩
  have hc : cargs = #[.slice none 0 0, .int .i64 n] := by
    obtain ⟨u, us, e0, r1, hr⟩ := rels_cons.1 hr
    obtain ⟨u', us', e1, r2, hr⟩ := rels_cons.1 hr
    have e2 := rels_nil.1 hr
    subst e2 e1
    rw [rel_x.1 r1, rel_x.1 r2] at e0
    apply Array.ext'
    rw [e0]
  subst hc
  refine (grow_walk n E.w h1 h2).mono ?_
  rintro e w' ⟨rfl, rfl⟩
  have hge := grownCap_ge E.w n 0 62
  have hle := grownCap_le_maxLen E.w n 0 62 (by simp only [maxLen]; omega)
  generalize grownCap E.w n 0 62 = c at *
  have hgr : E.w.grownBy (E.w.alloc (.cells (gwC n c) 62)).drew (some E.w.heap.size) := ⟨rfl, rfl, rfl, by simp, fun k hk _ => heap_alloc_old E.w _ hk⟩
  have hnew : (E.w.alloc (.cells (gwC n c) 62)).drew.heap[E.w.heap.size]? = some (.cells (gwC n c) 62 (0, 0)) := heap_alloc_new E.w _
  have hO : E.O 0 = none := hp.1 0 (Nat.le_refl _)
  refine ⟨_, E.row _ 0 E.w.heap.size (c, 0), rfl, rfl, hW.row hgr (Array.getElem?_eq_some_iff.1 hnew).1 (Or.inr (Nat.le_refl _)) (Or.inr (Nat.le_refl _)) (Or.inl hO) rfl (fun k hk b cc hb => ?_) ⟨gwC n c, hnew, gwC_size n c hge, rfl, Nat.zero_le _, hle, fun i hi => absurd hi (Nat.not_lt_zero i)⟩, rel_osl.2 (Or.inr ⟨E.w.heap.size, c, 0, by simp [Env.row], Nat.le_refl _, Nat.zero_le _, by simp⟩)⟩
  rw [hp.1 k (Nat.zero_le _)] at hb; cases hb
end Go.Proofs.YtancjnambbkhmaaGreat.Hs.So

namespace Go.Proofs.YtancjnambbkhmaaGreat.Hs.So
open Go.Gv
open Go.Ev (cn fadd fsub fmul fdiv fsqrt fneg feq flt fle fgt fge fabs isNan key flt_key fgt_key feq_key)

noncomputable def gwE : MEntry := mN Tryz.prog 151 (fun _ => .osl 0 6 0 0) (fun _ => [.a 62 6 0 (elX fun _ => dS)])
noncomputable def gwB (n : Int) : Bool := (propB (GSpec Tryz.prog 151 [.x (.slice none 0 0), iA n] [] (.osl 0 6 0 0) [.a 62 6 0 (elX fun _ => dS)]) && true) || false
def acB (n m : Nat) : Bool := ((n == n) && (Nat.blt 0 m && (allB m (fun _ => true) && Nat.ble ((n + m) * 48) 140737488355328))) || false
def xE (p : Option Addr) (c : Nat) : AV := .x (.slice p 0 c)
section
variable (A B : List Spn) (p p' : Option Addr) (c c' : Nat)
noncomputable def ccZ (a b : Int) (o : Option Out) : Option Out := cond (decide (w64 (0 + a) < 0)) none (cond (decide (w64 (w64 (0 + a) + b) < 0)) none (cond (gwB (w64 (w64 (0 + a) + b))) o none))
theorem cc_ev2 : evG Tryz.prog [] [] [gwE] noL Tryz.f129 [.sl 1 2 (chunk [slL A, slL B] 1)] [] [some 2] = ccZ A.length B.length (cond (acB 0 A.length) (cond (acB (0 + A.length) B.length) (gout (.osl 0 6 0 (0 + A.length + B.length)) [.a 62 6 (0 + A.length + B.length) fun q => mixL (Nat.blt q (0 + A.length)) (mixL (Nat.blt q 0) dS.c (elL A (q - 0))) (elL B (q - (0 + A.length)))]) none) none) := by kernel_rfl
theorem cc_evB : evG Tryz.prog [] [] [gwE] noL Tryz.f129 [.sl 1 2 (chunk [xE p c, slL B] 1)] [] [some 1] = ccZ ((0 : Nat) : Int) B.length (cond (acB 0 B.length) (gout (.osl 0 6 0 (0 + B.length)) [.a 62 6 (0 + B.length) fun q => mixL (Nat.blt q 0) dS.c (elL B (q - 0))]) none) := by kernel_rfl
theorem cc_evA : evG Tryz.prog [] [] [gwE] noL Tryz.f129 [.sl 1 2 (chunk [slL A, xE p c] 1)] [] [some 1] = ccZ A.length ((0 : Nat) : Int) (cond (acB 0 A.length) (gout (.osl 0 6 0 (0 + A.length)) [.a 62 6 (0 + A.length) fun q => mixL (Nat.blt q 0) dS.c (elL A (q - 0))]) none) := by kernel_rfl
theorem cc_ev0 : evM Tryz.prog [⟨151, fun _ => some (.x (.slice none 0 0))⟩] [] [] noL Tryz.f129 [.sl 1 2 (chunk [xE p c, xE p' c'] 1)] ret = some (Out.of (.x (.slice none 0 0))) := by kernel_rfl
end
end Go.Proofs.YtancjnambbkhmaaGreat.Hs.So

namespace Go.Proofs.YtancjnambbkhmaaGreat.Hs.So
open Go.Gv
open Go.Ev (cn fadd fsub fmul fdiv fsqrt fneg feq flt fle fgt fge fabs isNan key flt_key fgt_key feq_key)

def exR (n : Nat) (X : Nat → Spn) (i : Int) (m : Nat) (el : Nat → List AV) : St := mkS 57 [(6, .osl 1 6 0 m), (16, .osl 0 6 0 n), (17, iA n), (18, iA i)] [.a 62 6 n (elX X), .a 62 6 m el]
def exS (n : Nat) (X : Nat → Spn) (i : Int) (R : List Spn) : St := exR n X i R.length (elL R)
def keepEx : List Nat := [6, 16, 17, 18]
def lastI (m : Nat) : Int := w64 ((m : Int) - 1)
def gF (b : Bool) : Bool := !(decide (b = false) && true)
section
variable (lf : Crs → Crs → Crs) (n : Nat) (X : Nat → Spn) (i : Int) (R : List Spn)
def exG : Bool := (ixB (lastI R.length) R.length || gF (decide (lastI R.length < 0))) && ((Nat.blt (0 + (lastI R.length).toNat) R.length || gF (decide (lastI R.length < 0))) && true)
def exT (s : Spn) : Bool := cond (decide (lastI R.length < 0)) true (fgt s.i.t (gtL R (0 + (lastI R.length).toNat)).o.t)
def exW : Bool := (ixB (lastI R.length) R.length || false) && ((bl' (lastI R.length) R.length) && ((ixB (lastI R.length) R.length || false) && ((bl' (lastI R.length) R.length) && true)))
def exC (o o' oe : Option Out) : Option Out := cond (decide (i < n)) (cond (ixB i n || false) (cond (bl' i n) (cond (exG R) (cond (exT R (X (0 + i.toNat))) (cond (apB R.length 48 || false) o none) (cond (exW R) o' none)) none) none) none) oe
theorem ex_app : evCM Tryz.prog [⟨127, eCC fun a b => (lf a b).v⟩] [] [] noL (loopAt Tryz.f109 0) (exS n X i R) (finS 5 keepEx [some 0, some 4]) = exC n X i R (some ⟨.normal, exR n X (w64 (i + 1)) (R.length + 1) fun q => mixL (Nat.blt q R.length) (elL R q) (X (0 + i.toNat)).c, .any⟩) none none := by kernel_rfl
theorem ex_upd : evCM Tryz.prog [⟨127, eCC fun a b => (lf a b).v⟩] [] [] noL (loopAt Tryz.f109 0) (exS n X i R) (finS 3 keepEx [some 0, some 1]) = exC n X i R none (some ⟨.normal, exR n X (w64 (i + 1)) R.length fun q => mixL (q == 0 + (lastI R.length).toNat) (⟨(gtL R (0 + (lastI R.length).toNat)).i, lf (gtL R (0 + (lastI R.length).toNat)).o (X (0 + i.toNat)).o⟩ : Spn).c (elL R q), .any⟩) none := by kernel_rfl
theorem ex_end : evCM Tryz.prog [⟨127, eCC fun a b => (lf a b).v⟩] [] [] noL (loopAt Tryz.f109 0) (exS n X i R) (finE keepEx [some 0, some 1]) = exC n X i R none none (some ⟨.exit 0, exS n X i R, .any⟩) := by kernel_rfl
end
def bornS : MEntry := ⟨bornK 137, fun _ _ _ => none, none⟩
theorem bornS_ok : MEOk Tryz.prog bornS := ⟨⟨fun _ _ _ _ h => (by cases h), fun _ _ _ _ _ _ h => (by cases h)⟩, fun _ h => (by cases h)⟩
section
variable (lf : Crs → Crs → Crs) (G : SH2) (x y : AV) (A B C R : List Spn)
noncomputable def ccE (C : List Spn) : MEntry := mN Tryz.prog 129 (fun _ => .osl 0 6 0 C.length) (fun _ => [roL C])
noncomputable def ccB (x y : AV) (C : List Spn) : Bool := (propB (GSpec Tryz.prog 129 [.sl 1 2 (chunk [x, y] 1)] [] (.osl 0 6 0 C.length) [roL C]) && true) || false
noncomputable def eiL (n : Nat) (X : Nat → Spn) (R : List Spn) : Nat → Option LFun := oneL 5 (toldN keepEx [(6, 1, 6)] (roL []) [some 0, none] (exS n X 0 []) (.exit 0) (exS n X n R))
noncomputable def eiZ (o : Option Out) : Option Out := cond (ccB x y C) (cond (mtB 130 G C.length (gtL C) [clF]) (gate (Sub (exS C.length (G C.length (elL C)) 0 []) (exS C.length (G C.length (elL C)) 0 [])) o) none) none
theorem ei_ev2 : evM Tryz.prog [⟨127, eCC fun a b => (lf a b).v⟩] [] [bornS, ccE C, mSt 130 G] (eiL C.length (G C.length (elL C)) R) Tryz.f109 [slL A, slL B] ret = eiZ G (slL A) (slL B) C (some (Out.of (.sl 6 R.length fun q => elL R (0 + q)))) := by kernel_rfl
theorem ei_evB (p : Option Addr) (c : Nat) : evM Tryz.prog [⟨127, eCC fun a b => (lf a b).v⟩] [] [bornS, ccE C, mSt 130 G] (eiL C.length (G C.length (elL C)) R) Tryz.f109 [xE p c, slL B] ret = eiZ G (xE p c) (slL B) C (some (Out.of (.sl 6 R.length fun q => elL R (0 + q)))) := by kernel_rfl
theorem ei_evA (p : Option Addr) (c : Nat) : evM Tryz.prog [⟨127, eCC fun a b => (lf a b).v⟩] [] [bornS, ccE C, mSt 130 G] (eiL C.length (G C.length (elL C)) R) Tryz.f109 [slL A, xE p c] ret = eiZ G (slL A) (xE p c) C (some (Out.of (.sl 6 R.length fun q => elL R (0 + q)))) := by kernel_rfl
theorem ei_ev0 (p p' : Option Addr) (c c' : Nat) : evM Tryz.prog [] [kS Tryz.prog 129 fun _ => .x (.slice none 0 0), kS Tryz.prog 130 fun _ => .tup []] [bornS] noL Tryz.f109 [xE p c, xE p' c'] ret = gate (FSpec Tryz.prog 129 [.sl 1 2 (chunk [xE p c, xE p' c'] 1)] (.x (.slice none 0 0))) (gate (FSpec Tryz.prog 130 [.x (.slice none 0 0), clF] (.tup [])) (some (Out.of (.x (.slice none 0 0))))) := by kernel_rfl
end
end Go.Proofs.YtancjnambbkhmaaGreat.Hs.So

namespace Go.Proofs.YtancjnambbkhmaaGreat.Hs.So
open Go.Gv
open Go.Ev (cn fadd fsub fmul fdiv fsqrt fneg feq flt fle fgt fge fabs isNan key flt_key fgt_key feq_key)

theorem mixL_no (L : List Spn) (q q' : Nat) : mixL (Nat.blt q 0) dS.c (elL L q') = elL L q' := by
  unfold elL
  rw [mix_c]; rfl
theorem gw_t {n : Int} {m : Nat} (e : n = (m : Nat)) (h0 : 0 < m) (h : m ≤ 1000) : gwB n = true := by
  subst e
  unfold gwB
  rw [propB_t (grow_spec m h0 h _)]; rfl
theorem ac_t {n m : Nat} (h0 : 0 < m) (h : n + m ≤ 1000) : acB n m = true := by
  unfold acB
  rw [BEq.rfl, blt_t h0, allB_true fun _ _ => rfl, ble_t (by omega)]; rfl
theorem ccZ_t {a b : Nat} (h0 : 0 < a + b) (h : a + b ≤ 1000) (o : Option Out) : ccZ (a : Nat) (b : Nat) o = o := by
  unfold ccZ
  have e1 : w64 (0 + (a : Int)) = (a : Nat) := by rw [Int.zero_add, w64_id (by omega) (by omega)]
  have e2 : w64 ((a : Int) + (b : Int)) = ((a + b : Nat) : Int) := by rw [w64_id (by omega) (by omega)]; omega
  rw [e1, e2, decide_eq_false (show ¬ ((a : Nat) : Int) < 0 by omega), decide_eq_false (show ¬ ((a + b : Nat) : Int) < 0 by omega), gw_t rfl h0 h]
  rfl
theorem gt_left {A B : List Spn} {q : Nat} (h : q < A.length) : gtL (A ++ B) q = gtL A q := by
  unfold gtL
  rw [List.getD_eq_getElem?_getD, List.getD_eq_getElem?_getD, List.getElem?_append_left h]
theorem gt_right {A B : List Spn} {q : Nat} (h : A.length ≤ q) : gtL (A ++ B) q = gtL B (q - A.length) := by
  unfold gtL
  rw [List.getD_eq_getElem?_getD, List.getD_eq_getElem?_getD, List.getElem?_append_right h]
theorem gwE_ok : MEOk Tryz.prog gwE := mN_ok
theorem cc_spec2 {A B : List Spn} (hA : 0 < A.length) (hB : 0 < B.length) (h : A.length + B.length ≤ 1000) : GSpec Tryz.prog 129 [.sl 1 2 (chunk [slL A, slL B] 1)] [] (.osl 0 6 0 (A ++ B).length) [roL (A ++ B)] := by
  have h1 : GSpec Tryz.prog 129 [.sl 1 2 (chunk [slL A, slL B] 1)] [] (.osl 0 6 0 (0 + A.length + B.length)) [.a 62 6 (0 + A.length + B.length) fun q => mixL (Nat.blt q (0 + A.length)) (mixL (Nat.blt q 0) dS.c (elL A (q - 0))) (elL B (q - (0 + A.length)))] := by
    refine gspecG (mem := []) e_nil k_nil (m_cons gwE_ok m_nil) Tryz.func129 (by kernel_rfl) (by kernel_rfl) noL_ok rfl (by kernel_rfl) ((cc_ev2 A B).trans ?_)
    rw [ccZ_t (by omega) h, ac_t hA (by omega), ac_t hB (by omega)]; rfl
  have e : 0 + A.length + B.length = (A ++ B).length := by rw [List.length_append]; omega
  rw [e] at h1
  refine h1.of_rows ⟨Or.inr ⟨62, 6, (A ++ B).length, _, _, rfl, rfl, fun q hq => ?_⟩, trivial⟩
  show elL (A ++ B) q = _
  rw [mixL_no, Nat.zero_add, Nat.sub_zero]
  show (gtL (A ++ B) q).c = mixL (Nat.blt q A.length) (gtL A q).c (gtL B (q - A.length)).c
  rw [mix_c]
  cases hb : Nat.blt q A.length
  · rw [gt_right (not_blt hb)]; rfl
  · rw [gt_left (Nat.le_of_ble_eq_true hb)]; rfl
theorem cc_specB {B : List Spn} (hB : 0 < B.length) (h : B.length ≤ 1000) (p : Option Addr) (c : Nat) : GSpec Tryz.prog 129 [.sl 1 2 (chunk [xE p c, slL B] 1)] [] (.osl 0 6 0 B.length) [roL B] := by
  have h1 : GSpec Tryz.prog 129 [.sl 1 2 (chunk [xE p c, slL B] 1)] [] (.osl 0 6 0 (0 + B.length)) [.a 62 6 (0 + B.length) fun q => mixL (Nat.blt q 0) dS.c (elL B (q - 0))] := by
    refine gspecG (mem := []) e_nil k_nil (m_cons gwE_ok m_nil) Tryz.func129 (by kernel_rfl) (by kernel_rfl) noL_ok rfl (by kernel_rfl) ((cc_evB B p c).trans ?_)
    rw [ccZ_t (by omega) (by omega), ac_t hB (by omega)]; rfl
  rw [Nat.zero_add] at h1
  refine h1.of_rows ⟨Or.inr ⟨62, 6, B.length, _, _, rfl, rfl, fun q hq => ?_⟩, trivial⟩
  show elL B q = _
  rw [mixL_no, Nat.sub_zero]
theorem cc_specA {A : List Spn} (hA : 0 < A.length) (h : A.length ≤ 1000) (p : Option Addr) (c : Nat) : GSpec Tryz.prog 129 [.sl 1 2 (chunk [slL A, xE p c] 1)] [] (.osl 0 6 0 A.length) [roL A] := by
  have h1 : GSpec Tryz.prog 129 [.sl 1 2 (chunk [slL A, xE p c] 1)] [] (.osl 0 6 0 (0 + A.length)) [.a 62 6 (0 + A.length) fun q => mixL (Nat.blt q 0) dS.c (elL A (q - 0))] := by
    refine gspecG (mem := []) e_nil k_nil (m_cons gwE_ok m_nil) Tryz.func129 (by kernel_rfl) (by kernel_rfl) noL_ok rfl (by kernel_rfl) ((cc_evA A p c).trans ?_)
    rw [ccZ_t (by omega) (by omega), ac_t hA (by omega)]; rfl
  rw [Nat.zero_add] at h1
  refine h1.of_rows ⟨Or.inr ⟨62, 6, A.length, _, _, rfl, rfl, fun q hq => ?_⟩, trivial⟩
  show elL A q = _
  rw [mixL_no, Nat.sub_zero]
/-! ### Nothing at all -/
set_option maxHeartbeats 1600000 in
set_option maxRecDepth 1000000 in
theorem grow_walk0 (w : World) : Calls Tryz.prog 151 #[.slice none 0 0, .int .i64 0] w fun e w' => e = .returned (.slice none 0 0) ∧ w' = w := by
  go_enter Tryz.func151, Tryz.ntmps151
  go_wp2
  go_ret
  exact ⟨rfl, rfl⟩
theorem grow_spec0 : FSpec Tryz.prog 151 [.x (.slice none 0 0), iA 0] (.x (.slice none 0 0)) := by
  refine ⟨⟨Tryz.f151, Tryz.func151, by kernel_rfl, by kernel_rfl⟩, fun A w cargs hA hr hg => ?_⟩
  have hc : cargs = #[.slice none 0 0, .int .i64 0] := by
    obtain ⟨u, us, e0, r1, hr⟩ := rels_cons.1 hr
    obtain ⟨u', us', e1, r2, hr⟩ := rels_cons.1 hr
    have e2 := rels_nil.1 hr
    subst e2 e1
    rw [rel_x.1 r1, rel_x.1 r2] at e0
    apply Array.ext'
    rw [e0]
  subst hc
  refine (grow_walk0 w).mono ?_
  rintro e w' ⟨rfl, rfl⟩
  exact ⟨_, rfl, rel_x.2 rfl, rfl, rfl, rfl, Nat.le_refl _, fun _ _ => rfl⟩
theorem cc_ev00 (p p' : Option Addr) (c c' : Nat) : ev Tryz.prog [] [kS Tryz.prog 151 fun _ => .x (.slice none 0 0)] noL Tryz.f129 [.sl 1 2 (chunk [xE p c, xE p' c'] 1)] ret = gate (FSpec Tryz.prog 151 [.x (.slice none 0 0), iA 0] (.x (.slice none 0 0))) (some (Out.of (.x (.slice none 0 0)))) := by kernel_rfl
theorem cc_spec0 (p p' : Option Addr) (c c' : Nat) : FSpec Tryz.prog 129 [.sl 1 2 (chunk [xE p c, xE p' c'] 1)] (.x (.slice none 0 0)) :=
  gspec e_nil (k_cons kS_ok k_nil) Tryz.func129 (by kernel_rfl) (by kernel_rfl) noL_ok rfl ((cc_ev00 p p' c c').trans (gate_pos grow_spec0))
theorem is0_ev : ev Tryz.prog [] [] noL Tryz.f165 [.x (.slice none 0 0), iA 0, iA ((0 : Nat) : Int), clF] ret = some (Out.of (.tup [])) := by kernel_rfl
theorem st0_ev : ev Tryz.prog [] [kS Tryz.prog 165 fun _ => .tup []] noL Tryz.f152 [.x (.slice none 0 0), iA ((0 : Nat) : Int), clF] ret = gate (FSpec Tryz.prog 165 [.x (.slice none 0 0), iA 0, iA ((0 : Nat) : Int), clF] (.tup [])) (some (Out.of (.tup []))) := by kernel_rfl
theorem so0_ev : ev Tryz.prog [] [kS Tryz.prog 152 fun _ => .tup []] noL Tryz.f130 [.x (.slice none 0 0), clF] ret = gate (FSpec Tryz.prog 152 [.x (.slice none 0 0), iA ((0 : Nat) : Int), clF] (.tup [])) (some (Out.of (.tup []))) := by kernel_rfl
theorem so_spec0 : FSpec Tryz.prog 130 [.x (.slice none 0 0), clF] (.tup []) := by
  have h1 : FSpec Tryz.prog 165 [.x (.slice none 0 0), iA 0, iA ((0 : Nat) : Int), clF] (.tup []) := gspec e_nil k_nil Tryz.func165 (by kernel_rfl) (by kernel_rfl) noL_ok rfl is0_ev
  have h2 : FSpec Tryz.prog 152 [.x (.slice none 0 0), iA ((0 : Nat) : Int), clF] (.tup []) := gspec e_nil (k_cons kS_ok k_nil) Tryz.func152 (by kernel_rfl) (by kernel_rfl) noL_ok rfl (st0_ev.trans (gate_pos h1))
  exact gspec e_nil (k_cons kS_ok k_nil) Tryz.func130 (by kernel_rfl) (by kernel_rfl) noL_ok rfl (so0_ev.trans (gate_pos h2))
/-! ### The loop -/
theorem lastI_pos {m : Nat} (h0 : 0 < m) (h : m ≤ 1000) : lastI m = ((m - 1 : Nat) : Int) := by unfold lastI; rw [w64_id (by omega) (by omega)]; omega
theorem lastI_zero : lastI 0 = -1 := by decide
theorem exG_t {R : List Spn} (h : R.length ≤ 1000) : exG R = true := by
  unfold exG gF
  by_cases h0 : R.length = 0
  · rw [h0, lastI_zero]; rfl
  · rw [lastI_pos (by omega) h, ixB_t (by omega), Int.toNat_natCast, Nat.zero_add, blt_t (by omega)]; rfl
theorem exT_eq {R : List Spn} (h : R.length ≤ 1000) (s : Spn) : exT R s = ((R.length == 0) || fgt s.i.t (lastS R).o.t) := by
  unfold exT
  by_cases h0 : R.length = 0
  · rw [h0, lastI_zero]; rfl
  · rw [lastI_pos (by omega) h, decide_eq_false (by omega), cond_false, beq_false_of_ne h0, Bool.false_or, Int.toNat_natCast, Nat.zero_add]
    rfl
theorem exW_t {R : List Spn} (h0 : 0 < R.length) (h : R.length ≤ 1000) : exW R = true := by
  unfold exW bl'
  rw [lastI_pos h0 h, ixB_t (by omega), Int.toNat_natCast, Nat.zero_add, blt_t (by omega)]; rfl
theorem swp_len (R : List Spn) (s : Spn) : (swp R s).length ≤ R.length + 1 := by
  unfold swp
  cases (R.length == 0) || fgt s.i.t (lastS R).o.t
  · rw [cond_false, List.length_set]; omega
  · rw [cond_true, List.length_append]; exact Nat.le_refl _
def swF (M : List Spn) (k : Nat) : List Spn := (M.take k).foldl swp []
theorem swF_succ {M : List Spn} {k : Nat} (hk : k < M.length) : swF M (k + 1) = swp (swF M k) (gtL M k) := by
  unfold swF
  rw [take_succ' hk, List.foldl_append]; rfl
theorem swF_len (M : List Spn) : ∀ k, k ≤ M.length → (swF M k).length ≤ k
  | 0, _ => Nat.le_refl _
  | k + 1, hk => by
    rw [swF_succ (by omega)]
    have := swp_len (swF M k) (gtL M k)
    have := swF_len M k (by omega)
    omega
theorem eL_ok : ∀ e, e ∈ [(⟨127, eCC fun a b => (lateS a b).v⟩ : Entry)] → EOk Tryz.prog e := e_cons (eCC_ok slate) e_nil
theorem finS_sub (n : Nat) (keep : List Nat) (τ : List (Option Nat)) : KSub (finS n keep τ) := fun e s r h => by
  unfold finS at h
  cases hb : Nat.beq s.mem.length n
  · rw [hb] at h; cases h
  · rw [hb] at h; exact finN_sub keep τ e s r h
theorem ex_leads {M : List Spn} (hM : M.length ≤ 900) : Leads Tryz.prog (.loop (loopAt Tryz.f109 0)) (exS M.length (gtL M) 0 []) (.exit 0) (exS M.length (gtL M) M.length (M.foldl swp [])) := by
  have h : Leads Tryz.prog (.loop (loopAt Tryz.f109 0)) (exS M.length (gtL M) (0 : Nat) (swF M 0)) (.exit 0) (exS M.length (gtL M) (M.length : Nat) (swF M M.length)) := by
    refine loop_rule (fun k => exS M.length (gtL M) (k : Nat) (swF M k)) M.length (.exit 0) _ (by simp) (fun k hk => ?_) ?_
    · have hl := swF_len M k (by omega)
      show Leads Tryz.prog _ (exS M.length (gtL M) (k : Nat) (swF M k)) .normal (exS M.length (gtL M) ((k + 1 : Nat) : Int) (swF M (k + 1)))
      rw [swF_succ hk]
      generalize swF M k = R at hl
      cases ht : (R.length == 0) || fgt (gtL M k).i.t (lastS R).o.t
      · have h0 : 0 < R.length := by
          have := (Bool.or_eq_false_iff.1 ht).1
          have : R.length ≠ 0 := fun e => by rw [e] at this; cases this
          omega
        have es : swp R (gtL M k) = R.set (R.length - 1) ⟨(lastS R).i, lateS (lastS R).o (gtL M k).o⟩ := by unfold swp; rw [ht]; rfl
        have st := ex_upd lateS M.length (gtL M) (k : Nat) R
        unfold exC at st
        unfold bl' at st
        rw [dec_lt hk, ixB_t hk, Int.toNat_natCast, Nat.zero_add, blt_t hk, exG_t (by omega), exT_eq (by omega), ht, exW_t h0 (by omega), w64_next (by omega), lastI_pos h0 (by omega), Int.toNat_natCast, Nat.zero_add] at st
        refine (leads_evM (finS_sub 3 keepEx [some 0, some 1]) eL_ok k_nil m_nil noL_ok st).sub (Sub.refl _) ?_
        rw [es]
        unfold exS
        rw [List.length_set]
        refine sub_same ⟨Or.inl rfl, Or.inr ⟨62, 6, R.length, _, _, rfl, rfl, fun q hq => ?_⟩, trivial⟩
        show (gtL (R.set (R.length - 1) _) q).c = mixL (q == R.length - 1) _ (gtL R q).c
        rw [mix_c]
        refine congrArg Spn.c ?_
        show (R.set (R.length - 1) _).getD q dS = cond (q == R.length - 1) ⟨(lastS R).i, lateS (lastS R).o (gtL M k).o⟩ (R.getD q dS)
        rw [List.getD_eq_getElem?_getD, List.getD_eq_getElem?_getD, List.getElem?_set]
        by_cases e : q = R.length - 1
        · subst e
          rw [BEq.rfl, if_pos rfl, if_pos (by omega)]; rfl
        · rw [beq_false_of_ne e, if_neg (fun h => e h.symm)]; rfl
      · have es : swp R (gtL M k) = R ++ [gtL M k] := by unfold swp; rw [ht]; rfl
        have st := ex_app lateS M.length (gtL M) (k : Nat) R
        unfold exC at st
        unfold bl' at st
        rw [dec_lt hk, ixB_t hk, Int.toNat_natCast, Nat.zero_add, blt_t hk, exG_t (by omega), exT_eq (by omega), ht, apB_t (by omega), w64_next (by omega)] at st
        refine (leads_evM (finS_sub 5 keepEx [some 0, some 4]) eL_ok k_nil m_nil noL_ok st).sub (Sub.refl _) ?_
        rw [es]
        unfold exS
        have hl1 : (R ++ [gtL M k]).length = R.length + 1 := by rw [List.length_append]; rfl
        rw [hl1]
        refine sub_same ⟨Or.inl rfl, Or.inr ⟨62, 6, R.length + 1, _, _, rfl, rfl, fun q hq => ?_⟩, trivial⟩
        exact (elL_app R _ hq).symm
    · refine leads_evM (finE_sub keepEx [some 0, some 1]) eL_ok k_nil m_nil noL_ok ((ex_end lateS M.length (gtL M) (M.length : Nat) (swF M M.length)).trans ?_)
      unfold exC
      rw [dec_self, cond_false]
  have e1 : swF M M.length = M.foldl swp [] := by unfold swF; rw [List.take_length]
  rw [e1] at h
  exact h
end Go.Proofs.YtancjnambbkhmaaGreat.Hs.So

namespace Go.Proofs.YtancjnambbkhmaaGreat.Hs.So
open Go.Ev (flt fle fgt fge isNan key)

/-- What a solid's parts are made of, in plain words: Op, Left, Right, a leaf's row. -/
structure Pl where
  op : Nat → Int
  l : Nat → Nat
  r : Nat → Nat
  lf : Nat → List Spn
def rowV (o : Int) (L A B : List Spn) : List Spn := cond (o == 0) L (cond (o == 1) (bothL A B) (cond (o == 2) (eitherL A B) (lessL A B)))
/-- The rows of the first parts. -/
def rwF (p : Pl) : Nat → Nat → List Spn
  | 0 => fun _ => []
  | k + 1 => fun q => if q = k then rowV (p.op k) (p.lf k) (rwF p k (p.l k)) (rwF p k (p.r k)) else rwF p k q
structure PlOk (p : Pl) (n : Nat) : Prop where
  kids : ∀ j, j < n → p.op j = 0 ∨ (p.op j ≠ 0 ∧ p.l j < j ∧ p.r j < j)
  leaf : ∀ j, j < n → p.op j = 0 → p.lf j = [] ∨ ∃ s, p.lf j = [s] ∧ Gd s
def leD (p : Pl) (j : Nat) : List Nat := cond (p.op j == 0) (endsL (p.lf j)) []
def DE (p : Pl) : Nat → List Nat
  | 0 => []
  | k + 1 => leD p k ++ DE p k
def DN (p : Pl) : Nat → List Nat
  | 0 => []
  | k + 1 => cond (p.op k == 0) (DN p k) (leD p (p.l k) ++ (leD p (p.r k) ++ DN p k))
theorem lf_ris {p : Pl} {n j : Nat} (h : PlOk p n) (hj : j < n) (h0 : p.op j = 0) : Ris (p.lf j) ∧ (p.lf j).length ≤ 1 := by
  rcases h.leaf j hj h0 with e | ⟨s, e, g⟩ <;> rw [e]
  · exact ⟨ris_nil, Nat.zero_le _⟩
  · exact ⟨ris_one g, Nat.le_refl _⟩
theorem leD_len {p : Pl} {n j : Nat} (h : PlOk p n) (hj : j < n) : (leD p j).length ≤ 2 := by
  unfold leD
  cases e : p.op j == 0
  · exact Nat.zero_le _
  · rw [cond_true, ends_len]
    have := (lf_ris h hj (by simpa using e)).2
    omega
theorem D_len {p : Pl} {n : Nat} (h : PlOk p n) : ∀ k, k ≤ n → ∃ c, c ≤ k ∧ (DE p k).length ≤ 2 * c ∧ (DN p k).length ≤ 4 * (k - c)
  | 0, _ => ⟨0, Nat.le_refl _, Nat.le_refl _, Nat.le_refl _⟩
  | k + 1, hk => by
    obtain ⟨c, h1, h2, h3⟩ := D_len h k (by omega)
    rcases h.kids k (by omega) with e | ⟨e, hl, hr⟩
    · refine ⟨c + 1, by omega, ?_, ?_⟩
      · show (leD p k ++ DE p k).length ≤ _
        have := leD_len h (j := k) (by omega)
        rw [List.length_append]; omega
      · show (cond (p.op k == 0) (DN p k) _).length ≤ _
        rw [show (p.op k == 0) = true by rw [e]; rfl, cond_true]; omega
    · refine ⟨c, by omega, ?_, ?_⟩
      · show (leD p k ++ DE p k).length ≤ _
        unfold leD
        rw [beq_false_of_ne e, cond_false, List.nil_append]; exact h2
      · show (cond (p.op k == 0) (DN p k) _).length ≤ _
        have := leD_len h (j := p.l k) (by omega)
        have := leD_len h (j := p.r k) (by omega)
        rw [beq_false_of_ne e, cond_false, List.length_append, List.length_append]; omega
theorem fr_ends (L : List Spn) : Fr (· ∈ endsL L) L := fun s hs => ⟨List.mem_flatMap.2 ⟨s, hs, List.mem_cons_self⟩, List.mem_flatMap.2 ⟨s, hs, List.mem_cons_of_mem _ List.mem_cons_self⟩⟩
theorem Fr.mono {D E : Nat → Prop} {L : List Spn} (h : Fr D L) (g : ∀ x, D x → E x) : Fr E L := fun s hs => ⟨g _ (h s hs).1, g _ (h s hs).2⟩
theorem fr_row {D : Nat → Prop} {o : Int} {L A B : List Spn} (h0 : o ≠ 0) (hA : Fr D A) (hB : Fr D B) : Fr D (rowV o L A B) := by
  unfold rowV
  rw [beq_false_of_ne h0, cond_false]
  cases o == 1
  · cases o == 2
    · exact fr_less hA hB
    · exact fr_either hA hB
  · exact fr_both hA hB
theorem ris_row {o : Int} {L A B : List Spn} (h0 : o ≠ 0) (hA : Ris A) (hB : Ris B) : Ris (rowV o L A B) := by
  unfold rowV
  rw [beq_false_of_ne h0, cond_false]
  cases o == 1
  · cases o == 2
    · exact less_ris hA hB
    · exact either_ris hA hB
  · exact both_ris hA hB
structure RwOk (p : Pl) (k q : Nat) : Prop where
  ris : Ris (rwF p k q)
  de : Fr (· ∈ DE p k) (rwF p k q)
  lf : p.op q = 0 → rwF p k q = p.lf q
  dn : p.op q ≠ 0 → Fr (· ∈ DN p k) (rwF p k q)
theorem dn_mono {p : Pl} {k x : Nat} (h : x ∈ DN p k) : x ∈ DN p (k + 1) := by
  show x ∈ cond (p.op k == 0) (DN p k) (leD p (p.l k) ++ (leD p (p.r k) ++ DN p k))
  cases p.op k == 0
  · exact List.mem_append_right _ (List.mem_append_right _ h)
  · exact h
theorem rw_ok {p : Pl} {n : Nat} (h : PlOk p n) : ∀ k, k ≤ n → ∀ q, q < k → RwOk p k q
  | 0, _, q, hq => absurd hq (Nat.not_lt_zero q)
  | k + 1, hk, q, hq => by
    have ih := rw_ok h k (by omega)
    have em : ∀ x, x ∈ DE p k → x ∈ DE p (k + 1) := fun x hx => List.mem_append_right _ hx
    by_cases e : q = k
    · subst e
      have er : rwF p (q + 1) q = rowV (p.op q) (p.lf q) (rwF p q (p.l q)) (rwF p q (p.r q)) := if_pos rfl
      rcases h.kids q (by omega) with h0 | ⟨h0, hl, hr⟩
      · have er : rwF p (q + 1) q = p.lf q := by rw [er]; unfold rowV; rw [h0]; rfl
        refine ⟨by rw [er]; exact (lf_ris h (by omega) h0).1, ?_, fun _ => er, fun hn => absurd h0 hn⟩
        rw [er]
        refine (fr_ends _).mono fun x hx => List.mem_append_left _ ?_
        unfold leD
        rw [h0]; exact hx
      · have il := ih (p.l q) hl
        have ir := ih (p.r q) hr
        refine ⟨by rw [er]; exact ris_row h0 il.ris ir.ris, by rw [er]; exact (fr_row h0 il.de ir.de).mono em, fun hz => absurd hz h0, fun _ => ?_⟩
        rw [er]
        have eD : DN p (q + 1) = leD p (p.l q) ++ (leD p (p.r q) ++ DN p q) := by
          show cond (p.op q == 0) (DN p q) _ = _
          rw [beq_false_of_ne h0]; rfl
        refine fr_row h0 ?_ ?_
        · by_cases hz : p.op (p.l q) = 0
          · rw [il.lf hz, eD]
            refine (fr_ends _).mono fun x hx => List.mem_append_left _ ?_
            unfold leD
            rw [hz]; exact hx
          · exact (il.dn hz).mono fun x hx => dn_mono hx
        · by_cases hz : p.op (p.r q) = 0
          · rw [ir.lf hz, eD]
            refine (fr_ends _).mono fun x hx => List.mem_append_right _ (List.mem_append_left _ ?_)
            unfold leD
            rw [hz]; exact hx
          · exact (ir.dn hz).mono fun x hx => dn_mono hx
    · have er : rwF p (k + 1) q = rwF p k q := if_neg e
      have i := ih q (by omega)
      exact ⟨by rw [er]; exact i.ris, by rw [er]; exact i.de.mono em, fun hz => by rw [er]; exact i.lf hz, fun hn => by rw [er]; exact (i.dn hn).mono fun x hx => dn_mono hx⟩
/-- Ahead of the sixteenth part no row has more than ten spans. -/
theorem rw_len {p : Pl} {n k q : Nat} (h : PlOk p n) (hk : k ≤ n) (hq : q < k) (h15 : k ≤ 15) : (rwF p k q).length ≤ 10 := by
  have i := rw_ok h k hk q hq
  by_cases h0 : p.op q = 0
  · rw [i.lf h0]
    have := (lf_ris h (by omega) h0).2
    omega
  · obtain ⟨c, h1, h2, h3⟩ := D_len h k hk
    have := ris_len i.ris i.de
    have := ris_len i.ris (i.dn h0)
    omega
/-- No row has more spans than there are parts. -/
theorem rw_len' {p : Pl} {n k q : Nat} (h : PlOk p n) (hk : k ≤ n) (hq : q < k) : (rwF p k q).length ≤ k := by
  have i := rw_ok h k hk q hq
  obtain ⟨c, h1, h2, h3⟩ := D_len h k hk
  have := ris_len i.ris i.de
  omega
theorem rwF_keep (p : Pl) {q : Nat} : ∀ {k m : Nat}, q < k → k ≤ m → rwF p m q = rwF p k q
  | k, 0, h1, h2 => absurd h1 (by omega)
  | k, m + 1, h1, h2 => by
    by_cases e : k = m + 1
    · rw [e]
    · show (if q = m then _ else rwF p m q) = _
      rw [if_neg (by omega)]
      exact rwF_keep p h1 (by omega)
end Go.Proofs.YtancjnambbkhmaaGreat.Hs.So

namespace Go.Proofs.YtancjnambbkhmaaGreat.Hs.So
open Go.Gv
open Go.Ev (cn fadd fsub fmul fdiv fsqrt fneg feq flt fle fgt fge fabs isNan key flt_key fgt_key feq_key)

/-! ### Slices with nothing in them -/
theorem FSpec.of_arg {f : Nat} {args args' : List AV} {r : AV} (h : ∀ E : Env, ∀ us : List Value, rels E args us → ∃ args'', rels E args'' us ∧ FSpec Tryz.prog f args'' r) (hE : Entered Tryz.prog f) (_ : args' = args) : FSpec Tryz.prog f args r :=
  ⟨hE, fun A w cargs hA hr hg => by
    obtain ⟨args'', h1, h2⟩ := h _ _ hr
    exact h2.2 A w cargs hA h1 hg⟩
theorem rel_empty {E : Env} {sz : Nat} {el : Nat → List AV} {u : Value} (h : rel E (.sl sz 0 el) u) : ∃ p c, rel E (xE p c) u := by
  obtain ⟨a, c, e, _⟩ := rel_sl.1 h
  exact ⟨a, c, rel_x.2 e⟩
theorem FSpec.of_val {f : Nat} {args : List AV} {r r' : AV} (h : FSpec Tryz.prog f args r) (hr : ∀ (E : Env) (v : Value), rel E r v → rel E r' v) : FSpec Tryz.prog f args r' :=
  ⟨h.1, fun A w cargs hA ha hg => (h.2 A w cargs hA ha hg).mono fun _ _ ⟨v, h1, h2, h3⟩ => ⟨v, h1, hr _ _ h2, h3⟩⟩
theorem rel_nil_sl {E : Env} {sz : Nat} {el : Nat → List AV} {v : Value} (h : rel E (.x (.slice none 0 0)) v) : rel E (.sl sz 0 el) v := rel_sl.2 ⟨none, 0, rel_x.1 h, Nat.le_refl _, Or.inl rfl⟩
theorem sl_congr {E : Env} {sz n : Nat} {el el' : Nat → List AV} {v : Value} (he : ∀ q, q < n → el q = el' q) (h : rel E (.sl sz n el) v) : rel E (.sl sz n el') v := by
  obtain ⟨a, c, e, hc, h1⟩ := rel_sl.1 h
  refine rel_sl.2 ⟨a, c, e, hc, ?_⟩
  rcases h1 with h1 | ⟨b, o, cs, e', fz, h2, h3, h4, h5⟩
  · exact Or.inl h1
  · exact Or.inr ⟨b, o, cs, e', fz, h2, h3, h4, fun i hi => by rw [← he i hi]; exact h5 i hi⟩
/-! ### Either -/
theorem ei_of {A B C : List Spn} {x y : AV} (hC : C = A ++ B) (hA : Ris A) (hB : Ris B) (h0 : 0 < C.length) (h20 : C.length ≤ 20) (hcc : GSpec Tryz.prog 129 [.sl 1 2 (chunk [x, y] 1)] [] (.osl 0 6 0 C.length) [roL C])
    (hev : evM Tryz.prog [⟨127, eCC fun a b => (lateS a b).v⟩] [] [bornS, ccE C, mSt 130 srD] (eiL C.length (srD C.length (elL C)) (eitherL A B)) Tryz.f109 [x, y] ret = eiZ srD x y C (some (Out.of (.sl 6 (eitherL A B).length fun q => elL (eitherL A B) (0 + q))))) : FSpec Tryz.prog 109 [x, y] (slL (eitherL A B)) := by
  have hm : srtL C = mrg A B := by rw [hC]; exact fold_all hA hB
  have hn : ∀ s, s ∈ C → isNan s.i.t = false := fun s hs => by
    rw [hC] at hs
    rcases List.mem_append.1 hs with h | h
    · exact (hA.2 s h).ni
    · exact (hB.2 s h).ni
  have hX : srD C.length (elL C) = gtL (mrg A B) := by
    rw [← hm]; exact srD_eq C
  have hl : C.length = (mrg A B).length := by rw [← hm, srtL_len]
  have lead := ex_leads (M := mrg A B) (by omega)
  rw [← hl] at lead
  have hL := lok_hd (c := bodyOf Tryz.f109) (i := 5) 0 (by kernel_rfl) (by kernel_rfl) (toldN_sound (keep := keepEx) (nils := [(6, 1, 6)]) (nr := roL []) (τ := [some 0, none]) lead)
  rw [hX] at hev
  refine spec_of_evM eL_ok k_nil (m_cons bornS_ok (m_cons mN_ok (m_cons mSt_ok m_nil))) (by kernel_rfl) Tryz.func109 (by kernel_rfl) (by kernel_rfl) hL rfl (hev.trans ?_)
  unfold eiZ
  have hb : ccB x y C = true := by unfold ccB; rw [propB_t hcc]; rfl
  rw [hb, cond_true, mt_t h0 (so_spec h0 h20 hn), cond_true, gate_pos (Sub.refl _), slL_eq]
theorem either_nil (A : List Spn) (hA : Ris A) : eitherL A [] = A.foldl swp [] ∧ eitherL [] A = A.foldl swp [] := by
  refine ⟨?_, ?_⟩
  · unfold eitherL
    cases A with
    | nil => rw [mrg]
    | cons a A => rw [mrg]
  · unfold eitherL
    rw [mrg]
theorem either_spec {A B : List Spn} (hA : Ris A) (hB : Ris B) (h20 : A.length + B.length ≤ 20) : FSpec Tryz.prog 109 [slL A, slL B] (slL (eitherL A B)) := by
  have hE : Entered Tryz.prog 109 := ⟨Tryz.f109, Tryz.func109, by kernel_rfl, by kernel_rfl⟩
  by_cases h1 : A.length = 0
  · have e1 := List.length_eq_zero_iff.1 h1
    by_cases h2 : B.length = 0
    · have e2 := List.length_eq_zero_iff.1 h2
      subst e1 e2
      refine FSpec.of_arg (args' := [slL [], slL []]) (fun E us hr => ?_) hE rfl
      obtain ⟨u, us', e0, r1, hr⟩ := rels_cons.1 hr
      obtain ⟨u', us'', e1, r2, hr⟩ := rels_cons.1 hr
      obtain ⟨p, c, q1⟩ := rel_empty r1
      obtain ⟨p', c', q2⟩ := rel_empty r2
      refine ⟨[xE p c, xE p' c'], rels_cons.2 ⟨u, us', e0, q1, rels_cons.2 ⟨u', us'', e1, q2, hr⟩⟩, ?_⟩
      have h : FSpec Tryz.prog 109 [xE p c, xE p' c'] (.x (.slice none 0 0)) := spec_of_evM e_nil (k_cons kS_ok (k_cons kS_ok k_nil)) (m_cons bornS_ok m_nil) (by kernel_rfl) Tryz.func109 (by kernel_rfl) (c := bodyOf Tryz.f109) (by kernel_rfl) noL_ok rfl ((ei_ev0 p p' c c').trans (by rw [gate_pos (cc_spec0 p p' c c'), gate_pos so_spec0]))
      have en : eitherL [] [] = [] := by unfold eitherL; rw [mrg]; rfl
      rw [en]
      exact FSpec.of_val h fun _ _ => rel_nil_sl
    · subst e1
      refine FSpec.of_arg (args' := [slL [], slL B]) (fun E us hr => ?_) hE rfl
      obtain ⟨u, us', e0, r1, hr⟩ := rels_cons.1 hr
      obtain ⟨p, c, q1⟩ := rel_empty r1
      refine ⟨[xE p c, slL B], rels_cons.2 ⟨u, us', e0, q1, hr⟩, ?_⟩
      exact ei_of (A := []) (B := B) (C := B) rfl ris_nil hB (by omega) (by omega) (cc_specB (by omega) (by omega) p c) (ei_evB lateS srD B B (eitherL [] B) p c)
  · by_cases h2 : B.length = 0
    · have e2 := List.length_eq_zero_iff.1 h2
      subst e2
      refine FSpec.of_arg (args' := [slL A, slL []]) (fun E us hr => ?_) hE rfl
      obtain ⟨u, us', e0, r1, hr⟩ := rels_cons.1 hr
      obtain ⟨u', us'', e1, r2, hr⟩ := rels_cons.1 hr
      obtain ⟨p, c, q1⟩ := rel_empty r2
      refine ⟨[slL A, xE p c], rels_cons.2 ⟨u, us', e0, r1, rels_cons.2 ⟨u', us'', e1, q1, hr⟩⟩, ?_⟩
      exact ei_of (A := A) (B := []) (C := A) (List.append_nil A).symm hA ris_nil (by omega) (by simpa using h20) (cc_specA (by omega) (by omega) p c) (ei_evA lateS srD A A (eitherL A []) p c)
    · exact ei_of (A := A) (B := B) (C := A ++ B) rfl hA hB (by rw [List.length_append]; omega) (by rw [List.length_append]; omega) (cc_spec2 (by omega) (by omega) (by omega)) (ei_ev2 lateS srD A B (A ++ B) (eitherL A B))
/-! ### A leaf -/
noncomputable def lfL (num : Int) (c : List AV) (r : Nat → Nat) : List Spn := cond (witC c r).ok [⟨⟨(witC c r).i, num, false⟩, ⟨(witC c r).o, num, false⟩⟩] []
theorem leaf_spec (num k : Int) (a : Nat → Nat) (sk : Int) (r : Nat → Nat) : FSpec Tryz.prog 107 [iA num, SH k a sk, RY r] (slL (lfL num (shC k a sk) (l7 r))) := by
  have h := lf_ev witC num k a sk r
  have en : ∀ e, e ∈ [(⟨19, eScY fun c r => (witC c r).v⟩ : Entry)] → EOk Tryz.prog e := e_cons (eScY_ok fun k a sk r => (witC_spec k a sk r).1) e_nil
  unfold lfL
  cases hw : (witC (shC k a sk) (l7 r)).ok
  · rw [hw] at h
    exact FSpec.of_val (sp en Tryz.func107 (by kernel_rfl) (by kernel_rfl) rfl h) fun _ _ => rel_nil_sl
  · rw [hw] at h
    refine FSpec.of_val (sp en Tryz.func107 (by kernel_rfl) (by kernel_rfl) rfl h) fun _ _ => sl_congr fun q hq => ?_
    have : q = 0 := by omega
    subst this
    rfl
/-! ### All parts -/
def rC (r : Nat → Nat) : List AV := [.f (r 0), .f (r 1), .f (r 2), .f (r 3), .f (r 4), .f (r 5), .f (r 6)]
def spR (n : Nat) (P : Nat → Prt) (r : Nat → Nat) (i : Int) (el : Nat → List AV) : St := mkS 85 [(0, prS n P), (3, .own 0 0), (5, .osl 1 1 0 n), (11, prS n P), (12, iA n), (13, iA i)] [.c (rC r), .a 57 1 n el]
def spS (n : Nat) (P : Nat → Prt) (r : Nat → Nat) (i : Int) (W : Nat → List Spn) : St := spR n P r i fun q => [slL (W q)]
def keepSp : List Nat := [0, 3, 5, 11, 12, 13]
def eLf (g : Int → List AV → (Nat → Nat) → List Spn) : List AV → Option AV
  | [.x (.int .i64 n), .agg [.x (.int .i64 k), .f a0, .f a1, .f a2, .f a3, .f a4, .f a5, .f a6, .f a7, .f a8, .f a9, .f a10, .x (.int .i64 sk)], .agg [.f a, .f b, .f c, .f d, .f e, .f f, .f x]] => some (slL (g n [.x (.int .i64 k), .f a0, .f a1, .f a2, .f a3, .f a4, .f a5, .f a6, .f a7, .f a8, .f a9, .f a10, .x (.int .i64 sk)] (ls [a, b, c, d, e, f, x])))
  | _ => none
theorem eLf_ok : EOk Tryz.prog ⟨107, eLf lfL⟩ := fun args r hr => by
  simp only [eLf] at hr
  split at hr
  · cases hr; exact Or.inl (leaf_spec _ _ (ls [_, _, _, _, _, _, _, _, _, _, _]) _ (ls [_, _, _, _, _, _, _]))
  · cases hr
section
variable (lf : Int → List AV → (Nat → Nat) → List Spn) (b1 b2 b3 : List AV → List Spn) (n : Nat) (P : Nat → Prt) (r : Nat → Nat) (i : Int) (W : Nat → List Spn)
noncomputable def spK : List KEntry := [kS Tryz.prog 108 fun v => slL (b1 v), kS Tryz.prog 109 fun v => slL (b2 v), kS Tryz.prog 110 fun v => slL (b3 v)]
def spA (p : Prt) : List AV := [slL (W (0 + p.l.toNat)), slL (W (0 + p.r.toNat))]
noncomputable def spG (f : Nat) (b : List AV → List Spn) (p : Prt) (o : List Spn → Option Out) : Option Out := gate (FSpec Tryz.prog f (spA W p) (slL (b (spA W p)))) (cond (jnB p.l p.r i n) (o (b (spA W p))) none)
noncomputable def spC (f : List Spn → Option Out) (o oe : Option Out) : Option Out := cond (decide (i < n)) (cond (ixB i n || false) (cond ((P i.toNat).op == 0) (ow' i n (f (lf i (P i.toNat).s (l7 r)))) (cond ((P i.toNat).op == 1) (spG n i W 108 b1 (P i.toNat) f) (cond ((P i.toNat).op == 2) (spG n i W 109 b2 (P i.toNat) f) (cond ((P i.toNat).op == 3) (spG n i W 110 b3 (P i.toNat) f) o)))) none) oe
theorem sp_step : evC Tryz.prog [⟨107, eLf lf⟩] (spK b1 b2 b3) noL (loopAt Tryz.f73 0) (spS n P r i W) (finN keepSp [some 0, some 1]) = spC lf b1 b2 b3 n P r i W (fun X => some ⟨.normal, spR n P r (w64 (i + 1)) fun q => mixL (q == 0 + i.toNat) [slL X] [slL (W q)], .any⟩) (some ⟨.normal, spS n P r (w64 (i + 1)) W, .any⟩) none := by kernel_rfl
theorem sp_end : evC Tryz.prog [⟨107, eLf lf⟩] (spK b1 b2 b3) noL (loopAt Tryz.f73 0) (spS n P r i W) (finE keepSp [some 0, some 1]) = spC lf b1 b2 b3 n P r i W (fun _ => none) none (some ⟨.exit 0, spS n P r i W, .any⟩) := by kernel_rfl
theorem sp_ev (W' : Nat → List Spn) : ev Tryz.prog [⟨107, eLf lf⟩] (spK b1 b2 b3) (oneL 3 (toldF keepSp [some 0, some 1] (spS n P r 0 W) (.exit 0) (spS n P r n W'))) Tryz.f73 [prS n P, RY r] ret = cond ((decide (0 ≤ (n : Int)) && (decide ((n : Int) ≤ n) && decide (((24 : Nat) : Int) * n ≤ 281474976710656))) || false) (gate (Sub (spR n P r 0 fun _ => [.x (.slice none 0 0)]) (spS n P r 0 W)) (ow' (w64 ((n : Int) - 1)) n (some (Out.of (slL (W' (0 + (w64 ((n : Int) - 1)).toNat))))))) none := by kernel_rfl
end
end Go.Proofs.YtancjnambbkhmaaGreat.Hs.So

namespace Go.Proofs.YtancjnambbkhmaaGreat.Hs.So
open Go.Gv
open Go.Ev (cn fadd fsub fmul fdiv fsqrt fneg feq flt fle fgt fge fabs)

section
variable (n : Nat) (hs : Nat → Int) (pf : Int → Int → Int) (tf : Int → Nat) (rf : Int → Int) (vf : Int → Int → Nat → Nat) (x y w : Nat) (fr : Int)
def xK : Int := w64 (1 + pf (rf fr) 6)
def xR : Nat := tf (w64 (1 + pf (rf (w64 (fr + 8))) 2500))
def xA (B C : Nat → Nat) (R Q : Nat) : List AV := [iA (xK pf rf fr), .f (vf (w64 (fr + 1)) 4000 0), .f (vf (w64 (fr + 1)) 4000 1), .f (vf (w64 (fr + 1)) 4000 2), .f (B 0), .f (B 1), .f (B 2), .f (C 0), .f (C 1), .f (C 2), .f R, .f Q, iA (pf (rf (w64 (fr + 7))) 1)]
def xO (B C : Nat → Nat) (R Q : Nat) : Option Out := some (Out.of (.agg (xA pf rf vf fr B C R Q)))
def xB2 : Nat → Nat := ls [fadd (vf (w64 (fr + 1)) 4000 0) (xR pf tf rf fr), fadd (vf (w64 (fr + 1)) 4000 1) (tf (pf (rf (w64 (fr + 5))) 2000)), fadd (vf (w64 (fr + 1)) 4000 2) (tf (pf (rf (w64 (fr + 6))) 2000))]
def xB3 : Nat → Nat := ls [fadd (vf (w64 (fr + 1)) 4000 0) (vf (w64 (fr + 4)) 3000 0), fadd (vf (w64 (fr + 1)) 4000 1) (vf (w64 (fr + 4)) 3000 1), fadd (vf (w64 (fr + 1)) 4000 2) (vf (w64 (fr + 4)) 3000 2)]
def xD : Int := w64 (1 + pf (rf (w64 (fr + 4))) 3)
def xQ : Nat := tf (w64 (1 + w64 ((pf (rf (w64 (fr + 8))) 2500).tdiv (xD pf rf fr))))
noncomputable def xPu (o : Option Out) : Option Out := gate (FSpec Tryz.prog 66 [V 0 0 0, iA (pf (rf (w64 (fr + 6))) 3), .f (tf (w64 (1 + pf (rf (w64 (fr + 5))) 3000)))] (V x y w)) o
noncomputable def x56 : Option Out := gR n hs rf (w64 (fr + 6)) (gR n hs rf (w64 (fr + 5)) (xPu pf tf rf x y w fr (cond (xK pf rf fr == 6) (gR n hs rf (w64 (fr + 8)) (gR n hs rf (w64 (fr + 4)) (cond ((!(xD pf rf fr == 0)) && true) (xO pf rf vf fr (ls [x, y, w]) z3 (xR pf tf rf fr) (xQ pf tf rf fr)) none))) (xO pf rf vf fr (ls [x, y, w]) z3 (xR pf tf rf fr) 0))))
def x4 : Option Out := cond (noughtB (vf (w64 (fr + 4)) 3000 0) (vf (w64 (fr + 4)) 3000 1) (vf (w64 (fr + 4)) 3000 2)) (xO pf rf vf fr (ls [0, one, 0]) z3 (xR pf tf rf fr) 0) (xO pf rf vf fr (vf (w64 (fr + 4)) 3000) z3 (xR pf tf rf fr) 0)
noncomputable def xX : Option Out := gR n hs rf fr (gV n hs vf (w64 (fr + 1)) 4000 (gR n hs rf (w64 (fr + 7)) (gV n hs vf (w64 (fr + 4)) 3000 (gR n hs rf (w64 (fr + 8))
  (cond (xK pf rf fr == 1) (xO pf rf vf fr z3 z3 (xR pf tf rf fr) 0) (cond (xK pf rf fr == 2) (gR n hs rf (w64 (fr + 5)) (gR n hs rf (w64 (fr + 6)) (xO pf rf vf fr (xB2 pf tf rf vf fr) z3 0 0))) (cond (xK pf rf fr == 3) (gV n hs vf (w64 (fr + 9)) 4000 (xO pf rf vf fr (xB3 vf fr) (ls [vf (w64 (fr + 9)) 4000 0, vf (w64 (fr + 9)) 4000 1, vf (w64 (fr + 9)) 4000 2]) 0 0))
    (cond (xK pf rf fr == 5) (cond (xK pf rf fr == 5) (x56 n hs pf tf rf vf x y w fr) (x4 pf tf rf vf fr)) (cond (xK pf rf fr == 6) (x56 n hs pf tf rf vf x y w fr) (x4 pf tf rf vf fr))))))))))
theorem xs_ev : ev Tryz.prog (M1 pf tf) [rwK rf, vcK vf, kS Tryz.prog 66 fun _ => V x y w] noL Tryz.f21 [sI n hs, iA fr, iA 1] ret = xX n hs pf tf rf vf x y w fr := by kernel_rfl
end
/-! ### Rounded -/
def rdP (x : Nat) : Nat := fadd (fmul x k1000) 4602678819172646912
def rdB (x : Nat) : Bool := fitI .i64 (rdP (cond (flt x 0) (fneg x) x))
def rdI (x : Nat) : Int := cond (flt x 0) (w64 (0 - f2i .i64 (rdP (fneg x)))) (f2i .i64 (rdP x))
theorem rd_ev (tf : Int → Nat) (x : Nat) : ev Tryz.prog [⟨64, eI fun n => .f (tf n)⟩] [] noL Tryz.f113 [.f x] ret = cond (flt x 0) (cond (fitI .i64 (rdP (fneg x)) || false) (some (Out.of (.f (tf (w64 (0 - f2i .i64 (rdP (fneg x)))))))) none) (cond (fitI .i64 (rdP x) || false) (some (Out.of (.f (tf (f2i .i64 (rdP x)))))) none) := by kernel_rfl
theorem rd_spec {x : Nat} (h : rdB x = true) : FSpec Tryz.prog 113 [.f x] (.f (mth (rdI x))) := by
  refine sp (e_cons (eI_ok mthou) e_nil) Tryz.func113 (by kernel_rfl) (by kernel_rfl) rfl ((rd_ev mth x).trans ?_)
  unfold rdB at h
  unfold rdI
  cases hf : flt x 0 <;> rw [hf] at h
  · rw [show fitI .i64 (rdP x) = true from h]; rfl
  · rw [show fitI .i64 (rdP (fneg x)) = true from h]; rfl
end Go.Proofs.YtancjnambbkhmaaGreat.Hs.So
