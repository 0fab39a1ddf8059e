/-
  Gym Soa Sob Soc Sod Soe Sg1 Sof Sog Soh Sq2 Soi Sx1 Fl9 Fl10 Fl11 Fl12 Fl13 Fl14 Wh0 Fr0 Hg0 Hg1 Sx4 Sxa Sxb Sxc Gyu Sxd, one behind the other.
-/
import Derived.Test.YtancjnambbkhmaaGreatC19
import Derived.Test.YtancjnambbkhmaaGreatC20
import Derived.Test.YtancjnambbkhmaaGreatC16
import Derived.Test.YtancjnambbkhmaaGreatC17
import Derived.WalkKit
import Derived.Test.YtancjnambbkhmaaGreatC18
import Derived.Test.YtancjnambbkhmaaGreatC10
namespace Go.Gv
open Go.RowKit Go.Ev
noncomputable section

/-- Slots in which the row 0 is told as the row k. -/
def MovX (k sz m : Nat) : List (Nat × AV) → List (Nat × AV) → Prop
  | [], [] => True
  | p :: ps, q :: qs => q.1 = p.1 ∧ (q.2 = p.2 ∨ (p.2 = .osl 0 sz 0 m ∧ q.2 = .osl k sz 0 m)) ∧ MovX k sz m ps qs
  | _, _ => False
theorem movX_lk {k sz m : Nat} (i : Nat) : ∀ {xs ys : List (Nat × AV)}, MovX k sz m xs ys → lkS ys i = lkS xs i ∨ (lkS xs i = .osl 0 sz 0 m ∧ lkS ys i = .osl k sz 0 m)
  | [], [], _ => Or.inl rfl
  | p :: ps, q :: qs, h => by
    obtain ⟨h1, h2, h3⟩ := h
    unfold lkS
    rw [List.find?_cons, List.find?_cons, h1]
    cases p.1.beq i with
    | true => exact h2
    | false => exact movX_lk i h3
  | [], _ :: _, h => h.elim
  | _ :: _, [], h => h.elim
/-- TO NUMBER THE FIRST ROW ANEW. -/
theorem sub_moved {np n sz m : Nat} {T : TypeId} {u : Nat → List AV} {xs ys : List (Nat × AV)} {rest : List Row} (hX : MovX (rest.length + 1) sz m xs ys) : SubN np (mkS n xs (.a T sz m u :: rest)) (mkS n ys (.dead :: (rest ++ [.a T sz m u]))) := by
  intro A0 R w0 E a hp0 hI
  have hwd : Wd A0 R w0 E (.a T sz m u :: rest) := hI.wd
  let K := rest.length + 1
  have dom : ∀ k p, E.O k = some p → k < K := fun k p hk => by
    obtain ⟨row, h1, _⟩ := hwd.rows k p.1 p.2 hk
    have := (List.getElem?_eq_some_iff.1 h1).1
    simpa using this
  let E' : Env := { E with O := fun k => if k = K then E.O 0 else E.O k }
  have hOK : E'.O K = E.O 0 := by show (if K = K then E.O 0 else E.O K) = _; rw [if_pos rfl]
  have hO : ∀ k, k ≠ K → E'.O k = E.O k := fun k hk => by show (if k = K then E.O 0 else E.O k) = _; rw [if_neg hk]
  have hle : E.le E' := ⟨fun b hb ob hob => ⟨hb, hob⟩, fun k p hk => by rw [hO k (by have := dom k p hk; omega)]; exact hk⟩
  have hrow : ∀ v, rel E (.osl 0 sz 0 m) v → rel E' (.osl K sz 0 m) v := fun v hv => by
    rcases rel_osl.1 hv with h | ⟨b, c, n', h1, h2⟩
    · exact rel_osl.2 (Or.inl h)
    · exact rel_osl.2 (Or.inr ⟨b, c, n', by rw [hOK]; exact h1, h2⟩)
  have get0 : ∀ k, k ≠ 0 → k ≠ K → (Row.dead :: (rest ++ [Row.a T sz m u]))[k]? = (Row.a T sz m u :: rest)[k]? := fun k h0 hk => by
    obtain ⟨j, rfl⟩ : ∃ j, k = j + 1 := ⟨k - 1, by omega⟩
    have hj : j ≠ rest.length := fun e => hk (by show j + 1 = rest.length + 1; omega)
    rw [List.getElem?_cons_succ, List.getElem?_cons_succ]
    by_cases h : j < rest.length
    · rw [List.getElem?_append_left h]
    · rw [List.getElem?_eq_none (by simp; omega), List.getElem?_eq_none (by omega)]
  have getK : (Row.dead :: (rest ++ [Row.a T sz m u]))[K]? = some (.a T sz m u) := by
    show (Row.dead :: (rest ++ [Row.a T sz m u]))[rest.length + 1]? = _
    rw [List.getElem?_cons_succ, List.getElem?_append_right (Nat.le_refl _), Nat.sub_self]; rfl
  have l0 : liveAt (.a T sz m u :: rest) 0 = true := rfl
  have hlive : ∀ k, liveAt (Row.dead :: (rest ++ [Row.a T sz m u])) k = true → k ≠ K → k ≠ 0 ∧ liveAt (.a T sz m u :: rest) k = true := fun k hk hne => by
    have h0 : k ≠ 0 := fun e => by rw [e] at hk; cases hk
    refine ⟨h0, ?_⟩
    unfold liveAt at hk ⊢
    rw [← get0 k h0 hne]; exact hk
  have hfr : frel E' (mkS n ys (.dead :: (rest ++ [.a T sz m u]))).slots (mkS n ys (.dead :: (rest ++ [.a T sz m u]))).slots a.tmps := by
    have h0 := hI.frame
    refine ⟨⟨by have := h0.1.1; simpa [mkS] using this, glob_le hle h0.1.2⟩, fun t => ?_⟩
    have h1 := h0.2 t
    by_cases ht : t < n
    · rw [(mkS_slot n ys _ t).1 ht]
      have h1 : (tru (mkS n xs (.a T sz m u :: rest)).slots ((mkS n xs (.a T sz m u :: rest)).slots.getD t dflt).2 = true → rel E ((mkS n xs (.a T sz m u :: rest)).slots.getD t dflt).1 (a.tmps.getD t undef)) ∧ _ := h1
      rw [(mkS_slot n xs _ t).1 ht] at h1
      have h2 := h1.1 rfl
      refine ⟨fun _ => ?_, fun h => by cases h⟩
      rcases movX_lk t hX with e | ⟨e1, e2⟩
      · show rel E' (lkS ys t) _
        rw [e]; exact rel_le hle h2
      · show rel E' (lkS ys t) _
        rw [e2]
        have h2 : rel E (lkS xs t) (a.tmps.getD t undef) := h2
        rw [e1] at h2
        exact hrow _ h2
    · rw [(mkS_slot n ys _ t).2 ht]
      have h1 : (tru (mkS n xs (.a T sz m u :: rest)).slots ((mkS n xs (.a T sz m u :: rest)).slots.getD t dflt).2 = true → rel E ((mkS n xs (.a T sz m u :: rest)).slots.getD t dflt).1 (a.tmps.getD t undef)) ∧ _ := h1
      rw [(mkS_slot n xs _ t).2 ht] at h1
      exact ⟨fun h => rel_le hle (h1.1 rfl), fun h => by cases h⟩
  refine ⟨E', rfl, hI.defers, hfr, ⟨fun k b c hb => ?_, hwd.small, hwd.old, fun k b c hb hl => ?_, fun k k' b c c' hb hb' hl hl' => ?_, hwd.below, hwd.le0.trans hle⟩⟩
  · by_cases hk : k = K
    · rw [hk, hOK] at hb
      obtain ⟨row, g1, g2⟩ := hwd.rows 0 b c hb
      cases g1
      rw [hk]
      exact ⟨_, getK, rowRel_keep hle g2 fun _ => rfl⟩
    · rw [hO k hk] at hb
      obtain ⟨row, g1, g2⟩ := hwd.rows k b c hb
      by_cases h0 : k = 0
      · rw [h0]; exact ⟨.dead, rfl, trivial⟩
      · exact ⟨row, by rw [← g1]; exact get0 k h0 hk, rowRel_keep hle g2 fun _ => rfl⟩
  · by_cases hk : k = K
    · rw [hk, hOK] at hb
      exact hwd.own 0 b c hb l0
    · rw [hO k hk] at hb
      exact hwd.own k b c hb (hlive k hl hk).2
  · by_cases hk : k = K
    · by_cases hk' : k' = K
      · rw [hk, hk']
      · rw [hk, hOK] at hb
        rw [hO k' hk'] at hb'
        have := hlive k' hl' hk'
        exact absurd (hwd.one 0 k' b c c' hb hb' l0 this.2).symm this.1
    · rw [hO k hk] at hb
      have h1 := hlive k hl hk
      by_cases hk' : k' = K
      · rw [hk', hOK] at hb'
        exact absurd (hwd.one k 0 b c c' hb hb' h1.2 l0) h1.1
      · rw [hO k' hk'] at hb'
        exact hwd.one k k' b c c' hb hb' h1.2 (hlive k' hl' hk').2
end
end Go.Gv

namespace Go.Proofs.YtancjnambbkhmaaGreat.Hs.So
open Go.Gv
open Go.Ev (cn fadd fsub fmul fdiv fsqrt fneg feq flt fle fgt fge fabs isNan)

noncomputable def finS (n : Nat) (keep : List Nat) (τ : List (Option Nat)) : Kont := fun e s => cond (Nat.beq s.mem.length n) (finN keep τ e s) none
theorem finS_subN {np : Nat} (n : Nat) (keep : List Nat) {τ : List (Option Nat)} (hp : pinT np τ = true) : KSubN np (finS n keep τ) := fun e s r h => by
  unfold finS at h
  cases hb : Nat.beq s.mem.length n
  · rw [hb] at h; cases h
  · rw [hb] at h; exact finN_subN keep hp e s r h
theorem leads_evMN {np : Nat} {l : List Entry} {ks : List KEntry} {ms : List MEntry} {L : Nat → Option LFun} {c : Code} {s s' : St} {e : Exit} {k : Kont} (hk : KSubN np k) (hl : ∀ e, e ∈ l → EOk Tryz.prog e) (hks : ∀ e, e ∈ ks → KOk Tryz.prog e) (hms : ∀ e, e ∈ ms → MEOk Tryz.prog e) (hL : LOkN np Tryz.prog L c) (h : evCM Tryz.prog l ks ms L c s k = some ⟨e, s', .any⟩) : LeadsN np Tryz.prog c s e s' :=
  leads_ofKN hk (tabM_ok hl hks hms) (drawnK_ok (tabM_ok hl hks hms) (by kernel_rfl)) hL h
def keepCo : List Nat := [0, 4, 7, 12, 13, 14]
def cE (tf : Crs → Crs) : List Entry := [⟨154, eC1 fun a => (tf a).v⟩]
def skB' (h : Spn) (g e : Crs) : Bool := cond (fle h.o.t g.t) true (fge h.i.t e.t)
def coS1 (s : Spn) (g : Crs) (H : List Spn) (j : Int) (R : List Spn) : St := mkS 48 [(0, .osl 3 6 0 R.length), (4, .own 1 0), (7, .own 2 0), (12, slL H), (13, iA H.length), (14, iA j)] [.dead, .c s.c, .c g.c, roL R]
section
variable (tf : Crs → Crs) (G : List Spn → List AV → List Spn) (s : Spn) (g : Crs) (H : List Spn) (j : Int) (R R' : List Spn)
noncomputable def coC1 (o : Option Out) (f : List Spn → Option Out) (oe : Option Out) : Option Out := cond (decide (j < H.length)) (cond (ixB j H.length || false) (cond (skB' (gtL H j.toNat) g s.o) o (cond ((lsB 126 R [g.v, (tf (gtL H j.toNat).i).v] (G (decL R.length (elL R)) [g.v, (tf (gtL H j.toNat).i).v]) || false) && true) (f (G (decL R.length (elL R)) [g.v, (tf (gtL H j.toNat).i).v])) none)) none) oe
theorem co_skip1 : evCM Tryz.prog (cE tf) [] [mL 126 G] noL (loopAt Tryz.f133 0) (coS1 s g H j R) (finS 5 keepCo [some 0, some 1, some 2, some 3]) = coC1 tf G s g H j R (some ⟨.normal, coS1 s g H (w64 (j + 1)) R, .any⟩) (fun _ => none) none := by kernel_rfl
theorem co_cut1 : evCM Tryz.prog (cE tf) [] [mL 126 G] noL (loopAt Tryz.f133 0) (coS1 s g H j R) (finS 6 keepCo [some 0, some 1, some 2, some 5]) = coC1 tf G s g H j R none (fun R' => some ⟨.normal, coS1 s (tf (gtL H j.toNat).o) H (w64 (j + 1)) R', .any⟩) none := by kernel_rfl
theorem co_end1 : evCM Tryz.prog (cE tf) [] [mL 126 G] noL (loopAt Tryz.f133 0) (coS1 s g H j R) (finE keepCo [some 0, some 1, some 2, some 3]) = coC1 tf G s g H j R none (fun _ => none) (some ⟨.exit 0, coS1 s g H j R, .any⟩) := by kernel_rfl
end
def coS0 (s : Spn) (g : Crs) (H : List Spn) (j : Int) (R : List Spn) : St := mkS 48 [(0, .osl 2 6 0 R.length), (4, .own 0 0), (7, .own 1 0), (12, slL H), (13, iA H.length), (14, iA j)] [.c s.c, .c g.c, roL R]
section
variable (tf : Crs → Crs) (G : List Spn → List AV → List Spn) (s : Spn) (g : Crs) (H : List Spn) (j : Int) (R R' : List Spn)
noncomputable def coC0 (o : Option Out) (f : List Spn → Option Out) (oe : Option Out) : Option Out := cond (decide (j < H.length)) (cond (ixB j H.length || false) (cond (skB' (gtL H j.toNat) g s.o) o (cond ((lsB 126 R [g.v, (tf (gtL H j.toNat).i).v] (G (decL R.length (elL R)) [g.v, (tf (gtL H j.toNat).i).v]) || false) && true) (f (G (decL R.length (elL R)) [g.v, (tf (gtL H j.toNat).i).v])) none)) none) oe
theorem co_skip0 : evCM Tryz.prog (cE tf) [] [mL 126 G] noL (loopAt Tryz.f133 0) (coS0 s g H j R) (finS 4 keepCo [some 0, some 1, some 2]) = coC0 tf G s g H j R (some ⟨.normal, coS0 s g H (w64 (j + 1)) R, .any⟩) (fun _ => none) none := by kernel_rfl
theorem co_cut0 : evCM Tryz.prog (cE tf) [] [mL 126 G] noL (loopAt Tryz.f133 0) (coS0 s g H j R) (finS 5 keepCo [some 0, some 1, some 4]) = coC0 tf G s g H j R none (fun R' => some ⟨.normal, coS0 s (tf (gtL H j.toNat).o) H (w64 (j + 1)) R', .any⟩) none := by kernel_rfl
theorem co_end0 : evCM Tryz.prog (cE tf) [] [mL 126 G] noL (loopAt Tryz.f133 0) (coS0 s g H j R) (finE keepCo [some 0, some 1, some 2]) = coC0 tf G s g H j R none (fun _ => none) (some ⟨.exit 0, coS0 s g H j R, .any⟩) := by kernel_rfl
end
end Go.Proofs.YtancjnambbkhmaaGreat.Hs.So

namespace Go.Proofs.YtancjnambbkhmaaGreat.Hs.So
open Go.Gv
open Go.Ev (cn fadd fsub fmul fdiv fsqrt fneg feq flt fle fgt fge fabs isNan)

/-- Where what is left begins, and what has been laid, behind so many holes. -/
def coF (e : Crs) (H : List Spn) (g : Crs) (L : List Spn) : Nat → Crs × List Spn
  | 0 => (g, L)
  | k + 1 => cond (skipB (gtL H k) (coF e H g L k).1 e) (coF e H g L k) (turnS (gtL H k).o, (coF e H g L k).2 ++ piece (coF e H g L k).1 (turnS (gtL H k).i))
theorem coF_cut (e : Crs) (H : List Spn) (g : Crs) (L : List Spn) : ∀ k, k ≤ H.length → (coF e H g L k).2 ++ cutC e (H.drop k) (coF e H g L k).1 = L ++ cutC e H g
  | 0, _ => rfl
  | k + 1, hk => by
    rw [← coF_cut e H g L k (by omega)]
    have hd : H.drop k = gtL H k :: H.drop (k + 1) := by
      rw [List.drop_eq_getElem_cons (by omega)]
      unfold gtL
      rw [List.getD_eq_getElem?_getD, List.getElem?_eq_getElem (by omega)]; rfl
    rw [hd]
    have hc : cutC e (gtL H k :: H.drop (k + 1)) (coF e H g L k).1 = cond (skipB (gtL H k) (coF e H g L k).1 e) (cutC e (H.drop (k + 1)) (coF e H g L k).1) (piece (coF e H g L k).1 (turnS (gtL H k).i) ++ cutC e (H.drop (k + 1)) (turnS (gtL H k).o)) := rfl
    rw [hc]
    show (cond _ _ _ : Crs × List Spn).2 ++ cutC e (H.drop (k + 1)) (cond _ _ _ : Crs × List Spn).1 = _
    cases skipB (gtL H k) (coF e H g L k).1 e
    · rw [cond_false, cond_false, List.append_assoc]
    · rw [cond_true, cond_true]
theorem coF_end (e : Crs) (H : List Spn) (g : Crs) (L : List Spn) : (coF e H g L H.length).2 ++ piece (coF e H g L H.length).1 e = L ++ cutC e H g := by
  have := coF_cut e H g L H.length (Nat.le_refl _)
  rw [List.drop_length] at this
  exact this
theorem coF_len (e : Crs) (H : List Spn) (g : Crs) (L : List Spn) : ∀ k, (coF e H g L k).2.length ≤ L.length + k
  | 0 => Nat.le_refl _
  | k + 1 => by
    have ih := coF_len e H g L k
    show (cond _ _ _ : Crs × List Spn).2.length ≤ _
    cases skipB (gtL H k) (coF e H g L k).1 e
    · show ((coF e H g L k).2 ++ piece _ _).length ≤ _
      rw [List.length_append]
      have := piece_len (coF e H g L k).1 (turnS (gtL H k).i)
      omega
    · show (coF e H g L k).2.length ≤ _
      omega
theorem skB_eq (h : Spn) (g e : Crs) : skB' h g e = skipB h g e := by unfold skB' skipB; cases fle h.o.t g.t <;> rfl
theorem cE_ok : ∀ e, e ∈ cE turnS → EOk Tryz.prog e := e_cons (eC1_ok sturn) e_nil
theorem apG_eq (R : List Spn) (a b : Crs) : apG (decL R.length (elL R)) [a.v, b.v] = R ++ piece a b := by rw [decL_el]; rfl
theorem co_leads1 {s : Spn} {H : List Spn} (hH : H.length ≤ 1000) {L : List Spn} (hL : L.length ≤ 100000) : LeadsN 1 Tryz.prog (.loop (loopAt Tryz.f133 0)) (coS1 s s.i H 0 L) (.exit 0) (coS1 s (coF s.o H s.i L H.length).1 H H.length (coF s.o H s.i L H.length).2) := by
  have h : LeadsN 1 Tryz.prog (.loop (loopAt Tryz.f133 0)) (coS1 s (coF s.o H s.i L 0).1 H (0 : Nat) (coF s.o H s.i L 0).2) (.exit 0) (coS1 s (coF s.o H s.i L H.length).1 H (H.length : Nat) (coF s.o H s.i L H.length).2) := by
    refine loop_rule (fun k => coS1 s (coF s.o H s.i L k).1 H (k : Nat) (coF s.o H s.i L k).2) H.length (.exit 0) _ (by simp) (fun k hk => ?_) ?_
    · have hl := coF_len s.o H s.i L k
      show LeadsN 1 Tryz.prog _ (coS1 s (coF s.o H s.i L k).1 H (k : Nat) (coF s.o H s.i L k).2) .normal (coS1 s (cond _ _ _ : Crs × List Spn).1 H ((k + 1 : Nat) : Int) (cond _ _ _ : Crs × List Spn).2)
      cases hs : skipB (gtL H k) (coF s.o H s.i L k).1 s.o
      · refine leads_evMN (finS_subN 6 keepCo (τ := [some 0, some 1, some 2, some 5]) (by rfl)) cE_ok k_nil (m_cons mL_ok m_nil) noL_okN ((co_cut1 turnS apG s (coF s.o H s.i L k).1 H (k : Nat) (coF s.o H s.i L k).2).trans ?_)
        unfold coC1
        rw [dec_lt hk, ixB_t hk, Int.toNat_natCast, skB_eq, hs, apG_eq, lsB_t (ap_spec (by omega) _ _), w64_next (by omega)]
        rfl
      · refine leads_evMN (finS_subN 5 keepCo (τ := [some 0, some 1, some 2, some 3]) (by rfl)) cE_ok k_nil (m_cons mL_ok m_nil) noL_okN ((co_skip1 turnS apG s (coF s.o H s.i L k).1 H (k : Nat) (coF s.o H s.i L k).2).trans ?_)
        unfold coC1
        rw [dec_lt hk, ixB_t hk, Int.toNat_natCast, skB_eq, hs, w64_next (by omega)]
        rfl
    · refine leads_evMN (finE_subN keepCo (τ := [some 0, some 1, some 2, some 3]) (by rfl)) cE_ok k_nil (m_cons mL_ok m_nil) noL_okN ((co_end1 turnS apG s _ H (H.length : Nat) _).trans ?_)
      unfold coC1
      rw [dec_self, cond_false]
  exact h
theorem co_leads0 {s : Spn} {H : List Spn} (hH : H.length ≤ 1000) {L : List Spn} (hL : L.length ≤ 100000) : LeadsN 0 Tryz.prog (.loop (loopAt Tryz.f133 0)) (coS0 s s.i H 0 L) (.exit 0) (coS0 s (coF s.o H s.i L H.length).1 H H.length (coF s.o H s.i L H.length).2) := by
  have h : LeadsN 0 Tryz.prog (.loop (loopAt Tryz.f133 0)) (coS0 s (coF s.o H s.i L 0).1 H (0 : Nat) (coF s.o H s.i L 0).2) (.exit 0) (coS0 s (coF s.o H s.i L H.length).1 H (H.length : Nat) (coF s.o H s.i L H.length).2) := by
    refine loop_rule (fun k => coS0 s (coF s.o H s.i L k).1 H (k : Nat) (coF s.o H s.i L k).2) H.length (.exit 0) _ (by simp) (fun k hk => ?_) ?_
    · have hl := coF_len s.o H s.i L k
      show LeadsN 0 Tryz.prog _ (coS0 s (coF s.o H s.i L k).1 H (k : Nat) (coF s.o H s.i L k).2) .normal (coS0 s (cond _ _ _ : Crs × List Spn).1 H ((k + 1 : Nat) : Int) (cond _ _ _ : Crs × List Spn).2)
      cases hs : skipB (gtL H k) (coF s.o H s.i L k).1 s.o
      · refine leads_evMN (finS_subN 5 keepCo (τ := [some 0, some 1, some 4]) (by rfl)) cE_ok k_nil (m_cons mL_ok m_nil) noL_okN ((co_cut0 turnS apG s (coF s.o H s.i L k).1 H (k : Nat) (coF s.o H s.i L k).2).trans ?_)
        unfold coC0
        rw [dec_lt hk, ixB_t hk, Int.toNat_natCast, skB_eq, hs, apG_eq, lsB_t (ap_spec (by omega) _ _), w64_next (by omega)]
        rfl
      · refine leads_evMN (finS_subN 4 keepCo (τ := [some 0, some 1, some 2]) (by rfl)) cE_ok k_nil (m_cons mL_ok m_nil) noL_okN ((co_skip0 turnS apG s (coF s.o H s.i L k).1 H (k : Nat) (coF s.o H s.i L k).2).trans ?_)
        unfold coC0
        rw [dec_lt hk, ixB_t hk, Int.toNat_natCast, skB_eq, hs, w64_next (by omega)]
        rfl
    · refine leads_evMN (finE_subN keepCo (τ := [some 0, some 1, some 2]) (by rfl)) cE_ok k_nil (m_cons mL_ok m_nil) noL_okN ((co_end0 turnS apG s _ H (H.length : Nat) _).trans ?_)
      unfold coC0
      rw [dec_self, cond_false]
  exact h
def co01 (s : Spn) (H : List Spn) (L : List Spn) : St := mkS 48 [(0, .osl 0 6 0 L.length), (4, .own 1 0), (7, .own 2 0), (12, slL H), (13, iA H.length), (14, iA 0)] [roL L, .c s.c, .c s.i.c]
section
variable (tf : Crs → Crs) (G : List Spn → List AV → List Spn) (s : Spn) (g : Crs) (H : List Spn) (L R : List Spn)
noncomputable def coQ (o : Option Out) : Option Out := cond (lsB 126 R [g.v, s.o.v] (G (decL R.length (elL R)) [g.v, s.o.v]) || false) o none
theorem co_ev1 : evG Tryz.prog (cE tf) [] [mL 126 G] (oneL 3 (toldP 1 keepCo [some 0, some 1, some 2] (coS1 s s.i H 0 L) (.exit 0) (coS1 s g H H.length R))) Tryz.f133 [.osl 0 6 0 L.length, .agg s.c, slL H] [roL L] [some 0, some 4] =
    gate (SubN 1 (co01 s H L) (coS1 s s.i H 0 L)) (coQ G s g R (gout (.osl 1 6 0 (G (decL R.length (elL R)) [g.v, s.o.v]).length) [.dead, roL (G (decL R.length (elL R)) [g.v, s.o.v])])) := by kernel_rfl
theorem co_ev0 : evG Tryz.prog (cE tf) [] [mL 126 G] (oneL 3 (toldN keepCo [(0, 2, 6)] (roL []) [some 0, some 1, none] (coS0 s s.i H 0 []) (.exit 0) (coS0 s g H H.length R))) Tryz.f133 [.x (.slice none 0 0), .agg s.c, slL H] [] [some 3] =
    gate (Sub (coS0 s s.i H 0 []) (coS0 s s.i H 0 [])) (coQ G s g R (gout (.osl 0 6 0 (G (decL R.length (elL R)) [g.v, s.o.v]).length) [roL (G (decL R.length (elL R)) [g.v, s.o.v])])) := by kernel_rfl
end
theorem co_sub (s : Spn) (H : List Spn) (L : List Spn) : SubN 1 (co01 s H L) (coS1 s s.i H 0 L) :=
  @sub_moved 1 48 6 L.length 62 (elL L) [(0, .osl 0 6 0 L.length), (4, .own 1 0), (7, .own 2 0), (12, slL H), (13, iA H.length), (14, iA 0)] [(0, .osl 3 6 0 L.length), (4, .own 1 0), (7, .own 2 0), (12, slL H), (13, iA H.length), (14, iA 0)] [.c s.c, .c s.i.c] ⟨rfl, Or.inr ⟨rfl, rfl⟩, rfl, Or.inl rfl, rfl, Or.inl rfl, rfl, Or.inl rfl, rfl, Or.inl rfl, rfl, Or.inl rfl, trivial⟩
theorem co_spec {L : List Spn} (hL : L.length ≤ 100000) (s : Spn) {H : List Spn} (hH : H.length ≤ 1000) : LSpec 133 L [.agg s.c, slL H] (L ++ cutC s.o H s.i) := by
  have hl := coF_len s.o H s.i L H.length
  have he := coF_end s.o H s.i L
  have hq : ∀ (o : Option Out), coQ apG s (coF s.o H s.i L H.length).1 (coF s.o H s.i L H.length).2 o = o := fun o => by
    unfold coQ
    rw [apG_eq, lsB_t (ap_spec (by omega) _ _)]; rfl
  refine ⟨?_, fun h0 => ?_⟩
  · refine gspecG (mem := [roL L]) cE_ok k_nil (m_cons mL_ok m_nil) Tryz.func133 (by kernel_rfl) (by kernel_rfl) (lokN_one 1 (by kernel_rfl) fun j hj _ => ?_) rfl (by kernel_rfl) ((co_ev1 turnS apG s (coF s.o H s.i L H.length).1 H L (coF s.o H s.i L H.length).2).trans ?_)
    · have : j = 0 := by omega
      subst this
      exact toldP_sound (keep := keepCo) (τ := [some 0, some 1, some 2]) (by rfl) (co_leads1 hH hL)
    · rw [gate_pos (co_sub s H L), hq, apG_eq, he]
      rfl
  · have e0 := List.length_eq_zero_iff.1 h0
    subst e0
    refine gspecG (mem := []) cE_ok k_nil (m_cons mL_ok m_nil) Tryz.func133 (by kernel_rfl) (by kernel_rfl) (lok_hd (c := bodyOf Tryz.f133) (i := 3) 0 (by kernel_rfl) (by kernel_rfl) (toldN_sound (keep := keepCo) (nils := [(0, 2, 6)]) (nr := roL []) (τ := [some 0, some 1, none]) (co_leads0 (s := s) hH hL))) rfl (by kernel_rfl) ((co_ev0 turnS apG s (coF s.o H s.i [] H.length).1 H (coF s.o H s.i [] H.length).2).trans ?_)
    rw [gate_pos (Sub.refl _), hq, apG_eq, he]
    rfl
def leS (A B : List Spn) (i : Int) (R : List Spn) : St := mkS 20 [(1, slL B), (5, .osl 0 6 0 R.length), (8, slL A), (9, iA A.length), (10, iA i)] [roL R]
def keepLe : List Nat := [1, 5, 8, 9, 10]
section
variable (G : List Spn → List AV → List Spn) (A B : List Spn) (i : Int) (R : List Spn)
noncomputable def leC (f : List Spn → Option Out) (oe : Option Out) : Option Out := cond (decide (i < A.length)) (cond (ixB i A.length || false) (cond (lsB 133 R [.agg (gtL A i.toNat).c, slL B] (G (decL R.length (elL R)) [.agg (gtL A i.toNat).c, slL B]) || false) (f (G (decL R.length (elL R)) [.agg (gtL A i.toNat).c, slL B])) none) none) oe
theorem le_step : evCM Tryz.prog [] [] [mL 133 G] noL (loopAt Tryz.f110 0) (leS A B i R) (finN keepLe [some 2]) = leC G A B i R (fun R' => some ⟨.normal, leS A B (w64 (i + 1)) R', .any⟩) none := by kernel_rfl
theorem le_end : evCM Tryz.prog [] [] [mL 133 G] noL (loopAt Tryz.f110 0) (leS A B i R) (finE keepLe [some 0]) = leC G A B i R (fun _ => none) (some ⟨.exit 0, leS A B i R, .any⟩) := by kernel_rfl
theorem le_ev : evM Tryz.prog [] [] [mL 133 G] (oneL 3 (toldN keepLe [(5, 0, 6)] (roL []) [none] (leS A B 0 []) (.exit 0) (leS A B A.length R))) Tryz.f110 [slL A, slL B] ret = gate (Sub (leS A B 0 []) (leS A B 0 [])) (some (Out.of (.sl 6 R.length fun q => elL R (0 + q)))) := by kernel_rfl
end
def coG (L : List Spn) (rest : List AV) : List Spn := match rest with
  | [.agg c, .sl _ m el] => L ++ cutC (decS c).o (decL m el) (decS c).i
  | _ => L
theorem coG_eq (R : List Spn) (s : Spn) (B : List Spn) : coG (decL R.length (elL R)) [.agg s.c, slL B] = R ++ cutC s.o B s.i := by
  show decL R.length (elL R) ++ cutC s.o (decL B.length (elL B)) s.i = _
  rw [decL_el, decL_el]
theorem cut_len (e : Crs) (B : List Spn) (g : Crs) : (cutC e B g).length ≤ B.length + 1 := by
  have h1 := coF_end e B g []
  have h2 := coF_len e B g [] B.length
  rw [List.nil_append] at h1
  rw [← h1, List.length_append]
  have := piece_len (coF e B g [] B.length).1 e
  simp only [List.length_nil] at h2
  omega
theorem less_len {A B : List Spn} : (lessL A B).length ≤ A.length * (B.length + 1) := by
  unfold lessL
  induction A with
  | nil => exact Nat.zero_le _
  | cons a A ih =>
    rw [List.flatMap_cons, List.length_append, List.length_cons, Nat.add_mul, Nat.one_mul]
    have h1 := cut_len a.o B a.i
    exact Nat.le_trans (Nat.add_le_add h1 ih) (by rw [Nat.add_comm]; exact Nat.le_refl _)
theorem le_leads {A B : List Spn} (hA : A.length ≤ 200) (hB : B.length ≤ 200) : Leads Tryz.prog (.loop (loopAt Tryz.f110 0)) (leS A B 0 []) (.exit 0) (leS A B A.length (lessL A B)) := by
  have hlen : ∀ k, k ≤ A.length → (lessL (A.take k) B).length ≤ 40200 := fun k hk => by
    have h1 := less_len (A := A.take k) (B := B)
    rw [List.length_take] at h1
    have h2 : min k A.length * (B.length + 1) ≤ 200 * 201 := Nat.mul_le_mul (by omega) (by omega)
    omega
  have h : Leads Tryz.prog (.loop (loopAt Tryz.f110 0)) (leS A B (0 : Nat) (lessL (A.take 0) B)) (.exit 0) (leS A B (A.length : Nat) (lessL (A.take A.length) B)) := by
    refine loop_rule (fun k => leS A B (k : Nat) (lessL (A.take k) B)) A.length (.exit 0) _ (by simp) (fun k hk => ?_) ?_
    · refine leads_evM (finN_sub _ _) e_nil k_nil (m_cons mL_ok m_nil) noL_ok ((le_step coG A B (k : Nat) (lessL (A.take k) B)).trans ?_)
      have e1 : lessL (A.take k) B ++ cutC (gtL A k).o B (gtL A k).i = lessL (A.take (k + 1)) B := by
        unfold lessL
        rw [flat_take hk]
      have := hlen k (by omega)
      have hs := co_spec (L := lessL (A.take k) B) (by omega) (gtL A k) (H := B) (by omega)
      rw [e1] at hs
      unfold leC
      rw [dec_lt hk, ixB_t hk, Int.toNat_natCast, coG_eq, e1, lsB_t hs, w64_next (by omega)]
      rfl
    · refine leads_evM (finE_sub _ _) e_nil k_nil (m_cons mL_ok m_nil) noL_ok ((le_end coG A B (A.length : Nat) (lessL (A.take A.length) B)).trans ?_)
      unfold leC
      rw [dec_self, cond_false]
  rw [List.take_length, List.take_zero] at h
  exact h
/-- What is left of a row. -/
theorem less_spec {A B : List Spn} (hA : A.length ≤ 200) (hB : B.length ≤ 200) : FSpec Tryz.prog 110 [slL A, slL B] (slL (lessL A B)) := by
  have hL := lok_hd (c := bodyOf Tryz.f110) (i := 3) 0 (by kernel_rfl) (by kernel_rfl) (toldN_sound (keep := keepLe) (nils := [(5, 0, 6)]) (nr := roL []) (τ := [none]) (le_leads hA hB))
  refine spec_of_evM e_nil k_nil (m_cons mL_ok m_nil) (by kernel_rfl) Tryz.func110 (by kernel_rfl) (by kernel_rfl) hL rfl ((le_ev coG A B (lessL A B)).trans ?_)
  rw [gate_pos (Sub.refl _), slL_eq]
end Go.Proofs.YtancjnambbkhmaaGreat.Hs.So

namespace Go.Proofs.YtancjnambbkhmaaGreat.Hs.So
open Go.Gv
open Go.Ev (cn fadd fsub fmul fdiv fsqrt fneg feq flt fle fgt fge fabs isNan)

theorem nan_ev (a : Nat) : ev Tryz.prog [] [] noL Tryz.f153 [.f a] ret = some (Out.of (bA (!(feq a a)))) := by kernel_rfl
theorem snan (a : Nat) : FSpec Tryz.prog 153 [.f a] (bA (!(feq a a))) := sp e_nil Tryz.func153 (by kernel_rfl) (by kernel_rfl) rfl (nan_ev a)
def eF1 (g : Nat → AV) : List AV → Option AV
  | [.f a] => some (g a)
  | _ => none
theorem eF1_ok {f : Nat} {g : Nat → AV} (h : ∀ a, FSpec Tryz.prog f [.f a] (g a)) : EOk Tryz.prog ⟨f, eF1 g⟩ := fun args r hr => by
  simp only [eF1] at hr
  split at hr
  · cases hr; exact Or.inl (h _)
  · cases hr
def cmpS (a b : Nat) : Int := cond (!(feq a a)) (cond (!(feq b b)) 0 (-1)) (cond (!(feq b b)) 1 (cond (flt a b) (-1) (cond (fgt a b) 1 0)))
theorem cmp_ev (nf : Nat → Bool) (a b : Nat) : ev Tryz.prog [⟨153, eF1 fun a => bA (nf a)⟩] [] noL Tryz.f132 [.f a, .f b] ret = cond (nf a) (cond (nf b) (aiR 0) (aiR (-1))) (cond (nf b) (aiR 1) (cond (flt a b) (aiR (-1)) (cond (fgt a b) (aiR 1) (aiR 0)))) := by kernel_rfl
theorem scmp (a b : Nat) : FSpec Tryz.prog 132 [.f a, .f b] (iA (cmpS a b)) := by
  refine sp (e_cons (eF1_ok snan) e_nil) Tryz.func132 (by kernel_rfl) (by kernel_rfl) rfl ((cmp_ev (fun a => !(feq a a)) a b).trans ?_)
  unfold cmpS aiR
  cases feq a a <;> cases feq b b <;> cases flt a b <;> cases fgt a b <;> rfl
theorem cl_ev (cf : Nat → Nat → Int) (x y : Spn) : ev Tryz.prog [⟨132, eFF fun a b => iA (cf a b)⟩] [] noL Tryz.f131 [.agg x.c, .agg y.c] ret = some (Out.of (iA (cf x.i.t y.i.t))) := by kernel_rfl
theorem scl (x y : Spn) : FSpec Tryz.prog 131 [.agg x.c, .agg y.c] (iA (cmpS x.i.t y.i.t)) := sp (e_cons (eFF_ok scmp) e_nil) Tryz.func131 (by kernel_rfl) (by kernel_rfl) rfl (cl_ev cmpS x y)
def eSS (g : Spn → Spn → AV) : List AV → Option AV
  | [.agg [.f t, .x (.int .i64 l), .x (.bool u), .f t', .x (.int .i64 l'), .x (.bool u')], .agg [.f s, .x (.int .i64 m), .x (.bool v), .f s', .x (.int .i64 m'), .x (.bool v')]] => some (g ⟨⟨t, l, u⟩, ⟨t', l', u'⟩⟩ ⟨⟨s, m, v⟩, ⟨s', m', v'⟩⟩)
  | _ => none
theorem eSS_ok {f : Nat} {g : Spn → Spn → AV} (h : ∀ x y : Spn, FSpec Tryz.prog f [.agg x.c, .agg y.c] (g x y)) : EOk Tryz.prog ⟨f, eSS g⟩ := fun args r hr => by
  simp only [eSS] at hr
  split at hr
  · cases hr; exact Or.inl (h ⟨⟨_, _, _⟩, ⟨_, _, _⟩⟩ ⟨⟨_, _, _⟩, ⟨_, _, _⟩⟩)
  · cases hr
def clF : AV := .fn (.func 131) [] []
def iiS (n : Nat) (a b i j : Int) (X : Nat → Spn) : St := mkS 53 [(0, .osl 0 6 0 n), (1, iA a), (2, iA b), (3, clF), (8, iA i), (9, iA j)] [.a 62 6 n (elX X)]
def keepIi : List Nat := [0, 1, 2, 3, 8, 9]
def ioS (n : Nat) (a b i : Int) (X : Nat → Spn) : St := mkS 53 [(0, .osl 0 6 0 n), (1, iA a), (2, iA b), (3, clF), (8, iA i)] [.a 62 6 n (elX X)]
def keepIo : List Nat := [0, 1, 2, 3, 8]
def gB (b : Bool) : Bool := !(decide (b = true) && true)
section
variable (cf : Spn → Spn → Int) (n : Nat) (a b i j : Int) (X : Nat → Spn)
def iiG : Bool := (ixB j n || gB (decide (j > a))) && ((Nat.blt (0 + j.toNat) n || gB (decide (j > a))) && ((ixB (w64 (j - 1)) n || gB (decide (j > a))) && ((Nat.blt (0 + (w64 (j - 1)).toNat) n || gB (decide (j > a))) && true)))
def iiT : Bool := cond (decide (j > a)) (decide (cf (X (0 + j.toNat)) (X (0 + (w64 (j - 1)).toNat)) < 0)) false
def iiW : Bool := (ixB (w64 (j - 1)) n || false) && ((bl' (w64 (j - 1)) n) && ((ixB j n || false) && ((bl' j n) && ((ixB j n || false) && ((bl' j n) && ((ixB (w64 (j - 1)) n || false) && ((bl' (w64 (j - 1)) n) && true)))))))
def iiC (o oe : Option Out) : Option Out := cond (iiG n a j) (cond (iiT cf a j X) (cond (iiW n j) o none) oe) none
def iiE : Nat → List AV := fun q => mixL (q == 0 + (w64 (j - 1)).toNat) (X (0 + j.toNat)).c (mixL (q == 0 + j.toNat) (X (0 + (w64 (j - 1)).toNat)).c (X q).c)
theorem ii_step : evCM Tryz.prog [⟨131, eSS fun x y => iA (cf x y)⟩] [] [] noL (loopAt Tryz.f165 1) (iiS n a b i j X) (finN keepIi [some 0]) = iiC cf n a j X (some ⟨.normal, mkS 53 [(0, .osl 0 6 0 n), (1, iA a), (2, iA b), (3, clF), (8, iA i), (9, iA (w64 (j - 1)))] [.a 62 6 n (iiE j X)], .any⟩) none := by kernel_rfl
theorem ii_end : evCM Tryz.prog [⟨131, eSS fun x y => iA (cf x y)⟩] [] [] noL (loopAt Tryz.f165 1) (iiS n a b i j X) (finE keepIi [some 0]) = iiC cf n a j X none (some ⟨.exit 2, iiS n a b i j X, .any⟩) := by kernel_rfl
end
end Go.Proofs.YtancjnambbkhmaaGreat.Hs.So

namespace Go.Proofs.YtancjnambbkhmaaGreat.Hs.So
open Go.Gv
open Go.Ev (cn fadd fsub fmul fdiv fsqrt fneg feq flt fle fgt fge fabs isNan key flt_key fgt_key feq_key)

section
variable (cf : Spn → Spn → Int) (n : Nat) (a b i : Int) (X X' : Nat → Spn)
noncomputable def ioL (j' : Int) : Nat → Option LFun := oneL 4 (toldP 1 keepIi [some 0] (iiS n a b i i X) (.exit 2) (iiS n a b i j' X'))
theorem io_step (j' : Int) : evCM Tryz.prog [⟨131, eSS fun x y => iA (cf x y)⟩] [] [] (ioL n a b i X X' j') (loopAt Tryz.f165 0) (ioS n a b i X) (finN keepIo [some 0]) = cond (decide (i < b)) (gate (SubN 1 (iiS n a b i i X) (iiS n a b i i X)) (some ⟨.normal, ioS n a b (w64 (i + 1)) X', .any⟩)) none := by kernel_rfl
theorem io_end : evCM Tryz.prog [⟨131, eSS fun x y => iA (cf x y)⟩] [] [] (oneL 4 fun _ _ => none) (loopAt Tryz.f165 0) (ioS n a b i X) (finE keepIo [some 0]) = cond (decide (i < b)) none (some ⟨.exit 0, ioS n a b i X, .any⟩) := by kernel_rfl
theorem is_ev : evG Tryz.prog [⟨131, eSS fun x y => iA (cf x y)⟩] [] [] (oneL 1 (toldP 1 keepIo [some 0] (ioS n a b (w64 (a + 1)) X) (.exit 0) (ioS n a b i X'))) Tryz.f165 [.osl 0 6 0 n, iA a, iA b, clF] [.a 62 6 n (elX X)] [some 0] = gate (SubN 1 (ioS n a b (w64 (a + 1)) X) (ioS n a b (w64 (a + 1)) X)) (gout (.tup []) [.a 62 6 n (elX X')]) := by kernel_rfl
end
theorem ins_pos : ∀ (S : List Spn) (x : Spn), ∃ p, p ≤ S.length ∧ (∀ y, y ∈ S.drop p → befB x y = true) ∧ (p = 0 ∨ befB x (gtL S (p - 1)) = false) ∧ ins S x = S.take p ++ x :: S.drop p
  | [], x => ⟨0, Nat.le_refl _, fun y hy => (by cases hy), Or.inl rfl, rfl⟩
  | y :: l, x => by
    cases h : (y :: l).all (befB x)
    · obtain ⟨p, h1, h2, h3, h4⟩ := ins_pos l x
      refine ⟨p + 1, by rw [List.length_cons]; omega, h2, Or.inr ?_, ?_⟩
      · show befB x (gtL (y :: l) p) = false
        rcases h3 with h3 | h3
        · subst h3
          have hl : l.all (befB x) = true := List.all_eq_true.2 h2
          rw [List.all_cons, hl, Bool.and_true] at h
          exact h
        · by_cases hp : p = 0
          · subst hp
            have hl : l.all (befB x) = true := List.all_eq_true.2 h2
            rw [List.all_cons, hl, Bool.and_true] at h
            exact h
          · obtain ⟨q, rfl⟩ : ∃ q, p = q + 1 := ⟨p - 1, by omega⟩
            exact h3
      · show cond ((y :: l).all (befB x)) _ _ = _
        rw [h, cond_false, h4]; rfl
    · refine ⟨0, Nat.zero_le _, List.all_eq_true.1 h, Or.inl rfl, ?_⟩
      show cond ((y :: l).all (befB x)) _ _ = _
      rw [h]; rfl
theorem gt_mid {U V : List Spn} {x : Spn} : gtL (U ++ x :: V) U.length = x := by
  unfold gtL
  rw [List.getD_eq_getElem?_getD, List.getElem?_append_right (Nat.le_refl _), Nat.sub_self]; rfl
theorem gt_swap {U V : List Spn} {x s : Spn} (q : Nat) : cond (q == U.length) x (cond (q == U.length + 1) s (gtL (U ++ s :: x :: V) q)) = gtL (U ++ x :: s :: V) q := by
  by_cases h1 : q = U.length
  · subst h1
    rw [BEq.rfl, cond_true, gt_mid]
  · rw [beq_false_of_ne h1, cond_false]
    by_cases h2 : q = U.length + 1
    · subst h2
      rw [BEq.rfl, cond_true]
      have : U ++ x :: s :: V = (U ++ [x]) ++ s :: V := by simp
      rw [this]
      have hl : U.length + 1 = (U ++ [x]).length := by simp
      rw [hl, gt_mid]
    · rw [beq_false_of_ne h2, cond_false]
      unfold gtL
      rw [List.getD_eq_getElem?_getD, List.getD_eq_getElem?_getD]
      by_cases h3 : q < U.length
      · rw [List.getElem?_append_left h3, List.getElem?_append_left h3]
      · rw [List.getElem?_append_right (by omega), List.getElem?_append_right (by omega)]
        obtain ⟨r, hr⟩ : ∃ r, q - U.length = r + 2 := ⟨q - U.length - 2, by omega⟩
        rw [hr]; rfl
theorem cmp_lt {x y : Spn} (hx : isNan x.i.t = false) (hy : isNan y.i.t = false) : decide (cmpS x.i.t y.i.t < 0) = befB x y := by
  unfold cmpS befB
  have e1 : feq x.i.t x.i.t = true := by rw [feq_key hx hx]; simp
  have e2 : feq y.i.t y.i.t = true := by rw [feq_key hy hy]; simp
  rw [e1, e2]
  cases flt x.i.t y.i.t
  · cases fgt x.i.t y.i.t <;> rfl
  · rfl
def midL (S T : List Spn) (x : Spn) (j : Nat) : List Spn := S.take j ++ x :: (S.drop j ++ T)
theorem mid_step {S T : List Spn} {x : Spn} {j : Nat} (h0 : 0 < j) (h1 : j ≤ S.length) : ∃ U V, U.length = j - 1 ∧ midL S T x j = U ++ gtL S (j - 1) :: x :: V ∧ midL S T x (j - 1) = U ++ x :: gtL S (j - 1) :: V := by
  obtain ⟨k, rfl⟩ : ∃ k, j = k + 1 := ⟨j - 1, by omega⟩
  refine ⟨S.take k, S.drop (k + 1) ++ T, by rw [List.length_take]; show min k S.length = k; omega, ?_, ?_⟩
  · unfold midL
    rw [take_succ' (by omega), List.append_assoc]; rfl
  · unfold midL
    show S.take k ++ x :: (S.drop k ++ T) = _
    rw [List.drop_eq_getElem_cons (show k < S.length by omega)]
    unfold gtL
    show _ = S.take k ++ x :: S.getD k dS :: _
    rw [List.getD_eq_getElem?_getD, List.getElem?_eq_getElem (by omega)]; rfl
theorem iiG_t {n : Nat} {j : Nat} (hj : j < n) (hn : n ≤ 1000) : iiG n 0 (j : Nat) = true := by
  unfold iiG gB
  by_cases h : 0 < j
  · rw [ixB_t hj, Int.toNat_natCast, Nat.zero_add, blt_t hj, w64_id (by omega) (by omega), show ((j : Int) - 1) = ((j - 1 : Nat) : Int) by omega, ixB_t (by omega), Int.toNat_natCast, Nat.zero_add, blt_t (by omega)]
    rfl
  · have : j = 0 := by omega
    subst this
    rw [decide_eq_false (show ¬ ((0 : Nat) : Int) > 0 by omega)]
    simp
theorem iiW_t {n : Nat} {j : Nat} (h0 : 0 < j) (hj : j < n) (hn : n ≤ 1000) : iiW n (j : Nat) = true := by
  unfold iiW bl'
  rw [ixB_t hj, Int.toNat_natCast, w64_id (by omega) (by omega), show ((j : Int) - 1) = ((j - 1 : Nat) : Int) by omega, ixB_t (by omega), Int.toNat_natCast, Nat.zero_add, Nat.zero_add, blt_t hj, blt_t (by omega)]
  rfl
theorem eCl_ok : ∀ e, e ∈ [(⟨131, eSS fun x y => iA (cmpS x.i.t y.i.t)⟩ : Entry)] → EOk Tryz.prog e := e_cons (eSS_ok scl) e_nil
theorem ii_leads {S T : List Spn} {x : Spn} {n : Nat} {b i : Int} (hn : S.length < n) (hn2 : n ≤ 1000) (hS : ∀ s, s ∈ S → isNan s.i.t = false) (hx : isNan x.i.t = false) : ∃ j' : Int, LeadsN 1 Tryz.prog (.loop (loopAt Tryz.f165 1)) (iiS n 0 b i (S.length : Nat) (gtL (S ++ x :: T))) (.exit 2) (iiS n 0 b i j' (gtL (ins S x ++ T))) := by
  obtain ⟨p, h1, h2, h3, h4⟩ := ins_pos S x
  have gm : ∀ k, k < S.length → isNan (gtL S k).i.t = false := fun k hk => by
    refine hS _ ?_
    unfold gtL
    rw [List.getD_eq_getElem?_getD, List.getElem?_eq_getElem hk]
    exact List.getElem_mem _
  have tst : ∀ j : Nat, j ≤ S.length → iiT (fun x y => cmpS x.i.t y.i.t) 0 (j : Nat) (gtL (midL S T x j)) = cond (decide (0 < j)) (befB x (gtL S (j - 1))) false := fun j hj => by
    unfold iiT
    by_cases h0 : 0 < j
    · obtain ⟨U, V, hu, e1, _⟩ := mid_step (T := T) (x := x) h0 hj
      rw [decide_eq_true (show ((j : Nat) : Int) > 0 by omega), decide_eq_true h0, cond_true, cond_true, Int.toNat_natCast, Nat.zero_add, w64_id (by omega) (by omega), show ((j : Int) - 1) = ((j - 1 : Nat) : Int) by omega, Int.toNat_natCast, Nat.zero_add]
      have g1 : gtL (midL S T x j) (j - 1) = gtL S (j - 1) := by rw [e1, ← hu, gt_mid]
      have g2 : gtL (midL S T x j) j = x := by
        unfold midL
        have hl : (S.take j).length = j := by rw [List.length_take]; omega
        have := gt_mid (U := S.take j) (V := S.drop j ++ T) (x := x)
        rw [hl] at this
        exact this
      rw [g1, g2]
      exact cmp_lt hx (gm _ (by omega))
    · rw [decide_eq_false (show ¬ ((j : Nat) : Int) > 0 by omega), decide_eq_false h0]; rfl
  refine ⟨(p : Nat), ?_⟩
  have h : LeadsN 1 Tryz.prog (.loop (loopAt Tryz.f165 1)) (iiS n 0 b i ((S.length - 0 : Nat) : Int) (gtL (midL S T x (S.length - 0)))) (.exit 2) (iiS n 0 b i (p : Nat) (gtL (midL S T x p))) := by
    refine loop_rule (fun k => iiS n 0 b i ((S.length - k : Nat) : Int) (gtL (midL S T x (S.length - k)))) (S.length - p) (.exit 2) _ (by simp) (fun k hk => ?_) ?_
    · generalize hj : S.length - k = j
      have hj0 : 0 < j := by omega
      have hjp : p < j := by omega
      obtain ⟨U, V, hu, e1, e2⟩ := mid_step (T := T) (x := x) hj0 (show j ≤ S.length by omega)
      have st := ii_step (fun x y => cmpS x.i.t y.i.t) n 0 b i (j : Nat) (gtL (midL S T x j))
      unfold iiC at st
      have hb : befB x (gtL S (j - 1)) = true := by
        refine h2 _ ?_
        unfold gtL
        rw [List.getD_eq_getElem?_getD, List.getElem?_eq_getElem (by omega)]
        show S[j - 1] ∈ _
        have : (S.drop p)[j - 1 - p]? = some S[j - 1] := by rw [List.getElem?_drop, show p + (j - 1 - p) = j - 1 by omega, List.getElem?_eq_getElem (by omega)]
        exact List.mem_of_getElem? this
      rw [iiG_t (by omega) hn2, tst j (by omega), decide_eq_true hj0, cond_true, cond_true, hb, cond_true, iiW_t hj0 (by omega) hn2, cond_true] at st
      refine (leads_evMN (finN_subN keepIi (τ := [some 0]) (by rfl)) eCl_ok k_nil m_nil noL_okN st).sub (SubN.refl _) ?_
      rw [w64_id (by omega) (by omega), show ((j : Int) - 1) = ((S.length - (k + 1) : Nat) : Int) by omega, show S.length - (k + 1) = j - 1 by omega]
      refine sub_same ⟨Or.inr ⟨62, 6, n, _, _, rfl, rfl, fun q hq => ?_⟩, trivial⟩
      unfold iiE
      rw [w64_id (by omega) (by omega), Int.toNat_natCast, Nat.zero_add, show ((j : Int) - 1) = ((j - 1 : Nat) : Int) by omega, Int.toNat_natCast, Nat.zero_add, mix_c, mix_c]
      refine congrArg Spn.c (show gtL (midL S T x (j - 1)) q = _ from ?_)
      rw [e1, e2]
      have g1 : gtL (U ++ gtL S (j - 1) :: x :: V) (j - 1) = gtL S (j - 1) := by rw [← hu, gt_mid]
      have g2 : gtL (U ++ gtL S (j - 1) :: x :: V) j = x := by
        have : U ++ gtL S (j - 1) :: x :: V = (U ++ [gtL S (j - 1)]) ++ x :: V := by simp
        rw [this]
        have hl : (U ++ [gtL S (j - 1)]).length = j := by rw [List.length_append, hu]; show j - 1 + 1 = j; omega
        have := gt_mid (U := U ++ [gtL S (j - 1)]) (V := V) (x := x)
        rw [hl] at this
        exact this
      rw [g1, g2]
      have := gt_swap (U := U) (V := V) (x := x) (s := gtL S (j - 1)) q
      rw [hu, show j - 1 + 1 = j by omega] at this
      exact this.symm
    · rw [show S.length - (S.length - p) = p by omega]
      refine leads_evMN (finE_subN keepIi (τ := [some 0]) (by rfl)) eCl_ok k_nil m_nil noL_okN ((ii_end (fun x y => cmpS x.i.t y.i.t) n 0 b i (p : Nat) (gtL (midL S T x p))).trans ?_)
      unfold iiC
      rw [iiG_t (by omega) hn2, tst p h1, cond_true]
      rcases h3 with h3 | h3
      · subst h3; rfl
      · rw [h3]
        cases decide (0 < p) <;> rfl
  rw [Nat.sub_zero] at h
  have e1 : midL S T x S.length = S ++ x :: T := by unfold midL; rw [List.take_length, List.drop_length]; rfl
  have e2 : midL S T x p = ins S x ++ T := by unfold midL; rw [h4, List.append_assoc]; rfl
  rw [e1, e2] at h
  exact h
theorem none_soundN {np : Nat} {P : Program} {c : Code} : LSoundN np P c (fun _ _ => none) := ⟨fun s k r h => (by cases h), fun s s' e hk => (by have := hk (fun _ _ => some ⟨.normal, s, .any⟩); cases this)⟩
theorem ins_len : ∀ (S : List Spn) (x : Spn), (ins S x).length = S.length + 1 := fun S x => by
  obtain ⟨p, h1, _, _, h4⟩ := ins_pos S x
  rw [h4, List.length_append, List.length_cons, List.length_take, List.length_drop]
  omega
theorem ins_mem {S : List Spn} {x y : Spn} (h : y ∈ ins S x) : y = x ∨ y ∈ S := by
  obtain ⟨p, h1, _, _, h4⟩ := ins_pos S x
  rw [h4] at h
  rcases List.mem_append.1 h with h | h
  · exact Or.inr (List.mem_of_mem_take h)
  · rcases List.mem_cons.1 h with h | h
    · exact Or.inl h
    · exact Or.inr (List.mem_of_mem_drop h)
def srtL (L : List Spn) : List Spn := L.foldl ins []
theorem srt_take {L : List Spn} {k : Nat} (hk : k < L.length) : srtL (L.take (k + 1)) = ins (srtL (L.take k)) (gtL L k) := by
  unfold srtL
  rw [take_succ' hk, List.foldl_append]; rfl
theorem srt_len (L : List Spn) : ∀ k, k ≤ L.length → (srtL (L.take k)).length = k
  | 0, _ => rfl
  | k + 1, hk => by rw [srt_take (by omega), ins_len, srt_len L k (by omega)]
theorem srt_mem {L : List Spn} {y : Spn} : ∀ k, k ≤ L.length → y ∈ srtL (L.take k) → y ∈ L
  | 0, _, h => by cases h
  | k + 1, hk, h => by
    rw [srt_take (by omega)] at h
    rcases ins_mem h with h | h
    · rw [h]
      unfold gtL
      rw [List.getD_eq_getElem?_getD, List.getElem?_eq_getElem (by omega)]
      exact List.getElem_mem _
    · exact srt_mem k (by omega) h
theorem drop_gt {L : List Spn} {k : Nat} (hk : k < L.length) : L.drop k = gtL L k :: L.drop (k + 1) := by
  rw [List.drop_eq_getElem_cons hk]
  unfold gtL
  rw [List.getD_eq_getElem?_getD, List.getElem?_eq_getElem hk]; rfl
theorem io_leads {L : List Spn} (h0 : 0 < L.length) (hn : L.length ≤ 1000) (hL : ∀ s, s ∈ L → isNan s.i.t = false) : LeadsN 1 Tryz.prog (.loop (loopAt Tryz.f165 0)) (ioS L.length 0 L.length 1 (gtL L)) (.exit 0) (ioS L.length 0 L.length L.length (gtL (srtL L))) := by
  have h : LeadsN 1 Tryz.prog (.loop (loopAt Tryz.f165 0)) (ioS L.length 0 L.length ((0 + 1 : Nat) : Int) (gtL (srtL (L.take (0 + 1)) ++ L.drop (0 + 1)))) (.exit 0) (ioS L.length 0 L.length (L.length : Nat) (gtL (srtL L))) := by
    refine loop_rule (fun k => ioS L.length 0 L.length ((k + 1 : Nat) : Int) (gtL (srtL (L.take (k + 1)) ++ L.drop (k + 1)))) (L.length - 1) (.exit 0) _ (by simp) (fun k hk => ?_) ?_
    · have hk1 : k + 1 < L.length := by omega
      have hlen := srt_len L (k + 1) (by omega)
      obtain ⟨j', hj⟩ := ii_leads (S := srtL (L.take (k + 1))) (T := L.drop (k + 1 + 1)) (x := gtL L (k + 1)) (n := L.length) (b := L.length) (i := ((k + 1 : Nat) : Int)) (by omega) hn (fun s hs => hL s (srt_mem _ (by omega) hs)) (hL _ (by
        unfold gtL
        rw [List.getD_eq_getElem?_getD, List.getElem?_eq_getElem hk1]
        exact List.getElem_mem _))
      rw [hlen, ← drop_gt hk1, ← srt_take hk1] at hj
      refine leads_evMN (finN_subN keepIo (τ := [some 0]) (by rfl)) eCl_ok k_nil m_nil (lokN_one (c := loopAt Tryz.f165 0) (i := 4) 1 (by kernel_rfl) fun j hj' _ => ?_) ((io_step (fun x y => cmpS x.i.t y.i.t) L.length 0 L.length ((k + 1 : Nat) : Int) (gtL (srtL (L.take (k + 1)) ++ L.drop (k + 1))) (gtL (srtL (L.take (k + 1 + 1)) ++ L.drop (k + 1 + 1))) j').trans ?_)
      · have : j = 0 := by omega
        subst this
        exact toldP_sound (by rfl) hj
      · rw [dec_lt hk1, gate_pos (SubN.refl _), w64_next (by omega)]
        rfl
    · have e1 : L.length - 1 + 1 = L.length := by omega
      have e2 : srtL (L.take (L.length - 1 + 1)) ++ L.drop (L.length - 1 + 1) = srtL L := by rw [e1, List.take_length, List.drop_length, List.append_nil]
      show LeadsN 1 Tryz.prog _ (ioS L.length 0 L.length ((L.length - 1 + 1 : Nat) : Int) (gtL (srtL (L.take (L.length - 1 + 1)) ++ L.drop (L.length - 1 + 1)))) _ _
      rw [e2, e1]
      refine leads_evMN (finE_subN keepIo (τ := [some 0]) (by rfl)) eCl_ok k_nil m_nil (lokN_one (c := loopAt Tryz.f165 0) (i := 4) 1 (by kernel_rfl) fun j hj' _ => ?_) ((io_end (fun x y => cmpS x.i.t y.i.t) L.length 0 L.length (L.length : Nat) (gtL (srtL L))).trans ?_)
      · exact none_soundN
      · rw [dec_self, cond_false]
  have e0 : srtL (L.take (0 + 1)) ++ L.drop (0 + 1) = L := by
    rw [srt_take h0]
    show ins [] (gtL L 0) ++ L.drop (0 + 1) = L
    show gtL L 0 :: L.drop (0 + 1) = L
    rw [← drop_gt h0]; rfl
  rw [e0] at h
  exact h
/-- A row sorted. -/
theorem is_spec {L : List Spn} (h0 : 0 < L.length) (hn : L.length ≤ 1000) (hL : ∀ s, s ∈ L → isNan s.i.t = false) : GSpec Tryz.prog 165 [.osl 0 6 0 L.length, iA 0, iA L.length, clF] [roL L] (.tup []) [.a 62 6 L.length (elL (srtL L))] := by
  refine gspecG (mem := [roL L]) eCl_ok k_nil m_nil Tryz.func165 (by kernel_rfl) (by kernel_rfl) (lokN_one (c := bodyOf Tryz.f165) (i := 1) 2 (by kernel_rfl) fun j hj hid => ?_) rfl (by kernel_rfl) ((is_ev (fun x y => cmpS x.i.t y.i.t) L.length 0 L.length L.length (gtL L) (gtL (srtL L))).trans ?_)
  · have : j = 0 ∨ j = 1 := by omega
    rcases this with rfl | rfl
    · exact toldP_sound (by rfl) (io_leads h0 hn hL)
    · exact absurd hid (by decide)
  · rw [gate_pos (SubN.refl _)]
    rfl
/-- Nothing to sort. -/
theorem is_spec0 {L : List Spn} (a b : Int) (h : ¬ w64 (a + 1) < b) : GSpec Tryz.prog 165 [.osl 0 6 0 L.length, iA a, iA b, clF] [roL L] (.tup []) [roL L] := by
  refine gspecG (mem := [roL L]) eCl_ok k_nil m_nil Tryz.func165 (by kernel_rfl) (by kernel_rfl) (lokN_one (c := bodyOf Tryz.f165) (i := 1) 2 (by kernel_rfl) fun j hj hid => ?_) rfl (by kernel_rfl) ((is_ev (fun x y => cmpS x.i.t y.i.t) L.length a b (w64 (a + 1)) (gtL L) (gtL L)).trans ?_)
  · have : j = 0 ∨ j = 1 := by omega
    rcases this with rfl | rfl
    · refine toldP_sound (by rfl) (loop_rule (fun _ => ioS L.length a b (w64 (a + 1)) (gtL L)) 0 (.exit 0) _ (by simp) (fun j hj => absurd hj (Nat.not_lt_zero j)) ?_)
      refine leads_evMN (finE_subN keepIo (τ := [some 0]) (by rfl)) eCl_ok k_nil m_nil (lokN_one (c := loopAt Tryz.f165 0) (i := 4) 1 (by kernel_rfl) fun j hj' _ => ?_) ((io_end (fun x y => cmpS x.i.t y.i.t) L.length a b (w64 (a + 1)) (gtL L)).trans ?_)
      · exact none_soundN
      · rw [decide_eq_false h, cond_false]
    · exact absurd hid (by decide)
  · rw [gate_pos (SubN.refl _)]
    rfl
end Go.Proofs.YtancjnambbkhmaaGreat.Hs.So

namespace Go.Proofs.YtancjnambbkhmaaGreat.Hs.So
open Go.Gv
open Go.Ev (cn fadd fsub fmul fdiv fsqrt fneg feq flt fle fgt fge fabs isNan key flt_key fgt_key feq_key)

abbrev SG : Type := Nat → (Nat → List AV) → Int → Int → Nat → Spn
noncomputable def srC' (f : Nat) (G : SG) : List AV → List Row → Option (Bool × AV × List Row)
  | [.osl 0 6 0 m, .x (.int .i64 a), .x (.int .i64 b), g], [.a e sz n el] => some (propB (GSpec Tryz.prog f [.osl 0 6 0 m, iA a, iA b, g] [.a e sz n el] (.tup []) [.a 62 6 n (elX (G n el a b))]), .tup [], [.a 62 6 n (elX (G n el a b))])
  | _, _ => none
noncomputable def mSr (f : Nat) (G : SG) : MEntry := ⟨f, liftM (some 0) (srC' f G), none⟩
theorem mSr_ok {f : Nat} {G : SG} : MEOk Tryz.prog (mSr f G) := by
  refine ⟨liftM_ok fun args rs v mem1 hc => ?_, fun _ h => by cases h⟩
  unfold srC' at hc
  split at hc
  · simp only [Option.some.injEq, Prod.mk.injEq] at hc
    obtain ⟨h1, rfl, rfl⟩ := hc
    refine ⟨propB_of h1, fun i hi hw => ?_⟩
    have : i = 0 := by simpa using hi
    subst this
    exact absurd rfl hw
  · cases hc
noncomputable def mqB (f : Nat) (G : SG) (n : Nat) (X : Nat → Spn) (a b : Int) : Bool := (propB (GSpec Tryz.prog f [.osl 0 6 0 n, iA a, iA b, clF] [.a 62 6 n (elX X)] (.tup []) [.a 62 6 n (elX (G n (elX X) a b))]) && (Nat.blt 0 (0 + n) && true)) || false
def s1S (n : Nat) (a b : Int) (X : Nat → Spn) : St := mkS 63 [(0, .osl 0 6 0 n), (1, iA n), (2, clF), (6, iA 20), (7, iA a), (8, iA b)] [.a 62 6 n (elX X)]
def keepS1 : List Nat := [0, 1, 2, 6, 7, 8]
section
variable (G : SG) (n : Nat) (a b : Int) (X : Nat → Spn)
theorem s1_step : evCM Tryz.prog [] [] [mSr 165 G] noL (loopAt Tryz.f152 0) (s1S n a b X) (finN keepS1 [some 0]) = cond (decide (b ≤ n)) (cond (mqB 165 G n X a b) (some ⟨.normal, s1S n b (w64 (b + 20)) (G n (elX X) a b), .any⟩) none) none := by kernel_rfl
theorem s1_end : evCM Tryz.prog [] [] [mSr 165 G] noL (loopAt Tryz.f152 0) (s1S n a b X) (finE keepS1 [some 0]) = cond (decide (b ≤ n)) (cond (mqB 165 G n X a b) none none) (some ⟨.exit 0, s1S n a b X, .any⟩) := by kernel_rfl
noncomputable def s2L (a' b' : Int) (X' : Nat → Spn) : Nat → Option LFun := twoL 2 (toldP 1 keepS1 [some 0] (s1S n 0 20 X) (.exit 0) (s1S n a' b' X')) 7 (toldP 1 keepS1 [some 0] (s1S n a' b' (G n (elX X') a' n)) (.exit 2) (s1S n a' b' (G n (elX X') a' n)))
theorem st_ev (a' b' : Int) (X' : Nat → Spn) : evG Tryz.prog [] [] [mSr 165 G] (s2L G n X a' b' X') Tryz.f152 [.osl 0 6 0 n, iA n, clF] [.a 62 6 n (elX X)] [some 0] =
    gate (SubN 1 (s1S n 0 20 X) (s1S n 0 20 X)) (cond (mqB 165 G n X' a' n) (gate (SubN 1 (s1S n a' b' (G n (elX X') a' n)) (s1S n a' b' (G n (elX X') a' n))) (gout (.tup []) [.a 62 6 n (elX (G n (elX X') a' n))])) none) := by kernel_rfl
theorem s2_end : evCM Tryz.prog [] [] [mSr 165 G] (oneL 9 fun _ _ => none) (loopAt Tryz.f152 1) (s1S n a b X) (finE keepS1 [some 0]) = cond (decide ((20 : Int) < n)) none (some ⟨.exit 2, s1S n a b X, .any⟩) := by kernel_rfl
end
theorem lokN_all {np : Nat} {P : Program} {c : Code} {L : Nat → Option LFun} (m : Nat) (hlen : (loopsOf c).length = m) (h : ∀ j, j < m → ∀ i g, firstId ((loopsOf c).getD j .skip) = some i → L i = some g → LSoundN np P ((loopsOf c).getD j .skip) g) : LOkN np P L c := by
  intro c' hc i g hi hg
  obtain ⟨j, hj, rfl⟩ := List.mem_iff_getElem.1 hc
  have e2 : (loopsOf c).getD j .skip = (loopsOf c)[j] := by rw [List.getD_eq_getElem?_getD, List.getElem?_eq_getElem hj]; rfl
  have := h j (by omega) i g (by rw [e2]; exact hi) hg
  rw [e2] at this
  exact this
/-- What the sorting of a part makes of a row. -/
def srG (n : Nat) (el : Nat → List AV) (a _b : Int) : Nat → Spn := cond (a == 0) (gtL (srtL (decL n el))) (gtL (decL n el))
theorem srG_0 (L : List Spn) (b : Int) : srG L.length (elX (gtL L)) 0 b = gtL (srtL L) := by
  show gtL (srtL (decL L.length (elL L))) = _
  rw [decL_el]
theorem srtL_len (L : List Spn) : (srtL L).length = L.length := by
  have := srt_len L L.length (Nat.le_refl _)
  rw [List.take_length] at this
  exact this
theorem srG_20 {L : List Spn} (h : L.length = 20) (b : Int) : srG 20 (elX (gtL L)) 20 b = gtL L := by
  show gtL (decL 20 (elL L)) = _
  rw [← h, decL_el]
theorem mq_t {L : List Spn} (h0 : 0 < L.length) (hn : L.length ≤ 1000) (hL : ∀ s, s ∈ L → isNan s.i.t = false) : mqB 165 srG L.length (gtL L) 0 L.length = true := by
  unfold mqB
  rw [srG_0, propB_t (show GSpec Tryz.prog _ [.osl 0 6 0 L.length, iA 0, iA L.length, clF] [.a 62 6 L.length (elX (gtL L))] (.tup []) [.a 62 6 L.length (elX (gtL (srtL L)))] from is_spec h0 hn hL), blt_t (by omega)]
  rfl
theorem s2_leads {n : Nat} (hn : n ≤ 20) (a b : Int) (X : Nat → Spn) : LeadsN 1 Tryz.prog (.loop (loopAt Tryz.f152 1)) (s1S n a b X) (.exit 2) (s1S n a b X) := by
  refine loop_rule (fun _ => s1S n a b X) 0 (.exit 2) _ (by simp) (fun j hj => absurd hj (Nat.not_lt_zero j)) ?_
  refine leads_evMN (finE_subN keepS1 (τ := [some 0]) (by rfl)) e_nil k_nil (m_cons mSr_ok m_nil) (lokN_one (c := loopAt Tryz.f152 1) (i := 9) 1 (by kernel_rfl) fun _ _ _ => none_soundN) ((s2_end srG n a b X).trans ?_)
  rw [decide_eq_false (by omega), cond_false]
theorem st_of {n : Nat} (hn : n ≤ 20) {X X' : Nat → Spn} {a' b' : Int} (h1 : LeadsN 1 Tryz.prog (.loop (loopAt Tryz.f152 0)) (s1S n 0 20 X) (.exit 0) (s1S n a' b' X')) (h2 : mqB 165 srG n X' a' n = true) :
    GSpec Tryz.prog 152 [.osl 0 6 0 n, iA n, clF] [.a 62 6 n (elX X)] (.tup []) [.a 62 6 n (elX (srG n (elX X') a' n))] := by
  refine gspecG (mem := [.a 62 6 n (elX X)]) e_nil k_nil (m_cons mSr_ok m_nil) Tryz.func152 (by kernel_rfl) (by kernel_rfl) (lokN_all (c := bodyOf Tryz.f152) (L := s2L srG n X a' b' X') 3 (by kernel_rfl) fun j hj i g hi hg => ?_) rfl (by kernel_rfl) ((st_ev srG n X a' b' X').trans ?_)
  · have : j = 0 ∨ j = 1 ∨ j = 2 := by omega
    rcases this with rfl | rfl | rfl
    · have e : i = 2 := Option.some.inj (hi.symm.trans (by decide))
      subst e
      cases hg
      exact toldP_sound (by rfl) h1
    · have e : i = 7 := Option.some.inj (hi.symm.trans (by decide))
      subst e
      cases hg
      exact toldP_sound (by rfl) (s2_leads hn a' b' _)
    · have e : i = 9 := Option.some.inj (hi.symm.trans (by decide))
      subst e
      cases hg
  · rw [gate_pos (SubN.refl _), h2, cond_true, gate_pos (SubN.refl _)]
/-- A row of at most twenty, sorted. -/
theorem st_spec {L : List Spn} (h0 : 0 < L.length) (hn : L.length ≤ 20) (hL : ∀ s, s ∈ L → isNan s.i.t = false) : GSpec Tryz.prog 152 [.osl 0 6 0 L.length, iA L.length, clF] [roL L] (.tup []) [.a 62 6 L.length (elL (srtL L))] := by
  by_cases h : L.length < 20
  · have h1 : LeadsN 1 Tryz.prog (.loop (loopAt Tryz.f152 0)) (s1S L.length 0 20 (gtL L)) (.exit 0) (s1S L.length 0 20 (gtL L)) := by
      refine loop_rule (fun _ => s1S L.length 0 20 (gtL L)) 0 (.exit 0) _ (by simp) (fun j hj => absurd hj (Nat.not_lt_zero j)) ?_
      refine leads_evMN (finE_subN keepS1 (τ := [some 0]) (by rfl)) e_nil k_nil (m_cons mSr_ok m_nil) noL_okN ((s1_end srG L.length 0 20 (gtL L)).trans ?_)
      rw [decide_eq_false (show ¬ (20 : Int) ≤ L.length by omega), cond_false]
    have := st_of hn h1 (mq_t h0 (by omega) hL)
    rw [srG_0] at this
    exact this
  · have e : L.length = 20 := by omega
    have hl2 : (srtL L).length = 20 := by rw [srtL_len, e]
    have h1 : LeadsN 1 Tryz.prog (.loop (loopAt Tryz.f152 0)) (s1S L.length 0 20 (gtL L)) (.exit 0) (s1S L.length 20 40 (gtL (srtL L))) := by
      refine loop_rule (fun k => cond (k == 0) (s1S L.length 0 20 (gtL L)) (s1S L.length 20 40 (gtL (srtL L)))) 1 (.exit 0) _ (by simp) (fun j hj => ?_) ?_
      · have : j = 0 := by omega
        subst this
        refine leads_evMN (finN_subN keepS1 (τ := [some 0]) (by rfl)) e_nil k_nil (m_cons mSr_ok m_nil) noL_okN ((s1_step srG L.length 0 20 (gtL L)).trans ?_)
        have hq := mq_t h0 (by omega) hL
        rw [show ((L.length : Nat) : Int) = 20 by omega] at hq
        rw [decide_eq_true (show (20 : Int) ≤ L.length by omega), cond_true, hq, cond_true, srG_0]
        rfl
      · refine leads_evMN (finE_subN keepS1 (τ := [some 0]) (by rfl)) e_nil k_nil (m_cons mSr_ok m_nil) noL_okN ((s1_end srG L.length 20 40 (gtL (srtL L))).trans ?_)
        rw [decide_eq_false (show ¬ (40 : Int) ≤ L.length by omega), cond_false]
    have hq : mqB 165 srG L.length (gtL (srtL L)) 20 L.length = true := by
      unfold mqB
      have h3 := is_spec0 (L := srtL L) 20 20 (by decide)
      rw [e, srG_20 hl2]
      rw [hl2] at h3
      have h4 : GSpec Tryz.prog 165 [.osl 0 6 0 20, iA 20, iA ((20 : Nat) : Int), clF] [.a 62 6 20 (elX (gtL (srtL L)))] (.tup []) [.a 62 6 20 (elX (gtL (srtL L)))] := by
        unfold roL at h3
        rw [hl2] at h3
        exact h3
      rw [propB_t h4]
      rfl
    have := st_of hn h1 hq
    rw [e] at this ⊢
    rw [srG_20 hl2] at this
    unfold roL
    rw [e]
    exact this
abbrev SH2 : Type := Nat → (Nat → List AV) → Nat → Spn
noncomputable def stC (f : Nat) (G : SH2) : List AV → List Row → Option (Bool × AV × List Row)
  | .osl 0 6 0 m :: rest, [.a e sz n el] => some (propB (GSpec Tryz.prog f (.osl 0 6 0 m :: rest) [.a e sz n el] (.tup []) [.a 62 6 n (elX (G n el))]), .tup [], [.a 62 6 n (elX (G n el))])
  | _, _ => none
noncomputable def mSt (f : Nat) (G : SH2) : MEntry := ⟨f, liftM (some 0) (stC f G), none⟩
theorem mSt_ok {f : Nat} {G : SH2} : MEOk Tryz.prog (mSt f G) := by
  refine ⟨liftM_ok fun args rs v mem1 hc => ?_, fun _ h => by cases h⟩
  unfold stC at hc
  split at hc
  · simp only [Option.some.injEq, Prod.mk.injEq] at hc
    obtain ⟨h1, rfl, rfl⟩ := hc
    refine ⟨propB_of h1, fun i hi hw => ?_⟩
    have : i = 0 := by simpa using hi
    subst this
    exact absurd rfl hw
  · cases hc
noncomputable def mtB (f : Nat) (G : SH2) (n : Nat) (X : Nat → Spn) (rest : List AV) : Bool := (propB (GSpec Tryz.prog f (.osl 0 6 0 n :: rest) [.a 62 6 n (elX X)] (.tup []) [.a 62 6 n (elX (G n (elX X)))]) && (Nat.blt 0 (0 + n) && true)) || false
theorem so_ev (G : SH2) (n : Nat) (X : Nat → Spn) : evG Tryz.prog [] [] [mSt 152 G] noL Tryz.f130 [.osl 0 6 0 n, clF] [.a 62 6 n (elX X)] [some 0] = cond (mtB 152 G n X [iA n, clF]) (gout (.tup []) [.a 62 6 n (elX (G n (elX X)))]) none := by kernel_rfl
def srD : SH2 := fun n el => gtL (srtL (decL n el))
theorem srD_eq (L : List Spn) : srD L.length (elX (gtL L)) = gtL (srtL L) := by
  show gtL (srtL (decL L.length (elL L))) = _
  rw [decL_el]
theorem mt_t {f : Nat} {L : List Spn} {rest : List AV} (h0 : 0 < L.length) (h : GSpec Tryz.prog f (.osl 0 6 0 L.length :: rest) [roL L] (.tup []) [.a 62 6 L.length (elL (srtL L))]) : mtB f srD L.length (gtL L) rest = true := by
  unfold mtB
  rw [srD_eq, propB_t (show GSpec Tryz.prog f (.osl 0 6 0 L.length :: rest) [.a 62 6 L.length (elX (gtL L))] (.tup []) [.a 62 6 L.length (elX (gtL (srtL L)))] from h), blt_t (by omega)]
  rfl
theorem so_spec {L : List Spn} (h0 : 0 < L.length) (hn : L.length ≤ 20) (hL : ∀ s, s ∈ L → isNan s.i.t = false) : GSpec Tryz.prog 130 [.osl 0 6 0 L.length, clF] [roL L] (.tup []) [.a 62 6 L.length (elL (srtL L))] := by
  refine gspecG (mem := [roL L]) e_nil k_nil (m_cons mSt_ok m_nil) Tryz.func130 (by kernel_rfl) (by kernel_rfl) (fun _ _ _ _ _ h => by cases h) rfl (by kernel_rfl) ((so_ev srD L.length (gtL L)).trans ?_)
  rw [mt_t h0 (st_spec h0 hn hL), cond_true, srD_eq]
  rfl
end Go.Proofs.YtancjnambbkhmaaGreat.Hs.So

namespace Go.Proofs.YtancjnambbkhmaaGreat.Hs.So
open Go.RowKit Go.Gv

theorem info62 : (Tryz.prog.info? 62).map (fun i => (i.zero, i.size, i.bytes)) = some (some (.agg #[.float .f64 0, .int .i64 0, .bool false, .float .f64 0, .int .i64 0, .bool false]), 6, 48) := by kernel_rfl
theorem by62 : Tryz.t62.bytes = 48 := by kernel_rfl
/-- The cells of a new row of spans with so much room. -/
def gwC (n c : Nat) : Array Value := Builtin.zeroCells #[.float .f64 0, .int .i64 0, .bool false, .float .f64 0, .int .i64 0, .bool false] n ++ Builtin.zeroCells #[.float .f64 0, .int .i64 0, .bool false, .float .f64 0, .int .i64 0, .bool false] (c - n)
set_option maxHeartbeats 1600000 in
set_option maxRecDepth 1000000 in
theorem grow_walk (n : Nat) (w : World) (h1 : 0 < n) (h2 : n ≤ 1000) :
    Calls Tryz.prog 151 #[.slice none 0 0, .int .i64 n] w fun e w' => e = .returned (.slice (some ⟨w.heap.size, 0, none⟩) 0 (grownCap w n 0 62)) ∧ w' = (w.alloc (.cells (gwC n (grownCap w n 0 62)) 62)).drew := by
  obtain ⟨i0, hi, hz0, hz1, hz2⟩ := info_parts info62
  have e1 : (0 : Int) ≤ ↑n := by omega
  have e2 : ¬ n = 0 := by omega
  have e3 : ¬ 281474976710656 < Builtin.nextslicecap n 0 * Tryz.t62.bytes := by rw [nextslicecap_zero h1, by62]; omega
  have e4 : ¬ n * 6 = 0 := by omega
  have e5 : (n : Int) * (Tryz.t62.bytes : Int) ≤ 281474976710656 := by rw [by62]; omega
  have e6 : (n : Int) ≤ 9223372036854775807 := by omega
  have e7 : ¬ (n : Int) < 0 := by omega
  have e8 : (0 : Int) < n := by omega
  clear h2
  go_enter Tryz.func151, Tryz.ntmps151
  go_wp2
  go_ret
  exact ⟨rfl, rfl⟩
theorem gwC_size (n c : Nat) (h : n ≤ c) : (gwC n c).size = c * 6 := by
  unfold gwC
  rw [Array.size_append, size_zeroCells, size_zeroCells]
  show n * 6 + (c - n) * 6 = c * 6
  omega
/-- A new row of spans, with nothing in it yet. -/
theorem grow_spec (n : Nat) (h1 : 0 < n) (h2 : n ≤ 1000) (el : Nat → List AV) : GSpec Tryz.prog 151 [.x (.slice none 0 0), iA n] [] (.osl 0 6 0 0) [.a 62 6 0 el] := by
  refine ⟨⟨Tryz.f151, Tryz.func151, by kernel_rfl, by kernel_rfl⟩, fun R E cargs hp hW hg hr => ?_⟩
  have hc : cargs = #[.slice none 0 0, .int .i64 n] := by
    obtain ⟨u, us, e0, r1, hr⟩ := rels_cons.1 hr
    obtain ⟨u', us', e1, r2, hr⟩ := rels_cons.1 hr
    have e2 := rels_nil.1 hr
    subst e2 e1
    rw [rel_x.1 r1, rel_x.1 r2] at e0
    apply Array.ext'
    rw [e0]
  subst hc
  refine (grow_walk n E.w h1 h2).mono ?_
  rintro e w' ⟨rfl, rfl⟩
  have hge := grownCap_ge E.w n 0 62
  have hle := grownCap_le_maxLen E.w n 0 62 (by simp only [maxLen]; omega)
  generalize grownCap E.w n 0 62 = c at *
  have hgr : E.w.grownBy (E.w.alloc (.cells (gwC n c) 62)).drew (some E.w.heap.size) := ⟨rfl, rfl, rfl, by simp, fun k hk _ => heap_alloc_old E.w _ hk⟩
  have hnew : (E.w.alloc (.cells (gwC n c) 62)).drew.heap[E.w.heap.size]? = some (.cells (gwC n c) 62 (0, 0)) := heap_alloc_new E.w _
  have hO : E.O 0 = none := hp.1 0 (Nat.le_refl _)
  refine ⟨_, E.row _ 0 E.w.heap.size (c, 0), rfl, rfl, hW.row hgr (Array.getElem?_eq_some_iff.1 hnew).1 (Or.inr (Nat.le_refl _)) (Or.inr (Nat.le_refl _)) (Or.inl hO) rfl (fun k hk b cc hb => ?_) ⟨gwC n c, hnew, gwC_size n c hge, rfl, Nat.zero_le _, hle, fun i hi => absurd hi (Nat.not_lt_zero i)⟩, rel_osl.2 (Or.inr ⟨E.w.heap.size, c, 0, by simp [Env.row], Nat.le_refl _, Nat.zero_le _, by simp⟩)⟩
  rw [hp.1 k (Nat.zero_le _)] at hb; cases hb
end Go.Proofs.YtancjnambbkhmaaGreat.Hs.So

namespace Go.Proofs.YtancjnambbkhmaaGreat.Hs.So
open Go.Gv
open Go.Ev (cn fadd fsub fmul fdiv fsqrt fneg feq flt fle fgt fge fabs isNan key flt_key fgt_key feq_key)

noncomputable def gwE : MEntry := mN Tryz.prog 151 (fun _ => .osl 0 6 0 0) (fun _ => [.a 62 6 0 (elX fun _ => dS)])
noncomputable def gwB (n : Int) : Bool := (propB (GSpec Tryz.prog 151 [.x (.slice none 0 0), iA n] [] (.osl 0 6 0 0) [.a 62 6 0 (elX fun _ => dS)]) && true) || false
def acB (n m : Nat) : Bool := ((n == n) && (Nat.blt 0 m && (allB m (fun _ => true) && Nat.ble ((n + m) * 48) 140737488355328))) || false
def xE (p : Option Addr) (c : Nat) : AV := .x (.slice p 0 c)
section
variable (A B : List Spn) (p p' : Option Addr) (c c' : Nat)
noncomputable def ccZ (a b : Int) (o : Option Out) : Option Out := cond (decide (w64 (0 + a) < 0)) none (cond (decide (w64 (w64 (0 + a) + b) < 0)) none (cond (gwB (w64 (w64 (0 + a) + b))) o none))
theorem cc_ev2 : evG Tryz.prog [] [] [gwE] noL Tryz.f129 [.sl 1 2 (chunk [slL A, slL B] 1)] [] [some 2] = ccZ A.length B.length (cond (acB 0 A.length) (cond (acB (0 + A.length) B.length) (gout (.osl 0 6 0 (0 + A.length + B.length)) [.a 62 6 (0 + A.length + B.length) fun q => mixL (Nat.blt q (0 + A.length)) (mixL (Nat.blt q 0) dS.c (elL A (q - 0))) (elL B (q - (0 + A.length)))]) none) none) := by kernel_rfl
theorem cc_evB : evG Tryz.prog [] [] [gwE] noL Tryz.f129 [.sl 1 2 (chunk [xE p c, slL B] 1)] [] [some 1] = ccZ ((0 : Nat) : Int) B.length (cond (acB 0 B.length) (gout (.osl 0 6 0 (0 + B.length)) [.a 62 6 (0 + B.length) fun q => mixL (Nat.blt q 0) dS.c (elL B (q - 0))]) none) := by kernel_rfl
theorem cc_evA : evG Tryz.prog [] [] [gwE] noL Tryz.f129 [.sl 1 2 (chunk [slL A, xE p c] 1)] [] [some 1] = ccZ A.length ((0 : Nat) : Int) (cond (acB 0 A.length) (gout (.osl 0 6 0 (0 + A.length)) [.a 62 6 (0 + A.length) fun q => mixL (Nat.blt q 0) dS.c (elL A (q - 0))]) none) := by kernel_rfl
end
end Go.Proofs.YtancjnambbkhmaaGreat.Hs.So

namespace Go.Proofs.YtancjnambbkhmaaGreat.Hs.So
open Go.Gv
open Go.Ev (cn fadd fsub fmul fdiv fsqrt fneg feq flt fle fgt fge fabs isNan key flt_key fgt_key feq_key)

def exR (n : Nat) (X : Nat → Spn) (i : Int) (m : Nat) (el : Nat → List AV) : St := mkS 57 [(6, .osl 1 6 0 m), (16, .osl 0 6 0 n), (17, iA n), (18, iA i)] [.a 62 6 n (elX X), .a 62 6 m el]
def exS (n : Nat) (X : Nat → Spn) (i : Int) (R : List Spn) : St := exR n X i R.length (elL R)
def keepEx : List Nat := [6, 16, 17, 18]
def lastI (m : Nat) : Int := w64 ((m : Int) - 1)
def gF (b : Bool) : Bool := !(decide (b = false) && true)
section
variable (lf : Crs → Crs → Crs) (n : Nat) (X : Nat → Spn) (i : Int) (R : List Spn)
def exG : Bool := (ixB (lastI R.length) R.length || gF (decide (lastI R.length < 0))) && ((Nat.blt (0 + (lastI R.length).toNat) R.length || gF (decide (lastI R.length < 0))) && true)
def exT (s : Spn) : Bool := cond (decide (lastI R.length < 0)) true (fgt s.i.t (gtL R (0 + (lastI R.length).toNat)).o.t)
def exW : Bool := (ixB (lastI R.length) R.length || false) && ((bl' (lastI R.length) R.length) && ((ixB (lastI R.length) R.length || false) && ((bl' (lastI R.length) R.length) && true)))
def exC (o o' oe : Option Out) : Option Out := cond (decide (i < n)) (cond (ixB i n || false) (cond (bl' i n) (cond (exG R) (cond (exT R (X (0 + i.toNat))) (cond (apB R.length 48 || false) o none) (cond (exW R) o' none)) none) none) none) oe
theorem ex_app : evCM Tryz.prog [⟨127, eCC fun a b => (lf a b).v⟩] [] [] noL (loopAt Tryz.f109 0) (exS n X i R) (finS 5 keepEx [some 0, some 4]) = exC n X i R (some ⟨.normal, exR n X (w64 (i + 1)) (R.length + 1) fun q => mixL (Nat.blt q R.length) (elL R q) (X (0 + i.toNat)).c, .any⟩) none none := by kernel_rfl
theorem ex_upd : evCM Tryz.prog [⟨127, eCC fun a b => (lf a b).v⟩] [] [] noL (loopAt Tryz.f109 0) (exS n X i R) (finS 3 keepEx [some 0, some 1]) = exC n X i R none (some ⟨.normal, exR n X (w64 (i + 1)) R.length fun q => mixL (q == 0 + (lastI R.length).toNat) (⟨(gtL R (0 + (lastI R.length).toNat)).i, lf (gtL R (0 + (lastI R.length).toNat)).o (X (0 + i.toNat)).o⟩ : Spn).c (elL R q), .any⟩) none := by kernel_rfl
theorem ex_end : evCM Tryz.prog [⟨127, eCC fun a b => (lf a b).v⟩] [] [] noL (loopAt Tryz.f109 0) (exS n X i R) (finE keepEx [some 0, some 1]) = exC n X i R none none (some ⟨.exit 0, exS n X i R, .any⟩) := by kernel_rfl
end
def bornS : MEntry := ⟨bornK 137, fun _ _ _ => none, none⟩
theorem bornS_ok : MEOk Tryz.prog bornS := ⟨⟨fun _ _ _ _ h => (by cases h), fun _ _ _ _ _ _ h => (by cases h)⟩, fun _ h => (by cases h)⟩
section
variable (lf : Crs → Crs → Crs) (G : SH2) (x y : AV) (A B C R : List Spn)
noncomputable def ccE (C : List Spn) : MEntry := mN Tryz.prog 129 (fun _ => .osl 0 6 0 C.length) (fun _ => [roL C])
noncomputable def ccB (x y : AV) (C : List Spn) : Bool := (propB (GSpec Tryz.prog 129 [.sl 1 2 (chunk [x, y] 1)] [] (.osl 0 6 0 C.length) [roL C]) && true) || false
noncomputable def eiL (n : Nat) (X : Nat → Spn) (R : List Spn) : Nat → Option LFun := oneL 5 (toldN keepEx [(6, 1, 6)] (roL []) [some 0, none] (exS n X 0 []) (.exit 0) (exS n X n R))
noncomputable def eiZ (o : Option Out) : Option Out := cond (ccB x y C) (cond (mtB 130 G C.length (gtL C) [clF]) (gate (Sub (exS C.length (G C.length (elL C)) 0 []) (exS C.length (G C.length (elL C)) 0 [])) o) none) none
theorem ei_ev2 : evM Tryz.prog [⟨127, eCC fun a b => (lf a b).v⟩] [] [bornS, ccE C, mSt 130 G] (eiL C.length (G C.length (elL C)) R) Tryz.f109 [slL A, slL B] ret = eiZ G (slL A) (slL B) C (some (Out.of (.sl 6 R.length fun q => elL R (0 + q)))) := by kernel_rfl
theorem ei_evB (p : Option Addr) (c : Nat) : evM Tryz.prog [⟨127, eCC fun a b => (lf a b).v⟩] [] [bornS, ccE C, mSt 130 G] (eiL C.length (G C.length (elL C)) R) Tryz.f109 [xE p c, slL B] ret = eiZ G (xE p c) (slL B) C (some (Out.of (.sl 6 R.length fun q => elL R (0 + q)))) := by kernel_rfl
theorem ei_evA (p : Option Addr) (c : Nat) : evM Tryz.prog [⟨127, eCC fun a b => (lf a b).v⟩] [] [bornS, ccE C, mSt 130 G] (eiL C.length (G C.length (elL C)) R) Tryz.f109 [slL A, xE p c] ret = eiZ G (slL A) (xE p c) C (some (Out.of (.sl 6 R.length fun q => elL R (0 + q)))) := by kernel_rfl
theorem ei_ev0 (p p' : Option Addr) (c c' : Nat) : evM Tryz.prog [] [kS Tryz.prog 129 fun _ => .x (.slice none 0 0), kS Tryz.prog 130 fun _ => .tup []] [bornS] noL Tryz.f109 [xE p c, xE p' c'] ret = gate (FSpec Tryz.prog 129 [.sl 1 2 (chunk [xE p c, xE p' c'] 1)] (.x (.slice none 0 0))) (gate (FSpec Tryz.prog 130 [.x (.slice none 0 0), clF] (.tup [])) (some (Out.of (.x (.slice none 0 0))))) := by kernel_rfl
end
end Go.Proofs.YtancjnambbkhmaaGreat.Hs.So

namespace Go.Proofs.YtancjnambbkhmaaGreat.Hs.So
open Go.Gv
open Go.Ev (cn fadd fsub fmul fdiv fsqrt fneg feq flt fle fgt fge fabs isNan key flt_key fgt_key feq_key)

theorem mixL_no (L : List Spn) (q q' : Nat) : mixL (Nat.blt q 0) dS.c (elL L q') = elL L q' := by
  unfold elL
  rw [mix_c]; rfl
theorem gw_t {n : Int} {m : Nat} (e : n = (m : Nat)) (h0 : 0 < m) (h : m ≤ 1000) : gwB n = true := by
  subst e
  unfold gwB
  rw [propB_t (grow_spec m h0 h _)]; rfl
theorem ac_t {n m : Nat} (h0 : 0 < m) (h : n + m ≤ 1000) : acB n m = true := by
  unfold acB
  rw [BEq.rfl, blt_t h0, allB_true fun _ _ => rfl, ble_t (by omega)]; rfl
theorem ccZ_t {a b : Nat} (h0 : 0 < a + b) (h : a + b ≤ 1000) (o : Option Out) : ccZ (a : Nat) (b : Nat) o = o := by
  unfold ccZ
  have e1 : w64 (0 + (a : Int)) = (a : Nat) := by rw [Int.zero_add, w64_id (by omega) (by omega)]
  have e2 : w64 ((a : Int) + (b : Int)) = ((a + b : Nat) : Int) := by rw [w64_id (by omega) (by omega)]; omega
  rw [e1, e2, decide_eq_false (show ¬ ((a : Nat) : Int) < 0 by omega), decide_eq_false (show ¬ ((a + b : Nat) : Int) < 0 by omega), gw_t rfl h0 h]
  rfl
theorem gt_left {A B : List Spn} {q : Nat} (h : q < A.length) : gtL (A ++ B) q = gtL A q := by
  unfold gtL
  rw [List.getD_eq_getElem?_getD, List.getD_eq_getElem?_getD, List.getElem?_append_left h]
theorem gt_right {A B : List Spn} {q : Nat} (h : A.length ≤ q) : gtL (A ++ B) q = gtL B (q - A.length) := by
  unfold gtL
  rw [List.getD_eq_getElem?_getD, List.getD_eq_getElem?_getD, List.getElem?_append_right h]
theorem gwE_ok : MEOk Tryz.prog gwE := mN_ok
theorem cc_spec2 {A B : List Spn} (hA : 0 < A.length) (hB : 0 < B.length) (h : A.length + B.length ≤ 1000) : GSpec Tryz.prog 129 [.sl 1 2 (chunk [slL A, slL B] 1)] [] (.osl 0 6 0 (A ++ B).length) [roL (A ++ B)] := by
  have h1 : GSpec Tryz.prog 129 [.sl 1 2 (chunk [slL A, slL B] 1)] [] (.osl 0 6 0 (0 + A.length + B.length)) [.a 62 6 (0 + A.length + B.length) fun q => mixL (Nat.blt q (0 + A.length)) (mixL (Nat.blt q 0) dS.c (elL A (q - 0))) (elL B (q - (0 + A.length)))] := by
    refine gspecG (mem := []) e_nil k_nil (m_cons gwE_ok m_nil) Tryz.func129 (by kernel_rfl) (by kernel_rfl) noL_ok rfl (by kernel_rfl) ((cc_ev2 A B).trans ?_)
    rw [ccZ_t (by omega) h, ac_t hA (by omega), ac_t hB (by omega)]; rfl
  have e : 0 + A.length + B.length = (A ++ B).length := by rw [List.length_append]; omega
  rw [e] at h1
  refine h1.of_rows ⟨Or.inr ⟨62, 6, (A ++ B).length, _, _, rfl, rfl, fun q hq => ?_⟩, trivial⟩
  show elL (A ++ B) q = _
  rw [mixL_no, Nat.zero_add, Nat.sub_zero]
  show (gtL (A ++ B) q).c = mixL (Nat.blt q A.length) (gtL A q).c (gtL B (q - A.length)).c
  rw [mix_c]
  cases hb : Nat.blt q A.length
  · rw [gt_right (not_blt hb)]; rfl
  · rw [gt_left (Nat.le_of_ble_eq_true hb)]; rfl
theorem cc_specB {B : List Spn} (hB : 0 < B.length) (h : B.length ≤ 1000) (p : Option Addr) (c : Nat) : GSpec Tryz.prog 129 [.sl 1 2 (chunk [xE p c, slL B] 1)] [] (.osl 0 6 0 B.length) [roL B] := by
  have h1 : GSpec Tryz.prog 129 [.sl 1 2 (chunk [xE p c, slL B] 1)] [] (.osl 0 6 0 (0 + B.length)) [.a 62 6 (0 + B.length) fun q => mixL (Nat.blt q 0) dS.c (elL B (q - 0))] := by
    refine gspecG (mem := []) e_nil k_nil (m_cons gwE_ok m_nil) Tryz.func129 (by kernel_rfl) (by kernel_rfl) noL_ok rfl (by kernel_rfl) ((cc_evB B p c).trans ?_)
    rw [ccZ_t (by omega) (by omega), ac_t hB (by omega)]; rfl
  rw [Nat.zero_add] at h1
  refine h1.of_rows ⟨Or.inr ⟨62, 6, B.length, _, _, rfl, rfl, fun q hq => ?_⟩, trivial⟩
  show elL B q = _
  rw [mixL_no, Nat.sub_zero]
theorem cc_specA {A : List Spn} (hA : 0 < A.length) (h : A.length ≤ 1000) (p : Option Addr) (c : Nat) : GSpec Tryz.prog 129 [.sl 1 2 (chunk [slL A, xE p c] 1)] [] (.osl 0 6 0 A.length) [roL A] := by
  have h1 : GSpec Tryz.prog 129 [.sl 1 2 (chunk [slL A, xE p c] 1)] [] (.osl 0 6 0 (0 + A.length)) [.a 62 6 (0 + A.length) fun q => mixL (Nat.blt q 0) dS.c (elL A (q - 0))] := by
    refine gspecG (mem := []) e_nil k_nil (m_cons gwE_ok m_nil) Tryz.func129 (by kernel_rfl) (by kernel_rfl) noL_ok rfl (by kernel_rfl) ((cc_evA A p c).trans ?_)
    rw [ccZ_t (by omega) (by omega), ac_t hA (by omega)]; rfl
  rw [Nat.zero_add] at h1
  refine h1.of_rows ⟨Or.inr ⟨62, 6, A.length, _, _, rfl, rfl, fun q hq => ?_⟩, trivial⟩
  show elL A q = _
  rw [mixL_no, Nat.sub_zero]
set_option maxHeartbeats 1600000 in
set_option maxRecDepth 1000000 in
theorem grow_walk0 (w : World) : Calls Tryz.prog 151 #[.slice none 0 0, .int .i64 0] w fun e w' => e = .returned (.slice none 0 0) ∧ w' = w := by
  go_enter Tryz.func151, Tryz.ntmps151
  go_wp2
  go_ret
  exact ⟨rfl, rfl⟩
theorem grow_spec0 : FSpec Tryz.prog 151 [.x (.slice none 0 0), iA 0] (.x (.slice none 0 0)) := by
  refine ⟨⟨Tryz.f151, Tryz.func151, by kernel_rfl, by kernel_rfl⟩, fun A w cargs hA hr hg => ?_⟩
  have hc : cargs = #[.slice none 0 0, .int .i64 0] := by
    obtain ⟨u, us, e0, r1, hr⟩ := rels_cons.1 hr
    obtain ⟨u', us', e1, r2, hr⟩ := rels_cons.1 hr
    have e2 := rels_nil.1 hr
    subst e2 e1
    rw [rel_x.1 r1, rel_x.1 r2] at e0
    apply Array.ext'
    rw [e0]
  subst hc
  refine (grow_walk0 w).mono ?_
  rintro e w' ⟨rfl, rfl⟩
  exact ⟨_, rfl, rel_x.2 rfl, rfl, rfl, rfl, Nat.le_refl _, fun _ _ => rfl⟩
theorem cc_ev00 (p p' : Option Addr) (c c' : Nat) : ev Tryz.prog [] [kS Tryz.prog 151 fun _ => .x (.slice none 0 0)] noL Tryz.f129 [.sl 1 2 (chunk [xE p c, xE p' c'] 1)] ret = gate (FSpec Tryz.prog 151 [.x (.slice none 0 0), iA 0] (.x (.slice none 0 0))) (some (Out.of (.x (.slice none 0 0)))) := by kernel_rfl
theorem cc_spec0 (p p' : Option Addr) (c c' : Nat) : FSpec Tryz.prog 129 [.sl 1 2 (chunk [xE p c, xE p' c'] 1)] (.x (.slice none 0 0)) :=
  gspec e_nil (k_cons kS_ok k_nil) Tryz.func129 (by kernel_rfl) (by kernel_rfl) noL_ok rfl ((cc_ev00 p p' c c').trans (gate_pos grow_spec0))
theorem is0_ev : ev Tryz.prog [] [] noL Tryz.f165 [.x (.slice none 0 0), iA 0, iA ((0 : Nat) : Int), clF] ret = some (Out.of (.tup [])) := by kernel_rfl
theorem st0_ev : ev Tryz.prog [] [kS Tryz.prog 165 fun _ => .tup []] noL Tryz.f152 [.x (.slice none 0 0), iA ((0 : Nat) : Int), clF] ret = gate (FSpec Tryz.prog 165 [.x (.slice none 0 0), iA 0, iA ((0 : Nat) : Int), clF] (.tup [])) (some (Out.of (.tup []))) := by kernel_rfl
theorem so0_ev : ev Tryz.prog [] [kS Tryz.prog 152 fun _ => .tup []] noL Tryz.f130 [.x (.slice none 0 0), clF] ret = gate (FSpec Tryz.prog 152 [.x (.slice none 0 0), iA ((0 : Nat) : Int), clF] (.tup [])) (some (Out.of (.tup []))) := by kernel_rfl
theorem so_spec0 : FSpec Tryz.prog 130 [.x (.slice none 0 0), clF] (.tup []) := by
  have h1 : FSpec Tryz.prog 165 [.x (.slice none 0 0), iA 0, iA ((0 : Nat) : Int), clF] (.tup []) := gspec e_nil k_nil Tryz.func165 (by kernel_rfl) (by kernel_rfl) noL_ok rfl is0_ev
  have h2 : FSpec Tryz.prog 152 [.x (.slice none 0 0), iA ((0 : Nat) : Int), clF] (.tup []) := gspec e_nil (k_cons kS_ok k_nil) Tryz.func152 (by kernel_rfl) (by kernel_rfl) noL_ok rfl (st0_ev.trans (gate_pos h1))
  exact gspec e_nil (k_cons kS_ok k_nil) Tryz.func130 (by kernel_rfl) (by kernel_rfl) noL_ok rfl (so0_ev.trans (gate_pos h2))
theorem lastI_pos {m : Nat} (h0 : 0 < m) (h : m ≤ 1000) : lastI m = ((m - 1 : Nat) : Int) := by unfold lastI; rw [w64_id (by omega) (by omega)]; omega
theorem lastI_zero : lastI 0 = -1 := by decide
theorem exG_t {R : List Spn} (h : R.length ≤ 1000) : exG R = true := by
  unfold exG gF
  by_cases h0 : R.length = 0
  · rw [h0, lastI_zero]; rfl
  · rw [lastI_pos (by omega) h, ixB_t (by omega), Int.toNat_natCast, Nat.zero_add, blt_t (by omega)]; rfl
theorem exT_eq {R : List Spn} (h : R.length ≤ 1000) (s : Spn) : exT R s = ((R.length == 0) || fgt s.i.t (lastS R).o.t) := by
  unfold exT
  by_cases h0 : R.length = 0
  · rw [h0, lastI_zero]; rfl
  · rw [lastI_pos (by omega) h, decide_eq_false (by omega), cond_false, beq_false_of_ne h0, Bool.false_or, Int.toNat_natCast, Nat.zero_add]
    rfl
theorem exW_t {R : List Spn} (h0 : 0 < R.length) (h : R.length ≤ 1000) : exW R = true := by
  unfold exW bl'
  rw [lastI_pos h0 h, ixB_t (by omega), Int.toNat_natCast, Nat.zero_add, blt_t (by omega)]; rfl
theorem swp_len (R : List Spn) (s : Spn) : (swp R s).length ≤ R.length + 1 := by
  unfold swp
  cases (R.length == 0) || fgt s.i.t (lastS R).o.t
  · rw [cond_false, List.length_set]; omega
  · rw [cond_true, List.length_append]; exact Nat.le_refl _
def swF (M : List Spn) (k : Nat) : List Spn := (M.take k).foldl swp []
theorem swF_succ {M : List Spn} {k : Nat} (hk : k < M.length) : swF M (k + 1) = swp (swF M k) (gtL M k) := by
  unfold swF
  rw [take_succ' hk, List.foldl_append]; rfl
theorem swF_len (M : List Spn) : ∀ k, k ≤ M.length → (swF M k).length ≤ k
  | 0, _ => Nat.le_refl _
  | k + 1, hk => by
    rw [swF_succ (by omega)]
    have := swp_len (swF M k) (gtL M k)
    have := swF_len M k (by omega)
    omega
theorem eL_ok : ∀ e, e ∈ [(⟨127, eCC fun a b => (lateS a b).v⟩ : Entry)] → EOk Tryz.prog e := e_cons (eCC_ok slate) e_nil
theorem finS_sub (n : Nat) (keep : List Nat) (τ : List (Option Nat)) : KSub (finS n keep τ) := fun e s r h => by
  unfold finS at h
  cases hb : Nat.beq s.mem.length n
  · rw [hb] at h; cases h
  · rw [hb] at h; exact finN_sub keep τ e s r h
theorem ex_leads {M : List Spn} (hM : M.length ≤ 900) : Leads Tryz.prog (.loop (loopAt Tryz.f109 0)) (exS M.length (gtL M) 0 []) (.exit 0) (exS M.length (gtL M) M.length (M.foldl swp [])) := by
  have h : Leads Tryz.prog (.loop (loopAt Tryz.f109 0)) (exS M.length (gtL M) (0 : Nat) (swF M 0)) (.exit 0) (exS M.length (gtL M) (M.length : Nat) (swF M M.length)) := by
    refine loop_rule (fun k => exS M.length (gtL M) (k : Nat) (swF M k)) M.length (.exit 0) _ (by simp) (fun k hk => ?_) ?_
    · have hl := swF_len M k (by omega)
      show Leads Tryz.prog _ (exS M.length (gtL M) (k : Nat) (swF M k)) .normal (exS M.length (gtL M) ((k + 1 : Nat) : Int) (swF M (k + 1)))
      rw [swF_succ hk]
      generalize swF M k = R at hl
      cases ht : (R.length == 0) || fgt (gtL M k).i.t (lastS R).o.t
      · have h0 : 0 < R.length := by
          have := (Bool.or_eq_false_iff.1 ht).1
          have : R.length ≠ 0 := fun e => by rw [e] at this; cases this
          omega
        have es : swp R (gtL M k) = R.set (R.length - 1) ⟨(lastS R).i, lateS (lastS R).o (gtL M k).o⟩ := by unfold swp; rw [ht]; rfl
        have st := ex_upd lateS M.length (gtL M) (k : Nat) R
        unfold exC at st
        unfold bl' at st
        rw [dec_lt hk, ixB_t hk, Int.toNat_natCast, Nat.zero_add, blt_t hk, exG_t (by omega), exT_eq (by omega), ht, exW_t h0 (by omega), w64_next (by omega), lastI_pos h0 (by omega), Int.toNat_natCast, Nat.zero_add] at st
        refine (leads_evM (finS_sub 3 keepEx [some 0, some 1]) eL_ok k_nil m_nil noL_ok st).sub (Sub.refl _) ?_
        rw [es]
        unfold exS
        rw [List.length_set]
        refine sub_same ⟨Or.inl rfl, Or.inr ⟨62, 6, R.length, _, _, rfl, rfl, fun q hq => ?_⟩, trivial⟩
        show (gtL (R.set (R.length - 1) _) q).c = mixL (q == R.length - 1) _ (gtL R q).c
        rw [mix_c]
        refine congrArg Spn.c ?_
        show (R.set (R.length - 1) _).getD q dS = cond (q == R.length - 1) ⟨(lastS R).i, lateS (lastS R).o (gtL M k).o⟩ (R.getD q dS)
        rw [List.getD_eq_getElem?_getD, List.getD_eq_getElem?_getD, List.getElem?_set]
        by_cases e : q = R.length - 1
        · subst e
          rw [BEq.rfl, if_pos rfl, if_pos (by omega)]; rfl
        · rw [beq_false_of_ne e, if_neg (fun h => e h.symm)]; rfl
      · have es : swp R (gtL M k) = R ++ [gtL M k] := by unfold swp; rw [ht]; rfl
        have st := ex_app lateS M.length (gtL M) (k : Nat) R
        unfold exC at st
        unfold bl' at st
        rw [dec_lt hk, ixB_t hk, Int.toNat_natCast, Nat.zero_add, blt_t hk, exG_t (by omega), exT_eq (by omega), ht, apB_t (by omega), w64_next (by omega)] at st
        refine (leads_evM (finS_sub 5 keepEx [some 0, some 4]) eL_ok k_nil m_nil noL_ok st).sub (Sub.refl _) ?_
        rw [es]
        unfold exS
        have hl1 : (R ++ [gtL M k]).length = R.length + 1 := by rw [List.length_append]; rfl
        rw [hl1]
        refine sub_same ⟨Or.inl rfl, Or.inr ⟨62, 6, R.length + 1, _, _, rfl, rfl, fun q hq => ?_⟩, trivial⟩
        exact (elL_app R _ hq).symm
    · refine leads_evM (finE_sub keepEx [some 0, some 1]) eL_ok k_nil m_nil noL_ok ((ex_end lateS M.length (gtL M) (M.length : Nat) (swF M M.length)).trans ?_)
      unfold exC
      rw [dec_self, cond_false]
  have e1 : swF M M.length = M.foldl swp [] := by unfold swF; rw [List.take_length]
  rw [e1] at h
  exact h
end Go.Proofs.YtancjnambbkhmaaGreat.Hs.So

namespace Go.Proofs.YtancjnambbkhmaaGreat.Hs.So
open Go.Ev (flt fle fgt fge isNan key)

/-- What a solid's parts are made of, in plain words: Op, Left, Right, a leaf's row. -/
structure Pl where
  op : Nat → Int
  l : Nat → Nat
  r : Nat → Nat
  lf : Nat → List Spn
def rowV (o : Int) (L A B : List Spn) : List Spn := cond (o == 0) L (cond (o == 1) (bothL A B) (cond (o == 2) (eitherL A B) (lessL A B)))
/-- The rows of the first parts. -/
def rwF (p : Pl) : Nat → Nat → List Spn
  | 0 => fun _ => []
  | k + 1 => fun q => if q = k then rowV (p.op k) (p.lf k) (rwF p k (p.l k)) (rwF p k (p.r k)) else rwF p k q
structure PlOk (p : Pl) (n : Nat) : Prop where
  kids : ∀ j, j < n → p.op j = 0 ∨ (p.op j ≠ 0 ∧ p.l j < j ∧ p.r j < j)
  leaf : ∀ j, j < n → p.op j = 0 → p.lf j = [] ∨ ∃ s, p.lf j = [s] ∧ Gd s
def leD (p : Pl) (j : Nat) : List Nat := cond (p.op j == 0) (endsL (p.lf j)) []
def DE (p : Pl) : Nat → List Nat
  | 0 => []
  | k + 1 => leD p k ++ DE p k
def DN (p : Pl) : Nat → List Nat
  | 0 => []
  | k + 1 => cond (p.op k == 0) (DN p k) (leD p (p.l k) ++ (leD p (p.r k) ++ DN p k))
theorem lf_ris {p : Pl} {n j : Nat} (h : PlOk p n) (hj : j < n) (h0 : p.op j = 0) : Ris (p.lf j) ∧ (p.lf j).length ≤ 1 := by
  rcases h.leaf j hj h0 with e | ⟨s, e, g⟩ <;> rw [e]
  · exact ⟨ris_nil, Nat.zero_le _⟩
  · exact ⟨ris_one g, Nat.le_refl _⟩
theorem leD_len {p : Pl} {n j : Nat} (h : PlOk p n) (hj : j < n) : (leD p j).length ≤ 2 := by
  unfold leD
  cases e : p.op j == 0
  · exact Nat.zero_le _
  · rw [cond_true, ends_len]
    have := (lf_ris h hj (by simpa using e)).2
    omega
theorem D_len {p : Pl} {n : Nat} (h : PlOk p n) : ∀ k, k ≤ n → ∃ c, c ≤ k ∧ (DE p k).length ≤ 2 * c ∧ (DN p k).length ≤ 4 * (k - c)
  | 0, _ => ⟨0, Nat.le_refl _, Nat.le_refl _, Nat.le_refl _⟩
  | k + 1, hk => by
    obtain ⟨c, h1, h2, h3⟩ := D_len h k (by omega)
    rcases h.kids k (by omega) with e | ⟨e, hl, hr⟩
    · refine ⟨c + 1, by omega, ?_, ?_⟩
      · show (leD p k ++ DE p k).length ≤ _
        have := leD_len h (j := k) (by omega)
        rw [List.length_append]; omega
      · show (cond (p.op k == 0) (DN p k) _).length ≤ _
        rw [show (p.op k == 0) = true by rw [e]; rfl, cond_true]; omega
    · refine ⟨c, by omega, ?_, ?_⟩
      · show (leD p k ++ DE p k).length ≤ _
        unfold leD
        rw [beq_false_of_ne e, cond_false, List.nil_append]; exact h2
      · show (cond (p.op k == 0) (DN p k) _).length ≤ _
        have := leD_len h (j := p.l k) (by omega)
        have := leD_len h (j := p.r k) (by omega)
        rw [beq_false_of_ne e, cond_false, List.length_append, List.length_append]; omega
theorem fr_ends (L : List Spn) : Fr (· ∈ endsL L) L := fun s hs => ⟨List.mem_flatMap.2 ⟨s, hs, List.mem_cons_self⟩, List.mem_flatMap.2 ⟨s, hs, List.mem_cons_of_mem _ List.mem_cons_self⟩⟩
theorem Fr.mono {D E : Nat → Prop} {L : List Spn} (h : Fr D L) (g : ∀ x, D x → E x) : Fr E L := fun s hs => ⟨g _ (h s hs).1, g _ (h s hs).2⟩
theorem fr_row {D : Nat → Prop} {o : Int} {L A B : List Spn} (h0 : o ≠ 0) (hA : Fr D A) (hB : Fr D B) : Fr D (rowV o L A B) := by
  unfold rowV
  rw [beq_false_of_ne h0, cond_false]
  cases o == 1
  · cases o == 2
    · exact fr_less hA hB
    · exact fr_either hA hB
  · exact fr_both hA hB
theorem ris_row {o : Int} {L A B : List Spn} (h0 : o ≠ 0) (hA : Ris A) (hB : Ris B) : Ris (rowV o L A B) := by
  unfold rowV
  rw [beq_false_of_ne h0, cond_false]
  cases o == 1
  · cases o == 2
    · exact less_ris hA hB
    · exact either_ris hA hB
  · exact both_ris hA hB
structure RwOk (p : Pl) (k q : Nat) : Prop where
  ris : Ris (rwF p k q)
  de : Fr (· ∈ DE p k) (rwF p k q)
  lf : p.op q = 0 → rwF p k q = p.lf q
  dn : p.op q ≠ 0 → Fr (· ∈ DN p k) (rwF p k q)
theorem dn_mono {p : Pl} {k x : Nat} (h : x ∈ DN p k) : x ∈ DN p (k + 1) := by
  show x ∈ cond (p.op k == 0) (DN p k) (leD p (p.l k) ++ (leD p (p.r k) ++ DN p k))
  cases p.op k == 0
  · exact List.mem_append_right _ (List.mem_append_right _ h)
  · exact h
theorem rw_ok {p : Pl} {n : Nat} (h : PlOk p n) : ∀ k, k ≤ n → ∀ q, q < k → RwOk p k q
  | 0, _, q, hq => absurd hq (Nat.not_lt_zero q)
  | k + 1, hk, q, hq => by
    have ih := rw_ok h k (by omega)
    have em : ∀ x, x ∈ DE p k → x ∈ DE p (k + 1) := fun x hx => List.mem_append_right _ hx
    by_cases e : q = k
    · subst e
      have er : rwF p (q + 1) q = rowV (p.op q) (p.lf q) (rwF p q (p.l q)) (rwF p q (p.r q)) := if_pos rfl
      rcases h.kids q (by omega) with h0 | ⟨h0, hl, hr⟩
      · have er : rwF p (q + 1) q = p.lf q := by rw [er]; unfold rowV; rw [h0]; rfl
        refine ⟨by rw [er]; exact (lf_ris h (by omega) h0).1, ?_, fun _ => er, fun hn => absurd h0 hn⟩
        rw [er]
        refine (fr_ends _).mono fun x hx => List.mem_append_left _ ?_
        unfold leD
        rw [h0]; exact hx
      · have il := ih (p.l q) hl
        have ir := ih (p.r q) hr
        refine ⟨by rw [er]; exact ris_row h0 il.ris ir.ris, by rw [er]; exact (fr_row h0 il.de ir.de).mono em, fun hz => absurd hz h0, fun _ => ?_⟩
        rw [er]
        have eD : DN p (q + 1) = leD p (p.l q) ++ (leD p (p.r q) ++ DN p q) := by
          show cond (p.op q == 0) (DN p q) _ = _
          rw [beq_false_of_ne h0]; rfl
        refine fr_row h0 ?_ ?_
        · by_cases hz : p.op (p.l q) = 0
          · rw [il.lf hz, eD]
            refine (fr_ends _).mono fun x hx => List.mem_append_left _ ?_
            unfold leD
            rw [hz]; exact hx
          · exact (il.dn hz).mono fun x hx => dn_mono hx
        · by_cases hz : p.op (p.r q) = 0
          · rw [ir.lf hz, eD]
            refine (fr_ends _).mono fun x hx => List.mem_append_right _ (List.mem_append_left _ ?_)
            unfold leD
            rw [hz]; exact hx
          · exact (ir.dn hz).mono fun x hx => dn_mono hx
    · have er : rwF p (k + 1) q = rwF p k q := if_neg e
      have i := ih q (by omega)
      exact ⟨by rw [er]; exact i.ris, by rw [er]; exact i.de.mono em, fun hz => by rw [er]; exact i.lf hz, fun hn => by rw [er]; exact (i.dn hn).mono fun x hx => dn_mono hx⟩
/-- Ahead of the sixteenth part no row has more than ten spans. -/
theorem rw_len {p : Pl} {n k q : Nat} (h : PlOk p n) (hk : k ≤ n) (hq : q < k) (h15 : k ≤ 15) : (rwF p k q).length ≤ 10 := by
  have i := rw_ok h k hk q hq
  by_cases h0 : p.op q = 0
  · rw [i.lf h0]
    have := (lf_ris h (by omega) h0).2
    omega
  · obtain ⟨c, h1, h2, h3⟩ := D_len h k hk
    have := ris_len i.ris i.de
    have := ris_len i.ris (i.dn h0)
    omega
/-- No row has more spans than there are parts. -/
theorem rw_len' {p : Pl} {n k q : Nat} (h : PlOk p n) (hk : k ≤ n) (hq : q < k) : (rwF p k q).length ≤ k := by
  have i := rw_ok h k hk q hq
  obtain ⟨c, h1, h2, h3⟩ := D_len h k hk
  have := ris_len i.ris i.de
  omega
end Go.Proofs.YtancjnambbkhmaaGreat.Hs.So

namespace Go.Proofs.YtancjnambbkhmaaGreat.Hs.So
open Go.Gv
open Go.Ev (cn fadd fsub fmul fdiv fsqrt fneg feq flt fle fgt fge fabs isNan key flt_key fgt_key feq_key)

theorem FSpec.of_arg {f : Nat} {args args' : List AV} {r : AV} (h : ∀ E : Env, ∀ us : List Value, rels E args us → ∃ args'', rels E args'' us ∧ FSpec Tryz.prog f args'' r) (hE : Entered Tryz.prog f) (_ : args' = args) : FSpec Tryz.prog f args r :=
  ⟨hE, fun A w cargs hA hr hg => by
    obtain ⟨args'', h1, h2⟩ := h _ _ hr
    exact h2.2 A w cargs hA h1 hg⟩
theorem rel_empty {E : Env} {sz : Nat} {el : Nat → List AV} {u : Value} (h : rel E (.sl sz 0 el) u) : ∃ p c, rel E (xE p c) u := by
  obtain ⟨a, c, e, _⟩ := rel_sl.1 h
  exact ⟨a, c, rel_x.2 e⟩
theorem FSpec.of_val {f : Nat} {args : List AV} {r r' : AV} (h : FSpec Tryz.prog f args r) (hr : ∀ (E : Env) (v : Value), rel E r v → rel E r' v) : FSpec Tryz.prog f args r' :=
  ⟨h.1, fun A w cargs hA ha hg => (h.2 A w cargs hA ha hg).mono fun _ _ ⟨v, h1, h2, h3⟩ => ⟨v, h1, hr _ _ h2, h3⟩⟩
theorem rel_nil_sl {E : Env} {sz : Nat} {el : Nat → List AV} {v : Value} (h : rel E (.x (.slice none 0 0)) v) : rel E (.sl sz 0 el) v := rel_sl.2 ⟨none, 0, rel_x.1 h, Nat.le_refl _, Or.inl rfl⟩
theorem sl_congr {E : Env} {sz n : Nat} {el el' : Nat → List AV} {v : Value} (he : ∀ q, q < n → el q = el' q) (h : rel E (.sl sz n el) v) : rel E (.sl sz n el') v := by
  obtain ⟨a, c, e, hc, h1⟩ := rel_sl.1 h
  refine rel_sl.2 ⟨a, c, e, hc, ?_⟩
  rcases h1 with h1 | ⟨b, o, cs, e', fz, h2, h3, h4, h5⟩
  · exact Or.inl h1
  · exact Or.inr ⟨b, o, cs, e', fz, h2, h3, h4, fun i hi => by rw [← he i hi]; exact h5 i hi⟩
theorem ei_of {A B C : List Spn} {x y : AV} (hC : C = A ++ B) (hA : Ris A) (hB : Ris B) (h0 : 0 < C.length) (h20 : C.length ≤ 20) (hcc : GSpec Tryz.prog 129 [.sl 1 2 (chunk [x, y] 1)] [] (.osl 0 6 0 C.length) [roL C])
    (hev : evM Tryz.prog [⟨127, eCC fun a b => (lateS a b).v⟩] [] [bornS, ccE C, mSt 130 srD] (eiL C.length (srD C.length (elL C)) (eitherL A B)) Tryz.f109 [x, y] ret = eiZ srD x y C (some (Out.of (.sl 6 (eitherL A B).length fun q => elL (eitherL A B) (0 + q))))) : FSpec Tryz.prog 109 [x, y] (slL (eitherL A B)) := by
  have hm : srtL C = mrg A B := by rw [hC]; exact fold_all hA hB
  have hn : ∀ s, s ∈ C → isNan s.i.t = false := fun s hs => by
    rw [hC] at hs
    rcases List.mem_append.1 hs with h | h
    · exact (hA.2 s h).ni
    · exact (hB.2 s h).ni
  have hX : srD C.length (elL C) = gtL (mrg A B) := by
    rw [← hm]; exact srD_eq C
  have hl : C.length = (mrg A B).length := by rw [← hm, srtL_len]
  have lead := ex_leads (M := mrg A B) (by omega)
  rw [← hl] at lead
  have hL := lok_hd (c := bodyOf Tryz.f109) (i := 5) 0 (by kernel_rfl) (by kernel_rfl) (toldN_sound (keep := keepEx) (nils := [(6, 1, 6)]) (nr := roL []) (τ := [some 0, none]) lead)
  rw [hX] at hev
  refine spec_of_evM eL_ok k_nil (m_cons bornS_ok (m_cons mN_ok (m_cons mSt_ok m_nil))) (by kernel_rfl) Tryz.func109 (by kernel_rfl) (by kernel_rfl) hL rfl (hev.trans ?_)
  unfold eiZ
  have hb : ccB x y C = true := by unfold ccB; rw [propB_t hcc]; rfl
  rw [hb, cond_true, mt_t h0 (so_spec h0 h20 hn), cond_true, gate_pos (Sub.refl _), slL_eq]
theorem either_spec {A B : List Spn} (hA : Ris A) (hB : Ris B) (h20 : A.length + B.length ≤ 20) : FSpec Tryz.prog 109 [slL A, slL B] (slL (eitherL A B)) := by
  have hE : Entered Tryz.prog 109 := ⟨Tryz.f109, Tryz.func109, by kernel_rfl, by kernel_rfl⟩
  by_cases h1 : A.length = 0
  · have e1 := List.length_eq_zero_iff.1 h1
    by_cases h2 : B.length = 0
    · have e2 := List.length_eq_zero_iff.1 h2
      subst e1 e2
      refine FSpec.of_arg (args' := [slL [], slL []]) (fun E us hr => ?_) hE rfl
      obtain ⟨u, us', e0, r1, hr⟩ := rels_cons.1 hr
      obtain ⟨u', us'', e1, r2, hr⟩ := rels_cons.1 hr
      obtain ⟨p, c, q1⟩ := rel_empty r1
      obtain ⟨p', c', q2⟩ := rel_empty r2
      refine ⟨[xE p c, xE p' c'], rels_cons.2 ⟨u, us', e0, q1, rels_cons.2 ⟨u', us'', e1, q2, hr⟩⟩, ?_⟩
      have h : FSpec Tryz.prog 109 [xE p c, xE p' c'] (.x (.slice none 0 0)) := spec_of_evM e_nil (k_cons kS_ok (k_cons kS_ok k_nil)) (m_cons bornS_ok m_nil) (by kernel_rfl) Tryz.func109 (by kernel_rfl) (c := bodyOf Tryz.f109) (by kernel_rfl) noL_ok rfl ((ei_ev0 p p' c c').trans (by rw [gate_pos (cc_spec0 p p' c c'), gate_pos so_spec0]))
      have en : eitherL [] [] = [] := by unfold eitherL; rw [mrg]; rfl
      rw [en]
      exact FSpec.of_val h fun _ _ => rel_nil_sl
    · subst e1
      refine FSpec.of_arg (args' := [slL [], slL B]) (fun E us hr => ?_) hE rfl
      obtain ⟨u, us', e0, r1, hr⟩ := rels_cons.1 hr
      obtain ⟨p, c, q1⟩ := rel_empty r1
      refine ⟨[xE p c, slL B], rels_cons.2 ⟨u, us', e0, q1, hr⟩, ?_⟩
      exact ei_of (A := []) (B := B) (C := B) rfl ris_nil hB (by omega) (by omega) (cc_specB (by omega) (by omega) p c) (ei_evB lateS srD B B (eitherL [] B) p c)
  · by_cases h2 : B.length = 0
    · have e2 := List.length_eq_zero_iff.1 h2
      subst e2
      refine FSpec.of_arg (args' := [slL A, slL []]) (fun E us hr => ?_) hE rfl
      obtain ⟨u, us', e0, r1, hr⟩ := rels_cons.1 hr
      obtain ⟨u', us'', e1, r2, hr⟩ := rels_cons.1 hr
      obtain ⟨p, c, q1⟩ := rel_empty r2
      refine ⟨[slL A, xE p c], rels_cons.2 ⟨u, us', e0, r1, rels_cons.2 ⟨u', us'', e1, q1, hr⟩⟩, ?_⟩
      exact ei_of (A := A) (B := []) (C := A) (List.append_nil A).symm hA ris_nil (by omega) (by simpa using h20) (cc_specA (by omega) (by omega) p c) (ei_evA lateS srD A A (eitherL A []) p c)
    · exact ei_of (A := A) (B := B) (C := A ++ B) rfl hA hB (by rw [List.length_append]; omega) (by rw [List.length_append]; omega) (cc_spec2 (by omega) (by omega) (by omega)) (ei_ev2 lateS srD A B (A ++ B) (eitherL A B))
noncomputable def lfL (num : Int) (c : List AV) (r : Nat → Nat) : List Spn := cond (witC c r).ok [⟨⟨(witC c r).i, num, false⟩, ⟨(witC c r).o, num, false⟩⟩] []
theorem leaf_spec (num k : Int) (a : Nat → Nat) (sk : Int) (r : Nat → Nat) : FSpec Tryz.prog 107 [iA num, SH k a sk, RY r] (slL (lfL num (shC k a sk) (l7 r))) := by
  have h := lf_ev witC num k a sk r
  have en : ∀ e, e ∈ [(⟨19, eScY fun c r => (witC c r).v⟩ : Entry)] → EOk Tryz.prog e := e_cons (eScY_ok fun k a sk r => (witC_spec k a sk r).1) e_nil
  unfold lfL
  cases hw : (witC (shC k a sk) (l7 r)).ok
  · rw [hw] at h
    exact FSpec.of_val (sp en Tryz.func107 (by kernel_rfl) (by kernel_rfl) rfl h) fun _ _ => rel_nil_sl
  · rw [hw] at h
    refine FSpec.of_val (sp en Tryz.func107 (by kernel_rfl) (by kernel_rfl) rfl h) fun _ _ => sl_congr fun q hq => ?_
    have : q = 0 := by omega
    subst this
    rfl
def rC (r : Nat → Nat) : List AV := [.f (r 0), .f (r 1), .f (r 2), .f (r 3), .f (r 4), .f (r 5), .f (r 6)]
def spR (n : Nat) (P : Nat → Prt) (r : Nat → Nat) (i : Int) (el : Nat → List AV) : St := mkS 85 [(0, prS n P), (3, .own 0 0), (5, .osl 1 1 0 n), (11, prS n P), (12, iA n), (13, iA i)] [.c (rC r), .a 57 1 n el]
def spS (n : Nat) (P : Nat → Prt) (r : Nat → Nat) (i : Int) (W : Nat → List Spn) : St := spR n P r i fun q => [slL (W q)]
def keepSp : List Nat := [0, 3, 5, 11, 12, 13]
def eLf (g : Int → List AV → (Nat → Nat) → List Spn) : List AV → Option AV
  | [.x (.int .i64 n), .agg [.x (.int .i64 k), .f a0, .f a1, .f a2, .f a3, .f a4, .f a5, .f a6, .f a7, .f a8, .f a9, .f a10, .x (.int .i64 sk)], .agg [.f a, .f b, .f c, .f d, .f e, .f f, .f x]] => some (slL (g n [.x (.int .i64 k), .f a0, .f a1, .f a2, .f a3, .f a4, .f a5, .f a6, .f a7, .f a8, .f a9, .f a10, .x (.int .i64 sk)] (ls [a, b, c, d, e, f, x])))
  | _ => none
theorem eLf_ok : EOk Tryz.prog ⟨107, eLf lfL⟩ := fun args r hr => by
  simp only [eLf] at hr
  split at hr
  · cases hr; exact Or.inl (leaf_spec _ _ (ls [_, _, _, _, _, _, _, _, _, _, _]) _ (ls [_, _, _, _, _, _, _]))
  · cases hr
section
variable (lf : Int → List AV → (Nat → Nat) → List Spn) (b1 b2 b3 : List AV → List Spn) (n : Nat) (P : Nat → Prt) (r : Nat → Nat) (i : Int) (W : Nat → List Spn)
noncomputable def spK : List KEntry := [kS Tryz.prog 108 fun v => slL (b1 v), kS Tryz.prog 109 fun v => slL (b2 v), kS Tryz.prog 110 fun v => slL (b3 v)]
def spA (p : Prt) : List AV := [slL (W (0 + p.l.toNat)), slL (W (0 + p.r.toNat))]
noncomputable def spG (f : Nat) (b : List AV → List Spn) (p : Prt) (o : List Spn → Option Out) : Option Out := gate (FSpec Tryz.prog f (spA W p) (slL (b (spA W p)))) (cond (jnB p.l p.r i n) (o (b (spA W p))) none)
noncomputable def spC (f : List Spn → Option Out) (o oe : Option Out) : Option Out := cond (decide (i < n)) (cond (ixB i n || false) (cond ((P i.toNat).op == 0) (ow' i n (f (lf i (P i.toNat).s (l7 r)))) (cond ((P i.toNat).op == 1) (spG n i W 108 b1 (P i.toNat) f) (cond ((P i.toNat).op == 2) (spG n i W 109 b2 (P i.toNat) f) (cond ((P i.toNat).op == 3) (spG n i W 110 b3 (P i.toNat) f) o)))) none) oe
theorem sp_step : evC Tryz.prog [⟨107, eLf lf⟩] (spK b1 b2 b3) noL (loopAt Tryz.f73 0) (spS n P r i W) (finN keepSp [some 0, some 1]) = spC lf b1 b2 b3 n P r i W (fun X => some ⟨.normal, spR n P r (w64 (i + 1)) fun q => mixL (q == 0 + i.toNat) [slL X] [slL (W q)], .any⟩) (some ⟨.normal, spS n P r (w64 (i + 1)) W, .any⟩) none := by kernel_rfl
theorem sp_end : evC Tryz.prog [⟨107, eLf lf⟩] (spK b1 b2 b3) noL (loopAt Tryz.f73 0) (spS n P r i W) (finE keepSp [some 0, some 1]) = spC lf b1 b2 b3 n P r i W (fun _ => none) none (some ⟨.exit 0, spS n P r i W, .any⟩) := by kernel_rfl
theorem sp_ev (W' : Nat → List Spn) : ev Tryz.prog [⟨107, eLf lf⟩] (spK b1 b2 b3) (oneL 3 (toldF keepSp [some 0, some 1] (spS n P r 0 W) (.exit 0) (spS n P r n W'))) Tryz.f73 [prS n P, RY r] ret = cond ((decide (0 ≤ (n : Int)) && (decide ((n : Int) ≤ n) && decide (((24 : Nat) : Int) * n ≤ 281474976710656))) || false) (gate (Sub (spR n P r 0 fun _ => [.x (.slice none 0 0)]) (spS n P r 0 W)) (ow' (w64 ((n : Int) - 1)) n (some (Out.of (slL (W' (0 + (w64 ((n : Int) - 1)).toNat))))))) none := by kernel_rfl
end
end Go.Proofs.YtancjnambbkhmaaGreat.Hs.So

namespace Go.Proofs.YtancjnambbkhmaaGreat.Hs.So
open Go.Gv
open Go.Ev (cn fadd fsub fmul fdiv fsqrt fneg feq flt fle fgt fge fabs)

section
variable (n : Nat) (hs : Nat → Int) (pf : Int → Int → Int) (tf : Int → Nat) (rf : Int → Int) (vf : Int → Int → Nat → Nat) (x y w : Nat) (fr : Int)
def xK : Int := w64 (1 + pf (rf fr) 6)
def xR : Nat := tf (w64 (1 + pf (rf (w64 (fr + 8))) 2500))
def xA (B C : Nat → Nat) (R Q : Nat) : List AV := [iA (xK pf rf fr), .f (vf (w64 (fr + 1)) 4000 0), .f (vf (w64 (fr + 1)) 4000 1), .f (vf (w64 (fr + 1)) 4000 2), .f (B 0), .f (B 1), .f (B 2), .f (C 0), .f (C 1), .f (C 2), .f R, .f Q, iA (pf (rf (w64 (fr + 7))) 1)]
def xO (B C : Nat → Nat) (R Q : Nat) : Option Out := some (Out.of (.agg (xA pf rf vf fr B C R Q)))
def xB2 : Nat → Nat := ls [fadd (vf (w64 (fr + 1)) 4000 0) (xR pf tf rf fr), fadd (vf (w64 (fr + 1)) 4000 1) (tf (pf (rf (w64 (fr + 5))) 2000)), fadd (vf (w64 (fr + 1)) 4000 2) (tf (pf (rf (w64 (fr + 6))) 2000))]
def xB3 : Nat → Nat := ls [fadd (vf (w64 (fr + 1)) 4000 0) (vf (w64 (fr + 4)) 3000 0), fadd (vf (w64 (fr + 1)) 4000 1) (vf (w64 (fr + 4)) 3000 1), fadd (vf (w64 (fr + 1)) 4000 2) (vf (w64 (fr + 4)) 3000 2)]
def xD : Int := w64 (1 + pf (rf (w64 (fr + 4))) 3)
def xQ : Nat := tf (w64 (1 + w64 ((pf (rf (w64 (fr + 8))) 2500).tdiv (xD pf rf fr))))
noncomputable def xPu (o : Option Out) : Option Out := gate (FSpec Tryz.prog 66 [V 0 0 0, iA (pf (rf (w64 (fr + 6))) 3), .f (tf (w64 (1 + pf (rf (w64 (fr + 5))) 3000)))] (V x y w)) o
noncomputable def x56 : Option Out := gR n hs rf (w64 (fr + 6)) (gR n hs rf (w64 (fr + 5)) (xPu pf tf rf x y w fr (cond (xK pf rf fr == 6) (gR n hs rf (w64 (fr + 8)) (gR n hs rf (w64 (fr + 4)) (cond ((!(xD pf rf fr == 0)) && true) (xO pf rf vf fr (ls [x, y, w]) z3 (xR pf tf rf fr) (xQ pf tf rf fr)) none))) (xO pf rf vf fr (ls [x, y, w]) z3 (xR pf tf rf fr) 0))))
def x4 : Option Out := cond (noughtB (vf (w64 (fr + 4)) 3000 0) (vf (w64 (fr + 4)) 3000 1) (vf (w64 (fr + 4)) 3000 2)) (xO pf rf vf fr (ls [0, one, 0]) z3 (xR pf tf rf fr) 0) (xO pf rf vf fr (vf (w64 (fr + 4)) 3000) z3 (xR pf tf rf fr) 0)
noncomputable def xX : Option Out := gR n hs rf fr (gV n hs vf (w64 (fr + 1)) 4000 (gR n hs rf (w64 (fr + 7)) (gV n hs vf (w64 (fr + 4)) 3000 (gR n hs rf (w64 (fr + 8))
  (cond (xK pf rf fr == 1) (xO pf rf vf fr z3 z3 (xR pf tf rf fr) 0) (cond (xK pf rf fr == 2) (gR n hs rf (w64 (fr + 5)) (gR n hs rf (w64 (fr + 6)) (xO pf rf vf fr (xB2 pf tf rf vf fr) z3 0 0))) (cond (xK pf rf fr == 3) (gV n hs vf (w64 (fr + 9)) 4000 (xO pf rf vf fr (xB3 vf fr) (ls [vf (w64 (fr + 9)) 4000 0, vf (w64 (fr + 9)) 4000 1, vf (w64 (fr + 9)) 4000 2]) 0 0))
    (cond (xK pf rf fr == 5) (cond (xK pf rf fr == 5) (x56 n hs pf tf rf vf x y w fr) (x4 pf tf rf vf fr)) (cond (xK pf rf fr == 6) (x56 n hs pf tf rf vf x y w fr) (x4 pf tf rf vf fr))))))))))
theorem xs_ev : ev Tryz.prog (M1 pf tf) [rwK rf, vcK vf, kS Tryz.prog 66 fun _ => V x y w] noL Tryz.f21 [sI n hs, iA fr, iA 1] ret = xX n hs pf tf rf vf x y w fr := by kernel_rfl
end
def rdP (x : Nat) : Nat := fadd (fmul x k1000) 4602678819172646912
def rdB (x : Nat) : Bool := fitI .i64 (rdP (cond (flt x 0) (fneg x) x))
def rdI (x : Nat) : Int := cond (flt x 0) (w64 (0 - f2i .i64 (rdP (fneg x)))) (f2i .i64 (rdP x))
theorem rd_ev (tf : Int → Nat) (x : Nat) : ev Tryz.prog [⟨64, eI fun n => .f (tf n)⟩] [] noL Tryz.f113 [.f x] ret = cond (flt x 0) (cond (fitI .i64 (rdP (fneg x)) || false) (some (Out.of (.f (tf (w64 (0 - f2i .i64 (rdP (fneg x)))))))) none) (cond (fitI .i64 (rdP x) || false) (some (Out.of (.f (tf (f2i .i64 (rdP x)))))) none) := by kernel_rfl
theorem rd_spec {x : Nat} (h : rdB x = true) : FSpec Tryz.prog 113 [.f x] (.f (mth (rdI x))) := by
  refine sp (e_cons (eI_ok mthou) e_nil) Tryz.func113 (by kernel_rfl) (by kernel_rfl) rfl ((rd_ev mth x).trans ?_)
  unfold rdB at h
  unfold rdI
  cases hf : flt x 0 <;> rw [hf] at h
  · rw [show fitI .i64 (rdP x) = true from h]; rfl
  · rw [show fitI .i64 (rdP (fneg x)) = true from h]; rfl
end Go.Proofs.YtancjnambbkhmaaGreat.Hs.So

namespace Go.Ev
open Ieee

/-- The word of a power of two, in units of the least float. -/
def pw (n : Nat) : Nat := (n - 51) * 4503599627370496
theorem rv_pw {n : Nat} (h : 52 ≤ n) : rv 52 (pw n) = 2 ^ n := by
  obtain ⟨k, rfl⟩ : ∃ k, n = 52 + k := ⟨n - 52, by omega⟩
  have e : pw (52 + k) = (k + 1) * 4503599627370496 := by unfold pw; congr 1; omega
  rw [e, rv_high (by omega), Nat.mul_mod_left, Nat.mul_div_cancel _ (by decide), Nat.add_zero, Nat.add_sub_cancel, Nat.pow_add]
/-- At most that. -/
def Bd (n x : Nat) : Prop := rung x ≤ pw n
theorem Bd.fin {n x : Nat} (h : Bd n x) (hn : n ≤ 2097) : isFin x = true := by
  unfold Bd pw at h
  unfold isFin
  exact Nat.ble_eq_true_of_le (by show rung x + 1 ≤ _; omega)
theorem Bd.val {n x : Nat} (h : Bd n x) (hn : 52 ≤ n) : (val x).natAbs ≤ 2 ^ n := by
  rw [val_abs, ← rv_pw hn]
  rcases Nat.lt_or_ge (rung x) (pw n) with e | e
  · exact Nat.le_of_lt (rv_lt 52 e)
  · rw [show rung x = pw n from Nat.le_antisymm h e]; exact Nat.le_refl _
theorem key_abs (x : Nat) : (key x).natAbs = rung x := by unfold key; cases sgn x <;> simp only [cond_true, cond_false] <;> omega
theorem KR_abs (v : Int) (g : Nat) : (KR v g).natAbs ≤ rq 52 v.natAbs g := by
  unfold KR
  cases decide (v < 0)
  · rw [cond_false, Int.natAbs_natCast]; exact Nat.min_le_left _ _
  · rw [cond_true, Int.natAbs_neg, Int.natAbs_natCast]; exact Nat.min_le_left _ _
theorem Bd.mono {n m x : Nat} (h : Bd n x) (hm : n ≤ m) : Bd m x :=
  Nat.le_trans h (Nat.mul_le_mul_right _ (Nat.sub_le_sub_right hm _))
theorem rv_le {r q : Nat} (h : r ≤ q) : rv 52 r ≤ rv 52 q := by
  rcases Nat.lt_or_ge r q with e | e
  · exact Nat.le_of_lt (rv_lt 52 e)
  · rw [Nat.le_antisymm h e]; exact Nat.le_refl _
theorem val_zero {x : Nat} : val x = 0 ↔ rung x = 0 := by
  constructor
  · intro h
    have h1 := val_abs x
    rw [h, Int.natAbs_zero] at h1
    rcases Nat.eq_zero_or_pos (rung x) with e | e
    · exact e
    · have := rv_lt 52 e; rw [rv_zero] at this; omega
  · intro h
    have h1 := val_abs x
    rw [h, rv_zero] at h1
    omega
theorem key_fneg {x : Nat} (h : isNan x = false) : key (fneg x) = - key x ∧ isNan (fneg x) = false := by
  have hx : ∀ s r, r ≤ 9218868437227405312 → key (fneg (double.word s r)) = - key (double.word s r) ∧ isNan (fneg (double.word s r)) = false := fun s r hr => by
    rw [fneg_word s hr, key_word _ hr, key_word _ hr, isNan_word _ hr]
    cases s <;> simp
  have e : fneg x = x ^^^ 9223372036854775808 := by unfold fneg; rw [h]; rfl
  have hr : rung x ≤ 9218868437227405312 := by
    rcases fin_or_inf h with h | h
    · have := isFin_lt h; omega
    · omega
  have hb : (x ^^^ 9223372036854775808) % 9223372036854775808 = x % 9223372036854775808 := by
    rw [show (9223372036854775808 : Nat) = 2 ^ 63 from by decide]
    rw [Nat.xor_mod_two_pow, Nat.mod_self]; simp
  have hs : sgn (x ^^^ 9223372036854775808) = !sgn x := by
    unfold sgn
    have : (x ^^^ 9223372036854775808) / 9223372036854775808 = x / 9223372036854775808 ^^^ 1 := by
      rw [show (9223372036854775808 : Nat) = 2 ^ 63 from by decide, ← Nat.shiftRight_eq_div_pow, ← Nat.shiftRight_eq_div_pow, Nat.shiftRight_xor_distrib]
      rfl
    rw [this]
    have h2 : (x / 9223372036854775808 ^^^ 1) % 2 = (x / 9223372036854775808 % 2) ^^^ 1 := by
      rw [show (2 : Nat) = 2 ^ 1 from rfl, Nat.xor_mod_two_pow]
    rw [h2]
    have : x / 9223372036854775808 % 2 = 0 ∨ x / 9223372036854775808 % 2 = 1 := by omega
    rcases this with e | e <;> rw [e] <;> rfl
  rw [e]
  constructor
  · unfold key
    rw [hs]
    have : rung (x ^^^ 9223372036854775808) = rung x := hb
    rw [this]
    cases sgn x <;> simp
  · unfold isNan at *
    rw [read_isNaN] at *
    rw [hb]; exact h
end Go.Ev

namespace Go.Ev
open Ieee

/-- y is 2^j times x, both nought or both normal numbers, of one sign. -/
structure Sc (j x y : Nat) : Prop where
  s : sgn x = sgn y
  fx : isFin x = true
  fy : isFin y = true
  r : (rung x = 0 ∧ rung y = 0) ∨ (2 ^ 52 ≤ rung x ∧ rung y = rung x + j * 2 ^ 52)
theorem rv_scale {r : Nat} (j : Nat) (h : 2 ^ 52 ≤ r) : rv 52 (r + j * 2 ^ 52) = rv 52 r * 2 ^ j := by
  have p : 0 < 2 ^ 52 := Nat.two_pow_pos 52
  unfold rv
  generalize 2 ^ 52 = b at *
  rw [if_neg (by have : r ≤ r + j * b := Nat.le_add_right _ _; omega), if_neg (by omega), Nat.add_mul_mod_self_right, Nat.add_mul_div_right _ _ p]
  have : 1 ≤ r / b := (Nat.le_div_iff_mul_le p).2 (by omega)
  rw [show r / b + j - 1 = (r / b - 1) + j by omega, Nat.pow_add, Nat.mul_assoc]
theorem Sc.val {j x y : Nat} (h : Sc j x y) : val y = val x * ((2 ^ j : Nat) : Int) := by
  unfold Go.Ev.val
  rw [← h.s]
  have e : rv 52 (rung y) = rv 52 (rung x) * 2 ^ j := by
    rcases h.r with ⟨a, b⟩ | ⟨a, b⟩
    · rw [a, b, rv_zero, Nat.zero_mul]
    · rw [b]; exact rv_scale j a
  rw [e]
  cases sgn x
  · simp only [cond_false]; push_cast; rfl
  · simp only [cond_true]; push_cast; rw [Int.neg_mul]
end Go.Ev

namespace Go.Ev
open Ieee

end Go.Ev

namespace Go.Ev
open Ieee

end Go.Ev

namespace Go.Ev
open Ieee

theorem rnd_exact {a g : Nat} (hg : 0 < g) (h : g ∣ a) : rnd a g = a / g := by
  obtain ⟨t, rfl⟩ := h
  unfold rnd
  rw [Nat.mul_mod_right, Nat.mul_zero]
  have h1 : decide (g < 0) = false := decide_eq_false (Nat.not_lt_zero _)
  have h2 : (g == 0) = false := by
    cases h3 : g == 0
    · rfl
    · have := eq_of_beq h3; omega
  rw [h1, h2]
  rfl
theorem rnd_lo {a : Nat} (h : 2 ^ 52 ≤ a) : 2 ^ 52 ≤ rnd a (2 ^ (a.log2 - 52)) ∧ rnd a (2 ^ (a.log2 - 52)) ≤ 2 ^ 53 := by
  have h0 : a ≠ 0 := by have := Nat.two_pow_pos 52; omega
  have hL : 52 ≤ a.log2 := (Nat.le_log2 h0).2 h
  have l1 := Nat.log2_self_le h0
  have l2 := Nat.lt_log2_self (n := a)
  constructor
  · refine Nat.le_trans ?_ (le_rnd _ _)
    rw [Nat.le_div_iff_mul_le (Nat.two_pow_pos _), ← Nat.pow_add, show 52 + (a.log2 - 52) = a.log2 by omega]
    exact l1
  · refine Nat.le_trans (rnd_le _ _) ?_
    have : a / 2 ^ (a.log2 - 52) < 2 ^ 53 := by
      rw [Nat.div_lt_iff_lt_mul (Nat.two_pow_pos _), ← Nat.pow_add, show 53 + (a.log2 - 52) = a.log2 + 1 by omega]
      exact l2
    exact this
/-- The value of what is rounded. -/
theorem rv_rq {a : Nat} (h : 2 ^ 52 ≤ a) : rv 52 (rq 52 a 1) = rnd a (2 ^ (a.log2 - 52)) * 2 ^ (a.log2 - 52) := by
  obtain ⟨r1, r2⟩ := rnd_lo h
  unfold rq
  rw [Nat.div_one, Nat.one_mul]
  generalize rnd a (2 ^ (a.log2 - 52)) = R at *
  generalize a.log2 - 52 = k
  have p52 : (2 : Nat) ^ 52 = 4503599627370496 := by decide
  have p53 : (2 : Nat) ^ 53 = 9007199254740992 := by decide
  rw [p52] at r1
  rw [p53] at r2
  rw [p52, rv_high (by omega)]
  rcases Nat.lt_or_ge R 9007199254740992 with e | e
  · have h1 : (k * 4503599627370496 + R) % 4503599627370496 = R - 4503599627370496 := by omega
    have h2 : (k * 4503599627370496 + R) / 4503599627370496 = k + 1 := by omega
    rw [h1, h2, Nat.add_sub_cancel, show 4503599627370496 + (R - 4503599627370496) = R by omega]
  · have h0 : R = 9007199254740992 := by omega
    subst h0
    have h1 : (k * 4503599627370496 + 9007199254740992) % 4503599627370496 = 0 := by omega
    have h2 : (k * 4503599627370496 + 9007199254740992) / 4503599627370496 = k + 2 := by omega
    rw [h1, h2, Nat.add_zero, show k + 2 - 1 = k + 1 by omega, Nat.pow_succ, show (9007199254740992 : Nat) = 4503599627370496 * 2 by decide, Nat.mul_assoc, Nat.mul_comm (2 ^ k) 2]
/-- A multiple of a power of two. -/
def Gr (k x : Nat) : Prop := 2 ^ k ∣ (val x).natAbs
theorem Gr.mono {k l x : Nat} (h : Gr k x) (hl : l ≤ k) : Gr l x := Nat.dvd_trans (Nat.pow_dvd_pow 2 hl) h
end Go.Ev

namespace Go.Ev
open Ieee

end Go.Ev

namespace Go.Ev
open Ieee

/-- x is the whole number a (c stands for 1074; of nought the sign is left open). -/
structure Wh (c x : Nat) (a : Int) : Prop where
  fin : isFin x = true
  val : val x = a * ((2 ^ c : Nat) : Int)
theorem wh_rv {c n : Nat} (hc : 52 ≤ c) (h0 : n ≠ 0) (h : n < 2 ^ 53) : rv 52 (rq 52 (n * 2 ^ c) 1) = n * 2 ^ c := by
  have h52 : 2 ^ 52 ≤ n * 2 ^ c := Nat.le_trans (Nat.pow_le_pow_right (by decide) hc) (Nat.le_mul_of_pos_left _ (by omega))
  have hl : n.log2 < 53 := (Nat.log2_lt h0).2 h
  have hd : 2 ^ ((n * 2 ^ c).log2 - 52) ∣ n * 2 ^ c := by
    rw [log2_mul_pow c h0]
    exact Nat.dvd_trans (Nat.pow_dvd_pow 2 (by omega)) (Nat.dvd_mul_left _ _)
  rw [rv_rq h52, rnd_exact (Nat.two_pow_pos _) hd, Nat.div_mul_cancel hd]
section
variable {c x y : Nat} {a b : Int} (hc : c = 1074)
include hc
omit hc
end
end Go.Ev

namespace Go.Ev
open Ieee

/-- The next whole number below. -/
def flr (a : Nat) : Nat := cond (isNan a) nanB (double.write ((double.read a).integral .down))
end Go.Ev
namespace Go.Proofs.YtancjnambbkhmaaGreat
open Go.Gv
open Go.Ev (flr)

end Go.Proofs.YtancjnambbkhmaaGreat

namespace Go.Ev
open Ieee

def VB (a j x : Nat) : Prop := isFin x = true ∧ (val x).natAbs ≤ a * 2 ^ j
theorem VB.more {a j a' x : Nat} (h : VB a j x) (ha : a ≤ a') : VB a' j x := ⟨h.1, Nat.le_trans h.2 (Nat.mul_le_mul_right _ ha)⟩
theorem VB.up {a j k x : Nat} (h : VB a j x) (hk : a ≤ 2 ^ k) : VB 1 (j + k) x := ⟨h.1, Nat.le_trans h.2 (by rw [Nat.one_mul, Nat.pow_add, Nat.mul_comm]; exact Nat.mul_le_mul_left _ hk)⟩
theorem vb_of {z g a j : Nat} {v : Int} (hz : key z = KR v g) (hg : 0 < g) (hv : v.natAbs ≤ a * 2 ^ j * g) (ha : a ≠ 0) (ha' : a < 2 ^ 53) (hj : 52 ≤ j) (hj' : j ≤ 2000) : VB a j z := by
  have h1 : rung z ≤ rq 52 (a * 2 ^ j) 1 := by
    rw [← key_abs, hz]
    exact Nat.le_trans (KR_abs v g) (rq_mono 52 hg (by decide) (by rw [Nat.mul_one]; exact hv))
  constructor
  · have h2 : rq 52 (a * 2 ^ j) 1 ≤ pw (53 + j) := by
      refine Nat.le_trans (rq_mono1 52 (Nat.mul_le_mul_right _ (Nat.le_of_lt ha'))) ?_
      rw [← Nat.pow_add, ← rv_pw (by omega), rq_rv]
      exact Nat.le_refl _
    have h3 : Bd (53 + j) z := Nat.le_trans h1 h2
    exact h3.fin (by omega)
  · rw [val_abs]
    have h4 := rv_le h1
    rw [wh_rv hj ha ha'] at h4
    exact h4
theorem vb_zero (a j : Nat) : VB a j 0 := ⟨by decide +kernel, by
  have : val 0 = 0 := val_zero.2 (by decide)
  rw [this]; exact Nat.zero_le _⟩
section
variable {c x y a b i j : Nat} (hc : c = 1074)
theorem vb_add (hx : VB a j x) (hy : VB b j y) (h0 : a + b ≠ 0) (h : a + b < 2 ^ 53) (hj : 52 ≤ j) (hj' : j ≤ 2000) : VB (a + b) j (fadd x y) := by
  refine vb_of (key_add hx.1 hy.1).1 (by decide) ?_ h0 h hj hj'
  have h1 := hx.2
  have h2 := hy.2
  rw [Nat.mul_one, Nat.add_mul]
  generalize a * 2 ^ j = A at *
  generalize b * 2 ^ j = B at *
  omega
theorem vb_sub (hx : VB a j x) (hy : VB b j y) (h0 : a + b ≠ 0) (h : a + b < 2 ^ 53) (hj : 52 ≤ j) (hj' : j ≤ 2000) : VB (a + b) j (fsub x y) := by
  refine vb_of (key_sub hx.1 hy.1).1 (by decide) ?_ h0 h hj hj'
  have h1 := hx.2
  have h2 := hy.2
  rw [Nat.mul_one, Nat.add_mul]
  generalize a * 2 ^ j = A at *
  generalize b * 2 ^ j = B at *
  omega
include hc
theorem vb_mul {k : Nat} (hx : VB a i x) (hy : VB 1 j y) (hk : k + c = i + j) (h0 : a ≠ 0) (h : a < 2 ^ 53) (hj : 52 ≤ k) (hj' : k ≤ 2000) : VB a k (fmul x y) := by
  refine vb_of (key_mul hc hx.1 hy.1).1 (Nat.two_pow_pos _) ?_ h0 h hj hj'
  rw [Int.natAbs_mul, Nat.mul_assoc, ← Nat.pow_add, hk, Nat.pow_add, ← Nat.mul_assoc]
  have := hy.2
  rw [Nat.one_mul] at this
  exact Nat.mul_le_mul hx.2 this
end
theorem cut_le (way : Toward) (s : Bool) (n d : Nat) : way.cut s n d ≤ n + 1 := by
  unfold Toward.cut
  exact Nat.add_le_add (Nat.div_le_self n _) (toNat_le_one _)
/-- A number of no more than 2^54, made whole. -/
theorem whole_le {c j x : Nat} (way : Toward) (hc : c = 1074) (hx : VB 1 (c + j) x) (hj : 53 ≤ j) : ∃ s M, (double.read x).integral way = .number s M 0 ∧ M ≤ 2 ^ j + 1 := by
  obtain ⟨m, i, h1, h2, h3, h4⟩ := read_fin hx.1
  have hv := hx.2
  rw [val_abs, h4, Nat.one_mul] at hv
  rw [h1]
  refine ⟨_, _, rfl, Nat.le_trans (cut_le _ _ _ _) (Nat.add_le_add_right ?_ 1)⟩
  rw [Nat.shiftLeft_eq]
  by_cases hi : 0 ≤ i
  · obtain ⟨u, rfl⟩ : ∃ u : Nat, i = u := ⟨i.toNat, by omega⟩
    rw [show ((u : Int) + 1074).toNat = u + c by omega, Nat.pow_add, ← Nat.mul_assoc, Nat.add_comm c j, Nat.pow_add] at hv
    have := Nat.le_of_mul_le_mul_right hv (Nat.two_pow_pos c)
    rw [Int.toNat_natCast]
    exact this
  · rw [show i.toNat = 0 by omega, Nat.pow_zero, Nat.mul_one]
    have : 2 ^ 53 ≤ 2 ^ j := Nat.pow_le_pow_right (by decide) hj
    have e : 2 ^ 53 = 9007199254740992 := by decide
    omega
theorem fit_vb {c j x : Nat} (hc : c = 1074) (hx : VB 1 (c + j) x) (hj : 53 ≤ j) (hj' : j ≤ 60) : Go.Gv.fitI .i64 x = true := by
  obtain ⟨s, M, h1, h2⟩ := whole_le .zero hc hx hj
  have hM : M ≤ 2 ^ 60 + 1 := Nat.le_trans h2 (Nat.add_le_add_right (Nat.pow_le_pow_right (by decide) hj') 1)
  have e60 : 2 ^ 60 = 1152921504606846976 := by decide
  unfold Go.Gv.fitI floatToIntVal
  have ht : (FloatKind.f64.decode x).toInt .zero = some (signed s M 0) := by
    show (double.read x).toInt .zero = _
    unfold Datum.toInt
    rw [h1]
  rw [ht]
  have hs : signed s M 0 = cond s (-(M : Int)) (M : Int) := by
    rw [signed_val, Nat.pow_zero, Nat.mul_one]
  have h3 : IntKind.i64.min ≤ signed s M 0 ∧ signed s M 0 ≤ IntKind.i64.max := by
    rw [hs, show IntKind.i64.min = -9223372036854775808 by decide, show IntKind.i64.max = 9223372036854775807 by decide]
    cases s
    · rw [cond_false]; omega
    · rw [cond_true]; omega
  simp only [h3, and_self, if_true]
  rfl
end Go.Ev

namespace Go.Ev
open Ieee
theorem vb_exp {j k x : Nat} (h : VB 1 j x) (hk : j ≤ k) : VB 1 k x := ⟨h.1, Nat.le_trans h.2 (Nat.mul_le_mul_left _ (Nat.pow_le_pow_right (by decide) hk))⟩
theorem vb_const {c j x : Nat} (hc : c = 1074) (h : (isFin x && Nat.ble (val x).natAbs (1 * 2 ^ (1074 + j))) = true) : VB 1 (c + j) x := by
  subst hc
  simp only [Bool.and_eq_true] at h
  exact ⟨h.1, Nat.le_of_ble_eq_true h.2⟩
end Go.Ev
namespace Go.Proofs.YtancjnambbkhmaaGreat
open Go.Gv

end Go.Proofs.YtancjnambbkhmaaGreat
namespace Go.Proofs.YtancjnambbkhmaaGreat.Hs
open Go.Gv
open Go.Ev (cn fadd fsub fmul fdiv fsqrt fneg feq flt fle fgt fge fabs isNan flr VB)

end Go.Proofs.YtancjnambbkhmaaGreat.Hs

namespace Go.Ev
open Ieee
theorem mth_whole {c : Nat} (hc : c = 1074) (n : Int) : key (cn (FloatKind.f64.nearest n)) = KR (n * ((2 ^ c : Nat) : Int)) 1 ∧ isNan (cn (FloatKind.f64.nearest n)) = false := by
  have hd : FloatKind.f64.nearest n = Ieee.double.nearest (decide (n < 0)) n.natAbs 0 := rfl
  have hn : isNan (FloatKind.f64.nearest n) = false := by rw [hd]; exact isNan_nearest _ _ _
  rw [cn_of_not hn]
  refine ⟨?_, hn⟩
  rw [hd]
  refine key_nearest (u := c) (w := 0) (by decide) (by omega) ?_ ?_
  · rw [Int.natAbs_mul, Int.natAbs_natCast, Nat.pow_zero]
  · intro h
    have hp : (0 : Int) < ((2 ^ c : Nat) : Int) := by have := Nat.two_pow_pos c; omega
    by_cases h0 : n < 0
    · rw [decide_eq_true h0, decide_eq_true (Int.mul_neg_of_neg_of_pos h0 hp)]
    · rw [decide_eq_false h0, decide_eq_false (Int.not_lt.2 (Int.mul_nonneg (by omega) (by omega)))]
theorem near_vb {c j : Nat} (hc : c = 1074) (hj : j ≤ 70) {n : Int} (h : n.natAbs ≤ 2 ^ j) : VB 1 (c + j) (cn (FloatKind.f64.nearest n)) := by
  refine vb_of (mth_whole hc n).1 (by decide) ?_ (by decide) (by decide) (by omega) (by omega)
  rw [Int.natAbs_mul, Int.natAbs_natCast, Nat.mul_one, Nat.one_mul, Nat.pow_add, Nat.mul_comm]
  exact Nat.mul_le_mul_left _ h
theorem fneg_vb {j x : Nat} (h : VB 1 j x) : VB 1 j (fneg x) := by
  obtain ⟨e1, e2⟩ := key_fneg (fin_not_nan h.1)
  have er : rung (fneg x) = rung x := by rw [← key_abs, ← key_abs, e1, Int.natAbs_neg]
  refine ⟨?_, ?_⟩
  · have := h.1
    unfold isFin at this ⊢
    rw [er]; exact this
  · have := h.2
    rw [val_abs] at this ⊢
    rw [er]; exact this
end Go.Ev
namespace Go.Proofs.YtancjnambbkhmaaGreat.Hs.So
open Go.Gv
open Go.Ev (cn fadd fsub fmul fdiv fsqrt fneg feq flt fle fgt fge fabs VB key isNan isFin val)

theorem mth_vb {c j : Nat} (hc : c = 1074) (hj : j ≤ 60) {n : Int} (h : n.natAbs ≤ 2 ^ (j + 9)) : VB 1 (c + j) (mth n) := by
  have h1 := Go.Ev.near_vb hc (j := j + 9) (by omega) h
  have ev : val k1000 = ((1000 * 2 ^ c : Nat) : Int) := by subst hc; decide +kernel
  have hp := Nat.two_pow_pos c
  have hk := (Go.Ev.key_div hc h1.1 (show isFin k1000 = true by decide +kernel) (by rw [ev]; omega)).1
  unfold mth
  refine Go.Ev.vb_of hk ?_ ?_ (by decide) (by decide) (by omega) (by omega)
  · rw [ev, Int.natAbs_natCast]; omega
  · rw [ev, Int.natAbs_mul, Int.natAbs_mul, Int.natAbs_natCast, Int.natAbs_natCast]
    have es : (Go.Ev.sg ((1000 * 2 ^ c : Nat) : Int)).natAbs = 1 := by
      unfold Go.Ev.sg
      rw [decide_eq_false (by omega)]; rfl
    rw [es, Nat.mul_one, Nat.one_mul, ← Nat.mul_assoc]
    refine Nat.mul_le_mul_right _ (Nat.le_trans h1.2 ?_)
    rw [Nat.one_mul, ← Nat.add_assoc, Nat.pow_add _ _ 9]
    exact Nat.mul_le_mul_left _ (by decide)
theorem rdP_vb {c j x : Nat} (hc : c = 1074) (hj : j ≤ 46) (h : VB 1 (c + j) x) : VB 1 (c + (j + 11)) (rdP x) := by
  have h1 := Go.Ev.vb_mul hc h (Go.Ev.vb_const (j := 10) (x := k1000) hc (by decide +kernel)) (k := c + (j + 10)) (by omega) (by decide) (by decide) (by omega) (by omega)
  have h2 := Go.Ev.vb_exp (Go.Ev.vb_const (j := 0) (x := 4602678819172646912) hc (by decide +kernel)) (show c + 0 ≤ c + (j + 10) by omega)
  have h3 := Go.Ev.vb_add h1 h2 (by decide) (by decide) (by omega) (by omega)
  exact Go.Ev.VB.up (k := 1) h3 (by decide)
theorem rd_fit {c j x : Nat} (hc : c = 1074) (hj : j ≤ 46) (h : VB 1 (c + j) x) : rdB x = true := by
  have go : ∀ {x}, VB 1 (c + j) x → fitI .i64 (rdP x) = true := fun {x} h => Go.Ev.fit_vb (j := 57) hc (Go.Ev.vb_exp (rdP_vb hc hj h) (by omega)) (by omega) (by omega)
  unfold rdB
  cases flt x 0
  · exact go h
  · exact go (Go.Ev.fneg_vb h)
theorem add_vb {c j x y : Nat} (hc : c = 1074) (hj : j ≤ 60) (h : VB 1 (c + j) x) (g : VB 1 (c + j) y) : VB 1 (c + (j + 1)) (fadd x y) := by
  have h3 := Go.Ev.vb_add h g (by decide) (by decide) (by omega) (by omega)
  exact Go.Ev.VB.up (k := 1) h3 (by decide)
end Go.Proofs.YtancjnambbkhmaaGreat.Hs.So

namespace Go.Ev
open Ieee
theorem cut_tz (s : Bool) (n d : Nat) : Toward.zero.cut s n d = n / 2 ^ d := by
  unfold Toward.cut
  show n / (1 <<< min d (n.log2 + 2)) + 0 = n / 2 ^ d
  rw [Nat.add_zero, Nat.one_shiftLeft]
  by_cases h : d ≤ n.log2 + 2
  · rw [Nat.min_eq_left h]
  · rw [Nat.min_eq_right (by omega)]
    have h1 : n < 2 ^ (n.log2 + 1) := Nat.lt_log2_self
    have h2 : 2 ^ (n.log2 + 1) ≤ 2 ^ (n.log2 + 2) := Nat.pow_le_pow_right (by decide) (by omega)
    have h3 : 2 ^ (n.log2 + 1) ≤ 2 ^ d := Nat.pow_le_pow_right (by decide) (by omega)
    rw [Nat.div_eq_of_lt (by omega), Nat.div_eq_of_lt (by omega)]
/-- A number, cut off. -/
theorem whole_zero {c x : Nat} (hc : c = 1074) (hx : isFin x = true) : (double.read x).integral .zero = .number (sgn x) ((val x).natAbs / 2 ^ c) 0 := by
  obtain ⟨m, i, h1, h2, h3, h4⟩ := read_fin hx
  rw [h1, val_abs, h4]
  show Datum.number (sgn x) (Toward.zero.cut (sgn x) (m <<< i.toNat) (-i).toNat) 0 = _
  congr 1
  rw [cut_tz, Nat.shiftLeft_eq]
  by_cases hi : 0 ≤ i
  · obtain ⟨u, rfl⟩ : ∃ u : Nat, i = u := ⟨i.toNat, by omega⟩
    rw [show (-(u : Int)).toNat = 0 by omega, Nat.pow_zero, Nat.div_one, Int.toNat_natCast, show ((u : Int) + 1074).toNat = u + c by omega, Nat.pow_add, ← Nat.mul_assoc, Nat.mul_div_cancel _ (Nat.two_pow_pos c)]
  · obtain ⟨d, hd⟩ : ∃ d : Nat, i = -(d : Int) ∧ d ≤ c := ⟨(-i).toNat, by omega, by omega⟩
    rw [hd.1, show (-(d : Int)).toNat = 0 by omega, Nat.pow_zero, Nat.mul_one, show (- -(d : Int)).toNat = d by omega, show (-(d : Int) + 1074).toNat = c - d by omega]
    have e : 2 ^ c = 2 ^ d * 2 ^ (c - d) := by rw [← Nat.pow_add]; congr 1; omega
    rw [e, Nat.mul_div_mul_right _ _ (Nat.two_pow_pos _)]
theorem f2i_exact {c x : Nat} (hc : c = 1074) (hx : isFin x = true) (hb : (val x).natAbs / 2 ^ c ≤ 4611686018427387904) : Go.Gv.f2i .i64 x = cond (sgn x) (-(((val x).natAbs / 2 ^ c : Nat) : Int)) (((val x).natAbs / 2 ^ c : Nat) : Int) := by
  have h1 := whole_zero hc hx
  generalize (val x).natAbs / 2 ^ c = M at h1 hb ⊢
  unfold Go.Gv.f2i floatToIntVal
  have ht : (FloatKind.f64.decode x).toInt .zero = some (signed (sgn x) M 0) := by
    show (double.read x).toInt .zero = _
    unfold Datum.toInt
    rw [h1]
  rw [ht]
  have hs : signed (sgn x) M 0 = cond (sgn x) (-(M : Int)) (M : Int) := by
    rw [signed_val, Nat.pow_zero, Nat.mul_one]
  have h3 : IntKind.i64.min ≤ signed (sgn x) M 0 ∧ signed (sgn x) M 0 ≤ IntKind.i64.max := by
    rw [hs, show IntKind.i64.min = -9223372036854775808 by decide, show IntKind.i64.max = 9223372036854775807 by decide]
    cases sgn x
    · rw [cond_false]; omega
    · rw [cond_true]; omega
  simp only [h3, and_self, if_true, Option.getD_some]
  exact hs
/-- A number that is not negative, cut off. -/
theorem f2i_pos {c x : Nat} (hc : c = 1074) (hx : isFin x = true) (h0 : 0 ≤ val x) (hb : (val x).natAbs / 2 ^ c ≤ 4611686018427387904) : Go.Gv.f2i .i64 x = (((val x).natAbs / 2 ^ c : Nat) : Int) := by
  rw [f2i_exact hc hx hb]
  cases hs : sgn x
  · rfl
  · have e : val x = -(rv 52 (rung x) : Int) := by unfold val; rw [hs]; rfl
    have z : (val x).natAbs = 0 := by omega
    rw [z, Nat.zero_div]; rfl
theorem f2i_mono {c x y : Nat} (hc : c = 1074) (hx : isFin x = true) (hy : isFin y = true) (h0 : 0 ≤ val x) (h : key x ≤ key y) (hb : (val y).natAbs / 2 ^ c ≤ 4611686018427387904) : Go.Gv.f2i .i64 x ≤ Go.Gv.f2i .i64 y := by
  have hv := val_le.2 h
  have h1 : (val x).natAbs / 2 ^ c ≤ (val y).natAbs / 2 ^ c := Nat.div_le_div_right (by omega)
  rw [f2i_pos hc hx h0 (by omega), f2i_pos hc hy (by omega) hb]
  omega
theorem VB.cut {c a j x : Nat} (h : VB a j x) : (val x).natAbs / 2 ^ c ≤ a * 2 ^ j / 2 ^ c := Nat.div_le_div_right h.2
/-- Near numbers. -/
theorem near_of_vb {c x : Nat} (hc : c = 1074) (h : VB 1 (c + 19) x) : isNan x = false ∧ -4696837146684686336 ≤ key x ∧ key x ≤ 4696837146684686336 := by
  have e1 : key 13920209183539462144 = -4696837146684686336 := by decide +kernel
  have e2 : key 4696837146684686336 = 4696837146684686336 := by decide +kernel
  have t1 : ((1 * 2 ^ (c + 19) : Nat) : Int) ≤ val 4696837146684686336 := by subst hc; decide +kernel
  have t2 : val 13920209183539462144 ≤ -((1 * 2 ^ (c + 19) : Nat) : Int) := by subst hc; decide +kernel
  have h2 := h.2
  generalize 1 * 2 ^ (c + 19) = B at *
  have a1 := val_le.1 (show val 13920209183539462144 ≤ val x by omega)
  have a2 := val_le.1 (show val x ≤ val 4696837146684686336 by omega)
  exact ⟨fin_not_nan h.1, by omega, by omega⟩
end Go.Ev
namespace Go.Proofs.YtancjnambbkhmaaGreat.Hs.So
open Go.Gv
open Go.Ev (cn fadd fsub fmul fdiv fsqrt fneg feq flt fle fgt fge fabs VB key isNan isFin val)

theorem nearS_vb {c x : Nat} (hc : c = 1074) (h : VB 1 (c + 19) x) : nearS x = true := by
  obtain ⟨n1, k1, k2⟩ := Go.Ev.near_of_vb hc h
  have c1 : key 13920209183539462144 = -4696837146684686336 := by decide +kernel
  have c2 : key 4696837146684686336 = 4696837146684686336 := by decide +kernel
  unfold nearS
  rw [Go.Ev.fge_key n1 (by decide +kernel), decide_eq_true (by omega), cond_true, Go.Ev.fle_key n1 (by decide +kernel), decide_eq_true (by omega)]
theorem mth_mono {c : Nat} (hc : c = 1074) {m n : Int} (h : m ≤ n) (h1 : m.natAbs ≤ 2 ^ 60) (h2 : n.natAbs ≤ 2 ^ 60) : key (mth m) ≤ key (mth n) := by
  have f1 := (Go.Ev.near_vb hc (j := 60) (by decide) h1).1
  have f2 := (Go.Ev.near_vb hc (j := 60) (by decide) h2).1
  unfold mth
  refine Go.Ev.fdiv_mono f1 f2 (by decide +kernel) (by decide +kernel) ?_
  rw [(Go.Ev.mth_whole hc m).1, (Go.Ev.mth_whole hc n).1]
  exact Go.Ev.KR_mono 1 (Int.mul_le_mul_of_nonneg_right h (Int.natCast_nonneg _))
end Go.Proofs.YtancjnambbkhmaaGreat.Hs.So

namespace Go.Proofs.YtancjnambbkhmaaGreat.Hs.So
open Go.Gv
open Go.Ev (cn fadd fsub fmul fdiv fsqrt fneg feq flt fle fgt fge fabs VB key isNan isFin val flt_key)

theorem k1000_val {c : Nat} (hc : c = 1074) : val k1000 = ((1000 * 2 ^ c : Nat) : Int) := by subst hc; decide +kernel
theorem k1000_fin : isFin k1000 = true := by decide +kernel
theorem fmul_k_mono {x y : Nat} (hx : isFin x = true) (hy : isFin y = true) (h : key x ≤ key y) : key (fmul x k1000) ≤ key (fmul y k1000) := by
  obtain ⟨c, hc⟩ : ∃ c, c = 1074 := ⟨_, rfl⟩
  rw [(Go.Ev.key_mul hc hx k1000_fin).1, (Go.Ev.key_mul hc hy k1000_fin).1]
  have hv := Go.Ev.val_le.2 h
  refine Go.Ev.KR_mono _ (Int.mul_le_mul_of_nonneg_right hv ?_)
  rw [k1000_val hc]; exact Int.natCast_nonneg _
theorem rdP_mono {c j x y : Nat} (hc : c = 1074) (hj : j ≤ 46) (hx : VB 1 (c + j) x) (hy : VB 1 (c + j) y) (h : key x ≤ key y) : key (rdP x) ≤ key (rdP y) := by
  have m1 := Go.Ev.vb_mul hc hx (Go.Ev.vb_const (j := 10) (x := k1000) hc (by decide +kernel)) (k := c + (j + 10)) (by omega) (by decide) (by decide) (by omega) (by omega)
  have m2 := Go.Ev.vb_mul hc hy (Go.Ev.vb_const (j := 10) (x := k1000) hc (by decide +kernel)) (k := c + (j + 10)) (by omega) (by decide) (by decide) (by omega) (by omega)
  exact Go.Ev.fadd_mono m1.1 m2.1 (by decide +kernel) (fmul_k_mono hx.1 hy.1 h)
theorem rdP_pos {c j x : Nat} (hc : c = 1074) (hj : j ≤ 46) (hx : VB 1 (c + j) x) (h : 0 ≤ key x) : 0 ≤ val (rdP x) := by
  have z : VB 1 (c + j) 0 := Go.Ev.vb_zero 1 (c + j)
  have k0 : key 0 = 0 := by decide +kernel
  have h1 := rdP_mono hc hj z hx (by omega)
  have h2 : 0 ≤ key (rdP 0) := by decide +kernel
  have h3 := Go.Ev.val_le.2 (show key 0 ≤ key (rdP x) by omega)
  have h4 : val 0 = 0 := by decide +kernel
  omega
theorem cut_le60 {c j x : Nat} (hj : j ≤ 60) (h : VB 1 (c + j) x) : (val x).natAbs / 2 ^ c ≤ 4611686018427387904 := by
  refine Nat.le_trans (Go.Ev.VB.cut h) ?_
  rw [Nat.one_mul, Nat.pow_add, Nat.mul_comm, Nat.mul_div_cancel _ (Nat.two_pow_pos c)]
  exact Nat.le_trans (Nat.pow_le_pow_right (by decide) hj) (by decide)
/-- What is cut off rises. -/
theorem cutP_mono {c j x y : Nat} (hc : c = 1074) (hj : j ≤ 46) (hx : VB 1 (c + j) x) (hy : VB 1 (c + j) y) (h0 : 0 ≤ key x) (h : key x ≤ key y) : f2i .i64 (rdP x) ≤ f2i .i64 (rdP y) :=
  Go.Ev.f2i_mono hc (rdP_vb hc hj hx).1 (rdP_vb hc hj hy).1 (rdP_pos hc hj hx h0) (rdP_mono hc hj hx hy h) (cut_le60 (by omega) (rdP_vb hc hj hy))
theorem not_flt0 {x : Nat} (hx : isFin x = true) (h : 0 ≤ key x) : flt x 0 = false := by
  have k0 : key 0 = 0 := by decide +kernel
  rw [flt_key (Go.Ev.fin_not_nan hx) (by decide +kernel), decide_eq_false (by omega)]
theorem flt0 {x : Nat} (hx : isFin x = true) (h : key x < 0) : flt x 0 = true := by
  have k0 : key 0 = 0 := by decide +kernel
  rw [flt_key (Go.Ev.fin_not_nan hx) (by decide +kernel), decide_eq_true (by omega)]
theorem mth_vb1 {c : Nat} (hc : c = 1074) {p : Int} (h : p.natAbs ≤ 1024) : VB 1 (c + 1) (mth p) := mth_vb hc (by decide) (by show _ ≤ 1024; exact h)
section
variable {e : Nat} (he : ∀ c, c = 1074 → VB 1 (c + 1) e) {p0 p1 p : Int} (h0 : p0.natAbs ≤ 1024) (hp : p.natAbs ≤ 1024) (a : p0 ≤ p) (b : p ≤ p1)
include he h0 hp a b
omit b in
theorem mv_key {c : Nat} (hc : c = 1074) : VB 1 (c + (1 + 1)) (fadd (mth p0) e) ∧ VB 1 (c + (1 + 1)) (fadd (mth p) e) ∧ key (fadd (mth p0) e) ≤ key (fadd (mth p) e) := by
  have v0 := mth_vb1 hc h0
  have v1 := mth_vb1 hc hp
  have ve : VB 1 (c + 1) e := he c hc
  exact ⟨add_vb hc (by decide) v0 ve, add_vb hc (by decide) v1 ve, Go.Ev.fadd_mono v0.1 v1.1 ve.1 (mth_mono hc a (by omega) (by omega))⟩
theorem rd_block (hk : 0 ≤ key (fadd (mth p0) e)) (hq : p1 ≤ f2i .i64 (rdP (fadd (mth p0) e))) : p ≤ rdI (fadd (mth p) e) := by
  obtain ⟨c, hc⟩ : ∃ c, c = 1074 := ⟨_, rfl⟩
  obtain ⟨v0, v1, hm⟩ := mv_key he h0 hp a hc
  have := cutP_mono hc (by decide) v0 v1 hk hm
  unfold rdI
  rw [not_flt0 v1.1 (by omega), cond_false]
  omega
theorem rd_blockN (hq : f2i .i64 (rdP (fneg (fadd (mth p0) e))) ≤ -p1) : p ≤ rdI (fadd (mth p) e) ∨ 0 ≤ key (fadd (mth p) e) := by
  obtain ⟨c, hc⟩ : ∃ c, c = 1074 := ⟨_, rfl⟩
  obtain ⟨v0, v1, hm⟩ := mv_key he h0 hp a hc
  by_cases hz : 0 ≤ key (fadd (mth p) e)
  · exact Or.inr hz
  left
  have n0 := Go.Ev.fneg_vb v0
  have n1 := Go.Ev.fneg_vb v1
  have k0 := (Go.Ev.key_fneg (Go.Ev.fin_not_nan v0.1)).1
  have k1 := (Go.Ev.key_fneg (Go.Ev.fin_not_nan v1.1)).1
  have := cutP_mono hc (by decide) n1 n0 (by omega) (by omega)
  have w := Go.Ev.f2i_pos hc (rdP_vb hc (by decide) n1).1 (rdP_pos hc (by decide) n1 (by omega)) (cut_le60 (by decide) (rdP_vb hc (by decide) n1))
  have w2 := cut_le60 (by decide) (rdP_vb hc (by decide) n1)
  generalize (val (rdP (fneg (fadd (mth p) e)))).natAbs / 2 ^ c = M at w w2
  unfold rdI
  rw [flt0 v1.1 (by omega), cond_true, w64_id (by omega) (by omega)]
  omega
end
/-- One more, rounded, is no less. -/
theorem c_one : ∀ c, c = 1074 → VB 1 (c + 1) one := fun c hc => Go.Ev.vb_const (j := 1) hc (by decide +kernel)
theorem c_one' : ∀ c, c = 1074 → VB 1 (c + 1) (fadd 0 one) := fun c hc => Go.Ev.vb_const (j := 1) hc (by decide +kernel)
theorem c_half : ∀ c, c = 1074 → VB 1 (c + 1) 4602678819172646912 := fun c hc => Go.Ev.vb_const (j := 1) hc (by decide +kernel)
theorem rd_up1 {p : Int} (hp : p.natAbs ≤ 1000) : p ≤ rdI (fadd (mth p) (fadd 0 one)) := by
  have a1 : 0 ≤ key (fadd (mth (-1000)) (fadd 0 one)) := by decide +kernel
  have a2 : 0 ≤ f2i .i64 (rdP (fadd (mth (-1000)) (fadd 0 one))) := by decide +kernel
  have b1 : 0 ≤ key (fadd (mth 0) (fadd 0 one)) := by decide +kernel
  have b2 : 1000 ≤ f2i .i64 (rdP (fadd (mth 0) (fadd 0 one))) := by decide +kernel
  by_cases h1 : p ≤ 0
  · exact rd_block c_one' (by omega) (by omega) (show -1000 ≤ p by omega) h1 a1 a2
  · exact rd_block c_one' (by omega) (by omega) (show 0 ≤ p by omega) (show p ≤ 1000 by omega) b1 b2
theorem rd_up1' {p : Int} (hp : p.natAbs ≤ 1000) : p ≤ rdI (fadd (mth p) one) := by
  have a1 : 0 ≤ key (fadd (mth (-1000)) one) := by decide +kernel
  have a2 : 0 ≤ f2i .i64 (rdP (fadd (mth (-1000)) one)) := by decide +kernel
  have b1 : 0 ≤ key (fadd (mth 0) one) := by decide +kernel
  have b2 : 1000 ≤ f2i .i64 (rdP (fadd (mth 0) one)) := by decide +kernel
  by_cases h1 : p ≤ 0
  · exact rd_block c_one (by omega) (by omega) (show -1000 ≤ p by omega) h1 a1 a2
  · exact rd_block c_one (by omega) (by omega) (show 0 ≤ p by omega) (show p ≤ 1000 by omega) b1 b2
theorem rd_uph {p : Int} (hp : p.natAbs ≤ 1000) : p ≤ rdI (fadd (mth p) 4602678819172646912) := by
  have z1 : f2i .i64 (rdP (fneg (fadd (mth (-1000)) 4602678819172646912))) ≤ -(-500) := by decide +kernel
  have a1 : 0 ≤ key (fadd (mth (-500)) 4602678819172646912) := by decide +kernel
  have a2 : 0 ≤ f2i .i64 (rdP (fadd (mth (-500)) 4602678819172646912)) := by decide +kernel
  have b1 : 0 ≤ key (fadd (mth 0) 4602678819172646912) := by decide +kernel
  have b2 : 500 ≤ f2i .i64 (rdP (fadd (mth 0) 4602678819172646912)) := by decide +kernel
  have d1 : 0 ≤ key (fadd (mth 500) 4602678819172646912) := by decide +kernel
  have d2 : 1000 ≤ f2i .i64 (rdP (fadd (mth 500) 4602678819172646912)) := by decide +kernel
  by_cases h1 : p ≤ -500
  · rcases rd_blockN c_half (p1 := -500) (p := p) (by omega) (by omega) (show -1000 ≤ p by omega) h1 z1 with h | h
    · exact h
    · obtain ⟨c, hc⟩ : ∃ c, c = 1074 := ⟨_, rfl⟩
      obtain ⟨v0, v1, hm⟩ := mv_key c_half (p0 := p) (p := p) (by omega) (by omega) (Int.le_refl _) hc
      refine rd_block c_half (by omega) (by omega) (Int.le_refl p) (Int.le_refl p) h ?_
      rw [Go.Ev.f2i_pos hc (rdP_vb hc (by decide) v0).1 (rdP_pos hc (by decide) v0 h) (cut_le60 (by decide) (rdP_vb hc (by decide) v0))]
      have : (0 : Int) ≤ (((val (rdP (fadd (mth p) 4602678819172646912))).natAbs / 2 ^ c : Nat) : Int) := Int.natCast_nonneg _
      generalize (((val (rdP (fadd (mth p) 4602678819172646912))).natAbs / 2 ^ c : Nat) : Int) = M at this ⊢
      omega
  by_cases h2 : p ≤ 0
  · exact rd_block c_half (by omega) (by omega) (show -500 ≤ p by omega) h2 a1 a2
  by_cases h3 : p ≤ 500
  · exact rd_block c_half (by omega) (by omega) (show 0 ≤ p by omega) h3 b1 b2
  · exact rd_block c_half (by omega) (by omega) (show 500 ≤ p by omega) (show p ≤ 1000 by omega) d1 d2
/-- A number between -1 and 1, in thousandths. -/
theorem rdI_unit {c x : Nat} (hc : c = 1074) (h : VB 1 c x) : (rdI x).natAbs ≤ 1000 := by
  obtain ⟨d, hd⟩ : ∃ d, c = d + 1 := ⟨c - 1, by omega⟩
  have go : ∀ {x}, VB 1 c x → 0 ≤ key x → 0 ≤ f2i .i64 (rdP x) ∧ f2i .i64 (rdP x) ≤ 1000 := fun {x} h h0 => by
    have m1 : VB 1000 c (fmul x k1000) := by
      refine Go.Ev.vb_of (Go.Ev.key_mul hc h.1 k1000_fin).1 (Nat.two_pow_pos _) ?_ (by decide) (by decide) (by omega) (by omega)
      rw [Int.natAbs_mul, k1000_val hc, Int.natAbs_natCast, Nat.mul_comm]
      have := h.2
      rw [Nat.one_mul] at this
      exact Nat.mul_le_mul_left _ this
    have m2 : VB 2000 d (fmul x k1000) := ⟨m1.1, Nat.le_trans m1.2 (by rw [hd, Nat.pow_succ]; omega)⟩
    have hh : VB 1 d 4602678819172646912 := by
      have e : (val 4602678819172646912).natAbs = 2 ^ 1073 := by decide +kernel
      refine ⟨by decide +kernel, ?_⟩
      rw [e, Nat.one_mul, show d = 1073 by omega]
      exact Nat.le_refl _
    have m3 : VB 2001 d (rdP x) := Go.Ev.vb_add m2 hh (by decide) (by decide) (by omega) (by omega)
    have hp := rdP_pos hc (j := 0) (by decide) h h0
    have hq : (val (rdP x)).natAbs / 2 ^ c ≤ 1000 := by
      have h2 := m3.2
      rw [hd, Nat.pow_succ]
      have := Nat.two_pow_pos d
      have : (val (rdP x)).natAbs < 1001 * (2 ^ d * 2) := by omega
      have := Nat.div_lt_of_lt_mul (show (val (rdP x)).natAbs < 2 ^ d * 2 * 1001 by omega)
      omega
    rw [Go.Ev.f2i_pos hc m3.1 hp (by omega)]
    generalize (val (rdP x)).natAbs / 2 ^ c = M at hq ⊢
    omega
  unfold rdI
  by_cases h0 : 0 ≤ key x
  · have := go h h0
    rw [not_flt0 h.1 h0, cond_false]; omega
  · have k1 := (Go.Ev.key_fneg (Go.Ev.fin_not_nan h.1)).1
    have := go (Go.Ev.fneg_vb h) (by omega)
    rw [flt0 h.1 (by omega), cond_true, w64_id (by omega) (by omega)]; omega
end Go.Proofs.YtancjnambbkhmaaGreat.Hs.So

namespace Go.Proofs.YtancjnambbkhmaaGreat.Hs.So
open Go.Gv
open Go.Ev (cn fadd fsub fmul fdiv fsqrt fneg feq flt fle fgt fge fabs VB key isNan isFin val flt_key fgt_key feq_key)

section
variable {c : Nat} (hc : c = 1074)
include hc
theorem fine_ok {x y z : Nat} (h0 : VB 1 (c + 19) x) (h1 : VB 1 (c + 19) y) (h2 : VB 1 (c + 19) z) : fineS x y z = true := by
  unfold fineS
  rw [nearS_vb hc h0, nearS_vb hc h1, nearS_vb hc h2]; rfl
omit hc in
theorem not_fgt {j x y : Nat} (hx : VB 1 j x) (hy : VB 1 j y) (h : key x ≤ key y) : fgt x y = false := by
  rw [fgt_key (Go.Ev.fin_not_nan hx.1) (Go.Ev.fin_not_nan hy.1), decide_eq_false (by omega)]
theorem mayS_ok {b : Nat → Nat} (hv : ∀ i, i < 6 → VB 1 (c + 19) (b i)) (h0 : key (b 0) ≤ key (b 3)) (h1 : key (b 1) ≤ key (b 4)) (h2 : key (b 2) ≤ key (b 5)) : mayS b = 0 := by
  have v0 := hv 0 (by decide)
  have v1 := hv 1 (by decide)
  have v2 := hv 2 (by decide)
  have v3 := hv 3 (by decide)
  have v4 := hv 4 (by decide)
  have v5 := hv 5 (by decide)
  unfold mayS mayF mayG
  rw [fine_ok hc v0 v1 v2, fine_ok hc v3 v4 v5, not_fgt v0 v3 h0, not_fgt v1 v4 h1, not_fgt v2 v5 h2]
  rfl
theorem rc_ok {a : Nat → Nat} (hv : ∀ i, i < 11 → VB 1 (c + 19) (a i)) : rcB a = false := by
  unfold rcB
  rw [fine_ok hc (hv 0 (by decide)) (hv 1 (by decide)) (hv 2 (by decide)), fine_ok hc (hv 3 (by decide)) (hv 4 (by decide)) (hv 5 (by decide)), fine_ok hc (hv 6 (by decide)) (hv 7 (by decide)) (hv 8 (by decide)), nearS_vb hc (hv 9 (by decide)), nearS_vb hc (hv 10 (by decide))]
  rfl
omit hc in
theorem sk_ok {sk : Int} (h : 0 ≤ sk ∧ sk < 16) : skB sk = false := by
  unfold skB
  rw [decide_eq_false (show ¬ sk < 0 by omega), cond_false, decide_eq_false (show ¬ sk ≥ 16 by omega)]
theorem knE_ok {a b : Nat → Nat} {sk m : Int} (hs : 0 ≤ sk ∧ sk < 16) (hv : ∀ i, i < 11 → VB 1 (c + 19) (a i)) (hm : m = 0) (hb : mayS b = 0) : knE a sk m b = 0 := by
  unfold knE
  rw [sk_ok hs, rc_ok hc hv, hm, hb]; rfl
omit hc in
theorem val0 {x : Nat} (h : 0 ≤ key x) : 0 ≤ val x := by
  have k0 : key 0 = 0 := by decide +kernel
  have v0 : val 0 = 0 := by decide +kernel
  have := Go.Ev.val_le.2 (show key 0 ≤ key x by omega)
  omega
omit hc in
/-- Less a radius, and more of it. -/
theorem sub_add {j l h r : Nat} (hl : VB 1 j l) (hh : VB 1 j h) (hr : VB 1 j r) (h0 : 0 ≤ key r) (hk : key l ≤ key h) : key (fsub l r) ≤ key (fadd h r) := by
  rw [(Go.Ev.key_sub hl.1 hr.1).1, (Go.Ev.key_add hh.1 hr.1).1]
  have := val0 h0
  have := Go.Ev.val_le.2 hk
  exact Go.Ev.KR_mono 1 (by omega)
theorem sub_vb {j x y : Nat} (hj : j ≤ 60) (h : VB 1 (c + j) x) (g : VB 1 (c + j) y) : VB 1 (c + (j + 1)) (fsub x y) := by
  have h3 := Go.Ev.vb_sub h g (by decide) (by decide) (by omega) (by omega)
  exact Go.Ev.VB.up (k := 1) h3 (by decide)
omit hc in
theorem fgt0 {x : Nat} (hx : isFin x = true) (h : 0 < key x) : fgt x 0 = true := by
  have k0 : key 0 = 0 := by decide +kernel
  rw [fgt_key (Go.Ev.fin_not_nan hx) (by decide +kernel), decide_eq_true (by omega)]
omit hc in
theorem up19 {j x : Nat} (h : VB 1 (c + j) x) (hj : j ≤ 19) : VB 1 (c + 19) x := Go.Ev.vb_exp h (by omega)
theorem e1_ok {a : Nat → Nat} {sk : Int} (hs : 0 ≤ sk ∧ sk < 16) (hv : ∀ i, i < 11 → VB 1 (c + 17) (a i)) (h9 : 0 < key (a 9)) : e1 a sk = 0 := by
  unfold e1
  refine knE_ok hc hs (fun i hi => up19 (hv i hi) (by decide)) ?_ ?_
  · unfold ballM; rw [fgt0 (hv 9 (by decide)).1 h9]; rfl
  · have v9 := hv 9 (by decide)
    have s : ∀ i, i < 3 → VB 1 (c + 19) (fsub (a i) (a 9)) ∧ VB 1 (c + 19) (fadd (a i) (a 9)) ∧ key (fsub (a i) (a 9)) ≤ key (fadd (a i) (a 9)) := fun i hi => by
      have vi := hv i (by omega)
      exact ⟨up19 (j := 17 + 1) (sub_vb hc (by decide) vi v9) (by decide), up19 (j := 17 + 1) (add_vb hc (by decide) vi v9) (by decide), sub_add vi vi v9 (by omega) (Int.le_refl _)⟩
    refine mayS_ok hc (fun i hi => ?_) (s 0 (by decide)).2.2 (s 1 (by decide)).2.2 (s 2 (by decide)).2.2
    match i, hi with
    | 0, _ => exact (s 0 (by decide)).1
    | 1, _ => exact (s 1 (by decide)).1
    | 2, _ => exact (s 2 (by decide)).1
    | 3, _ => exact (s 0 (by decide)).2.1
    | 4, _ => exact (s 1 (by decide)).2.1
    | 5, _ => exact (s 2 (by decide)).2.1
theorem e2_ok {a : Nat → Nat} {sk : Int} (hs : 0 ≤ sk ∧ sk < 16) (hv : ∀ i, i < 11 → VB 1 (c + 17) (a i)) (h0 : key (a 0) ≤ key (a 3)) (h1 : key (a 1) ≤ key (a 4)) (h2 : key (a 2) ≤ key (a 5)) : e2 a sk = 0 := by
  unfold e2
  refine knE_ok hc hs (fun i hi => up19 (hv i hi) (by decide)) ?_ ?_
  · unfold blockM blockG
    rw [not_fgt (hv 0 (by decide)) (hv 3 (by decide)) h0, not_fgt (hv 1 (by decide)) (hv 4 (by decide)) h1, not_fgt (hv 2 (by decide)) (hv 5 (by decide)) h2]; rfl
  · refine mayS_ok hc (fun i hi => ?_) h0 h1 h2
    match i, hi with
    | 0, _ => exact up19 (hv 0 (by decide)) (by decide)
    | 1, _ => exact up19 (hv 1 (by decide)) (by decide)
    | 2, _ => exact up19 (hv 2 (by decide)) (by decide)
    | 3, _ => exact up19 (hv 3 (by decide)) (by decide)
    | 4, _ => exact up19 (hv 4 (by decide)) (by decide)
    | 5, _ => exact up19 (hv 5 (by decide)) (by decide)
end
end Go.Proofs.YtancjnambbkhmaaGreat.Hs.So

namespace Go.Gv
open Go.RowKit

theorem calls_agree {P : Program} {f : FuncId} {args : Array Value} {w : World} {R R' : Value → World → Prop}
    (h : Calls P f args w fun e w' => ∃ v, e = .returned v ∧ R v w') (h' : Calls P f args w fun e w' => ∃ v, e = .returned v ∧ R' v w') (hi : P.inits.idxOf? f = none) : ∃ v w', R v w' ∧ R' v w' := by
  have g : Calls P f args w fun | .returned v, w' => R v w' | _, _ => False := h.mono fun e w' ⟨v, he, q⟩ => by subst he; exact q
  have g' : Calls P f args w fun | .returned v, w' => R' v w' | _, _ => False := h'.mono fun e w' ⟨v, he, q⟩ => by subst he; exact q
  obtain ⟨n, v, w1, e1, r1⟩ := g.done hi
  obtain ⟨m, v', w2, e2, r2⟩ := g'.done hi
  have a := runN_ended e1 m
  have b := runN_ended e2 n
  rw [Nat.add_comm, a] at b
  injection b with ho hw
  injection ho with hv
  subst hv hw
  exact ⟨_, _, r1, r2⟩
/-- In some world the arguments are there. -/
def There (args : List AV) : Prop := ∃ (w : World) (cargs : Array Value), rels ⟨w, fun _ => False, fun _ => none⟩ args cargs.toList
theorem FSpec.one {P : Program} {f : Nat} {args : List AV} {m m' : Int} (h : FSpec P f args (.x (.int .i64 m))) (h' : FSpec P f args (.x (.int .i64 m'))) (hi : P.inits.idxOf? f = none) (ht : There args) : m = m' := by
  obtain ⟨w, cargs, hr⟩ := ht
  obtain ⟨v, w', ⟨r1, _⟩, ⟨r2, _⟩⟩ := calls_agree (R := fun v w' => rel ⟨w', fun _ => False, fun _ => none⟩ (.x (.int .i64 m)) v ∧ Below w.heap.size w w') (R' := fun v w' => rel ⟨w', fun _ => False, fun _ => none⟩ (.x (.int .i64 m')) v ∧ Below w.heap.size w w') (h.2 (fun _ => False) w cargs (fun _ h => h.elim) hr (glob_none fun _ => rfl)) (h'.2 (fun _ => False) w cargs (fun _ h => h.elim) hr (glob_none fun _ => rfl)) hi
  have e1 := rel_x.1 r1
  have e2 := rel_x.1 r2
  rw [e1] at e2
  injection e2
end Go.Gv

namespace Go.Proofs.YtancjnambbkhmaaGreat.Hs.So
open Go.Gv
open Go.Ev (cn fadd fsub fmul fdiv fsqrt fneg feq flt fle fgt fge fabs VB key isNan isFin val flt_key fgt_key feq_key)

theorem less_more {j x y : Nat} (hx : VB 1 j x) (hy : VB 1 j y) : VB 1 j (lessS x y) ∧ VB 1 j (moreS x y) ∧ key (lessS x y) ≤ key (moreS x y) := by
  unfold lessS moreS
  rw [flt_key (Go.Ev.fin_not_nan hy.1) (Go.Ev.fin_not_nan hx.1), fgt_key (Go.Ev.fin_not_nan hy.1) (Go.Ev.fin_not_nan hx.1)]
  by_cases h : key y < key x
  · rw [decide_eq_true h, decide_eq_false (show ¬ key x < key y by omega)]
    exact ⟨hy, hx, by rw [cond_true, cond_false]; omega⟩
  · rw [decide_eq_false h]
    by_cases h2 : key x < key y
    · rw [decide_eq_true h2]; exact ⟨hx, hy, by rw [cond_true, cond_false]; omega⟩
    · rw [decide_eq_false h2]; exact ⟨hx, hx, Int.le_refl _⟩
theorem e5_ok {c : Nat} (hc : c = 1074) {a : Nat → Nat} {sk : Int} (hs : 0 ≤ sk ∧ sk < 16) (hv : ∀ i, i < 11 → VB 1 (c + 17) (a i)) (h9 : 0 < key (a 9)) (hx : axO (a 3) (a 4) (a 5) = true) : e5 a sk = 0 := by
  unfold e5
  refine knE_ok hc hs (fun i hi => up19 (hv i hi) (by decide)) ?_ ?_
  · unfold tubeM; rw [fgt0 (hv 9 (by decide)).1 h9, hx]; rfl
  · generalize zB a = z
    have v9 := hv 9 (by decide)
    have k0 : key 0 = 0 := by decide +kernel
    have hr : ∀ i, VB 1 (c + 18) (fl3 z i (a 9)) ∧ 0 ≤ key (fl3 z i (a 9)) := fun i => by
      unfold fl3
      cases Nat.beq i z
      · exact ⟨Go.Ev.vb_exp v9 (by omega), by rw [cond_false]; omega⟩
      · exact ⟨Go.Ev.vb_zero 1 _, by rw [cond_true]; omega⟩
    have s : ∀ i, i < 3 → VB 1 (c + 19) (fsub (lessS (a i) (fadd (a i) (a (3 + i)))) (fl3 z i (a 9))) ∧ VB 1 (c + 19) (fadd (moreS (a i) (fadd (a i) (a (3 + i)))) (fl3 z i (a 9))) ∧ key (fsub (lessS (a i) (fadd (a i) (a (3 + i)))) (fl3 z i (a 9))) ≤ key (fadd (moreS (a i) (fadd (a i) (a (3 + i)))) (fl3 z i (a 9))) := fun i hi => by
      have vi := hv i (by omega)
      have vs : VB 1 (c + (17 + 1)) (fadd (a i) (a (3 + i))) := add_vb hc (by decide) vi (hv (3 + i) (by omega))
      have vi' : VB 1 (c + 18) (a i) := Go.Ev.vb_exp vi (by omega)
      obtain ⟨l1, l2, l3⟩ := less_more vi' vs
      obtain ⟨r1, r2⟩ := hr i
      exact ⟨sub_vb (j := 18) hc (by decide) l1 r1, add_vb (j := 18) hc (by decide) l2 r1, sub_add l1 l2 r1 r2 l3⟩
    have s0 := s 0 (by decide)
    have s1 := s 1 (by decide)
    have s2 := s 2 (by decide)
    refine mayS_ok hc (fun i hi => ?_) s0.2.2 s1.2.2 s2.2.2
    match i, hi with
    | 0, _ => exact s0.1
    | 1, _ => exact s1.1
    | 2, _ => exact s2.1
    | 3, _ => exact s0.2.1
    | 4, _ => exact s1.2.1
    | 5, _ => exact s2.2.1
theorem sh_there (k : Int) {a : Nat → Nat} (sk : Int) (hn : ∀ i, i < 11 → isNan (a i) = false) : There [SH k a sk] := by
  have f : ∀ {E : Env} i, i < 11 → rel E (.f (a i)) (.float .f64 (a i)) := fun i hi => rel_f.2 ⟨a i, rfl, Go.Ev.cn_of_not (hn i hi)⟩
  refine ⟨default, #[.agg #[.int .i64 k, .float .f64 (a 0), .float .f64 (a 1), .float .f64 (a 2), .float .f64 (a 3), .float .f64 (a 4), .float .f64 (a 5), .float .f64 (a 6), .float .f64 (a 7), .float .f64 (a 8), .float .f64 (a 9), .float .f64 (a 10), .int .i64 sk]], rels_cons.2 ⟨_, [], rfl, rel_agg.2 ⟨_, rfl, ?_⟩, rels_nil.2 rfl⟩⟩
  exact rels_cons.2 ⟨_, _, rfl, rel_x.2 rfl, rels_cons.2 ⟨_, _, rfl, f 0 (by decide), rels_cons.2 ⟨_, _, rfl, f 1 (by decide), rels_cons.2 ⟨_, _, rfl, f 2 (by decide), rels_cons.2 ⟨_, _, rfl, f 3 (by decide), rels_cons.2 ⟨_, _, rfl, f 4 (by decide), rels_cons.2 ⟨_, _, rfl, f 5 (by decide), rels_cons.2 ⟨_, _, rfl, f 6 (by decide), rels_cons.2 ⟨_, _, rfl, f 7 (by decide), rels_cons.2 ⟨_, _, rfl, f 8 (by decide), rels_cons.2 ⟨_, _, rfl, f 9 (by decide), rels_cons.2 ⟨_, _, rfl, f 10 (by decide), rels_cons.2 ⟨_, _, rfl, rel_x.2 rfl, rels_nil.2 rfl⟩⟩⟩⟩⟩⟩⟩⟩⟩⟩⟩⟩⟩
/-- A shape that may be. -/
def LE (k : Int) (a : Nat → Nat) (sk : Int) : Prop := (k = 1 ∧ e1 a sk = 0) ∨ (k = 2 ∧ e2 a sk = 0) ∨ (k = 5 ∧ e5 a sk = 0)
theorem may_zero {k : Int} {a : Nat → Nat} {sk : Int} (h : LE k a sk) (hn : ∀ i, i < 11 → isNan (a i) = false) : mayC (shC k a sk) = 0 := by
  have m := (mayC_spec k a sk).2
  rcases h with ⟨rfl, h⟩ | ⟨rfl, h⟩ | ⟨rfl, h⟩
  · exact (m.one (sm1 a sk) (by kernel_rfl) (sh_there 1 sk hn)).trans h
  · exact (m.one (sm2 a sk) (by kernel_rfl) (sh_there 2 sk hn)).trans h
  · exact (m.one (sm5 a sk) (by kernel_rfl) (sh_there 5 sk hn)).trans h
theorem pp_leaf {k : Int} {a : Nat → Nat} {sk : Int} (h : LE k a sk) (hn : ∀ i, i < 11 → isNan (a i) = false) (i : Int) : ppE ⟨0, 0, 0, k, a, sk⟩ i = 0 := by
  have m := may_zero h hn
  unfold ppE
  show mlE (mayC (shC k a sk)) k = 0
  rw [m]
  rcases h with ⟨rfl, h⟩ | ⟨rfl, h⟩ | ⟨rfl, h⟩ <;> rfl
end Go.Proofs.YtancjnambbkhmaaGreat.Hs.So
