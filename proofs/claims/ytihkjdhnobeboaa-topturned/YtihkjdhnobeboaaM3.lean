/-
  Gx Wc5 Wc6 Cf3 Wc7 Fnd Wc8 Wc9 Fcd Wca, one behind the other.
-/
import Derived.Test.YtihkjdhnobeboaaGu
import Derived.Test.YtihkjdhnobeboaaGh
import Derived.Test.YtihkjdhnobeboaaM2
import Derived.Laws.Closers25
import Derived.Test.YtihkjdhnobeboaaM1
namespace Go.Gv
open Go.RowKit Go.Ev
noncomputable section

def KSubN (np : Nat) (k : Kont) : Prop := ∀ e s o, k e s = some o → o.e = e ∧ SubN np s o.s
theorem fgt_subN {np : Nat} {keep : List Nat} {τ : List (Option Nat)} {s : St} (hp : pinT np τ = true) (h : fgtOk τ s = true) : SubN np s (fgt keep τ s) := by
  unfold fgtOk at h
  simp only [Bool.and_eq_true] at h
  exact sub_ofN τ (pinT_get hp) h.1 (keepS_sub 0 s.slots) (keepR_sub τ h.2)
theorem finF_subN {np : Nat} (keep : List Nat) {τ : List (Option Nat)} (hp : pinT np τ = true) : KSubN np (finF keep τ) := fun e s o h => by
  unfold finF at h
  cases hf : fgtOk τ s
  · rw [hf] at h; cases h
  · rw [hf] at h
    simp only [cond_true, Option.some.injEq] at h
    subst h
    exact ⟨rfl, fgt_subN hp hf⟩
theorem finN_subN {np : Nat} (keep : List Nat) {τ : List (Option Nat)} (hp : pinT np τ = true) : KSubN np (finN keep τ) := fun e s o h => by
  unfold finN at h
  cases e <;> simp only at h <;> first | (cases h; done) | exact finF_subN keep hp _ s o h
theorem finE_subN {np : Nat} (keep : List Nat) {τ : List (Option Nat)} (hp : pinT np τ = true) : KSubN np (finE keep τ) := fun e s o h => by
  unfold finE at h
  cases e <;> simp only at h <;> first | (cases h; done) | exact finF_subN keep hp _ s o h
theorem leads_ofKN {np : Nat} {P : Program} {T : Tab} {D : List Oper → St → SK → Option Out} {L : Nat → Option LFun} {N : Nat} {c : Code} {s s' : St} {e : Exit} {k : Kont} (hk : KSubN np k) (hT : TOk P T) (hD : DOk P D) (hL : LOkN np P L c) (h : aCode P T D L N c s k = some ⟨e, s', .any⟩) : LeadsN np P c s e s' := fun A0 R w0 E a hp hI => by
  refine Go.Code.wp_mono ?_ (aCode_wp hp hT hD N c hL hI h)
  rintro e' a' w' ⟨E', s1, rfl, hI', he⟩
  obtain ⟨h1, h2⟩ := hk e' s1 _ he
  obtain ⟨E2, e2, h3⟩ := h2 A0 R w0 E' a' hp hI'
  exact ⟨h1.symm, E2, e2, h3⟩
/-- A loop that is told. -/
def toldP (np : Nat) (keep : List Nat) (τ : List (Option Nat)) (s0 : St) (e : Exit) (sf : St) : LFun := fun s k => cond (fgtOk τ s) (gate (SubN np (fgt keep τ s) s0) (k e sf)) none
theorem toldP_sound {np : Nat} {P : Program} {c : Code} {keep : List Nat} {τ : List (Option Nat)} {s0 sf : St} {e : Exit} (hp : pinT np τ = true) (h : LeadsN np P (.loop c) s0 e sf) : LSoundN np P c (toldP np keep τ s0 e sf) := by
  have get : ∀ {s : St} {k : Kont} {r : Out}, toldP np keep τ s0 e sf s k = some r → SubN np s s0 ∧ k e sf = some r := fun {s k r} hr => by
    unfold toldP at hr
    cases hf : fgtOk τ s
    · rw [hf] at hr; cases hr
    · rw [hf] at hr
      simp only [cond_true] at hr
      obtain ⟨h2, h3⟩ := gate_some hr
      exact ⟨(fgt_subN hp hf).trans h2, h3⟩
  have eq : ∀ {s : St} {k : Kont} {r : Out}, toldP np keep τ s0 e sf s k = some r → ∀ k', toldP np keep τ s0 e sf s k' = k' e sf := fun {s k r} hr k' => by
    unfold toldP at hr ⊢
    cases hf : fgtOk τ s
    · rw [hf] at hr; cases hr
    · rw [hf] at hr
      simp only [cond_true] at hr ⊢
      rw [gate_pos (gate_some hr).1]
  constructor
  · intro s k r hr
    exact ⟨e, sf, (get hr).2, eq hr⟩
  · intro s s' e' hk A0 R w0 E a hp' hI
    have h0 := hk (fun e s => some ⟨e, s, .any⟩)
    obtain ⟨hs, he⟩ := get h0
    simp only [Option.some.injEq, Out.mk.injEq, and_true] at he
    obtain ⟨rfl, rfl⟩ := he
    obtain ⟨E1, e1, hI1⟩ := hs A0 R w0 E a hp' hI
    have := h A0 R w0 E1 a hp' hI1
    rw [e1] at this
    exact this
theorem lokN_one {np : Nat} {P : Program} {c : Code} {i : Nat} {g : LFun} (m : Nat) (hlen : (loopsOf c).length = m) (h : ∀ j, j < m → firstId ((loopsOf c).getD j .skip) = some i → LSoundN np P ((loopsOf c).getD j .skip) g) : LOkN np P (oneL i g) c := by
  intro c' hc i' g' hi hg
  obtain ⟨j, hj, rfl⟩ := List.mem_iff_getElem.1 hc
  unfold oneL at hg
  cases hb : Nat.beq i' i
  · rw [hb] at hg; cases hg
  · rw [hb] at hg
    cases hg
    have e1 := Nat.eq_of_beq_eq_true hb
    subst e1
    have e2 : (loopsOf c).getD j .skip = (loopsOf c)[j] := by rw [List.getD_eq_getElem?_getD, List.getElem?_eq_getElem hj]; rfl
    have := h j (by omega) (by rw [e2]; exact hi)
    rw [e2] at this
    exact this
theorem noL_okN {np : Nat} {P : Program} {c : Code} : LOkN np P noL c := fun _ _ _ _ _ h => by cases h
end
end Go.Gv

namespace Go.Proofs.Ytihkjdhnobeboaa
open Go.Gv

theorem leads_evMN {np : Nat} {l : List Entry} {ks : List KEntry} {ms : List MEntry} {L : Nat → Option LFun} {c : Code} {s s' : St} {e : Exit} {k : Kont} (hk : KSubN np k) (hl : ∀ e, e ∈ l → EOk Try.prog e) (hks : ∀ e, e ∈ ks → KOk Try.prog e) (hms : ∀ e, e ∈ ms → MEOk Try.prog e) (hL : LOkN np Try.prog L c) (h : evCM Try.prog l ks ms L c s k = some ⟨e, s', .any⟩) : LeadsN np Try.prog c s e s' :=
  leads_ofKN hk (tabM_ok hl hks hms) (drawnK_ok (tabM_ok hl hks hms) (by kernel_rfl)) hL h
noncomputable def eqI (n : Nat) (g : Nat → Int) (m : Nat) (h : Nat → Int) : Bool := (strF n g).toList == (strF m h).toList
theorem eq_ev (n m : Nat) (g h : Nat → Int) : ev Try.prog [] [] noL Try.f22 [sB n g, sB m h] ret = cond (allB n (fun _ => true) || false) (cond (allB m (fun _ => true) || false) (some (Out.of (bA ((strF n g).toList == (strF m h).toList)))) none) none := by kernel_rfl
abbrev EF4 : Type := Nat → (Nat → List AV) → Nat → (Nat → List AV) → Bool
def eqG (ef : EF4) : List AV → AV
  | [.sl _ n el, .sl _ m el'] => bA (ef n el m el')
  | _ => .any
def hpB (n m : Nat) : Bool := sbB none (some (m : Int)) none n || !(decide (decide ((n : Int) ≥ (m : Int)) = true) && true)
theorem hp_ev (ef : EF4) (n m : Nat) (g h : Nat → Int) : ev Try.prog [] [kS Try.prog 22 (eqG ef)] noL Try.f20 [sB n g, sB m h] ret =
    cond (hpB n m) (gate (FSpec Try.prog 22 [.sl 1 (sbN none (some (m : Int)) n) (fun i => [yA (g (sbL none + i))]), sB m h] (bA (ef (sbN none (some (m : Int)) n) (fun i => [yA (g (sbL none + i))]) m fun i => [yA (h i)])))
      (some (Out.of (bA (cond (decide ((n : Int) ≥ (m : Int))) (ef (sbN none (some (m : Int)) n) (fun i => [yA (g (sbL none + i))]) m fun i => [yA (h i)]) false))))) none := by kernel_rfl
/-! ### Numbers out of bytes -/
def fiS (N L : Nat) (g : Nat → Int) (s i : Int) (q : Nat → Int) : St := mkS 25 [(0, .osl 0 1 0 N), (1, sB L g), (2, iA s), (9, iA N), (10, iA i)] [.a 3 1 N fun j => [iA (q j)]]
def keepFi : List Nat := [0, 1, 2, 9, 10]
def fiE (g : Nat → Int) : Nat → List AV := fun i => [yA (g (sbL none + i))]
abbrev NBk (nf : Nat → (Nat → List AV) → Int) (g : Nat → Int) (s : Int) (L : Nat) : Prop := FSpec Try.prog 15 [.sl 1 (sbN none (some s) L) (fiE g)] (iA (nf (sbN none (some s) L) (fiE g)))
section
variable (nf : Nat → (Nat → List AV) → Int) (N L : Nat) (g : Nat → Int) (s i : Int) (q : Nat → Int)
def fiN (x : Int) (k : Nat) : St := mkS 25 [(0, .osl 0 1 0 N), (1, sB (sbN (some s) none L) fun j => g (sbL (some s) + j)), (2, iA s), (9, iA N), (10, iA (w64 (i + 1)))] [.a 3 1 N fun j => mixL (j == k) [iA x] [iA (q j)]]
theorem fi_step : evCM Try.prog [] [kS Try.prog 15 (nbG nf)] [] noL (loopAt Try.f16 0) (fiS N L g s i q) (finN keepFi [some 0]) =
    cond (decide (i < N)) (cond (sbB none (some s) none L || false) (gate (NBk nf g s L) (cond (ixB i N || false) (cond (Nat.blt (0 + i.toNat) N || false) (cond (sbB (some s) none none L || false) (some ⟨.normal, fiN N L g s i q (nf (sbN none (some s) L) (fiE g)) (0 + i.toNat), .any⟩) none) none) none)) none) none := by kernel_rfl
theorem fi_end : evCM Try.prog [] [⟨15, fun _ _ => none⟩] [] noL (loopAt Try.f16 0) (fiS N L g s i q) (finE keepFi [some 0]) =
    cond (decide (i < N)) (cond (sbB none (some s) none L || false) none none) (some ⟨.exit 0, fiS N L g s i q, .any⟩) := by kernel_rfl
end
noncomputable def fiL (N L : Nat) (g : Nat → Int) (s : Int) (q : Nat → Int) (L' : Nat) (g' q' : Nat → Int) : Nat → Option LFun := oneL 2 (toldP 1 keepFi [some 0] (fiS N L g s 0 q) (.exit 0) (fiS N L' g' s (N : Nat) q'))
theorem fi_ev (N L : Nat) (g : Nat → Int) (s : Int) (q : Nat → Int) (L' : Nat) (g' q' : Nat → Int) : evG Try.prog [] [⟨15, fun _ _ => none⟩] [] (fiL N L g s q L' g' q') Try.f16 [.osl 0 1 0 N, sB L g, iA s] [.a 3 1 N fun j => [iA (q j)]] [some 0] =
    gate (SubN 1 (fiS N L g s 0 q) (fiS N L g s 0 q)) (gout (sB L' g') [.a 3 1 N fun j => [iA (q' j)]]) := by kernel_rfl
end Go.Proofs.Ytihkjdhnobeboaa

namespace Go.Proofs.Ytihkjdhnobeboaa
open Go.Gv

theorem push_all : ∀ (l : List Int) (acc : ByteArray), (l.foldl (fun r n => r.push (UInt8.ofNat n.toNat)) acc).data.toList = acc.data.toList ++ l.map fun n => UInt8.ofNat n.toNat
  | [], acc => by simp
  | x :: l, acc => by
    rw [List.foldl_cons, push_all l]
    simp [ByteArray.push]
theorem strF_data (n : Nat) (g : Nat → Int) : (strF n g).toList = (List.range n).map fun i => UInt8.ofNat (g i).toNat := by
  rw [ByteArray.toList_eq, strF_eq]
  unfold strR
  rw [push_all, List.map_map]
  rfl
theorem u8_inj {a b : Int} (a0 : 0 ≤ a) (a1 : a ≤ 255) (b0 : 0 ≤ b) (b1 : b ≤ 255) (h : UInt8.ofNat a.toNat = UInt8.ofNat b.toNat) : a = b := by
  have := congrArg UInt8.toNat h
  rw [UInt8.toNat_ofNat', UInt8.toNat_ofNat'] at this
  omega
theorem eqI_t {n : Nat} {g h : Nat → Int} (he : ∀ i, i < n → g i = h i) : eqI n g n h = true := by
  unfold eqI
  rw [strF_data, strF_data, beq_iff_eq]
  exact List.map_congr_left fun i hi => by rw [he i (List.mem_range.1 hi)]
theorem eqI_f {n : Nat} {g h : Nat → Int} (hg : ∀ i, i < n → 0 ≤ g i ∧ g i ≤ 255) (hh : ∀ i, i < n → 0 ≤ h i ∧ h i ≤ 255) {k : Nat} (hk : k < n) (hne : g k ≠ h k) : eqI n g n h = false := by
  cases hb : eqI n g n h
  · rfl
  · exfalso
    unfold eqI at hb
    rw [strF_data, strF_data, beq_iff_eq] at hb
    have := congrArg (fun l : List UInt8 => l[k]?) hb
    simp only [List.getElem?_map, List.getElem?_range hk, Option.map_some, Option.some.injEq] at this
    exact hne (u8_inj (hg k hk).1 (hg k hk).2 (hh k hk).1 (hh k hk).2 this)
noncomputable def eqE : EF4 := fun n el m el' => eqI n (fun i => u8Of' (el i)) m fun i => u8Of' (el' i)
theorem eq_spec (n m : Nat) (g h : Nat → Int) : FSpec Try.prog 22 [sB n g, sB m h] (bA (eqI n g m h)) := by
  refine gspec e_nil k_nil Try.func22 (by kernel_rfl) (by kernel_rfl) noL_ok rfl ((eq_ev n m g h).trans ?_)
  rw [allB_true fun _ _ => rfl, allB_true fun _ _ => rfl]
  rfl
theorem hp_spec {n m : Nat} (hnm : m ≤ n) (g h : Nat → Int) : FSpec Try.prog 20 [sB n g, sB m h] (bA (eqI m g m h)) := by
  refine gspec e_nil (k_cons (kS_ok (P := Try.prog) (f := 22) (g := eqG eqE)) k_nil) Try.func20 (by kernel_rfl) (by kernel_rfl) noL_ok rfl ((hp_ev eqE n m g h).trans ?_)
  have hB : hpB n m = true := by
    unfold hpB sbB
    simp only [Option.getD_some, Option.getD_none]
    rw [decide_eq_true (Int.le_refl 0), decide_eq_true (show (0 : Int) ≤ (m : Int) by omega), decide_eq_true (show (m : Int) ≤ (n : Int) by omega), decide_eq_true (Int.le_refl (n : Int))]
    rfl
  have e1 : sbN none (some (m : Int)) n = m := by unfold sbN; simp only [Option.getD_some, Option.getD_none]; omega
  have e2 : (fun i => [yA (g (sbL none + i))]) = fun i => [yA (g i)] := funext fun i => by
    have : sbL none = 0 := rfl
    rw [this, Nat.zero_add]
  have hq : FSpec Try.prog 22 [.sl 1 m fun i => [yA (g i)], sB m h] (bA (eqE m (fun i => [yA (g i)]) m fun i => [yA (h i)])) := eq_spec m m g h
  rw [hB, e1, e2, gate_pos hq, decide_eq_true (show (n : Int) ≥ (m : Int) by omega)]
  rfl
/-! ### Numbers out of bytes -/
def cfE (n : Nat) (el : Nat → List AV) : Int := cnV (fun i => u8Of' (el i)) n
def fiQ (q : Nat → Int) (g : Nat → Int) (S k j : Nat) : Int := if j < k then cnV (fun c => g (S * j + c)) S else q j
theorem sbT (S L : Nat) (h : S ≤ L) : sbB none (some (S : Int)) none L = true ∧ sbB (some (S : Int)) none none L = true ∧ sbN none (some (S : Int)) L = S ∧ sbN (some (S : Int)) none L = L - S ∧ sbL (some (S : Int)) = S := by
  refine ⟨?_, ?_, ?_, ?_, sbL_eq⟩
  · unfold sbB
    simp only [Option.getD_some, Option.getD_none]
    rw [decide_eq_true (Int.le_refl 0), decide_eq_true (show (0 : Int) ≤ (S : Int) by omega), decide_eq_true (show (S : Int) ≤ (L : Int) by omega), decide_eq_true (Int.le_refl (L : Int))]
    rfl
  · unfold sbB
    simp only [Option.getD_some, Option.getD_none]
    rw [decide_eq_true (show (0 : Int) ≤ (S : Int) by omega), decide_eq_true (show (S : Int) ≤ (L : Int) by omega), decide_eq_true (Int.le_refl (L : Int))]
    rfl
  · unfold sbN; simp only [Option.getD_some, Option.getD_none]; omega
  · unfold sbN; simp only [Option.getD_some, Option.getD_none]; omega
theorem fi_leads {N L S : Nat} (hN : N ≤ 1000000) (hS : S ≤ 6) (hL : S * N ≤ L) (g q : Nat → Int) : LeadsN 1 Try.prog (.loop (loopAt Try.f16 0)) (fiS N L g (S : Nat) 0 q) (.exit 0) (fiS N (L - S * N) (fun j => g (S * N + j)) (S : Nat) (N : Nat) (fiQ q g S N)) := by
  have h0 : LeadsN 1 Try.prog (.loop (loopAt Try.f16 0)) (fiS N (L - S * 0) (fun j => g (S * 0 + j)) (S : Nat) (0 : Nat) (fiQ q g S 0)) (.exit 0) (fiS N (L - S * N) (fun j => g (S * N + j)) (S : Nat) (N : Nat) (fiQ q g S N)) := by
    refine loop_rule (fun k => fiS N (L - S * k) (fun j => g (S * k + j)) (S : Nat) (k : Nat) (fiQ q g S k)) N (.exit 0) _ (by simp) (fun k hk => ?_) ?_
    · have hk1 : S * (k + 1) ≤ S * N := Nat.mul_le_mul_left _ hk
      rw [Nat.mul_succ] at hk1
      obtain ⟨b1, b2, b3, b4, b5⟩ := sbT S (L - S * k) (by omega)
      have st := fi_step cfE N (L - S * k) (fun j => g (S * k + j)) (S : Nat) (k : Nat) (fiQ q g S k)
      have e0 : (fiE fun j => g (S * k + j)) = fun i => [yA (g (S * k + i))] := funext fun i => by
        unfold fiE
        have : sbL none = 0 := rfl
        rw [this, Nat.zero_add]
      have hnb : NBk cfE (fun j => g (S * k + j)) (S : Nat) (L - S * k) := by
        show FSpec Try.prog 15 [.sl 1 (sbN none (some ((S : Nat) : Int)) (L - S * k)) (fiE fun j => g (S * k + j))] (iA (cfE (sbN none (some ((S : Nat) : Int)) (L - S * k)) (fiE fun j => g (S * k + j))))
        rw [b3, e0]
        exact cn_spec (by omega) fun i => g (S * k + i)
      rw [dec_lt hk, b1, gate_pos hnb, ixB_t hk, Int.toNat_natCast, Nat.zero_add, blt_t hk, b2, b3, e0] at st
      refine (leads_evMN (finN_subN _ (by rfl)) e_nil (k_cons kS_ok k_nil) m_nil noL_okN st).sub (SubN.refl _) ?_
      have hst : fiN N (L - S * k) (fun j => g (S * k + j)) (S : Nat) (k : Nat) (fiQ q g S k) (cfE S fun i => [yA (g (S * k + i))]) k = mkS 25 [(0, .osl 0 1 0 N), (1, sB (L - S * (k + 1)) fun j => g (S * (k + 1) + j)), (2, iA (S : Nat)), (9, iA N), (10, iA ((k + 1 : Nat) : Int))] [.a 3 1 N fun j => mixL (j == k) [iA (cfE S fun i => [yA (g (S * k + i))])] [iA (fiQ q g S k j)]] := by
        unfold fiN
        have e6 : (fun j => g (S * k + (S + j))) = fun j => g (S * (k + 1) + j) := funext fun j => by rw [Nat.mul_succ, Nat.add_assoc]
        rw [b4, b5, w64_next (by omega), show L - S * k - S = L - S * (k + 1) by rw [Nat.mul_succ]; omega, e6]
      rw [hst]
      refine sub_same ⟨Or.inr ⟨3, 1, N, _, _, rfl, rfl, fun j hj => ?_⟩, trivial⟩
      rw [mixI]
      unfold fiQ
      by_cases hjk : j = k
      · subst hjk
        rw [BEq.rfl, cond_true, if_pos (by omega)]
        rfl
      · rw [beq_false_of_ne hjk, cond_false]
        by_cases hlt : j < k
        · rw [if_pos hlt, if_pos (by omega)]
        · rw [if_neg hlt, if_neg (by omega)]
    · refine leads_evMN (finE_subN _ (by rfl)) e_nil (k_cons (kno_ok _) k_nil) m_nil noL_okN ((fi_end N _ _ _ _ _).trans ?_)
      rw [dec_self, cond_false]
  have e1 : (fun j => g (S * 0 + j)) = g := funext fun j => by rw [Nat.mul_zero, Nat.zero_add]
  have e2 : fiQ q g S 0 = q := funext fun j => by unfold fiQ; rw [if_neg (by omega)]
  rw [e1, e2, Nat.mul_zero, Nat.sub_zero] at h0
  exact h0
abbrev FIok (N L S : Nat) (g q : Nat → Int) : Prop := GSpec Try.prog 16 [.osl 0 1 0 N, sB L g, iA (S : Nat)] [.a 3 1 N fun j => [iA (q j)]] (sB (L - S * N) fun j => g (S * N + j)) [.a 3 1 N fun j => [iA (cnV (fun c => g (S * j + c)) S)]]
theorem fi_ok {N L S : Nat} (hN : N ≤ 1000000) (hS : S ≤ 6) (hL : S * N ≤ L) (g q : Nat → Int) : FIok N L S g q := by
  have hl : LOkN 1 Try.prog (fiL N L g (S : Nat) q (L - S * N) (fun j => g (S * N + j)) (fiQ q g S N)) (bodyOf Try.f16) := lokN_one 1 (by kernel_rfl) fun j hj hid => by
    have : j = 0 := by omega
    subst this
    exact toldP_sound (keep := keepFi) (τ := [some 0]) (by rfl) (fi_leads hN hS hL g q)
  have hev := fi_ev N L g (S : Nat) q (L - S * N) (fun j => g (S * N + j)) (fiQ q g S N)
  rw [gate_pos (SubN.refl _)] at hev
  refine (gspecG (mem := [.a 3 1 N fun j => [iA (q j)]]) e_nil (k_cons (kno_ok _) k_nil) m_nil Try.func16 (by kernel_rfl) (by kernel_rfl) hl rfl (by kernel_rfl) hev).of_rows ⟨Or.inr ⟨3, 1, N, _, _, rfl, rfl, fun j hj => ?_⟩, trivial⟩
  unfold fiQ
  rw [if_pos hj]
end Go.Proofs.Ytihkjdhnobeboaa

namespace Go.Proofs.Ytihkjdhnobeboaa
open Go.Gv

def mkC (n : Int) : Bool := decide (0 ≤ n) && (decide (n ≤ n) && decide (((8 : Nat) : Int) * n ≤ 281474976710656))
theorem mkC_t {n : Int} (h0 : 0 ≤ n) (h1 : n ≤ 100000) : mkC n = true := by
  unfold mkC
  rw [decide_eq_true h0, decide_eq_true (Int.le_refl n), decide_eq_true (show ((8 : Nat) : Int) * n ≤ 281474976710656 by omega)]
  rfl
def nwN (w h : Int) : Nat := (w64 (w64 (3 * w) * h)).toNat
def nwM (w h : Int) : Nat := (w64 (w * h)).toNat
def nwC (w h : Int) : Bool := (mkC (w64 (w64 (3 * w) * h)) || false) && ((mkC (w64 (w * h)) || false) && true)
def nwA (w h : Int) : AV := .tup [.agg [iA w, iA h, .osl 0 1 0 (nwN w h), .osl 1 1 0 (nwM w h)], iA 0]
def nwR (w h : Int) : List Row := [.a 3 1 (nwN w h) (fun _ => [iA 0]), .a 3 1 (nwM w h) (fun _ => [iA 0])]
theorem nw_ev (sd : Int → Bool) (w h : Int) : evG Try.prog [⟨18, gSd sd⟩] [] [] noL Try.f21 [iA w, iA h] [] [some 1, some 2] = cond (cSd sd w h) none (cond (nwC w h) (gout (nwA w h) (nwR w h)) none) := by kernel_rfl
theorem nw_ev0 (sd : Int → Bool) (w h : Int) : ev Try.prog [⟨18, gSd sd⟩] [] noL Try.f21 [iA w, iA h] ret = cond (cSd sd w h) (fBad 4) (cond (nwC w h) (some (Out.of (.tup [.agg [iA w, iA h, sI (nwN w h) fun _ => 0, sI (nwM w h) fun _ => 0], iA 0]))) none) := by kernel_rfl
theorem nw_eq {w h : Int} (hb : fbad w h = false) : w64 (w64 (3 * w) * h) = 3 * (w * h) ∧ w64 (w * h) = w * h ∧ 1 ≤ w * h ∧ w * h ≤ 4096 := by
  obtain ⟨h1, h2, h3, h4⟩ := fbad_false hb
  have hM := mulB (x := w) (y := h) (X := 64) (Y := 64) (by omega) h2 (by omega) h4
  have hM1 := mulB (x := 1) (y := h) (X := w) (Y := h) (by omega) (by omega) (by omega) (by omega)
  refine ⟨?_, w64_id (by omega) (by omega), by omega, by omega⟩
  rw [w64_id (n := 3 * w) (by omega) (by omega), Int.mul_assoc, w64_id (by omega) (by omega)]
theorem nwC_t {w h : Int} (hb : fbad w h = false) : nwC w h = true := by
  obtain ⟨h1, h2, h3, h4⟩ := nw_eq hb
  unfold nwC
  rw [mkC_t (n := w64 (w64 (3 * w) * h)) (by omega) (by omega), mkC_t (n := w64 (w * h)) (by omega) (by omega)]
  rfl
theorem nw_G {w h : Int} (hb : fbad w h = false) : GSpec Try.prog 21 [iA w, iA h] [] (nwA w h) (nwR w h) := by
  refine gspecG (e_cons gSd_ok e_nil) k_nil m_nil Try.func21 (by kernel_rfl) (by kernel_rfl) (fun _ _ _ _ _ h => by cases h) rfl (by kernel_rfl) ((nw_ev isd w h).trans ?_)
  rw [cSd_eq, hb, nwC_t hb]
  rfl
end Go.Proofs.Ytihkjdhnobeboaa

namespace Go.Proofs.Ytihkjdhnobeboaa
open Go.Gv

abbrev NFu : Type := Int → Int → Nat
def nwU (nN nM : NFu) : List AV → AV
  | [.x (.int .i64 w), .x (.int .i64 h)] => .tup [.agg [iA w, iA h, .osl 0 1 0 (nN w h), .osl 1 1 0 (nM w h)], iA 0]
  | _ => .any
def nwT (nN nM : NFu) : List AV → List Row
  | [.x (.int .i64 w), .x (.int .i64 h)] => [.a 3 1 (nN w h) (fun _ => [iA 0]), .a 3 1 (nM w h) (fun _ => [iA 0])]
  | _ => []
abbrev NUok (nN nM : NFu) (w h : Int) : Prop := GSpec Try.prog 21 [iA w, iA h] [] (nwU nN nM [iA w, iA h]) (nwT nN nM [iA w, iA h])
/-- What bytes begin with. -/
def mkL (i : Nat) : List AV := chunk [yA 82, yA 72, yA 70, yA 49] 1 (0 + i)
abbrev HPok (hf : EF4) (n : Nat) (g : Nat → Int) : Prop := FSpec Try.prog 20 [sB n g, .sl 1 4 mkL] (bA (hf n (fun i => [yA (g i)]) 4 mkL))
def gW (g : Nat → Int) : Int := w64 (g 4)
def gH (g : Nat → Int) : Int := w64 (g 5)
def g45 (n : Nat) (b : Bool) : Bool := (ixB 4 n || false) && ((ixB 5 n || false) && ((b || false) && true))
def lnF (n m : Nat) : Bool := (Nat.ble (0 + n) n && (Nat.ble (0 + m) m && true)) && true
def wnF (n m : Nat) : Bool := (Nat.blt 0 (0 + n) && (Nat.blt 0 (0 + m) && true)) && true
def bkC (W H : Int) (n m : Nat) : List AV := [iA W, iA H, .sl 1 n fun _ => [iA 0], .sl 1 m fun _ => [iA 0]]
abbrev SBb (bf : Nat → Nat → Int) (W H : Int) (n m : Nat) : Prop := FSpec Try.prog 11 [.agg (bkC W H n m)] (iA (bf n m))
noncomputable def bkX (hf : EF4) (n : Nat) (g : Nat → Int) (bad : Int → Option Out) (R : Option Out) : Option Out := cond (decide ((n : Int) < 6)) (bad 8) (gate (HPok hf n g) (cond (!(hf n (fun i => [yA (g i)]) 4 mkL)) (bad 11) R))
noncomputable def bkR (bf : Nat → Nat → Int) (nN nM : NFu) (n : Nat) (g : Nat → Int) (bad : Int → Option Out) (good : Option Out) : Option Out :=
  cond (g45 n (propB (NUok nN nM (gW g) (gH g)))) (cond (lnF (nN (gW g) (gH g)) (nM (gW g) (gH g))) (gate (SBb bf (gW g) (gH g) (nN (gW g) (gH g)) (nM (gW g) (gH g)))
    (cond (decide ((n : Int) < bf (nN (gW g) (gH g)) (nM (gW g) (gH g)))) (bad 8) (cond (lnF (nN (gW g) (gH g)) (nM (gW g) (gH g))) (gate (SBb bf (gW g) (gH g) (nN (gW g) (gH g)) (nM (gW g) (gH g)))
      (cond (decide ((n : Int) > bf (nN (gW g) (gH g)) (nM (gW g) (gH g)))) (bad 5) good)) none))) none) none
def bkG (nN nM : NFu) (g : Nat → Int) : Option Out := gout (.tup [.agg [iA (gW g), iA (gH g), .osl 0 1 0 (nN (gW g) (gH g)), .osl 1 1 0 (nM (gW g) (gH g))], iA 0]) [.a 3 1 (nN (gW g) (gH g)) (fun _ => [iA 0]), .a 3 1 (nM (gW g) (gH g)) (fun _ => [iA 0])]
section
variable (hf : EF4) (bf : Nat → Nat → Int) (nN nM : NFu) (n : Nat) (g : Nat → Int)
def bkB (nN nM : NFu) (g : Nat → Int) (e : Int) : Option Out := gout (.tup [.agg flmZ, iA e]) [.a 3 1 (nN (gW g) (gH g)) (fun _ => [iA 0]), .a 3 1 (nM (gW g) (gH g)) (fun _ => [iA 0])]
/-- All of it, with the rows that are made. -/
theorem bk_ev : evG Try.prog [] [kS Try.prog 20 (eqG hf), kS Try.prog 11 (sbtG bf)] [mR Try.prog 21 (nwU nN nM) (nwT nN nM)] noL Try.f14 [sB n g] [] [some 2, some 3] =
    bkX hf n g (fun _ => none) (bkR bf nN nM n g (bkB nN nM g) (bkG nN nM g)) := by kernel_rfl
/-- What ends ahead of the rows. -/
theorem bk_ev0 : evG Try.prog [] [kS Try.prog 20 (eqG hf), ⟨21, fun _ _ => none⟩] [] noL Try.f14 [sB n g] [] [] =
    bkX hf n g (fun e => gout (.tup [.agg flmZ, iA e]) []) none := by kernel_rfl
/-- Sides that may not be. -/
theorem bk_ev4 (e : Int) : evG Try.prog [] [kS Try.prog 20 (eqG hf), kS Try.prog 21 (fun _ => .tup [.agg flmZ, iA e]), ⟨11, fun _ _ => none⟩] [] noL Try.f14 [sB n g] [] [] =
    bkX hf n g (fun e => gout (.tup [.agg flmZ, iA e]) []) (gate (FSpec Try.prog 21 [iA (gW g), iA (gH g)] (.tup [.agg flmZ, iA e])) (cond ((ixB 4 n || false) && ((ixB 5 n || false) && true)) (cond (!(e == 0)) (gout (.tup [.agg flmZ, iA e]) []) none) none)) := by kernel_rfl
end
end Go.Proofs.Ytihkjdhnobeboaa

namespace Go.Proofs.Ytihkjdhnobeboaa
open Go.Gv

/-! ### A new film -/
noncomputable def newE (w h : Int) : Int := cond (fbad w h) 4 0
def newG (w h : Int) : Flm := ⟨w, h, (w64 (w64 (3 * w) * h)).toNat, fun _ => 0, (w64 (w * h)).toNat, fun _ => 0⟩
def newF (w h : Int) : Flm := if fbad w h = true then zF else newG w h
end Go.Proofs.Ytihkjdhnobeboaa

namespace Go.Proofs.Ytihkjdhnobeboaa
open Go.Gv

theorem hp_mk {n : Nat} {g : Nat → Int} (hn : 6 ≤ n) (hg : ∀ i, i < n → 0 ≤ g i ∧ g i ≤ 255) : HPok (fun _ _ _ _ => !mg3 g) n g := by
  have h0 : FSpec Try.prog 20 [sB n g, .sl 1 4 mkL] (bA (eqI 4 g 4 fun i => u8Of' (mkL i))) := by
    refine FSpec.of_args (hp_spec (n := n) (m := 4) (by omega) g fun i => u8Of' (mkL i)) fun E vs h => ?_
    obtain ⟨u0, t0, e0, r0, h⟩ := rels_cons.1 h
    obtain ⟨u1, t1, e1, r1, h⟩ := rels_cons.1 h
    refine rels_cons.2 ⟨u0, t0, e0, r0, rels_cons.2 ⟨u1, t1, e1, sl_like r1 fun i hi => ?_, h⟩⟩
    match i, hi with
    | 0, _ => rfl
    | 1, _ => rfl
    | 2, _ => rfl
    | 3, _ => rfl
  have hb : ∀ i, i < 4 → 0 ≤ u8Of' (mkL i) ∧ u8Of' (mkL i) ≤ 255 := fun i hi => by
    match i, hi with
    | 0, _ => exact ⟨show (0 : Int) ≤ 82 by decide, show (82 : Int) ≤ 255 by decide⟩
    | 1, _ => exact ⟨show (0 : Int) ≤ 72 by decide, show (72 : Int) ≤ 255 by decide⟩
    | 2, _ => exact ⟨show (0 : Int) ≤ 70 by decide, show (70 : Int) ≤ 255 by decide⟩
    | 3, _ => exact ⟨show (0 : Int) ≤ 49 by decide, show (49 : Int) ≤ 255 by decide⟩
  have e : eqI 4 g 4 (fun i => u8Of' (mkL i)) = !mg3 g := by
    have hg4 : ∀ i, i < 4 → 0 ≤ g i ∧ g i ≤ 255 := fun i hi => hg i (by omega)
    by_cases h0 : g 0 = 82
    · by_cases h1 : g 1 = 72
      · by_cases h2 : g 2 = 70
        · by_cases h3 : g 3 = 49
          · rw [eqI_t fun i hi => ?_]
            · unfold mg3 mg2 mg1 mg0; rw [h0, h1, h2, h3]; rfl
            · match i, hi with
              | 0, _ => exact h0
              | 1, _ => exact h1
              | 2, _ => exact h2
              | 3, _ => exact h3
          · rw [eqI_f hg4 hb (k := 3) (by omega) h3]
            unfold mg3 mg2 mg1 mg0; rw [h0, h1, h2, beq_false_of_ne h3]; rfl
        · rw [eqI_f hg4 hb (k := 2) (by omega) h2]
          unfold mg3 mg2 mg1 mg0; rw [h0, h1, beq_false_of_ne h2]; rfl
      · rw [eqI_f hg4 hb (k := 1) (by omega) h1]
        unfold mg3 mg2 mg1 mg0; rw [h0, beq_false_of_ne h1]; rfl
    · rw [eqI_f hg4 hb (k := 0) (by omega) h0]
      unfold mg3 mg2 mg1 mg0; rw [beq_false_of_ne h0]; rfl
  rw [e] at h0
  exact h0
/-- What is made ahead of all else. -/
def bkV (W H : Int) (n m : Nat) : AV := .tup [.agg [iA W, iA H, .osl 0 1 0 n, .osl 1 1 0 m], iA 0]
def bkRows (n m : Nat) : List Row := [.a 3 1 n (fun _ => [iA 0]), .a 3 1 m (fun _ => [iA 0])]
theorem plainB (n m : Nat) : PlainRows (bkRows n m) := by
  intro k e sz c el hk i hi
  match k, hk with
  | 0, hk => cases hk; rfl
  | 1, hk => cases hk; rfl
  | k + 2, hk => simp [bkRows] at hk
abbrev BBad (n : Nat) (g : Nat → Int) (e : Int) : Prop := FSpec Try.prog 14 [sB n g] (.tup [.agg flmZ, iA e])
section
variable {n : Nat} {g : Nat → Int}
theorem bbad_of {e : Int} {mem : List Row} (h : GSpec Try.prog 14 [sB n g] [] (.tup [.agg flmZ, iA e]) mem) (hp : PlainRows mem) : BBad n g e :=
  (fresh_rows h (by rfl) hp).spec rfl rfl
theorem plain0 : PlainRows [] := fun k e sz c el hk => by simp at hk
theorem bk_short (h : n < 6) : BBad n g 8 := by
  refine bbad_of (gspecG (mem := []) e_nil (k_cons (kS_ok (P := Try.prog) (f := 20) (g := eqG fun _ _ _ _ => true)) (k_cons (kno_ok _) k_nil)) m_nil Try.func14 (by kernel_rfl) (by kernel_rfl) noL_okN rfl (by kernel_rfl) ((bk_ev0 (fun _ _ _ _ => true) n g).trans ?_)) plain0
  unfold bkX
  rw [decide_eq_true (show (n : Int) < 6 by omega)]
  rfl
theorem bk_form (hn : 6 ≤ n) (hg : ∀ i, i < n → 0 ≤ g i ∧ g i ≤ 255) (hm : mg3 g = true) : BBad n g 11 := by
  refine bbad_of (gspecG (mem := []) e_nil (k_cons (kS_ok (P := Try.prog) (f := 20) (g := eqG fun _ _ _ _ => !mg3 g)) (k_cons (kno_ok _) k_nil)) m_nil Try.func14 (by kernel_rfl) (by kernel_rfl) noL_okN rfl (by kernel_rfl) ((bk_ev0 (fun _ _ _ _ => !mg3 g) n g).trans ?_)) plain0
  unfold bkX
  rw [decide_eq_false (show ¬ (n : Int) < 6 by omega), gate_pos (hp_mk hn hg), hm]
  rfl
theorem gW_eq (hn : 6 ≤ n) (hg : ∀ i, i < n → 0 ≤ g i ∧ g i ≤ 255) : gW g = g 4 ∧ gH g = g 5 := by
  obtain ⟨a, b⟩ := hg 4 (by omega)
  obtain ⟨c, d⟩ := hg 5 (by omega)
  exact ⟨w64_id (by omega) (by omega), w64_id (by omega) (by omega)⟩
theorem ix45 (hn : 6 ≤ n) : ixB 4 n = true ∧ ixB 5 n = true := ⟨ixB_t (i := 4) (by omega), ixB_t (i := 5) (by omega)⟩
theorem bk_sides (hn : 6 ≤ n) (hg : ∀ i, i < n → 0 ≤ g i ∧ g i ≤ 255) (hm : mg3 g = false) (hb : fbad (g 4) (g 5) = true) : BBad n g 4 := by
  have hnew : FSpec Try.prog 21 [iA (g 4), iA (g 5)] (.tup [.agg flmZ, iA 4]) := by
    have hev := nw_ev0 isd (g 4) (g 5)
    rw [cSd_eq, hb] at hev
    exact gspec (e_cons gSd_ok e_nil) k_nil Try.func21 (by kernel_rfl) (by kernel_rfl) noL_ok rfl hev
  refine bbad_of (gspecG (mem := []) e_nil (k_cons (kS_ok (P := Try.prog) (f := 20) (g := eqG fun _ _ _ _ => !mg3 g)) (k_cons (kS_ok (P := Try.prog) (f := 21) (g := fun _ => .tup [.agg flmZ, iA 4])) (k_cons (kno_ok _) k_nil))) m_nil Try.func14 (by kernel_rfl) (by kernel_rfl) noL_okN rfl (by kernel_rfl) ((bk_ev4 (fun _ _ _ _ => !mg3 g) n g 4).trans ?_)) plain0
  obtain ⟨i4, i5⟩ := ix45 hn
  obtain ⟨w4, w5⟩ := gW_eq hn hg
  unfold bkX
  rw [decide_eq_false (show ¬ (n : Int) < 6 by omega), gate_pos (hp_mk hn hg), hm, w4, w5, gate_pos hnew, i4, i5]
  rfl
theorem bk_rest (hn : 6 ≤ n) (hg : ∀ i, i < n → 0 ≤ g i ∧ g i ≤ 255) (hm : mg3 g = false) (hb : fbad (g 4) (g 5) = false) :
    (n < 21 * ldP g + 10 → BBad n g 8) ∧ (n > 21 * ldP g + 10 → BBad n g 5) ∧ (n = 21 * ldP g + 10 → GSpec Try.prog 14 [sB n g] [] (bkV (g 4) (g 5) (3 * ldP g) (ldP g)) (bkRows (3 * ldP g) (ldP g))) := by
  obtain ⟨i4, i5⟩ := ix45 hn
  obtain ⟨w4, w5⟩ := gW_eq hn hg
  obtain ⟨w1, w2, w3, w4'⟩ := nw_eq hb
  have en : nwN (g 4) (g 5) = 3 * ldP g := by unfold nwN ldP; rw [w1]; omega
  have em : nwM (g 4) (g 5) = ldP g := by unfold nwM ldP; rw [w2]
  have hP : ldP g ≤ 4096 := by unfold ldP; omega
  have hN : NUok nwN nwM (g 4) (g 5) := nw_G hb
  have hs : SBb sbtI (g 4) (g 5) (3 * ldP g) (ldP g) := sbt_spec ⟨g 4, g 5, 3 * ldP g, fun _ => 0, ldP g, fun _ => 0⟩
  have hl : lnF (3 * ldP g) (ldP g) = true := by unfold lnF; rw [ble_t (by omega), ble_t (by omega)]; rfl
  have hS : sbtI (3 * ldP g) (ldP g) = ((21 * ldP g + 10 : Nat) : Int) := by
    unfold sbtI
    rw [w64_id (n := 6 * ((3 * ldP g : Nat) : Int)) (by omega) (by omega), w64_id (n := 6 + 6 * ((3 * ldP g : Nat) : Int)) (by omega) (by omega), w64_id (n := 3 * ((ldP g : Nat) : Int)) (by omega) (by omega), w64_id (n := 6 + 6 * ((3 * ldP g : Nat) : Int) + 3 * ((ldP g : Nat) : Int)) (by omega) (by omega), w64_id (by omega) (by omega)]
    omega
  have ks := k_cons (kS_ok (P := Try.prog) (f := 20) (g := eqG fun _ _ _ _ => !mg3 g)) (k_cons (kS_ok (P := Try.prog) (f := 11) (g := sbtG sbtI)) k_nil)
  have ms := m_cons (mR_ok (P := Try.prog) (f := 21) (g := nwU nwN nwM) (m := nwT nwN nwM)) m_nil
  have hev := bk_ev (fun _ _ _ _ => !mg3 g) sbtI nwN nwM n g
  have e3 : (!(!mg3 g)) = false := by rw [hm]; rfl
  unfold bkX bkR bkB bkG g45 at hev
  simp only [e3] at hev
  rw [decide_eq_false (show ¬ (n : Int) < 6 by omega), gate_pos (hp_mk hn hg), w4, w5, i4, i5, propB_t hN, en, em, hl, gate_pos hs, gate_pos hs, hS] at hev
  have G : ∀ {v : AV}, evG Try.prog [] [kS Try.prog 20 (eqG fun _ _ _ _ => !mg3 g), kS Try.prog 11 (sbtG sbtI)] [mR Try.prog 21 (nwU nwN nwM) (nwT nwN nwM)] noL Try.f14 [sB n g] [] [some 2, some 3] = gout v (bkRows (3 * ldP g) (ldP g)) → GSpec Try.prog 14 [sB n g] [] v (bkRows (3 * ldP g) (ldP g)) := fun h =>
    gspecG (mem := []) e_nil ks ms Try.func14 (by kernel_rfl) (by kernel_rfl) noL_okN rfl (by kernel_rfl) h
  refine ⟨fun h => bbad_of (G (hev.trans ?_)) (plainB _ _), fun h => bbad_of (G (hev.trans ?_)) (plainB _ _), fun h => G (hev.trans ?_)⟩
  · rw [decide_eq_true (show (n : Int) < ((21 * ldP g + 10 : Nat) : Int) by omega)]; rfl
  · rw [decide_eq_false (show ¬ (n : Int) < ((21 * ldP g + 10 : Nat) : Int) by omega), decide_eq_true (show (n : Int) > ((21 * ldP g + 10 : Nat) : Int) by omega)]; rfl
  · rw [decide_eq_false (show ¬ (n : Int) < ((21 * ldP g + 10 : Nat) : Int) by omega), decide_eq_false (show ¬ (n : Int) > ((21 * ldP g + 10 : Nat) : Int) by omega)]; rfl
end
end Go.Proofs.Ytihkjdhnobeboaa

namespace Go.Proofs.Ytihkjdhnobeboaa
open Go.Gv

abbrev FLf : Type := (Nat → List AV) → Nat → Nat → Int
noncomputable def fiC (ff : FLf) : List AV → List Row → Option (Bool × AV × List Row)
  | [.osl 0 1 0 N, .sl 1 L el, .x (.int .i64 s)], [.a e sz m el0] => some (propB (GSpec Try.prog 16 [.osl 0 1 0 N, .sl 1 L el, iA s] [.a e sz m el0] (.sl 1 (L - s.toNat * N) fun j => el (s.toNat * N + j)) [.a 3 1 N fun j => [iA (ff el s.toNat j)]]), .sl 1 (L - s.toNat * N) fun j => el (s.toNat * N + j), [.a 3 1 N fun j => [iA (ff el s.toNat j)]])
  | _, _ => none
noncomputable def mFi (ff : FLf) : MEntry := ⟨16, liftM (some 0) (fiC ff), none⟩
theorem mFi_ok {ff : FLf} : MEOk Try.prog (mFi ff) := by
  refine ⟨liftM_ok fun args rs v mem1 hc => ?_, fun _ h => by cases h⟩
  unfold fiC at hc
  split at hc
  · simp only [Option.some.injEq, Prod.mk.injEq] at hc
    obtain ⟨h1, rfl, rfl⟩ := hc
    refine ⟨propB_of h1, fun i hi hw => ?_⟩
    have : i = 0 := by simpa using hi
    subst this
    exact absurd rfl hw
  · cases hc
abbrev NBc (nf : Nat → (Nat → List AV) → Int) (g : Nat → Int) (lo hi : Option Int) (n : Nat) : Prop := FSpec Try.prog 15 [.sl 1 (sbN lo hi n) (sbE g lo)] (iA (nf (sbN lo hi n) (sbE g lo)))
abbrev CKc (sf : Nat → (Nat → List AV) → Int) (g : Nat → Int) (lo hi : Option Int) (n : Nat) : Prop := FSpec Try.prog 13 [.sl 1 (sbN lo hi n) (sbE g lo)] (iA (sf (sbN lo hi n) (sbE g lo)))
def s4 (n : Nat) : Int := w64 ((n : Int) - 4)
abbrev FLo (ff : FLf) (N L : Nat) (S : Nat) (el : Nat → List AV) : Prop := GSpec Try.prog 16 [.osl 0 1 0 N, .sl 1 L el, iA (S : Int)] [.a 3 1 N fun _ => [iA 0]] (.sl 1 (L - S * N) fun j => el (S * N + j)) [.a 3 1 N fun j => [iA (ff el S j)]]
noncomputable def flQ (p : Prop) (N : Nat) : Bool := (propB p && (Nat.blt 0 (0 + N) && true)) || false
section
variable (nf sf : Nat → (Nat → List AV) → Int) (mf : MF) (ff : FLf) (n : Nat) (g : Nat → Int) (W H : Int) (N M : Nat)
def e6 (g : Nat → Int) : Nat → List AV := sbE g (some 6)
def L6 (n : Nat) : Nat := sbN (some 6) none n
def e7 (g : Nat → Int) (N : Nat) : Nat → List AV := fun j => e6 g (6 * N + j)
def lC : List AV := [iA W, iA H, .sl 1 N fun i => [iA (ff (e6 g) 6 (0 + i))], .sl 1 M fun i => [iA (ff (e7 g N) 3 (0 + i))]]
def lM : Int := mf W H N (fun i => [iA (ff (e6 g) 6 (0 + i))]) M (fun i => [iA (ff (e7 g N) 3 (0 + i))])
def lR : List Row := [.a 3 1 N fun j => [iA (ff (e6 g) 6 j)], .a 3 1 M fun j => [iA (ff (e7 g N) 3 j)]]
noncomputable def ldZ : Option Out :=
  cond (flQ (FLo ff M (L6 n - 6 * N) 3 (e7 g N)) M) (cond (lnF N M) (gate (FSpec Try.prog 10 [.agg (lC ff g W H N M)] (fmG mf [.agg (lC ff g W H N M)]))
    (cond (!(lM mf ff g W H N M == 0)) (gout (.tup [.agg flmZ, iA (lM mf ff g W H N M)]) (lR ff g N M)) (gout (bkV W H N M) (lR ff g N M)))) none) none
theorem cl_ev : evG Try.prog [] [kS Try.prog 15 (nbG nf), kS Try.prog 13 (suG sf), kS Try.prog 10 (fmG mf)] [mR Try.prog 14 (fun _ => bkV W H N M) (fun _ => bkRows N M), mFi ff] noL Try.f7 [sB n g] [] [some 1, some 2] =
    cond (propB (GSpec Try.prog 14 [sB n g] [] (bkV W H N M) (bkRows N M))) (gate (NBc nf g (some (s4 n)) none n) (gate (CKc sf g none (some (s4 n)) n) (cond ((sbB (some (s4 n)) none none n || false) && ((sbB none (some (s4 n)) none n || false) && true))
      (cond (!(nf (sbN (some (s4 n)) none n) (sbE g (some (s4 n))) == sf (sbN none (some (s4 n)) n) (sbE g none))) (gout (.tup [.agg flmZ, iA 12]) (bkRows N M))
        (cond ((sbB (some 6) none none n || false) && (flQ (FLo ff N (L6 n) 6 (e6 g)) N && true)) (ldZ mf ff n g W H N M) none)) none))) none := by kernel_rfl
theorem cl_bad (e : Int) : ev Try.prog [] [kS Try.prog 14 (fun _ => .tup [.agg flmZ, iA e]), ⟨15, fun _ _ => none⟩] noL Try.f7 [sB n g] ret =
    gate (BBad n g e) (cond (!(e == 0)) (fBad e) none) := by kernel_rfl
end
end Go.Proofs.Ytihkjdhnobeboaa

namespace Go.Proofs.Ytihkjdhnobeboaa
open Go.Gv

/-! ### Films that are the same as far as they go -/
theorem allI_congr {n : Nat} {p q : Nat → Bool} (h : ∀ i, i < n → p i = q i) : allI n p = allI n q := by
  rcases all_or_first p n with hp | ⟨K, hK, hf, _⟩
  · rw [allI_t hp, allI_t fun i hi => (h i hi).symm.trans (hp i hi)]
  · rw [allI_f hK hf, allI_f hK ((h K hK).symm.trans hf)]
theorem fmay_congr {f g : Flm} (hW : f.W = g.W) (hH : f.H = g.H) (en : f.n = g.n) (em : f.m = g.m) (hl : ∀ i, i < f.n → f.lt i = g.lt i) (hs : ∀ i, i < f.m → f.sh i = g.sh i) : fmay f = fmay g := by
  have e1 : fcnt f = fcnt g := by unfold fcnt; rw [hW, hH, en, em]
  have e2 : fval f = fval g := by
    unfold fval
    rw [allI_congr (p := fun i => !ofB (f.lt i) 1099511627776) (q := fun i => !ofB (g.lt i) 1099511627776) fun i hi => by rw [hl i hi], allI_congr (p := fun i => !ofB (f.sh i) 1048576) (q := fun i => !ofB (g.sh i) 1048576) fun i hi => by rw [hs i hi], en, em]
  unfold fmay
  rw [hW, hH, e1, e2]
theorem flm_like {E : Env} {f g : Flm} {v : Value} (hW : f.W = g.W) (hH : f.H = g.H) (en : f.n = g.n) (em : f.m = g.m) (hl : ∀ i, i < f.n → f.lt i = g.lt i) (hs : ∀ i, i < f.m → f.sh i = g.sh i) (h : rel E (.agg f.c) v) : rel E (.agg g.c) v := by
  obtain ⟨W, H, n, lt, m, sh⟩ := f
  obtain ⟨W', H', n', lt', m', sh'⟩ := g
  simp only at hW hH en em hl hs
  subst hW
  subst hH
  subst en
  subst em
  obtain ⟨vs, h1, h2⟩ := rel_agg.1 h
  refine rel_agg.2 ⟨vs, h1, ?_⟩
  obtain ⟨u0, t0, e0, r0, h2⟩ := rels_cons.1 h2
  obtain ⟨u1, t1, e1, r1, h2⟩ := rels_cons.1 h2
  obtain ⟨u2, t2, e2, r2, h2⟩ := rels_cons.1 h2
  obtain ⟨u3, t3, e3, r3, h2⟩ := rels_cons.1 h2
  exact rels_cons.2 ⟨u0, t0, e0, r0, rels_cons.2 ⟨u1, t1, e1, r1, rels_cons.2 ⟨u2, t2, e2, sl_like r2 (fun i hi => congrArg (fun z => [iA z]) (hl i hi).symm), rels_cons.2 ⟨u3, t3, e3, sl_like r3 (fun i hi => congrArg (fun z => [iA z]) (hs i hi).symm), h2⟩⟩⟩⟩
theorem ofB_false {x M : Int} (h : ofB x M = false) : 0 ≤ x ∧ x ≤ M := by
  unfold ofB at h
  by_cases h1 : x < 0 <;> by_cases h2 : x > M <;> simp [h1, h2] at h
  omega
theorem fval_all {f : Flm} (h : fval f = true) : (∀ i, i < f.n → 0 ≤ f.lt i ∧ f.lt i ≤ 1099511627776) ∧ ∀ i, i < f.m → 0 ≤ f.sh i ∧ f.sh i ≤ 1048576 := by
  unfold fval at h
  simp only [Bool.and_eq_true] at h
  exact ⟨fun i hi => ofB_false (by simpa using allI_all h.1 i hi), fun i hi => ofB_false (by simpa using allI_all h.2 i hi)⟩
end Go.Proofs.Ytihkjdhnobeboaa

namespace Go.Proofs.Ytihkjdhnobeboaa
open Go.Gv

def ffL : FLf := fun el S j => cnV (fun c => u8Of' (el (S * j + c))) S
section
variable {n : Nat} {g : Nat → Int}
theorem cl_of_bad {e : Int} (he : e ≠ 0) (h : BBad n g e) : FreshSpec Try.prog 7 [sB n g] (fOut zF e) := by
  have h0 : FSpec Try.prog 7 [sB n g] (.tup [.agg flmZ, iA e]) := by
    refine gspec e_nil (k_cons (kS_ok (P := Try.prog) (f := 14) (g := fun _ => .tup [.agg flmZ, iA e])) (k_cons (kno_ok _) k_nil)) Try.func7 (by kernel_rfl) (by kernel_rfl) noL_ok rfl ((cl_bad n g e).trans ?_)
    rw [gate_pos h, beq_false_of_ne he]
    rfl
  exact (fresh_plain h0 rfl).of_res fun _ _ hr => tup2_like hr fun _ => zF_like
theorem plainL2 (ff : FLf) (N M : Nat) : PlainRows (lR ff g N M) := by
  intro k e sz c el hk i hi
  match k, hk with
  | 0, hk => cases hk; rfl
  | 1, hk => cases hk; rfl
  | k + 2, hk => simp [lR] at hk
theorem cload_fresh (hg : ∀ i, i < n → 0 ≤ g i ∧ g i ≤ 255) : FreshSpec Try.prog 7 [sB n g] (fOut (ldO n g) (ldE n g)) := by
  have bad : ∀ {e : Int}, e ≠ 0 → ldE n g = e → BBad n g e → FreshSpec Try.prog 7 [sB n g] (fOut (ldO n g) (ldE n g)) := fun {e} he h1 h2 => by
    have hf : ldO n g = zF := by unfold ldO; rw [if_neg (by rw [h1]; exact he)]
    rw [hf, h1]
    exact cl_of_bad he h2
  by_cases h6 : n < 6
  · exact bad (by decide) (by unfold ldE; rw [decide_eq_true h6]; rfl) (bk_short h6)
  have hn6 : 6 ≤ n := by omega
  cases hm : mg3 g
  case true => exact bad (by decide) (by unfold ldE; rw [decide_eq_false h6, hm]; rfl) (bk_form hn6 hg hm)
  cases hb : fbad (g 4) (g 5)
  case true => exact bad (by decide) (by unfold ldE; rw [decide_eq_false h6, hm, hb]; rfl) (bk_sides hn6 hg hm hb)
  obtain ⟨r1, r2, r3⟩ := bk_rest hn6 hg hm hb
  by_cases hlt : n < 21 * ldP g + 10
  · exact bad (by decide) (by unfold ldE; rw [decide_eq_false h6, hm, hb, decide_eq_true hlt]; rfl) (r1 hlt)
  by_cases hgt : n > 21 * ldP g + 10
  · exact bad (by decide) (by unfold ldE; rw [decide_eq_false h6, hm, hb, decide_eq_false hlt, decide_eq_true hgt]; rfl) (r2 hgt)
  have hn : n = 21 * ldP g + 10 := by omega
  have hG := r3 hn
  have hE : ldE n g = cond (!ldS n g) 12 (fmay (ldF g)) := by unfold ldE; rw [decide_eq_false h6, hm, hb, decide_eq_false hlt, decide_eq_false hgt]; rfl
  obtain ⟨w1, w2, w3, w4⟩ := nw_eq hb
  have hP : ldP g ≤ 4096 := by unfold ldP; omega
  have hP0 : 0 < ldP g := by unfold ldP; omega
  have es : s4 n = ((n - 4 : Nat) : Int) := by unfold s4; rw [w64_id (by omega) (by omega)]; omega
  obtain ⟨b1, b2, b3, b4, b5⟩ := sbT (n - 4) n (by omega)
  have eN : sbE g (some ((n - 4 : Nat) : Int)) = fun i => [yA (g (n - 4 + i))] := funext fun i => by unfold sbE; rw [b5]
  have eC : sbE g none = fun i => [yA (g i)] := funext fun i => by
    unfold sbE
    have : sbL none = 0 := rfl
    rw [this, Nat.zero_add]
  have k1 : NBc cfE g (some (s4 n)) none n := by
    show FSpec Try.prog 15 [.sl 1 (sbN (some (s4 n)) none n) (sbE g (some (s4 n)))] (iA (cfE (sbN (some (s4 n)) none n) (sbE g (some (s4 n)))))
    rw [es, b4, eN]
    exact cn_spec (by omega) fun i => g (n - 4 + i)
  have k2 : CKc suE g none (some (s4 n)) n := by
    show FSpec Try.prog 13 [.sl 1 (sbN none (some (s4 n)) n) (sbE g none)] (iA (suE (sbN none (some (s4 n)) n) (sbE g none)))
    rw [es, b3, eC]
    exact ck_spec (by omega) g
  have eS : (cfE (sbN (some (s4 n)) none n) (sbE g (some (s4 n))) == suE (sbN none (some (s4 n)) n) (sbE g none)) = ldS n g := by
    rw [es, b4, b3, eN, eC, show n - (n - 4) = 4 by omega]
    show (cnV (fun i => g (n - 4 + i)) 4 == w64 (suV g (n - 4))) = _
    rw [(cn_nb (g := fun i => g (n - 4 + i)) (k := 4) (by omega) fun i hi => hg _ (by omega)).1]
    rfl
  obtain ⟨c1, c2, c3, c4, c5⟩ := sbT 6 n hn6
  have c2' : sbB (some 6) none none n = true := c2
  have c5' : sbL (some 6) = 6 := c5
  have eL : L6 n = n - 6 := c4
  have f1 : FLo ffL (3 * ldP g) (L6 n) 6 (e6 g) := fi_ok (N := 3 * ldP g) (L := L6 n) (S := 6) (by omega) (by omega) (by rw [eL]; omega) (fun i => g (sbL (some 6) + i)) fun _ => 0
  have f2 : FLo ffL (ldP g) (L6 n - 6 * (3 * ldP g)) 3 (e7 g (3 * ldP g)) := fi_ok (N := ldP g) (L := L6 n - 6 * (3 * ldP g)) (S := 3) (by omega) (by omega) (by rw [eL]; omega) (fun i => g (sbL (some 6) + (6 * (3 * ldP g) + i))) fun _ => 0
  have q1 : flQ (FLo ffL (3 * ldP g) (L6 n) 6 (e6 g)) (3 * ldP g) = true := by unfold flQ; rw [propB_t f1, blt_t (by omega)]; rfl
  have q2 : flQ (FLo ffL (ldP g) (L6 n - 6 * (3 * ldP g)) 3 (e7 g (3 * ldP g))) (ldP g) = true := by unfold flQ; rw [propB_t f2, blt_t (by omega)]; rfl
  have hl : lnF (3 * ldP g) (ldP g) = true := by unfold lnF; rw [ble_t (by omega), ble_t (by omega)]; rfl
  have ok := FMok_of cmay_spec
  let F : Flm := ⟨g 4, g 5, 3 * ldP g, fun i => ffL (e6 g) 6 i, ldP g, fun i => ffL (e7 g (3 * ldP g)) 3 i⟩
  have eF : lC ffL g (g 4) (g 5) (3 * ldP g) (ldP g) = F.c := by
    show ([iA (g 4), iA (g 5), .sl 1 (3 * ldP g) fun i => [iA (ffL (e6 g) 6 (0 + i))], .sl 1 (ldP g) fun i => [iA (ffL (e7 g (3 * ldP g)) 3 (0 + i))]] : List AV) = [iA (g 4), iA (g 5), .sl 1 (3 * ldP g) fun i => [iA (ffL (e6 g) 6 i)], .sl 1 (ldP g) fun i => [iA (ffL (e7 g (3 * ldP g)) 3 i)]]
    simp only [Nat.zero_add]
  have eM : lM fmE' ffL g (g 4) (g 5) (3 * ldP g) (ldP g) = fmay F := by
    show fmay ⟨g 4, g 5, 3 * ldP g, fun i => ffL (e6 g) 6 (0 + i), ldP g, fun i => ffL (e7 g (3 * ldP g)) 3 (0 + i)⟩ = fmay F
    simp only [Nat.zero_add]
    rfl
  have hlt1 : ∀ i, i < F.n → F.lt i = (ldF g).lt i := fun i hi => by
    have hi : i < 3 * ldP g := hi
    show cnV (fun c => g (sbL (some 6) + (6 * i + c))) 6 = nbV (fun c => g (6 + 6 * i + c)) 6
    have e : (fun c => g (sbL (some 6) + (6 * i + c))) = fun c => g (6 + 6 * i + c) := funext fun c => by rw [c5', Nat.add_assoc]
    rw [e]
    exact (cn_nb (g := fun c => g (6 + 6 * i + c)) (k := 6) (by omega) fun c hc => hg _ (by omega)).1
  have hsh1 : ∀ i, i < F.m → F.sh i = (ldF g).sh i := fun i hi => by
    have hi : i < ldP g := hi
    show cnV (fun c => g (sbL (some 6) + (6 * (3 * ldP g) + (3 * i + c)))) 3 = nbV (fun c => g (6 + 18 * ldP g + 3 * i + c)) 3
    have e : (fun c => g (sbL (some 6) + (6 * (3 * ldP g) + (3 * i + c)))) = fun c => g (6 + 18 * ldP g + 3 * i + c) := funext fun c => by rw [c5']; congr 1; omega
    rw [e]
    exact (cn_nb (g := fun c => g (6 + 18 * ldP g + 3 * i + c)) (k := 3) (by omega) fun c hc => hg _ (by omega)).1
  have eM2 : fmay F = fmay (ldF g) := fmay_congr rfl rfl rfl rfl hlt1 hsh1
  have ks := k_cons (kS_ok (P := Try.prog) (f := 15) (g := nbG cfE)) (k_cons (kS_ok (P := Try.prog) (f := 13) (g := suG suE)) (k_cons (kS_ok (P := Try.prog) (f := 10) (g := fmG fmE')) k_nil))
  have ms := m_cons (mR_ok (P := Try.prog) (f := 14) (g := fun _ => bkV (g 4) (g 5) (3 * ldP g) (ldP g)) (m := fun _ => bkRows (3 * ldP g) (ldP g))) (m_cons (mFi_ok (ff := ffL)) m_nil)
  have hev := cl_ev cfE suE fmE' ffL n g (g 4) (g 5) (3 * ldP g) (ldP g)
  unfold ldZ at hev
  rw [propB_t hG, gate_pos k1, gate_pos k2, eS, es, b1, b2, c2', q1, q2, hl, eF, gate_pos (ok F), eM, eM2] at hev
  have G : ∀ {v : AV} {mem : List Row}, evG Try.prog [] [kS Try.prog 15 (nbG cfE), kS Try.prog 13 (suG suE), kS Try.prog 10 (fmG fmE')] [mR Try.prog 14 (fun _ => bkV (g 4) (g 5) (3 * ldP g) (ldP g)) (fun _ => bkRows (3 * ldP g) (ldP g)), mFi ffL] noL Try.f7 [sB n g] [] [some 1, some 2] = gout v mem → GSpec Try.prog 7 [sB n g] [] v mem := fun h =>
    gspecG (mem := []) e_nil ks ms Try.func7 (by kernel_rfl) (by kernel_rfl) noL_okN rfl (by kernel_rfl) h
  cases hs : ldS n g
  · rw [hs] at hE hev
    have hE : ldE n g = 12 := hE
    have hf : ldO n g = zF := by unfold ldO; rw [if_neg (by rw [hE]; decide)]
    rw [hf, hE]
    exact (fresh_rows (G (v := .tup [.agg flmZ, iA 12]) hev) (by rfl) (plainB _ _)).of_res fun _ _ hr => tup2_like hr fun _ => zF_like
  · rw [hs] at hE hev
    have hE : ldE n g = fmay (ldF g) := hE
    by_cases h4 : fmay (ldF g) = 0
    · rw [h4] at hE hev
      have hf : ldO n g = ldF g := by unfold ldO; rw [if_pos hE]
      rw [hf, hE]
      have hF := fresh_rows (G (v := bkV (g 4) (g 5) (3 * ldP g) (ldP g)) hev) (by
        show ownB (lR ffL g (3 * ldP g) (ldP g)) (bkV _ _ _ _) = true
        simp only [bkV, ownB, ownBL, lR, List.getElem?_cons_zero, List.getElem?_cons_succ, iA]
        rw [ble_t (show 0 + 3 * ldP g ≤ 3 * ldP g by omega), ble_t (show 0 + ldP g ≤ ldP g by omega)]
        rfl) (plainL2 _ _ _)
      have e : frzT (lR ffL g (3 * ldP g) (ldP g)) (bkV (g 4) (g 5) (3 * ldP g) (ldP g)) = fOut F 0 := by
        show AV.tup [.agg (lC ffL g (g 4) (g 5) (3 * ldP g) (ldP g)), iA 0] = AV.tup [.agg F.c, iA 0]
        rw [eF]
      rw [e] at hF
      exact hF.of_res fun _ _ hr => tup2_like hr fun _ hu => flm_like (f := F) (g := ldF g) rfl rfl rfl rfl hlt1 hsh1 hu
    · rw [beq_false_of_ne h4] at hev
      have hf : ldO n g = zF := by unfold ldO; rw [if_neg (by rw [hE]; exact h4)]
      rw [hf, hE]
      exact (fresh_rows (G (v := .tup [.agg flmZ, iA (fmay (ldF g))]) hev) (by rfl) (plainL2 _ _ _)).of_res fun _ _ hr => tup2_like hr fun _ => zF_like
theorem cload_spec (hg : ∀ i, i < n → 0 ≤ g i ∧ g i ≤ 255) : FSpec Try.prog 7 [sB n g] (fOut (ldO n g) (ldE n g)) := (cload_fresh hg).spec rfl rfl
end
end Go.Proofs.Ytihkjdhnobeboaa
