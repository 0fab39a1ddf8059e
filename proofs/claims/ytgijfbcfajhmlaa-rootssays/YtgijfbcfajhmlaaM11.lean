/-
  Rd8a Rd9a Pk0 Tc3 Tc5 Tc4 Tq1 Tq2 Tq3 Tq4, one behind the other.
-/
import Derived.Test.YtgijfbcfajhmlaaM10
import Derived.Test.YtgijfbcfajhmlaaM3
import Derived.Test.YtgijfbcfajhmlaaM9
namespace Go.Proofs.Ytgijfbcfajhmlaa
open Go.Gv

def gWd (wf : Int → Bool) : List AV → Option AV
  | [.x (.int .i64 n)] => some (bA (wf n))
  | _ => none
def gFr (ff : Int → Int → Bool) : List AV → Option AV
  | [.x (.int .i64 a), .x (.int .i64 b)] => some (bA (ff a b))
  | _ => none
theorem gWd_ok {f : Nat} {wf : Int → Bool} (h : ∀ n, FSpec Try.prog f [iA n] (bA (wf n))) : EOk Try.prog ⟨f, gWd wf⟩ := fun args r hr => by
  simp only [gWd] at hr
  split at hr
  · cases hr; exact Or.inl (h _)
  · cases hr
theorem gFr_ok {f : Nat} {ff : Int → Int → Bool} (h : ∀ a b, FSpec Try.prog f [iA a, iA b] (bA (ff a b))) : EOk Try.prog ⟨f, gFr ff⟩ := fun args r hr => by
  simp only [gFr] at hr
  split at hr
  · cases hr; exact Or.inl (h _ _)
  · cases hr
def wdB (n : Int) : Bool := cond (decide (n < -2147483648)) true (decide (n > 2147483648))
def frB (a b : Int) : Bool := cond (decide (a < -1125899906842624)) true (decide (b > 1125899906842624))
theorem wd_spec (n : Int) : FSpec Try.prog 19 [iA n] (bA (wdB n)) := gspec e_nil k_nil Try.func19 (by kernel_rfl) (by kernel_rfl) noL_ok rfl (by kernel_rfl)
theorem fr_spec (a b : Int) : FSpec Try.prog 21 [iA a, iA b] (bA (frB a b)) := gspec e_nil k_nil Try.func21 (by kernel_rfl) (by kernel_rfl) noL_ok rfl (by kernel_rfl)
def rrS (n : Nat) (f : Nat → Int) (lo hi i : Int) (m : Nat) (Y : Nat → List AV) : St := mkS 39 [(0, sJ n f), (1, iA lo), (2, iA hi), (8, .osl 0 2 0 m), (9, iA i)] [.a 44 2 m Y]
def keepRR : List Nat := [0, 1, 2, 8, 9]
def rrR : St := mkS 39 [(6, nilA), (7, iA 1)] []
section
variable (wf : Int → Bool) (n : Nat) (f : Nat → Int) (lo hi i : Int) (m : Nat) (Y : Nat → List AV)
noncomputable def rrT (r y z : Option Out) : Option Out := cond (decide (i < (n : Int))) (cond (ixB i n || false) (cond (wf (f i.toNat)) r (cond (ixB i n || false) (gOf (f i.toNat) (cond (apB m 32 || false) y none)) none)) none) z
theorem rr_step : evC Try.prog [⟨19, gWd wf⟩] (bigK Try.prog) noL (loopAt Try.f8 0) (rrS n f lo hi i m Y) (finN keepRR [some 2]) = rrT wf n f i m none (some ⟨.normal, rrS n f lo hi (w64 (i + 1)) (m + 1) (fun q => mixL (Nat.blt q m) (Y q) (bgc (bOf (f i.toNat)))), .any⟩) none := by kernel_rfl
theorem rr_ret : evC Try.prog [⟨19, gWd wf⟩] (bigK Try.prog) noL (loopAt Try.f8 0) (rrS n f lo hi i m Y) (finR [6, 7] []) = rrT wf n f i m (some ⟨.ret, rrR, .any⟩) none none := by kernel_rfl
theorem rr_end : evC Try.prog [⟨19, gWd wf⟩] (bigK Try.prog) noL (loopAt Try.f8 0) (rrS n f lo hi i m Y) (finE keepRR [some 0]) = rrT wf n f i m none none (some ⟨.exit 0, rrS n f lo hi i m Y, .any⟩) := by kernel_rfl
variable (ff : Int → Int → Bool) (h : Nat → Bg) (L : List Int)
def rBad (e : Int) : Option Out := some (Out.of (.tup [nilA, iA e]))
theorem rr_evE : evZ Try.prog [⟨21, gFr ff⟩] [kS Try.prog 22 (fun _ => lsJ L)] [] (oneL 5 (toldN keepRR [(8, 0, 2)] (.a 44 2 0 fun q => bgc (h q)) [none] (rrS n f lo hi 0 0 fun q => bgc (h q)) (.exit 0) (rrS n f lo hi (n : Nat) n fun q => bgc (h q)))) (oneZ 12 (frzK 0)) Try.f8 [sJ n f, iA lo, iA hi] ret =
    cond (decide ((n : Int) > 5)) (rBad 4) (gate (Sub (rrS n f lo hi 0 0 fun q => bgc (h q)) (rrS n f lo hi 0 0 fun q => bgc (h q))) (cond (ff lo hi) (rBad 1) (cond (fz1 n) (gate (FSpec Try.prog 22 [bpA n h, iA lo, iA hi] (lsJ L)) (some (Out.of (rtA (L, 0))))) none))) := by kernel_rfl
theorem rr_evR : ev Try.prog [] [] (oneL 5 (toldN keepRR [(8, 0, 2)] (.a 44 2 0 fun q => bgc (h q)) [none] (rrS n f lo hi 0 0 fun q => bgc (h q)) .ret rrR)) Try.f8 [sJ n f, iA lo, iA hi] ret =
    cond (decide ((n : Int) > 5)) (rBad 4) (gate (Sub (rrS n f lo hi 0 0 fun q => bgc (h q)) (rrS n f lo hi 0 0 fun q => bgc (h q))) (rBad 1)) := by kernel_rfl
theorem rr_ev0 : ev Try.prog [] [] (oneL 5 fun _ _ => none) Try.f8 [sJ n f, iA lo, iA hi] ret = cond (decide ((n : Int) > 5)) (rBad 4) none := by kernel_rfl
end
/-! ### The same numbers -/
def siS' (n : Nat) (f : Nat → Int) (m : Nat) (g : Nat → Int) (i : Int) : St := mkS 26 [(0, sJ n f), (1, sJ m g), (5, iA i)] []
section
variable (n : Nat) (f : Nat → Int) (m : Nat) (g : Nat → Int) (i : Int)
theorem si'_step : evC Try.prog [] [] noL (loopAt Try.f9 0) (siS' n f m g i) (finN [0, 1, 5] []) = cond (decide (i < (n : Int))) (cond ((ixB i n || false) && ((ixB i m || false) && true)) (cond (!(f i.toNat == g i.toNat)) none (some ⟨.normal, siS' n f m g (w64 (i + 1)), .any⟩)) none) none := by kernel_rfl
theorem si'_end : evC Try.prog [] [] noL (loopAt Try.f9 0) (siS' n f m g i) (finE [0, 1, 5] []) = cond (decide (i < (n : Int))) (cond ((ixB i n || false) && ((ixB i m || false) && true)) (cond (!(f i.toNat == g i.toNat)) none none) none) (some ⟨.exit 0, siS' n f m g i, .any⟩) := by kernel_rfl
theorem si'_ev (j : Int) : ev Try.prog [] [] (oneL 4 (toldF [0, 1, 5] [] (siS' n f m g 0) (.exit 0) (siS' n f m g j))) Try.f9 [sJ n f, sJ m g] ret = cond (!((n : Int) == (m : Int))) (some (Out.of (bA false))) (gate (Sub (siS' n f m g 0) (siS' n f m g 0)) (some (Out.of (bA true)))) := by kernel_rfl
end
theorem same_ints {L : List Int} (hL : L.length ≤ 1000000) : FSpec Try.prog 9 [lsJ L, lsJ L] (bA true) := by
  have lead : Leads Try.prog (.loop (loopAt Try.f9 0)) (siS' L.length (fun q => L.getD q 0) L.length (fun q => L.getD q 0) 0) (.exit 0) (siS' L.length (fun q => L.getD q 0) L.length (fun q => L.getD q 0) (L.length : Nat)) := by
    refine loop_rule (fun i => siS' L.length (fun q => L.getD q 0) L.length (fun q => L.getD q 0) (i : Nat)) L.length (.exit 0) _ (by simp) (fun i hi => ?_) ?_
    · have st := si'_step L.length (fun q => L.getD q 0) L.length (fun q => L.getD q 0) (i : Nat)
      rw [dec_lt hi, ixB_t hi, BEq.rfl, w64_next (by omega)] at st
      exact leads_ev (finN_sub _ _) e_nil k_nil noL_ok st
    · refine leads_ev (finE_sub _ _) e_nil k_nil noL_ok ((si'_end L.length _ L.length _ (L.length : Nat)).trans ?_)
      rw [dec_self, cond_false]
  refine gspec e_nil k_nil Try.func9 (by kernel_rfl) (by kernel_rfl) (lok_at (i := 4) 0 1 (by kernel_rfl) (by kernel_rfl) (toldF_sound (keep := [0, 1, 5]) (τ := []) lead)) rfl ((si'_ev L.length _ L.length _ (L.length : Nat)).trans ?_)
  rw [BEq.rfl, gate_pos (Sub.refl _)]
  rfl
end Go.Proofs.Ytgijfbcfajhmlaa

namespace Go.Proofs.Ytgijfbcfajhmlaa
open Go.Gv

theorem fr_ms (a b : Int) : frB a b = !msI a b := by
  unfold frB msI
  by_cases g1 : a < -1125899906842624
  · rw [decide_eq_true g1, decide_eq_false (show ¬ a ≥ -1125899906842624 by omega)]; rfl
  · rw [decide_eq_false g1, decide_eq_true (show a ≥ -1125899906842624 by omega), cond_false, cond_true]
    by_cases g2 : b > 1125899906842624
    · rw [decide_eq_true g2, decide_eq_false (show ¬ b ≤ 1125899906842624 by omega)]; rfl
    · rw [decide_eq_false g2, decide_eq_true (show b ≤ 1125899906842624 by omega)]; rfl
theorem bval_of {n : Nat} {f : Nat → Int} (hc : Cn n f) : bval n (fun q => bOf (f q)) = f := funext fun i => by
  unfold bval
  by_cases h : i < n
  · rw [if_pos h, bv_of]
  · rw [if_neg h, hc i (by omega)]
theorem btl_of (n : Nat) (f : Nat → Int) : btl (fun q => bOf (f q)) n = tl f n := tl_congr fun i _ => bv_of (f i)
theorem rrO_spec {n : Nat} {f : Nat → Int} {lo hi : Int} (hf : ∀ i, i < n → I64 (f i)) (hc : Cn n f) : FSpec Try.prog 8 [sJ n f, iA lo, iA hi] (rtA (rtOut n f lo hi)) := by
  unfold rtOut
  by_cases h5 : (n : Int) > 5
  · rw [decide_eq_true h5]
    refine bad_like (gspec e_nil k_nil Try.func8 (by kernel_rfl) (by kernel_rfl) (lok_none 5) rfl ((rr_ev0 n f lo hi).trans ?_))
    rw [decide_eq_true h5]
    rfl
  rw [decide_eq_false h5, cond_false]
  have hl : ∀ e, e ∈ [(⟨19, gWd wdB⟩ : Entry)] → EOk Try.prog e := e_cons (gWd_ok wd_spec) e_nil
  have go : ∀ k, k < n → wdB (f k) = false → Leads Try.prog (loopAt Try.f8 0) (rrS n f lo hi (k : Nat) k fun q => bgc (bOf (f q))) .normal (rrS n f lo hi ((k + 1 : Nat) : Int) (k + 1) fun q => bgc (bOf (f q))) := fun k hk hb => by
    have st := rr_step wdB n f lo hi (k : Nat) k fun q => bgc (bOf (f q))
    unfold rrT at st
    rw [dec_lt hk, ixB_t hk, Int.toNat_natCast, hb, gOf_pos (hf k hk), apB_t (by omega), w64_next (by omega)] at st
    refine (leads_ev (finN_sub _ _) hl bigK_ok noL_ok st).sub (Sub.refl _) ?_
    exact sub_same ⟨Or.inr ⟨44, 2, k + 1, _, _, rfl, rfl, fun q hq => (app_b (g := fun q => bOf (f q)) hq rfl).symm ▸ rfl⟩, trivial⟩
  rcases all_or_first (fun i => !wdB (f i)) n with hall | ⟨K, hK, hp, hq⟩
  · have lead : Leads Try.prog (.loop (loopAt Try.f8 0)) (rrS n f lo hi 0 0 fun q => bgc (bOf (f q))) (.exit 0) (rrS n f lo hi (n : Nat) n fun q => bgc (bOf (f q))) := by
      refine loop_rule (fun k => rrS n f lo hi (k : Nat) k fun q => bgc (bOf (f q))) n (.exit 0) _ (by simp) (fun k hk => go k hk (by simpa using hall k hk)) ?_
      refine leads_ev (finE_sub _ _) hl bigK_ok noL_ok ((rr_end wdB n f lo hi (n : Nat) n _).trans ?_)
      unfold rrT
      rw [dec_self, cond_false]
    have hL := lok_at (i := 5) (c := bodyOf Try.f8) 0 1 (by kernel_rfl) (by kernel_rfl) (toldN_sound (keep := keepRR) (nils := [(8, 0, 2)]) (nr := .a 44 2 0 fun q => bgc (bOf (f q))) (τ := [none]) lead)
    have hl2 : ∀ e, e ∈ [(⟨21, gFr frB⟩ : Entry)] → EOk Try.prog e := e_cons (gFr_ok fr_spec) e_nil
    have ev := rr_evE n f lo hi frB (fun q => bOf (f q)) (rtL n f lo hi)
    rw [decide_eq_false h5, cond_false, gate_pos (Sub.refl _), fr_ms] at ev
    have hmb : mbI n f = true := allI_t hall
    unfold rtB
    rw [hmb]
    show FSpec Try.prog 8 [sJ n f, iA lo, iA hi] (rtA (cond (!msI lo hi) ([], 1) (rtL n f lo hi, 0)))
    cases hms : msI lo hi
    · rw [hms] at ev
      exact bad_like (gspecZ (oneZ_ok (frzK_ok 0)) hl2 (k_cons kS_ok k_nil) m_nil Try.func8 (by kernel_rfl) (by kernel_rfl) hL rfl ev)
    · have hse : -1125899906842624 ≤ lo ∧ hi ≤ 1125899906842624 := by
        unfold msI at hms
        by_cases g1 : lo ≥ -1125899906842624
        · rw [decide_eq_true g1, cond_true] at hms
          exact ⟨g1, of_decide_eq_true hms⟩
        · rw [decide_eq_false g1] at hms; cases hms
      have hpl := pl'_spec (p0 := (n, fun q => bOf (f q))) (B := 4) (lo := lo) (hi := hi) (show n ≤ 5 by omega) (by decide) (fun i hi => nw_of (hf i hi)) hse.1 hse.2
      have e1 : cond (plB (btl (fun q => bOf (f q)) n) lo hi) [] (plcP (btl (fun q => bOf (f q)) n, bval n fun q => bOf (f q)) lo hi) = rtL n f lo hi := by
        rw [btl_of, bval_of hc]
        rfl
      have hpl' : FSpec Try.prog 22 [bpA n fun q => bOf (f q), iA lo, iA hi] (lsJ (rtL n f lo hi)) := by
        rw [← e1]
        exact hpl
      rw [hms, fz1_t, gate_pos hpl'] at ev
      exact gspecZ (oneZ_ok (frzK_ok 0)) hl2 (k_cons kS_ok k_nil) m_nil Try.func8 (by kernel_rfl) (by kernel_rfl) hL rfl ev
  · have lead : Leads Try.prog (.loop (loopAt Try.f8 0)) (rrS n f lo hi 0 0 fun q => bgc (bOf (f q))) .ret rrR := by
      refine loop_rule (fun k => rrS n f lo hi (k : Nat) k fun q => bgc (bOf (f q))) K .ret _ (by simp) (fun k hk => go k (by omega) (by simpa using hq k hk)) ?_
      refine leads_ev (finR_sub _ _) hl bigK_ok noL_ok ((rr_ret wdB n f lo hi (K : Nat) K _).trans ?_)
      unfold rrT
      rw [dec_lt hK, ixB_t hK, Int.toNat_natCast, show wdB (f K) = true by simpa using hp]
      rfl
    have hL := lok_at (i := 5) (c := bodyOf Try.f8) 0 1 (by kernel_rfl) (by kernel_rfl) (toldN_sound (keep := keepRR) (nils := [(8, 0, 2)]) (nr := .a 44 2 0 fun q => bgc (bOf (f q))) (τ := [none]) lead)
    have hmb : mbI n f = false := allI_f hK hp
    unfold rtB
    rw [hmb]
    have ev := rr_evR n f lo hi fun q => bOf (f q)
    rw [decide_eq_false h5, cond_false, gate_pos (Sub.refl _)] at ev
    exact bad_like (gspec e_nil k_nil Try.func8 (by kernel_rfl) (by kernel_rfl) hL rfl ev)
end Go.Proofs.Ytgijfbcfajhmlaa

namespace Go.Proofs.Ytgijfbcfajhmlaa
open Go.Gv

/-! ### Pick -/
def pk0 (c : Int) : Int := cond (decide (c < 0)) (w64 (0 - w64 (c + 1))) c
def pk (c n : Int) : Int := (pk0 c).tmod n
theorem pick_ev (c n : Int) : ev Try.prog [] [] noL Try.f12 [iA c, iA n] ret = cond (decide (c < 0)) (cond ((!(n == 0)) && true) (some (Out.of (iA ((w64 (0 - w64 (c + 1))).tmod n)))) none) (cond ((!(n == 0)) && true) (some (Out.of (iA (c.tmod n)))) none) := by kernel_rfl
theorem pick_spec {c n : Int} (hn : (!(n == 0)) = true) : FSpec Try.prog 12 [iA c, iA n] (iA (pk c n)) := by
  refine gspec e_nil k_nil Try.func12 (by kernel_rfl) (by kernel_rfl) noL_ok rfl ?_
  rw [pick_ev, hn]
  unfold pk pk0
  cases decide (c < 0) <;> rfl
def pkC : List AV → Bool
  | [.x (.int .i64 _), .x (.int .i64 n)] => !(n == 0)
  | _ => false
def pkG (pf : Int → Int → Int) : List AV → AV
  | [.x (.int .i64 c), .x (.int .i64 n)] => iA (pf c n)
  | _ => .any
def kPick (pf : Int → Int → Int) : KEntry := kIf 12 pkC (pkG pf)
theorem kPick_ok : KOk Try.prog (kPick pk) := kIf_ok fun args h => by
  unfold pkC at h
  split at h
  · exact pick_spec h
  · cases h
theorem pk_nat {c : Int} {n : Nat} (hc : (Lit.int .i64 c).wf = true) (hn : 0 < n) : ∃ k : Nat, pk c n = k ∧ k < n := by
  have h0 : ∃ m : Nat, pk0 c = m := by
    have hr : -9223372036854775808 ≤ c ∧ c ≤ 9223372036854775807 := by
      simp [Lit.wf, IntKind.min, IntKind.max, IntKind.signed, IntKind.bits] at hc
      omega
    unfold pk0
    by_cases h : c < 0
    · rw [decide_eq_true h]
      simp only [cond_true]
      rw [w64_id (n := c + 1) (by omega) (by omega), w64_id (by omega) (by omega)]
      exact ⟨(0 - (c + 1)).toNat, by omega⟩
    · rw [decide_eq_false h]
      exact ⟨c.toNat, by simp only [cond_false]; omega⟩
  obtain ⟨m, hm⟩ := h0
  refine ⟨m % n, ?_, Nat.mod_lt _ hn⟩
  unfold pk
  rw [hm, ← Int.ofNat_tmod]
end Go.Proofs.Ytgijfbcfajhmlaa

namespace Go.Proofs.Ytgijfbcfajhmlaa
open Go.Gv

/-- Some loops are told. -/
def lsL : List (Nat × LFun) → Nat → Option LFun
  | [], _ => none
  | (i, g) :: r, j => cond (Nat.beq j i) (some g) (lsL r j)
theorem lok_nil {P : Program} {c : Code} : LOk P (lsL []) c := fun _ _ _ _ _ hf => by cases hf
theorem lok_cons {P : Program} {c : Code} {i : Nat} {g : LFun} {r : List (Nat × LFun)} (hg : LOk P (oneL i g) c) (hr : LOk P (lsL r) c) : LOk P (lsL ((i, g) :: r)) c := by
  intro c' hc j f hj hf
  unfold lsL at hf
  cases hb : Nat.beq j i
  · rw [hb] at hf
    exact hr c' hc j f hj hf
  · rw [hb] at hf
    refine hg c' hc j f hj ?_
    unfold oneL
    rw [hb]
    exact hf
def tcA (n : Nat) (p : Nat → Int) (lo sp at' i : Int) (m : Nat) (Y : Nat → List AV) : St := mkS 181 [(0, sJ n p), (1, iA lo), (2, iA sp), (3, iA at'), (11, .osl 0 1 0 m), (12, iA i)] [.a 3 1 m Y]
def keepTA : List Nat := [0, 1, 2, 3, 11, 12]
def tcB (n : Nat) (q : Nat → Int) (lo sp at' : Int) (m : Nat) (A : Nat → Int) (i : Int) : St := mkS 181 [(1, iA lo), (2, iA sp), (3, iA at'), (11, sJ n q), (13, sJ m A), (15, iA i)] []
def keepTB : List Nat := [1, 2, 3, 11, 13, 15]
def tcD (n : Nat) (q : Nat → Int) (m : Nat) (A : Nat → Int) (x i : Int) : St := mkS 181 [(11, sJ n q), (13, sJ m A), (16, iA x), (17, iA i)] []
def keepTD : List Nat := [11, 13, 16, 17]
def tcR : St := mkS 181 [(8, bA true)] []
def tcE (n : Nat) (q : Nat → Int) (s t : Int) (z : Bool) (i : Int) : St := mkS 181 [(11, sJ n q), (18, iA s), (19, iA t), (20, bA z), (21, iA i)] []
def keepTE : List Nat := [11, 18, 19, 20, 21]
section
variable (n : Nat) (p q : Nat → Int) (lo sp at' i : Int) (m : Nat) (A : Nat → Int) (Y : Nat → List AV) (pf : Int → Int → Int)
def tcQ : Int := w64 (pf (p i.toNat) 2001 - 1000)
theorem tcA_step : evC Try.prog [] [kPick pf] noL (loopAt Try.f6 0) (tcA n p lo sp at' i m Y) (finN keepTA [some 2]) =
    cond (decide (i < (n : Int))) (cond (ixB i n || false) (cond (apB m 8 || false) (some ⟨.normal, tcA n p lo sp at' (w64 (i + 1)) (m + 1) (fun q => mixL (Nat.blt q m) (Y q) [iA (tcQ p i pf)]), .any⟩) none) none) none := by kernel_rfl
theorem tcA_end : evC Try.prog [] [kPick pf] noL (loopAt Try.f6 0) (tcA n p lo sp at' i m Y) (finE keepTA [some 0]) =
    cond (decide (i < (n : Int))) (cond (ixB i n || false) (cond (apB m 8 || false) none none) none) (some ⟨.exit 0, tcA n p lo sp at' i m Y, .any⟩) := by kernel_rfl
variable (x s t : Int) (z : Bool)
def tdC : Bool := cond (A i.toNat == x) true (A i.toNat == w64 (x + 1))
def tdX : Bool := ixB i m || !(decide ((A i.toNat == x) = false) && true)
theorem tcD_step : evC Try.prog [] [] noL (loopAt Try.f6 2) (tcD n q m A x i) (finN keepTD []) =
    cond (decide (i < (m : Int))) (cond (ixB i m || false) (cond (tdX i m A x) (cond (tdC i A x) none (some ⟨.normal, tcD n q m A x (w64 (i + 1)), .any⟩)) none) none) none := by kernel_rfl
theorem tcD_ret : evC Try.prog [] [] noL (loopAt Try.f6 2) (tcD n q m A x i) (finR [8] []) =
    cond (decide (i < (m : Int))) (cond (ixB i m || false) (cond (tdX i m A x) (cond (tdC i A x) (some ⟨.ret, tcR, .any⟩) none) none) none) none := by kernel_rfl
theorem tcD_end : evC Try.prog [] [] noL (loopAt Try.f6 2) (tcD n q m A x i) (finE keepTD []) =
    cond (decide (i < (m : Int))) (cond (ixB i m || false) (cond (tdX i m A x) (cond (tdC i A x) none none) none) none) (some ⟨.exit 4, tcD n q m A x i, .any⟩) := by kernel_rfl
theorem tcE_step : evC Try.prog [] [] noL (loopAt Try.f6 3) (tcE n q s t z i) (finN keepTE []) =
    cond (decide (i < (n : Int))) (cond (ixB i n || !(decide (z = true) && true)) (some ⟨.normal, tcE n q s t (cond z (q i.toNat == 0) false) (w64 (i + 1)), .any⟩) none) none := by kernel_rfl
theorem tcE_end : evC Try.prog [] [] noL (loopAt Try.f6 3) (tcE n q s t z i) (finE keepTE []) =
    cond (decide (i < (n : Int))) (cond (ixB i n || !(decide (z = true) && true)) none none) (some ⟨.exit 6, tcE n q s t z i, .any⟩) := by kernel_rfl
end
end Go.Proofs.Ytgijfbcfajhmlaa

namespace Go.Proofs.Ytgijfbcfajhmlaa
open Go.Gv

section
variable (n : Nat) (q : Nat → Int) (lo sp at' : Int) (m : Nat) (A : Nat → Int) (i : Int)
def tb1 : Bool := decide (A i.toNat < lo)
def tb2 : Bool := cond (tb1 lo A i) true (decide (A i.toNat > w64 (lo + sp)))
def tb3 : Bool := cond (tb2 lo sp A i) true (cond (decide (i > 0)) (decide (A i.toNat < A (w64 (i - 1)).toNat)) false)
def tbC : Bool := (ixB i m || false) && ((ixB i m || !(decide (tb1 lo A i = false) && true)) && ((ixB i m || !(decide (decide (i > 0) = true) && (decide (tb2 lo sp A i = false) && true))) && ((ixB (w64 (i - 1)) m || !(decide (decide (i > 0) = true) && (decide (tb2 lo sp A i = false) && true))) && true)))
theorem tcB_step : evC Try.prog [] [] noL (loopAt Try.f6 1) (tcB n q lo sp at' m A i) (finN keepTB []) =
    cond (decide (i < (m : Int))) (cond (tbC lo sp m A i) (cond (tb3 lo sp A i) none (some ⟨.normal, tcB n q lo sp at' m A (w64 (i + 1)), .any⟩)) none) none := by kernel_rfl
theorem tcB_end : evC Try.prog [] [] noL (loopAt Try.f6 1) (tcB n q lo sp at' m A i) (finE keepTB []) =
    cond (decide (i < (m : Int))) (cond (tbC lo sp m A i) (cond (tb3 lo sp A i) none none) none) (some ⟨.exit 2, tcB n q lo sp at' m A i, .any⟩) := by kernel_rfl
end
def lenA : AV → Nat
  | .sl _ n _ => n
  | _ => 0
def hdI : List AV → Int
  | [x] => decI x
  | _ => 0
def elI : AV → Nat → Int
  | .sl _ _ el => fun i => hdI (el i)
  | _ => fun _ => 0
def b2' : List AV → AV
  | [_, _, x] => x
  | _ => .any
def b1' : List AV → AV
  | _ :: x :: _ => x
  | _ => .any
abbrev RF : Type := Nat → (Nat → Int) → Int → Int → List Int × Int
abbrev TF : Type := Nat → (Nat → Int) → Int → Int
def gRt (rf : RF) (l : List AV) : AV := rtA (rf (lenA (a0 l)) (elI (a0 l)) (decI (b1' l)) (decI (b2' l)))
def gTf (tf : TF) (l : List AV) : AV := iA (tf (lenA (a0 l)) (elI (a0 l)) (decI (b1' l)))
noncomputable def tcK (rf : RF) (tf : TF) (pf : Int → Int → Int) : List KEntry := [kPick pf, kS Try.prog 7 (gRt rf), kS Try.prog 13 (gTf tf)]
def sl3 : AV := .sl 1 3 (chunk [iA (-1), iA 0, iA 1] 1)
section
variable (rf : RF) (tf : TF) (pf : Int → Int → Int) (n : Nat) (p : Nat → Int) (lo sp at' : Int) (Q : Nat → Int)
def tO1 : List Int × Int := rf 3 (elI sl3) (-65536) 65536
def tl1 (k : Nat) : Int := (tO1 rf).1.getD k 0
def tn1 : Nat := (tO1 rf).1.length
def tc1 : Bool := !((tO1 rf).2 == 0)
def tc2 : Bool := cond (tc1 rf) true (!((tn1 rf : Int) == 2))
def tc3 : Bool := cond (tc2 rf) true (!(tl1 rf (0 : Int).toNat == -65536))
def tc4 : Bool := cond (tc3 rf) true (!(tl1 rf (1 : Int).toNat == 65536))
noncomputable def tcHead (x : Option Out) : Option Out := cond (fz1 3) (gate (FSpec Try.prog 7 [sl3, iA (-65536), iA 65536] (rtA (tO1 rf))) (cond (ixB 0 (tn1 rf) || !(decide (tc2 rf = false) && true)) (cond (ixB 1 (tn1 rf) || !(decide (tc3 rf = false) && true)) (cond (tc4 rf) (some (Out.of (bA false))) x) none) none)) none
theorem tc_ev0 : evZ Try.prog [] (tcK rf tf pf) [] (lsL [(8, fun _ _ => none)]) (twoZ 1001 (frzK 0) 13 (frzK 0)) Try.f6 [sJ n p, iA lo, iA sp, iA at'] ret =
    tcHead rf (cond (cond (decide ((n : Int) < 1)) true (decide ((n : Int) > 5))) (some (Out.of (bA true))) none) := by kernel_rfl
def tcLo : Int := w64 (pf lo 4000 - 2000)
def tcSp : Int := w64 (1 + pf sp 3000)
def tcHi : Int := w64 (tcLo pf lo + tcSp pf sp)
def tO2 : List Int × Int := rf n Q (tcLo pf lo) (tcHi pf lo sp)
def tcX : Int := w64 (tcLo pf lo + pf at' (tcSp pf sp))
def tcA2 (k : Nat) : Int := (tO2 rf pf n lo sp Q).1.getD k 0
def tcM2 : Nat := (tO2 rf pf n lo sp Q).1.length
variable (i' j' : Int)
noncomputable def l1 : LFun := toldN keepTA [(11, 0, 1)] (.a 3 1 0 fun k => [iA (Q k)]) [none] (tcA n p lo sp at' 0 0 fun k => [iA (Q k)]) (.exit 0) (tcA n p lo sp at' (n : Nat) n fun k => [iA (Q k)])
noncomputable def l2 : LFun := toldF keepTB [] (tcB n Q (tcLo pf lo) (tcSp pf sp) at' (tcM2 rf pf n lo sp Q) (tcA2 rf pf n lo sp Q) 0) (.exit 2) (tcB n Q (tcLo pf lo) (tcSp pf sp) at' (tcM2 rf pf n lo sp Q) (tcA2 rf pf n lo sp Q) i')
noncomputable def l3e : LFun := toldF keepTD [] (tcD n Q (tcM2 rf pf n lo sp Q) (tcA2 rf pf n lo sp Q) (tcX pf lo sp at') 0) (.exit 4) (tcD n Q (tcM2 rf pf n lo sp Q) (tcA2 rf pf n lo sp Q) (tcX pf lo sp at') i')
noncomputable def l3r : LFun := toldF keepTD [] (tcD n Q (tcM2 rf pf n lo sp Q) (tcA2 rf pf n lo sp Q) (tcX pf lo sp at') 0) .ret tcR
def tS : Int := tf n Q (tcX pf lo sp at')
def tT : Int := tf n Q (w64 (tcX pf lo sp at' + 1))
variable (z : Bool)
noncomputable def l4 : LFun := toldF keepTE [] (tcE n Q (tS tf pf n lo sp at' Q) (tT tf pf n lo sp at' Q) true 1) (.exit 6) (tcE n Q (tS tf pf n lo sp at' Q) (tT tf pf n lo sp at' Q) z j')
noncomputable def tcMid (x : Option Out) : Option Out := tcHead rf (cond (cond (decide ((n : Int) < 1)) true (decide ((n : Int) > 5))) (some (Out.of (bA true))) (gate (Sub (tcA n p lo sp at' 0 0 fun k => [iA (Q k)]) (tcA n p lo sp at' 0 0 fun k => [iA (Q k)])) (cond (fz1 n) (gate (FSpec Try.prog 7 [sJ n Q, iA (tcLo pf lo), iA (tcHi pf lo sp)] (rtA (tO2 rf pf n lo sp Q))) (cond (!((tO2 rf pf n lo sp Q).2 == 0)) (some (Out.of (bA false))) (gate (Sub (tcB n Q (tcLo pf lo) (tcSp pf sp) at' (tcM2 rf pf n lo sp Q) (tcA2 rf pf n lo sp Q) 0) (tcB n Q (tcLo pf lo) (tcSp pf sp) at' (tcM2 rf pf n lo sp Q) (tcA2 rf pf n lo sp Q) 0)) (cond (!(tcSp pf sp == 0)) (gate (Sub (tcD n Q (tcM2 rf pf n lo sp Q) (tcA2 rf pf n lo sp Q) (tcX pf lo sp at') 0) (tcD n Q (tcM2 rf pf n lo sp Q) (tcA2 rf pf n lo sp Q) (tcX pf lo sp at') 0)) x) none)))) none)))
theorem tc_evR : evZ Try.prog [] (tcK rf tf pf) [] (lsL [(8, l1 n p lo sp at' Q), (17, l2 rf pf n lo sp at' Q i'), (23, l3r rf pf n lo sp at' Q)]) (twoZ 1001 (frzK 0) 13 (frzK 0)) Try.f6 [sJ n p, iA lo, iA sp, iA at'] ret =
    tcMid rf pf n p lo sp at' Q (some (Out.of (bA true))) := by kernel_rfl
noncomputable def tcTail : Option Out := gate (FSpec Try.prog 13 [sJ n Q, iA (tcX pf lo sp at')] (iA (tS tf pf n lo sp at' Q))) (gate (FSpec Try.prog 13 [sJ n Q, iA (w64 (tcX pf lo sp at' + 1))] (iA (tT tf pf n lo sp at' Q))) (gate (Sub (tcE n Q (tS tf pf n lo sp at' Q) (tT tf pf n lo sp at' Q) true 1) (tcE n Q (tS tf pf n lo sp at' Q) (tT tf pf n lo sp at' Q) true 1)) (some (Out.of (bA (cond z true (cond (!(tS tf pf n lo sp at' Q == 0)) (tS tf pf n lo sp at' Q == tT tf pf n lo sp at' Q) false)))))))
theorem tc_evE : evZ Try.prog [] (tcK rf tf pf) [] (lsL [(8, l1 n p lo sp at' Q), (17, l2 rf pf n lo sp at' Q i'), (23, l3e rf pf n lo sp at' Q i'), (31, l4 tf pf n lo sp at' Q j' z)]) (twoZ 1001 (frzK 0) 13 (frzK 0)) Try.f6 [sJ n p, iA lo, iA sp, iA at'] ret =
    tcMid rf pf n p lo sp at' Q (tcTail tf pf n lo sp at' Q z) := by kernel_rfl
end
end Go.Proofs.Ytgijfbcfajhmlaa

namespace Go.Proofs.Ytgijfbcfajhmlaa
open Go.Gv
open Go.Sturm (hq)

/-- What the law asks of the places. -/
structure CertOk (L : List Int) (lo hi : Int) : Prop where
  rng : ∀ y, y ∈ L → lo ≤ y ∧ y ≤ hi
  srt : L.Pairwise (· ≤ ·)
theorem CertOk.at {L : List Int} {lo hi : Int} (h : CertOk L lo hi) {i : Nat} (hi' : i < L.length) : lo ≤ L.getD i 0 ∧ L.getD i 0 ≤ hi := by
  rw [List.getD_eq_getElem?_getD, List.getElem?_eq_getElem hi']
  exact h.rng _ (List.getElem_mem hi')
theorem CertOk.step {L : List Int} {lo hi : Int} (h : CertOk L lo hi) {i : Nat} (hi' : i + 1 < L.length) : L.getD i 0 ≤ L.getD (i + 1) 0 := by
  rw [List.getD_eq_getElem?_getD, List.getD_eq_getElem?_getD, List.getElem?_eq_getElem hi', List.getElem?_eq_getElem (by omega)]
  exact List.pairwise_iff_getElem.1 h.srt i (i + 1) (by omega) hi' (by omega)
theorem mem_getD {L : List Int} {y : Int} (h : y ∈ L) : ∃ i, i < L.length ∧ L.getD i 0 = y := by
  obtain ⟨i, hi, e⟩ := List.getElem_of_mem h
  exact ⟨i, hi, by rw [List.getD_eq_getElem?_getD, List.getElem?_eq_getElem hi]; exact e⟩
section
variable {p : Ply} (h2 : 2 ≤ p.1) (hc : Cn p.1 p.2) (ht : Tp p) {lo hi : Int} (hlh : lo ≤ hi)
include h2 hc ht hlh
theorem plcP_ok : CertOk (plcP p lo hi) lo hi := by
  rw [plcP_can h2 hc ht hlh]
  refine ⟨fun y hy => ?_, ?_⟩
  · rcases List.mem_append.1 hy with h | h
    · have := mem_can.1 h; omega
    · split at h
      · have := List.mem_singleton.1 h; omega
      · cases h
  · rw [List.pairwise_append]
    refine ⟨can_sorted _ _ _, ?_, fun x hx y hy => ?_⟩
    · split
      · exact List.pairwise_singleton _ _
      · exact List.Pairwise.nil
    · have := mem_can.1 hx
      split at hy
      · have := List.mem_singleton.1 hy; omega
      · cases hy
theorem plcP_none {x : Int} (h1 : lo ≤ x) (h3 : x < hi) (g1 : x ∉ plcP p lo hi) (g2 : x + 1 ∉ plcP p lo hi) : hor (finP p).2 x 0 (finP p).1 ≠ 0 ∧ hor (finP p).2 (x + 1) 0 (finP p).1 ≠ 0 ∧ (hor (finP p).2 x 0 (finP p).1).sign = (hor (finP p).2 (x + 1) 0 (finP p).1).sign := by
  rw [plcP_can h2 hc ht hlh] at g1 g2
  have hF2 : 2 ≤ (finP p).1 := h2
  have hFc : Cn (finP p).1 (finP p).2 := fin_Cn hc
  have hFt := fin_Tp ht
  have m1 := rt_mono hF2 hFc hFt (show x ≤ x + 1 by omega)
  have n1 : rtN (finP p) x = rtN (finP p) (x + 1) := by
    rcases Int.lt_or_le 0 (rtN (finP p) x - rtN (finP p) (x + 1)) with h | h
    · exact absurd (List.mem_append.2 (Or.inl (mem_can.2 ⟨h1, by omega, h⟩))) g1
    · omega
  have a1 := rt_ab hF2 hFc hFt x
  have d1 := rt_down hF2 hFc hFt (show x < x + 1 by omega)
  have z1 : hor (finP p).2 x 0 (finP p).1 ≠ 0 := fun e => by rw [if_pos e] at a1; omega
  have a2 := rt_ab hF2 hFc hFt (x + 1)
  have z2 : hor (finP p).2 (x + 1) 0 (finP p).1 ≠ 0 := fun e => by
    rw [if_pos e] at a2
    by_cases hx : x + 1 < hi
    · have d2 := rt_down hF2 hFc hFt (show x + 1 < x + 1 + 1 by omega)
      exact g2 (List.mem_append.2 (Or.inl (mem_can.2 ⟨by omega, by omega, by omega⟩)))
    · obtain rfl : hi = x + 1 := by omega
      refine g2 (List.mem_append.2 (Or.inr ?_))
      rw [if_pos (by omega)]
      exact List.mem_singleton.2 rfl
  refine ⟨z1, z2, ?_⟩
  rw [← sgSd_of hF2 hFt z1, ← sgSd_of hF2 hFt z2]
  exact rt_same hF2 hFc hFt (by omega) n1
end
theorem hor_longer {Q : Nat → Int} {k n : Nat} (hc : Cn k Q) (hk : k ≤ n) (x : Int) : hor (pfin Q n) x 0 n = hor (pfin Q k) x 0 k * 65536 ^ (n - k) := by
  have e : pfin Q n = fun q => pfin Q k q * 65536 ^ (n - k) := funext fun q => by
    unfold pfin
    by_cases h : q < k
    · rw [show n - 1 - q = k - 1 - q + (n - k) by omega, Int.pow_add, Int.mul_assoc]
    · rw [hc q (by omega), Int.zero_mul, Int.zero_mul, Int.zero_mul]
  have h2 : ((hor (pfin Q n) x 0 n : Int) : Rat) = ((hor (pfin Q k) x 0 k * 65536 ^ (n - k) : Int) : Rat) := by
    rw [← hq_hor, Rat.intCast_mul, ← hq_hor, e, Go.Sturm.hq_smul, Go.Sturm.hq_len (n := k) (m := n) (fun j hj => by show Q j * _ = 0; rw [hc j hj, Int.zero_mul]) hk]
  exact Rat.intCast_inj.1 h2
theorem sign_longer {Q : Nat → Int} {k n : Nat} (hc : Cn k Q) (hk : k ≤ n) (x : Int) : (hor (pfin Q n) x 0 n).sign = (hor (pfin Q k) x 0 k).sign := by
  rw [hor_longer hc hk, Int.sign_mul]
  have : (0 : Int) < 65536 ^ (n - k) := Int.pow_pos (by decide)
  rw [Int.sign_eq_one_of_pos this, Int.mul_one]
end Go.Proofs.Ytgijfbcfajhmlaa

namespace Go.Proofs.Ytgijfbcfajhmlaa
open Go.Gv

def rA (M : Nat) (P : Nat → Int) : Row := .a 3 1 M fun q => [iA (P q)]
def tqI (n : Nat) (l : Nat → Int) (lo hi i r : Int) (M : Nat) (P : Nat → Int) (K : Nat) (Q : Nat → Int) (j : Int) : St := mkS 138 [(0, sJ n l), (1, iA lo), (2, iA hi), (9, .osl 0 1 0 M), (10, iA i), (11, iA r), (12, .osl 1 1 0 K), (13, iA j)] [rA M P, rA K Q]
def keepTqI : List Nat := [0, 1, 2, 9, 10, 11, 12, 13]
def tqO (n : Nat) (l : Nat → Int) (lo hi i : Int) (M : Nat) (P : Nat → Int) : St := mkS 138 [(0, sJ n l), (1, iA lo), (2, iA hi), (9, .osl 0 1 0 M), (10, iA i)] [rA M P]
def keepTqO : List Nat := [0, 1, 2, 9, 10]
def tqH (n : Nat) (l : Nat → Int) (hi : Int) (m : Nat) (A : Nat → Int) (k x : Int) (t : Bool) (i : Int) : St := mkS 138 [(0, sJ n l), (2, iA hi), (14, sJ m A), (16, iA k), (17, iA x), (18, bA t), (19, iA i)] []
def keepTqH : List Nat := [0, 2, 14, 16, 17, 18, 19]
def tqX (n : Nat) (l : Nat → Int) (hi : Int) (m : Nat) (A : Nat → Int) (k x : Int) : St := mkS 138 [(0, sJ n l), (2, iA hi), (14, sJ m A), (16, iA k), (17, iA x)] []
def keepTqX : List Nat := [0, 2, 14, 16, 17]
section
variable (n : Nat) (l : Nat → Int) (lo hi i r : Int) (M : Nat) (P : Nat → Int) (K : Nat) (Q : Nat → Int) (j : Int)
def tqC (k : Int) : Bool := (ixB k K || false) && (stU k.toNat K && ((ixB j M || false) && (stU j.toNat M && stB k K)))
def tqV1 : Int := w64 (Q (0 + j.toNat) - w64 (r * P (0 + j.toNat)))
def tqQ1 (q : Nat) : Int := cond (q == 0 + j.toNat) (tqV1 r P Q j) (Q q)
def tqV2 : Int := w64 (tqQ1 r P Q j (0 + (w64 (j + 1)).toNat) + P (0 + j.toNat))
def tqQ2 (q : Nat) : Int := cond (q == 0 + (w64 (j + 1)).toNat) (tqV2 r P Q j) (tqQ1 r P Q j q)
theorem tqI_step : evC Try.prog [] [] noL (loopAt Try.f5 1) (tqI n l lo hi i r M P K Q j) (finN keepTqI [some 0, some 1]) =
    cond (decide (j < (M : Int))) (cond (tqC M K j j) (cond (tqC M K j (w64 (j + 1))) (some ⟨.normal, tqI n l lo hi i r M P K (tqQ2 r P Q j) (w64 (j + 1)), .any⟩) none) none) none := by kernel_rfl
theorem tqI_end : evC Try.prog [] [] noL (loopAt Try.f5 1) (tqI n l lo hi i r M P K Q j) (finE keepTqI [some 0, some 1]) =
    cond (decide (j < (M : Int))) (cond (tqC M K j j) (cond (tqC M K j (w64 (j + 1))) none none) none) (some ⟨.exit 2, tqI n l lo hi i r M P K Q j, .any⟩) := by kernel_rfl
def mk8 (n : Int) : Bool := decide (0 ≤ n) && (decide (n ≤ n) && decide (((8 : Nat) : Int) * n ≤ 281474976710656))
noncomputable def tqL (Q1 : Nat → Int) : Nat → Option LFun := oneL 10 (toldF keepTqI [some 0, some 1] (tqI n l lo hi i r M P K (fun _ => 0) 0) (.exit 2) (tqI n l lo hi i r M P K Q1 (M : Nat)))
def tqR (pf : Int → Int → Int) : Int := w64 (pf (l i.toNat) 101 - 50)
noncomputable def tqT (pf : Int → Int → Int) (x z : Option Out) : Option Out := cond (decide (i < (n : Int))) (cond (ixB i n || false) (cond (mk8 (w64 ((M : Int) + 1)) || false) (gate (Sub (tqI n l lo hi i (tqR l i pf) M P (w64 ((M : Int) + 1)).toNat (fun _ => 0) 0) (tqI n l lo hi i r M P K (fun _ => 0) 0)) x) none) none) z
theorem tqO_step (pf : Int → Int → Int) (Q1 : Nat → Int) : evC Try.prog [] [kPick pf] (tqL n l lo hi i r M P K Q1) (loopAt Try.f5 0) (tqO n l lo hi i M P) (finN keepTqO [some 1]) =
    tqT n l lo hi i r M P K pf (some ⟨.normal, tqO n l lo hi (w64 (i + 1)) K Q1, .any⟩) none := by kernel_rfl
theorem tqO_end (pf : Int → Int → Int) : evC Try.prog [] [kPick pf] (oneL 10 fun _ _ => none) (loopAt Try.f5 0) (tqO n l lo hi i M P) (finE keepTqO [some 0]) =
    cond (decide (i < (n : Int))) (cond (ixB i n || false) (cond (mk8 (w64 ((M : Int) + 1)) || false) none none) none) (some ⟨.exit 0, tqO n l lo hi i M P, .any⟩) := by kernel_rfl
end
section
variable (n : Nat) (l : Nat → Int) (hi : Int) (m : Nat) (A : Nat → Int) (k x : Int) (t : Bool) (i : Int)
theorem tqH_step (pf : Int → Int → Int) : evC Try.prog [] [kPick pf] noL (loopAt Try.f5 3) (tqH n l hi m A k x t i) (finN keepTqH []) =
    cond (decide (i < (n : Int))) (cond (ixB i n || !(decide (t = false) && true)) (some ⟨.normal, tqH n l hi m A k x (cond t true (tqR l i pf == x)) (w64 (i + 1)), .any⟩) none) none := by kernel_rfl
theorem tqH_end (pf : Int → Int → Int) : evC Try.prog [] [kPick pf] noL (loopAt Try.f5 3) (tqH n l hi m A k x t i) (finE keepTqH []) =
    cond (decide (i < (n : Int))) (cond (ixB i n || !(decide (t = false) && true)) none none) (some ⟨.exit 6, tqH n l hi m A k x t i, .any⟩) := by kernel_rfl
noncomputable def thL : Nat → Option LFun := oneL 26 (toldF keepTqH [] (tqH n l hi m A k x false 0) (.exit 6) (tqH n l hi m A k x t (n : Nat)))
def thE : Bool := decide (k ≥ (m : Int))
def thF : Bool := cond (thE m k) true (!(A k.toNat == w64 (65536 * x)))
noncomputable def thT (r o z : Option Out) : Option Out := cond (decide (x ≤ hi)) (gate (Sub (tqH n l hi m A k x false 0) (tqH n l hi m A k x false 0)) (cond t (cond (ixB k m || !(decide (thE m k = false) && true)) (cond (thF m A k x) none r) none) o)) z
theorem tqX_step : evC Try.prog [] [] (thL n l hi m A k x t) (loopAt Try.f5 2) (tqX n l hi m A k x) (finN keepTqX []) =
    thT n l hi m A k x t (some ⟨.normal, tqX n l hi m A (w64 (k + 1)) (w64 (x + 1)), .any⟩) (some ⟨.normal, tqX n l hi m A k (w64 (x + 1)), .any⟩) none := by kernel_rfl
theorem tqX_end : evC Try.prog [] [] (oneL 26 fun _ _ => none) (loopAt Try.f5 2) (tqX n l hi m A k x) (finE keepTqX []) =
    cond (decide (x ≤ hi)) none (some ⟨.exit 4, tqX n l hi m A k x, .any⟩) := by kernel_rfl
end
end Go.Proofs.Ytgijfbcfajhmlaa

namespace Go.Proofs.Ytgijfbcfajhmlaa
open Go.Gv

def tqO0 (n : Nat) (l : Nat → Int) (lo hi c : Int) : St := mkS 138 [(0, sJ n l), (1, iA lo), (2, iA hi), (9, .osl 0 1 0 1), (10, iA 0)] [.a 3 1 1 (chunk [iA c] 1)]
def pk120 (pf : Int → Int → Int) (lo : Int) : Int := w64 (pf lo 120 - 60)
section
variable (n : Nat) (l : Nat → Int) (lo hi k : Int) (M : Nat) (P : Nat → Int) (pf : Int → Int → Int) (m : Nat) (A : Nat → Int) (e : Int) (c kf xf : Int)
noncomputable def tqTail : Option Out := cond (fz1 M) (gate (FSpec Try.prog 7 [sJ M P, iA (w64 (65536 * pk120 pf lo)), iA (w64 (65536 * pk120 pf hi))] (.tup [sJ m A, iA e])) (cond (!(e == 0)) (some (Out.of (bA false))) (gate (Sub (tqX n l (pk120 pf hi) m A 0 (pk120 pf lo)) (tqX n l (pk120 pf hi) m A 0 (pk120 pf lo))) (some (Out.of (bA (kf == (m : Int)))))))) none
theorem tq_ev : evZ Try.prog [] [kPick pf, kS Try.prog 7 (fun _ => .tup [sJ m A, iA e])] [] (twoL 5 (toldF keepTqO [some 0] (tqO n l lo hi 0 1 (fun _ => c)) (.exit 0) (tqO n l lo hi (n : Nat) M P)) 22 (toldF keepTqX [] (tqX n l (pk120 pf hi) m A 0 (pk120 pf lo)) (.exit 4) (tqX n l (pk120 pf hi) m A kf xf))) (oneZ 17 (frzK 0)) Try.f5 [sJ n l, iA lo, iA hi, iA k] ret =
    cond (decide ((n : Int) > 4)) (some (Out.of (bA true))) (gate (Sub (tqO0 n l lo hi (w64 (1 + pf k 9))) (tqO n l lo hi 0 1 (fun _ => c))) (tqTail n l lo hi M P pf m A e kf)) := by kernel_rfl
end
end Go.Proofs.Ytgijfbcfajhmlaa

namespace Go.Proofs.Ytgijfbcfajhmlaa
open Go.Gv
open Go.Sturm (Nest Pol hq cA cB)

/-- Times (x - r). -/
def pstep (r : Int) (P : Nat → Int) (q : Nat) : Int := (if 1 ≤ q then P (q - 1) else 0) - r * P q
def prd (c : Int) (rs : Nat → Int) : Nat → Nat → Int
  | 0 => fun q => if q = 0 then c else 0
  | i + 1 => pstep (rs i) (prd c rs i)
theorem pstep_Cn {r : Int} {P : Nat → Int} {M : Nat} (h : Cn M P) : Cn (M + 1) (pstep r P) := fun q hq => by
  unfold pstep
  rw [if_pos (by omega), h (q - 1) (by omega), h q (by omega), Int.mul_zero]
  rfl
theorem prd_Cn (c : Int) (rs : Nat → Int) : ∀ i, Cn (i + 1) (prd c rs i)
  | 0 => fun q hq => by show (if q = 0 then c else 0) = 0; rw [if_neg (by omega)]
  | i + 1 => pstep_Cn (prd_Cn c rs i)
theorem prd_top (c : Int) (rs : Nat → Int) : ∀ i, prd c rs i i = c
  | 0 => rfl
  | i + 1 => by
    show (if 1 ≤ i + 1 then prd c rs i (i + 1 - 1) else 0) - rs i * prd c rs i (i + 1) = c
    rw [if_pos (by omega), Nat.add_sub_cancel, prd_top c rs i, prd_Cn c rs i (i + 1) (by omega), Int.mul_zero, Int.sub_zero]
theorem abs_mul_le {a b : Int} {A B : Nat} (ha : a.natAbs ≤ A) (hb : b.natAbs ≤ B) : (a * b).natAbs ≤ A * B := by
  rw [Int.natAbs_mul]; exact Nat.mul_le_mul ha hb
theorem prd_bd {c : Int} {rs : Nat → Int} (hc : c.natAbs ≤ 9) : ∀ i, (∀ j, j < i → (rs j).natAbs ≤ 50) → ∀ q, (prd c rs i q).natAbs ≤ 9 * 51 ^ i
  | 0, _, q => by
    show (if q = 0 then c else 0).natAbs ≤ 9 * 51 ^ 0
    split <;> simp <;> omega
  | i + 1, h, q => by
    have ih := prd_bd hc i (fun j hj => h j (by omega))
    have h1 := abs_mul_le (h i (by omega)) (ih q)
    have h2 : (if 1 ≤ q then prd c rs i (q - 1) else 0).natAbs ≤ 9 * 51 ^ i := by
      split
      · exact ih _
      · exact Nat.zero_le _
    show ((if 1 ≤ q then prd c rs i (q - 1) else 0) - rs i * prd c rs i q).natAbs ≤ 9 * 51 ^ (i + 1)
    generalize (if 1 ≤ q then prd c rs i (q - 1) else 0) = a at *
    generalize rs i * prd c rs i q = b at *
    rw [Nat.pow_succ]
    generalize 51 ^ i = t at *
    omega
theorem prd_bd4 {c : Int} {rs : Nat → Int} (hc : c.natAbs ≤ 9) {i : Nat} (hi : i ≤ 4) (h : ∀ j, j < i → (rs j).natAbs ≤ 50) (q : Nat) : (prd c rs i q).natAbs ≤ 60886809 := by
  refine Nat.le_trans (prd_bd hc i h q) ?_
  have : 51 ^ i ≤ 51 ^ 4 := Nat.pow_le_pow_right (by decide) hi
  have e : (51 : Nat) ^ 4 = 6765201 := by decide
  omega
/-- Finer: the roots are farther apart. -/
def W6 (rs : Nat → Int) (j : Nat) : Int := 65536 * rs j
theorem prd_fin (c : Int) (rs : Nat → Int) : ∀ i, pfin (prd c rs i) (i + 1) = prd c (W6 rs) i
  | 0 => funext fun q => by
    show (if q = 0 then c else 0) * 65536 ^ (0 + 1 - 1 - q) = if q = 0 then c else 0
    by_cases h : q = 0
    · subst h; rw [if_pos rfl]; exact Int.mul_one c
    · rw [if_neg h, Int.zero_mul]
  | i + 1 => funext fun q => by
    have ih := prd_fin c rs i
    have e : ∀ t, prd c (W6 rs) i t = prd c rs i t * 65536 ^ (i + 1 - 1 - t) := fun t => by rw [← ih]; rfl
    show ((if 1 ≤ q then prd c rs i (q - 1) else 0) - rs i * prd c rs i q) * 65536 ^ (i + 1 + 1 - 1 - q) = (if 1 ≤ q then prd c (W6 rs) i (q - 1) else 0) - W6 rs i * prd c (W6 rs) i q
    rw [e, e, Int.sub_mul]
    congr 1
    · by_cases h : 1 ≤ q
      · rw [if_pos h, if_pos h, show i + 1 + 1 - 1 - q = i + 1 - 1 - (q - 1) by omega]
      · rw [if_neg h, if_neg h, Int.zero_mul]
    · by_cases h : q ≤ i
      · rw [show i + 1 + 1 - 1 - q = i + 1 - 1 - q + 1 by omega, Int.pow_succ]
        unfold W6
        generalize (65536 : Int) ^ (i + 1 - 1 - q) = t
        grind
      · rw [prd_Cn c rs i q (by omega)]
        simp
theorem fn_pstep {r : Int} {P : Nat → Int} {M : Nat} (h : Cn M P) (x : Rat) : fnP (M + 1, pstep r P) x = (x - (r : Rat)) * fnP (M, P) x := by
  have e : pstep r P = fun q => Go.Sturm.sh 1 P q + P q * -r := funext fun q => by
    unfold pstep Go.Sturm.sh
    rw [Int.mul_neg, Int.mul_comm r]
    rfl
  show hq (pstep r P) x 0 (M + 1) = _ * hq P x 0 M
  have e1 := Go.Sturm.hq_shift 1 P x M
  rw [e, Go.Sturm.hq_add (Go.Sturm.sh 1 P) (fun q => P q * -r), Go.Sturm.hq_smul, Nat.add_comm M 1, e1, Go.Sturm.hq_len (n := M) (m := 1 + M) (fun j hj => h j hj) (by omega)]
  show (1 * x) * hq P x 0 M + _ = _
  rw [Rat.intCast_neg]
  grind
/-- One of the roots? -/
def tb (rs : Nat → Int) : Nat → Int → Bool
  | 0, _ => false
  | i + 1, x => cond (tb rs i x) true (rs i == x)
theorem tb_iff {rs : Nat → Int} {x : Int} {i : Nat} : tb rs i x = true ↔ ∃ j, j < i ∧ rs j = x := by
  induction i with
  | zero => exact ⟨fun h => (by cases h), fun h => (by obtain ⟨j, hj, _⟩ := h; omega)⟩
  | succ i ih =>
    show cond (tb rs i x) true (rs i == x) = true ↔ _
    cases h : tb rs i x with
    | true =>
      obtain ⟨j, hj, e⟩ := ih.1 h
      exact ⟨fun _ => ⟨j, by omega, e⟩, fun _ => rfl⟩
    | false =>
      constructor
      · intro h2; exact ⟨i, by omega, eq_of_beq h2⟩
      · intro ⟨j, hj, e⟩
        by_cases hji : j = i
        · subst hji; show (rs j == x) = true; rw [e]; exact BEq.rfl
        · have := ih.2 ⟨j, by omega, e⟩
          rw [h] at this; cases this
theorem fn_prd_zero {c : Int} (hc : c ≠ 0) (w : Nat → Int) (x : Rat) : ∀ i, fnP (i + 1, prd c w i) x = 0 ↔ ∃ j, j < i ∧ x = (w j : Rat)
  | 0 => by
    have e : fnP (0 + 1, prd c w 0) x = (c : Rat) := by show 0 * x + ((c : Int) : Rat) = _; grind
    rw [e]
    exact ⟨fun h => absurd h (cast_ne hc), fun ⟨j, hj, _⟩ => by omega⟩
  | i + 1 => by
    show fnP (i + 1 + 1, pstep (w i) (prd c w i)) x = 0 ↔ _
    rw [fn_pstep (prd_Cn c w i), Rat.mul_eq_zero, fn_prd_zero hc w x i]
    constructor
    · rintro (h | ⟨j, hj, e⟩)
      · exact ⟨i, by omega, by grind⟩
      · exact ⟨j, by omega, e⟩
    · rintro ⟨j, hj, e⟩
      by_cases hji : j = i
      · subst hji; exact Or.inl (by grind)
      · exact Or.inr ⟨j, by omega, e⟩
theorem zr_term {N : Nest} {w : Rat} (h : N.Zr (fun x => x - w)) (n : Nat) : N.In n w := by
  refine ⟨Decidable.byContradiction fun hh => ?_, Decidable.byContradiction fun hh => ?_⟩
  · obtain ⟨m, hm⟩ := h ((N.u n - w) / 2) (by grind)
    have h1 := (hm (N.u (max m n)) (N.in_u (Nat.le_max_left m n))).2
    have h2 := N.u_le (Nat.le_max_right m n)
    grind
  · obtain ⟨m, hm⟩ := h ((w - N.v n) / 2) (by grind)
    have h1 := (hm (N.v (max m n)) (N.in_v (Nat.le_max_left m n))).1
    have h2 := N.v_le (Nat.le_max_right m n)
    grind
theorem zr_prd {c : Int} (hc : c ≠ 0) (w : Nat → Int) {N : Nest} : ∀ i, N.Zr (fnP (i + 1, prd c w i)) → ∃ j, j < i ∧ ∀ n, N.In n (w j : Rat)
  | 0, h => by
    have e : fnP (0 + 1, prd c w 0) = fun _ => (c : Rat) := funext fun x => by show 0 * x + ((c : Int) : Rat) = _; grind
    rw [e] at h
    obtain ⟨M, hM⟩ := Go.Sturm.nest_at 0
    have hne : (c : Rat) ≠ 0 := cast_ne hc
    rcases (show (c : Rat) < 0 ∨ 0 < (c : Rat) by grind) with g | g
    · exact absurd ⟨-(c : Rat), by grind, 0, fun x _ => by grind⟩ h.neg.not_Ps
    · exact absurd ⟨(c : Rat), g, 0, fun x _ => by grind⟩ h.not_Ps
  | i + 1, h => by
    have e : fnP (i + 1 + 1, prd c w (i + 1)) = fun x => (x - (w i : Rat)) * fnP (i + 1, prd c w i) x := funext fun x => fn_pstep (prd_Cn c w i) x
    rw [e] at h
    have hp : Pol (fun x : Rat => x - (w i : Rat)) := by
      have := (Pol.const 1).cons (-(w i : Rat))
      rwa [show (fun x : Rat => -(w i : Rat) + x * 1) = fun x => x - (w i : Rat) from funext fun x => by grind] at this
    rcases Nest.zr_mul hp (fnP_pol _) h with g | g
    · exact ⟨i, by omega, zr_term g⟩
    · obtain ⟨j, hj, hn⟩ := zr_prd hc w i g
      exact ⟨j, by omega, hn⟩
/-! ### The count -/
section
variable {c : Int} {w : Nat → Int} {n : Nat} (hc : c ≠ 0) (hn : 1 ≤ n)
include hc
theorem prd_Tp : Tp (n + 1, prd c w n) := Or.inr (by show prd c w n (n + 1 - 1) ≠ 0; rw [Nat.add_sub_cancel, prd_top]; exact hc)
theorem hor_tb (y : Int) : hor (prd c w n) y 0 (n + 1) = 0 ↔ tb w n y = true := by
  have h := fn_prd_zero hc w (y : Rat) n
  have e : fnP (n + 1, prd c w n) (y : Rat) = ((hor (prd c w n) y 0 (n + 1) : Int) : Rat) := hq_hor _ _ _ _
  rw [e] at h
  constructor
  · intro h0
    obtain ⟨j, hj, e2⟩ := h.1 (by rw [h0]; rfl)
    exact tb_iff.2 ⟨j, hj, (Rat.intCast_inj.1 e2).symm⟩
  · intro h0
    obtain ⟨j, hj, e2⟩ := tb_iff.1 h0
    exact Decidable.byContradiction fun hne => cast_ne hne (h.2 ⟨j, hj, by rw [e2]⟩)
include hn
theorem prd_next (y : Int) : rtC (n + 1, prd c w n) y = rtN (n + 1, prd c w n) (y + 1) := by
  have h2 : 2 ≤ ((n + 1, prd c w n) : Ply).1 := by show 2 ≤ n + 1; omega
  have ht := prd_Tp (w := w) (n := n) hc
  rw [rtN_eq h2 ht, rtC_eq h2 ht]
  have hlt : ((y : Int) : Rat) < ((y + 1 : Int) : Rat) := Rat.intCast_lt_intCast.2 (by omega)
  refine (cq_chain h2 (prd_Cn c w n) ht).none hlt (fun x h1 h3 hz => ?_) fun N hi hz => ?_
  · obtain ⟨j, hj, e⟩ := (fn_prd_zero hc w x n).1 hz
    rw [e] at h1 h3
    have := Rat.intCast_lt_intCast.1 h1
    have := Rat.intCast_lt_intCast.1 h3
    omega
  · obtain ⟨j, hj, hN⟩ := zr_prd hc w n hz
    have h1 : ((y : Int) : Rat) ≤ (w j : Rat) := Rat.le_trans (hi 0).1 (hN 0).1
    have h3 : (w j : Rat) ≤ ((y + 1 : Int) : Rat) := Rat.le_trans (hN 0).2 (hi 0).2
    have h1 := Rat.intCast_le_intCast.1 h1
    have h3 := Rat.intCast_le_intCast.1 h3
    rcases (show w j = y ∨ w j = y + 1 by omega) with e | e <;> rw [e] at hN
    · exact Or.inl hN
    · exact Or.inr hN
theorem prd_diff (y : Int) : rtN (n + 1, prd c w n) y - rtN (n + 1, prd c w n) (y + 1) = cond (tb w n y) 1 0 := by
  have h2 : 2 ≤ ((n + 1, prd c w n) : Ply).1 := by show 2 ≤ n + 1; omega
  have ht := prd_Tp (w := w) (n := n) hc
  have hab := rt_ab h2 (prd_Cn c w n) ht y
  have := prd_next (w := w) hc hn y
  have hh := hor_tb (w := w) (n := n) hc y
  replace hab : rtN (n + 1, prd c w n) y = rtC (n + 1, prd c w n) y + if hor (prd c w n) y 0 (n + 1) = 0 then 1 else 0 := hab
  cases hb : tb w n y
  · rw [if_neg fun h => by rw [hh.1 h] at hb; cases hb] at hab
    show _ = (0 : Int); omega
  · rw [if_pos (hh.2 hb)] at hab
    show _ = (1 : Int); omega
end
/-! ### The list -/
def zl (z : Int → Bool) : Int → Nat → List Int
  | _, 0 => []
  | a, d + 1 => cond (z a) [a] [] ++ zl z (a + 1) d
theorem zl_app (z : Int → Bool) : ∀ (d : Nat) (a : Int) (e : Nat), zl z a (d + e) = zl z a d ++ zl z (a + (d : Nat)) e
  | 0, a, e => by
    rw [Nat.zero_add, show a + ((0 : Nat) : Int) = a by omega]
    rfl
  | d + 1, a, e => by
    rw [show d + 1 + e = d + e + 1 by omega]
    show _ ++ zl z (a + 1) (d + e) = (_ ++ zl z (a + 1) d) ++ _
    rw [zl_app z d (a + 1) e, List.append_assoc, show a + ((d + 1 : Nat) : Int) = a + 1 + (d : Nat) by omega]
theorem zl_nil {z : Int → Bool} : ∀ (d : Nat) (a : Int), (∀ y, a ≤ y → y < a + (d : Nat) → z y = false) → zl z a d = []
  | 0, _, _ => rfl
  | d + 1, a, h => by
    show cond (z a) [a] [] ++ zl z (a + 1) d = []
    rw [zl_nil d (a + 1) fun y h1 h2 => h y (by omega) (by omega), h a (by omega) (by omega)]
    rfl
theorem can_zl {N : Int → Int} {z : Int → Bool} (h : ∀ y, N y - N (y + 1) = cond (z y) 1 0) : ∀ (d : Nat) (a : Int), can N a d = zl z a d
  | 0, _ => rfl
  | d + 1, a => by
    show List.replicate (N a - N (a + 1)).toNat a ++ can N (a + 1) d = cond (z a) [a] [] ++ zl z (a + 1) d
    rw [can_zl h d (a + 1), h a]
    cases z a <;> rfl
/-- The whole numbers among them, each 65536 times. -/
def el (z : Int → Bool) : Int → Nat → List Int
  | _, 0 => []
  | a, d + 1 => cond (z a) [65536 * a] [] ++ el z (a + 1) d
theorem el_app (z : Int → Bool) : ∀ (d : Nat) (a : Int) (e : Nat), el z a (d + e) = el z a d ++ el z (a + (d : Nat)) e
  | 0, a, e => by
    rw [Nat.zero_add, show a + ((0 : Nat) : Int) = a by omega]
    rfl
  | d + 1, a, e => by
    rw [show d + 1 + e = d + e + 1 by omega]
    show _ ++ el z (a + 1) (d + e) = (_ ++ el z (a + 1) d) ++ _
    rw [el_app z d (a + 1) e, List.append_assoc, show a + ((d + 1 : Nat) : Int) = a + 1 + (d : Nat) by omega]
theorem zl_el {z Z : Int → Bool} (h1 : ∀ x, Z (65536 * x) = z x) (h2 : ∀ y, y % 65536 ≠ 0 → Z y = false) : ∀ (d : Nat) (a : Int), zl Z (65536 * a) (65536 * d + 1) = el z a (d + 1)
  | 0, a => by
    show cond (Z (65536 * a)) [65536 * a] [] ++ [] = cond (z a) [65536 * a] [] ++ []
    rw [h1]
  | d + 1, a => by
    rw [show 65536 * (d + 1) + 1 = 1 + (65535 + (65536 * d + 1)) by omega, zl_app, zl_app Z 65535, zl_nil 65535 (65536 * a + ((1 : Nat) : Int)) fun y g1 g2 => h2 y (by omega)]
    rw [show 65536 * a + ((1 : Nat) : Int) + ((65535 : Nat) : Int) = 65536 * (a + 1) by omega, zl_el h1 h2 d (a + 1)]
    show (cond (Z (65536 * a)) [65536 * a] [] ++ []) ++ ([] ++ el z (a + 1) (d + 1)) = cond (z a) [65536 * a] [] ++ el z (a + 1) (d + 1)
    rw [h1, List.append_nil, List.nil_append]
theorem tb_W6 (rs : Nat → Int) (n : Nat) (x : Int) : tb (W6 rs) n (65536 * x) = tb rs n x := by
  rw [Bool.eq_iff_iff, tb_iff, tb_iff]
  exact ⟨fun ⟨j, h, e⟩ => ⟨j, h, by unfold W6 at e; omega⟩, fun ⟨j, h, e⟩ => ⟨j, h, by unfold W6; omega⟩⟩
theorem tb_W6f (rs : Nat → Int) (n : Nat) (y : Int) (hy : y % 65536 ≠ 0) : tb (W6 rs) n y = false := by
  cases h : tb (W6 rs) n y
  · rfl
  · obtain ⟨j, _, e⟩ := tb_iff.1 h
    unfold W6 at e
    omega
theorem tl_prd {c : Int} (hc : c ≠ 0) (rs : Nat → Int) (n : Nat) : tl (prd c rs n) (n + 1) = n + 1 := by
  have h := tl_le (prd c rs n) (n + 1)
  refine Nat.le_antisymm h (Nat.le_of_not_lt fun hlt => ?_)
  have := tl_zero (prd c rs n) (n + 1) n (by omega) (by omega)
  rw [prd_top] at this
  exact hc this
theorem rt_prd {c : Int} (hc : c.natAbs ≤ 9) (hc1 : 1 ≤ c) {rs : Nat → Int} {n : Nat} (hn : n ≤ 4) (hr : ∀ j, j < n → (rs j).natAbs ≤ 50) {lo hi : Int} (hl : lo.natAbs ≤ 60) (hh : hi.natAbs ≤ 60) : rtOut (n + 1) (prd c rs n) (65536 * lo) (65536 * hi) = (el (tb rs n) lo (hi - lo + 1).toNat, 0) := by
  have hc0 : c ≠ 0 := by omega
  have htl := tl_prd hc0 rs n
  have hmb : mbI (n + 1) (prd c rs n) = true := allI_t fun i _ => by
    have := prd_bd4 hc hn hr i
    unfold mbB
    rw [decide_eq_false (by omega), decide_eq_false (by omega)]
    rfl
  have hms : msI (65536 * lo) (65536 * hi) = true := by
    unfold msI
    rw [decide_eq_true (by omega), decide_eq_true (by omega)]
    rfl
  have hb : rtB (n + 1) (prd c rs n) (65536 * lo) (65536 * hi) = false := by unfold rtB; rw [hmb, hms]; rfl
  unfold rtOut
  rw [decide_eq_false (show ¬ (((n + 1 : Nat) : Int) > 5) by omega), hb]
  show (rtL (n + 1) (prd c rs n) (65536 * lo) (65536 * hi), (0 : Int)) = _
  refine Prod.ext ?_ rfl
  show rtL (n + 1) (prd c rs n) (65536 * lo) (65536 * hi) = _
  unfold rtL
  rw [htl]
  cases hB : plB (n + 1) (65536 * lo) (65536 * hi)
  · have g : 1 ≤ n ∧ lo ≤ hi := by
      unfold plB at hB
      by_cases g : ((n + 1 : Nat) : Int) < 2
      · rw [decide_eq_true g] at hB; cases hB
      · rw [decide_eq_false g, cond_false] at hB
        have := of_decide_eq_false hB
        omega
    have eP : rtP (n + 1) (prd c rs n) = (n + 1, prd c rs n) := by unfold rtP; rw [htl]
    have eF : finP (n + 1, prd c rs n) = (n + 1, prd c (W6 rs) n) := by unfold finP; rw [prd_fin]
    rw [cond_false, eP, plcP_can (show 2 ≤ n + 1 by omega) (prd_Cn c rs n) (prd_Tp hc0) (by omega), eF, can_zl (prd_diff hc0 g.1)]
    have hlast : (if rtN (n + 1, prd c (W6 rs) n) (65536 * hi) > rtC (n + 1, prd c (W6 rs) n) (65536 * hi) then [65536 * hi] else []) = zl (tb (W6 rs) n) (65536 * hi) 1 := by
      have h1 := prd_next (w := W6 rs) hc0 g.1 (65536 * hi)
      have h2 := prd_diff (w := W6 rs) hc0 g.1 (65536 * hi)
      show _ = cond (tb (W6 rs) n (65536 * hi)) [65536 * hi] [] ++ []
      cases hz : tb (W6 rs) n (65536 * hi) <;> rw [hz] at h2
      · rw [if_neg (by have h2 : _ = (0 : Int) := h2; omega)]; rfl
      · rw [if_pos (by have h2 : _ = (1 : Int) := h2; omega)]; rfl
    rw [hlast]
    have e2 := zl_app (tb (W6 rs) n) (65536 * hi - 65536 * lo).toNat (65536 * lo) 1
    rw [show 65536 * lo + (((65536 * hi - 65536 * lo).toNat : Nat) : Int) = 65536 * hi by omega] at e2
    rw [← e2, show (65536 * hi - 65536 * lo).toNat + 1 = 65536 * (hi - lo).toNat + 1 by omega, zl_el (tb_W6 rs n) (tb_W6f rs n), show (hi - lo + 1).toNat = (hi - lo).toNat + 1 by omega]
  · rw [cond_true]
    unfold plB at hB
    by_cases g : ((n + 1 : Nat) : Int) < 2
    · obtain rfl : n = 0 := by omega
      have : ∀ (d : Nat) (a : Int), el (tb rs 0) a d = [] := fun d => by
        induction d with
        | zero => intro a; rfl
        | succ d ih => intro a; show [] ++ el (tb rs 0) (a + 1) d = []; rw [ih]; rfl
      exact (this _ _).symm
    · rw [decide_eq_false g, cond_false] at hB
      have := of_decide_eq_true hB
      rw [show (hi - lo + 1).toNat = 0 by omega]
      rfl
end Go.Proofs.Ytgijfbcfajhmlaa

namespace Go.Proofs.Ytgijfbcfajhmlaa
open Go.Gv

/-- The roots that are asked for. -/
def rts (l : Nat → Int) (j : Nat) : Int := pk (l j) 101 - 50
theorem pk_rng {c : Int} (n : Int) (hc : (Lit.int .i64 c).wf = true) (hn : 0 < n) : 0 ≤ pk c n ∧ pk c n < n := by
  obtain ⟨m, rfl⟩ : ∃ m : Nat, n = m := ⟨n.toNat, by omega⟩
  obtain ⟨k, h1, h2⟩ := pk_nat (n := m) hc (by omega)
  omega
section
variable {n : Nat} {l : Nat → Int} {lo hi c : Int} (hb : ∀ i, i < n → (Lit.int .i64 (l i)).wf = true) (hn : n ≤ 4) (hc : 1 ≤ c) (hc9 : c ≤ 9)
include hb in
theorem rts_bd {j : Nat} (hj : j < n) : (rts l j).natAbs ≤ 50 := by
  have := pk_rng 101 (hb j hj) (by decide)
  unfold rts
  omega
include hb in
theorem tqR_eq {j : Nat} (hj : j < n) : tqR l (j : Nat) pk = rts l j := by
  have := pk_rng 101 (hb j hj) (by decide)
  unfold tqR rts
  rw [Int.toNat_natCast, w64_id (by omega) (by omega)]
/-- A product half made. -/
def qin (r : Int) (P : Nat → Int) (j q : Nat) : Int := (if 1 ≤ q ∧ q ≤ j then P (q - 1) else 0) - (if q < j then r * P q else 0)
theorem qin_zero (r : Int) (P : Nat → Int) : qin r P 0 = fun _ => 0 := funext fun q => by unfold qin; rw [if_neg (by omega), if_neg (by omega)]; rfl
theorem qin_all {r : Int} {P : Nat → Int} {M : Nat} (h : Cn M P) : qin r P M = pstep r P := funext fun q => by
  unfold qin pstep
  congr 1
  · by_cases g : 1 ≤ q
    · by_cases g2 : q ≤ M
      · rw [if_pos ⟨g, g2⟩, if_pos g]
      · rw [if_neg (by omega), if_pos g, h (q - 1) (by omega)]
    · rw [if_neg (by omega), if_neg g]
  · by_cases g : q < M
    · rw [if_pos g]
    · rw [if_neg g, h q (by omega), Int.mul_zero]
theorem qin_next {r : Int} {P : Nat → Int} {j : Nat} (hr : r.natAbs ≤ 50) (hP : ∀ q, (P q).natAbs ≤ 60886809) (hj : j ≤ 100) : tqQ2 r P (qin r P j) (j : Nat) = qin r P (j + 1) := by
  have ew : w64 (((j : Nat) : Int) + 1) = ((j + 1 : Nat) : Int) := w64_next (by omega)
  have b1 : ∀ q, (r * P q).natAbs ≤ 50 * 60886809 := fun q => abs_mul_le hr (hP q)
  have v1 : tqV1 r P (qin r P j) (j : Nat) = qin r P (j + 1) j := by
    unfold tqV1
    rw [Int.toNat_natCast, Nat.zero_add]
    have e1 : qin r P j j = if 1 ≤ j then P (j - 1) else 0 := by
      unfold qin
      rw [if_neg (show ¬ j < j by omega), Int.sub_zero]
      by_cases g : 1 ≤ j
      · rw [if_pos ⟨g, Nat.le_refl _⟩, if_pos g]
      · rw [if_neg (by omega), if_neg g]
    have e2 : qin r P (j + 1) j = (if 1 ≤ j then P (j - 1) else 0) - r * P j := by
      unfold qin
      rw [if_pos (show j < j + 1 by omega)]
      congr 1
      by_cases g : 1 ≤ j
      · rw [if_pos ⟨g, by omega⟩, if_pos g]
      · rw [if_neg (by omega), if_neg g]
    have := b1 j
    have h3 : (if 1 ≤ j then P (j - 1) else 0).natAbs ≤ 60886809 := by
      split
      · exact hP _
      · exact Nat.zero_le _
    rw [e1, e2]
    generalize (if 1 ≤ j then P (j - 1) else 0) = a at *
    generalize r * P j = b at *
    rw [w64_id (n := b) (by omega) (by omega), w64_id (by omega) (by omega)]
  have v2 : tqV2 r P (qin r P j) (j : Nat) = qin r P (j + 1) (j + 1) := by
    unfold tqV2
    rw [ew, Int.toNat_natCast, Int.toNat_natCast, Nat.zero_add, Nat.zero_add]
    have e1 : tqQ1 r P (qin r P j) (j : Nat) (j + 1) = 0 := by
      unfold tqQ1
      rw [Int.toNat_natCast, beq_false_of_ne (show j + 1 ≠ 0 + j by omega)]
      show qin r P j (j + 1) = 0
      unfold qin
      rw [if_neg (by omega), if_neg (by omega)]
      rfl
    have e2 : qin r P (j + 1) (j + 1) = P j := by
      unfold qin
      rw [if_pos ⟨by omega, by omega⟩, if_neg (by omega), Nat.add_sub_cancel, Int.sub_zero]
    have := hP j
    rw [e1, e2, Int.zero_add, w64_id (by omega) (by omega)]
  funext q
  unfold tqQ2
  rw [ew, Int.toNat_natCast, Nat.zero_add, v2]
  by_cases h1 : q = j + 1
  · subst h1; rw [show (j + 1 == j + 1) = true from BEq.rfl]; rfl
  · rw [beq_false_of_ne h1]
    unfold tqQ1
    rw [v1, Int.toNat_natCast, Nat.zero_add]
    by_cases h2 : q = j
    · subst h2; rw [show (q == q) = true from BEq.rfl]; rfl
    · rw [beq_false_of_ne h2]
      show qin r P j q = qin r P (j + 1) q
      unfold qin
      congr 1
      · by_cases g : 1 ≤ q ∧ q ≤ j
        · rw [if_pos g, if_pos (by omega)]
        · rw [if_neg g, if_neg (by omega)]
      · by_cases g : q < j
        · rw [if_pos g, if_pos (by omega)]
        · rw [if_neg g, if_neg (by omega)]
theorem tqC_t {M K j k : Nat} (h1 : k < K) (h2 : j < M) : tqC M K (j : Nat) (k : Nat) = true := by
  unfold tqC
  rw [ixB_t h1, ixB_t h2, stB_t h1, Int.toNat_natCast, Int.toNat_natCast, stU_t h1, stU_t h2]
  rfl
theorem tqI_leads {i r : Int} {M : Nat} {P : Nat → Int} (hM : M ≤ 5) (hr : r.natAbs ≤ 50) (hP : ∀ q, (P q).natAbs ≤ 60886809) (hC : Cn M P) : Leads Try.prog (.loop (loopAt Try.f5 1)) (tqI n l lo hi i r M P (M + 1) (fun _ => 0) 0) (.exit 2) (tqI n l lo hi i r M P (M + 1) (pstep r P) (M : Nat)) := by
  rw [← qin_zero r P, ← qin_all hC]
  refine loop_rule (fun j => tqI n l lo hi i r M P (M + 1) (qin r P j) (j : Nat)) M (.exit 2) _ (by simp) (fun j hj => ?_) ?_
  · have st := tqI_step n l lo hi i r M P (M + 1) (qin r P j) (j : Nat)
    rw [dec_lt hj, tqC_t (show j < M + 1 by omega) hj, w64_next (by omega), tqC_t (show j + 1 < M + 1 by omega) hj, qin_next hr hP (by omega)] at st
    exact leads_ev (finN_sub _ _) e_nil k_nil noL_ok st
  · refine leads_ev (finE_sub _ _) e_nil k_nil noL_ok ((tqI_end n l lo hi i r M P (M + 1) (qin r P M) (M : Nat)).trans ?_)
    rw [dec_self, cond_false]
theorem mk8_t {n : Nat} (h : n ≤ 1000) : mk8 (n : Nat) = true := by
  unfold mk8
  rw [decide_eq_true (by omega), decide_eq_true (by omega), decide_eq_true (by omega)]
  rfl
include hb hn hc hc9
theorem tqO_leads : Leads Try.prog (.loop (loopAt Try.f5 0)) (tqO n l lo hi 0 1 fun _ => c) (.exit 0) (tqO n l lo hi (n : Nat) (n + 1) (prd c (rts l) n)) := by
  have hrt : ∀ j, j < n → (rts l j).natAbs ≤ 50 := fun j hj => rts_bd hb hj
  have h0 : Sub (tqO n l lo hi 0 1 fun _ => c) (tqO n l lo hi ((0 : Nat) : Int) (0 + 1) (prd c (rts l) 0)) := sub_same ⟨Or.inr ⟨3, 1, 1, _, _, rfl, rfl, fun q hq => by
    show [iA (if q = 0 then c else 0)] = [iA c]
    rw [if_pos (by omega)]⟩, trivial⟩
  refine Leads.sub ?_ h0 (Sub.refl _)
  refine loop_rule (fun i => tqO n l lo hi (i : Nat) (i + 1) (prd c (rts l) i)) n (.exit 0) _ (by simp) (fun i hi' => ?_) ?_
  · have hP : ∀ q, (prd c (rts l) i q).natAbs ≤ 60886809 := prd_bd4 (by omega) (by omega) fun j hj => hrt j (by omega)
    have inner := tqI_leads (n := n) (l := l) (lo := lo) (hi := hi) (i := (i : Nat)) (r := rts l i) (M := i + 1) (by omega) (hrt i hi') hP (prd_Cn c (rts l) i)
    have hL : LOk Try.prog (tqL n l lo hi (i : Nat) (rts l i) (i + 1) (prd c (rts l) i) (i + 1 + 1) (prd c (rts l) (i + 1))) (loopAt Try.f5 0) := lok_at (i := 10) 0 1 (by kernel_rfl) (by kernel_rfl) (toldF_sound inner)
    have st := tqO_step n l lo hi (i : Nat) (rts l i) (i + 1) (prd c (rts l) i) (i + 1 + 1) pk (prd c (rts l) (i + 1))
    unfold tqT at st
    have ew : w64 (((i + 1 : Nat) : Int) + 1) = ((i + 1 + 1 : Nat) : Int) := w64_next (by omega)
    rw [dec_lt hi', ixB_t hi', ew, mk8_t (by omega), tqR_eq hb hi', Int.toNat_natCast, gate_pos (Sub.refl _), w64_next (by omega)] at st
    exact leads_ev (finN_sub _ _) e_nil (k_cons kPick_ok k_nil) hL st
  · refine leads_ev (finE_sub _ _) e_nil (k_cons kPick_ok k_nil) (lok_none 10) ((tqO_end n l lo hi (n : Nat) (n + 1) (prd c (rts l) n) pk).trans ?_)
    rw [dec_self, cond_false]
end
/-! ### The check -/
section
variable {n : Nat} {l : Nat → Int} {hi : Int} {m : Nat} {A : Nat → Int} (hb : ∀ i, i < n → (Lit.int .i64 (l i)).wf = true) (hn : n ≤ 4)
include hb hn
theorem tqH_leads (k x : Int) : Leads Try.prog (.loop (loopAt Try.f5 3)) (tqH n l hi m A k x false 0) (.exit 6) (tqH n l hi m A k x (tb (rts l) n x) (n : Nat)) := by
  refine loop_rule (fun i => tqH n l hi m A k x (tb (rts l) i x) (i : Nat)) n (.exit 6) _ (by simp) (fun i hi' => ?_) ?_
  · have st := tqH_step n l hi m A k x (tb (rts l) i x) (i : Nat) pk
    rw [dec_lt hi', ixB_t hi', tqR_eq hb hi', w64_next (by omega)] at st
    exact leads_ev (finN_sub _ _) e_nil (k_cons kPick_ok k_nil) noL_ok st
  · refine leads_ev (finE_sub _ _) e_nil (k_cons kPick_ok k_nil) noL_ok ((tqH_end n l hi m A k x (tb (rts l) n x) (n : Nat) pk).trans ?_)
    rw [dec_self, cond_false]
theorem tqX_leads {lo : Int} (hl : lo.natAbs ≤ 60) (hh : hi.natAbs ≤ 60) {L : List Int} (hL : L = el (tb (rts l) n) lo (hi - lo + 1).toNat) : Leads Try.prog (.loop (loopAt Try.f5 2)) (tqX n l hi L.length (fun q => L.getD q 0) 0 lo) (.exit 4) (tqX n l hi L.length (fun q => L.getD q 0) (L.length : Nat) (lo + ((hi - lo + 1).toNat : Nat))) := by
  have key : ∀ d, d ≤ (hi - lo + 1).toNat → ∃ R, L = el (tb (rts l) n) lo d ++ R ∧ R = el (tb (rts l) n) (lo + (d : Nat)) ((hi - lo + 1).toNat - d) := fun d hd => by
    refine ⟨_, ?_, rfl⟩
    rw [hL, ← el_app]
    congr 1
    omega
  have hlen : (el (tb (rts l) n) lo (hi - lo + 1).toNat).length = L.length := by rw [hL]
  have le_len : ∀ (z : Int → Bool) (d : Nat) (a : Int), (el z a d).length ≤ d := fun z d => by
    induction d with
    | zero => intro a; exact Nat.le_refl _
    | succ d ih =>
      intro a
      show (cond (z a) [65536 * a] [] ++ el z (a + 1) d).length ≤ d + 1
      rw [List.length_append]
      have := ih (a + 1)
      cases z a
      · show 0 + _ ≤ _; omega
      · show 1 + _ ≤ _; omega
  have h0 : Sub (tqX n l hi L.length (fun q => L.getD q 0) 0 lo) (tqX n l hi L.length (fun q => L.getD q 0) (((el (tb (rts l) n) lo 0).length : Nat) : Int) (lo + ((0 : Nat) : Int))) := by
    rw [show lo + ((0 : Nat) : Int) = lo by omega]; exact Sub.refl _
  have hfin : ((L.length : Nat) : Int) = (((el (tb (rts l) n) lo (hi - lo + 1).toNat).length : Nat) : Int) := by rw [hlen]
  refine Leads.sub ?_ h0 (Sub.refl _)
  rw [show tqX n l hi L.length (fun q => L.getD q 0) (L.length : Nat) (lo + ((hi - lo + 1).toNat : Nat)) = tqX n l hi L.length (fun q => L.getD q 0) (((el (tb (rts l) n) lo (hi - lo + 1).toNat).length : Nat) : Int) (lo + ((hi - lo + 1).toNat : Nat)) by rw [← hfin]]
  refine loop_rule (fun d => tqX n l hi L.length (fun q => L.getD q 0) (((el (tb (rts l) n) lo d).length : Nat) : Int) (lo + (d : Nat))) (hi - lo + 1).toNat (.exit 4) _ (by simp) (fun d hd => ?_) ?_
  · have inner := tqH_leads (hi := hi) (m := L.length) (A := fun q => L.getD q 0) hb hn (((el (tb (rts l) n) lo d).length : Nat) : Int) (lo + (d : Nat))
    have hLk : LOk Try.prog (thL n l hi L.length (fun q => L.getD q 0) (((el (tb (rts l) n) lo d).length : Nat) : Int) (lo + (d : Nat)) (tb (rts l) n (lo + (d : Nat)))) (loopAt Try.f5 2) := lok_at (i := 26) 0 1 (by kernel_rfl) (by kernel_rfl) (toldF_sound inner)
    have st := tqX_step n l hi L.length (fun q => L.getD q 0) (((el (tb (rts l) n) lo d).length : Nat) : Int) (lo + (d : Nat)) (tb (rts l) n (lo + (d : Nat)))
    have hd1 := le_len (tb (rts l) n) d lo
    have hx : lo + (d : Nat) ≤ hi := by omega
    unfold thT at st
    rw [decide_eq_true hx, gate_pos (Sub.refl _)] at st
    have ex : w64 (lo + (d : Nat) + 1) = lo + ((d + 1 : Nat) : Int) := by rw [w64_id (by omega) (by omega)]; omega
    rw [ex] at st
    have enx : el (tb (rts l) n) lo (d + 1) = el (tb (rts l) n) lo d ++ (cond (tb (rts l) n (lo + (d : Nat))) [65536 * (lo + (d : Nat))] []) := by
      rw [el_app]
      show _ ++ (cond _ _ _ ++ []) = _
      rw [List.append_nil]
    obtain ⟨R, e1, e2⟩ := key d (by omega)
    cases ht : tb (rts l) n (lo + (d : Nat)) with
    | false =>
      rw [ht] at st hLk enx
      have el2 : (el (tb (rts l) n) lo (d + 1)).length = (el (tb (rts l) n) lo d).length := by rw [enx]; exact congrArg List.length (List.append_nil _)
      rw [el2]
      exact leads_ev (finN_sub _ _) e_nil k_nil hLk st
    | true =>
      rw [ht] at st hLk enx
      have el2 : (el (tb (rts l) n) lo (d + 1)).length = (el (tb (rts l) n) lo d).length + 1 := by rw [enx, List.length_append]; rfl
      have e3 : R = [65536 * (lo + (d : Nat))] ++ el (tb (rts l) n) (lo + (d : Nat) + 1) ((hi - lo + 1).toNat - d - 1) := by
        rw [e2, show (hi - lo + 1).toNat - d = (hi - lo + 1).toNat - d - 1 + 1 by omega]
        show cond (tb (rts l) n (lo + (d : Nat))) [65536 * (lo + (d : Nat))] [] ++ _ = _
        rw [ht]
        rfl
      have hlt : (el (tb (rts l) n) lo d).length < L.length := by
        rw [e1, List.length_append, e3]
        show _ < _ + (_ + 1)
        omega
      have hget : L.getD (el (tb (rts l) n) lo d).length 0 = 65536 * (lo + (d : Nat)) := by
        rw [e1, List.getD_eq_getElem?_getD, List.getElem?_append_right (Nat.le_refl _), Nat.sub_self, e3]
        rfl
      have hE : thE L.length (((el (tb (rts l) n) lo d).length : Nat) : Int) = false := by unfold thE; exact decide_eq_false (by omega)
      have hF : thF L.length (fun q => L.getD q 0) (((el (tb (rts l) n) lo d).length : Nat) : Int) (lo + (d : Nat)) = false := by
        unfold thF
        rw [hE, cond_false, Int.toNat_natCast]
        show (!(L.getD (el (tb (rts l) n) lo d).length 0 == w64 (65536 * (lo + (d : Nat))))) = false
        rw [hget, w64_id (by omega) (by omega), BEq.rfl]
        rfl
      rw [hF, ixB_t hlt, w64_next (by omega)] at st
      rw [el2]
      exact leads_ev (finN_sub _ _) e_nil k_nil hLk st
  · refine leads_ev (finE_sub _ _) e_nil k_nil (lok_none 26) ((tqX_end n l hi L.length (fun q => L.getD q 0) _ (lo + ((hi - lo + 1).toNat : Nat))).trans ?_)
    rw [decide_eq_false (by omega), cond_false]
end
theorem tq_ev0 (n : Nat) (l : Nat → Int) (lo hi k : Int) : evZ Try.prog [] [kPick pk, kS Try.prog 7 (fun _ => .any)] [] (oneL 5 fun _ _ => none) (oneZ 17 (frzK 0)) Try.f5 [sJ n l, iA lo, iA hi, iA k] ret = cond (decide ((n : Int) > 4)) (some (Out.of (bA true))) none := by kernel_rfl
theorem topRoots_law {n : Nat} {l : Nat → Int} {lo hi k : Int} (hb : ∀ i, i < n → (Lit.int .i64 (l i)).wf = true) (hlo : (Lit.int .i64 lo).wf = true) (hhi : (Lit.int .i64 hi).wf = true) (hk : (Lit.int .i64 k).wf = true) : FSpec Try.prog 5 [sJ n l, iA lo, iA hi, iA k] (bA true) := by
  have h1 := pk_rng 120 hlo (by decide)
  have h2 := pk_rng 120 hhi (by decide)
  have h3 := pk_rng 9 hk (by decide)
  have e1 : pk120 pk lo = pk lo 120 - 60 := by unfold pk120; rw [w64_id (by omega) (by omega)]
  have e2 : pk120 pk hi = pk hi 120 - 60 := by unfold pk120; rw [w64_id (by omega) (by omega)]
  have e3 : w64 (1 + pk k 9) = 1 + pk k 9 := w64_id (by omega) (by omega)
  by_cases hn : n ≤ 4
  · have b1 : (pk120 pk lo).natAbs ≤ 60 := by rw [e1]; omega
    have b2 : (pk120 pk hi).natAbs ≤ 60 := by rw [e2]; omega
    have hrt := rt_prd (c := 1 + pk k 9) (by omega) (by omega) hn (fun j hj => rts_bd hb hj) b1 b2
    have lA := tqO_leads (lo := lo) (hi := hi) hb hn (show 1 ≤ 1 + pk k 9 by omega) (by omega)
    have lB := tqX_leads (l := l) hb hn b1 b2 (L := el (tb (rts l) n) (pk120 pk lo) (pk120 pk hi - pk120 pk lo + 1).toNat) rfl
    generalize el (tb (rts l) n) (pk120 pk lo) (pk120 pk hi - pk120 pk lo + 1).toNat = L at *
    have hL : LOk Try.prog (twoL 5 (toldF keepTqO [some 0] (tqO n l lo hi 0 1 (fun _ => 1 + pk k 9)) (.exit 0) (tqO n l lo hi (n : Nat) (n + 1) (prd (1 + pk k 9) (rts l) n))) 22 (toldF keepTqX [] (tqX n l (pk120 pk hi) L.length (fun q => L.getD q 0) 0 (pk120 pk lo)) (.exit 4) (tqX n l (pk120 pk hi) L.length (fun q => L.getD q 0) (L.length : Nat) (pk120 pk lo + ((pk120 pk hi - pk120 pk lo + 1).toNat : Nat))))) (bodyOf Try.f5) := lok_two (lok_at (i := 5) 0 4 (by kernel_rfl) (by kernel_rfl) (toldF_sound lA)) (lok_at (i := 22) 2 4 (by kernel_rfl) (by kernel_rfl) (toldF_sound lB))
    refine gspecZ (oneZ_ok (frzK_ok 0)) e_nil (k_cons kPick_ok (k_cons kS_ok k_nil)) m_nil Try.func5 (by kernel_rfl) (by kernel_rfl) hL rfl ((tq_ev n l lo hi k (n + 1) (prd (1 + pk k 9) (rts l) n) pk L.length (fun q => L.getD q 0) 0 (1 + pk k 9) (L.length : Nat) _).trans ?_)
    have hs : Sub (tqO0 n l lo hi (w64 (1 + pk k 9))) (tqO n l lo hi 0 1 fun _ => 1 + pk k 9) := by
      rw [e3]
      exact sub_same ⟨Or.inr ⟨3, 1, 1, _, _, rfl, rfl, fun q hq => by rw [show q = 0 by omega]; rfl⟩, trivial⟩
    have hR : FSpec Try.prog 7 [sJ (n + 1) (prd (1 + pk k 9) (rts l) n), iA (w64 (65536 * pk120 pk lo)), iA (w64 (65536 * pk120 pk hi))] (.tup [sJ L.length (fun q => L.getD q 0), iA 0]) := by
      rw [w64_id (n := 65536 * pk120 pk lo) (by omega) (by omega), w64_id (n := 65536 * pk120 pk hi) (by omega) (by omega)]
      have := roots_spec (lo := 65536 * pk120 pk lo) (hi := 65536 * pk120 pk hi) (show n + 1 ≤ 4611686018427387904 by omega) (prd_Cn (1 + pk k 9) (rts l) n)
      rw [hrt] at this
      exact this
    unfold tqTail
    rw [decide_eq_false (by omega), cond_false, gate_pos hs, fz1_t, gate_pos hR, gate_pos (Sub.refl _), BEq.rfl, BEq.rfl]
    rfl
  · refine gspecZ (oneZ_ok (frzK_ok 0)) e_nil (k_cons kPick_ok (k_cons kS_ok k_nil)) m_nil Try.func5 (by kernel_rfl) (by kernel_rfl) (lok_none 5) rfl ((tq_ev0 n l lo hi k).trans ?_)
    rw [decide_eq_true (by omega)]
    rfl
end Go.Proofs.Ytgijfbcfajhmlaa
