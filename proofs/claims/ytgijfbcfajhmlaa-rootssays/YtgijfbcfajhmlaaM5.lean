/-
  Roh Roi Roj Rok Rol Rom Ron Roo Rop Gyf, one behind the other.
-/
import Derived.Test.YtgijfbcfajhmlaaM4
namespace Go.Proofs.Ytgijfbcfajhmlaa
open Go.Gv

/-- The value of so many coefficients, from the i-th on. -/
def hor (f : Nat → Int) (x : Int) : Nat → Nat → Int
  | _, 0 => 0
  | i, d + 1 => hor f x (i + 1) d * x + f i
theorem sa_leads {n : Nat} {f : Nat → Int} {x : Int} (hn : n ≤ 8796093022208) (hx : Sm x) (hf : ∀ i, Sm (f i)) (hh : ∀ j, j < n → Sm (hor f x (n - j) j) ∧ Sm (hor f x (n - j) j * x)) : Leads Try.prog (.loop (loopAt Try.f63 0)) (saS n f x ((n : Int) - 1) (wC 0)) (.exit 0) (saS n f x (-1) (wC (hor f x 0 n))) := by
  have key : Leads Try.prog (.loop (loopAt Try.f63 0)) (saS n f x ((n : Int) - 1 - ((0 : Nat) : Int)) (wC (hor f x (n - 0) 0))) (.exit 0) (saS n f x (-1) (wC (hor f x 0 n))) := by
    refine loop_rule (fun j => saS n f x ((n : Int) - 1 - (j : Nat)) (wC (hor f x (n - j) j))) n (.exit 0) _ (by simp) (fun j hj => ?_) ?_
    · have st := sa_step n f x (hor f x (n - j) j) ((n : Int) - 1 - (j : Nat))
      have e : (n : Int) - 1 - (j : Nat) = ((n - 1 - j : Nat) : Int) := by omega
      have e1 : saV1 x (hor f x (n - j) j) = hor f x (n - j) j * x := by unfold saV1; rw [decW_w, decW_w]
      have e2 : saV2 f x (hor f x (n - j) j) ((n : Int) - 1 - (j : Nat)) = hor f x (n - (j + 1)) (j + 1) := by
        unfold saV2
        rw [decW_w, decW_w, e1, e, Int.toNat_natCast, show n - (j + 1) = n - 1 - j by omega]
        show _ = hor f x (n - 1 - j + 1) j * x + f (n - 1 - j)
        rw [show n - 1 - j + 1 = n - j by omega]
      obtain ⟨h1, h2⟩ := hh j hj
      unfold saT at st
      rw [e1, gate_pos (ti_spec h1 hx)] at st
      have hp : FSpec Try.prog 46 [wA (hor f x (n - j) j * x), wA (f ((n : Int) - 1 - (j : Nat)).toNat)] (wA (saV2 f x (hor f x (n - j) j) ((n : Int) - 1 - (j : Nat)))) := by
        have := pl_spec h2 (hf ((n : Int) - 1 - (j : Nat)).toNat)
        unfold saV2
        rw [decW_w, decW_w, e1]
        exact this
      rw [gate_pos hp, e2, show w64 ((n : Int) - 1 - (j : Nat) - 1) = (n : Int) - 1 - ((j + 1 : Nat) : Int) by rw [w64_id (by omega) (by omega)]; omega] at st
      have hi : decide ((n : Int) - 1 - (j : Nat) ≥ 0) = true := decide_eq_true (by omega)
      have hx2 : ixB ((n : Int) - 1 - (j : Nat)) n = true := by rw [e]; exact ixB_t (by omega)
      rw [hi, hx2] at st
      exact leads_ev (finN_sub _ _) e_nil (k_cons kS_ok (k_cons kS_ok k_nil)) noL_ok st
    · refine leads_ev (finE_sub _ _) e_nil (k_cons kS_ok (k_cons kS_ok k_nil)) noL_ok ((sa_end n f x (hor f x (n - n) n) ((n : Int) - 1 - (n : Nat))).trans ?_)
      rw [show (n : Int) - 1 - (n : Nat) = -1 by omega, Nat.sub_self]
      rfl
  rw [show (n : Int) - 1 - ((0 : Nat) : Int) = (n : Int) - 1 by omega] at key
  exact key
theorem c_sub {sl : List (AV × Chain)} {x : Int} : Sub ⟨sl, [.c (wC x), .c wz]⟩ ⟨sl, [.c (wC x), .c (wC 0)]⟩ :=
  sub_like ⟨Or.inl rfl, Or.inr (Or.inr ⟨_, _, rfl, rfl, wz_like.2⟩), trivial⟩
theorem sa_spec {n : Nat} {f : Nat → Int} {x : Int} (hn : n ≤ 8796093022208) (hx : Sm x) (hf : ∀ i, Sm (f i)) (hh : ∀ j, j < n → Sm (hor f x (n - j) j) ∧ Sm (hor f x (n - j) j * x)) : FSpec Try.prog 63 [pA n f, wA x] (iA (hor f x 0 n).sign) := by
  have hL := lok_at (c := bodyOf Try.f63) (i := 3) 0 1 (by kernel_rfl) (by kernel_rfl) (toldF_sound (keep := keepSa) (τ := [some 0, some 1]) (sa_leads hn hx hf hh))
  refine gspec e_nil (k_cons (kno_ok _) k_nil) Try.func63 (by kernel_rfl) (by kernel_rfl) hL rfl ((sa_ev n f x (hor f x 0 n) ((n : Int) - 1) (-1)).trans ?_)
  rw [show w64 ((n : Int) - 1) = (n : Int) - 1 from w64_id (by omega) (by omega), gate_pos (show Sub (saS n f x ((n : Int) - 1) wz) (saS n f x ((n : Int) - 1) (wC 0)) from c_sub)]
/-! ### slope -/
def dsl (f : Nat → Int) (q : Nat) : Int := f (q + 1) * ((q + 1 : Nat) : Int)
theorem sm_small {x : Int} (h : x.natAbs < 18446744073709551616) : Sm x := by
  unfold Sm
  have := Go.Ev.nw_le (a := x.natAbs) (k := 1) (by rw [Nat.pow_one]; exact h)
  omega
theorem sl_leads {n : Nat} {f : Nat → Int} (hn : n ≤ 1000000) (hf : ∀ i, Sm (f i)) : Leads Try.prog (.loop (loopAt Try.f52 0)) (slS n f 0 0 fun q => wC (dsl f q)) (.exit 0) (slS n f (n : Nat) (n - 1) fun q => wC (dsl f q)) := by
  have ks : ∀ e, e ∈ [kS Try.prog 45 tiG, kS Try.prog 38 woG] → KOk Try.prog e := k_cons kS_ok (k_cons kS_ok k_nil)
  have key : Leads Try.prog (.loop (loopAt Try.f52 0)) (slS n f ((0 : Nat) : Int) (0 - 1) fun q => wC (dsl f q)) (.exit 0) (slS n f (n : Nat) (n - 1) fun q => wC (dsl f q)) := by
    refine loop_rule (fun j => slS n f (j : Nat) (j - 1) fun q => wC (dsl f q)) n (.exit 0) _ (by simp) (fun j hj => ?_) ?_
    · by_cases h0 : j = 0
      · subst h0
        have st := sl_step0 n f 0 (dsl f)
        rw [show ixB 0 n = true from ixB_t (i := 0) hj, decide_eq_true (show (0 : Int) < (n : Int) by omega)] at st
        exact leads_ev (finN_sub _ _) e_nil ks noL_ok st
      · obtain ⟨m, rfl⟩ : ∃ m, j = m + 1 := ⟨j - 1, by omega⟩
        have st := sl_step n f ((m + 1 : Nat) : Int) m (dsl f)
        have ev : slV f ((m + 1 : Nat) : Int) = dsl f m := by unfold slV dsl; rw [decW_w, decW_w, Int.toNat_natCast]
        unfold slT at st
        have hw : FSpec Try.prog 38 [iA ((m + 1 : Nat) : Int)] (wA ((m + 1 : Nat) : Int)) := wo_spec (by omega) (by omega)
        have ht : FSpec Try.prog 45 [wA (f ((m + 1 : Nat) : Int).toNat), wA ((m + 1 : Nat) : Int)] (wA (dsl f m)) := ti_spec (hf _) (sm_small (by omega))
        rw [dec_lt hj, ixB_t hj, decide_eq_true (show ((m + 1 : Nat) : Int) > 0 by omega), gate_pos hw, ev, gate_pos ht, apB_t (by omega), w64_next (by omega)] at st
        refine (leads_ev (finN_sub _ _) e_nil ks noL_ok st).sub (Sub.refl _) ?_
        refine sub_same ⟨Or.inr ⟨68, 2, m + 1, _, _, rfl, rfl, fun q hq => ?_⟩, trivial⟩
        rw [mixW]
        cases hlt : Nat.blt q m
        · have hge := not_blt hlt
          have : q = m := by omega
          subst this
          rfl
        · rfl
    · refine leads_ev (finE_sub _ _) e_nil ks noL_ok ((sl_end n f (n : Nat) (n - 1) (dsl f)).trans ?_)
      unfold slT
      rw [dec_self, cond_false]
  exact key
theorem sl_spec {n : Nat} {f : Nat → Int} (hn : n ≤ 1000000) (hf : ∀ i, Sm (f i)) : FSpec Try.prog 52 [pA n f] (pA (n - 1) (dsl f)) := by
  have hL := lok_hd (c := bodyOf Try.f52) (i := 3) 0 (by kernel_rfl) (by kernel_rfl) (toldN_sound (keep := keepSl) (nils := [(3, 0, 2)]) (nr := .a 68 2 0 fun q => wC (dsl f q)) (τ := [none]) (sl_leads hn hf))
  refine gspec e_nil (k_cons (kno_ok _) k_nil) Try.func52 (by kernel_rfl) (by kernel_rfl) hL rfl ((sl_ev n f (n - 1) (dsl f) (n : Nat)).trans ?_)
  have e : (fun j => wC (dsl f (0 + j))) = fun j => wC (dsl f j) := funext fun j => by rw [Nat.zero_add]
  rw [gate_pos (Sub.refl _), e]
  rfl
theorem dsl_Cn {n : Nat} {f : Nat → Int} (h : Cn n f) : Cn (n - 1) (dsl f) := fun i hi => by
  unfold dsl
  rw [h (i + 1) (by omega), Int.zero_mul]
end Go.Proofs.Ytgijfbcfajhmlaa

namespace Go.Proofs.Ytgijfbcfajhmlaa
open Go.Gv

/-! ### finer -/
def fiS (n : Nat) (f : Nat → Int) (i b : Int) (Y : Nat → List AV) : St := mkS 30 [(0, pA n f), (3, .osl 0 2 0 n), (4, .own 1 0), (5, iA i)] [.a 68 2 n Y, .c (wC b)]
def keepFi : List Nat := [0, 3, 4, 5]
def stB (i : Int) (n : Nat) : Bool := (ixB i n || false) && (stU i.toNat n && true)
section
variable (n : Nat) (f : Nat → Int) (i b : Int) (y : Nat → Int)
def fiV : Int := decW (wA (f i.toNat)) * decW (wA b)
def fiB : Int := decW (wA b) * decW (wA 65536)
noncomputable def fiT (x z : Option Out) : Option Out := cond (decide (i ≥ 0)) (gate (FSpec Try.prog 45 [wA (f i.toNat), wA b] (wA (fiV f i b))) (cond ((ixB i n || false) && stB i n) (gate (FSpec Try.prog 38 [iA 65536] (wA 65536)) (gate (FSpec Try.prog 45 [wA b, wA 65536] (wA (fiB b))) x)) none)) z
theorem fi_step : evC Try.prog [] [kS Try.prog 45 tiG, kS Try.prog 38 woG] noL (loopAt Try.f33 0) (fiS n f i b fun q => wC (y q)) (finN keepFi [some 0, some 1]) = fiT n f i b (some ⟨.normal, fiS n f (w64 (i - 1)) (fiB b) fun q => mixL (q == 0 + i.toNat) (wC (fiV f i b)) (wC (y q)), .any⟩) none := by kernel_rfl
theorem fi_end : evC Try.prog [] [kS Try.prog 45 tiG, kS Try.prog 38 woG] noL (loopAt Try.f33 0) (fiS n f i b fun q => wC (y q)) (finE keepFi [some 0, some 1]) = fiT n f i b none (some ⟨.exit 0, fiS n f i b fun q => wC (y q), .any⟩) := by kernel_rfl
theorem fi_ev (i' b' : Int) : ev Try.prog [] [⟨45, fun _ _ => none⟩, kS Try.prog 38 woG] (oneL 4 (toldF keepFi [some 0, some 1] (fiS n f i 1 fun _ => wC 0) (.exit 0) (fiS n f i' b' fun q => wC (y q)))) Try.f33 [pA n f] ret =
    cond (mk32 (n : Nat) || false) (gate (FSpec Try.prog 38 [iA 1] (wA 1)) (gate (Sub (fiS n f (w64 ((n : Int) - 1)) 1 fun _ => wz) (fiS n f i 1 fun _ => wC 0)) (some (Out.of (.sl 2 n fun j => wC (y (0 + j))))))) none := by kernel_rfl
end
/-! ### times -/
def tnS (n : Nat) (f : Nat → Int) (m : Nat) (g : Nat → Int) (N : Nat) (i j a : Int) (Y : Nat → List AV) : St := mkS 58 [(0, pA n f), (1, pA m g), (5, .osl 0 2 0 N), (6, iA i), (7, .own 1 0), (25, pA n f), (26, iA (n : Nat)), (27, iA i), (32, pA m g), (33, iA (m : Nat)), (34, iA j)] [.a 68 2 N Y, .c (wC a)]
def keepTn : List Nat := [0, 1, 5, 6, 7, 25, 26, 27, 32, 33, 34]
def toS (n : Nat) (f : Nat → Int) (m : Nat) (g : Nat → Int) (N : Nat) (i : Int) (Y : Nat → List AV) : St := mkS 58 [(0, pA n f), (1, pA m g), (5, .osl 0 2 0 N), (25, pA n f), (26, iA (n : Nat)), (27, iA i)] [.a 68 2 N Y]
def keepTo : List Nat := [0, 1, 5, 25, 26, 27]
section
variable (n : Nat) (f : Nat → Int) (m : Nat) (g : Nat → Int) (N : Nat) (i j a : Int) (y : Nat → Int)
def tnM : Int := decW (wA a) * decW (wA (g j.toNat))
def tnV : Int := decW (wA (y (0 + (w64 (i + j)).toNat))) + decW (wA (tnM g j a))
noncomputable def tnT (x z : Option Out) : Option Out := cond (decide (j < (m : Int))) (cond (ixB j m || false) (gate (FSpec Try.prog 45 [wA a, wA (g j.toNat)] (wA (tnM g j a))) (gate (FSpec Try.prog 46 [wA (y (0 + (w64 (i + j)).toNat)), wA (tnM g j a)] (wA (tnV g i j a y))) (cond ((ixB (w64 (i + j)) N || false) && (stU (w64 (i + j)).toNat N && stB (w64 (i + j)) N)) x none))) none) z
theorem tn_step : evC Try.prog [] [kS Try.prog 45 tiG, kS Try.prog 46 plG] noL (loopAt Try.f43 1) (tnS n f m g N i j a fun q => wC (y q)) (finN keepTn [some 0, some 1]) = tnT m g N i j a y (some ⟨.normal, tnS n f m g N i (w64 (j + 1)) a fun q => mixL (q == 0 + (w64 (i + j)).toNat) (wC (tnV g i j a y)) (wC (y q)), .any⟩) none := by kernel_rfl
theorem tn_end : evC Try.prog [] [kS Try.prog 45 tiG, kS Try.prog 46 plG] noL (loopAt Try.f43 1) (tnS n f m g N i j a fun q => wC (y q)) (finE keepTn [some 0, some 1]) = tnT m g N i j a y none (some ⟨.exit 2, tnS n f m g N i j a fun q => wC (y q), .any⟩) := by kernel_rfl
noncomputable def toL (y1 : Nat → Int) : Nat → Option LFun := oneL 8 (toldF keepTn [some 0, some 1] (tnS n f m g N i 0 (f i.toNat) fun q => wC (y q)) (.exit 2) (tnS n f m g N i (m : Nat) (f i.toNat) fun q => wC (y1 q)))
noncomputable def toT (x z : Option Out) : Option Out := cond (decide (i < (n : Int))) (cond (ixB i n || false) (gate (Sub (tnS n f m g N i 0 (f i.toNat) fun q => wC (y q)) (tnS n f m g N i 0 (f i.toNat) fun q => wC (y q))) x) none) z
theorem to_step (y1 : Nat → Int) : evC Try.prog [] [] (toL n f m g N i y y1) (loopAt Try.f43 0) (toS n f m g N i fun q => wC (y q)) (finN keepTo [some 0]) = toT n f m g N i y (some ⟨.normal, toS n f m g N (w64 (i + 1)) fun q => wC (y1 q), .any⟩) none := by kernel_rfl
theorem to_end : evC Try.prog [] [] (oneL 8 fun _ _ => none) (loopAt Try.f43 0) (toS n f m g N i fun q => wC (y q)) (finE keepTo [some 0]) = cond (decide (i < (n : Int))) (cond (ixB i n || false) none none) (some ⟨.exit 0, toS n f m g N i fun q => wC (y q), .any⟩) := by kernel_rfl
variable (k : Nat)
noncomputable def toTail : Option Out := cond (fz1 N) (gate (FSpec Try.prog 17 [.sl 2 N fun q => wC (y q)] (pA k y)) (some (Out.of (pA k y)))) none
theorem to_ev : evZ Try.prog [] [kS Try.prog 17 (fun _ => pA k y)] [] (oneL 5 (toldF keepTo [some 0] (toS n f m g N 0 fun _ => wC 0) (.exit 0) (toS n f m g N (n : Nat) fun q => wC (y q)))) (oneZ 13 (frzK 0)) Try.f43 [pA n f, pA m g] ret =
    cond (cond ((n : Int) == 0) true ((m : Int) == 0)) (some (Out.of (.x (.slice none 0 0)))) (cond (mk32 (w64 (w64 ((n : Int) + (m : Int)) - 1)) || false) (gate (Sub (toS n f m g (w64 (w64 ((n : Int) + (m : Int)) - 1)).toNat 0 fun _ => wz) (toS n f m g N 0 fun _ => wC 0)) (toTail N y k)) none) := by kernel_rfl
end
end Go.Proofs.Ytgijfbcfajhmlaa

namespace Go.Proofs.Ytgijfbcfajhmlaa
open Go.Gv

/-! ### finer -/
def pfin (f : Nat → Int) (n q : Nat) : Int := f q * 65536 ^ (n - 1 - q)
def dnTo (z : Nat → Int) (n j q : Nat) : Int := if n - j ≤ q then z q else 0
theorem stB_t {i n : Nat} (h : i < n) : stB (i : Nat) n = true := by unfold stB; rw [ixB_t h, Int.toNat_natCast, stU_t h]; rfl
theorem dnTo_next {z : Nat → Int} {n j : Nat} (hj : j < n) (q : Nat) : cond (q == 0 + (n - 1 - j)) (z (n - 1 - j)) (dnTo z n j q) = dnTo z n (j + 1) q := by
  unfold dnTo
  rw [Nat.zero_add]
  by_cases h : q = n - 1 - j
  · subst h
    rw [BEq.rfl, cond_true, if_pos (show n - (j + 1) ≤ n - 1 - j by omega)]
  · rw [beq_false_of_ne h, cond_false]
    by_cases h2 : n - j ≤ q
    · rw [if_pos h2, if_pos (by omega)]
    · rw [if_neg h2, if_neg (by omega)]
theorem two_sub {sl : List (AV × Chain)} {e : TypeId} {n : Nat} {b : Int} : Sub ⟨sl, [.a e 2 n fun _ => wz, .c (wC b)]⟩ ⟨sl, [.a e 2 n fun _ => wC 0, .c (wC b)]⟩ :=
  sub_like ⟨Or.inr (Or.inl ⟨e, 2, n, _, _, rfl, rfl, fun _ _ => wz_like⟩), Or.inl rfl, trivial⟩
theorem fi_leads {n : Nat} {f : Nat → Int} (hn : n ≤ 1000000) (hc : Cn n f) (hf : ∀ i, Sm (f i)) (hb : ∀ j, j ≤ n → Sm ((65536 : Int) ^ j)) : Leads Try.prog (.loop (loopAt Try.f33 0)) (fiS n f ((n : Int) - 1) 1 fun _ => wC 0) (.exit 0) (fiS n f (-1) (65536 ^ n) fun q => wC (pfin f n q)) := by
  have ks : ∀ e, e ∈ [kS Try.prog 45 tiG, kS Try.prog 38 woG] → KOk Try.prog e := k_cons kS_ok (k_cons kS_ok k_nil)
  have key : Leads Try.prog (.loop (loopAt Try.f33 0)) (fiS n f ((n : Int) - 1 - ((0 : Nat) : Int)) (65536 ^ 0) fun q => wC (dnTo (pfin f n) n 0 q)) (.exit 0) (fiS n f (-1) (65536 ^ n) fun q => wC (pfin f n q)) := by
    refine loop_rule (fun j => fiS n f ((n : Int) - 1 - (j : Nat)) (65536 ^ j) fun q => wC (dnTo (pfin f n) n j q)) n (.exit 0) _ (by simp) (fun j hj => ?_) ?_
    · have e : (n : Int) - 1 - (j : Nat) = ((n - 1 - j : Nat) : Int) := by omega
      have st := fi_step n f ((n : Int) - 1 - (j : Nat)) (65536 ^ j) (dnTo (pfin f n) n j)
      have e1 : fiV f ((n : Int) - 1 - (j : Nat)) (65536 ^ j) = pfin f n (n - 1 - j) := by
        unfold fiV pfin
        rw [decW_w, decW_w, e, Int.toNat_natCast, show n - 1 - (n - 1 - j) = j by omega]
      have e2 : fiB (65536 ^ j) = 65536 ^ (j + 1) := by
        unfold fiB
        rw [decW_w, decW_w, Int.pow_succ]
      have ht1 : FSpec Try.prog 45 [wA (f ((n : Int) - 1 - (j : Nat)).toNat), wA (65536 ^ j)] (wA (pfin f n (n - 1 - j))) := by
        rw [← e1]
        unfold fiV
        rw [decW_w, decW_w]
        exact ti_spec (hf _) (hb j (by omega))
      have ht2 : FSpec Try.prog 45 [wA (65536 ^ j), wA 65536] (wA (65536 ^ (j + 1))) := by
        rw [Int.pow_succ]
        exact ti_spec (hb j (by omega)) (sm_small (by decide))
      have hw : FSpec Try.prog 38 [iA 65536] (wA 65536) := wo_spec (by decide) (by decide)
      unfold fiT at st
      rw [e1, e2, gate_pos ht1, gate_pos hw, gate_pos ht2, show w64 ((n : Int) - 1 - (j : Nat) - 1) = (n : Int) - 1 - ((j + 1 : Nat) : Int) by rw [w64_id (by omega) (by omega)]; omega, show decide ((n : Int) - 1 - (j : Nat) ≥ 0) = true from decide_eq_true (by omega),
        show ixB ((n : Int) - 1 - (j : Nat)) n = true by rw [e]; exact ixB_t (by omega), show stB ((n : Int) - 1 - (j : Nat)) n = true by rw [e]; exact stB_t (by omega), show ((n : Int) - 1 - (j : Nat)).toNat = n - 1 - j by omega] at st
      refine (leads_ev (finN_sub _ _) e_nil ks noL_ok st).sub (Sub.refl _) ?_
      refine sub_same ⟨Or.inr ⟨68, 2, n, _, _, rfl, rfl, fun q hq => ?_⟩, Or.inl rfl, trivial⟩
      rw [mixW, dnTo_next hj]
    · have e0 : (fun q => wC (dnTo (pfin f n) n n q)) = fun q => wC (pfin f n q) := funext fun q => by unfold dnTo; rw [if_pos (by omega)]
      refine leads_ev (finE_sub _ _) e_nil ks noL_ok ((fi_end n f ((n : Int) - 1 - (n : Nat)) (65536 ^ n) (dnTo (pfin f n) n n)).trans ?_)
      rw [show (n : Int) - 1 - (n : Nat) = -1 by omega, e0]
      rfl
  have e0 : (fun q => wC (dnTo (pfin f n) n 0 q)) = fun _ => wC 0 := funext fun q => by
    unfold dnTo pfin
    by_cases h : n - 0 ≤ q
    · rw [if_pos h, hc q (by omega), Int.zero_mul]
    · rw [if_neg h]
  rw [show (n : Int) - 1 - ((0 : Nat) : Int) = (n : Int) - 1 by omega, e0, Int.pow_zero] at key
  exact key
theorem fi_spec {n : Nat} {f : Nat → Int} (hn : n ≤ 1000000) (hc : Cn n f) (hf : ∀ i, Sm (f i)) (hb : ∀ j, j ≤ n → Sm ((65536 : Int) ^ j)) : FSpec Try.prog 33 [pA n f] (pA n (pfin f n)) := by
  have hL := lok_at (c := bodyOf Try.f33) (i := 4) 0 1 (by kernel_rfl) (by kernel_rfl) (toldF_sound (keep := keepFi) (τ := [some 0, some 1]) (fi_leads hn hc hf hb))
  refine gspec e_nil (k_cons (kno_ok _) (k_cons kS_ok k_nil)) Try.func33 (by kernel_rfl) (by kernel_rfl) hL rfl ((fi_ev n f ((n : Int) - 1) (pfin f n) (-1) (65536 ^ n)).trans ?_)
  have hw : FSpec Try.prog 38 [iA 1] (wA 1) := wo_spec (by decide) (by decide)
  have e : (fun j => wC (pfin f n (0 + j))) = fun j => wC (pfin f n j) := funext fun j => by rw [Nat.zero_add]
  rw [mk32_t (by omega), gate_pos hw, show w64 ((n : Int) - 1) = (n : Int) - 1 from w64_id (by omega) (by omega), gate_pos (show Sub (fiS n f ((n : Int) - 1) 1 fun _ => wz) (fiS n f ((n : Int) - 1) 1 fun _ => wC 0) from two_sub), e]
  rfl
theorem fin_Cn {n : Nat} {f : Nat → Int} (hc : Cn n f) : Cn n (pfin f n) := fun i hi => by unfold pfin; rw [hc i hi, Int.zero_mul]
/-! ### times -/
def psm (f g : Nat → Int) : Nat → Nat → Int
  | 0, _ => 0
  | i + 1, q => psm f g i q + if i ≤ q then f i * g (q - i) else 0
def pin (f g : Nat → Int) (i j q : Nat) : Int := psm f g i q + if i ≤ q ∧ q < i + j then f i * g (q - i) else 0
theorem pin_zero (f g : Nat → Int) (i : Nat) : pin f g i 0 = psm f g i := funext fun q => by unfold pin; rw [if_neg (by omega), Int.add_zero]
theorem pin_all {f g : Nat → Int} {m : Nat} (hg : Cn m g) (i : Nat) : pin f g i m = psm f g (i + 1) := funext fun q => by
  unfold pin
  show _ = psm f g i q + if i ≤ q then f i * g (q - i) else 0
  by_cases h : i ≤ q
  · rw [if_pos h]
    by_cases h2 : q < i + m
    · rw [if_pos ⟨h, h2⟩]
    · rw [if_neg (by omega), hg (q - i) (by omega), Int.mul_zero]
  · rw [if_neg h, if_neg (by omega)]
theorem pin_next (f g : Nat → Int) (i j q : Nat) : cond (q == 0 + (i + j)) (pin f g i j (i + j) + f i * g j) (pin f g i j q) = pin f g i (j + 1) q := by
  rw [Nat.zero_add]
  unfold pin
  by_cases h : q = i + j
  · subst h
    rw [BEq.rfl, cond_true, if_neg (by omega), if_pos (by omega), show i + j - i = j by omega, Int.add_zero]
  · rw [beq_false_of_ne h, cond_false]
    by_cases h2 : i ≤ q ∧ q < i + j
    · rw [if_pos h2, if_pos (by omega)]
    · rw [if_neg h2, if_neg (by omega)]
theorem psm_Cn {f g : Nat → Int} {n m : Nat} (hg : Cn m g) : ∀ i, i ≤ n → Cn (n + m - 1) (psm f g i)
  | 0, _ => fun _ _ => rfl
  | i + 1, hi => fun q hq => by
    show psm f g i q + (if i ≤ q then f i * g (q - i) else 0) = 0
    rw [psm_Cn hg i (by omega) q hq]
    by_cases h : i ≤ q
    · rw [if_pos h, hg (q - i) (by omega), Int.mul_zero]; rfl
    · rw [if_neg h]; rfl
theorem tl_nought {f : Nat → Int} (h : ∀ q, f q = 0) : ∀ n, tl f n = 0
  | 0 => rfl
  | n + 1 => by unfold tl; rw [if_pos (h n), tl_nought h n]
section
variable {n m : Nat} {f g : Nat → Int} (hn : n ≤ 1000000) (hm : m ≤ 1000000) (hg : Cn m g) (sf : ∀ i, Sm (f i)) (sg : ∀ i, Sm (g i)) (sp : ∀ i j, Sm (f i * g j)) (ss : ∀ i j q, Sm (pin f g i j q))
include hn hm sf sg sp ss
theorem tn_leads {i : Nat} (hi : i < n) : Leads Try.prog (.loop (loopAt Try.f43 1)) (tnS n f m g (n + m - 1) (i : Nat) 0 (f i) fun q => wC (pin f g i 0 q)) (.exit 2) (tnS n f m g (n + m - 1) (i : Nat) (m : Nat) (f i) fun q => wC (pin f g i m q)) := by
  have ks : ∀ e, e ∈ [kS Try.prog 45 tiG, kS Try.prog 46 plG] → KOk Try.prog e := k_cons kS_ok (k_cons kS_ok k_nil)
  refine loop_rule (fun j => tnS n f m g (n + m - 1) (i : Nat) (j : Nat) (f i) fun q => wC (pin f g i j q)) m (.exit 2) _ (by simp) (fun j hj => ?_) ?_
  · have st := tn_step n f m g (n + m - 1) (i : Nat) (j : Nat) (f i) (pin f g i j)
    have ew : w64 (((i : Nat) : Int) + ((j : Nat) : Int)) = ((i + j : Nat) : Int) := by rw [w64_id (by omega) (by omega)]; omega
    have e1 : tnM g (j : Nat) (f i) = f i * g j := by unfold tnM; rw [decW_w, decW_w, Int.toNat_natCast]
    have e2 : tnV g (i : Nat) (j : Nat) (f i) (pin f g i j) = pin f g i j (i + j) + f i * g j := by unfold tnV; rw [decW_w, decW_w, e1, ew, Int.toNat_natCast, Nat.zero_add]
    unfold tnT at st
    rw [e1, e2, ew, Int.toNat_natCast, Int.toNat_natCast, dec_lt hj, ixB_t hj, ixB_t (show i + j < n + m - 1 by omega), stU_t (show i + j < n + m - 1 by omega), stB_t (show i + j < n + m - 1 by omega), gate_pos (ti_spec (sf i) (sg j)), show 0 + (i + j) = i + j by omega, gate_pos (pl_spec (ss i j (i + j)) (sp i j)), w64_next (by omega)] at st
    refine (leads_ev (finN_sub _ _) e_nil ks noL_ok st).sub (Sub.refl _) ?_
    refine sub_same ⟨Or.inr ⟨68, 2, n + m - 1, _, _, rfl, rfl, fun q hq => ?_⟩, Or.inl rfl, trivial⟩
    rw [mixW, ← pin_next, Nat.zero_add]
  · refine leads_ev (finE_sub _ _) e_nil ks noL_ok ((tn_end n f m g (n + m - 1) (i : Nat) (m : Nat) (f i) (pin f g i m)).trans ?_)
    unfold tnT
    rw [dec_self, cond_false]
include hg
theorem to_leads : Leads Try.prog (.loop (loopAt Try.f43 0)) (toS n f m g (n + m - 1) 0 fun _ => wC 0) (.exit 0) (toS n f m g (n + m - 1) (n : Nat) fun q => wC (psm f g n q)) := by
  refine loop_rule (fun i => toS n f m g (n + m - 1) (i : Nat) fun q => wC (psm f g i q)) n (.exit 0) _ (by simp) (fun i hi => ?_) ?_
  · have inner := tn_leads hn hm sf sg sp ss hi
    rw [pin_zero, pin_all hg] at inner
    have hL : LOk Try.prog (toL n f m g (n + m - 1) (i : Nat) (psm f g i) (psm f g (i + 1))) (loopAt Try.f43 0) := lok_at (i := 8) 0 1 (by kernel_rfl) (by kernel_rfl) (toldF_sound inner)
    have st := to_step n f m g (n + m - 1) (i : Nat) (psm f g i) (psm f g (i + 1))
    unfold toT at st
    rw [dec_lt hi, ixB_t hi, gate_pos (Sub.refl _), w64_next (by omega)] at st
    exact leads_ev (finN_sub _ _) e_nil k_nil hL st
  · refine leads_ev (finE_sub _ _) e_nil k_nil (lok_none 8) ((to_end n f m g (n + m - 1) (n : Nat) (psm f g n)).trans ?_)
    rw [dec_self, cond_false]
theorem tm_spec : FSpec Try.prog 43 [pA n f, pA m g] (pA (tl (psm f g n) (n + m - 1)) (psm f g n)) := by
  have hL := lok_hd (c := bodyOf Try.f43) (i := 5) 1 (by kernel_rfl) (by kernel_rfl) (toldF_sound (keep := keepTo) (τ := [some 0]) (to_leads hn hm hg sf sg sp ss))
  have ev := to_ev n f m g (n + m - 1) (psm f g n) (tl (psm f g n) (n + m - 1))
  by_cases hz : n = 0 ∨ m = 0
  · have h0 : tl (psm f g n) (n + m - 1) = 0 := by
      refine tl_nought (fun q => ?_) _
      rcases hz with h | h
      · subst h; rfl
      · subst h
        have : ∀ i, psm f g i q = 0 := fun i => by
          induction i with
          | zero => rfl
          | succ i ih =>
            show psm f g i q + (if i ≤ q then f i * g (q - i) else 0) = 0
            rw [ih, hg (q - i) (Nat.zero_le _), Int.mul_zero]
            split <;> rfl
        exact this n
    rw [h0]
    refine FSpec.of_res (r := .x (.slice none 0 0)) (gspecZ (oneZ_ok (frzK_ok 0)) e_nil (k_cons kS_ok k_nil) m_nil Try.func43 (by kernel_rfl) (by kernel_rfl) hL rfl (ev.trans ?_)) fun _ _ => nil_like
    have : cond (((n : Nat) : Int) == 0) true (((m : Nat) : Int) == 0) = true := by
      rcases hz with h | h <;> subst h
      · rfl
      · cases (((n : Nat) : Int) == 0) <;> rfl
    rw [this]
    rfl
  · refine gspecZ (oneZ_ok (frzK_ok 0)) e_nil (k_cons kS_ok k_nil) m_nil Try.func43 (by kernel_rfl) (by kernel_rfl) hL rfl (ev.trans ?_)
    have ew : w64 (w64 (((n : Nat) : Int) + ((m : Nat) : Int)) - 1) = ((n + m - 1 : Nat) : Int) := by
      rw [w64_id (n := ((n : Nat) : Int) + ((m : Nat) : Int)) (by omega) (by omega), w64_id (by omega) (by omega)]; omega
    unfold toTail
    rw [ew, beq_false_of_ne (show ((n : Nat) : Int) ≠ 0 by omega), beq_false_of_ne (show ((m : Nat) : Int) ≠ 0 by omega), mk32_t (by omega), Int.toNat_natCast, gate_pos (show Sub (toS n f m g (n + m - 1) 0 fun _ => wz) (toS n f m g (n + m - 1) 0 fun _ => wC 0) from wz_sub), fz1_t, gate_pos (show FSpec Try.prog 17 [.sl 2 (n + m - 1) fun q => wC (psm f g n q)] _ from po_spec (psm f g n) (by omega))]
    rfl
end
end Go.Proofs.Ytgijfbcfajhmlaa

namespace Go.Proofs.Ytgijfbcfajhmlaa
open Go.Gv

def miG (l : List AV) : AV := wA (-decW (a0 l))
/-! ### The rest, coefficient by coefficient -/
def trI (n : Nat) (f : Nat → Int) (m : Nat) (g : Nat → Int) (R : Nat) (top size lead sh i : Int) (Y : Nat → List AV) : St := mkS 104 [(0, pA n f), (1, pA m g), (5, .own 0 0), (6, .own 1 0), (7, .own 2 0), (8, iA sh), (9, .osl 3 2 0 R), (52, iA (R : Nat)), (53, iA i)] [.c (wC top), .c (wC size), .c (wC lead), .a 68 2 R Y]
def keepTi : List Nat := [0, 1, 5, 6, 7, 8, 9, 52, 53]
section
variable (n : Nat) (f : Nat → Int) (m : Nat) (g : Nat → Int) (R : Nat) (top size lead sh i : Int) (y : Nat → Int)
def trV1 : Int := decW (wA (f i.toNat)) * decW (wA size)
def trM : Int := decW (wA lead) * decW (wA (g (w64 (i - sh)).toNat))
def trE : AV := .agg (mixL (0 + i.toNat == 0 + i.toNat) (wC (trV1 f size i)) (wC (y (0 + i.toNat))))
def trV2 : Int := decW (trE f size i y) + decW (wA (trM g lead sh i))
noncomputable def trT (x1 x2 z : Option Out) : Option Out := cond (decide (i < (R : Int))) (gate (FSpec Try.prog 45 [wA (f i.toNat), wA size] (wA (trV1 f size i))) (cond ((ixB i n || false) && stB i R) (cond (decide (i ≥ sh)) (gate (FSpec Try.prog 45 [wA lead, wA (g (w64 (i - sh)).toNat)] (wA (trM g lead sh i))) (gate (FSpec Try.prog 46 [trE f size i y, wA (trM g lead sh i)] (wA (trV2 f g size lead sh i y))) (cond ((ixB i R || false) && (stU i.toNat R && ((ixB (w64 (i - sh)) m || false) && stB i R))) x1 none))) x2) none)) z
theorem ri_step : evC Try.prog [] [kS Try.prog 45 tiG, kS Try.prog 46 plG] noL (loopAt Try.f53 1) (trI n f m g R top size lead sh i fun q => wC (y q)) (finN keepTi [some 0, some 1, some 2, some 3]) =
    trT n f m g R size lead sh i y (some ⟨.normal, trI n f m g R top size lead sh (w64 (i + 1)) fun q => mixL (q == 0 + i.toNat) (wC (trV2 f g size lead sh i y)) (mixL (q == 0 + i.toNat) (wC (trV1 f size i)) (wC (y q))), .any⟩)
      (some ⟨.normal, trI n f m g R top size lead sh (w64 (i + 1)) fun q => mixL (q == 0 + i.toNat) (wC (trV1 f size i)) (wC (y q)), .any⟩) none := by kernel_rfl
theorem ri_end : evC Try.prog [] [kS Try.prog 45 tiG, kS Try.prog 46 plG] noL (loopAt Try.f53 1) (trI n f m g R top size lead sh i fun q => wC (y q)) (finE keepTi [some 0, some 1, some 2, some 3]) =
    trT n f m g R size lead sh i y none none (some ⟨.exit 2, trI n f m g R top size lead sh i fun q => wC (y q), .any⟩) := by kernel_rfl
end
/-! ### Step by step -/
def trO (n : Nat) (f : Nat → Int) (m : Nat) (g : Nat → Int) (top size : Int) : St := mkS 104 [(0, pA n f), (1, pA m g), (5, .own 0 0), (6, .own 1 0)] [.c (wC top), .c (wC size)]
def keepTr : List Nat := [0, 1, 5, 6]
section
variable (n : Nat) (f : Nat → Int) (m : Nat) (g : Nat → Int) (R : Nat) (top size lead sh : Int) (y : Nat → Int) (k : Nat)
noncomputable def trL : Nat → Option LFun := oneL 12 (toldF keepTi [some 0, some 1, some 2, some 3] (trI n f m g R top size lead sh 0 fun _ => wC 0) (.exit 2) (trI n f m g R top size lead sh (R : Nat) fun q => wC (y q)))
noncomputable def trR (l : Int) (x : Option Out) : Option Out := cond (mk32 (w64 ((n : Int) - 1)) || false) (gate (Sub (trI n f m g (w64 ((n : Int) - 1)).toNat top size l (w64 ((n : Int) - (m : Int))) 0 fun _ => wz) (trI n f m g R top size lead sh 0 fun _ => wC 0)) (cond (fz1 R) (gate (FSpec Try.prog 17 [.sl 2 R fun q => wC (y q)] (pA k y)) x) none)) none
def trF : Int := f (w64 ((n : Int) - 1)).toNat
noncomputable def trQ (x z : Option Out) : Option Out := cond (decide ((n : Int) ≥ (m : Int))) (cond (ixB (w64 ((n : Int) - 1)) n || false) (cond (decide (top.sign > 0)) (gate (FSpec Try.prog 47 [wA (trF n f)] (wA (-decW (wA (trF n f))))) (trR n f m g R top size lead sh y k (-decW (wA (trF n f))) x)) (trR n f m g R top size lead sh y k (trF n f) x)) none) z
theorem tq_step : evCZ Try.prog [] [kS Try.prog 47 miG, kS Try.prog 17 (fun _ => pA k y)] [] (trL n f m g R top size lead sh y) (oneZ 18 (frzK 3)) (loopAt Try.f53 0) (trO n f m g top size) (finN keepTr [some 0, some 1]) = trQ n f m g R top size lead sh y k (some ⟨.normal, trO k y m g top size, .any⟩) none := by kernel_rfl
theorem tq_end : evCZ Try.prog [] [kS Try.prog 47 miG, ⟨17, fun _ _ => none⟩] [] (oneL 12 fun _ _ => none) (fun _ => none) (loopAt Try.f53 0) (trO n f m g top size) (finE keepTr [some 0, some 1]) =
    cond (decide ((n : Int) ≥ (m : Int))) (cond (ixB (w64 ((n : Int) - 1)) n || false) (cond (decide (top.sign > 0)) (gate (FSpec Try.prog 47 [wA (trF n f)] (wA (-decW (wA (trF n f))))) (cond (mk32 (w64 ((n : Int) - 1)) || false) none none)) (cond (mk32 (w64 ((n : Int) - 1)) || false) none none)) none) (some ⟨.exit 0, trO n f m g top size, .any⟩) := by kernel_rfl
end
/-! ### Turned -/
def tuS (n : Nat) (f : Nat → Int) (i : Int) (Y : Nat → List AV) : St := mkS 104 [(11, .osl 0 2 0 n), (90, pA n f), (91, iA (n : Nat)), (92, iA i)] [.a 68 2 n Y]
def keepTu : List Nat := [11, 90, 91, 92]
section
variable (n : Nat) (f : Nat → Int) (i : Int) (y : Nat → Int)
def tuV : Int := -decW (wA (f i.toNat))
noncomputable def tuT (x z : Option Out) : Option Out := cond (decide (i < (n : Int))) (cond (ixB i n || false) (gate (FSpec Try.prog 47 [wA (f i.toNat)] (wA (tuV f i))) (cond (ixB i n || false) (cond (stU i.toNat n) x none) none)) none) z
theorem tu_step : evC Try.prog [] [kS Try.prog 47 miG] noL (loopAt Try.f53 2) (tuS n f i fun q => wC (y q)) (finN keepTu [some 0]) = tuT n f i (some ⟨.normal, tuS n f (w64 (i + 1)) fun q => mixL (q == 0 + i.toNat) (wC (tuV f i)) (wC (y q)), .any⟩) none := by kernel_rfl
theorem tu_end : evC Try.prog [] [kS Try.prog 47 miG] noL (loopAt Try.f53 2) (tuS n f i fun q => wC (y q)) (finE keepTu [some 0]) = tuT n f i none (some ⟨.exit 4, tuS n f i fun q => wC (y q), .any⟩) := by kernel_rfl
end
section
variable (n : Nat) (f : Nat → Int) (m : Nat) (g : Nat → Int) (top size : Int) (n1 : Nat) (f1 y : Nat → Int)
noncomputable def tzL : Nat → Option LFun := twoL 5 (toldF keepTr [some 0, some 1] (trO n f m g top size) (.exit 0) (trO n1 f1 m g top size)) 21 (toldF keepTu [some 2] (tuS n1 f1 0 fun _ => wC 0) (.exit 4) (tuS n1 f1 (n1 : Nat) fun q => wC (y q)))
def tzG : Int := g (w64 ((m : Int) - 1)).toNat
noncomputable def tzW (s : Int) : Option Out := gate (Sub (trO n f m g (tzG m g) s) (trO n f m g top size)) (cond (mk32 (n1 : Nat) || false) (gate (Sub (tuS n1 f1 0 fun _ => wz) (tuS n1 f1 0 fun _ => wC 0)) (some (Out.of (.sl 2 n1 fun j => wC (y (0 + j)))))) none)
theorem tz_ev : ev Try.prog [] [kS Try.prog 47 miG] (tzL n f m g top size n1 f1 y) Try.f53 [pA n f, pA m g] ret =
    cond (ixB (w64 ((m : Int) - 1)) m || false) (cond (decide ((tzG m g).sign < 0)) (gate (FSpec Try.prog 47 [wA (tzG m g)] (wA (-decW (wA (tzG m g))))) (tzW n f m g top size n1 f1 y (-decW (wA (tzG m g))))) (tzW n f m g top size n1 f1 y (tzG m g))) none := by kernel_rfl
end
end Go.Proofs.Ytgijfbcfajhmlaa

namespace Go.Proofs.Ytgijfbcfajhmlaa
open Go.Gv

/-! ### The rest of a division, in plain words -/
def tpA (g : Nat → Int) (m : Nat) : Int := ((g (m - 1)).natAbs : Nat)
def ldA (f : Nat → Int) (n : Nat) (g : Nat → Int) (m : Nat) : Int := if g (m - 1) > 0 then -f (n - 1) else f (n - 1)
/-- One step: the highest power is gone. -/
def rst (f : Nat → Int) (n : Nat) (g : Nat → Int) (m q : Nat) : Int := f q * tpA g m + if n - m ≤ q then ldA f n g m * g (q - (n - m)) else 0
theorem rst_Cn {f g : Nat → Int} {n m : Nat} (hm : 1 ≤ m) (hn : m ≤ n) (hf : Cn n f) (hg : Cn m g) : Cn (n - 1) (rst f n g m) := fun q hq => by
  unfold rst
  rw [if_pos (by omega)]
  by_cases h : q = n - 1
  · subst h
    rw [show n - 1 - (n - m) = m - 1 by omega]
    unfold tpA ldA
    by_cases hp : g (m - 1) > 0
    · rw [if_pos hp, show (((g (m - 1)).natAbs : Nat) : Int) = g (m - 1) by omega, Int.neg_mul]; omega
    · rw [if_neg hp, show (((g (m - 1)).natAbs : Nat) : Int) = -g (m - 1) by omega, Int.mul_neg]; omega
  · rw [hf q (by omega), hg (q - (n - m)) (by omega)]
    simp
abbrev Ply : Type := Nat × (Nat → Int)
def rstep (m : Nat) (g : Nat → Int) (p : Ply) : Ply := (tl (rst p.2 p.1 g m) (p.1 - 1), rst p.2 p.1 g m)
def rit (m : Nat) (g : Nat → Int) : Nat → Ply → Ply
  | 0, p => p
  | j + 1, p => rit m g j (rstep m g p)
theorem rit_succ (m : Nat) (g : Nat → Int) : ∀ j p, rit m g (j + 1) p = rstep m g (rit m g j p)
  | 0, _ => rfl
  | j + 1, p => rit_succ m g j (rstep m g p)
def rcn (m : Nat) (g : Nat → Int) : Nat → Ply → Nat
  | 0, _ => 0
  | k + 1, p => if m ≤ p.1 then rcn m g k (rstep m g p) + 1 else 0
theorem rcn_ok {m : Nat} (hm : 1 ≤ m) (g : Nat → Int) : ∀ (k : Nat) (p : Ply), p.1 ≤ k → (∀ j, j < rcn m g k p → m ≤ (rit m g j p).1) ∧ (rit m g (rcn m g k p) p).1 < m
  | 0, p, h => ⟨fun j hj => by have : j < 0 := hj; omega, by show p.1 < m; omega⟩
  | k + 1, p, h => by
    unfold rcn
    by_cases hp : m ≤ p.1
    · rw [if_pos hp]
      obtain ⟨h1, h2⟩ := rcn_ok hm g k (rstep m g p) (by have := tl_le (rst p.2 p.1 g m) (p.1 - 1); show tl (rst p.2 p.1 g m) (p.1 - 1) ≤ k; omega)
      refine ⟨fun j hj => ?_, h2⟩
      cases j with
      | zero => exact hp
      | succ j => exact h1 j (by omega)
    · rw [if_neg hp]
      exact ⟨fun j hj => by omega, by show p.1 < m; omega⟩
theorem rcn_le (m : Nat) (g : Nat → Int) : ∀ (k : Nat) (p : Ply), rcn m g k p ≤ k
  | 0, _ => Nat.le_refl _
  | k + 1, p => by
    unfold rcn
    split
    · have := rcn_le m g k (rstep m g p); omega
    · omega
def rrem (m : Nat) (g : Nat → Int) (p : Ply) : Ply := rit m g (rcn m g p.1 p) p
theorem rit_Cn {m : Nat} (hm : 1 ≤ m) {g : Nat → Int} (hg : Cn m g) {p : Ply} (hp : Cn p.1 p.2) {k : Nat} (hk : ∀ j, j < k → m ≤ (rit m g j p).1) : ∀ j, j ≤ k → Cn (rit m g j p).1 (rit m g j p).2 ∧ (rit m g j p).1 ≤ p.1
  | 0, _ => ⟨hp, Nat.le_refl _⟩
  | j + 1, hj => by
    obtain ⟨h1, h2⟩ := rit_Cn hm hg hp hk j (by omega)
    rw [rit_succ]
    refine ⟨tl_Cn (rst_Cn hm (hk j (by omega)) h1 hg), ?_⟩
    have := tl_le (rst (rit m g j p).2 (rit m g j p).1 g m) ((rit m g j p).1 - 1)
    show tl (rst (rit m g j p).2 (rit m g j p).1 g m) ((rit m g j p).1 - 1) ≤ p.1
    omega
/-! ### One step, coefficient by coefficient -/
theorem ld_sm {n m : Nat} {f g : Nat → Int} (sf : ∀ i, Sm (f i)) (sp : ∀ i j, Sm (f i * g j)) : Sm (ldA f n g m) ∧ ∀ j, Sm (ldA f n g m * g j) := by
  unfold ldA
  by_cases h : g (m - 1) > 0
  · rw [if_pos h]
    refine ⟨?_, fun j => ?_⟩
    · unfold Sm; rw [Int.natAbs_neg]; exact sf _
    · unfold Sm; rw [Int.neg_mul, Int.natAbs_neg]; exact sp _ _
  · rw [if_neg h]; exact ⟨sf _, fun j => sp _ _⟩
theorem tp_sm {m : Nat} {f g : Nat → Int} (sg : ∀ i, Sm (g i)) (sp : ∀ i j, Sm (f i * g j)) : Sm (tpA g m) ∧ ∀ i, Sm (f i * tpA g m) := by
  unfold tpA Sm
  refine ⟨sg _, fun i => ?_⟩
  have := sp i (m - 1)
  unfold Sm at this
  rw [Int.natAbs_mul, Int.natAbs_natCast, ← Int.natAbs_mul]
  exact this
theorem leads_evZ {l : List Entry} {ks : List KEntry} {ms : List MEntry} {L : Nat → Option LFun} {Z : Nat → Option ZFun} (hZ : ∀ i h, Z i = some h → ZSoundN 0 h) (hl : ∀ e, e ∈ l → EOk Try.prog e) (hks : ∀ e, e ∈ ks → KOk Try.prog e) (hms : ∀ e, e ∈ ms → MEOk Try.prog e) {c : Code} {s s' : St} {e : Exit} {k : Kont} (hk : KSub k) (hL : LOk Try.prog L c) (h : evCZ Try.prog l ks ms L Z c s k = some ⟨e, s', .any⟩) : Leads Try.prog c s e s' :=
  leads_ofZ hk hZ (tabM_ok hl hks hms) (drawnK_ok (tabM_ok hl hks hms) (by kernel_rfl)) hL h
section
variable {n m : Nat} {f g : Nat → Int} (hn : n ≤ 1000000) (hm : 1 ≤ m) (hmn : m ≤ n) (sf : ∀ i, Sm (f i)) (sg : ∀ i, Sm (g i)) (sp : ∀ i j, Sm (f i * g j))
include hn hm hmn sf sg sp
theorem ri_leads : Leads Try.prog (.loop (loopAt Try.f53 1)) (trI n f m g (n - 1) (g (m - 1)) (tpA g m) (ldA f n g m) ((n - m : Nat) : Int) 0 fun _ => wC 0) (.exit 2) (trI n f m g (n - 1) (g (m - 1)) (tpA g m) (ldA f n g m) ((n - m : Nat) : Int) ((n - 1 : Nat) : Int) fun q => wC (upTo (rst f n g m) (n - 1) q)) := by
  have ks : ∀ e, e ∈ [kS Try.prog 45 tiG, kS Try.prog 46 plG] → KOk Try.prog e := k_cons kS_ok (k_cons kS_ok k_nil)
  obtain ⟨l1, l2⟩ := ld_sm (n := n) (m := m) sf sp
  obtain ⟨t1, t2⟩ := tp_sm (m := m) sg sp
  have key : Leads Try.prog (.loop (loopAt Try.f53 1)) (trI n f m g (n - 1) (g (m - 1)) (tpA g m) (ldA f n g m) ((n - m : Nat) : Int) ((0 : Nat) : Int) fun q => wC (upTo (rst f n g m) 0 q)) (.exit 2) (trI n f m g (n - 1) (g (m - 1)) (tpA g m) (ldA f n g m) ((n - m : Nat) : Int) ((n - 1 : Nat) : Int) fun q => wC (upTo (rst f n g m) (n - 1) q)) := by
    refine loop_rule (fun i => trI n f m g (n - 1) (g (m - 1)) (tpA g m) (ldA f n g m) ((n - m : Nat) : Int) (i : Nat) fun q => wC (upTo (rst f n g m) i q)) (n - 1) (.exit 2) _ (by simp) (fun i hi => ?_) ?_
    · have st := ri_step n f m g (n - 1) (g (m - 1)) (tpA g m) (ldA f n g m) ((n - m : Nat) : Int) (i : Nat) (upTo (rst f n g m) i)
      have e1 : trV1 f (tpA g m) (i : Nat) = f i * tpA g m := by unfold trV1; rw [decW_w, decW_w, Int.toNat_natCast]
      have eE : trE f (tpA g m) (i : Nat) (upTo (rst f n g m) i) = wA (f i * tpA g m) := by
        unfold trE
        rw [BEq.rfl, mixW, e1]
        rfl
      have h1 : FSpec Try.prog 45 [wA (f ((i : Nat) : Int).toNat), wA (tpA g m)] (wA (f i * tpA g m)) := ti_spec (sf _) t1
      unfold trT at st
      rw [dec_lt hi, e1, gate_pos h1, ixB_t (show i < n by omega), stB_t hi, w64_next (by omega)] at st
      by_cases hs : n - m ≤ i
      · have ew : w64 (((i : Nat) : Int) - ((n - m : Nat) : Int)) = ((i - (n - m) : Nat) : Int) := by rw [w64_id (by omega) (by omega)]; omega
        have e2 : trM g (ldA f n g m) ((n - m : Nat) : Int) (i : Nat) = ldA f n g m * g (i - (n - m)) := by unfold trM; rw [decW_w, decW_w, ew, Int.toNat_natCast]
        have e3 : trV2 f g (tpA g m) (ldA f n g m) ((n - m : Nat) : Int) (i : Nat) (upTo (rst f n g m) i) = rst f n g m i := by
          unfold trV2
          rw [eE, e2, decW_w, decW_w]
          unfold rst
          rw [if_pos hs]
        have h2 : FSpec Try.prog 45 [wA (ldA f n g m), wA (g (i - (n - m)))] (wA (ldA f n g m * g (i - (n - m)))) := ti_spec l1 (sg _)
        have h3 : FSpec Try.prog 46 [wA (f i * tpA g m), wA (ldA f n g m * g (i - (n - m)))] (wA (rst f n g m i)) := by
          have := pl_spec (t2 i) (l2 (i - (n - m)))
          unfold rst
          rw [if_pos hs]
          exact this
        rw [decide_eq_true (show ((i : Nat) : Int) ≥ ((n - m : Nat) : Int) by omega), e2, e3, eE, ew, Int.toNat_natCast, Int.toNat_natCast, gate_pos h2, gate_pos h3, ixB_t hi, stU_t hi, ixB_t (show i - (n - m) < m by omega)] at st
        refine (leads_ev (finN_sub _ _) e_nil ks noL_ok st).sub (Sub.refl _) ?_
        refine sub_same ⟨Or.inl rfl, Or.inl rfl, Or.inl rfl, Or.inr ⟨68, 2, n - 1, _, _, rfl, rfl, fun q hq => ?_⟩, trivial⟩
        rw [mixW, mixW, ← upTo_next]
        cases (q == 0 + i) <;> rfl
      · have e3 : f i * tpA g m = rst f n g m i := by unfold rst; rw [if_neg hs, Int.add_zero]
        rw [decide_eq_false (show ¬ ((i : Nat) : Int) ≥ ((n - m : Nat) : Int) by omega), Int.toNat_natCast, e3] at st
        refine (leads_ev (finN_sub _ _) e_nil ks noL_ok st).sub (Sub.refl _) ?_
        refine sub_same ⟨Or.inl rfl, Or.inl rfl, Or.inl rfl, Or.inr ⟨68, 2, n - 1, _, _, rfl, rfl, fun q hq => ?_⟩, trivial⟩
        rw [mixW, upTo_next]
    · refine leads_ev (finE_sub _ _) e_nil ks noL_ok ((ri_end n f m g (n - 1) (g (m - 1)) (tpA g m) (ldA f n g m) ((n - m : Nat) : Int) ((n - 1 : Nat) : Int) (upTo (rst f n g m) (n - 1))).trans ?_)
      unfold trT
      rw [dec_self, cond_false]
  rw [upTo_zero] at key
  exact key
end
end Go.Proofs.Ytgijfbcfajhmlaa

namespace Go.Proofs.Ytgijfbcfajhmlaa
open Go.Gv

theorem four_sub {sl : List (AV × Chain)} {e : TypeId} {n : Nat} {a b c : List AV} : Sub ⟨sl, [.c a, .c b, .c c, .a e 2 n fun _ => wz]⟩ ⟨sl, [.c a, .c b, .c c, .a e 2 n fun _ => wC 0]⟩ :=
  sub_like ⟨Or.inl rfl, Or.inl rfl, Or.inl rfl, Or.inr (Or.inl ⟨e, 2, n, _, _, rfl, rfl, fun _ _ => wz_like⟩), trivial⟩
section
variable {m : Nat} {g : Nat → Int} (hm : 1 ≤ m) (hg : Cn m g) (sg : ∀ i, Sm (g i))
include hm hg sg
theorem tq_leads {n : Nat} {f : Nat → Int} (hn : n ≤ 1000000) (hmn : m ≤ n) (hf : Cn n f) (sf : ∀ i, Sm (f i)) (sp : ∀ i j, Sm (f i * g j)) : Leads Try.prog (loopAt Try.f53 0) (trO n f m g (g (m - 1)) (tpA g m)) .normal (trO (tl (rst f n g m) (n - 1)) (rst f n g m) m g (g (m - 1)) (tpA g m)) := by
  have inner := ri_leads hn hm hmn sf sg sp
  rw [(rst_Cn hm hmn hf hg).upTo] at inner
  have hL : LOk Try.prog (trL n f m g (n - 1) (g (m - 1)) (tpA g m) (ldA f n g m) ((n - m : Nat) : Int) (rst f n g m)) (loopAt Try.f53 0) := lok_at (i := 12) 0 1 (by kernel_rfl) (by kernel_rfl) (toldF_sound inner)
  have st := tq_step n f m g (n - 1) (g (m - 1)) (tpA g m) (ldA f n g m) ((n - m : Nat) : Int) (rst f n g m) (tl (rst f n g m) (n - 1))
  have ew : w64 (((n : Nat) : Int) - 1) = ((n - 1 : Nat) : Int) := by rw [w64_id (by omega) (by omega)]; omega
  have ew2 : w64 (((n : Nat) : Int) - ((m : Nat) : Int)) = ((n - m : Nat) : Int) := by rw [w64_id (by omega) (by omega)]; omega
  have eF : trF n f = f (n - 1) := by unfold trF; rw [ew, Int.toNat_natCast]
  have hp : FSpec Try.prog 17 [.sl 2 (n - 1) fun q => wC (rst f n g m q)] (pA (tl (rst f n g m) (n - 1)) (rst f n g m)) := po_spec (rst f n g m) (by omega)
  have go : ∀ x, trR n f m g (n - 1) (g (m - 1)) (tpA g m) (ldA f n g m) ((n - m : Nat) : Int) (rst f n g m) (tl (rst f n g m) (n - 1)) (ldA f n g m) x = x := fun x => by
    unfold trR
    rw [ew, ew2, Int.toNat_natCast, mk32_t (by omega), gate_pos (show Sub (trI n f m g (n - 1) (g (m - 1)) (tpA g m) (ldA f n g m) ((n - m : Nat) : Int) 0 fun _ => wz) (trI n f m g (n - 1) (g (m - 1)) (tpA g m) (ldA f n g m) ((n - m : Nat) : Int) 0 fun _ => wC 0) from four_sub), fz1_t, gate_pos hp]
    rfl
  unfold trQ at st
  rw [decide_eq_true (show ((n : Nat) : Int) ≥ ((m : Nat) : Int) by omega), ew, ixB_t (show n - 1 < n by omega), eF, decW_w, gate_pos (mi_spec (f (n - 1)))] at st
  by_cases ht : g (m - 1) > 0
  · have el : -f (n - 1) = ldA f n g m := by unfold ldA; rw [if_pos ht]
    rw [show (g (m - 1)).sign = 1 from Int.sign_eq_one_of_pos ht, el, go] at st
    exact leads_evZ (oneZ_ok (frzK_ok 3)) e_nil (k_cons kS_ok (k_cons kS_ok k_nil)) m_nil (finN_sub _ _) hL st
  · have el : f (n - 1) = ldA f n g m := by unfold ldA; rw [if_neg ht]
    have es : decide ((g (m - 1)).sign > 0) = false := decide_eq_false (by rcases sign_cases (g (m - 1)) with ⟨h, h'⟩ | ⟨h, h'⟩ | ⟨h, h'⟩ <;> omega)
    rw [es] at st
    have hgo := (congrArg (fun l => trR n f m g (n - 1) (g (m - 1)) (tpA g m) (ldA f n g m) ((n - m : Nat) : Int) (rst f n g m) (tl (rst f n g m) (n - 1)) l (some ⟨.normal, trO (tl (rst f n g m) (n - 1)) (rst f n g m) m g (g (m - 1)) (tpA g m), .any⟩)) el).trans (go _)
    exact leads_evZ (oneZ_ok (frzK_ok 3)) e_nil (k_cons kS_ok (k_cons kS_ok k_nil)) m_nil (finN_sub _ _) hL (st.trans hgo)
theorem tq_all {p : Ply} (hn : p.1 ≤ 1000000) (hf : Cn p.1 p.2) (sf : ∀ j, j ≤ p.1 → ∀ i, Sm ((rit m g j p).2 i)) (sp : ∀ k, k ≤ p.1 → ∀ i j, Sm ((rit m g k p).2 i * g j)) : Leads Try.prog (.loop (loopAt Try.f53 0)) (trO p.1 p.2 m g (g (m - 1)) (tpA g m)) (.exit 0) (trO (rrem m g p).1 (rrem m g p).2 m g (g (m - 1)) (tpA g m)) := by
  obtain ⟨h1, h2⟩ := rcn_ok hm g p.1 p (Nat.le_refl _)
  refine loop_rule (fun j => trO (rit m g j p).1 (rit m g j p).2 m g (g (m - 1)) (tpA g m)) (rcn m g p.1 p) (.exit 0) _ (by simp) (fun j hj => ?_) ?_
  · obtain ⟨c1, c2⟩ := rit_Cn hm hg hf h1 j (by omega)
    show Leads Try.prog _ _ .normal (trO (rit m g (j + 1) p).1 (rit m g (j + 1) p).2 m g (g (m - 1)) (tpA g m))
    rw [rit_succ]
    have hle := rcn_le m g p.1 p
    exact tq_leads hm hg sg (by omega) (h1 j hj) c1 (sf j (by omega)) (sp j (by omega))
  · obtain ⟨c1, c2⟩ := rit_Cn hm hg hf h1 _ (Nat.le_refl _)
    refine leads_evZ (Z := fun _ => none) (fun _ _ h => by cases h) e_nil (k_cons kS_ok (k_cons (kno_ok _) k_nil)) m_nil (finE_sub _ _) (lok_none 12) ((tq_end (rit m g (rcn m g p.1 p) p).1 (rit m g (rcn m g p.1 p) p).2 m g (g (m - 1)) (tpA g m)).trans ?_)
    rw [decide_eq_false (show ¬ (((rit m g (rcn m g p.1 p) p).1 : Nat) : Int) ≥ ((m : Nat) : Int) by omega)]
    rfl
end
def pneg (f : Nat → Int) (q : Nat) : Int := -f q
theorem neg_Cn {n : Nat} {f : Nat → Int} (h : Cn n f) : Cn n (pneg f) := fun i hi => by unfold pneg; rw [h i hi]; rfl
theorem tu_leads {n : Nat} {f : Nat → Int} (hn : n ≤ 1000000) (hf : Cn n f) : Leads Try.prog (.loop (loopAt Try.f53 2)) (tuS n f 0 fun _ => wC 0) (.exit 4) (tuS n f (n : Nat) fun q => wC (pneg f q)) := by
  have key : Leads Try.prog (.loop (loopAt Try.f53 2)) (tuS n f ((0 : Nat) : Int) fun q => wC (upTo (pneg f) 0 q)) (.exit 4) (tuS n f (n : Nat) fun q => wC (upTo (pneg f) n q)) := by
    refine loop_rule (fun i => tuS n f (i : Nat) fun q => wC (upTo (pneg f) i q)) n (.exit 4) _ (by simp) (fun i hi => ?_) ?_
    · have st := tu_step n f (i : Nat) (upTo (pneg f) i)
      have e : tuV f (i : Nat) = pneg f i := by unfold tuV pneg; rw [decW_w, Int.toNat_natCast]
      unfold tuT at st
      rw [dec_lt hi, ixB_t hi, e, Int.toNat_natCast, gate_pos (show FSpec Try.prog 47 [wA (f i)] (wA (pneg f i)) from mi_spec (f i)), stU_t hi, w64_next (by omega)] at st
      refine (leads_ev (finN_sub _ _) e_nil (k_cons kS_ok k_nil) noL_ok st).sub (Sub.refl _) ?_
      refine sub_same ⟨Or.inr ⟨68, 2, n, _, _, rfl, rfl, fun q hq => ?_⟩, trivial⟩
      rw [mixW, upTo_next]
    · refine leads_ev (finE_sub _ _) e_nil (k_cons kS_ok k_nil) noL_ok ((tu_end n f (n : Nat) (upTo (pneg f) n)).trans ?_)
      unfold tuT
      rw [dec_self, cond_false]
  rw [upTo_zero, (neg_Cn hf).upTo] at key
  exact key
theorem tz_spec {m : Nat} {g : Nat → Int} (hm : 1 ≤ m) (hm2 : m ≤ 1000000) (hg : Cn m g) (sg : ∀ i, Sm (g i)) {p : Ply} (hn : p.1 ≤ 1000000) (hf : Cn p.1 p.2) (sf : ∀ j, j ≤ p.1 → ∀ i, Sm ((rit m g j p).2 i)) (sp : ∀ k, k ≤ p.1 → ∀ i j, Sm ((rit m g k p).2 i * g j)) : FSpec Try.prog 53 [pA p.1 p.2, pA m g] (pA (rrem m g p).1 (pneg (rrem m g p).2)) := by
  obtain ⟨h1, h2⟩ := rcn_ok hm g p.1 p (Nat.le_refl _)
  obtain ⟨c1, c2⟩ := rit_Cn hm hg hf h1 _ (Nat.le_refl _)
  have c1 : Cn (rrem m g p).1 (rrem m g p).2 := c1
  have c2 : (rrem m g p).1 ≤ p.1 := c2
  have l1 := tq_all hm hg sg hn hf sf sp
  have l2 := tu_leads (n := (rrem m g p).1) (f := (rrem m g p).2) (by omega) c1
  have hL : LOk Try.prog (tzL p.1 p.2 m g (g (m - 1)) (tpA g m) (rrem m g p).1 (rrem m g p).2 (pneg (rrem m g p).2)) (bodyOf Try.f53) :=
    lok_two (lok_at 0 3 (by kernel_rfl) (by kernel_rfl) (toldF_sound l1)) (lok_at 2 3 (by kernel_rfl) (by kernel_rfl) (toldF_sound l2))
  refine gspec e_nil (k_cons kS_ok k_nil) Try.func53 (by kernel_rfl) (by kernel_rfl) hL rfl ((tz_ev p.1 p.2 m g (g (m - 1)) (tpA g m) (rrem m g p).1 (rrem m g p).2 (pneg (rrem m g p).2)).trans ?_)
  have ew : w64 (((m : Nat) : Int) - 1) = ((m - 1 : Nat) : Int) := by rw [w64_id (by omega) (by omega)]; omega
  have eG : tzG m g = g (m - 1) := by unfold tzG; rw [ew, Int.toNat_natCast]
  have e : (fun j => wC (pneg (rrem m g p).2 (0 + j))) = fun j => wC (pneg (rrem m g p).2 j) := funext fun j => by rw [Nat.zero_add]
  have go : tzW p.1 p.2 m g (g (m - 1)) (tpA g m) (rrem m g p).1 (rrem m g p).2 (pneg (rrem m g p).2) (tpA g m) = some (Out.of (pA (rrem m g p).1 (pneg (rrem m g p).2))) := by
    unfold tzW
    rw [eG, gate_pos (Sub.refl _), mk32_t (by omega), gate_pos (show Sub (tuS (rrem m g p).1 (rrem m g p).2 0 fun _ => wz) (tuS (rrem m g p).1 (rrem m g p).2 0 fun _ => wC 0) from wz_sub), e]
    rfl
  rw [eG, ew, ixB_t (show m - 1 < m by omega), decW_w, gate_pos (mi_spec (g (m - 1)))]
  by_cases ht : g (m - 1) < 0
  · rw [show (g (m - 1)).sign = -1 from Int.sign_eq_neg_one_of_neg ht, show -g (m - 1) = tpA g m by unfold tpA; omega, go]
    rfl
  · have es : decide ((g (m - 1)).sign < 0) = false := decide_eq_false (by rcases sign_cases (g (m - 1)) with ⟨h, h'⟩ | ⟨h, h'⟩ | ⟨h, h'⟩ <;> omega)
    rw [es, Bool.true_or, cond_true, cond_false]
    have : g (m - 1) = tpA g m := by unfold tpA; omega
    refine Eq.trans ?_ go
    congr 1
end Go.Proofs.Ytgijfbcfajhmlaa

namespace Go.Proofs.Ytgijfbcfajhmlaa
open Go.Gv

/-! ### signBeside -/
def seS (n : Nat) (f : Nat → Int) (x side t : Int) : St := mkS 22 [(0, pA n f), (2, iA side), (4, .own 0 0), (7, iA t)] [.c (wC x)]
def sbE (r : Int) : St := mkS 22 [(6, iA r)] []
def keepSb : List Nat := [0, 2, 4, 7]
section
variable (n : Nat) (f : Nat → Int) (x side t s : Int) (n1 : Nat) (f1 : Nat → Int)
noncomputable def sbT (a b : Option Out) : Option Out := gate (FSpec Try.prog 63 [pA n f, wA x] (iA s)) (cond (!(s == 0)) a (gate (FSpec Try.prog 52 [pA n f] (pA n1 f1)) b))
theorem sb_step : evC Try.prog [] [kS Try.prog 63 (fun _ => iA s), kS Try.prog 52 (fun _ => pA n1 f1)] noL (loopAt Try.f56 0) (seS n f x side t) (finN keepSb [some 0]) = sbT n f x s n1 f1 none (some ⟨.normal, seS n1 f1 x side (w64 (t * side)), .any⟩) := by kernel_rfl
theorem sb_ret : evC Try.prog [] [kS Try.prog 63 (fun _ => iA s), kS Try.prog 52 (fun _ => pA n1 f1)] noL (loopAt Try.f56 0) (seS n f x side t) (finR [6] []) = sbT n f x s n1 f1 (some ⟨.ret, sbE (w64 (s * t)), .any⟩) none := by kernel_rfl
theorem sb_ev (r : Int) : ev Try.prog [] [] (oneL 2 (toldF keepSb [some 0] (seS n f x side 1) .ret (sbE r))) Try.f56 [pA n f, wA x, iA side] ret = gate (Sub (seS n f x side 1) (seS n f x side 1)) (some (Out.of (iA r))) := by kernel_rfl
theorem ah_ev (r : Int) : ev Try.prog [] [kS Try.prog 56 (fun _ => iA r)] noL Try.f54 [pA n f, wA x] ret = gate (FSpec Try.prog 56 [pA n f, wA x, iA (-1)] (iA r)) (some (Out.of (iA r))) := by kernel_rfl
theorem bh_ev (r : Int) : ev Try.prog [] [kS Try.prog 56 (fun _ => iA r)] noL Try.f37 [pA n f, wA x] ret = gate (FSpec Try.prog 56 [pA n f, wA x, iA 1] (iA r)) (some (Out.of (iA r))) := by kernel_rfl
end
/-- Slope after slope. -/
def dit (f : Nat → Int) : Nat → Nat → Int
  | 0 => f
  | j + 1 => dsl (dit f j)
def hv (f : Nat → Int) (n : Nat) (x : Int) (j : Nat) : Int := hor (dit f j) x 0 (n - j)
/-- All that is worked out there has few enough words. -/
structure HB (n : Nat) (f : Nat → Int) (x : Int) : Prop where
  hn : n ≤ 1000000
  hx : Sm x
  hf : ∀ i, Sm (f i)
  hh : ∀ j, j < n → Sm (hor f x (n - j) j) ∧ Sm (hor f x (n - j) j * x)
theorem HB.at {n : Nat} {f : Nat → Int} {x : Int} (h : HB n f x) : FSpec Try.prog 63 [pA n f, wA x] (iA (hor f x 0 n).sign) := sa_spec (Nat.le_trans h.hn (by decide)) h.hx h.hf h.hh
def pw1 (side : Int) : Nat → Int
  | 0 => 1
  | j + 1 => pw1 side j * side
theorem pw1_small {side : Int} (h : side = 1 ∨ side = -1) : ∀ j, pw1 side j = 1 ∨ pw1 side j = -1
  | 0 => Or.inl rfl
  | j + 1 => by
    show pw1 side j * side = 1 ∨ pw1 side j * side = -1
    rcases pw1_small h j with e | e <;> rcases h with h | h <;> rw [e, h] <;> decide
theorem sb_spec {n : Nat} {f : Nat → Int} {x side : Int} (hs : side = 1 ∨ side = -1) {K : Nat} (hb : ∀ j, j ≤ K → HB (n - j) (dit f j) x) (h0 : ∀ j, j < K → hv f n x j = 0) (hK : hv f n x K ≠ 0) : FSpec Try.prog 56 [pA n f, wA x, iA side] (iA ((hv f n x K).sign * pw1 side K)) := by
  have ks : ∀ (s : Int) (n1 : Nat) (f1 : Nat → Int), ∀ e, e ∈ [kS Try.prog 63 (fun _ => iA s), kS Try.prog 52 (fun _ => pA n1 f1)] → KOk Try.prog e := fun _ _ _ => k_cons kS_ok (k_cons kS_ok k_nil)
  have hl : Leads Try.prog (.loop (loopAt Try.f56 0)) (seS n f x side 1) .ret (sbE ((hv f n x K).sign * pw1 side K)) := by
    refine loop_rule (fun j => seS (n - j) (dit f j) x side (pw1 side j)) K .ret _ (by simp) (fun j hj => ?_) ?_
    · have st := sb_step (n - j) (dit f j) x side (pw1 side j) 0 (n - (j + 1)) (dit f (j + 1))
      have h1 := (hb j (by omega)).at
      have hz : hor (dit f j) x 0 (n - j) = 0 := h0 j hj
      rw [hz] at h1
      have h2 : FSpec Try.prog 52 [pA (n - j) (dit f j)] (pA (n - (j + 1)) (dit f (j + 1))) := sl_spec (hb j (by omega)).hn (hb j (by omega)).hf
      have ew : w64 (pw1 side j * side) = pw1 side (j + 1) := by
        show w64 (pw1 side (j + 1)) = _
        rcases pw1_small hs (j + 1) with e | e <;> rw [e] <;> rfl
      unfold sbT at st
      rw [gate_pos (show FSpec Try.prog 63 [pA (n - j) (dit f j), wA x] (iA 0) from h1), gate_pos h2, ew] at st
      exact leads_ev (finN_sub _ _) e_nil (ks _ _ _) noL_ok st
    · have st := sb_ret (n - K) (dit f K) x side (pw1 side K) (hv f n x K).sign 0 f
      have h1 := (hb K (Nat.le_refl _)).at
      have hn0 : (hv f n x K).sign ≠ 0 := fun h => hK (Int.sign_eq_zero_iff_zero.1 h)
      have ew : w64 ((hv f n x K).sign * pw1 side K) = (hv f n x K).sign * pw1 side K := by
        rcases sign_cases (hv f n x K) with ⟨_, h⟩ | ⟨_, h⟩ | ⟨_, h⟩ <;> rcases pw1_small hs K with e | e <;> rw [h, e] <;> rfl
      unfold sbT at st
      rw [gate_pos (show FSpec Try.prog 63 [pA (n - K) (dit f K), wA x] (iA (hv f n x K).sign) from h1), beq_false_of_ne hn0, ew] at st
      exact leads_ev (finR_sub _ _) e_nil (ks _ _ _) noL_ok st
  refine gspec e_nil k_nil Try.func56 (by kernel_rfl) (by kernel_rfl) (lok_at (i := 2) 0 1 (by kernel_rfl) (by kernel_rfl) (toldF_sound (keep := keepSb) (τ := [some 0]) hl)) rfl ((sb_ev n f x side _).trans ?_)
  rw [gate_pos (Sub.refl _)]
/-! ### chainOf -/
def chS (k : Nat) (C : Nat → Ply) (n : Nat) (f : Nat → Int) (m : Nat) (g : Nat → Int) : St := mkS 21 [(0, pA n f), (3, .osl 0 1 0 k), (4, pA m g)] [.a 38 1 k fun q => [pA (C q).1 (C q).2]]
def keepCh : List Nat := [0, 3, 4]
section
variable (k : Nat) (C : Nat → Ply) (n : Nat) (f : Nat → Int) (m : Nat) (g : Nat → Int) (m1 : Nat) (g1 : Nat → Int)
noncomputable def chT (x z : Option Out) : Option Out := cond (decide ((m : Int) > 0)) (cond (apB k 24 || false) (gate (FSpec Try.prog 53 [pA n f, pA m g] (pA m1 g1)) x) none) z
def chN : St := mkS 21 [(0, pA m g), (3, .osl 0 1 0 (k + 1)), (4, pA m1 g1)] [.a 38 1 (k + 1) fun q => mixL (Nat.blt q k) [pA (C q).1 (C q).2] [pA m g]]
theorem ch_step : evC Try.prog [] [kS Try.prog 53 (fun _ => pA m1 g1)] noL (loopAt Try.f32 0) (chS k C n f m g) (finN keepCh [some 2]) = chT k n f m g m1 g1 (some ⟨.normal, chN k C m g m1 g1, .any⟩) none := by kernel_rfl
theorem ch_end : evC Try.prog [] [kS Try.prog 53 (fun _ => pA m1 g1)] noL (loopAt Try.f32 0) (chS k C n f m g) (finE keepCh [some 0]) = chT k n f m g m1 g1 none (some ⟨.exit 0, chS k C n f m g, .any⟩) := by kernel_rfl
theorem ch_ev (C1 : Nat → Ply) (n1 : Nat) (f1 : Nat → Int) (m2 : Nat) (g2 : Nat → Int) : ev Try.prog [] [kS Try.prog 52 (fun _ => pA m g), ⟨53, fun _ _ => none⟩] (oneL 3 (toldF keepCh [some 0] (chS 1 C n f m g) (.exit 0) (chS k C1 n1 f1 m2 g2))) Try.f32 [pA n f] ret =
    gate (FSpec Try.prog 52 [pA n f] (pA m g)) (gate (Sub (mkS 21 [(0, pA n f), (3, .osl 0 1 0 1), (4, pA m g)] [.a 38 1 1 (chunk [pA n f] 1)]) (chS 1 C n f m g)) (some (Out.of (.sl 1 k fun j => [pA (C1 (0 + j)).1 (C1 (0 + j)).2])))) := by kernel_rfl
end
end Go.Proofs.Ytgijfbcfajhmlaa

namespace Go.Proofs.Ytgijfbcfajhmlaa
open Go.Gv

theorem mixP (b : Bool) (n : Nat) (f : Nat → Int) (m : Nat) (g : Nat → Int) : mixL b [pA n f] [pA m g] = [cond b (pA n f) (pA m g)] := by
  unfold pA
  cases b <;> simp only [mixL, mixA, cond_true, cond_false, Nat.beq_refl, mixW]
/-- What comes next in a chain. -/
def nxt (a b : Ply) : Ply := ((rrem b.1 b.2 a).1, pneg (rrem b.1 b.2 a).2)
def cm (p : Ply) : Nat → Ply × Ply
  | 0 => (p, (p.1 - 1, dsl p.2))
  | j + 1 => ((cm p j).2, nxt (cm p j).1 (cm p j).2)
def cq (p : Ply) (j : Nat) : Ply := (cm p j).1
theorem cq_next (p : Ply) (j : Nat) : cq p (j + 1) = (cm p j).2 := rfl
theorem cq_zero (p : Ply) : cq p 0 = p := rfl
theorem cq_one (p : Ply) : cq p 1 = (p.1 - 1, dsl p.2) := rfl
theorem cq_two (p : Ply) (j : Nat) : cq p (j + 2) = nxt (cq p j) (cq p (j + 1)) := rfl
def PlyA (p : Ply) : AV := pA p.1 p.2
def chA (k : Nat) (C : Nat → Ply) : AV := .sl 1 k fun q => [PlyA (C q)]
/-- All that is worked out for the chain, up to its k-th, has few enough words. -/
structure CB (p : Ply) (k : Nat) : Prop where
  hn : p.1 ≤ 1000000
  hc : Cn p.1 p.2
  hf : ∀ i, Sm (p.2 i)
  hg : ∀ j, j < k → ∀ i, Sm ((cq p (j + 1)).2 i)
  hr : ∀ j, j < k → ∀ t, t ≤ (cq p j).1 → ∀ i, Sm ((rit (cq p (j + 1)).1 (cq p (j + 1)).2 t (cq p j)).2 i)
  hp : ∀ j, j < k → ∀ t, t ≤ (cq p j).1 → ∀ i l, Sm ((rit (cq p (j + 1)).1 (cq p (j + 1)).2 t (cq p j)).2 i * (cq p (j + 1)).2 l)
theorem cq_ok {p : Ply} {k : Nat} (h : CB p k) (hk : ∀ j, j < k → 0 < (cq p (j + 1)).1) : ∀ j, j ≤ k → (Cn (cq p j).1 (cq p j).2 ∧ (cq p j).1 ≤ 1000000) ∧ Cn (cq p (j + 1)).1 (cq p (j + 1)).2 ∧ (cq p (j + 1)).1 ≤ 1000000
  | 0, _ => ⟨⟨h.hc, h.hn⟩, dsl_Cn h.hc, by have := h.hn; show p.1 - 1 ≤ 1000000; omega⟩
  | j + 1, hj => by
    obtain ⟨⟨a1, a2⟩, b1, b2⟩ := cq_ok h hk j (by omega)
    refine ⟨⟨b1, b2⟩, ?_⟩
    have hm := hk j (by omega)
    obtain ⟨h1, h2⟩ := rcn_ok (m := (cq p (j + 1)).1) hm (cq p (j + 1)).2 (cq p j).1 (cq p j) (Nat.le_refl _)
    obtain ⟨c1, c2⟩ := rit_Cn hm b1 a1 h1 _ (Nat.le_refl _)
    rw [cq_two]
    have c2 : (nxt (cq p j) (cq p (j + 1))).1 ≤ (cq p j).1 := c2
    exact ⟨neg_Cn c1, by omega⟩
theorem ch_leads {p : Ply} {k : Nat} (h : CB p k) (hk1 : k ≤ 1000) (hk : ∀ j, j < k → 0 < (cq p (j + 1)).1) (hz : (cq p (k + 1)).1 = 0) : Leads Try.prog (.loop (loopAt Try.f32 0)) (chS 1 (cq p) p.1 p.2 (p.1 - 1) (dsl p.2)) (.exit 0) (chS (k + 1) (cq p) (cq p k).1 (cq p k).2 (cq p (k + 1)).1 (cq p (k + 1)).2) := by
  have ks : ∀ (n : Nat) (f : Nat → Int), ∀ e, e ∈ [kS Try.prog 53 (fun _ => pA n f)] → KOk Try.prog e := fun _ _ => k_cons kS_ok k_nil
  refine loop_rule (fun j => chS (j + 1) (cq p) (cq p j).1 (cq p j).2 (cq p (j + 1)).1 (cq p (j + 1)).2) k (.exit 0) _ (by simp) (fun j hj => ?_) ?_
  · obtain ⟨⟨a1, a2⟩, b1, b2⟩ := cq_ok h hk j (by omega)
    have st := ch_step (j + 1) (cq p) (cq p j).1 (cq p j).2 (cq p (j + 1)).1 (cq p (j + 1)).2 (cq p (j + 2)).1 (cq p (j + 2)).2
    have ht : FSpec Try.prog 53 [pA (cq p j).1 (cq p j).2, pA (cq p (j + 1)).1 (cq p (j + 1)).2] (pA (cq p (j + 2)).1 (cq p (j + 2)).2) := tz_spec (hk j hj) b2 b1 (h.hg j hj) a2 a1 (h.hr j hj) (h.hp j hj)
    unfold chT at st
    rw [decide_eq_true (show (((cq p (j + 1)).1 : Nat) : Int) > 0 by have := hk j hj; omega), apB_t (by omega), gate_pos ht] at st
    refine (leads_ev (finN_sub _ _) e_nil (ks _ _) noL_ok st).sub (Sub.refl _) ?_
    refine sub_same ⟨Or.inr ⟨38, 1, j + 1 + 1, _, _, rfl, rfl, fun q hq => ?_⟩, trivial⟩
    rw [mixP]
    cases hlt : Nat.blt q (j + 1)
    · have hge := not_blt hlt
      have : q = j + 1 := by omega
      subst this
      rfl
    · rfl
  · refine leads_ev (finE_sub _ _) e_nil (ks 0 p.2) noL_ok ((ch_end (k + 1) (cq p) (cq p k).1 (cq p k).2 (cq p (k + 1)).1 (cq p (k + 1)).2 0 p.2).trans ?_)
    unfold chT
    rw [hz]
    rfl
theorem ch_spec {p : Ply} {k : Nat} (h : CB p k) (hk1 : k ≤ 1000) (hk : ∀ j, j < k → 0 < (cq p (j + 1)).1) (hz : (cq p (k + 1)).1 = 0) : FSpec Try.prog 32 [PlyA p] (chA (k + 1) (cq p)) := by
  have hL := lok_at (c := bodyOf Try.f32) (i := 3) 0 1 (by kernel_rfl) (by kernel_rfl) (toldF_sound (keep := keepCh) (τ := [some 0]) (ch_leads h hk1 hk hz))
  refine gspec e_nil (k_cons kS_ok (k_cons (kno_ok _) k_nil)) Try.func32 (by kernel_rfl) (by kernel_rfl) hL rfl ((ch_ev (k + 1) (cq p) p.1 p.2 (p.1 - 1) (dsl p.2) (cq p) _ _ _ _).trans ?_)
  have hs : Sub (mkS 21 [(0, pA p.1 p.2), (3, .osl 0 1 0 1), (4, pA (p.1 - 1) (dsl p.2))] [.a 38 1 1 (chunk [pA p.1 p.2] 1)]) (chS 1 (cq p) p.1 p.2 (p.1 - 1) (dsl p.2)) := by
    refine sub_same ⟨Or.inr ⟨38, 1, 1, _, _, rfl, rfl, fun q hq => ?_⟩, trivial⟩
    have : q = 0 := by omega
    subst this
    rfl
  have e : (fun j => [pA (cq p (0 + j)).1 (cq p (0 + j)).2]) = fun j => [PlyA (cq p j)] := funext fun j => by rw [Nat.zero_add]; rfl
  rw [gate_pos (sl_spec h.hn h.hf), gate_pos hs, e]
  rfl
end Go.Proofs.Ytgijfbcfajhmlaa

namespace Go.Proofs.Ytgijfbcfajhmlaa
open Go.Gv

/-! ### changes -/
def skA (k : Nat) (C : Nat → Ply) (m : Nat) (u : Nat → Int) : AV := .ref [chA k C, sJ m u] 0
def cgS (fn : Nat) (k : Nat) (C : Nat → Ply) (m : Nat) (u : Nat → Int) (x cnt so i : Int) : St := mkS 37 [(0, skA k C m u), (2, .fn (.func fn) [] []), (7, .own 0 0), (8, iA cnt), (9, iA so), (18, chA k C), (19, iA (k : Nat)), (20, iA i)] [.c (wC x)]
def keepCg : List Nat := [0, 2, 7, 8, 9, 18, 19, 20]
noncomputable def cgT (k : Nat) (C : Nat → Ply) (x so i s : Int) (fn : Nat) (a b z : Option Out) : Option Out := cond (decide (i < (k : Int))) (cond (ixB i k || false) (gate (FSpec Try.prog fn [PlyA (C i.toNat), wA x] (iA s)) (cond (s == w64 (0 - so)) a b)) none) z
section
variable (k : Nat) (C : Nat → Ply) (m : Nat) (u : Nat → Int) (x cnt so i s at' : Int)
theorem cg_stepA : evC Try.prog [] [kS Try.prog 54 (fun _ => iA s)] noL (loopAt Try.f36 0) (cgS 54 k C m u x cnt so i) (finN keepCg [some 0]) = cgT k C x so i s 54 (some ⟨.normal, cgS 54 k C m u x (w64 (cnt + 1)) s (w64 (i + 1)), .any⟩) (some ⟨.normal, cgS 54 k C m u x cnt s (w64 (i + 1)), .any⟩) none := by kernel_rfl
theorem cg_endA : evC Try.prog [] [kS Try.prog 54 (fun _ => iA s)] noL (loopAt Try.f36 0) (cgS 54 k C m u x cnt so i) (finE keepCg [some 0]) = cgT k C x so i s 54 none none (some ⟨.exit 0, cgS 54 k C m u x cnt so i, .any⟩) := by kernel_rfl
theorem cg_evA : ev Try.prog [] [kS Try.prog 38 woG] (oneL 4 (toldF keepCg [some 0] (cgS 54 k C m u at' 0 0 0) (.exit 0) (cgS 54 k C m u at' cnt so i))) Try.f36 [skA k C m u, iA at', .fn (.func 54) [] []] ret = gate (FSpec Try.prog 38 [iA at'] (wA at')) (gate (Sub (cgS 54 k C m u at' 0 0 0) (cgS 54 k C m u at' 0 0 0)) (some (Out.of (iA cnt)))) := by kernel_rfl
end
section
variable (k : Nat) (C : Nat → Ply) (m : Nat) (u : Nat → Int) (x cnt so i s at' : Int)
theorem cg_stepB : evC Try.prog [] [kS Try.prog 37 (fun _ => iA s)] noL (loopAt Try.f36 0) (cgS 37 k C m u x cnt so i) (finN keepCg [some 0]) = cgT k C x so i s 37 (some ⟨.normal, cgS 37 k C m u x (w64 (cnt + 1)) s (w64 (i + 1)), .any⟩) (some ⟨.normal, cgS 37 k C m u x cnt s (w64 (i + 1)), .any⟩) none := by kernel_rfl
theorem cg_endB : evC Try.prog [] [kS Try.prog 37 (fun _ => iA s)] noL (loopAt Try.f36 0) (cgS 37 k C m u x cnt so i) (finE keepCg [some 0]) = cgT k C x so i s 37 none none (some ⟨.exit 0, cgS 37 k C m u x cnt so i, .any⟩) := by kernel_rfl
theorem cg_evB : ev Try.prog [] [kS Try.prog 38 woG] (oneL 4 (toldF keepCg [some 0] (cgS 37 k C m u at' 0 0 0) (.exit 0) (cgS 37 k C m u at' cnt so i))) Try.f36 [skA k C m u, iA at', .fn (.func 37) [] []] ret = gate (FSpec Try.prog 38 [iA at'] (wA at')) (gate (Sub (cgS 37 k C m u at' 0 0 0) (cgS 37 k C m u at' 0 0 0)) (some (Out.of (iA cnt)))) := by kernel_rfl
end
/-- The sign ahead of the j-th. -/
def prv (sg : Nat → Int) : Nat → Int
  | 0 => 0
  | j + 1 => sg j
/-- How often signs change. -/
def cgC (sg : Nat → Int) : Nat → Int
  | 0 => 0
  | j + 1 => cgC sg j + if sg j = -prv sg j then 1 else 0
theorem cgC_le (sg : Nat → Int) : ∀ j : Nat, 0 ≤ cgC sg j ∧ cgC sg j ≤ j
  | 0 => ⟨Int.le_refl _, Int.le_refl _⟩
  | j + 1 => by
    obtain ⟨h1, h2⟩ := cgC_le sg j
    show 0 ≤ cgC sg j + (if sg j = -prv sg j then 1 else 0) ∧ cgC sg j + (if sg j = -prv sg j then 1 else 0) ≤ ((j + 1 : Nat) : Int)
    split <;> constructor <;> omega
theorem prv_small {sg : Nat → Int} {k : Nat} (h : ∀ q, q < k → sg q = 1 ∨ sg q = -1) : ∀ i, i ≤ k → prv sg i = 0 ∨ prv sg i = 1 ∨ prv sg i = -1
  | 0, _ => Or.inl rfl
  | i + 1, hi => Or.inr (h i (by omega))
theorem cg_specA {k : Nat} {C : Nat → Ply} {m : Nat} {u : Nat → Int} {at' : Int} {sg : Nat → Int} (hk : k ≤ 1000) (ha : -9223372036854775808 ≤ at') (hb : at' ≤ 9223372036854775807) (h1 : ∀ q, q < k → sg q = 1 ∨ sg q = -1) (hs : ∀ q, q < k → FSpec Try.prog 54 [PlyA (C q), wA at'] (iA (sg q))) : FSpec Try.prog 36 [skA k C m u, iA at', .fn (.func 54) [] []] (iA (cgC sg k)) := by
  have ks : ∀ s : Int, ∀ e, e ∈ [kS Try.prog 54 (fun _ => iA s)] → KOk Try.prog e := fun _ => k_cons kS_ok k_nil
  have hl : Leads Try.prog (.loop (loopAt Try.f36 0)) (cgS 54 k C m u at' 0 0 0) (.exit 0) (cgS 54 k C m u at' (cgC sg k) (prv sg k) (k : Nat)) := by
    refine loop_rule (fun i => cgS 54 k C m u at' (cgC sg i) (prv sg i) (i : Nat)) k (.exit 0) _ (by simp) (fun i hi => ?_) ?_
    · have st := cg_stepA k C m u at' (cgC sg i) (prv sg i) (i : Nat) (sg i)
      have hp : w64 (0 - prv sg i) = -prv sg i := by
        rcases prv_small h1 i (Nat.le_of_lt hi) with e | e | e <;> rw [e] <;> rfl
      have hc := cgC_le sg i
      unfold cgT at st
      rw [dec_lt hi, ixB_t hi, Int.toNat_natCast, gate_pos (hs i hi), hp, w64_next (by omega), w64_id (n := cgC sg i + 1) (by omega) (by omega)] at st
      show Leads Try.prog _ _ .normal (cgS 54 k C m u at' (cgC sg i + if sg i = -prv sg i then 1 else 0) (sg i) ((i + 1 : Nat) : Int))
      by_cases h : sg i = -prv sg i
      · rw [h, BEq.rfl, ← h] at st
        rw [if_pos h]
        exact leads_ev (finN_sub _ _) e_nil (ks _) noL_ok st
      · rw [beq_false_of_ne h] at st
        rw [if_neg h, Int.add_zero]
        exact leads_ev (finN_sub _ _) e_nil (ks _) noL_ok st
    · refine leads_ev (finE_sub _ _) e_nil (ks 0) noL_ok ((cg_endA k C m u at' (cgC sg k) (prv sg k) (k : Nat) 0).trans ?_)
      unfold cgT
      rw [dec_self, cond_false]
  refine gspec e_nil (k_cons kS_ok k_nil) Try.func36 (by kernel_rfl) (by kernel_rfl) (lok_at (i := 4) 0 1 (by kernel_rfl) (by kernel_rfl) (toldF_sound (keep := keepCg) (τ := [some 0]) hl)) rfl ((cg_evA k C m u _ _ _ at').trans ?_)
  rw [gate_pos (wo_spec ha hb), gate_pos (Sub.refl _)]
theorem cg_specB {k : Nat} {C : Nat → Ply} {m : Nat} {u : Nat → Int} {at' : Int} {sg : Nat → Int} (hk : k ≤ 1000) (ha : -9223372036854775808 ≤ at') (hb : at' ≤ 9223372036854775807) (h1 : ∀ q, q < k → sg q = 1 ∨ sg q = -1) (hs : ∀ q, q < k → FSpec Try.prog 37 [PlyA (C q), wA at'] (iA (sg q))) : FSpec Try.prog 36 [skA k C m u, iA at', .fn (.func 37) [] []] (iA (cgC sg k)) := by
  have ks : ∀ s : Int, ∀ e, e ∈ [kS Try.prog 37 (fun _ => iA s)] → KOk Try.prog e := fun _ => k_cons kS_ok k_nil
  have hl : Leads Try.prog (.loop (loopAt Try.f36 0)) (cgS 37 k C m u at' 0 0 0) (.exit 0) (cgS 37 k C m u at' (cgC sg k) (prv sg k) (k : Nat)) := by
    refine loop_rule (fun i => cgS 37 k C m u at' (cgC sg i) (prv sg i) (i : Nat)) k (.exit 0) _ (by simp) (fun i hi => ?_) ?_
    · have st := cg_stepB k C m u at' (cgC sg i) (prv sg i) (i : Nat) (sg i)
      have hp : w64 (0 - prv sg i) = -prv sg i := by
        rcases prv_small h1 i (Nat.le_of_lt hi) with e | e | e <;> rw [e] <;> rfl
      have hc := cgC_le sg i
      unfold cgT at st
      rw [dec_lt hi, ixB_t hi, Int.toNat_natCast, gate_pos (hs i hi), hp, w64_next (by omega), w64_id (n := cgC sg i + 1) (by omega) (by omega)] at st
      show Leads Try.prog _ _ .normal (cgS 37 k C m u at' (cgC sg i + if sg i = -prv sg i then 1 else 0) (sg i) ((i + 1 : Nat) : Int))
      by_cases h : sg i = -prv sg i
      · rw [h, BEq.rfl, ← h] at st
        rw [if_pos h]
        exact leads_ev (finN_sub _ _) e_nil (ks _) noL_ok st
      · rw [beq_false_of_ne h] at st
        rw [if_neg h, Int.add_zero]
        exact leads_ev (finN_sub _ _) e_nil (ks _) noL_ok st
    · refine leads_ev (finE_sub _ _) e_nil (ks 0) noL_ok ((cg_endB k C m u at' (cgC sg k) (prv sg k) (k : Nat) 0).trans ?_)
      unfold cgT
      rw [dec_self, cond_false]
  refine gspec e_nil (k_cons kS_ok k_nil) Try.func36 (by kernel_rfl) (by kernel_rfl) (lok_at (i := 4) 0 1 (by kernel_rfl) (by kernel_rfl) (toldF_sound (keep := keepCg) (τ := [some 0]) hl)) rfl ((cg_evB k C m u _ _ _ at').trans ?_)
  rw [gate_pos (wo_spec ha hb), gate_pos (Sub.refl _)]
/-! ### ahead, single -/
def cutA (a b s : Int) : AV := .agg [iA a, iA b, iA s]
section
variable (k : Nat) (C : Nat → Ply) (m : Nat) (u : Nat → Int) (at' c s : Int)
theorem ahd_ev : ev Try.prog [] [kS Try.prog 38 woG, kS Try.prog 54 (fun _ => iA s), kS Try.prog 36 (fun _ => iA c)] noL Try.f34 [skA k C m u, iA at'] ret =
    gate (FSpec Try.prog 36 [skA k C m u, iA at', .fn (.func 54) [] []] (iA c)) (gate (FSpec Try.prog 38 [iA at'] (wA at')) (gate (FSpec Try.prog 54 [PlyA (C 0), wA at'] (iA s)) (cond ((ixB 0 k || false) && true) (some (Out.of (cutA at' c s))) none))) := by kernel_rfl
end
def siS (k : Nat) (C : Nat → Ply) (m : Nat) (u : Nat → Int) (la lb ls ha hb hs a b : Int) : St := mkS 39 [(0, skA k C m u), (4, .own 0 0), (5, .own 1 0), (7, iA a), (8, iA b)] [.c [iA la, iA lb, iA ls], .c [iA ha, iA hb, iA hs]]
def keepSi : List Nat := [0, 4, 5, 7, 8]
section
variable (k : Nat) (C : Nat → Ply) (m : Nat) (u : Nat → Int) (la lb ls ha hb hs a b s : Int)
def siM : Int := w64 (a + w64 ((w64 (b - a)).tdiv 2))
noncomputable def siT (x y z : Option Out) : Option Out := cond (decide (w64 (b - a) > 1)) (gate (FSpec Try.prog 38 [iA (siM a b)] (wA (siM a b))) (gate (FSpec Try.prog 54 [PlyA (C 0), wA (siM a b)] (iA s)) (cond ((ixB 0 k || false) && true) (cond (s == ls) x y) none))) z
theorem si_step : evC Try.prog [] [kS Try.prog 38 woG, kS Try.prog 54 (fun _ => iA s)] noL (loopAt Try.f55 0) (siS k C m u la lb ls ha hb hs a b) (finN keepSi [some 0, some 1]) = siT k C ls a b s (some ⟨.normal, siS k C m u la lb ls ha hb hs (siM a b) b, .any⟩) (some ⟨.normal, siS k C m u la lb ls ha hb hs a (siM a b), .any⟩) none := by kernel_rfl
theorem si_end : evC Try.prog [] [kS Try.prog 38 woG, kS Try.prog 54 (fun _ => iA s)] noL (loopAt Try.f55 0) (siS k C m u la lb ls ha hb hs a b) (finE keepSi [some 0, some 1]) = siT k C ls a b s none none (some ⟨.exit 0, siS k C m u la lb ls ha hb hs a b, .any⟩) := by kernel_rfl
theorem si_ev (a' b' : Int) : ev Try.prog [] [] (oneL 2 (toldF keepSi [some 0, some 1] (siS k C m u la lb ls ha hb hs la ha) (.exit 0) (siS k C m u la lb ls ha hb hs a' b'))) Try.f55 [skA k C m u, cutA la lb ls, cutA ha hb hs] ret = gate (Sub (siS k C m u la lb ls ha hb hs la ha) (siS k C m u la lb ls ha hb hs la ha)) (some (Out.of (iA a'))) := by kernel_rfl
end
end Go.Proofs.Ytgijfbcfajhmlaa

namespace Go.Gv
open Go.RowKit Go.Ev
noncomputable section

theorem ixOf_none {l : List Nat} {k : Nat} (h : ixOf l k = none) : k ∉ l := fun hk => by
  unfold ixOf at h
  rw [List.findIdx?_eq_none_iff] at h
  have := h k hk
  simp at this
/-- Where the callee's rows lie among the caller's. -/
def putF (l : List Nat) (n : Nat) (i : Nat) : Option Nat := match l[i]? with
  | some k => some k
  | none => some (n + (i - l.length))
/-- The caller's rows behind the call. -/
structure MemF (l : List Nat) (mem mem1 mem' : List Row) : Prop where
  other : ∀ k, k ∉ l → k < mem.length → mem'[k]? = mem[k]?
  mine : ∀ (i k : Nat) (r : Row), l[i]? = some k → mem1[i]? = some r → mem'[k]? = some (renRow (putF l mem.length) r)
  fresh : ∀ (i : Nat) (r : Row), l.length ≤ i → mem1[i]? = some r → mem'[mem.length + (i - l.length)]? = some (renRow (putF l mem.length) r)
theorem wframe {P : Program} {f : Nat} {args args0 : List AV} {mem mem0 mem1 mem' : List Row} {v : AV} (h : GSpec P f args0 mem0 v mem1) (l : List Nat) (hl : l.length = mem0.length) (hnd : nodupB l = true)
    (hargs : args0 = renL (ixOf l) args) (hmem : ∀ (i k : Nat), l[i]? = some k → ∃ row, mem[k]? = some row ∧ row.live = true ∧ mem0[i]? = some (renRow (ixOf l) row)) (hF : MemF l mem mem1 mem') : WSpec P f args mem (renA (putF l mem.length) v) mem' := by
  refine ⟨h.1, fun A0 R w0 E cargs hW hgl hr => ?_⟩
  have dom : ∀ k p, E.O k = some p → k < mem.length := fun k p hp => by
    obtain ⟨row, h1, _⟩ := hW.rows k p.1 p.2 hp
    exact (List.getElem?_eq_some_iff.1 h1).1
  have lives : ∀ k, k ∈ l → liveAt mem k = true := fun k hk => by
    obtain ⟨i, hi⟩ := List.mem_iff_getElem?.1 hk
    obtain ⟨row, g1, g2, _⟩ := hmem i k hi
    unfold liveAt
    rw [g1]
    exact g2
  let O1 : Nat → Option (Nat × Nat × Nat) := fun i => (l[i]?).bind E.O
  let E1 : Env := { E with O := O1 }
  have hO1 : ∀ i b c, E1.O i = some (b, c) → ∃ k, l[i]? = some k ∧ E.O k = some (b, c) := fun i b c hi => by
    have hi : (l[i]?).bind E.O = some (b, c) := hi
    cases hx : l[i]? with
    | none => rw [hx] at hi; cases hi
    | some k => rw [hx] at hi; exact ⟨k, rfl, hi⟩
  have hO1' : ∀ (i k : Nat) (p : Nat × Nat × Nat), l[i]? = some k → E.O k = some p → O1 i = some p := fun i k p hi hp => by
    show (l[i]?).bind E.O = some p
    rw [hi]; exact hp
  have hσ : ∀ k i p, ixOf l k = some i → E.O k = some p → O1 i = some p := fun k i p hi hp => hO1' i k p (ixOf_some hi) hp
  let R1 : Nat → Prop := fun b => ∃ k c, k ∈ l ∧ E.O k = some (b, c)
  have hW1 : Wd E.A R1 E1 E1 mem0 := by
    refine ⟨fun i b c hi => ?_, hW.small, fun _ h => h, fun i b c hi _ => ?_, fun i j b c c' hi hj _ _ => ?_, BelowR.refl _ _, Env.le.refl _⟩
    · obtain ⟨k, h1, h2⟩ := hO1 i b c hi
      obtain ⟨row, g1, _, g2⟩ := hmem i k h1
      obtain ⟨row', g3, g4⟩ := hW.rows k b c h2
      rw [g1] at g3
      cases g3
      exact ⟨_, g2, renRow_rel hσ g4⟩
    · obtain ⟨k, h1, h2⟩ := hO1 i b c hi
      have hm := List.mem_of_getElem? h1
      exact ⟨(hW.own k b c h2 (lives k hm)).1, Or.inl ⟨k, c, hm, h2⟩⟩
    · obtain ⟨k, h1, h2⟩ := hO1 i b c hi
      obtain ⟨k', h3, h4⟩ := hO1 j b c' hj
      have := hW.one k k' b c c' h2 h4 (lives k (List.mem_of_getElem? h1)) (lives k' (List.mem_of_getElem? h3))
      subst this
      exact nodupB_get hnd i j k h1 h3
  have hpins : Pins mem0.length E1.A R1 E1 := by
    refine ⟨fun i hi => ?_, fun h0 => ⟨fun b hb => ?_, hW.small⟩⟩
    · show (l[i]?).bind E.O = none
      rw [List.getElem?_eq_none (by omega)]; rfl
    · obtain ⟨k, c, hk, _⟩ := hb
      have : l = [] := List.eq_nil_of_length_eq_zero (by omega)
      rw [this] at hk
      cases hk
  have hr1 : rels E1 args0 cargs.toList := by
    rw [hargs]
    exact relsA_ren args hσ _ hr
  refine (h.2 R1 E1 cargs hpins hW1 (glob_O hgl _) hr1).mono ?_
  rintro e w' ⟨u, E', rfl, rfl, hW2, hrel⟩
  have dom1 : ∀ i p, E'.O i = some p → ∃ r, mem1[i]? = some r := fun i p hp => by
    obtain ⟨row, h1, _⟩ := hW2.rows i p.1 p.2 hp
    exact ⟨row, h1⟩
  let O2 : Nat → Option (Nat × Nat × Nat) := fun k => match ixOf l k with
    | some i => E'.O i
    | none => if k < mem.length then E.O k else E'.O (l.length + (k - mem.length))
  let E2 : Env := { E' with O := O2 }
  have isIx : ∀ (i k : Nat), l[i]? = some k → ixOf l k = some i := fun i k hi => by
    cases hx : ixOf l k with
    | none => exact absurd (List.mem_of_getElem? hi) (ixOf_none hx)
    | some j => rw [nodupB_get hnd i j k hi (ixOf_some hx)]
  have hO2 : ∀ k p, E.O k = some p → E2.O k = some p := fun k p hp => by
    show (match ixOf l k with
      | some i => E'.O i
      | none => if k < mem.length then E.O k else E'.O (l.length + (k - mem.length))) = some p
    cases hx : ixOf l k with
    | none => rw [if_pos (dom k p hp)]; exact hp
    | some i => exact hW2.le0.own i p (hO1' i k p (ixOf_some hx) hp)
  /- what stands where, behind the call -/
  have hO2' : ∀ k p, E2.O k = some p → (k ∉ l ∧ k < mem.length ∧ E.O k = some p) ∨ ∃ i r, E'.O i = some p ∧ mem1[i]? = some r ∧ mem'[k]? = some (renRow (putF l mem.length) r) ∧ putF l mem.length i = some k := fun k p hp => by
    have hp : (match ixOf l k with
      | some i => E'.O i
      | none => if k < mem.length then E.O k else E'.O (l.length + (k - mem.length))) = some p := hp
    cases hx : ixOf l k with
    | some i =>
      rw [hx] at hp
      obtain ⟨r, hr⟩ := dom1 i p hp
      have hi := ixOf_some hx
      exact Or.inr ⟨i, r, hp, hr, hF.mine i k r hi hr, by unfold putF; rw [hi]⟩
    | none =>
      rw [hx] at hp
      by_cases hk : k < mem.length
      · simp only [if_pos hk] at hp
        exact Or.inl ⟨ixOf_none hx, hk, hp⟩
      · simp only [if_neg hk] at hp
        obtain ⟨r, hr⟩ := dom1 _ p hp
        have e : mem.length + (l.length + (k - mem.length) - l.length) = k := by omega
        have := hF.fresh _ r (Nat.le_add_right _ _) hr
        rw [e] at this
        exact Or.inr ⟨_, r, hp, hr, this, by unfold putF; rw [List.getElem?_eq_none (by omega)]; simp only; rw [e]⟩
  have hback : ∀ i k' p, putF l mem.length i = some k' → E'.O i = some p → O2 k' = some p := fun i k' p hi hp => by
    unfold putF at hi
    cases hx : l[i]? with
    | some k =>
      rw [hx] at hi
      simp only [Option.some.injEq] at hi
      subst hi
      show (match ixOf l k with
        | some i => E'.O i
        | none => if k < mem.length then E.O k else E'.O (l.length + (k - mem.length))) = some p
      rw [isIx i k hx]
      exact hp
    | none =>
      rw [hx] at hi
      simp only [Option.some.injEq] at hi
      have hil := List.getElem?_eq_none_iff.1 hx
      have hk : ixOf l k' = none := by
        cases hy : ixOf l k' with
        | none => rfl
        | some j =>
          obtain ⟨row, g1, _⟩ := hmem j k' (ixOf_some hy)
          have := (List.getElem?_eq_some_iff.1 g1).1
          omega
      show (match ixOf l k' with
        | some i => E'.O i
        | none => if k' < mem.length then E.O k' else E'.O (l.length + (k' - mem.length))) = some p
      rw [hk]
      simp only
      rw [if_neg (by omega), show l.length + (k' - mem.length) = i by omega]
      exact hp
  have hle : E.le E2 := ⟨hW2.le0.keep, hO2⟩
  have liv1 : ∀ (i k : Nat) (r : Row), mem1[i]? = some r → mem'[k]? = some (renRow (putF l mem.length) r) → liveAt mem' k = true → liveAt mem1 i = true := fun i k r h1 h2 h3 => by
    unfold liveAt at h3 ⊢
    rw [h2] at h3
    rw [h1]
    simp only [renRow_live] at h3
    exact h3
  have liv0 : ∀ k, k ∉ l → k < mem.length → liveAt mem' k = true → liveAt mem k = true := fun k h1 h2 h3 => by
    unfold liveAt at h3 ⊢
    rw [hF.other k h1 h2] at h3
    exact h3
  have cross : ∀ (k i : Nat) (b : Nat) (c c' : Nat × Nat), k ∉ l → E.O k = some (b, c) → liveAt mem k = true → E'.O i = some (b, c') → liveAt mem1 i = true → False := fun k i b c c' hk hb hlk ho hl1 => by
    rcases (hW2.own i b c' ho hl1).2 with ⟨k', c2, hk', hb'⟩ | g2
    · have := hW.one k k' b c c2 hb hb' hlk (lives k' hk')
      subst this
      exact hk hk'
    · have := hW.small b (hW.own k b c hb hlk).1
      have g2 : E.w.heap.size ≤ b := g2
      omega
  refine ⟨u, E2, rfl, rfl, hle, ⟨?_, hW2.small, fun b hb => hW2.old b (hW.old b hb), ?_, ?_, ?_, hW.le0.trans hle⟩, relA_ren v hback u hrel⟩
  · intro k b c hb
    rcases hO2' k _ hb with ⟨h1, h2, h3⟩ | ⟨i, r, h1, h2, h3, _⟩
    · obtain ⟨row, g3, g4⟩ := hW.rows k b c h3
      refine ⟨row, by rw [hF.other k h1 h2]; exact g3, rowRel_keep hle g4 fun hlv => ?_⟩
      have hlk : liveAt mem k = true := by unfold liveAt; rw [g3]; exact hlv
      refine hW2.below.block b (hW.small b (hW.own k b c h3 hlk).1) ?_
      rintro ⟨k', c', hk', hb'⟩
      have := hW.one k k' b c c' h3 hb' hlk (lives k' hk')
      subst this
      exact h1 hk'
    · obtain ⟨row', g3, g4⟩ := hW2.rows i b c h1
      have : row' = r := by
        have g3 : mem1[i]? = some row' := g3
        rw [h2] at g3
        cases g3
        rfl
      subst this
      exact ⟨_, h3, renRow_rel hback g4⟩
  · intro k b c hb hlv
    rcases hO2' k _ hb with ⟨h1, h2, h3⟩ | ⟨i, r, h1, h2, h3, _⟩
    · obtain ⟨g1, g2⟩ := hW.own k b c h3 (liv0 k h1 h2 hlv)
      exact ⟨hW2.old b g1, g2⟩
    · obtain ⟨g1, g2⟩ := hW2.own i b c h1 (liv1 i k r h2 h3 hlv)
      refine ⟨g1, ?_⟩
      rcases g2 with ⟨k', c', hk', hb'⟩ | g2
      · exact (hW.own k' b c' hb' (lives k' hk')).2
      · exact Or.inr (Nat.le_trans hW.below.size g2)
  · intro k k' b c c' hb hb' hlv hlv'
    rcases hO2' k _ hb with ⟨h1, h2, h3⟩ | ⟨i, r, h1, h2, h3, h4⟩
    · rcases hO2' k' _ hb' with ⟨g1, g2, g3⟩ | ⟨i', r', g1, g2, g3, _⟩
      · exact hW.one k k' b c c' h3 g3 (liv0 k h1 h2 hlv) (liv0 k' g1 g2 hlv')
      · exact (cross k i' b c c' h1 h3 (liv0 k h1 h2 hlv) g1 (liv1 i' k' r' g2 g3 hlv')).elim
    · rcases hO2' k' _ hb' with ⟨g1, g2, g3⟩ | ⟨i', r', g1, g2, g3, g4⟩
      · exact (cross k' i b c' c g1 g3 (liv0 k' g1 g2 hlv') h1 (liv1 i k r h2 h3 hlv)).elim
      · have := hW2.one i i' b c c' h1 g1 (liv1 i k r h2 h3 hlv) (liv1 i' k' r' g2 g3 hlv')
        subst this
        rw [h4] at g4
        cases g4
        rfl
  · refine ⟨hW2.below.os.trans hW.below.os, hW2.below.tape.trans hW.below.tape, hW2.below.output.trans hW.below.output, Nat.le_trans hW.below.size hW2.below.size, fun b hb hn => ?_⟩
    refine (hW2.below.block b (Nat.lt_of_lt_of_le hb hW.below.size) ?_).trans (hW.below.block b hb hn)
    rintro ⟨k, c, hk, hk2⟩
    rcases (hW.own k b c hk2 (lives k hk)).2 with h | h
    · exact hn h
    · omega
end
end Go.Gv
