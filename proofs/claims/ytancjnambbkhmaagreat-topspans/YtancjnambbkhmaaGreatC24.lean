/-
  Sx2 Gyw Gyl Sx5 Sxe Sxf Sx3 Sx6 Sx9 Sxg Sxh Sq3 Sxi Soj Sok Sol Som Son Soo Gyn Sop Soq Sor Sos Sot Sou Arg0 Sov Sxj Sxm Sxn Sxo Sxk Sxl Sxp Sxq, one behind the other.
-/
import Derived.Test.YtancjnambbkhmaaGreatC21
import Derived.Test.YtancjnambbkhmaaGreatC23
import Derived.Test.YtancjnambbkhmaaGreatC22
import Derived.Test.YtancjnambbkhmaaGreatC16
import Derived.Test.YtancjnambbkhmaaGreatC10
import Derived.Test.YtancjnambbkhmaaGreatRows
import Derived.Carry
import Derived.ChangeSlices
namespace Go.Proofs.YtancjnambbkhmaaGreat.Hs.So
open Go.Gv
open Go.Ev (cn fadd fsub fmul fdiv fsqrt fneg feq flt fle fgt fge fabs)

def q25 : Nat := 4598175219545276416
def half' : Nat := 4602678819172646912
def z13 : List AV := [iA 0, .f 0, .f 0, .f 0, .f 0, .f 0, .f 0, .f 0, .f 0, .f 0, .f 0, .f 0, iA 0]
def llR (raw : AV) (fr : Int) (m : Nat) (el : Nat → List AV) : St := mkS 80 [(0, raw), (1, iA fr), (4, .own 0 0), (5, .osl 1 1 0 m)] [.c z13, .a 3 1 m el]
def llS (raw : AV) (fr : Int) (m : Nat) (X : Nat → Int) : St := llR raw fr m fun q => [iA (X q)]
def keepLl : List Nat := [0, 1, 4, 5]
def aqB (n m : Nat) : Bool := (Nat.ble m n && Nat.ble ((m + 1) * 8) 140737488355328) || false
section
variable (raw : AV) (n : Nat) (hs : Nat → Int) (p : Option Addr) (c : Nat) (rf : Int → Int) (fr : Int) (m : Nat) (X : Nat → Int)
noncomputable def llC (raw : AV) (f : (Nat → List AV) → Option Out) (oe : Option Out) : Option Out := cond (decide ((m : Int) < w64 (fr + 9))) (gate (FSpec Tryz.prog 63 [raw, iA m] (iA (rf m))) (cond (aqB m m) (f fun q => mixL (Nat.blt q m) [iA (X q)] [iA (rf m)]) none)) oe
theorem ll_step : evC Tryz.prog [] [rwK rf] noL (loopAt Tryz.f80 0) (llS (sI n hs) fr m X) (finN keepLl [some 0, some 3]) = llC rf fr m X (sI n hs) (fun el => some ⟨.normal, llR (sI n hs) fr (m + 1) el, .any⟩) none := by kernel_rfl
theorem ll_end : evC Tryz.prog [] [rwK rf] noL (loopAt Tryz.f80 0) (llS (sI n hs) fr m X) (finE keepLl [some 0, some 1]) = llC rf fr m X (sI n hs) (fun _ => none) (some ⟨.exit 0, llS (sI n hs) fr m X, .any⟩) := by kernel_rfl
theorem ll_step0 : evC Tryz.prog [] [rwK rf] noL (loopAt Tryz.f80 0) (llS (xE p c) fr m X) (finN keepLl [some 0, some 3]) = llC rf fr m X (xE p c) (fun el => some ⟨.normal, llR (xE p c) fr (m + 1) el, .any⟩) none := by kernel_rfl
theorem ll_end0 : evC Tryz.prog [] [rwK rf] noL (loopAt Tryz.f80 0) (llS (xE p c) fr m X) (finE keepLl [some 0, some 1]) = llC rf fr m X (xE p c) (fun _ => none) (some ⟨.exit 0, llS (xE p c) fr m X, .any⟩) := by kernel_rfl
end
section
variable (raw : AV) (n : Nat) (hs : Nat → Int) (p : Option Addr) (c : Nat) (fr : Int) (m : Nat) (X : Nat → Int) (k : Int) (a : Nat → Nat) (sk : Int) (rd : Nat → Nat)
def rdG (rd : Nat → Nat) : List AV → AV
  | [.f x] => .f (rd x)
  | _ => .any
noncomputable def gRd (x : Nat) (o : Option Out) : Option Out := gate (FSpec Tryz.prog 113 [.f x] (.f (rd x))) o
def lX (v : Int) : Nat → Int := fun q => cond (q == 0 + fr.toNat) v (X q)
def lA (i : Nat) : Nat := rd (fmul (a i) q25)
def lO (B : Nat → Nat) : Option Out := some (Out.of (.agg [iA k, .f (lA a rd 0), .f (lA a rd 1), .f (lA a rd 2), .f (B 0), .f (B 1), .f (B 2), .f (a 6), .f (a 7), .f (a 8), .f (a 9), .f (a 10), iA sk]))
def lB : Nat → Nat := ls [fadd (lA a rd 0) (fadd (a 9) one), fadd (lA a rd 1) one, fadd (lA a rd 2) half']
noncomputable def lfK' (e : Int) : List KEntry := [kS Tryz.prog 36 fun _ => iA e, kS Tryz.prog 21 fun _ => SH k a sk, kS Tryz.prog 113 (rdG rd)]
def fz3 (m : Nat) : Bool := ((Nat.beq m m) && ((Nat.beq m m) && ((Nat.beq m m) && true))) || false
noncomputable def lfX (e v : Int) : Option Out := ow' fr m (gate (FSpec Tryz.prog 36 [iA (X (0 + fr.toNat)), iA 3] (iA e)) (ow' fr m (cond (fz3 m) (gate (FSpec Tryz.prog 21 [sI m (lX fr X v), iA fr, iA 1] (SH k a sk)) (gRd rd (fmul (a 0) q25) (gRd rd (fmul (a 1) q25) (gRd rd (fmul (a 2) q25)
  (cond (k == 2) (gRd rd (lB a rd 0) (gRd rd (lB a rd 1) (gRd rd (lB a rd 2) (lO k a sk rd (ls [rd (lB a rd 0), rd (lB a rd 1), rd (lB a rd 2)]))))) (lO k a sk rd (ls [a 3, a 4, a 5]))))))) none)))
def lfG (n : Nat) : Bool := ((Nat.ble 0 0) && (Nat.blt 0 n && (allB n (fun _ => true) && Nat.ble ((0 + n) * 8) 140737488355328))) || false
theorem lf_ev0 : evZ Tryz.prog R4 (lfK' k a sk rd 0) [] (oneL 2 (toldF keepLl [some 0, some 2] (llS (sI n hs) fr n X) (.exit 0) (llS (sI n hs) fr m X))) (oneZ 5 (frzK 1)) Tryz.f80 [sI n hs, iA fr] ret = cond (lfG n) (gate (Sub (llR (sI n hs) fr (0 + n) fun q => mixL (Nat.blt q 0) [] [iA (hs (q - 0))]) (llS (sI n hs) fr n X)) (lfX fr m X k a sk rd 0 0)) none := by kernel_rfl
theorem lf_ev1 : evZ Tryz.prog R4 (lfK' k a sk rd 1) [] (oneL 2 (toldF keepLl [some 0, some 2] (llS (sI n hs) fr n X) (.exit 0) (llS (sI n hs) fr m X))) (oneZ 5 (frzK 1)) Tryz.f80 [sI n hs, iA fr] ret = cond (lfG n) (gate (Sub (llR (sI n hs) fr (0 + n) fun q => mixL (Nat.blt q 0) [] [iA (hs (q - 0))]) (llS (sI n hs) fr n X)) (lfX fr m X k a sk rd 1 1)) none := by kernel_rfl
theorem lf_ev2 : evZ Tryz.prog R4 (lfK' k a sk rd 2) [] (oneL 2 (toldF keepLl [some 0, some 2] (llS (sI n hs) fr n X) (.exit 0) (llS (sI n hs) fr m X))) (oneZ 5 (frzK 1)) Tryz.f80 [sI n hs, iA fr] ret = cond (lfG n) (gate (Sub (llR (sI n hs) fr (0 + n) fun q => mixL (Nat.blt q 0) [] [iA (hs (q - 0))]) (llS (sI n hs) fr n X)) (lfX fr m X k a sk rd 2 4)) none := by kernel_rfl
theorem le_ev0 : evZ Tryz.prog R4 (lfK' k a sk rd 0) [] (oneL 2 (toldF keepLl [some 0, some 1] (llS (xE p c) fr 0 X) (.exit 0) (llS (xE p c) fr m X))) (oneZ 5 (frzK 1)) Tryz.f80 [xE p c, iA fr] ret = gate (Sub (llR (xE p c) fr 0 fun _ => []) (llS (xE p c) fr 0 X)) (lfX fr m X k a sk rd 0 0) := by kernel_rfl
theorem le_ev1 : evZ Tryz.prog R4 (lfK' k a sk rd 1) [] (oneL 2 (toldF keepLl [some 0, some 1] (llS (xE p c) fr 0 X) (.exit 0) (llS (xE p c) fr m X))) (oneZ 5 (frzK 1)) Tryz.f80 [xE p c, iA fr] ret = gate (Sub (llR (xE p c) fr 0 fun _ => []) (llS (xE p c) fr 0 X)) (lfX fr m X k a sk rd 1 1) := by kernel_rfl
theorem le_ev2 : evZ Tryz.prog R4 (lfK' k a sk rd 2) [] (oneL 2 (toldF keepLl [some 0, some 1] (llS (xE p c) fr 0 X) (.exit 0) (llS (xE p c) fr m X))) (oneZ 5 (frzK 1)) Tryz.f80 [xE p c, iA fr] ret = gate (Sub (llR (xE p c) fr 0 fun _ => []) (llS (xE p c) fr 0 X)) (lfX fr m X k a sk rd 2 4) := by kernel_rfl
end
end Go.Proofs.YtancjnambbkhmaaGreat.Hs.So

namespace Go.Proofs.YtancjnambbkhmaaGreat
open Go.Gv

section
end
end Go.Proofs.YtancjnambbkhmaaGreat

namespace Go.Gv
open Go.RowKit Go.Ev

/-- Rows that say no more, element by element. -/
def RowLike (row row' : Row) : Prop := row' = row ∨ (∃ e sz n el el', row = .a e sz n el ∧ row' = .a e sz n el' ∧ ∀ i, i < n → (el' i).length = (el i).length ∧ ∀ (E : Env) (cs : List Value), pre E (el i) cs → pre E (el' i) cs) ∨ ∃ l l', row = .c l ∧ row' = .c l' ∧ ∀ (E : Env) (cs : List Value), pre E l cs → pre E l' cs
def RowsLike : List Row → List Row → Prop
  | [], [] => True
  | r :: rs, r' :: rs' => RowLike r r' ∧ RowsLike rs rs'
  | _, _ => False
theorem RowsLike.get : ∀ {rs rs' : List Row}, RowsLike rs rs' → ∀ k : Nat, (rs[k]? = none ∧ rs'[k]? = none) ∨ ∃ r r', rs[k]? = some r ∧ rs'[k]? = some r' ∧ RowLike r r'
  | [], [], _, k => Or.inl ⟨by simp, by simp⟩
  | r :: rs, r' :: rs', h, k => by
    cases k with
    | zero => exact Or.inr ⟨r, r', rfl, rfl, h.1⟩
    | succ k => simpa using RowsLike.get h.2 k
  | [], _ :: _, h, _ => h.elim
  | _ :: _, [], h, _ => h.elim
theorem sub_like {np : Nat} {sl : List (AV × Chain)} {mem mem' : List Row} (h : RowsLike mem mem') : SubN np ⟨sl, mem⟩ ⟨sl, mem'⟩ := by
  intro A0 R w0 E a hp0 hI
  have lives : ∀ k, liveAt mem' k = liveAt mem k := fun k => by
    unfold liveAt
    rcases h.get k with ⟨h1, h2⟩ | ⟨r, r', h1, h2, h3⟩
    · rw [h1, h2]
    · rw [h1, h2]
      rcases h3 with rfl | ⟨e, sz, n, el, el', rfl, rfl, _⟩ | ⟨l, l', rfl, rfl, _⟩ <;> rfl
  refine ⟨E, rfl, hI.defers, hI.frame, ⟨fun k b c hb => ?_, hI.wd.small, hI.wd.old, fun k b c hb hl => hI.wd.own k b c hb (by rw [← lives]; exact hl), fun k k' b c c' hb hb' hl hl' => hI.wd.one k k' b c c' hb hb' (by rw [← lives]; exact hl) (by rw [← lives]; exact hl'), hI.wd.below, hI.wd.le0⟩⟩
  obtain ⟨row, h1, h2⟩ := hI.wd.rows k b c hb
  rcases h.get k with ⟨g1, _⟩ | ⟨r, r', g1, g2, g3⟩
  · have : mem[k]? = some row := h1
    rw [g1] at this; cases this
  · have : mem[k]? = some row := h1
    rw [g1] at this
    cases this
    refine ⟨r', g2, ?_⟩
    rcases g3 with rfl | ⟨e, sz, n, el, el', rfl, rfl, g4⟩ | ⟨l, l', rfl, rfl, g4⟩
    · exact h2
    · obtain ⟨cs, k1, k2, k3, k4, k5, k6⟩ := h2
      exact ⟨cs, k1, k2, k3, k4, k5, fun i hi => ⟨(g4 i hi).1.trans (k6 i hi).1, (g4 i hi).2 _ _ (k6 i hi).2⟩⟩
    · obtain ⟨cs, e, k1, k2⟩ := h2
      exact ⟨cs, e, k1, g4 _ _ k2⟩
end Go.Gv

namespace Go.Proofs.YtancjnambbkhmaaGreat.Hs.So
open Go.Gv
open Go.Ev (cn fadd fsub fmul fdiv fsqrt fneg feq flt fle fgt fge fabs VB)

theorem gspecZ {l : List Entry} {ks : List KEntry} {ms : List MEntry} {L : Nat → Option LFun} {Z : Nat → Option ZFun} (hZ : ∀ i h, Z i = some h → ZSoundN 0 h) (hl : ∀ e, e ∈ l → EOk Tryz.prog e) (hks : ∀ e, e ∈ ks → KOk Tryz.prog e) (hms : ∀ e, e ∈ ms → MEOk Tryz.prog e) {f : Nat} {fn : Func} (hf : Tryz.prog.funcs[f]? = some fn) (hnm : (fn.name == "runtime.NumGoroutine") = false) (hb : fn.body = some (bodyOf fn)) (hL : LOk Tryz.prog L (bodyOf fn))
    {args : List AV} (hlen : Nat.ble args.length fn.ntmps = true) {r : AV} (h : evZ Tryz.prog l ks ms L Z fn args ret = some (Out.of r)) : FSpec Tryz.prog f args r := spec_of_bodyZ hZ (tabM_ok hl hks hms) (drawnK_ok (tabM_ok hl hks hms) (by kernel_rfl)) 40 hf hnm hb hL hlen h
theorem like_eq {l l' : List AV} (h : l = l') : l'.length = l.length ∧ ∀ (E : Env) (cs : List Value), pre E l cs → pre E l' cs := by subst h; exact ⟨rfl, fun _ _ h => h⟩
def Rng (n : Nat) (hs : Nat → Int) : Prop := ∀ i, i < n → -9223372036854775808 ≤ hs i ∧ hs i ≤ 9223372036854775807
def rdF (x : Nat) : Nat := mth (rdI x)
def lfV (n : Nat) (hs : Nat → Int) (q : Nat) : Int := cond (Nat.blt q n) (hs q) (mrw n hs (q : Nat))
theorem lfV_rng {n : Nat} {hs : Nat → Int} (h : Rng n hs) (m : Nat) : Rng m (lfV n hs) := fun i _ => by
  unfold lfV
  cases hb : Nat.blt i n
  · exact mrw_range h (Int.natCast_nonneg i)
  · exact h i (Nat.le_of_ble_eq_true hb)
theorem ll_more {raw : AV} {fr : Int} {m : Nat} {X : Nat → Int} {v : Int} (h : X m = v) : Sub (llR raw fr (m + 1) fun q => mixL (Nat.blt q m) [iA (X q)] [iA v]) (llS raw fr (m + 1) X) := by
  refine sub_like ⟨Or.inl rfl, Or.inr (Or.inl ⟨3, 1, m + 1, _, _, rfl, rfl, fun q hq => like_eq ?_⟩), trivial⟩
  cases hb : Nat.blt q m
  · have := not_blt hb
    have eq : q = m := by omega
    subst eq; subst h; rfl
  · rfl
theorem aqB_t {m : Nat} (h : m ≤ 1000) : aqB m m = true := by
  unfold aqB
  rw [Nat.ble_eq_true_of_le (Nat.le_refl m), Nat.ble_eq_true_of_le (show (m + 1) * 8 ≤ 140737488355328 by omega)]; rfl
theorem ll_round {raw : AV} {n : Nat} {hs : Nat → Int} {f m : Nat} {X : Nat → Int} (hR : FSpec Tryz.prog 63 [raw, iA (m : Nat)] (iA (mrw n hs (m : Nat)))) (hX : X m = mrw n hs (m : Nat)) (hm : m < f + 9) (hf : f ≤ 100)
    (ev : evC Tryz.prog [] [rwK (mrw n hs)] noL (loopAt Tryz.f80 0) (llS raw (f : Nat) m X) (finN keepLl [some 0, some 3]) = llC (mrw n hs) (f : Nat) m X raw (fun el => some ⟨.normal, llR raw (f : Nat) (m + 1) el, .any⟩) none) : Leads Tryz.prog (loopAt Tryz.f80 0) (llS raw (f : Nat) m X) .normal (llS raw (f : Nat) (m + 1) X) := by
  refine (leads_ev (finN_sub keepLl [some 0, some 3]) e_nil (k_cons kS_ok k_nil) noL_ok (ev.trans ?_)).sub (Sub.refl _) (ll_more hX)
  unfold llC
  rw [decide_eq_true (show ((m : Nat) : Int) < w64 (((f : Nat) : Int) + 9) by rw [w64_id (by omega) (by omega)]; omega), gate_pos hR, aqB_t (by omega)]; rfl
theorem ll_last {raw : AV} {n : Nat} {hs : Nat → Int} {f m : Nat} {X : Nat → Int} (hm : f + 9 ≤ m) (hf : f ≤ 100)
    (ev : evC Tryz.prog [] [rwK (mrw n hs)] noL (loopAt Tryz.f80 0) (llS raw (f : Nat) m X) (finE keepLl [some 0, some 1]) = llC (mrw n hs) (f : Nat) m X raw (fun _ => none) (some ⟨.exit 0, llS raw (f : Nat) m X, .any⟩)) : Leads Tryz.prog (loopAt Tryz.f80 0) (llS raw (f : Nat) m X) (.exit 0) (llS raw (f : Nat) m X) := by
  refine leads_ev (finE_sub keepLl [some 0, some 1]) e_nil (k_cons kS_ok k_nil) noL_ok (ev.trans ?_)
  unfold llC
  rw [decide_eq_false (show ¬ ((m : Nat) : Int) < w64 (((f : Nat) : Int) + 9) by rw [w64_id (by omega) (by omega)]; omega)]; rfl
theorem lfV_ge {n : Nat} {hs : Nat → Int} {q : Nat} (h : n ≤ q) : lfV n hs q = mrw n hs (q : Nat) := by
  unfold lfV
  cases hb : Nat.blt q n
  · rfl
  · have : q < n := Nat.le_of_ble_eq_true hb
    omega
theorem ll_leads (n : Nat) (hs : Nat → Int) {f : Nat} (hf : f ≤ 100) : Leads Tryz.prog (.loop (loopAt Tryz.f80 0)) (llS (sI n hs) (f : Nat) n (lfV n hs)) (.exit 0) (llS (sI n hs) (f : Nat) (n + (f + 9 - n)) (lfV n hs)) := by
  refine loop_rule (fun k => llS (sI n hs) (f : Nat) (n + k) (lfV n hs)) (f + 9 - n) (.exit 0) _ (by simp) (fun k hk => ?_) ?_
  · exact ll_round (mraw (Int.natCast_nonneg _)) (lfV_ge (by omega)) (by omega) hf (ll_step n hs (mrw n hs) (f : Nat) (n + k) (lfV n hs))
  · exact ll_last (by omega) hf (ll_end n hs (mrw n hs) (f : Nat) (n + (f + 9 - n)) (lfV n hs))
theorem raw_empty (p : Option Addr) (c : Nat) (hs : Nat → Int) (k : Nat) : FSpec Tryz.prog 63 [xE p c, iA (k : Nat)] (iA (mrw 0 hs (k : Nat))) :=
  sp e_nil Tryz.func63 (by kernel_rfl) (by kernel_rfl) rfl (by kernel_rfl)
theorem lz_leads (p : Option Addr) (c : Nat) (hs : Nat → Int) {f : Nat} (hf : f ≤ 100) : Leads Tryz.prog (.loop (loopAt Tryz.f80 0)) (llS (xE p c) (f : Nat) 0 (lfV 0 hs)) (.exit 0) (llS (xE p c) (f : Nat) (f + 9) (lfV 0 hs)) := by
  refine loop_rule (fun k => llS (xE p c) (f : Nat) k (lfV 0 hs)) (f + 9) (.exit 0) _ (by simp) (fun k hk => ?_) ?_
  · exact ll_round (raw_empty p c hs k) (lfV_ge (Nat.zero_le _)) hk hf (ll_step0 p c (mrw 0 hs) (f : Nat) k (lfV 0 hs))
  · exact ll_last (Nat.le_refl _) hf (ll_end0 p c (mrw 0 hs) (f : Nat) (f + 9) (lfV 0 hs))
theorem ll_first {n : Nat} {hs : Nat → Int} {fr : Int} : Sub (llR (sI n hs) fr (0 + n) fun q => mixL (Nat.blt q 0) [] [iA (hs (q - 0))]) (llS (sI n hs) fr n (lfV n hs)) := by
  rw [Nat.zero_add]
  refine sub_like ⟨Or.inl rfl, Or.inr (Or.inl ⟨3, 1, n, _, _, rfl, rfl, fun q hq => like_eq ?_⟩), trivial⟩
  unfold lfV
  rw [blt_t hq]
  rfl
theorem le_first {raw : AV} {fr : Int} {X : Nat → Int} : Sub (llR raw fr 0 fun _ => []) (llS raw fr 0 X) := sub_like ⟨Or.inl rfl, Or.inr (Or.inl ⟨3, 1, 0, _, _, rfl, rfl, fun q hq => absurd hq (Nat.not_lt_zero q)⟩), trivial⟩
end Go.Proofs.YtancjnambbkhmaaGreat.Hs.So

namespace Go.Proofs.YtancjnambbkhmaaGreat.Hs.So
open Go.Gv
open Go.Ev (cn fadd fsub fmul fdiv fsqrt fneg feq flt fle fgt fge fabs VB key isNan isFin val flt_key fgt_key feq_key)

section
variable {n : Nat} {hs : Nat → Int} (h : Rng n hs) {f : Nat} (hf : f ≤ 200)
def x0v (n : Nat) (hs : Nat → Int) (f i : Nat) : Nat := mve n hs (w64 ((f : Nat) + 1)) 4000 i
include h hf
omit h in
theorem p_of {j : Int} (h1 : 0 ≤ j) (h2 : j ≤ 20) : 0 ≤ w64 ((f : Int) + j) ∧ w64 ((f : Int) + j) ≤ 1000 := by rw [w64_id (by omega) (by omega)]; omega
omit h in
theorem xs_k1 (hk : xK mpk (mrw n hs) (f : Nat) = 1) : FSpec Tryz.prog 21 [sI n hs, iA (f : Nat), iA 1] (SH 1 (ls [x0v n hs f 0, x0v n hs f 1, x0v n hs f 2, 0, 0, 0, 0, 0, 0, xR mpk mth (mrw n hs) (f : Nat), 0]) (mpk (mrw n hs (w64 ((f : Nat) + 7))) 1)) := by
  have p0 : (0 : Int) ≤ (f : Nat) := Int.natCast_nonneg f
  have p1 := p_of hf (j := 1) (by decide) (by decide)
  have p4 := p_of hf (j := 4) (by decide) (by decide)
  have p7 := p_of hf (j := 7) (by decide) (by decide)
  have p8 := p_of hf (j := 8) (by decide) (by decide)
  refine gspec M1_ok (k_cons kS_ok (k_cons kS_ok (k_cons kS_ok k_nil))) Tryz.func21 (by kernel_rfl) (by kernel_rfl) noL_ok rfl ((xs_ev n hs mpk mth (mrw n hs) (mve n hs) 0 0 0 (f : Nat)).trans ?_)
  unfold xX
  rw [gR_pos p0, gV_pos p1.1 p1.2 (Or.inl rfl), gR_pos p7.1, gV_pos p4.1 p4.2 (Or.inr (Or.inl rfl)), gR_pos p8.1]
  unfold xO xA
  rw [hk]
  rfl
omit h in
theorem xs_k2 (hk : xK mpk (mrw n hs) (f : Nat) = 2) : ∃ b0 b1 b2, FSpec Tryz.prog 21 [sI n hs, iA (f : Nat), iA 1] (SH 2 (ls [x0v n hs f 0, x0v n hs f 1, x0v n hs f 2, b0, b1, b2, 0, 0, 0, 0, 0]) (mpk (mrw n hs (w64 ((f : Nat) + 7))) 1)) := by
  have p0 : (0 : Int) ≤ (f : Nat) := Int.natCast_nonneg f
  have p1 := p_of hf (j := 1) (by decide) (by decide)
  have p4 := p_of hf (j := 4) (by decide) (by decide)
  have p5 := p_of hf (j := 5) (by decide) (by decide)
  have p6 := p_of hf (j := 6) (by decide) (by decide)
  have p7 := p_of hf (j := 7) (by decide) (by decide)
  have p8 := p_of hf (j := 8) (by decide) (by decide)
  refine ⟨xB2 mpk mth (mrw n hs) (mve n hs) (f : Nat) 0, xB2 mpk mth (mrw n hs) (mve n hs) (f : Nat) 1, xB2 mpk mth (mrw n hs) (mve n hs) (f : Nat) 2, gspec M1_ok (k_cons kS_ok (k_cons kS_ok (k_cons kS_ok k_nil))) Tryz.func21 (by kernel_rfl) (by kernel_rfl) noL_ok rfl ((xs_ev n hs mpk mth (mrw n hs) (mve n hs) 0 0 0 (f : Nat)).trans ?_)⟩
  unfold xX
  rw [gR_pos p0, gV_pos p1.1 p1.2 (Or.inl rfl), gR_pos p7.1, gV_pos p4.1 p4.2 (Or.inr (Or.inl rfl)), gR_pos p8.1, gR_pos p5.1, gR_pos p6.1]
  unfold xO xA
  rw [hk]
  generalize xB2 mpk mth (mrw n hs) (mve n hs) (f : Nat) = B
  rfl
theorem xs_k5 (hk : xK mpk (mrw n hs) (f : Nat) = 5) : ∃ x y w, FSpec Tryz.prog 21 [sI n hs, iA (f : Nat), iA 1] (SH 5 (ls [x0v n hs f 0, x0v n hs f 1, x0v n hs f 2, x, y, w, 0, 0, 0, xR mpk mth (mrw n hs) (f : Nat), 0]) (mpk (mrw n hs (w64 ((f : Nat) + 7))) 1)) ∧ ((x = mth (w64 (1 + mpk (mrw n hs (w64 ((f : Nat) + 5))) 3000)) ∧ y = 0 ∧ w = 0) ∨ (x = 0 ∧ y = mth (w64 (1 + mpk (mrw n hs (w64 ((f : Nat) + 5))) 3000)) ∧ w = 0) ∨ (x = 0 ∧ y = 0 ∧ w = mth (w64 (1 + mpk (mrw n hs (w64 ((f : Nat) + 5))) 3000)))) := by
  have p0 : (0 : Int) ≤ (f : Nat) := Int.natCast_nonneg f
  have p1 := p_of hf (j := 1) (by decide) (by decide)
  have p4 := p_of hf (j := 4) (by decide) (by decide)
  have p5 := p_of hf (j := 5) (by decide) (by decide)
  have p6 := p_of hf (j := 6) (by decide) (by decide)
  have p7 := p_of hf (j := 7) (by decide) (by decide)
  have p8 := p_of hf (j := 8) (by decide) (by decide)
  have ax := mpk_range (m := 3) (mrw_range h p6.1).1 (mrw_range h p6.1).2 (by decide)
  obtain ⟨x, y, w, hp, hd⟩ : ∃ x y w, FSpec Tryz.prog 66 [V 0 0 0, iA (mpk (mrw n hs (w64 ((f : Nat) + 6))) 3), .f (mth (w64 (1 + mpk (mrw n hs (w64 ((f : Nat) + 5))) 3000)))] (V x y w) ∧ ((x = mth (w64 (1 + mpk (mrw n hs (w64 ((f : Nat) + 5))) 3000)) ∧ y = 0 ∧ w = 0) ∨ (x = 0 ∧ y = mth (w64 (1 + mpk (mrw n hs (w64 ((f : Nat) + 5))) 3000)) ∧ w = 0) ∨ (x = 0 ∧ y = 0 ∧ w = mth (w64 (1 + mpk (mrw n hs (w64 ((f : Nat) + 5))) 3000)))) := by
    generalize mth (w64 (1 + mpk (mrw n hs (w64 ((f : Nat) + 5))) 3000)) = t
    have : mpk (mrw n hs (w64 ((f : Nat) + 6))) 3 = 0 ∨ mpk (mrw n hs (w64 ((f : Nat) + 6))) 3 = 1 ∨ mpk (mrw n hs (w64 ((f : Nat) + 6))) 3 = 2 := by omega
    rcases this with e | e | e <;> rw [e]
    · exact ⟨_, _, _, rput0 0 0 0 t, Or.inl ⟨rfl, rfl, rfl⟩⟩
    · exact ⟨_, _, _, rput1 0 0 0 t, Or.inr (Or.inl ⟨rfl, rfl, rfl⟩)⟩
    · exact ⟨_, _, _, rput2 0 0 0 t, Or.inr (Or.inr ⟨rfl, rfl, rfl⟩)⟩
  refine ⟨x, y, w, gspec M1_ok (k_cons kS_ok (k_cons kS_ok (k_cons kS_ok k_nil))) Tryz.func21 (by kernel_rfl) (by kernel_rfl) noL_ok rfl ((xs_ev n hs mpk mth (mrw n hs) (mve n hs) x y w (f : Nat)).trans ?_), hd⟩
  unfold xX x56 xPu
  rw [gR_pos p0, gV_pos p1.1 p1.2 (Or.inl rfl), gR_pos p7.1, gV_pos p4.1 p4.2 (Or.inr (Or.inl rfl)), gR_pos p8.1]
  unfold xO xA
  rw [hk]
  show gR n hs (mrw n hs) (w64 ((f : Nat) + 6)) (gR n hs (mrw n hs) (w64 ((f : Nat) + 5)) _) = _
  rw [gR_pos p6.1, gR_pos p5.1, gate_pos hp]
  rfl
end
theorem mth4 {c : Nat} (hc : c = 1074) {z : Int} (h : z.natAbs ≤ 4000) : VB 1 (c + 2) (mth z) := by
  have a := mth_mono hc (m := -4000) (n := z) (by omega) (by decide) (by omega)
  have b := mth_mono hc (m := z) (n := 4000) (by omega) (by omega) (by decide)
  have t1 : val (mth 4000) = ((1 * 2 ^ (c + 2) : Nat) : Int) := by subst hc; decide +kernel
  have t2 : val (mth (-4000)) = -((1 * 2 ^ (c + 2) : Nat) : Int) := by subst hc; decide +kernel
  refine ⟨(mth_vb hc (j := 3) (by decide) (by show _ ≤ 4096; omega)).1, ?_⟩
  have a := Go.Ev.val_le.2 a
  have b := Go.Ev.val_le.2 b
  generalize 1 * 2 ^ (c + 2) = B at *
  omega
theorem q25_unit {c x : Nat} (hc : c = 1074) (h : VB 1 (c + 2) x) : VB 1 c (fmul x q25) := by
  obtain ⟨d, hd⟩ : ∃ d, c = d + 2 := ⟨c - 2, by omega⟩
  have hh : VB 1 d q25 := by
    have e : (val q25).natAbs = 2 ^ 1072 := by decide +kernel
    refine ⟨by decide +kernel, ?_⟩
    rw [e, Nat.one_mul, show d = 1072 by omega]
    exact Nat.le_refl _
  exact Go.Ev.vb_mul hc h hh (k := c) (by omega) (by decide) (by decide) (by omega) (by omega)
theorem rdI_vb {c j x : Nat} (hc : c = 1074) (hj : j ≤ 46) (h : VB 1 (c + j) x) : (rdI x).natAbs ≤ 2 ^ (j + 11) := by
  have e60 : 2 ^ (j + 11) ≤ 2 ^ 57 := Nat.pow_le_pow_right (by decide) (by omega)
  have e : 2 ^ 57 = 144115188075855872 := by decide
  have go : ∀ {x}, VB 1 (c + j) x → 0 ≤ key x → 0 ≤ f2i .i64 (rdP x) ∧ (f2i .i64 (rdP x)).natAbs ≤ 2 ^ (j + 11) := fun {x} h h0 => by
    have v := rdP_vb hc hj h
    have hq : (val (rdP x)).natAbs / 2 ^ c ≤ 2 ^ (j + 11) := by
      refine Nat.le_trans (Go.Ev.VB.cut v) ?_
      rw [Nat.one_mul, Nat.pow_add, Nat.mul_comm, Nat.mul_div_cancel _ (Nat.two_pow_pos c)]
      exact Nat.le_refl _
    rw [Go.Ev.f2i_pos hc v.1 (rdP_pos hc hj h h0) (by omega)]
    generalize (val (rdP x)).natAbs / 2 ^ c = M at hq ⊢
    omega
  unfold rdI
  by_cases h0 : 0 ≤ key x
  · have := go h h0
    rw [not_flt0 h.1 h0, cond_false]; exact this.2
  · have k1 := (Go.Ev.key_fneg (Go.Ev.fin_not_nan h.1)).1
    have := go (Go.Ev.fneg_vb h) (by omega)
    generalize f2i .i64 (rdP (fneg x)) = q at this
    rw [flt0 h.1 (by omega), cond_true]
    generalize 2 ^ (j + 11) = B at *
    rw [w64_id (by omega) (by omega)]; omega
theorem mth_pos {z : Int} (h : 1 ≤ z) (h' : z ≤ 100000) : 0 < key (mth z) := by
  have a := mth_mono (c := 1074) rfl (m := 1) (n := z) h (by decide) (by omega)
  have b : 0 < key (mth 1) := by decide +kernel
  omega
end Go.Proofs.YtancjnambbkhmaaGreat.Hs.So

namespace Go.Proofs.YtancjnambbkhmaaGreat.Hs.So
open Go.Gv
open Go.Ev (cn fadd fsub fmul fdiv fsqrt fneg feq flt fle fgt fge fabs VB key isNan isFin val flt_key fgt_key feq_key)

/-- A leaf that may be, with small numbers. -/
def Good (k : Int) (a : Nat → Nat) (sk : Int) : Prop := LE k a sk ∧ ∀ i, i < 11 → isNan (a i) = false
theorem x0v_vb {c : Nat} (hc : c = 1074) {n : Nat} {hs : Nat → Int} (h : Rng n hs) {f : Nat} (hf : f ≤ 200) (i : Nat) (hi : i ≤ 10) : VB 1 (c + 2) (x0v n hs f i) := by
  have p1 := p_of hf (j := 1) (by decide) (by decide)
  have h : ∀ i, i < n → -9223372036854775808 ≤ hs i ∧ hs i ≤ 9223372036854775807 := h
  have p : 0 ≤ w64 (w64 ((f : Nat) + 1) + (i : Nat)) := by rw [w64_id (by omega) (by omega)]; omega
  unfold x0v mve mmi
  rw [show w64 (w64 (2 * 4000) + 1) = 8001 by decide]
  have z := mpk_range (m := 8001) (mrw_range h p).1 (mrw_range h p).2 (by decide)
  generalize mpk (mrw n hs (w64 (w64 ((f : Nat) + 1) + (i : Nat)))) 8001 = q at z ⊢
  rw [w64_id (by omega) (by omega)]
  exact mth4 hc (by omega)
theorem xR_ok {c : Nat} (hc : c = 1074) {n : Nat} {hs : Nat → Int} (h : Rng n hs) {f : Nat} (hf : f ≤ 200) : VB 1 (c + 3) (xR mpk mth (mrw n hs) (f : Nat)) ∧ 0 < key (xR mpk mth (mrw n hs) (f : Nat)) := by
  have p := p_of hf (j := 8) (by decide) (by decide)
  have z := mpk_range (m := 2500) (mrw_range (n := n) (hs := hs) h p.1).1 (mrw_range (n := n) (hs := hs) h p.1).2 (by decide)
  unfold xR
  generalize mpk (mrw n hs (w64 ((f : Nat) + 8))) 2500 = q at z ⊢
  rw [w64_id (by omega) (by omega)]
  exact ⟨mth_vb hc (by decide) (by show _ ≤ 4096; omega), mth_pos (by omega) (by omega)⟩
theorem tu_ok {c : Nat} (hc : c = 1074) {n : Nat} {hs : Nat → Int} (h : Rng n hs) {f : Nat} (hf : f ≤ 200) : VB 1 (c + 3) (mth (w64 (1 + mpk (mrw n hs (w64 ((f : Nat) + 5))) 3000))) ∧ 0 < key (mth (w64 (1 + mpk (mrw n hs (w64 ((f : Nat) + 5))) 3000))) := by
  have p := p_of hf (j := 5) (by decide) (by decide)
  have z := mpk_range (m := 3000) (mrw_range (n := n) (hs := hs) h p.1).1 (mrw_range (n := n) (hs := hs) h p.1).2 (by decide)
  generalize mpk (mrw n hs (w64 ((f : Nat) + 5))) 3000 = q at z ⊢
  rw [w64_id (by omega) (by omega)]
  exact ⟨mth_vb hc (by decide) (by show _ ≤ 4096; omega), mth_pos (by omega) (by omega)⟩
theorem neZ_t {x : Nat} (hx : isFin x = true) (h : 0 < key x) : neZ x = true := by
  have k0 : key 0 = 0 := by decide +kernel
  unfold neZ
  rw [feq_key (Go.Ev.fin_not_nan hx) (by decide +kernel), decide_eq_false (by omega)]; rfl
theorem neZ_0 : neZ 0 = false := by decide +kernel
/-- The corner: rounded, in thousandths. -/
theorem lA_ok {c : Nat} (hc : c = 1074) {a : Nat → Nat} {i : Nat} (h : VB 1 (c + 2) (a i)) : ∃ p : Int, lA a rdF i = mth p ∧ p.natAbs ≤ 1000 := ⟨rdI (fmul (a i) q25), rfl, rdI_unit hc (q25_unit hc h)⟩
section
variable {c : Nat} (hc : c = 1074) {k : Int} {a : Nat → Nat} {sk : Int} (v0 : VB 1 (c + 2) (a 0)) (v1 : VB 1 (c + 2) (a 1)) (v2 : VB 1 (c + 2) (a 2))
include hc v0 v1 v2
theorem lt_A (hk : k ≠ 2) : (gRd rdF (fmul (a 0) q25) (gRd rdF (fmul (a 1) q25) (gRd rdF (fmul (a 2) q25)
  (cond (k == 2) (gRd rdF (lB a rdF 0) (gRd rdF (lB a rdF 1) (gRd rdF (lB a rdF 2) (lO k a sk rdF (ls [rdF (lB a rdF 0), rdF (lB a rdF 1), rdF (lB a rdF 2)]))))) (lO k a sk rdF (ls [a 3, a 4, a 5])))))) = some (Out.of (SH k (ls [lA a rdF 0, lA a rdF 1, lA a rdF 2, a 3, a 4, a 5, a 6, a 7, a 8, a 9, a 10]) sk)) := by
  have gr : ∀ {j x : Nat} {o : Option Out}, j ≤ 46 → VB 1 (c + j) x → gRd rdF x o = o := fun hj h => gate_pos (rd_spec (rd_fit hc hj h))
  rw [gr (j := 0) (by decide) (q25_unit hc v0), gr (j := 0) (by decide) (q25_unit hc v1), gr (j := 0) (by decide) (q25_unit hc v2), beq_false_of_ne hk]
  rfl
theorem lt_B (hk : k = 2) (h9 : a 9 = 0) : (gRd rdF (fmul (a 0) q25) (gRd rdF (fmul (a 1) q25) (gRd rdF (fmul (a 2) q25)
  (cond (k == 2) (gRd rdF (lB a rdF 0) (gRd rdF (lB a rdF 1) (gRd rdF (lB a rdF 2) (lO k a sk rdF (ls [rdF (lB a rdF 0), rdF (lB a rdF 1), rdF (lB a rdF 2)]))))) (lO k a sk rdF (ls [a 3, a 4, a 5])))))) = some (Out.of (SH k (ls [lA a rdF 0, lA a rdF 1, lA a rdF 2, rdF (fadd (lA a rdF 0) (fadd 0 one)), rdF (fadd (lA a rdF 1) one), rdF (fadd (lA a rdF 2) half'), a 6, a 7, a 8, a 9, a 10]) sk)) := by
  have gr : ∀ {j x : Nat} {o : Option Out}, j ≤ 46 → VB 1 (c + j) x → gRd rdF x o = o := fun hj h => gate_pos (rd_spec (rd_fit hc hj h))
  have w : ∀ {i e : Nat}, VB 1 (c + 2) (a i) → VB 1 (c + 1) e → VB 1 (c + (1 + 1)) (fadd (lA a rdF i) e) := fun {i e} hi he => by
    obtain ⟨p, e1, e2⟩ := lA_ok hc hi
    rw [e1]
    exact add_vb hc (by decide) (mth_vb1 hc (by omega)) he
  have l0' : lB a rdF 0 = fadd (lA a rdF 0) (fadd (a 9) one) := by unfold lB; rfl
  have l0 : lB a rdF 0 = fadd (lA a rdF 0) (fadd 0 one) := l0'.trans (by rw [h9])
  have l1 : lB a rdF 1 = fadd (lA a rdF 1) one := by unfold lB; rfl
  have l2 : lB a rdF 2 = fadd (lA a rdF 2) half' := by unfold lB; rfl
  rw [gr (j := 0) (by decide) (q25_unit hc v0), gr (j := 0) (by decide) (q25_unit hc v1), gr (j := 0) (by decide) (q25_unit hc v2), hk, l0, l1, l2]
  show gRd rdF _ (gRd rdF _ (gRd rdF _ _)) = _
  rw [gr (j := 1 + 1) (by decide) (w v0 (c_one' c hc)), gr (j := 1 + 1) (by decide) (w v1 (c_one c hc)), gr (j := 1 + 1) (by decide) (w (e := half') v2 (c_half c hc))]
  generalize rdF (fadd (lA a rdF 0) (fadd 0 one)) = y0
  generalize rdF (fadd (lA a rdF 1) one) = y1
  generalize rdF (fadd (lA a rdF 2) half') = y2
  rfl
end
/-- The far corner: no less, and small. -/
theorem far_ok {c : Nat} (hc : c = 1074) {p : Int} {e : Nat} (hp : p.natAbs ≤ 1000) (he : ∀ c, c = 1074 → VB 1 (c + 1) e) (hu : p ≤ rdI (fadd (mth p) e)) : VB 1 (c + 4) (rdF (fadd (mth p) e)) ∧ key (mth p) ≤ key (rdF (fadd (mth p) e)) := by
  have v : VB 1 (c + (1 + 1)) (fadd (mth p) e) := add_vb hc (by decide) (mth_vb1 hc (by omega)) (he c hc)
  have b := rdI_vb hc (by decide) v
  have b : (rdI (fadd (mth p) e)).natAbs ≤ 8192 := b
  exact ⟨mth_vb hc (by decide) (by show _ ≤ 8192; exact b), mth_mono hc hu (by omega) (by omega)⟩
end Go.Proofs.YtancjnambbkhmaaGreat.Hs.So

namespace Go.Proofs.YtancjnambbkhmaaGreat.Hs.So
open Go.Gv
open Go.Ev (cn fadd fsub fmul fdiv fsqrt fneg feq flt fle fgt fge fabs)

def sfE (n : Nat) (hs : Nat → Int) (N sk i : Int) (m : Nat) (pel : Nat → List AV) (k : Nat) (oel : Nat → List AV) : St := mkS 104 [(0, sI n hs), (1, iA 0), (6, .own 0 0), (7, .own 1 0), (8, iA N), (9, .osl 3 1 0 k), (10, iA i)] [.c [.x (.slice none 0 0), iA 0], .c [.osl 2 16 0 m, iA sk], .a 71 16 m pel, .a 3 1 k oel]
def sfS (n : Nat) (hs : Nat → Int) (N sk i : Int) (m : Nat) (PL : Nat → Prt) (k : Nat) (OL : Nat → Int) : St := sfE n hs N sk i m (fun q => (PL q).c) k fun q => [iA (OL q)]
def sfN (n : Nat) (hs : Nat → Int) (N sk : Int) : St := mkS 104 [(0, sI n hs), (1, iA 0), (6, .own 0 0), (7, .own 1 0), (8, iA N), (9, .x (.slice none 0 0)), (10, iA 0)] [.c [.x (.slice none 0 0), iA 0], .c [.x (.slice none 0 0), iA sk]]
def keepSf : List Nat := [0, 1, 6, 7, 8, 9, 10]
section
variable (n : Nat) (hs : Nat → Int) (pf : Int → Int → Int) (rf : Int → Int) (N sk i : Int) (m : Nat) (PL : Nat → Prt) (k : Nat) (OL : Nat → Int) (K : Int → Int) (A : Int → Nat → Nat) (S : Int → Int)
def sfT : Bool := cond (decide ((k : Int) > 1)) (cond (i == w64 (N - 1)) true (pf (rf (w64 (0 + i))) 2 == 0)) false
def k2 (k : Nat) : Int := w64 ((k : Int) - 2)
def k1 (k : Nat) : Int := w64 ((k : Int) - 1)
def sfC11 : Bool := (ixB (k2 k) k || false) && ((bl' (k2 k) k) && ((ixB (k1 k) k || false) && ((bl' (k1 k) k) && ((apB m 128 || false) && true))))
def sfLn : Nat := sbN none (some (k2 k)) k
def sfC12 : Bool := (sbB none (some (k2 k)) none k || false) && ((((Nat.ble (sfLn k) k) && Nat.ble ((sfLn k + 1) * 8) 140737488355328) || false) && true)
def zsP (op l r : Int) : Prt := ⟨op, l, r, 0, fun _ => 0, 0⟩
def sfP : Prt := zsP (w64 (1 + pf (rf (w64 (w64 (0 + 3) + i))) 3)) (OL (0 + (k2 k).toNat)) (OL (0 + (k1 k).toNat))
noncomputable def sfC (o oe : Option Out) : Option Out := gR n hs rf (w64 (0 + i)) (cond (sfT pf rf N i k) (gR n hs rf (w64 (w64 (0 + 3) + i)) (cond (sfC11 m k) (cond (sfC12 k) o none) none)) oe)
def MP (pf : Int → Int → Int) : List Entry := [⟨36, ePk pf⟩]
theorem sf_in : evC Tryz.prog (MP pf) [rwK rf] noL (loopAt Tryz.f35 1) (sfS n hs N sk i m PL k OL) (finN keepSf [some 0, some 1, some 5, some 7]) = sfC n hs pf rf N i m k (some ⟨.normal, sfE n hs N sk i (m + 1) (fun q => mixL (Nat.blt q m) (PL q).c (sfP pf rf i k OL).c) (sfLn k + 1) (fun q => mixL (Nat.blt q (sfLn k)) [iA (OL q)] [iA (w64 (((m + 1 : Nat) : Int) - 1))]), .any⟩) none := by kernel_rfl
theorem sf_inE : evC Tryz.prog (MP pf) [rwK rf] noL (loopAt Tryz.f35 1) (sfS n hs N sk i m PL k OL) (finE keepSf [some 0, some 1, some 2, some 3]) = sfC n hs pf rf N i m k none (some ⟨.exit 2, sfS n hs N sk i m PL k OL, .any⟩) := by kernel_rfl
def lkG (K : Int → Int) (A : Int → Nat → Nat) (S : Int → Int) : List AV → AV
  | [_, .x (.int .i64 f)] => SH (K f) (A f) (S f)
  | _ => .any
noncomputable def lkK : KEntry := kS Tryz.prog 80 (lkG K A S)
def sfF (i : Int) : Int := w64 (w64 (0 + 2) + w64 (9 * i))
def lfP (f : Int) : Prt := ⟨0, 0, 0, K f, A f, S f⟩
noncomputable def gLf (f : Int) (o : Option Out) : Option Out := gate (FSpec Tryz.prog 80 [sI n hs, iA f] (SH (K f) (A f) (S f))) o
theorem sf_first : evC Tryz.prog (MP pf) [rwK rf, lkK K A S] noL (loopAt Tryz.f35 0) (sfN n hs N sk) (finN keepSf [some 0, some 1, some 3, some 5]) = cond (decide (0 < N)) (gLf n hs K A S (sfF 0) (gR n hs rf (w64 (0 + 0)) (some ⟨.normal, sfE n hs N sk (w64 (0 + 1)) 1 (fun q => mixL (Nat.blt q 0) [] (lfP K A S (sfF 0)).c) 1 (fun q => mixL (Nat.blt q 0) [] [iA 0]), .any⟩))) none := by kernel_rfl
variable (m2 : Nat) (PL1 PL2 : Nat → Prt) (k2' : Nat) (OL1 OL2 : Nat → Int)
noncomputable def sfL : Nat → Option LFun := oneL 9 (toldF keepSf [some 0, some 1, some 5, some 7] (sfS n hs N sk i (m + 1) PL1 (k + 1) OL1) (.exit 2) (sfS n hs N sk i m2 PL2 k2' OL2))
noncomputable def sfO (o : Option Out) : Option Out := cond ((apB m 128 || false) && true) (cond ((Nat.ble k k && Nat.ble ((k + 1) * 8) 140737488355328) || false) (gate (Sub (sfE n hs N sk i (m + 1) (fun q => mixL (Nat.blt q m) (PL q).c (lfP K A S (sfF i)).c) (k + 1) (fun q => mixL (Nat.blt q k) [iA (OL q)] [iA (w64 (((m + 1 : Nat) : Int) - 1))])) (sfS n hs N sk i (m + 1) PL1 (k + 1) OL1)) o) none) none
theorem sf_step : evC Tryz.prog (MP pf) [rwK rf, lkK K A S] (sfL n hs N sk i m k m2 PL1 PL2 k2' OL1 OL2) (loopAt Tryz.f35 0) (sfS n hs N sk i m PL k OL) (finN keepSf [some 0, some 1, some 2, some 3]) = cond (decide (i < N)) (gLf n hs K A S (sfF i) (sfO n hs N sk i m PL k OL K A S PL1 OL1 (some ⟨.normal, sfS n hs N sk (w64 (i + 1)) m2 PL2 k2' OL2, .any⟩))) none := by kernel_rfl
theorem sf_end : evC Tryz.prog (MP pf) [rwK rf, lkK K A S] (oneL 9 fun _ _ => none) (loopAt Tryz.f35 0) (sfS n hs N sk i m PL k OL) (finE keepSf [some 0, some 1, some 2, some 3]) = cond (decide (i < N)) (gLf n hs K A S (sfF i) (cond ((apB m 128 || false) && true) (cond ((Nat.ble k k && Nat.ble ((k + 1) * 8) 140737488355328) || false) none none) none)) (some ⟨.exit 0, sfS n hs N sk i m PL k OL, .any⟩) := by kernel_rfl
end
end Go.Proofs.YtancjnambbkhmaaGreat.Hs.So

namespace Go.Proofs.YtancjnambbkhmaaGreat.Hs.So
open Go.Gv
open Go.Ev (cn fadd fsub fmul fdiv fsqrt fneg feq flt fle fgt fge fabs)

def Runs (c : Code) (s : St) (e : Exit) (sf : St) : Prop := ∃ (S : Nat → St) (n : Nat), S 0 = s ∧ (∀ j, j < n → Leads Tryz.prog c (S j) .normal (S (j + 1))) ∧ Leads Tryz.prog c (S n) e sf
theorem Runs.last {c : Code} {s sf : St} {e : Exit} (h : Leads Tryz.prog c s e sf) : Runs c s e sf := ⟨fun _ => s, 0, rfl, fun j hj => absurd hj (Nat.not_lt_zero j), h⟩
theorem Runs.cons {c : Code} {s s1 sf : St} {e : Exit} (h : Leads Tryz.prog c s .normal s1) (g : Runs c s1 e sf) : Runs c s e sf := by
  obtain ⟨S, n, h0, h1, h2⟩ := g
  refine ⟨fun j => match j with | 0 => s | j + 1 => S j, n + 1, rfl, fun j hj => ?_, h2⟩
  cases j with
  | zero => show Leads Tryz.prog c s .normal (S 0); rw [h0]; exact h
  | succ j => exact h1 j (by omega)
theorem Runs.loop {c : Code} {s sf : St} {e : Exit} (he : e ≠ .normal) (h : Runs c s e sf) : Leads Tryz.prog (.loop c) s e sf := by
  obtain ⟨S, n, rfl, h1, h2⟩ := h
  exact loop_rule S n e sf he h1 h2
theorem MP_ok : ∀ e, e ∈ MP mpk → EOk Tryz.prog e := e_cons ePk_ok e_nil
theorem mixP (b : Bool) (P Q : Prt) : mixL b P.c Q.c = (cond b P Q).c := by cases b <;> rfl
theorem mixI (b : Bool) (x y : Int) : mixL b [iA x] [iA y] = [iA (cond b x y)] := by cases b <;> rfl
section
variable {n : Nat} {hs : Nat → Int} {N : Nat} {sk : Int} {i m k : Nat} {PL : Nat → Prt} {OL : Nat → Int}
theorem k2_e (h : 2 ≤ k) (h' : k ≤ 100) : k2 k = ((k - 2 : Nat) : Int) := by unfold k2; rw [w64_id (by omega) (by omega)]; omega
theorem k1_e (h : 2 ≤ k) (h' : k ≤ 100) : k1 k = ((k - 1 : Nat) : Int) := by unfold k1; rw [w64_id (by omega) (by omega)]; omega
theorem sfLn_e (h : 2 ≤ k) (h' : k ≤ 100) : sfLn k = k - 2 := by
  unfold sfLn
  rw [k2_e h h']
  show (((k - 2 : Nat) : Int) - 0).toNat = k - 2
  omega
theorem sfC11_t (h : 2 ≤ k) (h' : k ≤ 100) (hm : m ≤ 100) : sfC11 m k = true := by
  unfold sfC11 bl'
  rw [k2_e h h', k1_e h h', ixB_t (show k - 2 < k by omega), ixB_t (show k - 1 < k by omega), Int.toNat_natCast, Int.toNat_natCast, Nat.zero_add, Nat.zero_add, blt_t (show k - 2 < k by omega), blt_t (show k - 1 < k by omega), apB_t (by omega)]
  rfl
theorem sfC12_t (h : 2 ≤ k) (h' : k ≤ 100) : sfC12 k = true := by
  unfold sfC12
  rw [sfLn_e h h', k2_e h h', Nat.ble_eq_true_of_le (show k - 2 ≤ k by omega), Nat.ble_eq_true_of_le (show (k - 2 + 1) * 8 ≤ 140737488355328 by omega)]
  have : sbB none (some ((k - 2 : Nat) : Int)) none k = true := by
    unfold sbB
    show (decide ((0 : Int) ≤ 0) && (decide ((0 : Int) ≤ ((k - 2 : Nat) : Int)) && (decide (((k - 2 : Nat) : Int) ≤ (k : Int)) && decide ((k : Int) ≤ (k : Int))))) = true
    rw [decide_eq_true (show (0 : Int) ≤ ((k - 2 : Nat) : Int) by omega), decide_eq_true (show ((k - 2 : Nat) : Int) ≤ (k : Int) by omega), decide_eq_true (show (k : Int) ≤ (k : Int) by omega)]
    rfl
  rw [this]; rfl
theorem p_at (hi : i ≤ 10) : 0 ≤ w64 (0 + (i : Int)) := by rw [w64_id (by omega) (by omega)]; omega
theorem p_at3 (hi : i ≤ 10) : 0 ≤ w64 (w64 (0 + 3) + (i : Int)) := by rw [show w64 (0 + 3) = 3 by decide, w64_id (by omega) (by omega)]; omega
theorem in_end (hi : i ≤ 10) (hT : sfT mpk (mrw n hs) (N : Nat) (i : Nat) k = false) : Leads Tryz.prog (loopAt Tryz.f35 1) (sfS n hs (N : Nat) sk (i : Nat) m PL k OL) (.exit 2) (sfS n hs (N : Nat) sk (i : Nat) m PL k OL) := by
  refine leads_ev (finE_sub keepSf [some 0, some 1, some 2, some 3]) MP_ok (k_cons kS_ok k_nil) noL_ok ((sf_inE n hs mpk (mrw n hs) (N : Nat) sk (i : Nat) m PL k OL).trans ?_)
  unfold sfC
  rw [gR_pos (p_at hi), hT]
  rfl
end
section
variable {n : Nat} {hs : Nat → Int} {N : Nat} {sk : Int} {K : Int → Int} {A : Int → Nat → Nat} {S : Int → Int} (hK : ∀ f : Nat, f ≤ 100 → FSpec Tryz.prog 80 [sI n hs, iA (f : Nat)] (SH (K (f : Nat)) (A (f : Nat)) (S (f : Nat))))
include hK
theorem leaf_at {i : Nat} (hi : i ≤ 10) {o : Option Out} : gLf n hs K A S (sfF (i : Nat)) o = o := by
  have e : sfF (i : Nat) = ((2 + 9 * i : Nat) : Int) := by
    unfold sfF
    rw [show w64 (0 + 2) = 2 by decide, w64_id (n := 9 * (i : Int)) (by omega) (by omega), w64_id (by omega) (by omega)]; omega
  unfold gLf
  rw [e]
  exact gate_pos (hK _ (by omega))
omit hK in
theorem none_ok (c : Code) : LSound Tryz.prog c fun _ _ => none := ⟨fun s k r h => (by cases h), fun s s' e h => (by have := h fun _ _ => some ⟨.normal, s, .any⟩; cases this)⟩
omit hK in
theorem out_end {m k : Nat} {PL : Nat → Prt} {OL : Nat → Int} : Leads Tryz.prog (loopAt Tryz.f35 0) (sfS n hs (N : Nat) sk (N : Nat) m PL k OL) (.exit 0) (sfS n hs (N : Nat) sk (N : Nat) m PL k OL) := by
  have hL : LOk Tryz.prog (oneL 9 fun _ _ => none) (loopAt Tryz.f35 0) := lok_at (c := loopAt Tryz.f35 0) (i := 9) 0 1 (by kernel_rfl) (by kernel_rfl) (none_ok _)
  refine leads_ev (finE_sub keepSf [some 0, some 1, some 2, some 3]) MP_ok (k_cons kS_ok (k_cons kS_ok k_nil)) hL ((sf_end n hs mpk (mrw n hs) (N : Nat) sk (N : Nat) m PL k OL (fun _ => 0) (fun _ _ => 0) (fun _ => 0)).trans ?_)
  rw [dec_self]; rfl
end
noncomputable def sfW (n : Nat) (hs : Nat → Int) (pf : Int → Int → Int) (rf : Int → Int) (N sk : Int) (m : Nat) (PL : Nat → Prt) : Option Out := gR n hs rf 0 (gR n hs rf 1 (gate (Sub (sfN n hs (w64 (1 + pf (rf 1) 4)) (pf (rf 0) 3)) (sfN n hs N sk)) (cond (((Nat.beq m m) && true) || false) (some (Out.of (.agg (soC m PL sk)))) none)))
theorem sf_ev (n : Nat) (hs : Nat → Int) (pf : Int → Int → Int) (rf : Int → Int) (N sk i : Int) (m : Nat) (PL : Nat → Prt) (k : Nat) (OL : Nat → Int) : evZ Tryz.prog (MP pf) [rwK rf] [] (oneL 5 (toldF keepSf [some 0, some 1] (sfN n hs N sk) (.exit 0) (sfS n hs N sk i m PL k OL))) (oneZ 13 (frzK 2)) Tryz.f35 [sI n hs, iA 0, iA 3] ret = sfW n hs pf rf N sk m PL := by kernel_rfl
end Go.Proofs.YtancjnambbkhmaaGreat.Hs.So

namespace Go.Proofs.YtancjnambbkhmaaGreat.Hs.So
open Go.Gv
open Go.Ev (cn fadd fsub fmul fdiv fsqrt fneg feq flt fle fgt fge fabs)

/-- The first m parts are leaves, or parts of two ahead of them. -/
def PtOk (LF : Prt → Prop) (PL : Nat → Prt) (m : Nat) : Prop := ∀ q, q < m → LF (PL q) ∨ ((PL q).op = 1 ∨ (PL q).op = 2 ∨ (PL q).op = 3) ∧ 0 ≤ (PL q).l ∧ (PL q).l < (q : Nat) ∧ 0 ≤ (PL q).r ∧ (PL q).r < (q : Nat)
def OpOk (OL : Nat → Int) (k m : Nat) : Prop := ∀ q, q < k → 0 ≤ OL q ∧ OL q < (m : Nat)
theorem PtOk.more {LF : Prt → Prop} {PL : Nat → Prt} {m : Nat} {p : Prt} (h : PtOk LF PL m) (g : LF p ∨ (p.op = 1 ∨ p.op = 2 ∨ p.op = 3) ∧ 0 ≤ p.l ∧ p.l < (m : Nat) ∧ 0 ≤ p.r ∧ p.r < (m : Nat)) : PtOk LF (fun q => cond (Nat.blt q m) (PL q) p) (m + 1) := fun q hq => by
  show LF (cond (Nat.blt q m) (PL q) p) ∨ _
  cases hb : Nat.blt q m
  · have := not_blt hb
    obtain rfl : q = m := by omega
    simpa only [hb, cond_false] using g
  · have : q < m := Nat.le_of_ble_eq_true hb
    simpa only [hb, cond_true] using h q this
theorem last_w {m : Nat} (h : m ≤ 1000) : w64 (((m + 1 : Nat) : Int) - 1) = (m : Nat) := by rw [w64_id (by omega) (by omega)]; omega
theorem OpOk.more {OL : Nat → Int} {j k m : Nat} (h : OpOk OL k m) (hj : j ≤ k) (hm : m ≤ 1000) : OpOk (fun q => cond (Nat.blt q j) (OL q) (w64 (((m + 1 : Nat) : Int) - 1))) (j + 1) (m + 1) := fun q hq => by
  show 0 ≤ cond (Nat.blt q j) (OL q) (w64 (((m + 1 : Nat) : Int) - 1)) ∧ cond (Nat.blt q j) (OL q) (w64 (((m + 1 : Nat) : Int) - 1)) < ((m + 1 : Nat) : Int)
  cases hb : Nat.blt q j
  · rw [cond_false, last_w hm]; omega
  · have : q < j := Nat.le_of_ble_eq_true hb
    have := h q (by omega)
    rw [cond_true]; omega
section
variable {n : Nat} {hs : Nat → Int} (hr : Rng n hs) {LF : Prt → Prop} {N : Nat} {sk : Int}
include hr
theorem sfP_ok {i k m : Nat} {OL : Nat → Int} (hi : i ≤ 10) (hk : 2 ≤ k) (hk' : k ≤ 10) (ho : OpOk OL k m) : ((sfP mpk (mrw n hs) (i : Nat) k OL).op = 1 ∨ (sfP mpk (mrw n hs) (i : Nat) k OL).op = 2 ∨ (sfP mpk (mrw n hs) (i : Nat) k OL).op = 3) ∧ 0 ≤ (sfP mpk (mrw n hs) (i : Nat) k OL).l ∧ (sfP mpk (mrw n hs) (i : Nat) k OL).l < (m : Nat) ∧ 0 ≤ (sfP mpk (mrw n hs) (i : Nat) k OL).r ∧ (sfP mpk (mrw n hs) (i : Nat) k OL).r < (m : Nat) := by
  have h := mrw_range (n := n) (hs := hs) hr (p_at3 hi)
  have e := mpk_range (m := 3) h.1 h.2 (by decide)
  have a := ho (k - 2) (by omega)
  have b := ho (k - 1) (by omega)
  have ea : OL (0 + (k2 k).toNat) = OL (k - 2) := by rw [k2_e hk (by omega), Int.toNat_natCast, Nat.zero_add]
  have eb : OL (0 + (k1 k).toNat) = OL (k - 1) := by rw [k1_e hk (by omega), Int.toNat_natCast, Nat.zero_add]
  have eo : (sfP mpk (mrw n hs) (i : Nat) k OL).op = 1 + mpk (mrw n hs (w64 (w64 (0 + 3) + (i : Nat)))) 3 := by
    show w64 (1 + mpk (mrw n hs (w64 (w64 (0 + 3) + (i : Nat)))) 3) = _
    generalize mpk (mrw n hs (w64 (w64 (0 + 3) + (i : Nat)))) 3 = z at e ⊢
    rw [w64_id (by omega) (by omega)]
  have el : (sfP mpk (mrw n hs) (i : Nat) k OL).l = OL (k - 2) := ea
  have er : (sfP mpk (mrw n hs) (i : Nat) k OL).r = OL (k - 1) := eb
  rw [eo, el, er]
  refine ⟨by omega, a.1, a.2, b.1, b.2⟩
theorem in_step2 {i m k : Nat} {PL : Nat → Prt} {OL : Nat → Int} (hk : 2 ≤ k) (hk' : k ≤ 10) (hm : m ≤ 100) (hi : i ≤ 10) (hT : sfT mpk (mrw n hs) (N : Nat) (i : Nat) k = true) (hP : PtOk LF PL m) (hO : OpOk OL k m) : ∃ PL' OL', Leads Tryz.prog (loopAt Tryz.f35 1) (sfS n hs (N : Nat) sk (i : Nat) m PL k OL) .normal (sfS n hs (N : Nat) sk (i : Nat) (m + 1) PL' (k - 1) OL') ∧ PtOk LF PL' (m + 1) ∧ OpOk OL' (k - 1) (m + 1) := by
  have hl : Leads Tryz.prog (loopAt Tryz.f35 1) (sfS n hs (N : Nat) sk (i : Nat) m PL k OL) .normal (sfE n hs (N : Nat) sk (i : Nat) (m + 1) (fun q => mixL (Nat.blt q m) (PL q).c (sfP mpk (mrw n hs) (i : Nat) k OL).c) (sfLn k + 1) (fun q => mixL (Nat.blt q (sfLn k)) [iA (OL q)] [iA (w64 (((m + 1 : Nat) : Int) - 1))])) := by
    refine leads_ev (finN_sub keepSf [some 0, some 1, some 5, some 7]) MP_ok (k_cons kS_ok k_nil) noL_ok ((sf_in n hs mpk (mrw n hs) (N : Nat) sk (i : Nat) m PL k OL).trans ?_)
    unfold sfC
    rw [gR_pos (p_at hi), hT, cond_true, gR_pos (p_at3 hi), sfC11_t hk (by omega) hm, cond_true, sfC12_t hk (by omega)]
    rfl
  have eln := sfLn_e hk (show k ≤ 100 by omega)
  have o2 := OpOk.more hO (j := sfLn k) (by omega) (by omega)
  rw [show sfLn k + 1 = k - 1 by omega] at hl o2
  refine ⟨fun q => cond (Nat.blt q m) (PL q) (sfP mpk (mrw n hs) (i : Nat) k OL), fun q => cond (Nat.blt q (sfLn k)) (OL q) (w64 (((m + 1 : Nat) : Int) - 1)), hl.sub (Sub.refl _) ?_, hP.more (Or.inr (sfP_ok hr hi hk hk' hO)), o2⟩
  exact sub_like ⟨Or.inl rfl, Or.inl rfl, Or.inr (Or.inl ⟨71, 16, m + 1, _, _, rfl, rfl, fun q hq => like_eq (mixP _ _ _)⟩), Or.inr (Or.inl ⟨3, 1, k - 1, _, _, rfl, rfl, fun q hq => like_eq (mixI _ _ _)⟩), trivial⟩
theorem in_runs2 {i : Nat} (hi : i ≤ 10) : ∀ (j : Nat) (m k : Nat) (PL : Nat → Prt) (OL : Nat → Int), k = j + 1 → k ≤ 10 → m + k ≤ 50 → PtOk LF PL m → OpOk OL k m → ∃ m2 PL2 k2 OL2, Runs (loopAt Tryz.f35 1) (sfS n hs (N : Nat) sk (i : Nat) m PL k OL) (.exit 2) (sfS n hs (N : Nat) sk (i : Nat) m2 PL2 k2 OL2) ∧ 1 ≤ k2 ∧ m ≤ m2 ∧ m2 + k2 = m + k ∧ PtOk LF PL2 m2 ∧ OpOk OL2 k2 m2
  | 0, m, k, PL, OL, hk, _, _, hP, hO => by
    subst hk
    exact ⟨m, PL, 0 + 1, OL, Runs.last (in_end hi rfl), by omega, by omega, rfl, hP, hO⟩
  | j + 1, m, k, PL, OL, hk, h1, h2, hP, hO => by
    cases hT : sfT mpk (mrw n hs) (N : Nat) (i : Nat) k
    · exact ⟨m, PL, k, OL, Runs.last (in_end hi hT), by omega, by omega, rfl, hP, hO⟩
    · obtain ⟨PL', OL', hs1, p1, o1⟩ := in_step2 hr (N := N) (sk := sk) (show 2 ≤ k by omega) h1 (show m ≤ 100 by omega) hi hT hP hO
      obtain ⟨m2, PL2, k2, OL2, g1, g2, g3, g4, g5, g6⟩ := in_runs2 hi j (m + 1) (k - 1) PL' OL' (by omega) (by omega) (by omega) p1 o1
      exact ⟨m2, PL2, k2, OL2, Runs.cons hs1 g1, g2, by omega, by omega, g5, g6⟩
end
section
variable {n : Nat} {hs : Nat → Int} (hr : Rng n hs) {N : Nat} {sk : Int} {K : Int → Int} {A : Int → Nat → Nat} {S : Int → Int} (hK : ∀ f : Nat, f ≤ 100 → FSpec Tryz.prog 80 [sI n hs, iA (f : Nat)] (SH (K (f : Nat)) (A (f : Nat)) (S (f : Nat)))) {LF : Prt → Prop} (hLF : ∀ f : Nat, f ≤ 100 → LF (lfP K A S (f : Nat)))
include hr hK hLF
omit hr hK in
theorem leaf_LF {i : Nat} (hi : i ≤ 10) : LF (lfP K A S (sfF (i : Nat))) := by
  have e : sfF (i : Nat) = ((2 + 9 * i : Nat) : Int) := by
    unfold sfF
    rw [show w64 (0 + 2) = 2 by decide, w64_id (n := 9 * (i : Int)) (by omega) (by omega), w64_id (by omega) (by omega)]; omega
  rw [e]
  exact hLF _ (by omega)
omit hr in
theorem out_first2 (hN : 0 < N) : ∃ PL OL, Leads Tryz.prog (loopAt Tryz.f35 0) (sfN n hs (N : Nat) sk) .normal (sfS n hs (N : Nat) sk ((1 : Nat) : Int) 1 PL 1 OL) ∧ PtOk LF PL 1 ∧ OpOk OL 1 1 := by
  have hl : Leads Tryz.prog (loopAt Tryz.f35 0) (sfN n hs (N : Nat) sk) .normal (sfE n hs (N : Nat) sk (w64 (0 + 1)) 1 (fun q => mixL (Nat.blt q 0) [] (lfP K A S (sfF 0)).c) 1 (fun q => mixL (Nat.blt q 0) [] [iA 0])) := by
    refine leads_ev (finN_sub keepSf [some 0, some 1, some 3, some 5]) MP_ok (k_cons kS_ok (k_cons kS_ok k_nil)) noL_ok ((sf_first n hs mpk (mrw n hs) (N : Nat) sk K A S).trans ?_)
    rw [decide_eq_true (show (0 : Int) < (N : Nat) by omega), cond_true]
    have h := leaf_at hK (i := 0) (by decide) (o := gR n hs (mrw n hs) (w64 (0 + 0)) (some ⟨.normal, sfE n hs (N : Nat) sk (w64 (0 + 1)) 1 (fun q => mixL (Nat.blt q 0) [] (lfP K A S (sfF 0)).c) 1 (fun q => mixL (Nat.blt q 0) [] [iA 0]), .any⟩))
    exact h.trans (gR_pos (by decide))
  refine ⟨fun _ => lfP K A S (sfF 0), fun _ => 0, hl.sub (Sub.refl _) ?_, fun q hq => Or.inl (leaf_LF hLF (i := 0) (by decide)), fun q hq => ⟨Int.le_refl 0, (by show (0 : Int) < 1; decide)⟩⟩
  rw [show w64 (0 + 1) = ((1 : Nat) : Int) by decide]
  refine sub_like ⟨Or.inl rfl, Or.inl rfl, Or.inr (Or.inl ⟨71, 16, 1, _, _, rfl, rfl, fun q hq => ?_⟩), Or.inr (Or.inl ⟨3, 1, 1, _, _, rfl, rfl, fun q hq => ?_⟩), trivial⟩
  · obtain rfl : q = 0 := Nat.lt_one_iff.1 hq
    exact like_eq rfl
  · obtain rfl : q = 0 := Nat.lt_one_iff.1 hq
    exact like_eq rfl
theorem out_step2 {i m k : Nat} {PL : Nat → Prt} {OL : Nat → Int} (hi : i < N) (hN : N ≤ 4) (hk : 1 ≤ k) (hm : 1 ≤ m) (hmk : m + k ≤ 20) (hk' : k ≤ 8) (hP : PtOk LF PL m) (hO : OpOk OL k m) : ∃ m' PL' k' OL', Leads Tryz.prog (loopAt Tryz.f35 0) (sfS n hs (N : Nat) sk (i : Nat) m PL k OL) .normal (sfS n hs (N : Nat) sk ((i + 1 : Nat) : Int) m' PL' k' OL') ∧ 1 ≤ k' ∧ 1 ≤ m' ∧ m' + k' = m + k + 2 ∧ k' ≤ k + 1 ∧ PtOk LF PL' m' ∧ OpOk OL' k' m' := by
  obtain ⟨m2, PL2, k2, OL2, g1, g2, g3, g4, g5, g6⟩ := in_runs2 hr (N := N) (sk := sk) (i := i) (by omega) k (m + 1) (k + 1) (fun q => cond (Nat.blt q m) (PL q) (lfP K A S (sfF (i : Nat)))) (fun q => cond (Nat.blt q k) (OL q) (w64 (((m + 1 : Nat) : Int) - 1))) rfl (by omega) (by omega) (hP.more (Or.inl (leaf_LF hLF (by omega)))) (hO.more (Nat.le_refl k) (by omega))
  refine ⟨m2, PL2, k2, OL2, ?_, g2, by omega, by omega, by omega, g5, g6⟩
  have hL : LOk Tryz.prog (sfL n hs (N : Nat) sk (i : Nat) m k m2 (fun q => cond (Nat.blt q m) (PL q) (lfP K A S (sfF (i : Nat)))) PL2 k2 (fun q => cond (Nat.blt q k) (OL q) (w64 (((m + 1 : Nat) : Int) - 1))) OL2) (loopAt Tryz.f35 0) := lok_at (c := loopAt Tryz.f35 0) (i := 9) 0 1 (by kernel_rfl) (by kernel_rfl) (toldF_sound (keep := keepSf) (τ := [some 0, some 1, some 5, some 7]) (Runs.loop (by simp) g1))
  refine leads_ev (finN_sub keepSf [some 0, some 1, some 2, some 3]) MP_ok (k_cons kS_ok (k_cons kS_ok k_nil)) hL ((sf_step n hs mpk (mrw n hs) (N : Nat) sk (i : Nat) m PL k OL K A S m2 _ PL2 k2 _ OL2).trans ?_)
  unfold sfO
  rw [decide_eq_true (show ((i : Nat) : Int) < (N : Nat) by omega), cond_true, leaf_at hK (by omega), apB_t (by omega), Nat.ble_eq_true_of_le (Nat.le_refl k), Nat.ble_eq_true_of_le (show (k + 1) * 8 ≤ 140737488355328 by omega), w64_next (n := i) (by omega)]
  refine gate_pos (sub_like ⟨Or.inl rfl, Or.inl rfl, Or.inr (Or.inl ⟨71, 16, m + 1, _, _, rfl, rfl, fun q hq => like_eq (mixP _ _ _)⟩), Or.inr (Or.inl ⟨3, 1, k + 1, _, _, rfl, rfl, fun q hq => like_eq (mixI _ _ _)⟩), trivial⟩)
theorem out_runs2 (hN : N ≤ 4) : ∀ (j i m k : Nat) (PL : Nat → Prt) (OL : Nat → Int), i + j = N → 1 ≤ k → 1 ≤ m → m + k ≤ 2 * i → k ≤ i → PtOk LF PL m → OpOk OL k m → ∃ m' PL' k' OL', Runs (loopAt Tryz.f35 0) (sfS n hs (N : Nat) sk (i : Nat) m PL k OL) (.exit 0) (sfS n hs (N : Nat) sk (N : Nat) m' PL' k' OL') ∧ 1 ≤ m' ∧ m' ≤ 7 ∧ PtOk LF PL' m'
  | 0, i, m, k, PL, OL, e, h1, h2, h3, _, hP, _ => by
    obtain rfl : i = N := by omega
    exact ⟨m, PL, k, OL, Runs.last out_end, h2, by omega, hP⟩
  | j + 1, i, m, k, PL, OL, e, h1, h2, h3, h4, hP, hO => by
    obtain ⟨m1, PL1, k1, OL1, g1, g2, g3, g4, g5, g6, g7⟩ := out_step2 hr hK hLF (N := N) (sk := sk) (i := i) (PL := PL) (OL := OL) (by omega) hN h1 h2 (by omega) (by omega) hP hO
    obtain ⟨m', PL', k', OL', r1, r2, r3, r4⟩ := out_runs2 hN j (i + 1) m1 k1 PL1 OL1 (by omega) g2 g3 (by omega) (by omega) g6 g7
    exact ⟨m', PL', k', OL', Runs.cons g1 r1, r2, r3, r4⟩
end
/-- SolidOf, where all leaves are good: a solid of 1 to 7 parts, each a good leaf or a part of two ahead of it. -/
theorem solidOf_good {n : Nat} {hs : Nat → Int} (h : Rng n hs) {LF : Prt → Prop} (hx : ∀ f : Nat, f ≤ 100 → ∃ k a sk, FSpec Tryz.prog 80 [sI n hs, iA (f : Nat)] (SH k a sk) ∧ LF ⟨0, 0, 0, k, a, sk⟩) : ∃ m PL, 1 ≤ m ∧ m ≤ 7 ∧ PtOk LF PL m ∧ FSpec Tryz.prog 35 [sI n hs, iA 0, iA 3] (.agg (soC m PL (mpk (mrw n hs 0) 3))) := by
  have h1 : ∀ f : Int, ∃ y : Int × (Nat → Nat) × Int, ∀ g : Nat, f = (g : Nat) → g ≤ 100 → FSpec Tryz.prog 80 [sI n hs, iA (g : Nat)] (SH y.1 y.2.1 y.2.2) ∧ LF ⟨0, 0, 0, y.1, y.2.1, y.2.2⟩ := fun f => by
    by_cases hf : 0 ≤ f ∧ f ≤ 100
    · obtain ⟨k, a, sk, hk⟩ := hx f.toNat (by omega)
      refine ⟨(k, a, sk), fun g hg _ => ?_⟩
      have : f.toNat = g := by omega
      subst this
      exact hk
    · exact ⟨(0, fun _ => 0, 0), fun g hg hg' => absurd ⟨by omega, by omega⟩ hf⟩
  obtain ⟨G, hG⟩ := Classical.axiomOfChoice h1
  have hK : ∀ f : Nat, f ≤ 100 → FSpec Tryz.prog 80 [sI n hs, iA (f : Nat)] (SH ((fun f => (G f).1) ((f : Nat) : Int)) ((fun f => (G f).2.1) ((f : Nat) : Int)) ((fun f => (G f).2.2) ((f : Nat) : Int))) := fun f hf => (hG (f : Nat) f rfl hf).1
  have hLF : ∀ f : Nat, f ≤ 100 → LF (lfP (fun f => (G f).1) (fun f => (G f).2.1) (fun f => (G f).2.2) (f : Nat)) := fun f hf => (hG (f : Nat) f rfl hf).2
  have hr := mrw_range (n := n) (hs := hs) h (k := 1) (by decide)
  have e4 := mpk_range (m := 4) hr.1 hr.2 (by decide)
  obtain ⟨N, hN⟩ : ∃ N : Nat, w64 (1 + mpk (mrw n hs 1) 4) = ((N : Nat) : Int) ∧ 1 ≤ N ∧ N ≤ 4 := ⟨(1 + mpk (mrw n hs 1) 4).toNat, by rw [w64_id (by omega) (by omega)]; omega, by omega, by omega⟩
  obtain ⟨PL, OL, o1, o2, o3⟩ := out_first2 (K := fun f => (G f).1) (A := fun f => (G f).2.1) (S := fun f => (G f).2.2) hK hLF (N := N) (sk := mpk (mrw n hs 0) 3) hN.2.1
  obtain ⟨m', PL', k', OL', r1, r2, r3, r4⟩ := out_runs2 h (K := fun f => (G f).1) (A := fun f => (G f).2.1) (S := fun f => (G f).2.2) hK hLF (N := N) (sk := mpk (mrw n hs 0) 3) hN.2.2 (N - 1) 1 1 1 PL OL (by omega) (by omega) (by omega) (by omega) (by omega) o2 o3
  refine ⟨m', PL', r2, r3, r4, gspecZ (oneZ_ok (frzK_ok 2)) MP_ok (k_cons kS_ok k_nil) m_nil Tryz.func35 (by kernel_rfl) (by kernel_rfl)
    (lok_at (c := bodyOf Tryz.f35) (i := 5) 0 2 (by kernel_rfl) (by kernel_rfl) (toldF_sound (keep := keepSf) (τ := [some 0, some 1]) (Runs.loop (by simp) (Runs.cons o1 r1)))) rfl ((sf_ev n hs mpk (mrw n hs) (N : Nat) (mpk (mrw n hs 0) 3) (N : Nat) m' PL' k' OL').trans ?_)⟩
  unfold sfW
  rw [gR_pos (by decide), gR_pos (by decide), hN.1, gate_pos (Sub.refl _), show Nat.beq m' m' = true from Nat.beq_refl m']
  rfl
end Go.Proofs.YtancjnambbkhmaaGreat.Hs.So

namespace Go.Proofs.YtancjnambbkhmaaGreat.Hs.So
open Go.Gv
open Go.Ev (cn fadd fsub fmul fdiv fsqrt fneg feq flt fle fgt fge fabs VB key isNan isFin val flt_key fgt_key feq_key)

theorem good_of {c : Nat} {k : Int} {a : Nat → Nat} {sk : Int} (hl : LE k a sk) (hv : ∀ i, i < 11 → VB 1 (c + 17) (a i)) : Good k a sk := ⟨hl, fun i hi => Go.Ev.fin_not_nan (hv i hi).1⟩
theorem v11 {c : Nat} {l0 l1 l2 l3 l4 l5 l6 l7 l8 l9 l10 : Nat} (h0 : VB 1 (c + 17) l0) (h1 : VB 1 (c + 17) l1) (h2 : VB 1 (c + 17) l2) (h3 : VB 1 (c + 17) l3) (h4 : VB 1 (c + 17) l4) (h5 : VB 1 (c + 17) l5) (h6 : VB 1 (c + 17) l6) (h7 : VB 1 (c + 17) l7) (h8 : VB 1 (c + 17) l8) (h9 : VB 1 (c + 17) l9) (h10 : VB 1 (c + 17) l10) : ∀ i, i < 11 → VB 1 (c + 17) (ls [l0, l1, l2, l3, l4, l5, l6, l7, l8, l9, l10] i) := fun i hi =>
  match i, hi with
  | 0, _ => h0 | 1, _ => h1 | 2, _ => h2 | 3, _ => h3 | 4, _ => h4 | 5, _ => h5 | 6, _ => h6 | 7, _ => h7 | 8, _ => h8 | 9, _ => h9 | 10, _ => h10
theorem lf_good {m : Nat} {X : Nat → Int} (hX : Rng m X) {f : Nat} (hf : f ≤ 100) (hm : f + 9 ≤ m) {e v : Int} (he : mpk (X f) 3 = e) (hv : v = 0 ∨ v = 1 ∨ v = 4) : ∃ k a sk a', lfX (f : Nat) m X k a sk rdF e v = some (Out.of (SH k a' sk)) ∧ Good k a' sk := by
  obtain ⟨c, hc⟩ : ∃ c, c = 1074 := ⟨_, rfl⟩
  have hY : Rng m (lX (f : Nat) X v) := fun i hi => by
    unfold lX
    cases i == 0 + ((f : Nat) : Int).toNat
    · exact hX i hi
    · show -9223372036854775808 ≤ v ∧ v ≤ 9223372036854775807; omega
  have hf2 : f ≤ 200 := by omega
  have eY : mrw m (lX (f : Nat) X v) (f : Nat) = v := by
    unfold mrw
    have h0 : ((m : Int) == 0) = false := beq_false_of_ne (by omega)
    rw [h0, cond_false, Int.tmod_eq_emod_of_nonneg (Int.natCast_nonneg f), Int.emod_eq_of_lt (Int.natCast_nonneg f) (by omega), Int.toNat_natCast]
    unfold lX
    rw [Int.toNat_natCast, Nat.zero_add, BEq.rfl]; rfl
  have hp : FSpec Tryz.prog 36 [iA (X (0 + ((f : Nat) : Int).toNat)), iA 3] (iA e) := by
    subst he
    rw [Int.toNat_natCast, Nat.zero_add]
    exact mpick rfl
  have f3 : fz3 m = true := by unfold fz3; rw [show Nat.beq m m = true from Nat.beq_refl m]; rfl
  have x0 := x0v_vb hc hY hf2 0 (by decide)
  have x1 := x0v_vb hc hY hf2 1 (by decide)
  have x2 := x0v_vb hc hY hf2 2 (by decide)
  have p7 := p_of hf2 (j := 7) (by decide) (by decide)
  have sr := mpk_range (m := 1) (mrw_range (n := m) (hs := lX (f : Nat) X v) hY p7.1).1 (mrw_range (n := m) (hs := lX (f : Nat) X v) hY p7.1).2 (by decide)
  obtain ⟨rv, rp⟩ := xR_ok hc hY hf2
  obtain ⟨tv, tp⟩ := tu_ok hc hY hf2
  have z0 : VB 1 (c + 17) 0 := Go.Ev.vb_zero 1 _
  have up : ∀ {j x : Nat}, j ≤ 17 → VB 1 (c + j) x → VB 1 (c + 17) x := fun hj h => Go.Ev.vb_exp h (by omega)
  have k1 : v = 0 → xK mpk (mrw m (lX (f : Nat) X v)) (f : Nat) = 1 := fun e => by unfold xK; rw [eY, e]; decide
  have k2 : v = 1 → xK mpk (mrw m (lX (f : Nat) X v)) (f : Nat) = 2 := fun e => by unfold xK; rw [eY, e]; decide
  have k5 : v = 4 → xK mpk (mrw m (lX (f : Nat) X v)) (f : Nat) = 5 := fun e => by unfold xK; rw [eY, e]; decide
  have body : ∀ {k : Int} {a : Nat → Nat} {sk : Int} {o : Option Out}, FSpec Tryz.prog 21 [sI m (lX (f : Nat) X v), iA (f : Nat), iA 1] (SH k a sk) → (gRd rdF (fmul (a 0) q25) (gRd rdF (fmul (a 1) q25) (gRd rdF (fmul (a 2) q25)
      (cond (k == 2) (gRd rdF (lB a rdF 0) (gRd rdF (lB a rdF 1) (gRd rdF (lB a rdF 2) (lO k a sk rdF (ls [rdF (lB a rdF 0), rdF (lB a rdF 1), rdF (lB a rdF 2)]))))) (lO k a sk rdF (ls [a 3, a 4, a 5])))))) = o → lfX (f : Nat) m X k a sk rdF e v = o := fun {k a sk o} hS ht => by
    unfold lfX
    rw [ow_t (show f < m by omega), gate_pos hp, ow_t (show f < m by omega), f3, cond_true, gate_pos hS]
    exact ht
  rcases hv with hv | hv | hv
  · have hS := xs_k1 hf2 (k1 hv)
    generalize x0v m (lX (f : Nat) X v) f 0 = y0 at hS x0
    generalize x0v m (lX (f : Nat) X v) f 1 = y1 at hS x1
    generalize x0v m (lX (f : Nat) X v) f 2 = y2 at hS x2
    generalize xR mpk mth (mrw m (lX (f : Nat) X v)) (f : Nat) = R at hS rv rp
    generalize mpk (mrw m (lX (f : Nat) X v) (w64 ((f : Nat) + 7))) 1 = s at hS sr
    obtain ⟨q0, l0, b0⟩ := lA_ok (a := ls [y0, y1, y2, 0, 0, 0, 0, 0, 0, R, 0]) (i := 0) hc x0
    obtain ⟨q1, l1, b1⟩ := lA_ok (a := ls [y0, y1, y2, 0, 0, 0, 0, 0, 0, R, 0]) (i := 1) hc x1
    obtain ⟨q2, l2, b2⟩ := lA_ok (a := ls [y0, y1, y2, 0, 0, 0, 0, 0, 0, R, 0]) (i := 2) hc x2
    have ht := lt_A hc (k := 1) (a := ls [y0, y1, y2, 0, 0, 0, 0, 0, 0, R, 0]) (sk := s) x0 x1 x2 (by decide)
    rw [l0, l1, l2] at ht
    refine ⟨1, _, s, ls [mth q0, mth q1, mth q2, 0, 0, 0, 0, 0, 0, R, 0], body hS ht, ?_⟩
    have hv11 := v11 (up (by decide) (mth_vb1 hc (p := q0) (by omega))) (up (by decide) (mth_vb1 hc (p := q1) (by omega))) (up (by decide) (mth_vb1 hc (p := q2) (by omega))) z0 z0 z0 z0 z0 z0 (up (by decide) rv) z0
    exact good_of (Or.inl ⟨rfl, e1_ok hc ⟨sr.1, by omega⟩ hv11 rp⟩) hv11
  · obtain ⟨g0, g1, g2, hS⟩ := xs_k2 hf2 (k2 hv)
    generalize x0v m (lX (f : Nat) X v) f 0 = y0 at hS x0
    generalize x0v m (lX (f : Nat) X v) f 1 = y1 at hS x1
    generalize x0v m (lX (f : Nat) X v) f 2 = y2 at hS x2
    generalize mpk (mrw m (lX (f : Nat) X v) (w64 ((f : Nat) + 7))) 1 = s at hS sr
    obtain ⟨q0, l0, b0⟩ := lA_ok (a := ls [y0, y1, y2, g0, g1, g2, 0, 0, 0, 0, 0]) (i := 0) hc x0
    obtain ⟨q1, l1, b1⟩ := lA_ok (a := ls [y0, y1, y2, g0, g1, g2, 0, 0, 0, 0, 0]) (i := 1) hc x1
    obtain ⟨q2, l2, b2⟩ := lA_ok (a := ls [y0, y1, y2, g0, g1, g2, 0, 0, 0, 0, 0]) (i := 2) hc x2
    have ht := lt_B hc (k := 2) (a := ls [y0, y1, y2, g0, g1, g2, 0, 0, 0, 0, 0]) (sk := s) x0 x1 x2 rfl rfl
    rw [l0, l1, l2] at ht
    obtain ⟨w0, o0⟩ := far_ok hc b0 c_one' (rd_up1 b0)
    obtain ⟨w1, o1⟩ := far_ok hc b1 c_one (rd_up1' b1)
    obtain ⟨w2, o2⟩ := far_ok hc b2 c_half (rd_uph b2)
    have w2 : VB 1 (c + 4) (rdF (fadd (mth q2) half')) := w2
    have o2 : key (mth q2) ≤ key (rdF (fadd (mth q2) half')) := o2
    generalize rdF (fadd (mth q0) (fadd 0 one)) = u0 at ht w0 o0
    generalize rdF (fadd (mth q1) one) = u1 at ht w1 o1
    generalize rdF (fadd (mth q2) half') = u2 at ht w2 o2
    refine ⟨2, _, s, ls [mth q0, mth q1, mth q2, u0, u1, u2, 0, 0, 0, 0, 0], body hS ht, ?_⟩
    have hv11 := v11 (up (by decide) (mth_vb1 hc (p := q0) (by omega))) (up (by decide) (mth_vb1 hc (p := q1) (by omega))) (up (by decide) (mth_vb1 hc (p := q2) (by omega))) (up (by decide) w0) (up (by decide) w1) (up (by decide) w2) z0 z0 z0 z0 z0
    exact good_of (Or.inr (Or.inl ⟨rfl, e2_ok hc ⟨sr.1, by omega⟩ hv11 o0 o1 o2⟩)) hv11
  · obtain ⟨x, y, w, hS, hd⟩ := xs_k5 hY hf2 (k5 hv)
    generalize x0v m (lX (f : Nat) X v) f 0 = y0 at hS x0
    generalize x0v m (lX (f : Nat) X v) f 1 = y1 at hS x1
    generalize x0v m (lX (f : Nat) X v) f 2 = y2 at hS x2
    generalize xR mpk mth (mrw m (lX (f : Nat) X v)) (f : Nat) = R at hS rv rp
    generalize mpk (mrw m (lX (f : Nat) X v) (w64 ((f : Nat) + 7))) 1 = s at hS sr
    generalize mth (w64 (1 + mpk (mrw m (lX (f : Nat) X v) (w64 ((f : Nat) + 5))) 3000)) = t at hd tv tp
    obtain ⟨q0, l0, b0⟩ := lA_ok (a := ls [y0, y1, y2, x, y, w, 0, 0, 0, R, 0]) (i := 0) hc x0
    obtain ⟨q1, l1, b1⟩ := lA_ok (a := ls [y0, y1, y2, x, y, w, 0, 0, 0, R, 0]) (i := 1) hc x1
    obtain ⟨q2, l2, b2⟩ := lA_ok (a := ls [y0, y1, y2, x, y, w, 0, 0, 0, R, 0]) (i := 2) hc x2
    have ht := lt_A hc (k := 5) (a := ls [y0, y1, y2, x, y, w, 0, 0, 0, R, 0]) (sk := s) x0 x1 x2 (by decide)
    rw [l0, l1, l2] at ht
    refine ⟨5, _, s, ls [mth q0, mth q1, mth q2, x, y, w, 0, 0, 0, R, 0], body hS ht, ?_⟩
    have hxyw : VB 1 (c + 17) x ∧ VB 1 (c + 17) y ∧ VB 1 (c + 17) w ∧ axO x y w = true := by
      have nt := neZ_t tv.1 tp
      have tu := up (by decide) tv
      rcases hd with ⟨rfl, rfl, rfl⟩ | ⟨rfl, rfl, rfl⟩ | ⟨rfl, rfl, rfl⟩
      · exact ⟨tu, z0, z0, by unfold axO; rw [nt, neZ_0]; rfl⟩
      · exact ⟨z0, tu, z0, by unfold axO; rw [nt, neZ_0]; rfl⟩
      · exact ⟨z0, z0, tu, by unfold axO; rw [nt, neZ_0]; rfl⟩
    have hv11 := v11 (up (by decide) (mth_vb1 hc (p := q0) (by omega))) (up (by decide) (mth_vb1 hc (p := q1) (by omega))) (up (by decide) (mth_vb1 hc (p := q2) (by omega))) hxyw.1 hxyw.2.1 hxyw.2.2.1 z0 z0 z0 (up (by decide) rv) z0
    exact good_of (Or.inr (Or.inr ⟨rfl, e5_ok hc ⟨sr.1, by omega⟩ hv11 rp hxyw.2.2.2⟩)) hv11
end Go.Proofs.YtancjnambbkhmaaGreat.Hs.So

namespace Go.Proofs.YtancjnambbkhmaaGreat.Hs.So
open Go.Gv
open Go.Ev (cn fadd fsub fmul fdiv fsqrt fneg feq flt fle fgt fge fabs VB key isNan isFin val flt_key fgt_key feq_key)

theorem xleaf_good {n : Nat} {hs : Nat → Int} (h : Rng n hs) (hn : n ≤ 512) {f : Nat} (hf : f ≤ 100) : ∃ k a sk, FSpec Tryz.prog 80 [sI n hs, iA (f : Nat)] (SH k a sk) ∧ Good k a sk := by
  have hr := lfV_rng h (f + 1) f (by omega)
  have e3 := mpk_range (m := 3) hr.1 hr.2 (by decide)
  have e3 : mpk (lfV n hs f) 3 = 0 ∨ mpk (lfV n hs f) 3 = 1 ∨ mpk (lfV n hs f) 3 = 2 := by omega
  by_cases h0 : 0 < n
  · have hg : lfG n = true := by
      unfold lfG
      rw [blt_t h0, allB_true (fun _ _ => rfl), Nat.ble_eq_true_of_le (show (0 + n) * 8 ≤ 140737488355328 by omega)]; rfl
    have hL := lok_at (c := bodyOf Tryz.f80) (i := 2) 0 1 (by kernel_rfl) (by kernel_rfl) (toldF_sound (keep := keepLl) (τ := [some 0, some 2]) (ll_leads n hs hf))
    have hm : f + 9 ≤ n + (f + 9 - n) := by omega
    rcases e3 with he | he | he
    · obtain ⟨k, a, sk, a', hb, hg'⟩ := lf_good (lfV_rng h _) hf hm he (v := 0) (Or.inl rfl)
      refine ⟨k, a', sk, gspecZ (oneZ_ok (frzK_ok 1)) R4_ok (k_cons kS_ok (k_cons kS_ok (k_cons kS_ok k_nil))) m_nil Tryz.func80 (by kernel_rfl) (by kernel_rfl) hL rfl ((lf_ev0 n hs (f : Nat) _ _ k a sk rdF).trans ?_), hg'⟩
      rw [hg, cond_true, gate_pos ll_first, hb]
    · obtain ⟨k, a, sk, a', hb, hg'⟩ := lf_good (lfV_rng h _) hf hm he (v := 1) (Or.inr (Or.inl rfl))
      refine ⟨k, a', sk, gspecZ (oneZ_ok (frzK_ok 1)) R4_ok (k_cons kS_ok (k_cons kS_ok (k_cons kS_ok k_nil))) m_nil Tryz.func80 (by kernel_rfl) (by kernel_rfl) hL rfl ((lf_ev1 n hs (f : Nat) _ _ k a sk rdF).trans ?_), hg'⟩
      rw [hg, cond_true, gate_pos ll_first, hb]
    · obtain ⟨k, a, sk, a', hb, hg'⟩ := lf_good (lfV_rng h _) hf hm he (v := 4) (Or.inr (Or.inr rfl))
      refine ⟨k, a', sk, gspecZ (oneZ_ok (frzK_ok 1)) R4_ok (k_cons kS_ok (k_cons kS_ok (k_cons kS_ok k_nil))) m_nil Tryz.func80 (by kernel_rfl) (by kernel_rfl) hL rfl ((lf_ev2 n hs (f : Nat) _ _ k a sk rdF).trans ?_), hg'⟩
      rw [hg, cond_true, gate_pos ll_first, hb]
  · have e0 : n = 0 := by omega
    subst e0
    have hL : ∀ p c, LOk Tryz.prog (oneL 2 (toldF keepLl [some 0, some 1] (llS (xE p c) (f : Nat) 0 (lfV 0 hs)) (.exit 0) (llS (xE p c) (f : Nat) (f + 9) (lfV 0 hs)))) (bodyOf Tryz.f80) := fun p c => lok_at (c := bodyOf Tryz.f80) (i := 2) 0 1 (by kernel_rfl) (by kernel_rfl) (toldF_sound (keep := keepLl) (τ := [some 0, some 1]) (lz_leads p c hs hf))
    have key : ∃ k a sk, (∀ p c, FSpec Tryz.prog 80 [xE p c, iA (f : Nat)] (SH k a sk)) ∧ Good k a sk := by
      rcases e3 with he | he | he
      · obtain ⟨k, a, sk, a', hb, hg'⟩ := lf_good (lfV_rng h (f + 9)) hf (Nat.le_refl _) he (v := 0) (Or.inl rfl)
        refine ⟨k, a', sk, fun p c => gspecZ (oneZ_ok (frzK_ok 1)) R4_ok (k_cons kS_ok (k_cons kS_ok (k_cons kS_ok k_nil))) m_nil Tryz.func80 (by kernel_rfl) (by kernel_rfl) (hL p c) rfl ((le_ev0 p c (f : Nat) _ _ k a sk rdF).trans ?_), hg'⟩
        rw [gate_pos le_first, hb]
      · obtain ⟨k, a, sk, a', hb, hg'⟩ := lf_good (lfV_rng h (f + 9)) hf (Nat.le_refl _) he (v := 1) (Or.inr (Or.inl rfl))
        refine ⟨k, a', sk, fun p c => gspecZ (oneZ_ok (frzK_ok 1)) R4_ok (k_cons kS_ok (k_cons kS_ok (k_cons kS_ok k_nil))) m_nil Tryz.func80 (by kernel_rfl) (by kernel_rfl) (hL p c) rfl ((le_ev1 p c (f : Nat) _ _ k a sk rdF).trans ?_), hg'⟩
        rw [gate_pos le_first, hb]
      · obtain ⟨k, a, sk, a', hb, hg'⟩ := lf_good (lfV_rng h (f + 9)) hf (Nat.le_refl _) he (v := 4) (Or.inr (Or.inr rfl))
        refine ⟨k, a', sk, fun p c => gspecZ (oneZ_ok (frzK_ok 1)) R4_ok (k_cons kS_ok (k_cons kS_ok (k_cons kS_ok k_nil))) m_nil Tryz.func80 (by kernel_rfl) (by kernel_rfl) (hL p c) rfl ((le_ev2 p c (f : Nat) _ _ k a sk rdF).trans ?_), hg'⟩
        rw [gate_pos le_first, hb]
    obtain ⟨k, a, sk, hk, hg'⟩ := key
    refine ⟨k, a, sk, FSpec.of_arg (args' := [sI 0 hs, iA (f : Nat)]) (fun E us hr => ?_) (hk none 0).1 rfl, hg'⟩
    obtain ⟨u, us', e0, r1, hr⟩ := rels_cons.1 hr
    obtain ⟨p, c, q1⟩ := rel_empty r1
    exact ⟨[xE p c, iA (f : Nat)], rels_cons.2 ⟨u, us', e0, q1, hr⟩, hk p c⟩
/-- Parts that may be. -/
def PpOk (PL : Nat → Prt) (m : Nat) : Prop := ∀ q, q < m → ppE (PL q) (q : Nat) = 0
theorem pp_op {p : Prt} {i : Int} (ho : p.op = 1 ∨ p.op = 2 ∨ p.op = 3) (hl : 0 ≤ p.l ∧ p.l < i) (hr : 0 ≤ p.r ∧ p.r < i) : ppE p i = 0 := by
  have n : nmB p.l p.r i = false := by
    unfold nmB
    rw [decide_eq_false (show ¬ p.l < 0 by omega), decide_eq_false (show ¬ p.l ≥ i by omega), decide_eq_false (show ¬ p.r < 0 by omega), decide_eq_false (show ¬ p.r ≥ i by omega)]
    rfl
  unfold ppE
  rw [n]
  rcases ho with e | e | e <;> rw [e] <;> rfl
theorem pp_of {PL : Nat → Prt} {m : Nat} (h : PtOk (fun p => p.op = 0 ∧ ∀ i, ppE p i = 0) PL m) : PpOk PL m := fun q hq => by
  rcases h q hq with ⟨_, h⟩ | ⟨h1, h2, h3, h4, h5⟩
  · exact h _
  · exact pp_op h1 ⟨h2, h3⟩ ⟨h4, h5⟩
/-- SolidOf gives a solid that may be, of 1 to 7 parts. -/
theorem solid_made {n : Nat} {hs : Nat → Int} (h : Rng n hs) (hn : n ≤ 512) : ∃ m PL sk, 1 ≤ m ∧ m ≤ 7 ∧ PtOk (fun p => p.op = 0 ∧ ∀ i, ppE p i = 0) PL m ∧ (0 ≤ sk ∧ sk < 3) ∧ FSpec Tryz.prog 35 [sI n hs, iA 0, iA 3] (.agg (soC m PL sk)) := by
  obtain ⟨m, PL, h1, h2, h3, h4⟩ := solidOf_good h (LF := fun p => p.op = 0 ∧ ∀ i, ppE p i = 0) fun f hf => by
    obtain ⟨k, a, sk, hk, hg⟩ := xleaf_good h hn hf
    exact ⟨k, a, sk, hk, rfl, fun i => pp_leaf hg.1 hg.2 i⟩
  have hr := mrw_range (n := n) (hs := hs) h (k := 0) (by decide)
  exact ⟨m, PL, _, h1, h2, h3, mpk_range (m := 3) hr.1 hr.2 (by decide), h4⟩
end Go.Proofs.YtancjnambbkhmaaGreat.Hs.So

namespace Go.Proofs.YtancjnambbkhmaaGreat.Hs.So
open Go.Ev (flt fle fgt fge feq isNan key flt_key fgt_key fle_key fge_key feq_key)

/-- Is a place within one of the spans? -/
def InS (L : List Spn) (k : Int) : Prop := ∃ s, s ∈ L ∧ key s.i.t < k ∧ k < key s.o.t
def Off (k : Int) (x : Nat) : Prop := isNan x = false ∧ key x ≠ k
theorem in_app {A B : List Spn} {k : Int} : InS (A ++ B) k ↔ InS A k ∨ InS B k := by
  constructor
  · rintro ⟨s, hs, h⟩
    exact (List.mem_append.1 hs).elim (fun g => Or.inl ⟨s, g, h⟩) fun g => Or.inr ⟨s, g, h⟩
  · rintro (⟨s, hs, h⟩ | ⟨s, hs, h⟩)
    · exact ⟨s, List.mem_append_left _ hs, h⟩
    · exact ⟨s, List.mem_append_right _ hs, h⟩
theorem in_one {s : Spn} {k : Int} : InS [s] k ↔ key s.i.t < k ∧ k < key s.o.t := by
  constructor
  · rintro ⟨x, hx, h⟩; rw [List.mem_singleton.1 hx] at h; exact h
  · intro h; exact ⟨s, List.mem_cons_self, h⟩
theorem in_nil {k : Int} : ¬ InS [] k := by rintro ⟨s, hs, _⟩; cases hs
theorem in_piece {a b : Crs} {k : Int} (ha : isNan a.t = false) (hb : isNan b.t = false) : InS (piece a b) k ↔ key a.t < k ∧ k < key b.t := by
  unfold piece
  rw [flt_key ha hb]
  by_cases h : key a.t < key b.t
  · rw [decide_eq_true h, cond_true]; exact in_one
  · rw [decide_eq_false h, cond_false]
    exact ⟨fun h => absurd h in_nil, fun g => by omega⟩
theorem late_nan {a b : Crs} (ha : isNan a.t = false) (hb : isNan b.t = false) : isNan (lateS a b).t = false := by rcases late_or a b with h | h <;> rw [h] <;> assumption
theorem earl_nan {a b : Crs} (ha : isNan a.t = false) (hb : isNan b.t = false) : isNan (earlS a b).t = false := by rcases earl_or a b with h | h <;> rw [h] <;> assumption
theorem late_lt {a b : Crs} {k : Int} (ha : isNan a.t = false) (hb : isNan b.t = false) : key (lateS a b).t < k ↔ key a.t < k ∧ key b.t < k := by
  have := late_key ha hb
  have : key (lateS a b).t = key a.t ∨ key (lateS a b).t = key b.t := by rcases late_or a b with h | h <;> rw [h]; exact Or.inl rfl; exact Or.inr rfl
  omega
theorem earl_lt {a b : Crs} {k : Int} (ha : isNan a.t = false) (hb : isNan b.t = false) : k < key (earlS a b).t ↔ k < key a.t ∧ k < key b.t := by
  have := earl_key ha hb
  have : key (earlS a b).t = key a.t ∨ key (earlS a b).t = key b.t := by rcases earl_or a b with h | h <;> rw [h]; exact Or.inl rfl; exact Or.inr rfl
  omega
theorem in_both {A B : List Spn} {k : Int} (hA : Ris A) (hB : Ris B) : InS (bothL A B) k ↔ InS A k ∧ InS B k := by
  constructor
  · rintro ⟨s, hs, h⟩
    obtain ⟨l, hl, hs⟩ := List.mem_flatMap.1 hs
    obtain ⟨r, hr, hs⟩ := List.mem_flatMap.1 hs
    have w := both1_wn (hA.2 l hl) (hB.2 r hr) hs
    unfold Wn at w
    exact ⟨⟨l, hl, by omega, by omega⟩, ⟨r, hr, by omega, by omega⟩⟩
  · rintro ⟨⟨l, hl, h1, h2⟩, ⟨r, hr, h3, h4⟩⟩
    have gl := hA.2 l hl
    have gr := hB.2 r hr
    obtain ⟨s, hs, h⟩ := (in_piece (late_nan gl.ni gr.ni) (earl_nan gl.no gr.no)).2 ⟨(late_lt gl.ni gr.ni).2 ⟨h1, h3⟩, (earl_lt gl.no gr.no).2 ⟨h2, h4⟩⟩
    exact ⟨s, List.mem_flatMap.2 ⟨l, hl, List.mem_flatMap.2 ⟨r, hr, hs⟩⟩, h⟩
theorem in_cons {a : Spn} {l : List Spn} {k : Int} : InS (a :: l) k ↔ (key a.i.t < k ∧ k < key a.o.t) ∨ InS l k := by
  rw [show a :: l = [a] ++ l from rfl, in_app, in_one]
theorem in_low {l : List Spn} {k m : Int} (h : ∀ s, s ∈ l → m ≤ key s.i.t) (hk : k ≤ m) : ¬ InS l k := by
  rintro ⟨s, hs, h1, h2⟩
  have := h s hs
  omega
theorem in_cut {k : Int} : ∀ (B : List Spn) (g e : Crs), Ris B → Fr (Off k) B → isNan g.t = false → isNan e.t = false → (InS (cutC e B g) k ↔ (key g.t < k ∧ k < key e.t) ∧ ¬ InS B k)
  | [], g, e, _, _, ng, ne => by
    show InS (piece g e) k ↔ _
    rw [in_piece ng ne]
    exact ⟨fun h => ⟨h, in_nil⟩, fun h => h.1⟩
  | h :: t, g, e, hB, hF, ng, ne => by
    have gh := ris_head hB
    have hlt := gh.1.lt
    have of := hF h List.mem_cons_self
    have ht : Fr (Off k) t := fun s hs => hF s (List.mem_cons_of_mem _ hs)
    have o1 := of.1.2
    have o2 := of.2.2
    rw [in_cons]
    unfold cutC
    cases hs : skipB h g e
    · rw [cond_false, in_app, in_piece ng (b := turnS h.i) gh.1.ni, in_cut t (turnS h.o) e (ris_tail hB) ht gh.1.no ne]
      show (key g.t < k ∧ k < key h.i.t) ∨ (key h.o.t < k ∧ k < key e.t) ∧ ¬ InS t k ↔ _
      unfold skipB at hs
      rw [fle_key gh.1.no ng, fge_key gh.1.ni ne] at hs
      have hs := Bool.or_eq_false_iff.1 hs
      have s1 := of_decide_eq_false hs.1
      have s2 := of_decide_eq_false hs.2
      have lo : k ≤ key h.o.t → ¬ InS t k := fun hk => in_low (fun s hs => Int.le_of_lt (gh.2 s hs)) hk
      constructor
      · rintro (h1 | ⟨h1, h2⟩)
        · have := lo (by omega)
          refine ⟨by omega, ?_⟩
          rintro (h3 | h3)
          · omega
          · exact this h3
        · refine ⟨by omega, ?_⟩
          rintro (h3 | h3)
          · omega
          · exact h2 h3
      · rintro ⟨h1, h2⟩
        by_cases hk : k < key h.i.t
        · exact Or.inl ⟨h1.1, hk⟩
        · refine Or.inr ⟨?_, fun h3 => h2 (Or.inr h3)⟩
          refine ⟨?_, h1.2⟩
          by_cases h4 : k < key h.o.t
          · exact absurd (Or.inl ⟨by omega, h4⟩) h2
          · omega
    · rw [cond_true, in_cut t g e (ris_tail hB) ht ng ne]
      unfold skipB at hs
      rw [fle_key gh.1.no ng, fge_key gh.1.ni ne] at hs
      constructor
      · rintro ⟨h1, h2⟩
        refine ⟨h1, ?_⟩
        rintro (h3 | h3)
        · rcases Bool.or_eq_true_iff.1 hs with c | c
          · have := of_decide_eq_true c; omega
          · have := of_decide_eq_true c; omega
        · exact h2 h3
      · rintro ⟨h1, h2⟩
        exact ⟨h1, fun h3 => h2 (Or.inr h3)⟩
theorem in_less {A B : List Spn} {k : Int} (hA : Ris A) (hB : Ris B) (hF : Fr (Off k) B) : InS (lessL A B) k ↔ InS A k ∧ ¬ InS B k := by
  constructor
  · rintro ⟨s, hs, h⟩
    obtain ⟨l, hl, hs⟩ := List.mem_flatMap.1 hs
    have gl := hA.2 l hl
    have := (in_cut B l.i l.o hB hF gl.ni gl.no).1 ⟨s, hs, h⟩
    exact ⟨⟨l, hl, this.1⟩, this.2⟩
  · rintro ⟨⟨l, hl, h⟩, hn⟩
    have gl := hA.2 l hl
    obtain ⟨s, hs, h⟩ := (in_cut B l.i l.o hB hF gl.ni gl.no).2 ⟨h, hn⟩
    exact ⟨s, List.mem_flatMap.2 ⟨l, hl, hs⟩, h⟩
/-- Where the last span of a row begins ahead of what is laid to it, the row is what it was and that. -/
theorem in_swp {L : List Spn} {s : Spn} {k : Int} (hL : Ris L) (hF : Fr (Off k) L) (hs : Gd s) (hk : Off k s.i.t ∧ Off k s.o.t) (hl : ∀ x, x ∈ L → key x.i.t ≤ key s.i.t) : InS (swp L s) k ↔ InS L k ∨ (key s.i.t < k ∧ k < key s.o.t) := by
  rcases List.eq_nil_or_concat L with h | ⟨L', l, h⟩
  · subst h
    rw [swp_nil, in_one]
    exact ⟨Or.inr, fun h => h.resolve_left in_nil⟩
  · rw [List.concat_eq_append] at h
    subst h
    rw [swp_concat]
    have ml : l ∈ L' ++ [l] := List.mem_append_right _ List.mem_cons_self
    have gl : Gd l := hL.2 l ml
    have ol := hF l ml
    have o1 := ol.1.2
    have o2 := ol.2.2
    have o3 := hk.1.2
    have o4 := hk.2.2
    have := hl l ml
    rw [fgt_key hs.ni gl.no]
    by_cases h : key l.o.t < key s.i.t
    · rw [decide_eq_true h, cond_true, in_app, in_one]
    · rw [decide_eq_false h, cond_false, in_app, in_app, in_one, in_one]
      show InS L' k ∨ (key l.i.t < k ∧ k < key (lateS l.o s.o).t) ↔ _
      have hk := late_key gl.no hs.no
      have e : (key l.i.t < k ∧ k < key (lateS l.o s.o).t) ↔ (key l.i.t < k ∧ k < key l.o.t) ∨ (key s.i.t < k ∧ k < key s.o.t) := by
        have : key (lateS l.o s.o).t = key l.o.t ∨ key (lateS l.o s.o).t = key s.o.t := by rcases late_or l.o s.o with h | h <;> rw [h]; exact Or.inl rfl; exact Or.inr rfl
        omega
      rw [e, or_assoc]
def Srt (M : List Spn) : Prop := M.Pairwise fun a b => key a.i.t ≤ key b.i.t
theorem swp_low {L : List Spn} {s b : Spn} (hL : ∀ x, x ∈ L → key x.i.t ≤ key b.i.t) (hs : key s.i.t ≤ key b.i.t) : ∀ x, x ∈ swp L s → key x.i.t ≤ key b.i.t := by
  rcases List.eq_nil_or_concat L with h | ⟨L', l, h⟩
  · subst h
    intro x hx
    rw [List.mem_singleton.1 hx]; exact hs
  · rw [List.concat_eq_append] at h
    subst h
    rw [swp_concat]
    intro x hx
    cases hc : fgt s.i.t l.o.t <;> rw [hc] at hx
    · rcases List.mem_append.1 hx with hx | hx
      · exact hL x (List.mem_append_left _ hx)
      · rw [List.mem_singleton.1 hx]; exact hL l (List.mem_append_right _ List.mem_cons_self)
    · rcases List.mem_append.1 hx with hx | hx
      · exact hL x hx
      · rw [List.mem_singleton.1 hx]; exact hs
theorem in_fold {k : Int} : ∀ (M L : List Spn), Ris L → Fr (Off k) L → (∀ s, s ∈ M → Gd s) → Fr (Off k) M → Srt M → (∀ x, x ∈ L → ∀ s, s ∈ M → key x.i.t ≤ key s.i.t) → (InS (M.foldl swp L) k ↔ InS L k ∨ InS M k)
  | [], L, _, _, _, _, _, _ => ⟨Or.inl, fun h => h.resolve_right in_nil⟩
  | s :: M, L, hL, fL, gM, fM, sM, hl => by
    have gs := gM s List.mem_cons_self
    have fs := fM s List.mem_cons_self
    have sm := List.pairwise_cons.1 sM
    show InS (M.foldl swp (swp L s)) k ↔ _
    rw [in_fold M (swp L s) (swp_ris hL gs) (fr_swp fL fs) (fun x hx => gM x (List.mem_cons_of_mem _ hx)) (fun x hx => fM x (List.mem_cons_of_mem _ hx)) sm.2 (fun x hx y hy => swp_low (fun z hz => hl z hz y (List.mem_cons_of_mem _ hy)) (sm.1 y hy) x hx)]
    rw [in_swp hL fL gs fs (fun x hx => hl x hx s List.mem_cons_self), in_cons, or_assoc]
theorem mrg_srt : ∀ (A B : List Spn), Ris A → Ris B → Srt (mrg A B)
  | [], B, _, hB => by
    rw [mrg]
    refine List.Pairwise.imp_of_mem (fun {a b} ha hb h => ?_) hB.1
    have := (hB.2 a ha).lt
    omega
  | a :: A, [], hA, _ => by
    rw [mrg]
    refine List.Pairwise.imp_of_mem (fun {x b} hx hb h => ?_) hA.1
    have := (hA.2 x hx).lt
    omega
  | a :: A, b :: B, hA, hB => by
    have ga := (ris_head hA).1
    have gb := (ris_head hB).1
    rw [mrg, fle_key ga.ni gb.ni]
    by_cases h : key a.i.t ≤ key b.i.t
    · rw [decide_eq_true h, cond_true]
      refine List.pairwise_cons.2 ⟨fun x hx => ?_, mrg_srt A (b :: B) (ris_tail hA) hB⟩
      rcases mrg_mem A (b :: B) x hx with hx | hx
      · exact Int.le_of_lt (ris_lt hA hx)
      · rcases List.mem_cons.1 hx with e | hx
        · rw [e]; exact h
        · have := ris_lt hB hx; omega
    · rw [decide_eq_false h, cond_false]
      refine List.pairwise_cons.2 ⟨fun x hx => ?_, mrg_srt (a :: A) B hA (ris_tail hB)⟩
      rcases mrg_mem (a :: A) B x hx with hx | hx
      · rcases List.mem_cons.1 hx with e | hx
        · rw [e]; omega
        · have := ris_lt hA hx; omega
      · exact Int.le_of_lt (ris_lt hB hx)
  termination_by A B => A.length + B.length
theorem mrg_in : ∀ (A B : List Spn) (s : Spn), s ∈ A ∨ s ∈ B → s ∈ mrg A B
  | [], B, s, h => by rw [mrg]; exact h.resolve_left (by intro h; cases h)
  | a :: A, [], s, h => by rw [mrg]; exact h.resolve_right (by intro h; cases h)
  | a :: A, b :: B, s, h => by
    rw [mrg]
    cases fle a.i.t b.i.t
    · show s ∈ b :: mrg (a :: A) B
      rcases h with h | h
      · exact List.mem_cons_of_mem _ (mrg_in (a :: A) B s (Or.inl h))
      · rcases List.mem_cons.1 h with e | h
        · rw [e]; exact List.mem_cons_self
        · exact List.mem_cons_of_mem _ (mrg_in (a :: A) B s (Or.inr h))
    · show s ∈ a :: mrg A (b :: B)
      rcases h with h | h
      · rcases List.mem_cons.1 h with e | h
        · rw [e]; exact List.mem_cons_self
        · exact List.mem_cons_of_mem _ (mrg_in A (b :: B) s (Or.inl h))
      · exact List.mem_cons_of_mem _ (mrg_in A (b :: B) s (Or.inr h))
  termination_by A B => A.length + B.length
theorem in_either {A B : List Spn} {k : Int} (hA : Ris A) (hB : Ris B) (fA : Fr (Off k) A) (fB : Fr (Off k) B) : InS (eitherL A B) k ↔ InS A k ∨ InS B k := by
  unfold eitherL
  rw [in_fold (mrg A B) [] ris_nil (fun s hs => by cases hs) (fun s hs => (mrg_mem A B s hs).elim (hA.2 s) (hB.2 s)) (fun s hs => (mrg_mem A B s hs).elim (fA s) (fB s)) (mrg_srt A B hA hB) (fun x hx => by cases hx)]
  constructor
  · rintro (h | ⟨s, hs, h⟩)
    · exact absurd h in_nil
    · exact (mrg_mem A B s hs).elim (fun g => Or.inl ⟨s, g, h⟩) fun g => Or.inr ⟨s, g, h⟩
  · rintro (⟨s, hs, h⟩ | ⟨s, hs, h⟩)
    · exact Or.inr ⟨s, mrg_in A B s (Or.inl hs), h⟩
    · exact Or.inr ⟨s, mrg_in A B s (Or.inr hs), h⟩
def shC' (n : Int) (c : Crs) : Crs := ⟨c.t, c.l + n, c.u⟩
def shS (n : Int) (s : Spn) : Spn := ⟨shC' n s.i, shC' n s.o⟩
theorem sh_late (n : Int) (a b : Crs) : lateS (shC' n a) (shC' n b) = shC' n (lateS a b) := by
  show cond (fgt b.t a.t) _ _ = shC' n (cond (fgt b.t a.t) b a)
  cases fgt b.t a.t <;> rfl
theorem sh_earl (n : Int) (a b : Crs) : earlS (shC' n a) (shC' n b) = shC' n (earlS a b) := by
  show cond (flt b.t a.t) _ _ = shC' n (cond (flt b.t a.t) b a)
  cases flt b.t a.t <;> rfl
theorem sh_piece (n : Int) (a b : Crs) : piece (shC' n a) (shC' n b) = (piece a b).map (shS n) := by
  show cond (flt a.t b.t) _ _ = (cond (flt a.t b.t) _ _ : List Spn).map (shS n)
  cases flt a.t b.t <;> rfl
theorem flat_map {f g : Spn → List Spn} {n : Int} : ∀ (l : List Spn), (∀ s, f (shS n s) = (g s).map (shS n)) → (l.map (shS n)).flatMap f = (l.flatMap g).map (shS n)
  | [], _ => rfl
  | a :: l, h => by rw [List.map_cons, List.flatMap_cons, List.flatMap_cons, List.map_append, h a, flat_map l h]
theorem sh_both (n : Int) (A B : List Spn) : bothL (A.map (shS n)) (B.map (shS n)) = (bothL A B).map (shS n) := by
  unfold bothL
  refine flat_map A fun l => flat_map B fun r => ?_
  unfold both1
  show piece (lateS (shC' n l.i) (shC' n r.i)) (earlS (shC' n l.o) (shC' n r.o)) = _
  rw [sh_late, sh_earl, sh_piece]
theorem sh_cut (n : Int) (e : Crs) : ∀ (B : List Spn) (g : Crs), cutC (shC' n e) (B.map (shS n)) (shC' n g) = (cutC e B g).map (shS n)
  | [], g => sh_piece n g e
  | h :: t, g => by
    show cond (skipB h g e) (cutC (shC' n e) (t.map (shS n)) (shC' n g)) (piece (shC' n g) (shC' n (turnS h.i)) ++ cutC (shC' n e) (t.map (shS n)) (shC' n (turnS h.o))) = (cond (skipB h g e) _ _ : List Spn).map (shS n)
    rw [sh_cut n e t g, sh_cut n e t (turnS h.o), sh_piece]
    cases skipB h g e
    · rw [cond_false, cond_false, List.map_append]
    · rfl
theorem sh_less (n : Int) (A B : List Spn) : lessL (A.map (shS n)) (B.map (shS n)) = (lessL A B).map (shS n) := flat_map A fun l => sh_cut n l.o B l.i
theorem sh_swp (n : Int) (L : List Spn) (s : Spn) : swp (L.map (shS n)) (shS n s) = (swp L s).map (shS n) := by
  rcases List.eq_nil_or_concat L with h | ⟨L', l, h⟩
  · subst h; rfl
  · rw [List.concat_eq_append] at h
    subst h
    rw [swp_concat, List.map_append, show [l].map (shS n) = [shS n l] from rfl, swp_concat]
    show cond (fgt s.i.t l.o.t) _ _ = _
    cases fgt s.i.t l.o.t
    · rw [cond_false, cond_false, List.map_append]
      show L'.map (shS n) ++ [⟨shC' n l.i, lateS (shC' n l.o) (shC' n s.o)⟩] = _
      rw [sh_late]; rfl
    · rw [cond_true, cond_true, List.map_append, List.map_append]; rfl
theorem sh_fold (n : Int) : ∀ (M L : List Spn), (M.map (shS n)).foldl swp (L.map (shS n)) = (M.foldl swp L).map (shS n)
  | [], _ => rfl
  | s :: M, L => by
    show (M.map (shS n)).foldl swp (swp (L.map (shS n)) (shS n s)) = _
    rw [sh_swp, sh_fold n M]; rfl
theorem sh_mrg (n : Int) : ∀ (A B : List Spn), mrg (A.map (shS n)) (B.map (shS n)) = (mrg A B).map (shS n)
  | [], B => by rw [List.map_nil, mrg, mrg]
  | a :: A, [] => by rw [List.map_nil, List.map_cons, mrg, mrg]; rfl
  | a :: A, b :: B => by
    have h1 := sh_mrg n A (b :: B)
    have h2 := sh_mrg n (a :: A) B
    rw [List.map_cons] at h1 h2
    rw [List.map_cons, List.map_cons, mrg, mrg, h1, h2]
    show cond (fle a.i.t b.i.t) _ _ = _
    cases fle a.i.t b.i.t <;> rfl
  termination_by A B => A.length + B.length
theorem sh_either (n : Int) (A B : List Spn) : eitherL (A.map (shS n)) (B.map (shS n)) = (eitherL A B).map (shS n) := by
  unfold eitherL
  rw [sh_mrg]
  exact sh_fold n (mrg A B) []
theorem sh_row (n : Int) (o : Int) (L A B : List Spn) : rowV o (L.map (shS n)) (A.map (shS n)) (B.map (shS n)) = (rowV o L A B).map (shS n) := by
  unfold rowV
  rw [sh_both, sh_either, sh_less]
  cases o == 0
  · cases o == 1
    · cases o == 2 <;> rfl
    · rfl
  · rfl
end Go.Proofs.YtancjnambbkhmaaGreat.Hs.So

namespace Go.Proofs.YtancjnambbkhmaaGreat.Hs.So
open Go.Ev (flt fle fgt fge feq isNan key flt_key fgt_key fle_key fge_key feq_key)

/-- p3 holds pa, then pb (moved on by na). -/
structure Joins (p3 pa pb : Pl) (na nb : Nat) : Prop where
  left : ∀ q, q < na → p3.op q = pa.op q ∧ p3.l q = pa.l q ∧ p3.r q = pa.r q ∧ p3.lf q = pa.lf q
  right : ∀ q, q < nb → p3.op (na + q) = pb.op q ∧ (pb.op q ≠ 0 → p3.l (na + q) = na + pb.l q ∧ p3.r (na + q) = na + pb.r q) ∧ p3.lf (na + q) = (pb.lf q).map (shS na)
theorem rowV_ne {o : Int} (h : o ≠ 0) (L L' A B : List Spn) : rowV o L A B = rowV o L' A B := by
  unfold rowV
  rw [beq_false_of_ne h]; rfl
theorem rwF_at (p : Pl) (k : Nat) : rwF p (k + 1) k = rowV (p.op k) (p.lf k) (rwF p k (p.l k)) (rwF p k (p.r k)) := by
  show (if k = k then _ else _) = _
  rw [if_pos rfl]
theorem rwF_off (p : Pl) {k q : Nat} (h : q ≠ k) : rwF p (k + 1) q = rwF p k q := by
  show (if q = k then _ else _) = _
  rw [if_neg h]
section
variable {p3 pa pb : Pl} {na nb : Nat} (h : Joins p3 pa pb na nb)
include h
theorem rw_left : ∀ k, k ≤ na → rwF p3 k = rwF pa k
  | 0, _ => rfl
  | k + 1, hk => by
    have ih := rw_left k (by omega)
    obtain ⟨h1, h2, h3, h4⟩ := h.left k (by omega)
    funext q
    rw [rwF, rwF, ih, h1, h2, h3, h4]
theorem rw_keep : ∀ k, k ≤ nb → ∀ q, q < na → rwF p3 (na + k) q = rwF pa na q
  | 0, _, q, _ => by rw [Nat.add_zero, rw_left h na (Nat.le_refl _)]
  | k + 1, hk, q, hq => by
    rw [← Nat.add_assoc, rwF_off p3 (by omega)]
    exact rw_keep k (by omega) q hq
theorem rw_right (hb : PlOk pb nb) : ∀ k, k ≤ nb → ∀ q, q < k → rwF p3 (na + k) (na + q) = (rwF pb k q).map (shS na)
  | 0, _, q, hq => absurd hq (Nat.not_lt_zero q)
  | k + 1, hk, q, hq => by
    have ih := rw_right hb k (by omega)
    rw [← Nat.add_assoc]
    by_cases e : q = k
    · subst e
      rw [rwF_at, rwF_at]
      obtain ⟨h1, h2, h3⟩ := h.right q (by omega)
      rw [h1, h3]
      rcases hb.kids q (by omega) with e0 | ⟨e0, l1, l2⟩
      · rw [e0]; rfl
      · obtain ⟨g1, g2⟩ := h2 e0
        rw [g1, g2, ih _ l1, ih _ l2, sh_row]
    · rw [rwF_off p3 (by omega), rwF_off pb e]
      exact ih q (by omega)
theorem rw_join (hb : PlOk pb nb) (ha1 : 1 ≤ na) (hb1 : 1 ≤ nb) (h0 : p3.op (na + nb) ≠ 0) (hl : p3.l (na + nb) = na - 1) (hr : p3.r (na + nb) = na + nb - 1) : rwF p3 (na + nb + 1) (na + nb) = rowV (p3.op (na + nb)) [] (rwF pa na (na - 1)) ((rwF pb nb (nb - 1)).map (shS na)) := by
  rw [rwF_at, hl, hr, rw_keep h nb (Nat.le_refl _) _ (by omega), show na + nb - 1 = na + (nb - 1) by omega, rw_right h hb nb (Nat.le_refl _) _ (by omega)]
  exact rowV_ne h0 _ _ _ _
end
def inB (l : List Spn) (t : Nat) : Bool := l.any fun s => cond (flt s.i.t t) (flt t s.o.t) false
def endB (l : List Spn) (t : Nat) : Bool := l.any fun s => cond (feq s.i.t t) true (feq s.o.t t)
theorem inB_iff {l : List Spn} {t : Nat} (hl : Ris l) (ht : isNan t = false) : inB l t = true ↔ InS l (key t) := by
  unfold inB InS
  rw [List.any_eq_true]
  constructor
  · rintro ⟨s, hs, h⟩
    have g := hl.2 s hs
    rw [flt_key g.ni ht, flt_key ht g.no] at h
    refine ⟨s, hs, ?_⟩
    by_cases h1 : key s.i.t < key t
    · rw [decide_eq_true h1, cond_true] at h
      exact ⟨h1, of_decide_eq_true h⟩
    · rw [decide_eq_false h1] at h; cases h
  · rintro ⟨s, hs, h1, h2⟩
    have g := hl.2 s hs
    exact ⟨s, hs, by rw [flt_key g.ni ht, flt_key ht g.no, decide_eq_true h1, cond_true, decide_eq_true h2]⟩
theorem endB_off {l : List Spn} {t : Nat} (hl : Ris l) (ht : isNan t = false) (h : endB l t = false) : ∀ s, s ∈ l → Off (key t) s.i.t ∧ Off (key t) s.o.t := fun s hs => by
  unfold endB at h
  rw [List.any_eq_false] at h
  have h := h s hs
  have g := hl.2 s hs
  rw [feq_key g.ni ht, feq_key g.no ht] at h
  by_cases h1 : key s.i.t = key t
  · rw [decide_eq_true h1] at h; exact absurd rfl h
  · rw [decide_eq_false h1, cond_false] at h
    refine ⟨⟨g.ni, h1⟩, g.no, fun e => h (decide_eq_true e)⟩
theorem inB_sh {l : List Spn} {t : Nat} (n : Int) : inB (l.map (shS n)) t = inB l t := by
  unfold inB
  rw [List.any_map]; rfl
theorem endB_sh {l : List Spn} {t : Nat} (n : Int) : endB (l.map (shS n)) t = endB l t := by
  unfold endB
  rw [List.any_map]; rfl
end Go.Proofs.YtancjnambbkhmaaGreat.Hs.So

namespace Go.Proofs.YtancjnambbkhmaaGreat.Hs.So
open Go.Gv
open Go.Ev (cn fadd fsub fmul fdiv fsqrt fneg feq flt fle fgt fge fabs isNan key flt_key fgt_key feq_key flt_true)

/-- A solid's parts, in plain words. -/
noncomputable def plP (P : Nat → Prt) (r : Nat → Nat) : Pl := ⟨fun k => (P k).op, fun k => (P k).l.toNat, fun k => (P k).r.toNat, fun k => lfL (k : Nat) (P k).s (l7 r)⟩
theorem lfL_one (num : Int) (p : Prt) (r : Nat → Nat) : lfL num p.s (l7 r) = [] ∨ ∃ s, lfL num p.s (l7 r) = [s] ∧ Gd s := by
  unfold lfL
  cases h : (witC p.s (l7 r)).ok
  · exact Or.inl rfl
  · refine Or.inr ⟨_, rfl, ?_⟩
    have := flt_true ((witC_spec p.k p.a p.sk (l7 r)).2.2 h)
    exact ⟨this.1, this.2.1, this.2.2⟩
theorem pl_ok {n : Nat} {P : Nat → Prt} (r : Nat → Nat) (hp : ∀ k, k < n → ppE (P k) (k : Nat) = 0) : PlOk (plP P r) n := by
  refine ⟨fun j hj => ?_, fun j _ _ => lfL_one _ _ _⟩
  rcases pr_ok (hp j hj) with h | ⟨h, l, r, e1, e2, h1, h2⟩
  · exact Or.inl h
  · refine Or.inr ⟨h, ?_, ?_⟩
    · show (P j).l.toNat < j
      rw [e1, Int.toNat_natCast]; exact h1
    · show (P j).r.toNat < j
      rw [e2, Int.toNat_natCast]; exact h2
theorem op_three {p : Prt} {k : Int} (h : ppE p k = 0) (h0 : p.op ≠ 0) : p.op = 1 ∨ p.op = 2 ∨ p.op = 3 := by
  unfold ppE at h
  rw [beq_false_of_ne h0, cond_false] at h
  cases ho : opB p.op
  · rw [ho] at h; exact absurd (show (11 : Int) = 0 from h) (by decide)
  · unfold opB at ho
    by_cases h1 : p.op = 1
    · exact Or.inl h1
    · by_cases h2 : p.op = 2
      · exact Or.inr (Or.inl h2)
      · rw [beq_false_of_ne h1, beq_false_of_ne h2, Bool.false_or, Bool.false_or] at ho
        exact Or.inr (Or.inr (eq_of_beq ho))
def twoG (f : List Spn → List Spn → List Spn) : List AV → List Spn
  | [.sl _ m el, .sl _ m' el'] => f (decL m el) (decL m' el')
  | _ => []
theorem twoG_eq (f : List Spn → List Spn → List Spn) (A B : List Spn) : twoG f [slL A, slL B] = f A B := by
  show f (decL A.length (elL A)) (decL B.length (elL B)) = _
  rw [decL_el, decL_el]
theorem spC_t {n : Nat} {P : Nat → Prt} {r : Nat → Nat} {k : Nat} (hk : k < n) (hn : n ≤ 16) (hp : ∀ k, k < n → ppE (P k) (k : Nat) = 0) (f : List Spn → Option Out) (o oe : Option Out) :
    spC lfL (twoG bothL) (twoG eitherL) (twoG lessL) n P r (k : Nat) (rwF (plP P r) k) f o oe = f (rowV (P k).op (lfL (k : Nat) (P k).s (l7 r)) (rwF (plP P r) k (P k).l.toNat) (rwF (plP P r) k (P k).r.toNat)) := by
  unfold spC
  rw [dec_lt hk, ixB_t hk, Int.toNat_natCast]
  rcases pr_ok (hp k hk) with h | ⟨h, l, rr, e1, e2, h1, h2⟩
  · have e : ((P k).op == 0) = true := by rw [h]; rfl
    unfold rowV
    rw [e]
    exact ow_t hk _
  · have pok := pl_ok r hp
    have il := rw_ok pok k (by omega) l h1
    have ir := rw_ok pok k (by omega) rr h2
    have ll := rw_len pok (by omega) h1 (by omega)
    have lr := rw_len pok (by omega) h2 (by omega)
    have go : ∀ (fn : Nat) (g : List Spn → List Spn → List Spn), FSpec Tryz.prog fn [slL (rwF (plP P r) k l), slL (rwF (plP P r) k rr)] (slL (g (rwF (plP P r) k l) (rwF (plP P r) k rr))) → spG n (k : Nat) (rwF (plP P r) k) fn (twoG g) (P k) f = f (g (rwF (plP P r) k l) (rwF (plP P r) k rr)) := fun fn g hs => by
      unfold spG spA
      rw [e1, e2, Int.toNat_natCast, Int.toNat_natCast, Nat.zero_add, Nat.zero_add, twoG_eq, gate_pos hs, jnB_t (by omega) (by omega) hk]
      rfl
    unfold rowV
    rw [beq_false_of_ne h, cond_false, cond_true, cond_false, go _ bothL (both_spec (by omega) (by omega)), go _ eitherL (either_spec il.ris ir.ris (by omega)), go _ lessL (less_spec (by omega) (by omega)), e1, e2, Int.toNat_natCast, Int.toNat_natCast]
    rcases op_three (hp k hk) h with h3 | h3 | h3 <;> rw [h3] <;> rfl
theorem spE_ok : ∀ e, e ∈ [(⟨107, eLf lfL⟩ : Entry)] → EOk Tryz.prog e := e_cons eLf_ok e_nil
theorem spK_ok {b1 b2 b3 : List AV → List Spn} : ∀ e, e ∈ spK b1 b2 b3 → KOk Tryz.prog e := k_cons kS_ok (k_cons kS_ok (k_cons kS_ok k_nil))
theorem mix_sl (b : Bool) (A B : List Spn) : mixL b [slL A] [slL B] = [slL (cond b A B)] := by
  have e : mixL b [slL A] [slL B] = [.sl 6 (cond b A.length B.length) fun i => mixL b (elL A i) (elL B i)] := rfl
  rw [e]
  cases b
  · show [AV.sl 6 B.length fun i => mixL false (elL A i) (elL B i)] = [slL B]
    have : (fun i => mixL false (elL A i) (elL B i)) = elL B := by
      funext i
      show mixL false (gtL A i).c (gtL B i).c = _
      rw [mix_c]; rfl
    rw [this]; rfl
  · show [AV.sl 6 A.length fun i => mixL true (elL A i) (elL B i)] = [slL A]
    have : (fun i => mixL true (elL A i) (elL B i)) = elL A := by
      funext i
      show mixL true (gtL A i).c (gtL B i).c = _
      rw [mix_c]; rfl
    rw [this]; rfl
theorem sp_leads {n : Nat} (hn : n ≤ 16) {P : Nat → Prt} (r : Nat → Nat) (hp : ∀ k, k < n → ppE (P k) (k : Nat) = 0) : Leads Tryz.prog (.loop (loopAt Tryz.f73 0)) (spS n P r 0 (rwF (plP P r) 0)) (.exit 0) (spS n P r n (rwF (plP P r) n)) := by
  refine loop_rule (fun k => spS n P r (k : Nat) (rwF (plP P r) k)) n (.exit 0) _ (by simp) (fun k hk => ?_) ?_
  · have st := sp_step lfL (twoG bothL) (twoG eitherL) (twoG lessL) n P r (k : Nat) (rwF (plP P r) k)
    rw [spC_t hk hn hp, w64_next (by omega), Int.toNat_natCast] at st
    refine (leads_ev (finN_sub _ _) spE_ok spK_ok noL_ok st).sub (Sub.refl _) ?_
    refine sub_same ⟨Or.inl rfl, Or.inr ⟨57, 1, n, _, _, rfl, rfl, fun q hq => ?_⟩, trivial⟩
    rw [mix_sl, Nat.zero_add]
    show [slL (if q = k then rowV (P k).op (lfL (k : Nat) (P k).s (l7 r)) (rwF (plP P r) k (P k).l.toNat) (rwF (plP P r) k (P k).r.toNat) else rwF (plP P r) k q)] = _
    by_cases e : q = k
    · subst e; rw [BEq.rfl, if_pos rfl]; rfl
    · rw [beq_false_of_ne e, if_neg e]; rfl
  · refine leads_ev (finE_sub _ _) spE_ok spK_ok noL_ok ((sp_end lfL (twoG bothL) (twoG eitherL) (twoG lessL) n P r (n : Nat) (rwF (plP P r) n)).trans ?_)
    unfold spC
    rw [dec_self, cond_false]
/-- Where a ray is within a solid. -/
noncomputable def soS (n : Nat) (P : Nat → Prt) (r : Nat → Nat) : List Spn := rwF (plP P r) n (n - 1)
theorem sp_spec {n : Nat} (h1 : 1 ≤ n) (hn : n ≤ 16) {P : Nat → Prt} (r : Nat → Nat) (hp : ∀ k, k < n → ppE (P k) (k : Nat) = 0) : FSpec Tryz.prog 73 [prS n P, RY r] (slL (soS n P r)) := by
  refine gspec spE_ok spK_ok Tryz.func73 (by kernel_rfl) (by kernel_rfl) (lok_at (i := 3) 0 1 (by kernel_rfl) (by kernel_rfl) (toldF_sound (keep := keepSp) (τ := [some 0, some 1]) (sp_leads hn r hp))) rfl ((sp_ev lfL (twoG bothL) (twoG eitherL) (twoG lessL) n P r (rwF (plP P r) 0) (rwF (plP P r) n)).trans ?_)
  have hs : Sub (spR n P r 0 fun _ => [.x (.slice none 0 0)]) (spS n P r 0 (rwF (plP P r) 0)) := by
    refine sub_like ⟨Or.inl rfl, Or.inr (Or.inl ⟨57, 1, n, _, _, rfl, rfl, fun i hi => ⟨rfl, fun E cs hc => ?_⟩⟩), trivial⟩
    obtain ⟨u, us, e, h1, h2⟩ := pre_cons.1 hc
    exact pre_cons.2 ⟨u, us, e, rel_nil_sl h1, h2⟩
  have hm : ((decide (0 ≤ (n : Int)) && (decide ((n : Int) ≤ n) && decide (((24 : Nat) : Int) * n ≤ 281474976710656))) || false) = true := by
    rw [decide_eq_true (show (0 : Int) ≤ n by omega), decide_eq_true (show (n : Int) ≤ n by omega), decide_eq_true (show ((24 : Nat) : Int) * n ≤ 281474976710656 by omega)]; rfl
  rw [hm, gate_pos hs, w64_id (by omega) (by omega), show ((n : Int) - 1) = ((n - 1 : Nat) : Int) by omega, ow_t (by omega), Int.toNat_natCast, Nat.zero_add]
  rfl
end Go.Proofs.YtancjnambbkhmaaGreat.Hs.So

namespace Go.Proofs.YtancjnambbkhmaaGreat.Hs.So
open Go.Gv
open Go.Ev (cn fadd fsub fmul fdiv fsqrt fneg feq flt fle fgt fge fabs isNan key flt_key fgt_key feq_key)

section
variable (A B : List Spn) (i k : Int) (R : List Spn)
end
structure JoOk (A B : List Spn) (t : Nat) (x : Nat × Nat × List Spn) : Prop where
  sum : x.1 + x.2.1 = t
  a : x.1 ≤ A.length
  b : x.2.1 ≤ B.length
  len : x.2.2.length = t
  mrg : x.2.2 ++ mrg (A.drop x.1) (B.drop x.2.1) = mrg A B
end Go.Proofs.YtancjnambbkhmaaGreat.Hs.So

namespace Go.Proofs.YtancjnambbkhmaaGreat.Hs.So
open Go.Gv
open Go.Ev (cn fadd fsub fmul fdiv fsqrt fneg feq flt fle fgt fge fabs isNan key flt_key fgt_key feq_key)

section
end
end Go.Proofs.YtancjnambbkhmaaGreat.Hs.So

namespace Go.Proofs.YtancjnambbkhmaaGreat.Hs.So
open Go.Gv
open Go.Ev (cn fadd fsub fmul fdiv fsqrt fneg feq flt fle fgt fge fabs isNan key flt_key fgt_key feq_key)

section
end
end Go.Proofs.YtancjnambbkhmaaGreat.Hs.So

namespace Go.Proofs.YtancjnambbkhmaaGreat.Hs.So
open Go.Gv
open Go.Ev (cn fadd fsub fmul fdiv fsqrt fneg feq flt fle fgt fge fabs isNan key flt_key fgt_key feq_key)

section
end
section
end
section
end
end Go.Proofs.YtancjnambbkhmaaGreat.Hs.So

namespace Go.Proofs.YtancjnambbkhmaaGreat.Hs.So
open Go.Gv
open Go.Ev (cn fadd fsub fmul fdiv fsqrt fneg feq flt fle fgt fge fabs isNan key flt_key fgt_key feq_key)

end Go.Proofs.YtancjnambbkhmaaGreat.Hs.So

namespace Go.Gv

end Go.Gv

namespace Go.Proofs.YtancjnambbkhmaaGreat.Hs.So
open Go.Gv
open Go.Ev (cn fadd fsub fmul fdiv fsqrt fneg feq flt fle fgt fge fabs isNan key flt_key fgt_key feq_key)

section
end
end Go.Proofs.YtancjnambbkhmaaGreat.Hs.So

namespace Go.Proofs.YtancjnambbkhmaaGreat.Hs.So
open Go.Gv
open Go.Ev (cn fadd fsub fmul fdiv fsqrt fneg feq flt fle fgt fge fabs isNan key flt_key fgt_key feq_key)

end Go.Proofs.YtancjnambbkhmaaGreat.Hs.So

namespace Go.Proofs.YtancjnambbkhmaaGreat.Hs.So
open Go.Gv
open Go.Ev (cn fadd fsub fmul fdiv fsqrt fneg feq flt fle fgt fge fabs isNan key flt_key fgt_key feq_key)

def tkB (lo : Nat) (c : Crs) : Bool := cond (fge c.t lo) (fgt c.t 0) false
section
variable (lo : Nat) (L : List Spn) (i : Int)
end
section
variable (n : Nat) (P : Nat → Prt) (sn : Int) (r : Nat → Nat) (e e' : Int) (S : List Spn)
theorem mm_ev : ev Tryz.prog [] [kS Tryz.prog 26 fun _ => iA e, kS Tryz.prog 87 fun _ => iA e'] noL Tryz.f72 [.agg (soC n P sn), RY r] ret = gate (FSpec Tryz.prog 26 [.agg (soC n P sn)] (iA e)) (cond (!(e == 0)) (some (Out.of (iA e))) (gate (FSpec Tryz.prog 87 [RY r] (iA e')) (some (Out.of (iA e'))))) := by kernel_rfl
theorem ss_ev : ev Tryz.prog [] [kS Tryz.prog 72 fun _ => iA e, kS Tryz.prog 73 fun _ => slL S] noL Tryz.f28 [.agg (soC n P sn), RY r] ret = gate (FSpec Tryz.prog 72 [.agg (soC n P sn), RY r] (iA e)) (cond (!(e == 0)) (some (Out.of (.tup [.x (.slice none 0 0), iA e]))) (gate (FSpec Tryz.prog 73 [prS n P, RY r] (slL S)) (some (Out.of (.tup [slL S, iA 0]))))) := by kernel_rfl
end
end Go.Proofs.YtancjnambbkhmaaGreat.Hs.So

namespace Go.Proofs.YtancjnambbkhmaaGreat.Hs.So
open Go.Gv
open Go.Ev (cn fadd fsub fmul fdiv fsqrt fneg feq flt fle fgt fge fabs isNan key flt_key fgt_key feq_key)

/-- The errno of a solid and a ray. -/
noncomputable def srE (n : Nat) (P : Nat → Prt) (sn : Int) (r : Nat → Nat) : Int := cond (soE n P sn == 0) (rayS r) (soE n P sn)
theorem mm_spec (n : Nat) (P : Nat → Prt) (sn : Int) (r : Nat → Nat) : FSpec Tryz.prog 72 [.agg (soC n P sn), RY r] (iA (srE n P sn r)) := by
  refine gspec e_nil (k_cons kS_ok (k_cons kS_ok k_nil)) Tryz.func72 (by kernel_rfl) (by kernel_rfl) noL_ok rfl ((mm_ev n P sn r (soE n P sn) (rayS r)).trans ?_)
  rw [gate_pos (smay_spec n P sn), gate_pos (sfine r)]
  unfold srE
  cases soE n P sn == 0 <;> rfl
/-- The spans of a solid, or none. -/
noncomputable def srS' (n : Nat) (P : Nat → Prt) (sn : Int) (r : Nat → Nat) : List Spn := cond (srE n P sn r == 0) (soS n P r) []
theorem srE_ok {n : Nat} {P : Nat → Prt} {sn : Int} {r : Nat → Nat} (h : srE n P sn r = 0) : soE n P sn = 0 ∧ rayS r = 0 := by
  unfold srE at h
  by_cases e : soE n P sn = 0
  · rw [e] at h; exact ⟨e, h⟩
  · rw [beq_false_of_ne e] at h; exact absurd h e
theorem tup_nil {E : Env} {v : Value} {e : Int} (h : rel E (.tup [.x (.slice none 0 0), iA e]) v) : rel E (.tup [slL [], iA e]) v := by
  obtain ⟨vs, e1, h1⟩ := rel_tup.1 h
  refine rel_tup.2 ⟨vs, e1, ?_⟩
  obtain ⟨u, us, e2, h2, h3⟩ := rels_cons.1 h1
  exact rels_cons.2 ⟨u, us, e2, rel_nil_sl h2, h3⟩
theorem ss_spec (n : Nat) (P : Nat → Prt) (sn : Int) (r : Nat → Nat) : FSpec Tryz.prog 28 [.agg (soC n P sn), RY r] (.tup [slL (srS' n P sn r), iA (srE n P sn r)]) := by
  have h := ss_ev n P sn r (srE n P sn r) (soS n P r)
  rw [gate_pos (mm_spec n P sn r)] at h
  unfold srS'
  by_cases e : srE n P sn r = 0
  · have ok := so_ok (srE_ok e).1
    rw [gate_pos (sp_spec ok.1 ok.2.1 r ok.2.2), e] at h
    rw [e]
    exact gspec e_nil (k_cons kS_ok (k_cons kS_ok k_nil)) Tryz.func28 (by kernel_rfl) (by kernel_rfl) noL_ok rfl h
  · rw [beq_false_of_ne e] at h ⊢
    exact FSpec.of_val (gspec e_nil (k_cons kS_ok (k_cons kS_ok k_nil)) Tryz.func28 (by kernel_rfl) (by kernel_rfl) noL_ok rfl h) fun _ _ => tup_nil
def endS (L : List Spn) (i : Nat) : Crs := cond (i % 2 == 1) (gtL L (i / 2)).o (gtL L (i / 2)).i
/-- The first end that counts, if there is one. -/
inductive Fst (lo : Nat) (L : List Spn) : Option Crs → Prop
  | none (h : ∀ i, i < 2 * L.length → tkB lo (endS L i) = false) : Fst lo L none
  | some (K : Nat) (hK : K < 2 * L.length) (ht : tkB lo (endS L K) = true) (h : ∀ i, i < K → tkB lo (endS L i) = false) : Fst lo L (some (endS L K))
section
variable (n : Nat) (P : Nat → Prt) (sn : Int) (r : Nat → Nat) (e : Int) (b : Nat → Nat) (S : List Spn) (nr fr : Nat) (mk : Bool) (c : Crs) (ck : Bool) (bt : Nat → Nat → Nat → Nat)
end
end Go.Proofs.YtancjnambbkhmaaGreat.Hs.So

namespace Go.Proofs.YtancjnambbkhmaaGreat.Hs.So
open Go.Gv
open Go.Ev (cn fadd fsub fmul fdiv fsqrt fneg feq flt fle fgt fge fabs isNan key flt_key fgt_key feq_key)

section
variable (bt : Nat → Nat → Nat → Nat) (n : Nat) (P : Nat → Prt) (sn : Int) (r : Nat → Nat) (e : Int) (b : Nat → Nat) (S : List Spn) (nr fr : Nat) (mk : Bool) (i : Int)
end
structure Sdk where
  c : Crs
  k : Bool
  e : Int
def Sdk.v (x : Sdk) : AV := .tup [x.c.v, bA x.k, iA x.e]
theorem soS_len {n : Nat} {P : Nat → Prt} (h1 : 1 ≤ n) (hn : n ≤ 16) (r : Nat → Nat) (hp : ∀ k, k < n → ppE (P k) (k : Nat) = 0) : (soS n P r).length ≤ 16 := by
  have := rw_len' (pl_ok r hp) (Nat.le_refl n) (show n - 1 < n by omega)
  unfold soS
  omega
end Go.Proofs.YtancjnambbkhmaaGreat.Hs.So

namespace Go.Proofs.YtancjnambbkhmaaGreat.Hs.So
open Go.Gv
open Go.Ev (cn fadd fsub fmul fdiv fsqrt fneg feq flt fle fgt fge fabs isNan key flt_key fgt_key feq_key)

section
variable (sc : Crs → Crs → Bool) (sb : (Nat → Nat) → (Nat → Nat) → Bool) (sv : Nat → Nat → Nat → Nat → Nat → Nat → Bool) (n : Nat) (P : Nat → Prt) (sn : Int) (r : Nat → Nat) (c : Crs) (p q u : Nat) (S : List Spn) (i : Int)
variable (b : Nat → Nat) (e e2 : Int) (k : Sdk) (x y z : Nat) (e4 : Int)
def rB (b : Bool) : Option Out := some (Out.of (bA b))
end
end Go.Proofs.YtancjnambbkhmaaGreat.Hs.So

namespace Go.Proofs.YtancjnambbkhmaaGreat
open Go.Gv Go.RowKit Go.ChangeShapes Go.WideShapes Go.ChangeAt

def rsl (n : Nat) (hs : Nat → Int) : AV := .sl 1 n fun i => [iA (hs i)]
theorem open_num {H : Type} {enc : TypeId × Value → H} {P : Program} {w : World} {r : Reach} {b0 : Nat} {t : TypeId} {v : Value} {d : DataW H} {p : List MemPlace} {k : IntKind} (hu : P.underlying t = some (.int k)) (hk : kds P 1 t = some [.i k]) (hv : Value.okWide P w r b0 t v)
    (h : DataW.Trod enc P w 0 (fun _ => true) true t v d p) : ∃ n, rel (Env.all w) (.x (.int k n)) v ∧ (Lit.int k n).wf = true := by
  have hone : v.cells = #[v] := by
    obtain ⟨n, rfl, _⟩ := okWide_int hu hv
    rfl
  obtain ⟨fuel, hf⟩ := h
  obtain ⟨a, h1, h2⟩ := open_arg hf hk hone
  rw [fitA] at h1
  obtain ⟨n, rfl, hw⟩ := h1
  exact ⟨n, h2, hw⟩
def numOf (el : Nat → List AV) (i : Nat) : Int := match el i with
  | [.x (.int .i64 h)] => h
  | _ => 0
theorem sl_same {E : Env} {sz n : Nat} {el el' : Nat → List AV} {v : Value} (h : rel E (.sl sz n el) v) (he : ∀ i, i < n → el' i = el i) : rel E (.sl sz n el') v := by
  have h : relA _ _ _ := h
  show relA _ _ _
  rw [relA] at h ⊢
  obtain ⟨a, c, h1, h2, h3⟩ := h
  refine ⟨a, c, h1, h2, ?_⟩
  rcases h3 with h3 | ⟨b, o, cs, e, fz, h4, h5, h6, h7⟩
  · exact Or.inl h3
  · exact Or.inr ⟨b, o, cs, e, fz, h4, h5, h6, fun i hi => by rw [he i hi]; exact h7 i hi⟩
theorem fitL_single {k : Kd} {zs : List AV} (h : fitL [k] zs) : ∃ a, zs = [a] ∧ fitA k a := by
  match zs, h with
  | [a], h => exact ⟨a, rfl, (fitL_cons.1 h).1⟩
  | [], h => have := fitL_length h; simp at this
  | _ :: _ :: _, h => have := fitL_length h; simp at this
/-- A row of whole numbers that came in: as many, each a number of 64 bits. -/
theorem open_raw {H : Type} {enc : TypeId × Value → H} {P : Program} {w : World} {r : Reach} {b0 : Nat} {t e : TypeId} {v : Value} {d : DataW H} {p : List MemPlace} (hu : P.underlying t = some (.slice e)) (hk : kds P 2 t = some [.l 1 [.i .i64]]) (hv : Value.okWide P w r b0 t v)
    (h : DataW.Trod enc P w 0 (fun _ => true) true t v d p) : ∃ n hs, rel (Env.all w) (rsl n hs) v ∧ ∀ i, i < n → (Lit.int .i64 (hs i)).wf = true := by
  have hone : v.cells = #[v] := by
    obtain ⟨a, len, cap, rfl⟩ := okWide_slice hu hv
    rfl
  obtain ⟨fuel, hf⟩ := h
  obtain ⟨a, h1, h2⟩ := open_arg hf hk hone
  rw [fitA] at h1
  obtain ⟨n, el, rfl, _, hel⟩ := h1
  have key : ∀ i, i < n → el i = [iA (numOf el i)] ∧ (Lit.int .i64 (numOf el i)).wf = true := fun i hi => by
    obtain ⟨a, ha, hf⟩ := fitL_single (hel i hi)
    rw [fitA] at hf
    obtain ⟨m, rfl, hw⟩ := hf
    have e : numOf el i = m := by unfold numOf; rw [ha]
    rw [e]
    exact ⟨ha, hw⟩
  exact ⟨n, numOf el, sl_same h2 fun i hi => (key i hi).1.symm, fun i hi => (key i hi).2⟩
end Go.Proofs.YtancjnambbkhmaaGreat

namespace Go.Proofs.YtancjnambbkhmaaGreat
open Go.Gv Go.RowKit Go.ChangeShapes Go.WideShapes Go.ChangeAt
open Go.Ev (cn law_post)

namespace Hs.So
end Hs.So
end Go.Proofs.YtancjnambbkhmaaGreat

namespace Go.Proofs.YtancjnambbkhmaaGreat.Hs.So
open Go.Gv
open Go.Ev (cn fadd fsub fmul fdiv fsqrt fneg feq flt fle fgt fge fabs isNan key)

def inS (L : List Spn) (t : Nat) (b e : Bool) (i : Int) : St := mkS 59 [(0, slL L), (1, .f t), (6, bA b), (7, bA e), (8, iA i)] []
def keepIn : List Nat := [0, 1, 6, 7, 8]
section
variable (L : List Spn) (t : Nat) (b e : Bool) (i : Int)
def inNB : Bool := cond b true (cond (flt (gtL L i.toNat).i.t t) (flt t (gtL L i.toNat).o.t) false)
def inNE : Bool := cond (cond e true (feq (gtL L i.toNat).i.t t)) true (feq (gtL L i.toNat).o.t t)
def gTF (a b : Bool) : Bool := !(decide (a = true) && (decide (b = false) && true))
def inW1 (o : Option Out) : Option Out := cond (ixB i L.length || gF b) (cond (ixB i L.length || gTF (flt (gtL L i.toNat).i.t t) b) o none) none
def inW2 (o : Option Out) : Option Out := cond (ixB i L.length || gF e) (cond (ixB i L.length || gF (cond e true (feq (gtL L i.toNat).i.t t))) o none) none
def inC (o oe : Option Out) : Option Out := cond (decide (i < L.length)) (inW1 L t b i (inW2 L t e i o)) oe
theorem iw_step : evC Tryz.prog [] [] noL (loopAt Tryz.f37 0) (inS L t b e i) (finN keepIn []) = inC L t b e i (some ⟨.normal, inS L t (inNB L t b i) (inNE L t e i) (w64 (i + 1)), .any⟩) none := by kernel_rfl
theorem iw_end : evC Tryz.prog [] [] noL (loopAt Tryz.f37 0) (inS L t b e i) (finE keepIn []) = inC L t b e i none (some ⟨.exit 0, inS L t b e i, .any⟩) := by kernel_rfl
theorem iw_ev : ev Tryz.prog [] [] (oneL 4 (toldF keepIn [] (inS L t false false 0) (.exit 0) (inS L t b e L.length))) Tryz.f37 [slL L, .f t] ret = gate (Sub (inS L t false false 0) (inS L t false false 0)) (some (Out.of (.tup [bA b, bA e]))) := by kernel_rfl
end
theorem gtL_take {L : List Spn} {k : Nat} (h : k < L.length) : L.take (k + 1) = L.take k ++ [gtL L k] := by
  rw [List.take_add_one, List.getElem?_eq_getElem h]
  unfold gtL
  rw [List.getD_eq_getElem?_getD, List.getElem?_eq_getElem h]; rfl
theorem inB_more {L : List Spn} {t k : Nat} (h : k < L.length) : inNB L t (inB (L.take k) t) (k : Nat) = inB (L.take (k + 1)) t := by
  rw [gtL_take h]
  unfold inNB inB
  rw [List.any_append, Int.toNat_natCast]
  cases (L.take k).any fun s => cond (flt s.i.t t) (flt t s.o.t) false
  · simp
  · rfl
theorem endB_more {L : List Spn} {t k : Nat} (h : k < L.length) : inNE L t (endB (L.take k) t) (k : Nat) = endB (L.take (k + 1)) t := by
  rw [gtL_take h]
  unfold inNE endB
  rw [List.any_append, Int.toNat_natCast]
  cases (L.take k).any fun s => cond (feq s.i.t t) true (feq s.o.t t)
  · simp
  · rfl
theorem in_leads (L : List Spn) (t : Nat) (hL : L.length ≤ 1000) : Leads Tryz.prog (.loop (loopAt Tryz.f37 0)) (inS L t false false 0) (.exit 0) (inS L t (inB L t) (endB L t) L.length) := by
  have h := loop_rule (np := 0) (P := Tryz.prog) (c := loopAt Tryz.f37 0) (fun k => inS L t (inB (L.take k) t) (endB (L.take k) t) (k : Nat)) L.length (.exit 0) (inS L t (inB L t) (endB L t) L.length) (by simp) (fun k hk => ?_) ?_
  · exact h
  · show Leads Tryz.prog _ _ _ _
    refine leads_ev (finN_sub keepIn []) e_nil k_nil noL_ok ((iw_step L t (inB (L.take k) t) (endB (L.take k) t) (k : Nat)).trans ?_)
    unfold inC inW1 inW2
    rw [dec_lt hk, ixB_t hk, inB_more hk, endB_more hk, w64_next (by omega)]; rfl
  · show Leads Tryz.prog _ _ _ _
    refine leads_ev (finE_sub keepIn []) e_nil k_nil noL_ok ((iw_end L t (inB (L.take L.length) t) (endB (L.take L.length) t) (L.length : Nat)).trans ?_)
    unfold inC
    rw [dec_self, cond_false, List.take_length]
theorem in_spec (L : List Spn) (t : Nat) (hL : L.length ≤ 1000) : FSpec Tryz.prog 37 [slL L, .f t] (.tup [bA (inB L t), bA (endB L t)]) := by
  refine gspec e_nil k_nil Tryz.func37 (by kernel_rfl) (by kernel_rfl) (lok_at (i := 4) 0 1 (by kernel_rfl) (by kernel_rfl) (toldF_sound (keep := keepIn) (τ := []) (in_leads L t hL))) rfl ((iw_ev L t (inB L t) (endB L t)).trans ?_)
  rw [gate_pos (Sub.refl _)]
end Go.Proofs.YtancjnambbkhmaaGreat.Hs.So

namespace Go.Proofs.YtancjnambbkhmaaGreat.Hs.So
open Go.Gv
open Go.Ev (cn fadd fsub fmul fdiv fsqrt fneg feq flt fle fgt fge fabs isNan key)

/-- A part, moved on by n. -/
def shP (n : Nat) (p : Prt) : Prt := cond (decide (p.op > 0)) ⟨p.op, w64 (p.l + (n : Nat)), w64 (p.r + (n : Nat)), p.k, p.a, p.sk⟩ p
def jnP (na nb : Nat) (PA PB : Nat → Prt) (o : Int) (q : Nat) : Prt := cond (Nat.blt q na) (PA q) (cond (Nat.blt q (na + nb)) (shP na (PB (q - na))) (zsP o ((na - 1 : Nat) : Int) ((na + nb - 1 : Nat) : Int)))
abbrev LfOk : Prt → Prop := fun p => p.op = 0 ∧ ∀ i, ppE p i = 0
section
variable {na nb : Nat} {PA PB : Nat → Prt} {o : Int}
theorem jn_left {q : Nat} (h : q < na) : jnP na nb PA PB o q = PA q := by unfold jnP; rw [blt_t h]; rfl
theorem jn_right {q : Nat} (h : q < nb) : jnP na nb PA PB o (na + q) = shP na (PB q) := by
  unfold jnP
  have h1 : Nat.blt (na + q) na = false := by
    cases e : Nat.blt (na + q) na
    · rfl
    · have : na + q < na := Nat.le_of_ble_eq_true e
      omega
  rw [h1, blt_t (show na + q < na + nb by omega), show na + q - na = q by omega]; rfl
theorem jn_top : jnP na nb PA PB o (na + nb) = zsP o ((na - 1 : Nat) : Int) ((na + nb - 1 : Nat) : Int) := by
  unfold jnP
  have h1 : Nat.blt (na + nb) na = false := by
    cases e : Nat.blt (na + nb) na
    · rfl
    · have : na + nb < na := Nat.le_of_ble_eq_true e
      omega
  have h2 : Nat.blt (na + nb) (na + nb) = false := by
    cases e : Nat.blt (na + nb) (na + nb)
    · rfl
    · have : na + nb < na + nb := Nat.le_of_ble_eq_true e
      omega
  rw [h1, h2]; rfl
theorem shP_leaf {p : Prt} (n : Nat) (h : p.op = 0) : shP n p = p := by unfold shP; rw [h]; rfl
theorem shP_op {p : Prt} {n q : Nat} (h : p.op = 1 ∨ p.op = 2 ∨ p.op = 3) (hl : 0 ≤ p.l ∧ p.l < (q : Nat)) (hr : 0 ≤ p.r ∧ p.r < (q : Nat)) (hn : n ≤ 1000) (hq : q ≤ 1000) : shP n p = ⟨p.op, p.l + (n : Nat), p.r + (n : Nat), p.k, p.a, p.sk⟩ := by
  unfold shP
  rw [decide_eq_true (show p.op > 0 by omega), cond_true, w64_id (n := p.l + (n : Nat)) (by omega) (by omega), w64_id (n := p.r + (n : Nat)) (by omega) (by omega)]
theorem lfL_sh (n q : Nat) (s : List AV) (r : Nat → Nat) : lfL ((n + q : Nat) : Int) s r = (lfL (q : Nat) s r).map (shS n) := by
  unfold lfL
  have e : ((n + q : Nat) : Int) = (q : Nat) + (n : Nat) := by omega
  cases (witC s r).ok
  · rfl
  · rw [e]; rfl
theorem jn_pp (hA : PtOk LfOk PA na) (hB : PtOk LfOk PB nb) (ha : 1 ≤ na) (ha' : na ≤ 7) (hb : 1 ≤ nb) (hb' : nb ≤ 7) (ho : o = 1 ∨ o = 2 ∨ o = 3) : PpOk (jnP na nb PA PB o) (na + nb + 1) := fun q hq => by
  by_cases h1 : q < na
  · rw [jn_left h1]; exact pp_of hA q h1
  by_cases h2 : q < na + nb
  · obtain ⟨t, rfl⟩ : ∃ t, q = na + t := ⟨q - na, by omega⟩
    rw [jn_right (by omega)]
    rcases hB t (by omega) with ⟨e, h⟩ | ⟨e1, e2, e3, e4, e5⟩
    · rw [shP_leaf na e]; exact h _
    · rw [shP_op e1 ⟨e2, e3⟩ ⟨e4, e5⟩ (by omega) (by omega)]
      exact pp_op e1 (show 0 ≤ (PB t).l + (na : Nat) ∧ (PB t).l + (na : Nat) < ((na + t : Nat) : Int) by omega) (show 0 ≤ (PB t).r + (na : Nat) ∧ (PB t).r + (na : Nat) < ((na + t : Nat) : Int) by omega)
  · obtain rfl : q = na + nb := by omega
    rw [jn_top]
    exact pp_op ho (show 0 ≤ ((na - 1 : Nat) : Int) ∧ ((na - 1 : Nat) : Int) < ((na + nb : Nat) : Int) by omega) (show 0 ≤ ((na + nb - 1 : Nat) : Int) ∧ ((na + nb - 1 : Nat) : Int) < ((na + nb : Nat) : Int) by omega)
theorem jn_joins (hB : PtOk LfOk PB nb) (ha' : na ≤ 7) (hb' : nb ≤ 7) (r : Nat → Nat) : Joins (plP (jnP na nb PA PB o) r) (plP PA r) (plP PB r) na nb := by
  refine ⟨fun q hq => ?_, fun q hq => ?_⟩
  · unfold plP
    simp only [jn_left hq, and_self]
  · have e := jn_right (na := na) (PA := PA) (PB := PB) (o := o) hq
    show (jnP na nb PA PB o (na + q)).op = (PB q).op ∧ ((PB q).op ≠ 0 → (jnP na nb PA PB o (na + q)).l.toNat = na + (PB q).l.toNat ∧ (jnP na nb PA PB o (na + q)).r.toNat = na + (PB q).r.toNat) ∧ lfL ((na + q : Nat) : Int) (jnP na nb PA PB o (na + q)).s (l7 r) = (lfL (q : Nat) (PB q).s (l7 r)).map (shS na)
    rw [e]
    rcases hB q hq with ⟨e0, _⟩ | ⟨e1, e2, e3, e4, e5⟩
    · rw [shP_leaf na e0]
      exact ⟨rfl, fun h => absurd e0 h, lfL_sh na q _ _⟩
    · rw [shP_op e1 ⟨e2, e3⟩ ⟨e4, e5⟩ (by omega) (by omega)]
      exact ⟨rfl, fun _ => ⟨by show ((PB q).l + (na : Nat)).toNat = _; omega, by show ((PB q).r + (na : Nat)).toNat = _; omega⟩, lfL_sh na q _ _⟩
/-- The spans of two solids under one part. -/
theorem jn_spans (hB : PtOk LfOk PB nb) (ha : 1 ≤ na) (ha' : na ≤ 7) (hb : 1 ≤ nb) (hb' : nb ≤ 7) (ho : o = 1 ∨ o = 2 ∨ o = 3) (r : Nat → Nat) : soS (na + nb + 1) (jnP na nb PA PB o) r = rowV o [] (soS na PA r) ((soS nb PB r).map (shS na)) := by
  have eo : (plP (jnP na nb PA PB o) r).op (na + nb) = o := by
    show (jnP na nb PA PB o (na + nb)).op = o
    rw [jn_top]; rfl
  have el : (plP (jnP na nb PA PB o) r).l (na + nb) = na - 1 := by
    show (jnP na nb PA PB o (na + nb)).l.toNat = na - 1
    rw [jn_top]; exact Int.toNat_natCast _
  have er : (plP (jnP na nb PA PB o) r).r (na + nb) = na + nb - 1 := by
    show (jnP na nb PA PB o (na + nb)).r.toNat = na + nb - 1
    rw [jn_top]; exact Int.toNat_natCast _
  have h := rw_join (jn_joins (PA := PA) (o := o) hB ha' hb' r) (pl_ok r (pp_of hB)) ha hb (by rw [eo]; omega) el er
  rw [eo] at h
  exact h
/-- A place is in them as the part says. -/
theorem jn_in (hA : PtOk LfOk PA na) (hB : PtOk LfOk PB nb) (ha : 1 ≤ na) (ha' : na ≤ 7) (hb : 1 ≤ nb) (hb' : nb ≤ 7) (ho : o = 1 ∨ o = 2 ∨ o = 3) (r : Nat → Nat) {t : Nat} (ht : isNan t = false) (h1 : endB (soS na PA r) t = false) (h2 : endB (soS nb PB r) t = false) :
    inB (soS (na + nb + 1) (jnP na nb PA PB o) r) t = cond (o == 1) (cond (inB (soS na PA r) t) (inB (soS nb PB r) t) false) (cond (o == 2) (cond (inB (soS na PA r) t) true (inB (soS nb PB r) t)) (cond (inB (soS na PA r) t) (!inB (soS nb PB r) t) false)) := by
  have rA : Ris (soS na PA r) := (rw_ok (pl_ok r (pp_of hA)) na (Nat.le_refl _) (na - 1) (by omega)).ris
  have rB0 : Ris (soS nb PB r) := (rw_ok (pl_ok r (pp_of hB)) nb (Nat.le_refl _) (nb - 1) (by omega)).ris
  have hP := jn_pp hA hB ha ha' hb hb' ho
  have rC : Ris (soS (na + nb + 1) (jnP na nb PA PB o) r) := (rw_ok (pl_ok r hP) (na + nb + 1) (Nat.le_refl _) (na + nb) (by omega)).ris
  have rB : Ris ((soS nb PB r).map (shS na)) := by
    have e := rw_right (jn_joins (PA := PA) (o := o) hB ha' hb' r) (pl_ok r (pp_of hB)) nb (Nat.le_refl _) (nb - 1) (by omega)
    have g := (rw_ok (pl_ok r hP) (na + nb) (by omega) (na + (nb - 1)) (by omega)).ris
    rw [e] at g
    exact g
  have fA : Fr (Off (key t)) (soS na PA r) := endB_off rA ht h1
  have fB : Fr (Off (key t)) ((soS nb PB r).map (shS na)) := endB_off rB ht (by rw [endB_sh]; exact h2)
  have iA' := inB_iff rA ht
  have iB' := inB_iff rB ht
  rw [inB_sh] at iB'
  have iC := inB_iff rC ht
  rw [jn_spans hB ha ha' hb hb' ho r] at iC ⊢
  rcases ho with rfl | rfl | rfl
  · have e := in_both (k := key t) rA rB
    have iC : inB (bothL (soS na PA r) ((soS nb PB r).map (shS na))) t = true ↔ InS (bothL (soS na PA r) ((soS nb PB r).map (shS na))) (key t) := iC
    rw [e, ← iA', ← iB'] at iC
    show inB (bothL (soS na PA r) ((soS nb PB r).map (shS na))) t = cond (inB (soS na PA r) t) (inB (soS nb PB r) t) false
    revert iC
    cases inB (bothL (soS na PA r) ((soS nb PB r).map (shS na))) t <;> cases inB (soS na PA r) t <;> cases inB (soS nb PB r) t <;> simp
  · have e := in_either (k := key t) rA rB fA fB
    have iC : inB (eitherL (soS na PA r) ((soS nb PB r).map (shS na))) t = true ↔ InS (eitherL (soS na PA r) ((soS nb PB r).map (shS na))) (key t) := iC
    rw [e, ← iA', ← iB'] at iC
    show inB (eitherL (soS na PA r) ((soS nb PB r).map (shS na))) t = cond (inB (soS na PA r) t) true (inB (soS nb PB r) t)
    revert iC
    cases inB (eitherL (soS na PA r) ((soS nb PB r).map (shS na))) t <;> cases inB (soS na PA r) t <;> cases inB (soS nb PB r) t <;> simp
  · have e := in_less (k := key t) rA rB fB
    have iC : inB (lessL (soS na PA r) ((soS nb PB r).map (shS na))) t = true ↔ InS (lessL (soS na PA r) ((soS nb PB r).map (shS na))) (key t) := iC
    rw [e, ← iA', ← iB'] at iC
    show inB (lessL (soS na PA r) ((soS nb PB r).map (shS na))) t = cond (inB (soS na PA r) t) (!inB (soS nb PB r) t) false
    revert iC
    cases inB (lessL (soS na PA r) ((soS nb PB r).map (shS na))) t <;> cases inB (soS na PA r) t <;> cases inB (soS nb PB r) t <;> simp
end
end Go.Proofs.YtancjnambbkhmaaGreat.Hs.So

namespace Go.Proofs.YtancjnambbkhmaaGreat.Hs.So
open Go.Gv
open Go.Ev (cn fadd fsub fmul fdiv fsqrt fneg feq flt fle fgt fge fabs isNan key flt_key fgt_key fge_key)

def chS (X Y Z : List Spn) (op at' i : Int) : St := mkS 256 [(3, iA op), (4, iA at'), (21, slL X), (23, slL Y), (25, slL Z), (27, iA i)] []
def keepCh : List Nat := [3, 4, 21, 23, 25, 27]
section
variable (X Y Z : List Spn) (op at' i : Int)
def chA : Bool := fge (gtL Z i.toNat).i.t (gtL Z i.toNat).o.t
def chB : Bool := cond (chA Z i) true (cond (decide (i > 0)) (fgt (gtL Z (w64 (i - 1)).toNat).o.t (gtL Z i.toNat).i.t) false)
def chG : Bool := (ixB i Z.length || false) && ((ixB i Z.length || false) && ((ixB (w64 (i - 1)) Z.length || gTF (decide (i > 0)) (chA Z i)) && ((ixB i Z.length || gTF (decide (i > 0)) (chA Z i)) && true)))
def chC (o o' oe : Option Out) : Option Out := cond (decide (i < Z.length)) (cond (chG Z i) (cond (chB Z i) o' o) none) oe
theorem ch_step : evC Tryz.prog [] [] noL (loopAt Tryz.f7 1) (chS X Y Z op at' i) (finN keepCh []) = chC Z i (some ⟨.normal, chS X Y Z op at' (w64 (i + 1)), .any⟩) none none := by kernel_rfl
theorem ch_end : evC Tryz.prog [] [] noL (loopAt Tryz.f7 1) (chS X Y Z op at' i) (finE keepCh []) = chC Z i none none (some ⟨.exit 2, chS X Y Z op at' i, .any⟩) := by kernel_rfl
end
def tsE (raw : AV) (kk op at' : Int) (na : Nat) (PA : Nat → Prt) (sa : Int) (nb : Nat) (PB : Nat → Prt) (sb i : Int) (m : Nat) (el : Nat → List AV) : St := mkS 256 [(0, raw), (2, iA kk), (3, iA op), (4, iA at'), (14, .own 0 0), (15, .own 1 0), (16, .own 2 0), (17, iA na), (18, iA i)] [.c (soC na PA sa), .c (soC nb PB sb), .c [.osl 3 16 0 m, iA 0], .a 71 16 m el]
def keepTs : List Nat := [0, 2, 3, 4, 14, 15, 16, 17, 18]
section
variable (n : Nat) (hs : Nat → Int) (kk op at' : Int) (na : Nat) (PA : Nat → Prt) (sa : Int) (nb : Nat) (PB : Nat → Prt) (sb i : Int) (m : Nat) (PL : Nat → Prt)
def tsS : St := tsE (sI n hs) kk op at' na PA sa nb PB sb i m fun q => (PL q).c
def tsC (o o' oe : Option Out) : Option Out := cond (decide (i < nb)) (cond (ixB i nb || false) (cond (decide ((PB i.toNat).op > 0)) (cond (apB m 128 || false) o none) (cond (apB m 128 || false) o' none)) none) oe
def tsN (p : Prt) : Option Out := some ⟨.normal, tsE (sI n hs) kk op at' na PA sa nb PB sb (w64 (i + 1)) (m + 1) (fun q => mixL (Nat.blt q m) (PL q).c p.c), .any⟩
theorem ts_step : evC Tryz.prog [] [] noL (loopAt Tryz.f7 0) (tsS n hs kk op at' na PA sa nb PB sb i m PL) (finN keepTs [some 0, some 1, some 2, some 6]) = tsC nb PB i m (tsN n hs kk op at' na PA sa nb PB sb i m PL ⟨(PB i.toNat).op, w64 ((PB i.toNat).l + na), w64 ((PB i.toNat).r + na), (PB i.toNat).k, (PB i.toNat).a, (PB i.toNat).sk⟩) (tsN n hs kk op at' na PA sa nb PB sb i m PL (PB i.toNat)) none := by kernel_rfl
theorem ts_end : evC Tryz.prog [] [] noL (loopAt Tryz.f7 0) (tsS n hs kk op at' na PA sa nb PB sb i m PL) (finE keepTs [some 0, some 1, some 2, some 3]) = tsC nb PB i m none none (some ⟨.exit 0, tsS n hs kk op at' na PA sa nb PB sb i m PL, .any⟩) := by kernel_rfl
end
theorem ris_at {Z : List Spn} (h : Ris Z) {k : Nat} (hk : k < Z.length) : Gd (gtL Z k) ∧ ∀ j, j < k → key (gtL Z j).o.t < key (gtL Z k).i.t := by
  have g : ∀ {q} (hq : q < Z.length), gtL Z q = Z[q] := fun {q} hq => by
    unfold gtL
    rw [List.getD_eq_getElem?_getD, List.getElem?_eq_getElem hq]; rfl
  refine ⟨by rw [g hk]; exact h.2 _ (List.getElem_mem _), fun j hj => ?_⟩
  rw [g hk, g (show j < Z.length by omega)]
  exact List.pairwise_iff_getElem.1 h.1 j k (by omega) hk hj
theorem ch_leads (X Y : List Spn) {Z : List Spn} (op at' : Int) (hZ : Ris Z) (hl : Z.length ≤ 1000) : Leads Tryz.prog (.loop (loopAt Tryz.f7 1)) (chS X Y Z op at' 0) (.exit 2) (chS X Y Z op at' Z.length) := by
  refine loop_rule (fun k => chS X Y Z op at' (k : Nat)) Z.length (.exit 2) _ (by simp) (fun k hk => ?_) ?_
  · refine leads_ev (finN_sub keepCh []) e_nil k_nil noL_ok ((ch_step X Y Z op at' (k : Nat)).trans ?_)
    obtain ⟨g, hp⟩ := ris_at hZ hk
    have a : chA Z (k : Nat) = false := by
      unfold chA
      rw [Int.toNat_natCast, fge_key g.ni g.no, decide_eq_false]
      have := g.lt
      omega
    have b : chB Z (k : Nat) = false := by
      unfold chB
      rw [a, cond_false]
      by_cases h0 : 0 < k
      · have e : w64 ((k : Nat) - 1) = ((k - 1 : Nat) : Int) := by rw [w64_id (by omega) (by omega)]; omega
        have g' := (ris_at hZ (show k - 1 < Z.length by omega)).1
        have := hp (k - 1) (by omega)
        rw [e, Int.toNat_natCast, Int.toNat_natCast, fgt_key g'.no g.ni, decide_eq_false (show ¬ key (gtL Z k).i.t < key (gtL Z (k - 1)).o.t by omega)]
        cases decide (((k : Nat) : Int) > 0) <;> rfl
      · rw [decide_eq_false (show ¬ ((k : Nat) : Int) > 0 by omega)]; rfl
    have c : chG Z (k : Nat) = true := by
      unfold chG
      rw [a, ixB_t hk]
      by_cases h0 : 0 < k
      · have e : w64 ((k : Nat) - 1) = ((k - 1 : Nat) : Int) := by rw [w64_id (by omega) (by omega)]; omega
        rw [e, ixB_t (show k - 1 < Z.length by omega)]; rfl
      · rw [decide_eq_false (show ¬ ((k : Nat) : Int) > 0 by omega)]
        cases ixB (w64 ((k : Nat) - 1)) Z.length <;> rfl
    unfold chC
    rw [dec_lt hk, c, b, w64_next (by omega)]; rfl
  · refine leads_ev (finE_sub keepCh []) e_nil k_nil noL_ok ((ch_end X Y Z op at' (Z.length : Nat)).trans ?_)
    unfold chC
    rw [dec_self, cond_false]
theorem ts_leads (n : Nat) (hs : Nat → Int) (kk op at' : Int) {na : Nat} (PA : Nat → Prt) (sa : Int) {nb : Nat} (PB : Nat → Prt) (sb o : Int) (ha : na ≤ 7) (hb : nb ≤ 7) : Leads Tryz.prog (.loop (loopAt Tryz.f7 0)) (tsS n hs kk op at' na PA sa nb PB sb 0 na (jnP na nb PA PB o)) (.exit 0) (tsS n hs kk op at' na PA sa nb PB sb (nb : Nat) (na + nb) (jnP na nb PA PB o)) := by
  refine loop_rule (fun k => tsS n hs kk op at' na PA sa nb PB sb (k : Nat) (na + k) (jnP na nb PA PB o)) nb (.exit 0) _ (by simp) (fun k hk => ?_) ?_
  · have hl : Leads Tryz.prog (loopAt Tryz.f7 0) (tsS n hs kk op at' na PA sa nb PB sb (k : Nat) (na + k) (jnP na nb PA PB o)) .normal (tsE (sI n hs) kk op at' na PA sa nb PB sb (w64 ((k : Nat) + 1)) (na + k + 1) (fun q => mixL (Nat.blt q (na + k)) (jnP na nb PA PB o q).c (shP na (PB k)).c)) := by
      refine leads_ev (finN_sub keepTs [some 0, some 1, some 2, some 6]) e_nil k_nil noL_ok ((ts_step n hs kk op at' na PA sa nb PB sb (k : Nat) (na + k) (jnP na nb PA PB o)).trans ?_)
      unfold tsC shP
      rw [dec_lt hk, ixB_t hk, apB_t (by omega), Int.toNat_natCast]
      cases decide ((PB k).op > 0) <;> rfl
    rw [w64_next (n := k) (by omega)] at hl
    refine hl.sub (Sub.refl _) (sub_like ⟨Or.inl rfl, Or.inl rfl, Or.inl rfl, Or.inr (Or.inl ⟨71, 16, na + k + 1, _, _, rfl, rfl, fun q hq => like_eq ?_⟩), trivial⟩)
    rw [mixP]
    cases hbq : Nat.blt q (na + k)
    · have := not_blt hbq
      obtain rfl : q = na + k := by omega
      rw [jn_right hk]; rfl
    · rfl
  · refine leads_ev (finE_sub keepTs [some 0, some 1, some 2, some 3]) e_nil k_nil noL_ok ((ts_end n hs kk op at' na PA sa nb PB sb (nb : Nat) (na + nb) (jnP na nb PA PB o)).trans ?_)
    unfold tsC
    rw [dec_self, cond_false]
end Go.Proofs.YtancjnambbkhmaaGreat.Hs.So

namespace Go.Proofs.YtancjnambbkhmaaGreat.Hs.So
open Go.Gv
open Go.Ev (cn fadd fsub fmul fdiv fsqrt fneg feq flt fle fgt fge fabs)

section
variable (SF : Nat → (Nat → List AV) → List AV → List Spn) (SO : Nat → (Nat → List AV) → Nat × (Nat → Prt) × Int) (n : Nat) (hs : Nat → Int) (n' : Nat) (hs' : Nat → Int) (kk op at' : Int)
def gSp : List AV → AV
  | [.agg [.sl _ m el, _], .agg rl] => .tup [slL (SF m el rl), iA 0]
  | _ => .any
def gSo : List AV → AV
  | [.sl _ n el, _, _] => .agg (soC (SO n el).1 (SO n el).2.1 (SO n el).2.2)
  | _ => .any
def ballP : Prt := ⟨0, 0, 0, 1, ls [0, 0, 0, 0, 0, 0, 0, 0, 0, one, 0], 0⟩
def r0 : List AV := [.f 0, .f 0, .f 13840687554816376832, .f 0, .f 0, .f one, .f 0]
def el1 : Nat → List AV := chunk ballP.c 16
def S1 : List Spn := SF 1 el1 r0
def q1 : Bool := !(((S1 SF).length : Int) == 1)
def q2 : Bool := cond (q1 SF) true (!feq (gtL (S1 SF) 0).i.t 4616189618054758400)
def q3 : Bool := cond (q2 SF) true (!feq (gtL (S1 SF) 0).o.t 4618441417868443648)
noncomputable def A1 (o : Option Out) : Option Out := gate (FSpec Tryz.prog 28 [.agg [.sl 16 1 el1, iA 0], .agg r0] (.tup [slL (S1 SF), iA 0])) (cond (ixB 0 (S1 SF).length || gF (q1 SF)) (cond (ixB 0 (S1 SF).length || gF (q2 SF)) (cond (q3 SF) (rB false) (cond (decide (w64 ((n : Int) + n') > 512)) (rB true) o)) none) none)
def Zt : Nat → Option ZFun := fun j => cond (Nat.beq j 2) (some (frzK 0)) (cond (Nat.beq j 24) (some (frzK 5)) none)
variable (pf : Int → Int → Int) (na : Nat) (PA : Nat → Prt) (sa : Int) (nb : Nat) (PB : Nat → Prt) (sb : Int) (PJ : Nat → Prt)
abbrev eI' (hs : Nat → Int) : Nat → List AV := fun i => [iA (hs i)]
abbrev qa := (SO n (eI' hs)).1
abbrev qP := (SO n (eI' hs)).2.1
abbrev qs := (SO n (eI' hs)).2.2
def apA (na : Nat) : Bool := ((Nat.ble 0 0) && (Nat.blt 0 na && (allB na (fun _ => true) && Nat.ble ((0 + na) * 128) 140737488355328))) || false
def opv (pf : Int → Int → Int) (op : Int) : Int := w64 (1 + pf op 3)
noncomputable def A2 (o : Option Out) : Option Out := gate (FSpec Tryz.prog 35 [sI n hs, iA 0, iA 3] (.agg (soC (qa SO n hs) (qP SO n hs) (qs SO n hs)))) (gate (FSpec Tryz.prog 35 [sI n' hs', iA 0, iA 3] (.agg (soC (qa SO n' hs') (qP SO n' hs') (qs SO n' hs')))) (cond (apA (qa SO n hs)) o none))
noncomputable def A3 (o : Option Out) : Option Out := gate (Sub (tsE (sI n hs) kk (opv pf op) at' (qa SO n hs) (qP SO n hs) (qs SO n hs) (qa SO n' hs') (qP SO n' hs') (qs SO n' hs') 0 (0 + qa SO n hs) (fun q => mixL (Nat.blt q 0) [] (qP SO n hs (q - 0)).c)) (tsS n hs kk (opv pf op) at' (qa SO n hs) (qP SO n hs) (qs SO n hs) (qa SO n' hs') (qP SO n' hs') (qs SO n' hs') 0 (qa SO n hs) PJ)) (cond (apB (qa SO n hs + qa SO n' hs') 128 || false) o none)
variable (r : Nat → Nat) (IB EB : Nat → (Nat → List AV) → Nat → Bool)
def gIn : List AV → AV
  | [.sl _ m el, .f t] => .tup [bA (IB m el t), bA (EB m el t)]
  | _ => .any
abbrev XA : List Spn := SF (qa SO n hs) (fun q => (qP SO n hs q).c) (rC r)
def MC : Nat := qa SO n hs + qa SO n' hs' + 1
def elC : Nat → List AV := fun q => mixL (Nat.blt q (qa SO n hs + qa SO n' hs')) (PJ q).c (zsP (opv pf op) (w64 ((qa SO n hs : Int) - 1)) (w64 (((qa SO n hs + qa SO n' hs' : Nat) : Int) - 1))).c
abbrev ZC : List Spn := SF (MC SO n hs n' hs') (elC SO n hs n' hs' op pf PJ) (rC r)
def tT : Nat := fdiv (cn (FloatKind.f64.nearest (pf at' 20000))) 4652218415073722368
abbrev iX (X : List Spn) : Bool := IB X.length (elL X) (tT at' pf)
abbrev eX (X : List Spn) : Bool := EB X.length (elL X) (tT at' pf)
noncomputable def gI1 (X : List Spn) (o : Option Out) : Option Out := gate (FSpec Tryz.prog 37 [slL X, .f (tT at' pf)] (.tup [bA (iX at' pf IB X), bA (eX at' pf EB X)])) o
noncomputable def A4 (o : Option Out) : Option Out := gate (FSpec Tryz.prog 22 [sI n hs, iA (pf kk 64)] (RY r)) (gate (FSpec Tryz.prog 28 [.agg (soC (qa SO n hs) (qP SO n hs) (qs SO n hs)), RY r] (.tup [slL (XA SF SO n hs r), iA 0])) (gate (FSpec Tryz.prog 28 [.agg (soC (qa SO n' hs') (qP SO n' hs') (qs SO n' hs')), RY r] (.tup [slL (XA SF SO n' hs' r), iA 0])) (cond ((Nat.beq (MC SO n hs n' hs') (MC SO n hs n' hs') && true) && ((Nat.beq (MC SO n hs n' hs') (MC SO n hs n' hs') && true) && true)) (gate (FSpec Tryz.prog 28 [.agg [.sl 16 (MC SO n hs n' hs') (elC SO n hs n' hs' op pf PJ), iA 0], RY r] (.tup [slL (ZC SF SO n hs n' hs' op pf PJ r), iA 0])) o) none)))
noncomputable def L2t : Nat → Option LFun := twoL 13 (toldF keepTs [some 2, some 3, some 6, some 5] (tsS n hs kk (opv pf op) at' (qa SO n hs) (qP SO n hs) (qs SO n hs) (qa SO n' hs') (qP SO n' hs') (qs SO n' hs') 0 (qa SO n hs) PJ) (.exit 0) (tsS n hs kk (opv pf op) at' (qa SO n hs) (qP SO n hs) (qs SO n hs) (qa SO n' hs') (qP SO n' hs') (qs SO n' hs') (qa SO n' hs') (qa SO n hs + qa SO n' hs') PJ))
   28 (toldF keepCh [] (chS (XA SF SO n hs r) (XA SF SO n' hs' r) (ZC SF SO n hs n' hs' op pf PJ r) (opv pf op) at' 0) (.exit 2) (chS (XA SF SO n hs r) (XA SF SO n' hs' r) (ZC SF SO n hs n' hs' op pf PJ r) (opv pf op) at' (ZC SF SO n hs n' hs' op pf PJ r).length))
noncomputable def A5 (o : Option Out) : Option Out := gate (Sub (chS (XA SF SO n hs r) (XA SF SO n' hs' r) (ZC SF SO n hs n' hs' op pf PJ r) (opv pf op) at' 0) (chS (XA SF SO n hs r) (XA SF SO n' hs' r) (ZC SF SO n hs n' hs' op pf PJ r) (opv pf op) at' 0)) o
def fin6 (X Y Z : List Spn) : Option Out := cond (cond (eX at' pf EB X) true (eX at' pf EB Y)) (rB true) (cond (opv pf op == 1) (rB (iX at' pf IB Z == cond (iX at' pf IB X) (iX at' pf IB Y) false)) (cond (opv pf op == 2) (rB (iX at' pf IB Z == cond (iX at' pf IB X) true (iX at' pf IB Y))) (rB (iX at' pf IB Z == cond (iX at' pf IB X) (!(iX at' pf IB Y)) false))))
noncomputable def A6 (X Y Z : List Spn) : Option Out := gI1 at' pf IB EB X (gI1 at' pf IB EB Y (gI1 at' pf IB EB Z (fin6 op at' pf IB EB X Y Z)))
noncomputable def T2 (K : List KEntry) : Option Out := evZ Tryz.prog (MP pf) (kS Tryz.prog 28 (gSp SF) :: kS Tryz.prog 35 (gSo SO) :: kS Tryz.prog 22 (fun _ => RY r) :: K) [] (L2t SF SO n hs n' hs' kk op at' pf PJ r) Zt Tryz.f7 [sI n hs, sI n' hs', iA kk, iA op, iA at'] ret
theorem tt_ev : T2 SF SO n hs n' hs' kk op at' pf PJ r [kS Tryz.prog 37 (gIn IB EB)] = A1 SF n n' (A2 SO n hs n' hs' (A3 SO n hs n' hs' kk op at' pf PJ (A4 SF SO n hs n' hs' kk op pf PJ r (A5 SF SO n hs n' hs' op at' pf PJ r (A6 op at' pf IB EB (XA SF SO n hs r) (XA SF SO n' hs' r) (ZC SF SO n hs n' hs' op pf PJ r)))))) := by kernel_rfl
end
end Go.Proofs.YtancjnambbkhmaaGreat.Hs.So

namespace Go.Proofs.YtancjnambbkhmaaGreat.Hs.So
open Go.Gv
open Go.Ev (cn fadd fsub fmul fdiv fsqrt fneg feq flt fle fgt fge fabs VB key isNan isFin val flt_key fgt_key feq_key)

section
variable (n : Nat) (hs : Nat → Int) (pf : Int → Int → Int) (tf : Int → Nat) (rf : Int → Int) (vf : Int → Int → Nat → Nat) (fr : Int)
def rxO (x y z : Nat) : Option Out := some (Out.of (.agg [.f (vf fr 6000 0), .f (vf fr 6000 1), .f (vf fr 6000 2), .f x, .f y, .f z, .f (tf (pf (rf (w64 (fr + 6))) 3))]))
def rxN (x y z : Nat) : Option Out := cond (noughtB x y z) (rxO pf tf rf vf fr x y one) (rxO pf tf rf vf fr x y z)
def rxY (x : Nat) : Option Out := cond (pf (rf (w64 (fr + 8))) 4 == 0) (rxN pf tf rf vf fr x 0 (vf (w64 (fr + 3)) 1500 2)) (rxN pf tf rf vf fr x (vf (w64 (fr + 3)) 1500 1) (vf (w64 (fr + 3)) 1500 2))
noncomputable def rxX : Option Out := gV n hs vf fr 6000 (gV n hs vf (w64 (fr + 3)) 1500 (gR n hs rf (w64 (fr + 6)) (gR n hs rf (w64 (fr + 7)) (cond (pf (rf (w64 (fr + 7))) 3 == 0) (gR n hs rf (w64 (fr + 8)) (rxY pf tf rf vf fr 0)) (gR n hs rf (w64 (fr + 8)) (rxY pf tf rf vf fr (vf (w64 (fr + 3)) 1500 0)))))))
theorem rx_ev : ev Tryz.prog (M0 pf tf) [rwK rf, vcK vf] noL Tryz.f22 [sI n hs, iA fr] ret = rxX n hs pf tf rf vf fr := by kernel_rfl
end
theorem mve_th {n : Nat} {hs : Nat → Int} (h : Rng n hs) {fr : Int} (h0 : 0 ≤ fr) (h1 : fr ≤ 1000) {mo : Int} (hm : 0 ≤ mo) (hm' : mo ≤ 6000) (i : Nat) (hi : i ≤ 10) : ∃ z : Int, mve n hs fr mo i = mth z ∧ z.natAbs ≤ mo := by
  have h : ∀ i, i < n → -9223372036854775808 ≤ hs i ∧ hs i ≤ 9223372036854775807 := h
  have p : 0 ≤ w64 (fr + (i : Nat)) := by rw [w64_id (by omega) (by omega)]; omega
  unfold mve mmi
  have e : w64 (w64 (2 * mo) + 1) = 2 * mo + 1 := by rw [w64_id (n := 2 * mo) (by omega) (by omega), w64_id (by omega) (by omega)]
  rw [e]
  have z := mpk_range (m := 2 * mo + 1) (mrw_range h p).1 (mrw_range h p).2 (by omega)
  generalize mpk (mrw n hs (w64 (fr + (i : Nat)))) (2 * mo + 1) = q at z ⊢
  rw [w64_id (by omega) (by omega)]
  exact ⟨q - mo, rfl, by omega⟩
theorem xray {n : Nat} {hs : Nat → Int} {f : Nat} (hf : f ≤ 100) : ∃ x y z, FSpec Tryz.prog 22 [sI n hs, iA (f : Nat)] (RY (ls [mve n hs (f : Nat) 6000 0, mve n hs (f : Nat) 6000 1, mve n hs (f : Nat) 6000 2, x, y, z, mth (mpk (mrw n hs (w64 ((f : Nat) + 6))) 3)])) ∧ (x = 0 ∨ x = mve n hs (w64 ((f : Nat) + 3)) 1500 0) ∧ (y = 0 ∨ y = mve n hs (w64 ((f : Nat) + 3)) 1500 1) ∧ ((z = mve n hs (w64 ((f : Nat) + 3)) 1500 2 ∧ noughtB x y z = false) ∨ z = one) := by
  have hf2 : f ≤ 200 := by omega
  have p0 : (0 : Int) ≤ (f : Nat) := Int.natCast_nonneg f
  have p3 := p_of hf2 (j := 3) (by decide) (by decide)
  have p6 := p_of hf2 (j := 6) (by decide) (by decide)
  have p7 := p_of hf2 (j := 7) (by decide) (by decide)
  have p8 := p_of hf2 (j := 8) (by decide) (by decide)
  have go : ∃ x y z, rxX n hs mpk mth (mrw n hs) (mve n hs) (f : Nat) = rxO mpk mth (mrw n hs) (mve n hs) (f : Nat) x y z ∧ (x = 0 ∨ x = mve n hs (w64 ((f : Nat) + 3)) 1500 0) ∧ (y = 0 ∨ y = mve n hs (w64 ((f : Nat) + 3)) 1500 1) ∧ ((z = mve n hs (w64 ((f : Nat) + 3)) 1500 2 ∧ noughtB x y z = false) ∨ z = one) := by
    unfold rxX
    rw [gV_pos p0 (by omega) (Or.inr (Or.inr (Or.inl rfl))), gV_pos p3.1 p3.2 (Or.inr (Or.inr (Or.inr (Or.inl rfl)))), gR_pos p6.1, gR_pos p7.1, gR_pos p8.1, gR_pos p8.1]
    have ex : ∀ x y, ∃ z', rxN mpk mth (mrw n hs) (mve n hs) (f : Nat) x y (mve n hs (w64 ((f : Nat) + 3)) 1500 2) = rxO mpk mth (mrw n hs) (mve n hs) (f : Nat) x y z' ∧ ((z' = mve n hs (w64 ((f : Nat) + 3)) 1500 2 ∧ noughtB x y z' = false) ∨ z' = one) := fun x y => by
      unfold rxN
      cases h : noughtB x y (mve n hs (w64 ((f : Nat) + 3)) 1500 2)
      · exact ⟨_, rfl, Or.inl ⟨rfl, h⟩⟩
      · exact ⟨_, rfl, Or.inr rfl⟩
    unfold rxY
    cases mpk (mrw n hs (w64 ((f : Nat) + 7))) 3 == 0 <;> cases mpk (mrw n hs (w64 ((f : Nat) + 8))) 4 == 0 <;> simp only [cond_true, cond_false]
    · obtain ⟨z', e, h⟩ := ex (mve n hs (w64 ((f : Nat) + 3)) 1500 0) (mve n hs (w64 ((f : Nat) + 3)) 1500 1)
      exact ⟨_, _, z', e, Or.inr rfl, Or.inr rfl, h⟩
    · obtain ⟨z', e, h⟩ := ex (mve n hs (w64 ((f : Nat) + 3)) 1500 0) 0
      exact ⟨_, _, z', e, Or.inr rfl, Or.inl rfl, h⟩
    · obtain ⟨z', e, h⟩ := ex 0 (mve n hs (w64 ((f : Nat) + 3)) 1500 1)
      exact ⟨_, _, z', e, Or.inl rfl, Or.inr rfl, h⟩
    · obtain ⟨z', e, h⟩ := ex 0 0
      exact ⟨_, _, z', e, Or.inl rfl, Or.inl rfl, h⟩
  obtain ⟨x, y, z, e, h1, h2, h3⟩ := go
  exact ⟨x, y, z, gspec M0_ok (k_cons kS_ok (k_cons kS_ok k_nil)) Tryz.func22 (by kernel_rfl) (by kernel_rfl) noL_ok rfl ((rx_ev n hs mpk mth (mrw n hs) (mve n hs) (f : Nat)).trans e), h1, h2, h3⟩
end Go.Proofs.YtancjnambbkhmaaGreat.Hs.So

namespace Go.Proofs.YtancjnambbkhmaaGreat.Hs.So
open Go.Gv
open Go.Ev (cn fadd fsub fmul fdiv fsqrt fneg feq flt fle fgt fge fabs VB key isNan isFin val flt_key fgt_key feq_key)

theorem feq_self {x : Nat} (h : isNan x = false) : feq x x = true := by rw [feq_key h h, decide_eq_true rfl]
theorem clean_th {z : Int} (h : z.natAbs ≤ 100000) : feq (mth z) (cleanS (mth z)) = true := by
  have k1 : key 4517329193108106637 ≤ key (mth 1) := by decide +kernel
  have k2 : key (mth (-1)) ≤ key 13740701229962882445 := by decide +kernel
  have hn : isNan (mth z) = false := Go.Ev.fin_not_nan (mth_vb (c := 1074) rfl (j := 10) (by decide) (by show _ ≤ 524288; omega)).1
  by_cases h0 : z = 0
  · subst h0; decide +kernel
  by_cases hp : 0 < z
  · have m := mth_mono (c := 1074) rfl (m := 1) (n := z) (by omega) (by decide) (by omega)
    have f : flt (mth z) 4517329193108106637 = false := by rw [flt_key hn (by decide +kernel), decide_eq_false (by omega)]
    unfold cleanS
    rw [f]
    cases fgt (mth z) 13740701229962882445 <;> exact feq_self hn
  · have m := mth_mono (c := 1074) rfl (m := z) (n := -1) (by omega) (by omega) (by decide)
    have f : fgt (mth z) 13740701229962882445 = false := by rw [fgt_key hn (by decide +kernel), decide_eq_false (by omega)]
    unfold cleanS
    rw [f]
    exact feq_self hn
theorem clean_0 : feq 0 (cleanS 0) = true := by decide +kernel
theorem clean_1 : feq one (cleanS one) = true := by decide +kernel
/-- A direction's number: nothing, one, or thousandths. -/
theorem dir_ok {c : Nat} (hc : c = 1074) {x : Nat} (h : x = 0 ∨ x = one ∨ ∃ z : Int, x = mth z ∧ z.natAbs ≤ 1500) : VB 1 (c + 19) x ∧ feq x (cleanS x) = true := by
  rcases h with rfl | rfl | ⟨z, rfl, hz⟩
  · exact ⟨Go.Ev.vb_zero 1 _, clean_0⟩
  · exact ⟨Go.Ev.vb_exp (Go.Ev.vb_const (j := 0) hc (by decide +kernel)) (by omega), clean_1⟩
  · exact ⟨Go.Ev.vb_exp (mth_vb hc (j := 2) (by decide) (by show _ ≤ 2048; omega)) (by omega), clean_th (by omega)⟩
theorem ray_made {n : Nat} {hs : Nat → Int} (h : Rng n hs) {f : Nat} (hf : f ≤ 100) : ∃ r, FSpec Tryz.prog 22 [sI n hs, iA (f : Nat)] (RY r) ∧ rayS r = 0 := by
  obtain ⟨c, hc⟩ : ∃ c, c = 1074 := ⟨_, rfl⟩
  obtain ⟨x, y, z, hS, hx, hy, hz⟩ := xray (n := n) (hs := hs) hf
  refine ⟨_, hS, ?_⟩
  have hf2 : f ≤ 200 := by omega
  have p0 : (0 : Int) ≤ (f : Nat) := Int.natCast_nonneg f
  have p3 := p_of hf2 (j := 3) (by decide) (by decide)
  have p6 := p_of hf2 (j := 6) (by decide) (by decide)
  have l := mpk_range (m := 3) (mrw_range (n := n) (hs := hs) h p6.1).1 (mrw_range (n := n) (hs := hs) h p6.1).2 (by decide)
  have fr : ∀ i, i ≤ 10 → VB 1 (c + 19) (mve n hs (f : Nat) 6000 i) := fun i hi => by
    obtain ⟨q, e, hq⟩ := mve_th h p0 (by omega) (mo := 6000) (by decide) (by decide) i hi
    rw [e]
    exact Go.Ev.vb_exp (mth_vb hc (j := 4) (by decide) (by show _ ≤ 8192; omega)) (by omega)
  have dr : ∀ i, i ≤ 10 → ∃ q : Int, mve n hs (w64 ((f : Nat) + 3)) 1500 i = mth q ∧ q.natAbs ≤ 1500 := fun i hi => by
    obtain ⟨q, e, hq⟩ := mve_th h p3.1 p3.2 (mo := 1500) (by decide) (by decide) i hi
    exact ⟨q, e, by omega⟩
  have dx : x = 0 ∨ x = one ∨ ∃ q : Int, x = mth q ∧ q.natAbs ≤ 1500 := hx.elim Or.inl fun e => Or.inr (Or.inr (by rw [e]; exact dr 0 (by decide)))
  have dy : y = 0 ∨ y = one ∨ ∃ q : Int, y = mth q ∧ q.natAbs ≤ 1500 := hy.elim Or.inl fun e => Or.inr (Or.inr (by rw [e]; exact dr 1 (by decide)))
  have dz : z = 0 ∨ z = one ∨ ∃ q : Int, z = mth q ∧ q.natAbs ≤ 1500 := hz.elim (fun e => Or.inr (Or.inr (by rw [e.1]; exact dr 2 (by decide)))) fun e => Or.inr (Or.inl e)
  obtain ⟨vx, cx⟩ := dir_ok hc dx
  obtain ⟨vy, cy⟩ := dir_ok hc dy
  obtain ⟨vz, cz⟩ := dir_ok hc dz
  have ve : VB 1 (c + 19) (mth (mpk (mrw n hs (w64 ((f : Nat) + 6))) 3)) := Go.Ev.vb_exp (mth_vb hc (j := 1) (by decide) (by show _ ≤ 1024; omega)) (by omega)
  have le : flt (mth (mpk (mrw n hs (w64 ((f : Nat) + 6))) 3)) 0 = false := by
    refine not_flt0 ve.1 ?_
    have m := mth_mono hc (m := 0) (n := mpk (mrw n hs (w64 ((f : Nat) + 6))) 3) l.1 (by decide) (by omega)
    have k : 0 ≤ key (mth 0) := by decide +kernel
    omega
  have f0 := fr 0 (by decide)
  have f1 := fr 1 (by decide)
  have f2 := fr 2 (by decide)
  have nz : (feq x 0 && (feq y 0 && (feq z 0 && true))) = false := by
    rcases hz with ⟨_, hz⟩ | rfl
    · unfold noughtB at hz
      revert hz
      cases feq x 0 <;> cases feq y 0 <;> cases feq z 0 <;> simp
    · have : feq one 0 = false := by decide +kernel
      rw [this]
      cases feq x 0 <;> cases feq y 0 <;> rfl
  generalize mve n hs (f : Nat) 6000 0 = a0 at f0 ⊢
  generalize mve n hs (f : Nat) 6000 1 = a1 at f1 ⊢
  generalize mve n hs (f : Nat) 6000 2 = a2 at f2 ⊢
  generalize mth (mpk (mrw n hs (w64 ((f : Nat) + 6))) 3) = s at ve le ⊢
  have rf : rayF (ls [a0, a1, a2, x, y, z, s]) = false := by
    show cond (cond (!fineS a0 a1 a2) true (!fineS x y z)) true (!nearS s) = false
    rw [fine_ok hc f0 f1 f2, fine_ok hc vx vy vz, nearS_vb hc ve]; rfl
  have rz : rayZ (ls [a0, a1, a2, x, y, z, s]) = false := nz
  have rc : rayC (ls [a0, a1, a2, x, y, z, s]) = true := by
    show (feq x (cleanS x) && (feq y (cleanS y) && (feq z (cleanS z) && true))) = true
    rw [cx, cy, cz]; rfl
  unfold rayS
  rw [rf, rz, rc]
  show cond (flt s 0) 6 0 = (0 : Int)
  rw [le]; rfl
end Go.Proofs.YtancjnambbkhmaaGreat.Hs.So

namespace Go.Gv
open Go.RowKit
/-- Two contracts of one call say the same four things. -/
theorem FSpec.four {P : Program} {f : Nat} {args : List AV} {i o i' o' : Nat} {b b' : Bool} {e e' : Int} (h : FSpec P f args (.tup [.f i, .f o, .x (.bool b), .x (.int .i64 e)])) (h' : FSpec P f args (.tup [.f i', .f o', .x (.bool b'), .x (.int .i64 e')])) (hi : P.inits.idxOf? f = none) (ht : There args) : i = i' ∧ o = o' ∧ b = b' := by
  obtain ⟨w, cargs, hr⟩ := ht
  obtain ⟨v, w', ⟨r1, _⟩, ⟨r2, _⟩⟩ := calls_agree (R := fun v w' => rel ⟨w', fun _ => False, fun _ => none⟩ (.tup [.f i, .f o, .x (.bool b), .x (.int .i64 e)]) v ∧ Below w.heap.size w w') (R' := fun v w' => rel ⟨w', fun _ => False, fun _ => none⟩ (.tup [.f i', .f o', .x (.bool b'), .x (.int .i64 e')]) v ∧ Below w.heap.size w w') (h.2 (fun _ => False) w cargs (fun _ h => h.elim) hr (glob_none fun _ => rfl)) (h'.2 (fun _ => False) w cargs (fun _ h => h.elim) hr (glob_none fun _ => rfl)) hi
  obtain ⟨vs, e1, g1⟩ := rel_tup.1 r1
  obtain ⟨vs', e2, g2⟩ := rel_tup.1 r2
  rw [e1] at e2
  injection e2 with e2
  have e2 : vs.toList = vs'.toList := by rw [e2]
  obtain ⟨x1, l1, q1, a1, g1⟩ := rels_cons.1 g1
  obtain ⟨x2, l2, q2, a2, g1⟩ := rels_cons.1 g1
  obtain ⟨x3, l3, q3, a3, g1⟩ := rels_cons.1 g1
  obtain ⟨y1, m1, p1, b1, g2⟩ := rels_cons.1 g2
  obtain ⟨y2, m2, p2, b2, g2⟩ := rels_cons.1 g2
  obtain ⟨y3, m3, p3, b3, g2⟩ := rels_cons.1 g2
  rw [q1, q2, q3, p1, p2, p3] at e2
  injection e2 with e3 e2
  injection e2 with e4 e2
  injection e2 with e5 e2
  subst e3 e4 e5
  obtain ⟨z, k1, k2⟩ := rel_f.1 a1
  obtain ⟨z', k1', k2'⟩ := rel_f.1 b1
  obtain ⟨u, j1, j2⟩ := rel_f.1 a2
  obtain ⟨u', j1', j2'⟩ := rel_f.1 b2
  rw [k1] at k1'
  rw [j1] at j1'
  injection k1' with _ k3
  injection j1' with _ j3
  have s1 := rel_x.1 a3
  have s2 := rel_x.1 b3
  rw [s1] at s2
  injection s2 with s2
  subst k3 j3
  exact ⟨k2.symm.trans k2', j2.symm.trans j2', s2⟩
end Go.Gv
namespace Go.Proofs.YtancjnambbkhmaaGreat.Hs.So
open Go.Gv
open Go.Ev (cn fadd fsub fmul fdiv fsqrt fneg feq flt fle fgt fge fabs VB key isNan isFin val)

def decR : List AV → Nat → Nat
  | [.f a, .f b, .f c, .f d, .f e, .f f, .f g] => ls [a, b, c, d, e, f, g]
  | _ => fun _ => 0
noncomputable def SFv (m : Nat) (el : Nat → List AV) (rl : List AV) : List Spn := soS m (fun i => decP (el i)) (decR rl)
def IBv (m : Nat) (el : Nat → List AV) (t : Nat) : Bool := inB (decL m el) t
def EBv (m : Nat) (el : Nat → List AV) (t : Nat) : Bool := endB (decL m el) t
theorem IBv_eq (X : List Spn) (t : Nat) : IBv X.length (elL X) t = inB X t := by unfold IBv; rw [decL_el]
theorem EBv_eq (X : List Spn) (t : Nat) : EBv X.length (elL X) t = endB X t := by unfold EBv; rw [decL_el]
def SoOk (x : Nat × (Nat → Prt) × Int) : Prop := 1 ≤ x.1 ∧ x.1 ≤ 7 ∧ PtOk LfOk x.2.1 x.1 ∧ (0 ≤ x.2.2 ∧ x.2.2 < 16)
def SoIs (n : Nat) (el : Nat → List AV) (x : Nat × (Nat → Prt) × Int) : Prop := SoOk x ∧ FSpec Tryz.prog 35 [.sl 1 n el, iA 0, iA 3] (.agg (soC x.1 x.2.1 x.2.2))
open Classical in
noncomputable def SOv (n : Nat) (el : Nat → List AV) : Nat × (Nat → Prt) × Int := if h : ∃ x, SoIs n el x then h.choose else ⟨1, fun _ => ballP, 0⟩
def ballA : Nat → Nat := ls [0, 0, 0, 0, 0, 0, 0, 0, 0, one, 0]
def rayA : Nat → Nat := ls [0, 0, 13840687554816376832, 0, 0, one, 0]
theorem ball_nan : ∀ i, i < 11 → isNan (ballA i) = false := by decide +kernel
theorem ball_le : LE 1 ballA 0 := Or.inl ⟨rfl, by decide +kernel⟩
theorem ball_ok (i : Int) : ppE ballP i = 0 := pp_leaf ball_le ball_nan i
theorem SOv_ok (n : Nat) (el : Nat → List AV) : SoOk (SOv n el) := by
  unfold SOv
  split
  next h => exact h.choose_spec.1
  next => exact ⟨Nat.le_refl _, by decide, fun q hq => Or.inl ⟨rfl, ball_ok⟩, by decide, by decide⟩
theorem SOv_spec {n : Nat} {hs : Nat → Int} (h : Rng n hs) (hn : n ≤ 512) : FSpec Tryz.prog 35 [sI n hs, iA 0, iA 3] (.agg (soC (SOv n (eI' hs)).1 (SOv n (eI' hs)).2.1 (SOv n (eI' hs)).2.2)) := by
  have g : ∃ x, SoIs n (eI' hs) x := by
    obtain ⟨m, PL, sk, h1, h2, h3, h4, h5⟩ := solid_made h hn
    exact ⟨⟨m, PL, sk⟩, ⟨h1, h2, h3, h4.1, by have := h4.2; show sk < 16; omega⟩, h5⟩
  unfold SOv
  rw [dif_pos g]
  exact g.choose_spec.2
theorem spans_of {m : Nat} {P : Nat → Prt} {sk : Int} {r : Nat → Nat} (h1 : 1 ≤ m) (hm : m ≤ 16) (hp : PpOk P m) (hs : 0 ≤ sk ∧ sk < 16) (hr : rayS r = 0) : FSpec Tryz.prog 28 [.agg (soC m P sk), RY r] (.tup [slL (soS m P r), iA 0]) := by
  have e : soE m P sk = 0 := by
    unfold soE
    rw [decide_eq_false (show ¬ (m : Int) < 1 by omega), decide_eq_false (show ¬ (m : Int) > 16 by omega), sk_ok hs, seq_all (fb := paE P) m fun i hi => hp i hi]
    rfl
  have e2 : srE m P sk r = 0 := by unfold srE; rw [e]; exact hr
  have h := ss_spec m P sk r
  unfold srS' at h
  rw [e2] at h
  exact h
theorem ball_wit : (witC (shC 1 ballA 0) rayA).ok = true ∧ (witC (shC 1 ballA 0) rayA).i = 4616189618054758400 ∧ (witC (shC 1 ballA 0) rayA).o = 4618441417868443648 := by
  have w := (witC_spec 1 ballA 0 rayA).1
  have hr : rayS rayA = 0 := by decide +kernel
  have he : e1 ballA 0 = 0 := by decide +kernel
  have g := within_g (kt_g (kn1_good ballA 0 he) hr) (wiK1 ballA 0 rayA)
  have th : There [SH 1 ballA 0, RY rayA] := by
    have f : ∀ {E : Env} x, isNan x = false → rel E (.f x) (.float .f64 x) := fun x hx => rel_f.2 ⟨x, rfl, Go.Ev.cn_of_not hx⟩
    have z : ∀ {E : Env}, rel E (.f 0) (.float .f64 0) := f 0 (by decide +kernel)
    have o : ∀ {E : Env}, rel E (.f one) (.float .f64 one) := f one (by decide +kernel)
    refine ⟨default, #[.agg #[.int .i64 1, .float .f64 0, .float .f64 0, .float .f64 0, .float .f64 0, .float .f64 0, .float .f64 0, .float .f64 0, .float .f64 0, .float .f64 0, .float .f64 one, .float .f64 0, .int .i64 0], .agg #[.float .f64 0, .float .f64 0, .float .f64 13840687554816376832, .float .f64 0, .float .f64 0, .float .f64 one, .float .f64 0]], rels_cons.2 ⟨_, _, rfl, rel_agg.2 ⟨_, rfl, ?_⟩, rels_cons.2 ⟨_, [], rfl, rel_agg.2 ⟨_, rfl, ?_⟩, rels_nil.2 rfl⟩⟩⟩
    · exact rels_cons.2 ⟨_, _, rfl, rel_x.2 rfl, rels_cons.2 ⟨_, _, rfl, z, rels_cons.2 ⟨_, _, rfl, z, rels_cons.2 ⟨_, _, rfl, z, rels_cons.2 ⟨_, _, rfl, z, rels_cons.2 ⟨_, _, rfl, z, rels_cons.2 ⟨_, _, rfl, z, rels_cons.2 ⟨_, _, rfl, z, rels_cons.2 ⟨_, _, rfl, z, rels_cons.2 ⟨_, _, rfl, z, rels_cons.2 ⟨_, _, rfl, o, rels_cons.2 ⟨_, _, rfl, z, rels_cons.2 ⟨_, _, rfl, rel_x.2 rfl, rels_nil.2 rfl⟩⟩⟩⟩⟩⟩⟩⟩⟩⟩⟩⟩⟩
    · exact rels_cons.2 ⟨_, _, rfl, z, rels_cons.2 ⟨_, _, rfl, z, rels_cons.2 ⟨_, _, rfl, f _ (by decide +kernel), rels_cons.2 ⟨_, _, rfl, z, rels_cons.2 ⟨_, _, rfl, z, rels_cons.2 ⟨_, _, rfl, o, rels_cons.2 ⟨_, _, rfl, z, rels_nil.2 rfl⟩⟩⟩⟩⟩⟩⟩
  obtain ⟨a, b, c⟩ := FSpec.four w g (by kernel_rfl) th
  exact ⟨c.trans (by decide +kernel), a.trans (by decide +kernel), b.trans (by decide +kernel)⟩
def ballS : List Spn := [⟨⟨4616189618054758400, 0, false⟩, ⟨4618441417868443648, 0, false⟩⟩]
theorem ball_spans : S1 SFv = ballS := by
  obtain ⟨h1, h2, h3⟩ := ball_wit
  show lfL 0 (shC 1 ballA 0) rayA = ballS
  unfold lfL
  rw [h1, h2, h3]; rfl
theorem ball_spec : FSpec Tryz.prog 28 [.agg [.sl 16 1 el1, iA 0], .agg r0] (.tup [slL (S1 SFv), iA 0]) := by
  have h := spans_of (m := 1) (P := fun _ => ballP) (sk := 0) (r := rayA) (by decide) (by decide) (fun q _ => ball_ok _) (by decide) (by decide +kernel)
  refine FSpec.of_args (args := [.agg (soC 1 (fun _ => ballP) 0), RY rayA]) h fun E vs hr => ?_
  obtain ⟨u, us, e, r1, hr⟩ := rels_cons.1 hr
  refine rels_cons.2 ⟨u, us, e, ?_, hr⟩
  obtain ⟨vs, e1, r1⟩ := rel_agg.1 r1
  refine rel_agg.2 ⟨vs, e1, ?_⟩
  obtain ⟨x, xs, e2, r2, r1⟩ := rels_cons.1 r1
  refine rels_cons.2 ⟨x, xs, e2, sl_congr (fun q hq => ?_) r2, r1⟩
  have : q = 0 := by omega
  subst this
  rfl
end Go.Proofs.YtancjnambbkhmaaGreat.Hs.So

namespace Go.Proofs.YtancjnambbkhmaaGreat.Hs.So
open Go.Gv
open Go.Ev (cn fadd fsub fmul fdiv fsqrt fneg feq flt fle fgt fge fabs VB key isNan isFin val)

theorem Zt_ok : ∀ i h, Zt i = some h → ZSoundN 0 h := fun i h e => by
  unfold Zt at e
  cases h1 : Nat.beq i 2
  · rw [h1, cond_false] at e
    cases h2 : Nat.beq i 24
    · rw [h2] at e; cases e
    · rw [h2, cond_true] at e; cases e; exact frzK_ok 5
  · rw [h1, cond_true] at e; cases e; exact frzK_ok 0
theorem A1_eq (n n' : Nat) (o : Option Out) : A1 SFv n n' o = cond (decide (w64 ((n : Int) + n') > 512)) (rB true) o := by
  unfold A1
  rw [gate_pos ball_spec]
  unfold q3 q2 q1
  rw [ball_spans]
  rfl
theorem tT_nan {q : Int} (h0 : 0 ≤ q) (h : q < 20000) : isNan (fdiv (cn (FloatKind.f64.nearest q)) 4652218415073722368) = false := by
  obtain ⟨c, hc⟩ : ∃ c, c = 1074 := ⟨_, rfl⟩
  have hq : q.natAbs ≤ 2 ^ 20 := Nat.le_trans (show q.natAbs ≤ 20000 by omega) (by decide)
  have h1 := Go.Ev.near_vb hc (j := 20) (by omega) hq
  have ev : val 4652218415073722368 = ((1024 * 2 ^ c : Nat) : Int) := by subst hc; decide +kernel
  have hp := Nat.two_pow_pos c
  have hk := (Go.Ev.key_div hc h1.1 (show isFin 4652218415073722368 = true by decide +kernel) (by rw [ev]; omega)).1
  have hv : VB 1 (c + 11) (fdiv (cn (FloatKind.f64.nearest q)) 4652218415073722368) := by
    refine Go.Ev.vb_of hk ?_ ?_ (by decide) (by decide) (by omega) (by omega)
    · rw [ev, Int.natAbs_natCast]; omega
    · rw [ev, Int.natAbs_mul, Int.natAbs_mul, Int.natAbs_natCast, Int.natAbs_natCast]
      have es : (Go.Ev.sg ((1024 * 2 ^ c : Nat) : Int)).natAbs = 1 := by
        unfold Go.Ev.sg
        rw [decide_eq_false (by omega)]; rfl
      rw [es, Nat.mul_one, Nat.one_mul, ← Nat.mul_assoc]
      refine Nat.mul_le_mul_right _ (Nat.le_trans h1.2 ?_)
      rw [Nat.one_mul, show c + 20 = c + 11 + 9 by omega, Nat.pow_add _ _ 9]
      exact Nat.mul_le_mul_left _ (by decide)
  exact Go.Ev.fin_not_nan hv.1
section
variable {n : Nat} {hs : Nat → Int} {n' : Nat} {hs' : Nat → Int} {op : Int}
noncomputable abbrev jnV (n : Nat) (hs : Nat → Int) (n' : Nat) (hs' : Nat → Int) (op : Int) : Nat → Prt := jnP (qa SOv n hs) (qa SOv n' hs') (qP SOv n hs) (qP SOv n' hs') (opv mpk op)
theorem elC_eq (n : Nat) (hs : Nat → Int) (n' : Nat) (hs' : Nat → Int) (op : Int) : elC SOv n hs n' hs' op mpk (jnV n hs n' hs' op) = fun q => (jnV n hs n' hs' op q).c := by
  obtain ⟨ha1, ha7, _⟩ : 1 ≤ qa SOv n hs ∧ qa SOv n hs ≤ 7 ∧ PtOk LfOk (qP SOv n hs) (qa SOv n hs) ∧ (0 ≤ qs SOv n hs ∧ qs SOv n hs < 16) := SOv_ok n (eI' hs)
  obtain ⟨hb1, hb7, _⟩ : 1 ≤ qa SOv n' hs' ∧ qa SOv n' hs' ≤ 7 ∧ PtOk LfOk (qP SOv n' hs') (qa SOv n' hs') ∧ (0 ≤ qs SOv n' hs' ∧ qs SOv n' hs' < 16) := SOv_ok n' (eI' hs')
  have e1 : w64 ((qa SOv n hs : Int) - 1) = ((qa SOv n hs - 1 : Nat) : Int) := by rw [w64_id (by omega) (by omega)]; omega
  have e2 : w64 (((qa SOv n hs + qa SOv n' hs' : Nat) : Int) - 1) = ((qa SOv n hs + qa SOv n' hs' - 1 : Nat) : Int) := by rw [w64_id (by omega) (by omega)]; omega
  funext q
  unfold elC
  rw [mixP, e1, e2]
  cases hq : Nat.blt q (qa SOv n hs + qa SOv n' hs')
  · have h1 : Nat.blt q (qa SOv n hs) = false := by
      cases e : Nat.blt q (qa SOv n hs)
      · rfl
      · have a : q < qa SOv n hs := Nat.le_of_ble_eq_true e
        have b := not_blt hq
        omega
    show (zsP _ _ _).c = (jnP _ _ _ _ _ q).c
    unfold jnP
    rw [h1, hq]; rfl
  · rfl
theorem ZC_eq (n : Nat) (hs : Nat → Int) (n' : Nat) (hs' : Nat → Int) (op : Int) (r : Nat → Nat) : ZC SFv SOv n hs n' hs' op mpk (jnV n hs n' hs' op) r = soS (qa SOv n hs + qa SOv n' hs' + 1) (jnV n hs n' hs' op) r := by
  show SFv (MC SOv n hs n' hs') (elC SOv n hs n' hs' op mpk (jnV n hs n' hs' op)) (rC r) = _
  rw [elC_eq]; rfl
end
theorem topSpans_law {n : Nat} {hs : Nat → Int} {n' : Nat} {hs' : Nat → Int} (h : Rng n hs) (h' : Rng n' hs') (hn : n ≤ 2305843009213693952) (hn' : n' ≤ 2305843009213693952) {kk op at' : Int} (hk : -9223372036854775808 ≤ kk ∧ kk ≤ 9223372036854775807) (ho : -9223372036854775808 ≤ op ∧ op ≤ 9223372036854775807) (ha : -9223372036854775808 ≤ at' ∧ at' ≤ 9223372036854775807) :
    FSpec Tryz.prog 7 [sI n hs, sI n' hs', iA kk, iA op, iA at'] (bA true) := by
  have pk := mpk_range (m := 64) hk.1 hk.2 (by decide)
  obtain ⟨f, hf⟩ : ∃ f : Nat, mpk kk 64 = (f : Nat) := ⟨(mpk kk 64).toNat, by omega⟩
  obtain ⟨r, hR, hr⟩ := ray_made h (f := f) (by omega)
  rw [← hf] at hR
  have po := mpk_range (m := 3) ho.1 ho.2 (by decide)
  have pa := mpk_range (m := 20000) ha.1 ha.2 (by decide)
  have hov : opv mpk op = 1 ∨ opv mpk op = 2 ∨ opv mpk op = 3 := by unfold opv; rw [w64_id (by omega) (by omega)]; omega
  obtain ⟨ha1, ha7, hA, hsa⟩ : 1 ≤ qa SOv n hs ∧ qa SOv n hs ≤ 7 ∧ PtOk LfOk (qP SOv n hs) (qa SOv n hs) ∧ (0 ≤ qs SOv n hs ∧ qs SOv n hs < 16) := SOv_ok n (eI' hs)
  obtain ⟨hb1, hb7, hB, hsb⟩ : 1 ≤ qa SOv n' hs' ∧ qa SOv n' hs' ≤ 7 ∧ PtOk LfOk (qP SOv n' hs') (qa SOv n' hs') ∧ (0 ≤ qs SOv n' hs' ∧ qs SOv n' hs' < 16) := SOv_ok n' (eI' hs')
  have hP := jn_pp hA hB ha1 ha7 hb1 hb7 hov
  have hZ := ZC_eq n hs n' hs' op r
  have hRis : Ris (soS (qa SOv n hs + qa SOv n' hs' + 1) (jnV n hs n' hs' op) r) := (rw_ok (pl_ok r hP) _ (Nat.le_refl _) (qa SOv n hs + qa SOv n' hs') (by omega)).ris
  have lA := soS_len ha1 (show qa SOv n hs ≤ 16 by omega) r (pp_of hA)
  have lB := soS_len hb1 (show qa SOv n' hs' ≤ 16 by omega) r (pp_of hB)
  have lC := soS_len (n := qa SOv n hs + qa SOv n' hs' + 1) (by omega) (by omega) r hP
  have hL : LOk Tryz.prog (L2t SFv SOv n hs n' hs' kk op at' mpk (jnV n hs n' hs' op) r) (bodyOf Tryz.f7) := by
    refine lok_two (lok_at (i := 13) 0 2 (by kernel_rfl) (by kernel_rfl) (toldF_sound (keep := keepTs) (τ := [some 2, some 3, some 6, some 5]) (ts_leads n hs kk (opv mpk op) at' _ _ _ _ _ ha7 hb7))) (lok_at (i := 28) 1 2 (by kernel_rfl) (by kernel_rfl) (toldF_sound (keep := keepCh) (τ := []) ?_))
    rw [hZ]
    exact ch_leads _ _ _ _ hRis (Nat.le_trans lC (by decide))
  refine gspecZ Zt_ok MP_ok (k_cons kS_ok (k_cons kS_ok (k_cons kS_ok (k_cons kS_ok k_nil)))) m_nil Tryz.func7 (by kernel_rfl) (by kernel_rfl) hL rfl ((tt_ev SFv SOv n hs n' hs' kk op at' mpk (jnV n hs n' hs' op) r IBv EBv).trans ?_)
  rw [A1_eq]
  by_cases hw : w64 ((n : Int) + n') > 512
  · rw [decide_eq_true hw]; rfl
  rw [decide_eq_false hw, cond_false]
  have hnn : n + n' ≤ 512 := by rw [w64_id (by omega) (by omega)] at hw; omega
  have ap : apA (qa SOv n hs) = true := by
    unfold apA
    rw [blt_t (show 0 < qa SOv n hs by omega), allB_true (fun _ _ => rfl), Nat.ble_eq_true_of_le (show (0 + qa SOv n hs) * 128 ≤ 140737488355328 by omega)]; rfl
  have sub : Sub (tsE (sI n hs) kk (opv mpk op) at' (qa SOv n hs) (qP SOv n hs) (qs SOv n hs) (qa SOv n' hs') (qP SOv n' hs') (qs SOv n' hs') 0 (0 + qa SOv n hs) (fun q => mixL (Nat.blt q 0) [] (qP SOv n hs (q - 0)).c)) (tsS n hs kk (opv mpk op) at' (qa SOv n hs) (qP SOv n hs) (qs SOv n hs) (qa SOv n' hs') (qP SOv n' hs') (qs SOv n' hs') 0 (qa SOv n hs) (jnV n hs n' hs' op)) := by
    rw [Nat.zero_add]
    refine sub_like ⟨Or.inl rfl, Or.inl rfl, Or.inl rfl, Or.inr (Or.inl ⟨71, 16, qa SOv n hs, _, _, rfl, rfl, fun q hq => like_eq ?_⟩), trivial⟩
    show _ = (jnP _ _ _ _ _ q).c
    rw [jn_left hq]
    rfl
  unfold A2
  rw [gate_pos (SOv_spec h (by omega)), gate_pos (SOv_spec h' (by omega)), ap, cond_true]
  unfold A3
  rw [gate_pos sub, apB_t (by omega), Bool.true_or, cond_true]
  have sX : FSpec Tryz.prog 28 [.agg (soC (qa SOv n hs) (qP SOv n hs) (qs SOv n hs)), RY r] (.tup [slL (XA SFv SOv n hs r), iA 0]) := spans_of (r := r) ha1 (by omega) (pp_of hA) hsa hr
  have sY : FSpec Tryz.prog 28 [.agg (soC (qa SOv n' hs') (qP SOv n' hs') (qs SOv n' hs')), RY r] (.tup [slL (XA SFv SOv n' hs' r), iA 0]) := spans_of (r := r) hb1 (by omega) (pp_of hB) hsb hr
  have sZ := spans_of (sk := 0) (r := r) (by omega) (by omega) hP (by decide) hr
  have sZ : FSpec Tryz.prog 28 [.agg [.sl 16 (MC SOv n hs n' hs') (elC SOv n hs n' hs' op mpk (jnV n hs n' hs' op)), iA 0], RY r] (.tup [slL (ZC SFv SOv n hs n' hs' op mpk (jnV n hs n' hs' op) r), iA 0]) := by
    rw [hZ, elC_eq]; exact sZ
  have hM : (Nat.beq (MC SOv n hs n' hs') (MC SOv n hs n' hs') && true && (Nat.beq (MC SOv n hs n' hs') (MC SOv n hs n' hs') && true && true)) = true := by
    rw [Nat.beq_refl]; rfl
  unfold A4
  rw [gate_pos hR, gate_pos sX, gate_pos sY, hM, cond_true, gate_pos sZ]
  unfold A5
  rw [gate_pos (Sub.refl _), hZ, show XA SFv SOv n hs r = soS (qa SOv n hs) (qP SOv n hs) r from rfl, show XA SFv SOv n' hs' r = soS (qa SOv n' hs') (qP SOv n' hs') r from rfl]
  have ht : isNan (tT at' mpk) = false := tT_nan pa.1 pa.2
  have go : ∀ X : List Spn, X.length ≤ 16 → ∀ o, gI1 at' mpk IBv EBv X o = o := fun X hX o => by
    unfold gI1
    refine gate_pos ?_
    show FSpec Tryz.prog 37 [slL X, .f (tT at' mpk)] (.tup [bA (IBv X.length (elL X) (tT at' mpk)), bA (EBv X.length (elL X) (tT at' mpk))])
    rw [IBv_eq, EBv_eq]
    exact in_spec X _ (by omega)
  unfold A6
  rw [go _ lA, go _ lB, go _ lC]
  unfold fin6
  show cond (cond (EBv (soS _ _ r).length (elL (soS _ _ r)) _) true (EBv (soS _ _ r).length (elL (soS _ _ r)) _)) _ (cond _ (rB (IBv (soS _ _ r).length (elL (soS _ _ r)) _ == cond (IBv (soS _ _ r).length (elL (soS _ _ r)) _) (IBv (soS _ _ r).length (elL (soS _ _ r)) _) false)) (cond _ (rB (IBv (soS _ _ r).length (elL (soS _ _ r)) _ == cond (IBv (soS _ _ r).length (elL (soS _ _ r)) _) true (IBv (soS _ _ r).length (elL (soS _ _ r)) _))) (rB (IBv (soS _ _ r).length (elL (soS _ _ r)) _ == cond (IBv (soS _ _ r).length (elL (soS _ _ r)) _) (!(IBv (soS _ _ r).length (elL (soS _ _ r)) _)) false)))) = _
  simp only [IBv_eq, EBv_eq]
  cases x1 : endB (soS (qa SOv n hs) (qP SOv n hs) r) (tT at' mpk)
  · cases x2 : endB (soS (qa SOv n' hs') (qP SOv n' hs') r) (tT at' mpk)
    · have e := jn_in hA hB ha1 ha7 hb1 hb7 hov r ht x1 x2
      have e : inB (soS (qa SOv n hs + qa SOv n' hs' + 1) (jnV n hs n' hs' op) r) (tT at' mpk) = _ := e
      rw [cond_false, cond_false, e]
      rcases hov with e1 | e1 | e1 <;> rw [e1] <;> cases inB (soS (qa SOv n hs) (qP SOv n hs) r) (tT at' mpk) <;> cases inB (soS (qa SOv n' hs') (qP SOv n' hs') r) (tT at' mpk) <;> rfl
    · rfl
  · rfl
end Go.Proofs.YtancjnambbkhmaaGreat.Hs.So
