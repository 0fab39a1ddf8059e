/-
  Sot Sou Arg0 Sov Sx7, one behind the other.
-/
import Derived.Test.YtancjnambbkhmaaGreatC24
import Derived.Test.YtancjnambbkhmaaGreatC10
import Derived.Test.YtancjnambbkhmaaGreatRows
import Derived.Carry
import Derived.ChangeSlices
namespace Go.Proofs.YtancjnambbkhmaaGreat.Hs.So
open Go.Gv
open Go.Ev (cn fadd fsub fmul fdiv fsqrt fneg feq flt fle fgt fge fabs isNan key flt_key fgt_key feq_key)

def rkS (r : Nat → Nat) (S : List Spn) (nr fr : Nat) (i : Int) : St := mkS 76 [(3, .own 0 0), (4, .own 1 0), (7, slL S), (9, .f nr), (10, .f fr), (12, iA i)] [.c (rC r), .c c0.c]
def rkR (c : Crs) : St := mkS 76 [(4, .own 0 0), (5, bA true), (6, iA 0)] [.c c.c]
def keepRk : List Nat := [3, 4, 7, 9, 10, 12]
section
variable (bt : Nat → Nat → Nat → Nat) (n : Nat) (P : Nat → Prt) (sn : Int) (r : Nat → Nat) (e : Int) (b : Nat → Nat) (S : List Spn) (nr fr : Nat) (mk : Bool) (i : Int)
def rkK (f : Crs → Option Out) (o : Option Out) (c : Crs) : Option Out := cond (tkB (r 6) c) (f ⟨bt nr c.t fr, c.l, c.u⟩) o
def rkC (f : Crs → Option Out) (o oe : Option Out) : Option Out := cond (decide (i < w64 (2 * (S.length : Int)))) (cond (ixB (w64 (i.tdiv 2)) S.length || false) (cond ((i.tmod 2) == 1) (cond (ixB (w64 (i.tdiv 2)) S.length || false) (rkK bt r nr fr f o (gtL S (w64 (i.tdiv 2)).toNat).o) none) (rkK bt r nr fr f o (gtL S (w64 (i.tdiv 2)).toNat).i)) none) oe
def rkE : List Entry := [⟨62, eFFF fun n t f => .f (bt n t f)⟩]
theorem rk_step : evC Tryz.prog (rkE bt) [] noL (loopAt Tryz.f32 0) (rkS r S nr fr i) (finN keepRk [some 0, some 1]) = rkC bt r S nr fr i (fun _ => none) (some ⟨.normal, rkS r S nr fr (w64 (i + 1)), .any⟩) none := by kernel_rfl
theorem rk_ret : evC Tryz.prog (rkE bt) [] noL (loopAt Tryz.f32 0) (rkS r S nr fr i) (finR [4, 5, 6] [some 1]) = rkC bt r S nr fr i (fun c => some ⟨.ret, rkR c, .any⟩) none none := by kernel_rfl
theorem rk_end : evC Tryz.prog (rkE bt) [] noL (loopAt Tryz.f32 0) (rkS r S nr fr i) (finE keepRk [some 0, some 1]) = rkC bt r S nr fr i (fun _ => none) none (some ⟨.exit 0, rkS r S nr fr i, .any⟩) := by kernel_rfl
noncomputable def rkKs : List KEntry := [kS Tryz.prog 29 fun _ => .tup [slL S, iA e], kS Tryz.prog 70 fun _ => BX b, kS Tryz.prog 48 fun _ => .tup [.f nr, .f fr, bA mk]]
noncomputable def rkX (o : Option Out) : Option Out := gate (FSpec Tryz.prog 29 [.agg (soC n P sn), RY r] (.tup [slL S, iA e])) (cond (!(e == 0)) (sdV c0 false e) (gate (FSpec Tryz.prog 70 [prS n P] (BX b)) (gate (FSpec Tryz.prog 48 [BX b, RY r] (.tup [.f nr, .f fr, bA mk])) (cond (!mk) (sdV c0 false 0) (gate (Sub (rkS r S nr fr 0) (rkS r S nr fr 0)) o)))))
theorem rk_evG (j : Int) : ev Tryz.prog [] (rkKs e b S nr fr mk) (oneL 8 (toldF keepRk [some 1, some 2] (rkS r S nr fr 0) (.exit 0) (rkS r S nr fr j))) Tryz.f32 [.agg (soC n P sn), RY r] ret = rkX n P sn r e b S nr fr mk (sdV c0 false 0) := by kernel_rfl
theorem rk_evR (c : Crs) : ev Tryz.prog [] (rkKs e b S nr fr mk) (oneL 8 (toldF keepRk [some 1, some 2] (rkS r S nr fr 0) .ret (rkR c))) Tryz.f32 [.agg (soC n P sn), RY r] ret = rkX n P sn r e b S nr fr mk (sdV c true 0) := by kernel_rfl
end
/-- What Strike gives. -/
noncomputable def fstO (lo : Nat) (L : List Spn) : Option Crs := Classical.choose (fst_all lo L)
theorem fstO_ok (lo : Nat) (L : List Spn) : Fst lo L (fstO lo L) := Classical.choose_spec (fst_all lo L)
structure Sdk where
  c : Crs
  k : Bool
  e : Int
def Sdk.v (x : Sdk) : AV := .tup [x.c.v, bA x.k, iA x.e]
noncomputable def sdk (n : Nat) (P : Nat → Prt) (sn : Int) (r : Nat → Nat) : Sdk := cond (srE n P sn r == 0) (cond (meetK (bxS P n (n - 1)) r) (match fstO (r 6) (soS n P r) with
  | some c => ⟨⟨btS c.t (meetN (bxS P n (n - 1)) r) (meetF (bxS P n (n - 1)) r), c.l, c.u⟩, true, 0⟩
  | none => ⟨c0, false, 0⟩) ⟨c0, false, 0⟩) ⟨c0, false, srE n P sn r⟩
theorem soS_len {n : Nat} {P : Nat → Prt} (h1 : 1 ≤ n) (hn : n ≤ 16) (r : Nat → Nat) (hp : ∀ k, k < n → ppE (P k) (k : Nat) = 0) : (soS n P r).length ≤ 16 := by
  have := rw_len' (pl_ok r hp) (Nat.le_refl n) (show n - 1 < n by omega)
  unfold soS
  omega
theorem sk_spec (n : Nat) (P : Nat → Prt) (sn : Int) (r : Nat → Nat) : FSpec Tryz.prog 31 [.agg (soC n P sn), RY r] (sdk n P sn r).v := by
  have en : ∀ e, e ∈ [(⟨77, eFFF fun t n f => .f (btS t n f)⟩ : Entry)] → EOk Tryz.prog e := e_cons (eFFF_ok bw_spec) e_nil
  have ks : ∀ {e : Int} {b : Nat → Nat} {S : List Spn} {nr fr : Nat} {mk : Bool} {c : Crs} {ck : Bool}, ∀ x, x ∈ skK e b S nr fr mk c ck → KOk Tryz.prog x := k_cons kS_ok (k_cons kS_ok (k_cons kS_ok (k_cons kS_ok (k_cons kS_ok k_nil))))
  by_cases e : srE n P sn r = 0
  · have ok := so_ok (srE_ok e).1
    have hl := soS_len ok.1 ok.2.1 r ok.2.2
    have hF := fi_spec (by omega) (fstO_ok (r 6) (soS n P r))
    unfold sdk
    rw [e]
    have hb := bo_spec ok.1 ok.2.1 fun k hk => pr_ok (ok.2.2 k hk)
    have hm : FSpec Tryz.prog 75 [BX (bxS P n (n - 1)), RY r] (.tup [.f (meetN (bxS P n (n - 1)) r), .f (meetF (bxS P n (n - 1)) r), bA (meetK (bxS P n (n - 1)) r)]) := smeets _ r
    have hmm := mm_spec n P sn r
    rw [e] at hmm
    cases ho : fstO (r 6) (soS n P r) with
    | none =>
      rw [ho] at hF
      have h := sk_ev n P sn r 0 (bxS P n (n - 1)) (soS n P r) (meetN (bxS P n (n - 1)) r) (meetF (bxS P n (n - 1)) r) (meetK (bxS P n (n - 1)) r) c0 false btS
      rw [gate_pos hmm, gate_pos hb, gate_pos hm, gate_pos (sp_spec ok.1 ok.2.1 r ok.2.2), gate_pos (show FSpec Tryz.prog 76 [slL (soS n P r), .f (r 6)] (.tup [c0.v, bA false]) from hF)] at h
      refine gspec en ks Tryz.func31 (by kernel_rfl) (by kernel_rfl) noL_ok rfl (h.trans ?_)
      cases meetK (bxS P n (n - 1)) r <;> rfl
    | some c =>
      rw [ho] at hF
      have h := sk_ev n P sn r 0 (bxS P n (n - 1)) (soS n P r) (meetN (bxS P n (n - 1)) r) (meetF (bxS P n (n - 1)) r) (meetK (bxS P n (n - 1)) r) c true btS
      rw [gate_pos hmm, gate_pos hb, gate_pos hm, gate_pos (sp_spec ok.1 ok.2.1 r ok.2.2), gate_pos (show FSpec Tryz.prog 76 [slL (soS n P r), .f (r 6)] (.tup [c.v, bA true]) from hF)] at h
      refine gspec en ks Tryz.func31 (by kernel_rfl) (by kernel_rfl) noL_ok rfl (h.trans ?_)
      cases meetK (bxS P n (n - 1)) r <;> rfl
  · have h := sk_ev n P sn r (srE n P sn r) (fun _ => 0) [] 0 0 false c0 false btS
    rw [gate_pos (mm_spec n P sn r), beq_false_of_ne e] at h
    unfold sdk
    rw [beq_false_of_ne e]
    exact gspec en ks Tryz.func31 (by kernel_rfl) (by kernel_rfl) noL_ok rfl h
/-! ### The answer's -/
theorem rkC_t {bt : Nat → Nat → Nat → Nat} {r : Nat → Nat} {S : List Spn} {nr fr : Nat} {i : Nat} (hi : i < 2 * S.length) (hS : S.length ≤ 1000) (f : Crs → Option Out) (o oe : Option Out) : rkC bt r S nr fr (i : Nat) f o oe = rkK bt r nr fr f o (endS S i) := by
  unfold rkC
  have e1 : w64 (2 * (S.length : Int)) = ((2 * S.length : Nat) : Int) := by rw [w64_id (by omega) (by omega)]; omega
  have e2 : ((i : Nat) : Int).tdiv 2 = ((i / 2 : Nat) : Int) := by
    rw [Int.tdiv_eq_ediv_of_nonneg (by omega)]; omega
  have e3 : ((i : Nat) : Int).tmod 2 = ((i % 2 : Nat) : Int) := by
    rw [Int.tmod_eq_emod_of_nonneg (by omega)]; omega
  rw [e1, e2, e3, w64_id (by omega) (by omega), dec_lt hi, ixB_t (show i / 2 < S.length by omega), Int.toNat_natCast]
  unfold endS
  by_cases h : i % 2 = 1
  · rw [h]; rfl
  · rw [show i % 2 = 0 by omega]; rfl
theorem rbE_ok : ∀ e, e ∈ rkE (fun n t f => btS t n f) → EOk Tryz.prog e := e_cons (eFFF_ok fun n t f => rbetween n t f) e_nil
theorem rk_go {r : Nat → Nat} {S : List Spn} {nr fr : Nat} (hS : S.length ≤ 1000) {i : Nat} (hi : i < 2 * S.length) (h : tkB (r 6) (endS S i) = false) : Leads Tryz.prog (loopAt Tryz.f32 0) (rkS r S nr fr (i : Nat)) .normal (rkS r S nr fr ((i + 1 : Nat) : Int)) := by
  refine leads_ev (finN_sub keepRk [some 0, some 1]) rbE_ok k_nil noL_ok ((rk_step _ r S nr fr (i : Nat)).trans ?_)
  rw [rkC_t hi hS]
  unfold rkK
  rw [h, w64_next (by omega)]; rfl
theorem rsk_spec (n : Nat) (P : Nat → Prt) (sn : Int) (r : Nat → Nat) : FSpec Tryz.prog 32 [.agg (soC n P sn), RY r] (sdk n P sn r).v := by
  have ks : ∀ {e : Int} {b : Nat → Nat} {S : List Spn} {nr fr : Nat} {mk : Bool}, ∀ x, x ∈ rkKs e b S nr fr mk → KOk Tryz.prog x := k_cons kS_ok (k_cons kS_ok (k_cons kS_ok k_nil))
  have hss := rss_spec n P sn r
  by_cases e : srE n P sn r = 0
  · have ok := so_ok (srE_ok e).1
    have hl := soS_len ok.1 ok.2.1 r ok.2.2
    unfold srS' at hss
    rw [e] at hss
    have hss : FSpec Tryz.prog 29 [.agg (soC n P sn), RY r] (.tup [slL (soS n P r), iA 0]) := hss
    have hb := sr_spec ok.1 ok.2.1 ok.2.2
    have hm : FSpec Tryz.prog 48 [BX (bxS P n (n - 1)), RY r] (.tup [.f (meetN (bxS P n (n - 1)) r), .f (meetF (bxS P n (n - 1)) r), bA (meetK (bxS P n (n - 1)) r)]) := rmeets _ r
    unfold sdk
    rw [e]
    have hF := fstO_ok (r 6) (soS n P r)
    generalize fstO (r 6) (soS n P r) = o at hF
    generalize meetN (bxS P n (n - 1)) r = nr at *
    generalize meetF (bxS P n (n - 1)) r = fr at *
    generalize meetK (bxS P n (n - 1)) r = mk at *
    generalize soS n P r = S at *
    cases hF with
    | none h =>
      have lead : Leads Tryz.prog (.loop (loopAt Tryz.f32 0)) (rkS r S nr fr 0) (.exit 0) (rkS r S nr fr ((2 * S.length : Nat) : Int)) := by
        refine loop_rule (fun k => rkS r S nr fr (k : Nat)) (2 * S.length) (.exit 0) _ (by simp) (fun k hk => rk_go (by omega) hk (h k hk)) ?_
        refine leads_ev (finE_sub keepRk [some 0, some 1]) rbE_ok k_nil noL_ok ((rk_end _ r S nr fr ((2 * S.length : Nat) : Int)).trans ?_)
        unfold rkC
        have e1 : w64 (2 * (S.length : Int)) = ((2 * S.length : Nat) : Int) := by rw [w64_id (by omega) (by omega)]; omega
        rw [e1, dec_self, cond_false]
      have h2 := rk_evG n P sn r 0 (bxS P n (n - 1)) S nr fr mk ((2 * S.length : Nat) : Int)
      unfold rkX at h2
      rw [gate_pos hss, gate_pos hb, gate_pos hm, gate_pos (Sub.refl _)] at h2
      refine gspec e_nil ks Tryz.func32 (by kernel_rfl) (by kernel_rfl) (lok_at (i := 8) 0 1 (by kernel_rfl) (by kernel_rfl) (toldF_sound (keep := keepRk) (τ := [some 1, some 2]) lead)) rfl (h2.trans ?_)
      cases mk <;> rfl
    | some K hK ht h =>
      have lead : Leads Tryz.prog (.loop (loopAt Tryz.f32 0)) (rkS r S nr fr 0) .ret (rkR ⟨btS (endS S K).t nr fr, (endS S K).l, (endS S K).u⟩) := by
        refine loop_rule (fun k => rkS r S nr fr (k : Nat)) K .ret _ (by simp) (fun k hk => rk_go (by omega) (by omega) (h k hk)) ?_
        refine leads_ev (finR_sub [4, 5, 6] [some 1]) rbE_ok k_nil noL_ok ((rk_ret _ r S nr fr (K : Nat)).trans ?_)
        rw [rkC_t hK (by omega)]
        unfold rkK
        rw [ht]; rfl
      have h2 := rk_evR n P sn r 0 (bxS P n (n - 1)) S nr fr mk ⟨btS (endS S K).t nr fr, (endS S K).l, (endS S K).u⟩
      unfold rkX at h2
      rw [gate_pos hss, gate_pos hb, gate_pos hm, gate_pos (Sub.refl _)] at h2
      refine gspec e_nil ks Tryz.func32 (by kernel_rfl) (by kernel_rfl) (lok_at (i := 8) 0 1 (by kernel_rfl) (by kernel_rfl) (toldF_sound (keep := keepRk) (τ := [some 1, some 2]) lead)) rfl (h2.trans ?_)
      cases mk <;> rfl
  · unfold srS' at hss
    rw [beq_false_of_ne e] at hss
    have h := rk_evG n P sn r (srE n P sn r) (fun _ => 0) [] 0 0 false 0
    unfold rkX at h
    rw [gate_pos (show FSpec Tryz.prog 29 [.agg (soC n P sn), RY r] (.tup [slL [], iA (srE n P sn r)]) from hss), beq_false_of_ne e] at h
    unfold sdk
    rw [beq_false_of_ne e]
    have lead : Leads Tryz.prog (.loop (loopAt Tryz.f32 0)) (rkS r [] 0 0 0) (.exit 0) (rkS r [] 0 0 0) := by
      refine loop_rule (fun _ => rkS r [] 0 0 0) 0 (.exit 0) _ (by simp) (fun k hk => absurd hk (Nat.not_lt_zero k)) ?_
      exact leads_ev (finE_sub keepRk [some 0, some 1]) rbE_ok k_nil noL_ok (rk_end _ r [] 0 0 0)
    exact gspec e_nil ks Tryz.func32 (by kernel_rfl) (by kernel_rfl) (lok_at (i := 8) 0 1 (by kernel_rfl) (by kernel_rfl) (toldF_sound (keep := keepRk) (τ := [some 1, some 2]) lead)) rfl h
end Go.Proofs.YtancjnambbkhmaaGreat.Hs.So

namespace Go.Proofs.YtancjnambbkhmaaGreat.Hs.So
open Go.Gv
open Go.Ev (cn fadd fsub fmul fdiv fsqrt fneg feq flt fle fgt fge fabs isNan key flt_key fgt_key feq_key)

def scS (a b : Crs) : Bool := cond (cond (sameS a.t b.t) (a.l == b.l) false) (a.u == b.u) false
theorem sc_ev (sf : Nat → Nat → Bool) (a b : Crs) : ev Tryz.prog [⟨15, eFF fun a b => bA (sf a b)⟩] [] noL Tryz.f30 [a.v, b.v] ret = some (Out.of (bA (cond (cond (sf a.t b.t) (a.l == b.l) false) (a.u == b.u) false))) := by kernel_rfl
theorem sc_spec (a b : Crs) : FSpec Tryz.prog 30 [a.v, b.v] (bA (scS a b)) := sp (e_cons (eFF_ok rsame) e_nil) Tryz.func30 (by kernel_rfl) (by kernel_rfl) rfl (sc_ev sameS a b)
def vC (p q u : Nat) : List AV := [.f p, .f q, .f u]
def lwS (n : Nat) (P : Nat → Prt) (sn : Int) (r : Nat → Nat) (c : Crs) (p q u : Nat) (S : List Spn) (i : Int) : St := mkS 156 [(4, .own 0 0), (5, .own 1 0), (6, .own 2 0), (7, .own 3 0), (13, slL S), (14, slL S), (15, iA i)] [.c (soC n P sn), .c (rC r), .c c.c, .c (vC p q u)]
def keepLw : List Nat := [4, 5, 6, 7, 13, 14, 15]
section
variable (sc : Crs → Crs → Bool) (sb : (Nat → Nat) → (Nat → Nat) → Bool) (sv : Nat → Nat → Nat → Nat → Nat → Nat → Bool) (n : Nat) (P : Nat → Prt) (sn : Int) (r : Nat → Nat) (c : Crs) (p q u : Nat) (S : List Spn) (i : Int)
def lwG (b : Bool) : Bool := (ixB i S.length || false) && ((ixB i S.length || false) && ((ixB i S.length || gF b) && ((ixB i S.length || gF b) && true)))
def lwC (o o' oe : Option Out) : Option Out := cond (decide (i < S.length)) (cond (lwG S i (!(sc (gtL S i.toNat).i (gtL S i.toNat).i))) (cond (cond (!(sc (gtL S i.toNat).i (gtL S i.toNat).i)) true (!(sc (gtL S i.toNat).o (gtL S i.toNat).o))) o' o) none) oe
def lwE : List Entry := [⟨30, eCC fun a b => bA (sc a b)⟩]
theorem lw_step : evC Tryz.prog (lwE sc) [] noL (loopAt Tryz.f5 0) (lwS n P sn r c p q u S i) (finN keepLw [some 0, some 1, some 2, some 3]) = lwC sc S i (some ⟨.normal, lwS n P sn r c p q u S (w64 (i + 1)), .any⟩) none none := by kernel_rfl
theorem lw_end : evC Tryz.prog (lwE sc) [] noL (loopAt Tryz.f5 0) (lwS n P sn r c p q u S i) (finE keepLw [some 0, some 1, some 2, some 3]) = lwC sc S i none none (some ⟨.exit 0, lwS n P sn r c p q u S i, .any⟩) := by kernel_rfl
variable (b : Nat → Nat) (e e2 : Int) (k : Sdk) (x y z : Nat) (e4 : Int)
noncomputable def lwK : List KEntry := [kS Tryz.prog 24 fun _ => .tup [BX b, iA e], kS Tryz.prog 25 fun _ => .tup [BX b, iA e], kS Tryz.prog 26 fun _ => iA e, kS Tryz.prog 27 fun _ => iA e, kS Tryz.prog 28 fun _ => .tup [slL S, iA e2], kS Tryz.prog 29 fun _ => .tup [slL S, iA e2], kS Tryz.prog 31 fun _ => k.v, kS Tryz.prog 32 fun _ => k.v, kS Tryz.prog 33 fun _ => .tup [V x y z, iA e4], kS Tryz.prog 34 fun _ => .tup [V x y z, iA e4]]
def rB (b : Bool) : Option Out := some (Out.of (bA b))
noncomputable def lwZ : Option Out := gate (FSpec Tryz.prog 33 [.agg (soC n P sn), c.v, V p q u] (.tup [V x y z, iA e4])) (gate (FSpec Tryz.prog 34 [.agg (soC n P sn), c.v, V p q u] (.tup [V x y z, iA e4])) (rB (cond (e4 == e4) (sv x y z x y z) false)))
noncomputable def lwY (o : Option Out) : Option Out := gate (FSpec Tryz.prog 31 [.agg (soC n P sn), RY r] k.v) (gate (FSpec Tryz.prog 32 [.agg (soC n P sn), RY r] k.v) (cond (cond (cond (!(k.k == k.k)) true (!(k.e == k.e))) true (!(sc k.c k.c))) (rB false) o))
noncomputable def lwX (o : Option Out) : Option Out := gate (FSpec Tryz.prog 28 [.agg (soC n P sn), RY r] (.tup [slL S, iA e2])) (gate (FSpec Tryz.prog 29 [.agg (soC n P sn), RY r] (.tup [slL S, iA e2])) (cond (cond (!(e2 == e2)) true (!((S.length : Int) == (S.length : Int)))) (rB false) (gate (Sub (lwS n P sn r c p q u S 0) (lwS n P sn r c p q u S 0)) o)))
noncomputable def lwW (o : Option Out) : Option Out := gate (FSpec Tryz.prog 24 [.agg (soC n P sn)] (.tup [BX b, iA e])) (gate (FSpec Tryz.prog 25 [.agg (soC n P sn)] (.tup [BX b, iA e])) (gate (FSpec Tryz.prog 26 [.agg (soC n P sn)] (iA e)) (gate (FSpec Tryz.prog 27 [.agg (soC n P sn)] (iA e)) (cond (cond (cond (!(e == e)) true (!(e == e))) true (!(sb (lb b) (lb b)))) (rB false) o))))
theorem lw_ev : ev Tryz.prog (⟨12, eBB fun s t => bA (sb s t)⟩ :: ⟨18, eVV fun a b c d e f => bA (sv a b c d e f)⟩ :: lwE sc) (lwK S b e e2 k x y z e4) (oneL 12 (toldF keepLw [some 0, some 1, some 2, some 3] (lwS n P sn r c p q u S 0) (.exit 0) (lwS n P sn r c p q u S S.length))) Tryz.f5 [.agg (soC n P sn), RY r, c.v, V p q u] ret =
    cond (decide ((n : Int) > 20)) (rB true) (lwW sb n P sn b e (lwX n P sn r c p q u S e2 (lwY sc n P sn r k (lwZ sv n P sn c p q u x y z e4)))) := by kernel_rfl
end
end Go.Proofs.YtancjnambbkhmaaGreat.Hs.So

namespace Go.Proofs.YtancjnambbkhmaaGreat
open Go.Gv Go.RowKit Go.ChangeShapes Go.WideShapes Go.ChangeAt

def rsl (n : Nat) (hs : Nat → Int) : AV := .sl 1 n fun i => [iA (hs i)]
theorem open_num {H : Type} {enc : TypeId × Value → H} {P : Program} {w : World} {r : Reach} {b0 : Nat} {t : TypeId} {v : Value} {d : DataW H} {p : List MemPlace} {k : IntKind} (hu : P.underlying t = some (.int k)) (hk : kds P 1 t = some [.i k]) (hv : Value.okWide P w r b0 t v)
    (h : DataW.Trod enc P w 0 (fun _ => true) true t v d p) : ∃ n, rel (Env.all w) (.x (.int k n)) v ∧ (Lit.int k n).wf = true := by
  have hone : v.cells = #[v] := by
    obtain ⟨n, rfl, _⟩ := okWide_int hu hv
    rfl
  obtain ⟨fuel, hf⟩ := h
  obtain ⟨a, h1, h2⟩ := open_arg hf hk hone
  rw [fitA] at h1
  obtain ⟨n, rfl, hw⟩ := h1
  exact ⟨n, h2, hw⟩
def numOf (el : Nat → List AV) (i : Nat) : Int := match el i with
  | [.x (.int .i64 h)] => h
  | _ => 0
theorem sl_same {E : Env} {sz n : Nat} {el el' : Nat → List AV} {v : Value} (h : rel E (.sl sz n el) v) (he : ∀ i, i < n → el' i = el i) : rel E (.sl sz n el') v := by
  have h : relA _ _ _ := h
  show relA _ _ _
  rw [relA] at h ⊢
  obtain ⟨a, c, h1, h2, h3⟩ := h
  refine ⟨a, c, h1, h2, ?_⟩
  rcases h3 with h3 | ⟨b, o, cs, e, fz, h4, h5, h6, h7⟩
  · exact Or.inl h3
  · exact Or.inr ⟨b, o, cs, e, fz, h4, h5, h6, fun i hi => by rw [he i hi]; exact h7 i hi⟩
theorem fitL_single {k : Kd} {zs : List AV} (h : fitL [k] zs) : ∃ a, zs = [a] ∧ fitA k a := by
  match zs, h with
  | [a], h => exact ⟨a, rfl, (fitL_cons.1 h).1⟩
  | [], h => have := fitL_length h; simp at this
  | _ :: _ :: _, h => have := fitL_length h; simp at this
/-- A row of whole numbers that came in: as many, each a number of 64 bits. -/
theorem open_raw {H : Type} {enc : TypeId × Value → H} {P : Program} {w : World} {r : Reach} {b0 : Nat} {t e : TypeId} {v : Value} {d : DataW H} {p : List MemPlace} (hu : P.underlying t = some (.slice e)) (hk : kds P 2 t = some [.l 1 [.i .i64]]) (hv : Value.okWide P w r b0 t v)
    (h : DataW.Trod enc P w 0 (fun _ => true) true t v d p) : ∃ n hs, rel (Env.all w) (rsl n hs) v ∧ ∀ i, i < n → (Lit.int .i64 (hs i)).wf = true := by
  have hone : v.cells = #[v] := by
    obtain ⟨a, len, cap, rfl⟩ := okWide_slice hu hv
    rfl
  obtain ⟨fuel, hf⟩ := h
  obtain ⟨a, h1, h2⟩ := open_arg hf hk hone
  rw [fitA] at h1
  obtain ⟨n, el, rfl, _, hel⟩ := h1
  have key : ∀ i, i < n → el i = [iA (numOf el i)] ∧ (Lit.int .i64 (numOf el i)).wf = true := fun i hi => by
    obtain ⟨a, ha, hf⟩ := fitL_single (hel i hi)
    rw [fitA] at hf
    obtain ⟨m, rfl, hw⟩ := hf
    have e : numOf el i = m := by unfold numOf; rw [ha]
    rw [e]
    exact ⟨ha, hw⟩
  exact ⟨n, numOf el, sl_same h2 fun i hi => (key i hi).1.symm, fun i hi => (key i hi).2⟩
end Go.Proofs.YtancjnambbkhmaaGreat

namespace Go.Proofs.YtancjnambbkhmaaGreat
open Go.Gv Go.RowKit Go.ChangeShapes Go.WideShapes Go.ChangeAt
open Go.Ev (cn law_post)

namespace Hs.So
theorem fitL_c {k : Kd} {ks : List Kd} {zs : List AV} (h : fitL (k :: ks) zs) : ∃ x l, zs = x :: l ∧ fitA k x ∧ fitL ks l := by
  match zs, h with
  | [], h => have := fitL_length h; simp at this
  | x :: l, h => exact ⟨x, l, rfl, (fitL_cons.1 h).1, (fitL_cons.1 h).2⟩
theorem fitL_e {zs : List AV} (h : fitL [] zs) : zs = [] := by
  match zs, h with
  | [], _ => rfl
  | _ :: _, h => have := fitL_length h; simp at this
theorem fitF {a : AV} (h : fitA .f a) : ∃ x, a = .f x := by
  rw [fitA] at h
  obtain ⟨n, e, _⟩ := h
  exact ⟨_, e⟩
theorem fitI' {a : AV} (h : fitA (.i .i64) a) : ∃ n, a = iA n := by
  rw [fitA] at h
  obtain ⟨n, rfl, _⟩ := h
  exact ⟨n, rfl⟩
theorem ray_arg {E : Env} {zs : List AV} {v : Value} (h : fitL [.f, .f, .f, .f, .f, .f, .f] zs) (hr : rel E (.agg zs) v) : ∃ r, rel E (RY r) v := by
  obtain ⟨x1, l, rfl, h1, h⟩ := fitL_c h
  obtain ⟨x2, l, rfl, h2, h⟩ := fitL_c h
  obtain ⟨x3, l, rfl, h3, h⟩ := fitL_c h
  obtain ⟨x4, l, rfl, h4, h⟩ := fitL_c h
  obtain ⟨x5, l, rfl, h5, h⟩ := fitL_c h
  obtain ⟨x6, l, rfl, h6, h⟩ := fitL_c h
  obtain ⟨x7, l, rfl, h7, h⟩ := fitL_c h
  obtain rfl := fitL_e h
  obtain ⟨a1, rfl⟩ := fitF h1
  obtain ⟨a2, rfl⟩ := fitF h2
  obtain ⟨a3, rfl⟩ := fitF h3
  obtain ⟨a4, rfl⟩ := fitF h4
  obtain ⟨a5, rfl⟩ := fitF h5
  obtain ⟨a6, rfl⟩ := fitF h6
  obtain ⟨a7, rfl⟩ := fitF h7
  exact ⟨ls [a1, a2, a3, a4, a5, a6, a7], hr⟩
theorem vec_arg {E : Env} {zs : List AV} {v : Value} (h : fitL [.f, .f, .f] zs) (hr : rel E (.agg zs) v) : ∃ p q u, rel E (V p q u) v := by
  obtain ⟨x1, l, rfl, h1, h⟩ := fitL_c h
  obtain ⟨x2, l, rfl, h2, h⟩ := fitL_c h
  obtain ⟨x3, l, rfl, h3, h⟩ := fitL_c h
  obtain rfl := fitL_e h
  obtain ⟨a1, rfl⟩ := fitF h1
  obtain ⟨a2, rfl⟩ := fitF h2
  obtain ⟨a3, rfl⟩ := fitF h3
  exact ⟨a1, a2, a3, hr⟩
theorem sc_self (a : Crs) : scS a a = true := by
  unfold scS
  rw [sameS_self, BEq.rfl, BEq.rfl]; rfl
theorem lwE_ok : ∀ e, e ∈ lwE scS → EOk Tryz.prog e := e_cons (eCC_ok sc_spec) e_nil
theorem lw_leads (n : Nat) (P : Nat → Prt) (sn : Int) (r : Nat → Nat) (c : Crs) (p q u : Nat) {S : List Spn} (hS : S.length ≤ 1000) : Leads Tryz.prog (.loop (loopAt Tryz.f5 0)) (lwS n P sn r c p q u S 0) (.exit 0) (lwS n P sn r c p q u S S.length) := by
  refine loop_rule (fun k => lwS n P sn r c p q u S (k : Nat)) S.length (.exit 0) _ (by simp) (fun k hk => ?_) ?_
  · refine leads_ev (finN_sub keepLw [some 0, some 1, some 2, some 3]) lwE_ok k_nil noL_ok ((lw_step scS n P sn r c p q u S (k : Nat)).trans ?_)
    unfold lwC lwG
    rw [dec_lt hk, ixB_t hk, Int.toNat_natCast, sc_self, sc_self, w64_next (by omega)]; rfl
  · refine leads_ev (finE_sub keepLw [some 0, some 1, some 2, some 3]) lwE_ok k_nil noL_ok ((lw_end scS n P sn r c p q u S (S.length : Nat)).trans ?_)
    unfold lwC
    rw [dec_self, cond_false]
theorem srS_len (n : Nat) (P : Nat → Prt) (sn : Int) (r : Nat → Nat) : (srS' n P sn r).length ≤ 16 := by
  unfold srS'
  by_cases e : srE n P sn r = 0
  · rw [e]
    have ok := so_ok (srE_ok e).1
    exact soS_len ok.1 ok.2.1 r ok.2.2
  · rw [beq_false_of_ne e]; exact Nat.zero_le _
/-- THE LAW SolidSays, of all solids, rays, crosses and points. -/
theorem solidSays_law (n : Nat) (P : Nat → Prt) (sn : Int) (r : Nat → Nat) (c : Crs) (p q u : Nat) : FSpec Tryz.prog 5 [.agg (soC n P sn), RY r, c.v, V p q u] (bA true) := by
  have hN : FSpec Tryz.prog 33 [.agg (soC n P sn), c.v, V p q u] (.tup [V (soN n P sn c.l c.u p q u).x (soN n P sn c.l c.u p q u).y (soN n P sn c.l c.u p q u).w, iA (soN n P sn c.l c.u p q u).e]) := snormal_spec n P sn c.t c.l c.u p q u
  have hR : FSpec Tryz.prog 34 [.agg (soC n P sn), c.v, V p q u] (.tup [V (soN n P sn c.l c.u p q u).x (soN n P sn c.l c.u p q u).y (soN n P sn c.l c.u p q u).w, iA (soN n P sn c.l c.u p q u).e]) := rsnormal_spec n P sn c.t c.l c.u p q u
  have hl := srS_len n P sn r
  refine gspec (e_cons (eBB_ok rsameB) <| e_cons (eVV_ok rsameV) lwE_ok) (k_cons kS_ok (k_cons kS_ok (k_cons kS_ok (k_cons kS_ok (k_cons kS_ok (k_cons kS_ok (k_cons kS_ok (k_cons kS_ok (k_cons kS_ok (k_cons kS_ok k_nil)))))))))) Tryz.func5 (by kernel_rfl) (by kernel_rfl)
    (lok_at (i := 12) 0 1 (by kernel_rfl) (by kernel_rfl) (toldF_sound (keep := keepLw) (τ := [some 0, some 1, some 2, some 3]) (lw_leads n P sn r c p q u (S := srS' n P sn r) (by omega)))) rfl ((lw_ev scS sameB sameVS n P sn r c p q u (srS' n P sn r) (soB n P sn) (soE n P sn) (srE n P sn r) (sdk n P sn r) (soN n P sn c.l c.u p q u).x (soN n P sn c.l c.u p q u).y (soN n P sn c.l c.u p q u).w (soN n P sn c.l c.u p q u).e).trans ?_)
  unfold lwW lwX lwY lwZ
  rw [gate_pos (sbounds_spec n P sn), gate_pos (rsbounds_spec n P sn), gate_pos (smay_spec n P sn), gate_pos (rsmay_spec n P sn), gate_pos (ss_spec n P sn r), gate_pos (rss_spec n P sn r), gate_pos (Sub.refl _), gate_pos (sk_spec n P sn r), gate_pos (rsk_spec n P sn r), gate_pos hN, gate_pos hR, sameB_self, sameVS_self, sc_self]
  simp only [BEq.rfl]
  cases decide ((n : Int) > 20) <;> rfl
/-! ### The arguments -/
abbrev ptKd : List Kd := [.i .i64, .i .i64, .i .i64, .i .i64, .f, .f, .f, .f, .f, .f, .f, .f, .f, .f, .f, .i .i64]
theorem part_arg {zs : List AV} (h : fitL ptKd zs) : zs = (decP zs).c := by
  obtain ⟨x0, l, rfl, h0, h⟩ := fitL_c h
  obtain ⟨x1, l, rfl, h1, h⟩ := fitL_c h
  obtain ⟨x2, l, rfl, h2, h⟩ := fitL_c h
  obtain ⟨x3, l, rfl, h3, h⟩ := fitL_c h
  obtain ⟨x4, l, rfl, h4, h⟩ := fitL_c h
  obtain ⟨x5, l, rfl, h5, h⟩ := fitL_c h
  obtain ⟨x6, l, rfl, h6, h⟩ := fitL_c h
  obtain ⟨x7, l, rfl, h7, h⟩ := fitL_c h
  obtain ⟨x8, l, rfl, h8, h⟩ := fitL_c h
  obtain ⟨x9, l, rfl, h9, h⟩ := fitL_c h
  obtain ⟨x10, l, rfl, h10, h⟩ := fitL_c h
  obtain ⟨x11, l, rfl, h11, h⟩ := fitL_c h
  obtain ⟨x12, l, rfl, h12, h⟩ := fitL_c h
  obtain ⟨x13, l, rfl, h13, h⟩ := fitL_c h
  obtain ⟨x14, l, rfl, h14, h⟩ := fitL_c h
  obtain ⟨x15, l, rfl, h15, h⟩ := fitL_c h
  obtain rfl := fitL_e h
  obtain ⟨a0, rfl⟩ := fitI' h0
  obtain ⟨a1, rfl⟩ := fitI' h1
  obtain ⟨a2, rfl⟩ := fitI' h2
  obtain ⟨a3, rfl⟩ := fitI' h3
  obtain ⟨a4, rfl⟩ := fitF h4
  obtain ⟨a5, rfl⟩ := fitF h5
  obtain ⟨a6, rfl⟩ := fitF h6
  obtain ⟨a7, rfl⟩ := fitF h7
  obtain ⟨a8, rfl⟩ := fitF h8
  obtain ⟨a9, rfl⟩ := fitF h9
  obtain ⟨a10, rfl⟩ := fitF h10
  obtain ⟨a11, rfl⟩ := fitF h11
  obtain ⟨a12, rfl⟩ := fitF h12
  obtain ⟨a13, rfl⟩ := fitF h13
  obtain ⟨a14, rfl⟩ := fitF h14
  obtain ⟨a15, rfl⟩ := fitI' h15
  rfl
theorem solid_arg {E : Env} {zs : List AV} {v : Value} (h : fitL [.l 16 ptKd, .i .i64] zs) (hr : rel E (.agg zs) v) : ∃ n P sn, rel E (.agg (soC n P sn)) v := by
  obtain ⟨x0, l, rfl, h0, h⟩ := fitL_c h
  obtain ⟨x1, l, rfl, h1, h⟩ := fitL_c h
  obtain rfl := fitL_e h
  rw [fitA] at h0
  obtain ⟨n, el, rfl, hn, hel⟩ := h0
  obtain ⟨sn, rfl⟩ := fitI' h1
  refine ⟨n, fun i => decP (el i), sn, ?_⟩
  obtain ⟨vs, e1, hr⟩ := rel_agg.1 hr
  refine rel_agg.2 ⟨vs, e1, ?_⟩
  obtain ⟨u, us, e2, r1, hr⟩ := rels_cons.1 hr
  exact rels_cons.2 ⟨u, us, e2, sl_congr (fun i hi => part_arg (hel i hi)) r1, hr⟩
theorem cross_arg {E : Env} {zs : List AV} {v : Value} (h : fitL [.f, .i .i64, .b] zs) (hr : rel E (.agg zs) v) : ∃ c : Crs, rel E c.v v := by
  obtain ⟨x0, l, rfl, h0, h⟩ := fitL_c h
  obtain ⟨x1, l, rfl, h1, h⟩ := fitL_c h
  obtain ⟨x2, l, rfl, h2, h⟩ := fitL_c h
  obtain rfl := fitL_e h
  obtain ⟨a0, rfl⟩ := fitF h0
  obtain ⟨a1, rfl⟩ := fitI' h1
  rw [fitA] at h2
  obtain ⟨a2, rfl⟩ := h2
  exact ⟨⟨a0, a1, a2⟩, hr⟩
end Hs.So
set_option maxRecDepth 100000 in
theorem solidSays_lifted (os : Os) (started : os.Started) (H : Type) (enc : TypeId × Value → H) :
    ReturnsInHanded {} Tryz.checked os 5 .any (Rows.solidSaysSpec.pre6 enc Tryz.prog Tryz.f5 Rows.solidSaysRow.domain false) (Rows.solidSaysSpec.post enc Tryz.prog Tryz.f5 false true false false) := by
  refine returnsInHanded_of_change (C := Tryz.checked) Tryz.own started (by kernel_rfl) Tryz.func5
    (ChangeSpec.witness6 (enc := enc) (C := Tryz.checked) false ⟨#[], #[.agg #[.slice none 0 0, .int .i64 0], .agg #[.float .f64 0, .float .f64 0, .float .f64 0, .float .f64 0, .float .f64 0, .float .f64 0, .float .f64 0], .agg #[.float .f64 0, .int .i64 0, .bool false], .agg #[.float .f64 0, .float .f64 0, .float .f64 0]], []⟩ 8 (by kernel_rfl) (by kernel_rfl) (by kernel_rfl) (by kernel_rfl)) ?_
  intro W base args ds gs before hval0 hW hcnd _
  have hval : ∀ (j : Nat) t v, Tryz.f5.params[j]? = some t → args[j]? = some v → Value.okWide Tryz.prog W .any base t v := hval0
  have hW' := hW
  obtain ⟨p, q, hA0, hV, rfl, hfz, hnd⟩ := hW
  have hA : DataW.TrodAll enc Tryz.prog W 0 (fun _ => true) true Tryz.f5.params.toList args.toList ds p := hA0
  rw [Tryz.params5] at hA hval
  obtain ⟨v0, t0, d0, s0, p0, q0, hargs, rfl, rfl, h0, hA⟩ := trodAll_cons hA
  obtain ⟨v1, t1, d1, s1, p1, q1, rfl, rfl, rfl, h1, hA⟩ := trodAll_cons hA
  obtain ⟨v2, t2, d2, s2, p2, q2, rfl, rfl, rfl, h2, hA⟩ := trodAll_cons hA
  obtain ⟨v3, t3, d3, s3, p3, q3, rfl, rfl, rfl, h3, hA⟩ := trodAll_cons hA
  obtain ⟨rfl, rfl, rfl⟩ := trodAll_nil hA
  obtain rfl : args = #[v0, v1, v2, v3] := by rw [← Array.toList_inj, hargs]
  obtain ⟨rfl, rfl⟩ := trodVars_none hV
  obtain ⟨z0, k0, y0⟩ := open_agg (n := 8) (ks := [.l 16 Hs.So.ptKd, .i .i64]) Tryz.underlying52 rfl (by kernel_rfl) (hval 0 52 v0 rfl rfl) h0
  obtain ⟨n, P, sn, r0⟩ := Hs.So.solid_arg k0 y0
  obtain ⟨z1, k1, y1⟩ := open_agg (n := 6) (ks := [.f, .f, .f, .f, .f, .f, .f]) Tryz.underlying28 rfl (by kernel_rfl) (hval 1 28 v1 rfl rfl) h1
  obtain ⟨r, r1⟩ := Hs.So.ray_arg k1 y1
  obtain ⟨z2, k2, y2⟩ := open_agg (n := 6) (ks := [.f, .i .i64, .b]) Tryz.underlying54 rfl (by kernel_rfl) (hval 2 54 v2 rfl rfl) h2
  obtain ⟨c, r2⟩ := Hs.So.cross_arg k2 y2
  obtain ⟨z3, k3, y3⟩ := open_agg (n := 6) (ks := [.f, .f, .f]) Tryz.underlying24 rfl (by kernel_rfl) (hval 3 24 v3 rfl rfl) h3
  obtain ⟨x, y, w, r3⟩ := Hs.So.vec_arg k3 y3
  refine ((Hs.So.solidSays_law n P sn r c x y w).2 (fun _ => False) W #[v0, v1, v2, v3] (fun _ h => h.elim) (rels_cons.2 ⟨v0, _, rfl, r0, rels_cons.2 ⟨v1, _, rfl, r1, rels_cons.2 ⟨v2, _, rfl, r2, rels_cons.2 ⟨v3, _, rfl, r3, rels_nil.2 rfl⟩⟩⟩⟩) (glob_none fun _ => rfl)).mono ?_
  rintro e' W' ⟨v, rfl, hv, hb⟩
  have hvt : v = .bool true := rel_x.1 hv
  subst hvt
  exact ⟨_, rfl, law_post Tryz.laidOut (by kernel_rfl) rfl (by kernel_rfl) Tryz.underlying4 rfl hW' hb⟩

/-- THE STATEMENT. -/
theorem solidSays_holds : Rows.SolidSaysSaid :=
  OpenClaim.holds_of_wide 5 Tryz.f5 rfl rfl rfl rfl rfl rfl rfl ⟨rfl, rfl, rfl, rfl, rfl⟩ rfl rfl rfl rfl rfl (by kernel_rfl) Tryz.func5 (by kernel_rfl)
    (of_decide_eq_true (by kernel_rfl)) (by unfold Func.isWrapper; first | (rw [if_pos (by decide +kernel)]; kernel_rfl) | (rw [if_neg (by decide +kernel)]; exact ⟨rfl, rfl⟩))
    (fun os started H enc _ => solidSays_lifted os started H enc)
#print axioms solidSays_holds
end Go.Proofs.YtancjnambbkhmaaGreat

namespace Go.Proofs.YtancjnambbkhmaaGreat.Hs.So
open Go.Gv
open Go.Ev (cn fadd fsub fmul fdiv fsqrt fneg feq flt fle fgt fge fabs)

section
variable (n : Nat) (hs : Nat → Int) (pf : Int → Int → Int) (tf : Int → Nat) (rf : Int → Int) (vf : Int → Int → Nat → Nat)
def rzO (x y z : Nat) : Option Out := some (Out.of (.agg [.f (vf 40 6000 0), .f (vf 40 6000 1), .f (vf 40 6000 2), .f x, .f y, .f z, .f (tf (pf (rf 46) 3))]))
def rzN (x y z : Nat) : Option Out := cond (noughtB x y z) (rzO pf tf rf vf x y one) (rzO pf tf rf vf x y z)
def rzY (x : Nat) : Option Out := cond (pf (rf 48) 4 == 0) (rzN pf tf rf vf x 0 (vf 43 1500 2)) (rzN pf tf rf vf x (vf 43 1500 1) (vf 43 1500 2))
noncomputable def rzX : Option Out := gV n hs vf 40 6000 (gV n hs vf 43 1500 (gR n hs rf 46 (gR n hs rf 47 (cond (pf (rf 47) 3 == 0) (gR n hs rf 48 (rzY pf tf rf vf 0)) (gR n hs rf 48 (rzY pf tf rf vf (vf 43 1500 0)))))))
theorem rz_ev : ev Tryz.prog (M0 pf tf) [rwK rf, vcK vf] noL Tryz.f22 [sI n hs, iA 40] ret = rzX n hs pf tf rf vf := by kernel_rfl
end
theorem mray40 (n : Nat) (hs : Nat → Int) : ∃ r, FSpec Tryz.prog 22 [sI n hs, iA 40] (RY r) := by
  have h := rz_ev n hs mpk mth (mrw n hs) (mve n hs)
  have go : ∃ x y z, rzX n hs mpk mth (mrw n hs) (mve n hs) = rzO mpk mth (mrw n hs) (mve n hs) x y z := by
    unfold rzX
    rw [gV_pos (by decide) (by decide) (Or.inr (Or.inr (Or.inl rfl))), gV_pos (by decide) (by decide) (Or.inr (Or.inr (Or.inr (Or.inl rfl)))), gR_pos (by decide), gR_pos (by decide), gR_pos (by decide), gR_pos (by decide)]
    have ex : ∀ x y z, ∃ z', rzN mpk mth (mrw n hs) (mve n hs) x y z = rzO mpk mth (mrw n hs) (mve n hs) x y z' := fun x y z => by
      unfold rzN
      cases noughtB x y z
      · exact ⟨_, rfl⟩
      · exact ⟨_, rfl⟩
    unfold rzY
    cases mpk (mrw n hs 47) 3 == 0 <;> cases mpk (mrw n hs 48) 4 == 0 <;> simp only [cond_true, cond_false]
    all_goals
      obtain ⟨z', e⟩ := ex _ _ _
      exact ⟨_, _, z', e⟩
  obtain ⟨x, y, z, e⟩ := go
  exact ⟨ls [mve n hs 40 6000 0, mve n hs 40 6000 1, mve n hs 40 6000 2, x, y, z, mth (mpk (mrw n hs 46) 3)], gspec M0_ok (k_cons kS_ok (k_cons kS_ok k_nil)) Tryz.func22 (by kernel_rfl) (by kernel_rfl) noL_ok rfl (h.trans e)⟩
theorem mil2000_ev (pf : Int → Int → Int) (tf : Int → Nat) (c : Int) : ev Tryz.prog (M0 pf tf) [] noL Tryz.f68 [iA c, iA 2000] ret = some (Out.of (.f (mmi pf tf c 2000))) := by kernel_rfl
theorem milli2000 (c : Int) : FSpec Tryz.prog 68 [iA c, iA 2000] (.f (mmi mpk mth c 2000)) := sp M0_ok Tryz.func68 (by kernel_rfl) (by kernel_rfl) rfl (mil2000_ev mpk mth c)
theorem gMi2000 {c : Int} {o : Option Out} : gMi (mmi mpk mth) c 2000 o = o := gate_pos (milli2000 c)
theorem mvec2000 (n : Nat) (hs : Nat → Int) : ∃ p q u, FSpec Tryz.prog 23 [sI n hs, iA 3, iA 2000] (V p q u) := by
  have e : ∃ p q u, veX n hs (mrw n hs) (mmi mpk mth) 3 2000 = some (Out.of (V p q u)) := by
    unfold veX
    rw [gR_pos (by decide), gMi2000, gR_pos (by decide), gMi2000, gR_pos (by decide), gMi2000]
    exact ⟨_, _, _, rfl⟩
  obtain ⟨p, q, u, e⟩ := e
  exact ⟨p, q, u, gspec R4_ok (k_cons kS_ok (k_cons kS_ok k_nil)) Tryz.func23 (by kernel_rfl) (by kernel_rfl) noL_ok rfl ((ve_ev n hs (mrw n hs) (mmi mpk mth) 3 2000).trans e)⟩
section
variable (n : Nat) (hs : Nat → Int) (leaf : Int) (m : Nat) (PL : Nat → Prt) (sk l : Int) (r : Nat → Nat) (p q u : Nat)
noncomputable def mxK : List KEntry := [kS Tryz.prog 35 fun _ => .agg (soC m PL sk), kS Tryz.prog 36 fun _ => iA l, kS Tryz.prog 22 fun _ => RY r, kS Tryz.prog 23 fun _ => V p q u, kS Tryz.prog 5 fun _ => bA true]
def mxC : Crs := ⟨0, l, leaf.tmod 2 == 0⟩
noncomputable def mxX : Option Out := cond (decide ((n : Int) > 256)) (some (Out.of (bA true))) (gate (FSpec Tryz.prog 35 [sI n hs, iA 0, iA 3] (.agg (soC m PL sk))) (gate (FSpec Tryz.prog 36 [iA leaf, iA (m : Nat)] (iA l)) (gate (FSpec Tryz.prog 22 [sI n hs, iA 40] (RY r)) (gate (FSpec Tryz.prog 23 [sI n hs, iA 3, iA 2000] (V p q u))
  (gate (FSpec Tryz.prog 5 [.agg (soC m PL sk), RY r, (mxC leaf l).v, V p q u] (bA true)) (some (Out.of (bA true))))))))
theorem mx_ev : ev Tryz.prog [] (mxK m PL sk l r p q u) noL Tryz.f6 [sI n hs, iA leaf] ret = mxX n hs leaf m PL sk l r p q u := by kernel_rfl
end
theorem solidMade_law {n : Nat} {hs : Nat → Int} (h : Rng n hs) (leaf : Int) : FSpec Tryz.prog 6 [sI n hs, iA leaf] (bA true) := by
  by_cases hn : n ≤ 256
  · obtain ⟨m, PL, sk, m1, _, h1⟩ := solidOf_spec h hn
    obtain ⟨r, h2⟩ := mray40 n hs
    obtain ⟨p, q, u, h3⟩ := mvec2000 n hs
    have h4 : FSpec Tryz.prog 36 [iA leaf, iA (m : Nat)] (iA (mpk leaf (m : Nat))) := mpick (by
      have : ((m : Nat) : Int) ≠ 0 := by omega
      rw [beq_false_of_ne this]; rfl)
    refine gspec e_nil (k_cons kS_ok (k_cons kS_ok (k_cons kS_ok (k_cons kS_ok (k_cons kS_ok k_nil))))) Tryz.func6 (by kernel_rfl) (by kernel_rfl) noL_ok rfl ((mx_ev n hs leaf m PL sk (mpk leaf (m : Nat)) r p q u).trans ?_)
    unfold mxX
    rw [decide_eq_false (show ¬ ((n : Int) > 256) by omega), cond_false, gate_pos h1, gate_pos h4, gate_pos h2, gate_pos h3, gate_pos (solidSays_law m PL sk r _ p q u)]
  · refine gspec e_nil (k_cons kS_ok (k_cons kS_ok (k_cons kS_ok (k_cons kS_ok (k_cons kS_ok k_nil))))) Tryz.func6 (by kernel_rfl) (by kernel_rfl) noL_ok rfl ((mx_ev n hs leaf 0 (fun _ => ⟨0, 0, 0, 0, fun _ => 0, 0⟩) 0 0 (fun _ => 0) 0 0 0).trans ?_)
    unfold mxX
    rw [decide_eq_true (show ((n : Int) > 256) by omega), cond_true]
theorem wf64 {n : Int} (h : (Lit.int .i64 n).wf = true) : -9223372036854775808 ≤ n ∧ n ≤ 9223372036854775807 := by
  have h1 : IntKind.i64.min ≤ n ∧ n ≤ IntKind.i64.max := by simpa [Lit.wf] using h
  rw [show IntKind.i64.min = -9223372036854775808 by decide, show IntKind.i64.max = 9223372036854775807 by decide] at h1
  exact h1
end Go.Proofs.YtancjnambbkhmaaGreat.Hs.So
