/-
  Package field: the contracts of its functions, plainly: numbers that may be, the box around points.
-/
import Derived.Test.YtiagpcjonaahlaaGreatGm
import Derived.Test.YtiagpcjonaahlaaGreatGe
import Derived.Test.YtiagpcjonaahlaaGreatRefT
namespace Go.Proofs.YtiagpcjonaahlaaGreat
open Go.Gv
open Go.Ev (cn fadd fsub fmul fdiv feq flt fle fgt fge)

theorem leads_ev {l : List Entry} {ks : List KEntry} {L : Nat → Option LFun} {c : Code} {s s' : St} {e : Exit} {k : Kont} (hk : KSub k) (hl : ∀ e, e ∈ l → EOk Tryz.prog e) (hks : ∀ e, e ∈ ks → KOk Tryz.prog e) (hL : LOk Tryz.prog L c) (h : evC Tryz.prog l ks L c s k = some ⟨e, s', .any⟩) : Leads Tryz.prog c s e s' :=
  leads_ofK hk (tab_ok hl hks) (drawnK_ok (tab_ok hl hks) (by kernel_rfl)) hL h
def w64 (n : Int) : Int := IntKind.i64.wrap n
theorem w64_id {n : Int} (h0 : -9223372036854775808 ≤ n) (h1 : n ≤ 9223372036854775807) : w64 n = n := by unfold w64; rw [IntKind.wrap_i64]; omega
def itof (n : Int) : Nat := cn (FloatKind.f64.nearest n)

/-! ### Entries out of what is known -/
def gT : AV → Option ((Nat → Nat) × Int)
  | .agg [.x (.int .i64 k), .f a0, .f a1, .f a2, .f a3, .f a4, .f a5, .f a6, .f a7, .f a8, .f a9, .f a10, .x (.int .i64 sk)] => cond (k == 3) (some (ls [a0, a1, a2, a3, a4, a5, a6, a7, a8, a9, a10], sk)) none
  | _ => none
theorem gT_some {x : AV} {a : (Nat → Nat) × Int} (h : gT x = some a) : x = partA (SH 3 a.1 a.2) := by
  unfold gT at h; split at h
  · rename_i k _ _ _ _ _ _ _ _ _ _ _ _
    cases hk : k == 3
    · rw [hk] at h; cases h
    · rw [hk] at h
      have := eq_of_beq hk
      subst this
      cases h; rfl
  · cases h
def gJ (a b : Nat → Nat) : Value := BX (joinS a b)
def gM (b : Nat → Nat) : Value := Ev.I (mayS b)
def gR (r : Nat → Nat) : Value := Ev.I (rayS r)
def gN (x : Nat) : Value := Ev.B (nearS x)
def gFi (v : Nat → Nat) : Value := Ev.B (fineS (v 0) (v 1) (v 2))
def gS (s : (Nat → Nat) × Int) (r : Nat → Nat) : Value := triV s.2 s.1 r
/-- What the functions of the packages beneath give. -/
def D1 : List Entry := ⟨56, g1 gF gN⟩ :: ⟨55, g1 gV gFi⟩ :: ⟨57, g2 gB gB gJ⟩ :: ⟨39, g1 gB gM⟩ :: ⟨45, g1 gY gR⟩ :: ⟨27, g2 gB gY meetV⟩ :: ⟨47, g2 gT gY gS⟩ :: []
theorem D1_ok : ∀ e, e ∈ D1 → EOk Tryz.prog e :=
  letI := noTok
  e_cons (g1_ok gF_some (fun _ => rfl) (fun _ => rfl) fun a => vnear a) <| e_cons (g1_ok gV_some (fun _ => rfl) (fun _ => rfl) fun a => vfine (a 0) (a 1) (a 2)) <| e_cons (g2_ok gB_some gB_some (fun _ => rfl) (fun _ => rfl) (fun _ _ => rfl) fun a b => sjoin a b) <|
  e_cons (g1_ok gB_some (fun _ => rfl) (fun _ => rfl) fun a => smay a) <| e_cons (g1_ok gY_some (fun _ => rfl) (fun _ => rfl) fun a => sfine a) <| e_cons (g2_ok gB_some gY_some (fun _ => rfl) (fun _ => rfl) (fun _ _ => rfl) fun a b => smeets a b) <|
  e_cons (g2_ok gT_some gY_some (fun _ => rfl) (fun _ => rfl) (fun _ _ => rfl) fun a b => strike3 a.2 a.1 b) e_nil

/-! ### The box around points -/
def c3 (p : Nat → Nat) : List AV := [.f (p 0), .f (p 1), .f (p 2)]
def c6 (b : Nat → Nat) : List AV := [.f (b 0), .f (b 1), .f (b 2), .f (b 3), .f (b 4), .f (b 5)]
def pp (p : Nat → Nat) : Nat → Nat := ls [p 0, p 1, p 2, p 0, p 1, p 2]
def boxQ (p : Nat → Nat → Nat) : Nat → Nat → Nat
  | 0 => pp (p 0)
  | q + 1 => joinS (boxQ p q) (pp (p q))
def z6 : List AV := [.f 0, .f 0, .f 0, .f 0, .f 0, .f 0]
def aroundS (n : Nat) (p : Nat → Nat → Nat) (q : Int) (b : Nat → Nat) : St := mkS 26 [(2, .own 0 0), (3, .own 1 0), (13, .sl 3 n fun q => c3 (p q)), (14, iA n), (15, iA q)] [.c z6, .c (c6 b)]
def keepA : List Nat := [2, 3, 13, 14, 15]
theorem around_step (n : Nat) (p : Nat → Nat → Nat) (q : Int) (b : Nat → Nat) : evC Tryz.prog D1 [] noL (loopAt Tryz.f38 0) (aroundS n p q b) (finN keepA [some 0, some 1]) =
    cond (decide (q < (n : Int))) (cond ((decide (0 ≤ q) && decide (q < (n : Int))) && true) (some ⟨.normal, aroundS n p (w64 (q + 1)) (joinS b (pp (p q.toNat))), .any⟩) none) none := by kernel_rfl
theorem around_end (n : Nat) (p : Nat → Nat → Nat) (q : Int) (b : Nat → Nat) : evC Tryz.prog D1 [] noL (loopAt Tryz.f38 0) (aroundS n p q b) (finX keepA [some 0, some 1]) =
    cond (decide (q < (n : Int))) (cond ((decide (0 ≤ q) && decide (q < (n : Int))) && true) none none) (some ⟨.exit 0, aroundS n p q b, .any⟩) := by kernel_rfl
theorem dec_nonneg (n : Nat) : decide (0 ≤ (n : Int)) = true := decide_eq_true (Int.natCast_nonneg _)
theorem dec_lt {a b : Nat} (h : a < b) : decide ((a : Int) < (b : Int)) = true := decide_eq_true (by omega)
theorem dec_self (a : Nat) : decide ((a : Int) < (a : Int)) = false := decide_eq_false (by omega)
theorem w64_next {n : Nat} (h : n < 4611686018427387904) : w64 ((n : Int) + 1) = ((n + 1 : Nat) : Int) := by rw [w64_id (by omega) (by omega)]; omega
theorem around_leads (n : Nat) (p : Nat → Nat → Nat) (hn : n < 4611686018427387904) : Leads Tryz.prog (.loop (loopAt Tryz.f38 0)) (aroundS n p 0 (boxQ p 0)) (.exit 0) (aroundS n p n (boxQ p n)) := by
  refine loop_rule (fun q => aroundS n p (q : Nat) (boxQ p q)) n (.exit 0) _ (by simp) (fun q hq => ?_) ?_
  · refine leads_ev (finN_sub keepA [some 0, some 1]) D1_ok k_nil noL_ok ?_
    rw [around_step, dec_lt hq, dec_nonneg, w64_next (by omega)]
    rfl
  · refine leads_ev (finX_sub keepA [some 0, some 1]) D1_ok k_nil noL_ok ?_
    rw [around_end, dec_self]
    rfl
noncomputable def aroundL (n : Nat) (p : Nat → Nat → Nat) : Nat → Option LFun := oneL 3 (toldF keepA [some 0, some 1] (aroundS n p 0 (boxQ p 0)) (.exit 0) (aroundS n p n (boxQ p n)))
theorem aroundL_ok (n : Nat) (p : Nat → Nat → Nat) (hn : n < 4611686018427387904) : LOk Tryz.prog (aroundL n p) (bodyOf Tryz.f38) :=
  lok_one (i := 3) 1 (by kernel_rfl) fun j hj _ => by
    have : j = 0 := by omega
    subst this
    exact toldF_sound (around_leads n p hn)
theorem around_ev (n : Nat) (p : Nat → Nat → Nat) : ev Tryz.prog D1 [] (aroundL n p) Tryz.f38 [.sl 3 n fun q => c3 (p q)] ret =
    cond ((decide ((0 : Int) < (n : Int)) || false) && ((decide ((0 : Int) < (n : Int)) || false) && true)) (gate (Sub (aroundS n p 0 (boxQ p 0)) (aroundS n p 0 (boxQ p 0))) (some (Out.of (.agg (c6 (boxQ p n)))))) none := by kernel_rfl
theorem gspec {l : List Entry} {ks : List KEntry} {L : Nat → Option LFun} (hl : ∀ e, e ∈ l → EOk Tryz.prog e) (hks : ∀ e, e ∈ ks → KOk Tryz.prog e) {f : Nat} {fn : Func} (hf : Tryz.prog.funcs[f]? = some fn) (hnm : (fn.name == "runtime.NumGoroutine") = false) (hb : fn.body = some (bodyOf fn)) (hL : LOk Tryz.prog L (bodyOf fn))
    {args : List AV} (hlen : Nat.ble args.length fn.ntmps = true) {r : AV} (h : ev Tryz.prog l ks L fn args ret = some (Out.of r)) : FSpec Tryz.prog f args r := spec_of_ev hl hks (by kernel_rfl) hf hnm hb hL hlen h
theorem around_spec {n : Nat} (p : Nat → Nat → Nat) (h0 : 0 < n) (hn : n < 4611686018427387904) : FSpec Tryz.prog 38 [.sl 3 n fun q => c3 (p q)] (.agg (c6 (boxQ p n))) := by
  refine gspec D1_ok k_nil Tryz.func38 (by kernel_rfl) (by kernel_rfl) (aroundL_ok n p hn) rfl ?_
  rw [around_ev, decide_eq_true (show (0 : Int) < (n : Int) by omega), gate_pos (Sub.refl _)]
  rfl

/-! ### A field's numbers -/
structure Fd where
  W : Int
  H : Int
  at_ : Nat → Nat
  sd : Nat
  n : Nat
  hs : Nat → Int
  sk : Int
def Fd.c (F : Fd) : List AV := [iA F.W, iA F.H, .f (F.at_ 0), .f (F.at_ 1), .f (F.at_ 2), .f F.sd, .sl 1 F.n (fun i => [iA (F.hs i)]), iA F.sk]
def mayLS (F : Fd) (r q : Int) : St := mkS 68 [(1, .own 0 0), (2, iA r), (55, .sl 1 F.n (fun i => [iA (F.hs i)])), (56, iA F.n), (57, iA q)] [.c F.c]
def keepM : List Nat := [1, 2, 55, 56, 57]
end Go.Proofs.YtiagpcjonaahlaaGreat
