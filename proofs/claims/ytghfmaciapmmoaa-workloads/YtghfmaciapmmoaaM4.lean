/-
  Wc7 Fnd Wc8 Wc9 Fcd Wca Wcb Arg0 Ar1, one behind the other.
-/
import Derived.Test.YtghfmaciapmmoaaM3
import Derived.Test.YtghfmaciapmmoaaM1
import Derived.Test.YtghfmaciapmmoaaM2
import Derived.Test.YtghfmaciapmmoaaGi
namespace Go.Proofs.Ytghfmaciapmmoaa
open Go.Gv

abbrev NFu : Type := Int → Int → Nat
def nwU (nN nM : NFu) : List AV → AV
  | [.x (.int .i64 w), .x (.int .i64 h)] => .tup [.agg [iA w, iA h, .osl 0 1 0 (nN w h), .osl 1 1 0 (nM w h)], iA 0]
  | _ => .any
def nwT (nN nM : NFu) : List AV → List Row
  | [.x (.int .i64 w), .x (.int .i64 h)] => [.a 3 1 (nN w h) (fun _ => [iA 0]), .a 3 1 (nM w h) (fun _ => [iA 0])]
  | _ => []
abbrev NUok (nN nM : NFu) (w h : Int) : Prop := GSpec Try.prog 26 [iA w, iA h] [] (nwU nN nM [iA w, iA h]) (nwT nN nM [iA w, iA h])
/-- What bytes begin with. -/
def mkL (i : Nat) : List AV := chunk [yA 82, yA 72, yA 70, yA 49] 1 (0 + i)
abbrev HPok (hf : EF4) (n : Nat) (g : Nat → Int) : Prop := FSpec Try.prog 25 [sB n g, .sl 1 4 mkL] (bA (hf n (fun i => [yA (g i)]) 4 mkL))
def gW (g : Nat → Int) : Int := w64 (g 4)
def gH (g : Nat → Int) : Int := w64 (g 5)
def g45 (n : Nat) (b : Bool) : Bool := (ixB 4 n || false) && ((ixB 5 n || false) && ((b || false) && true))
def lnF (n m : Nat) : Bool := (Nat.ble (0 + n) n && (Nat.ble (0 + m) m && true)) && true
def wnF (n m : Nat) : Bool := (Nat.blt 0 (0 + n) && (Nat.blt 0 (0 + m) && true)) && true
def bkC (W H : Int) (n m : Nat) : List AV := [iA W, iA H, .sl 1 n fun _ => [iA 0], .sl 1 m fun _ => [iA 0]]
abbrev SBb (bf : Nat → Nat → Int) (W H : Int) (n m : Nat) : Prop := FSpec Try.prog 12 [.agg (bkC W H n m)] (iA (bf n m))
noncomputable def bkX (hf : EF4) (n : Nat) (g : Nat → Int) (bad : Int → Option Out) (R : Option Out) : Option Out := cond (decide ((n : Int) < 6)) (bad 8) (gate (HPok hf n g) (cond (!(hf n (fun i => [yA (g i)]) 4 mkL)) (bad 11) R))
noncomputable def bkR (bf : Nat → Nat → Int) (nN nM : NFu) (n : Nat) (g : Nat → Int) (bad : Int → Option Out) (good : Option Out) : Option Out :=
  cond (g45 n (propB (NUok nN nM (gW g) (gH g)))) (cond (lnF (nN (gW g) (gH g)) (nM (gW g) (gH g))) (gate (SBb bf (gW g) (gH g) (nN (gW g) (gH g)) (nM (gW g) (gH g)))
    (cond (decide ((n : Int) < bf (nN (gW g) (gH g)) (nM (gW g) (gH g)))) (bad 8) (cond (lnF (nN (gW g) (gH g)) (nM (gW g) (gH g))) (gate (SBb bf (gW g) (gH g) (nN (gW g) (gH g)) (nM (gW g) (gH g)))
      (cond (decide ((n : Int) > bf (nN (gW g) (gH g)) (nM (gW g) (gH g)))) (bad 5) good)) none))) none) none
def bkG (nN nM : NFu) (g : Nat → Int) : Option Out := gout (.tup [.agg [iA (gW g), iA (gH g), .osl 0 1 0 (nN (gW g) (gH g)), .osl 1 1 0 (nM (gW g) (gH g))], iA 0]) [.a 3 1 (nN (gW g) (gH g)) (fun _ => [iA 0]), .a 3 1 (nM (gW g) (gH g)) (fun _ => [iA 0])]
section
variable (hf : EF4) (bf : Nat → Nat → Int) (nN nM : NFu) (n : Nat) (g : Nat → Int)
def bkB (nN nM : NFu) (g : Nat → Int) (e : Int) : Option Out := gout (.tup [.agg flmZ, iA e]) [.a 3 1 (nN (gW g) (gH g)) (fun _ => [iA 0]), .a 3 1 (nM (gW g) (gH g)) (fun _ => [iA 0])]
/-- All of it, with the rows that are made. -/
theorem bk_ev : evG Try.prog [] [kS Try.prog 25 (eqG hf), kS Try.prog 12 (sbtG bf)] [mR Try.prog 26 (nwU nN nM) (nwT nN nM)] noL Try.f18 [sB n g] [] [some 2, some 3] =
    bkX hf n g (fun _ => none) (bkR bf nN nM n g (bkB nN nM g) (bkG nN nM g)) := by kernel_rfl
/-- What ends ahead of the rows. -/
theorem bk_ev0 : evG Try.prog [] [kS Try.prog 25 (eqG hf), ⟨26, fun _ _ => none⟩] [] noL Try.f18 [sB n g] [] [] =
    bkX hf n g (fun e => gout (.tup [.agg flmZ, iA e]) []) none := by kernel_rfl
/-- Sides that may not be. -/
theorem bk_ev4 (e : Int) : evG Try.prog [] [kS Try.prog 25 (eqG hf), kS Try.prog 26 (fun _ => .tup [.agg flmZ, iA e]), ⟨12, fun _ _ => none⟩] [] noL Try.f18 [sB n g] [] [] =
    bkX hf n g (fun e => gout (.tup [.agg flmZ, iA e]) []) (gate (FSpec Try.prog 26 [iA (gW g), iA (gH g)] (.tup [.agg flmZ, iA e])) (cond ((ixB 4 n || false) && ((ixB 5 n || false) && true)) (cond (!(e == 0)) (gout (.tup [.agg flmZ, iA e]) []) none) none)) := by kernel_rfl
end
end Go.Proofs.Ytghfmaciapmmoaa

namespace Go.Proofs.Ytghfmaciapmmoaa
open Go.Gv

/-! ### A new film -/
noncomputable def newE (w h : Int) : Int := cond (fbad w h) 4 0
def newG (w h : Int) : Flm := ⟨w, h, (w64 (w64 (3 * w) * h)).toNat, fun _ => 0, (w64 (w * h)).toNat, fun _ => 0⟩
def newF (w h : Int) : Flm := if fbad w h = true then zF else newG w h
end Go.Proofs.Ytghfmaciapmmoaa

namespace Go.Proofs.Ytghfmaciapmmoaa
open Go.Gv

theorem hp_mk {n : Nat} {g : Nat → Int} (hn : 6 ≤ n) (hg : ∀ i, i < n → 0 ≤ g i ∧ g i ≤ 255) : HPok (fun _ _ _ _ => !mg3 g) n g := by
  have h0 : FSpec Try.prog 25 [sB n g, .sl 1 4 mkL] (bA (eqI 4 g 4 fun i => u8Of' (mkL i))) := by
    refine FSpec.of_args (hp_spec (n := n) (m := 4) (by omega) g fun i => u8Of' (mkL i)) fun E vs h => ?_
    obtain ⟨u0, t0, e0, r0, h⟩ := rels_cons.1 h
    obtain ⟨u1, t1, e1, r1, h⟩ := rels_cons.1 h
    refine rels_cons.2 ⟨u0, t0, e0, r0, rels_cons.2 ⟨u1, t1, e1, sl_like r1 fun i hi => ?_, h⟩⟩
    match i, hi with
    | 0, _ => rfl
    | 1, _ => rfl
    | 2, _ => rfl
    | 3, _ => rfl
  have hb : ∀ i, i < 4 → 0 ≤ u8Of' (mkL i) ∧ u8Of' (mkL i) ≤ 255 := fun i hi => by
    match i, hi with
    | 0, _ => exact ⟨show (0 : Int) ≤ 82 by decide, show (82 : Int) ≤ 255 by decide⟩
    | 1, _ => exact ⟨show (0 : Int) ≤ 72 by decide, show (72 : Int) ≤ 255 by decide⟩
    | 2, _ => exact ⟨show (0 : Int) ≤ 70 by decide, show (70 : Int) ≤ 255 by decide⟩
    | 3, _ => exact ⟨show (0 : Int) ≤ 49 by decide, show (49 : Int) ≤ 255 by decide⟩
  have e : eqI 4 g 4 (fun i => u8Of' (mkL i)) = !mg3 g := by
    have hg4 : ∀ i, i < 4 → 0 ≤ g i ∧ g i ≤ 255 := fun i hi => hg i (by omega)
    by_cases h0 : g 0 = 82
    · by_cases h1 : g 1 = 72
      · by_cases h2 : g 2 = 70
        · by_cases h3 : g 3 = 49
          · rw [eqI_t fun i hi => ?_]
            · unfold mg3 mg2 mg1 mg0; rw [h0, h1, h2, h3]; rfl
            · match i, hi with
              | 0, _ => exact h0
              | 1, _ => exact h1
              | 2, _ => exact h2
              | 3, _ => exact h3
          · rw [eqI_f hg4 hb (k := 3) (by omega) h3]
            unfold mg3 mg2 mg1 mg0; rw [h0, h1, h2, beq_false_of_ne h3]; rfl
        · rw [eqI_f hg4 hb (k := 2) (by omega) h2]
          unfold mg3 mg2 mg1 mg0; rw [h0, h1, beq_false_of_ne h2]; rfl
      · rw [eqI_f hg4 hb (k := 1) (by omega) h1]
        unfold mg3 mg2 mg1 mg0; rw [h0, beq_false_of_ne h1]; rfl
    · rw [eqI_f hg4 hb (k := 0) (by omega) h0]
      unfold mg3 mg2 mg1 mg0; rw [beq_false_of_ne h0]; rfl
  rw [e] at h0
  exact h0
/-- What is made ahead of all else. -/
def bkV (W H : Int) (n m : Nat) : AV := .tup [.agg [iA W, iA H, .osl 0 1 0 n, .osl 1 1 0 m], iA 0]
def bkRows (n m : Nat) : List Row := [.a 3 1 n (fun _ => [iA 0]), .a 3 1 m (fun _ => [iA 0])]
theorem plainB (n m : Nat) : PlainRows (bkRows n m) := by
  intro k e sz c el hk i hi
  match k, hk with
  | 0, hk => cases hk; rfl
  | 1, hk => cases hk; rfl
  | k + 2, hk => simp [bkRows] at hk
abbrev BBad (n : Nat) (g : Nat → Int) (e : Int) : Prop := FSpec Try.prog 18 [sB n g] (.tup [.agg flmZ, iA e])
section
variable {n : Nat} {g : Nat → Int}
theorem bbad_of {e : Int} {mem : List Row} (h : GSpec Try.prog 18 [sB n g] [] (.tup [.agg flmZ, iA e]) mem) (hp : PlainRows mem) : BBad n g e :=
  (fresh_rows h (by rfl) hp).spec rfl rfl
theorem plain0 : PlainRows [] := fun k e sz c el hk => by simp at hk
theorem bk_short (h : n < 6) : BBad n g 8 := by
  refine bbad_of (gspecG (mem := []) e_nil (k_cons (kS_ok (P := Try.prog) (f := 25) (g := eqG fun _ _ _ _ => true)) (k_cons (kno_ok _) k_nil)) m_nil Try.func18 (by kernel_rfl) (by kernel_rfl) noL_okN rfl (by kernel_rfl) ((bk_ev0 (fun _ _ _ _ => true) n g).trans ?_)) plain0
  unfold bkX
  rw [decide_eq_true (show (n : Int) < 6 by omega)]
  rfl
theorem bk_form (hn : 6 ≤ n) (hg : ∀ i, i < n → 0 ≤ g i ∧ g i ≤ 255) (hm : mg3 g = true) : BBad n g 11 := by
  refine bbad_of (gspecG (mem := []) e_nil (k_cons (kS_ok (P := Try.prog) (f := 25) (g := eqG fun _ _ _ _ => !mg3 g)) (k_cons (kno_ok _) k_nil)) m_nil Try.func18 (by kernel_rfl) (by kernel_rfl) noL_okN rfl (by kernel_rfl) ((bk_ev0 (fun _ _ _ _ => !mg3 g) n g).trans ?_)) plain0
  unfold bkX
  rw [decide_eq_false (show ¬ (n : Int) < 6 by omega), gate_pos (hp_mk hn hg), hm]
  rfl
theorem gW_eq (hn : 6 ≤ n) (hg : ∀ i, i < n → 0 ≤ g i ∧ g i ≤ 255) : gW g = g 4 ∧ gH g = g 5 := by
  obtain ⟨a, b⟩ := hg 4 (by omega)
  obtain ⟨c, d⟩ := hg 5 (by omega)
  exact ⟨w64_id (by omega) (by omega), w64_id (by omega) (by omega)⟩
theorem ix45 (hn : 6 ≤ n) : ixB 4 n = true ∧ ixB 5 n = true := ⟨ixB_t (i := 4) (by omega), ixB_t (i := 5) (by omega)⟩
theorem bk_sides (hn : 6 ≤ n) (hg : ∀ i, i < n → 0 ≤ g i ∧ g i ≤ 255) (hm : mg3 g = false) (hb : fbad (g 4) (g 5) = true) : BBad n g 4 := by
  have hnew : FSpec Try.prog 26 [iA (g 4), iA (g 5)] (.tup [.agg flmZ, iA 4]) := by
    have hev := nw_ev0 isd (g 4) (g 5)
    rw [cSd_eq, hb] at hev
    exact gspec (e_cons gSd_ok e_nil) k_nil Try.func26 (by kernel_rfl) (by kernel_rfl) noL_ok rfl hev
  refine bbad_of (gspecG (mem := []) e_nil (k_cons (kS_ok (P := Try.prog) (f := 25) (g := eqG fun _ _ _ _ => !mg3 g)) (k_cons (kS_ok (P := Try.prog) (f := 26) (g := fun _ => .tup [.agg flmZ, iA 4])) (k_cons (kno_ok _) k_nil))) m_nil Try.func18 (by kernel_rfl) (by kernel_rfl) noL_okN rfl (by kernel_rfl) ((bk_ev4 (fun _ _ _ _ => !mg3 g) n g 4).trans ?_)) plain0
  obtain ⟨i4, i5⟩ := ix45 hn
  obtain ⟨w4, w5⟩ := gW_eq hn hg
  unfold bkX
  rw [decide_eq_false (show ¬ (n : Int) < 6 by omega), gate_pos (hp_mk hn hg), hm, w4, w5, gate_pos hnew, i4, i5]
  rfl
theorem bk_rest (hn : 6 ≤ n) (hg : ∀ i, i < n → 0 ≤ g i ∧ g i ≤ 255) (hm : mg3 g = false) (hb : fbad (g 4) (g 5) = false) :
    (n < 21 * ldP g + 10 → BBad n g 8) ∧ (n > 21 * ldP g + 10 → BBad n g 5) ∧ (n = 21 * ldP g + 10 → GSpec Try.prog 18 [sB n g] [] (bkV (g 4) (g 5) (3 * ldP g) (ldP g)) (bkRows (3 * ldP g) (ldP g))) := by
  obtain ⟨i4, i5⟩ := ix45 hn
  obtain ⟨w4, w5⟩ := gW_eq hn hg
  obtain ⟨w1, w2, w3, w4'⟩ := nw_eq hb
  have en : nwN (g 4) (g 5) = 3 * ldP g := by unfold nwN ldP; rw [w1]; omega
  have em : nwM (g 4) (g 5) = ldP g := by unfold nwM ldP; rw [w2]
  have hP : ldP g ≤ 4096 := by unfold ldP; omega
  have hN : NUok nwN nwM (g 4) (g 5) := nw_G hb
  have hs : SBb sbtI (g 4) (g 5) (3 * ldP g) (ldP g) := sbt_spec ⟨g 4, g 5, 3 * ldP g, fun _ => 0, ldP g, fun _ => 0⟩
  have hl : lnF (3 * ldP g) (ldP g) = true := by unfold lnF; rw [ble_t (by omega), ble_t (by omega)]; rfl
  have hS : sbtI (3 * ldP g) (ldP g) = ((21 * ldP g + 10 : Nat) : Int) := by
    unfold sbtI
    rw [w64_id (n := 6 * ((3 * ldP g : Nat) : Int)) (by omega) (by omega), w64_id (n := 6 + 6 * ((3 * ldP g : Nat) : Int)) (by omega) (by omega), w64_id (n := 3 * ((ldP g : Nat) : Int)) (by omega) (by omega), w64_id (n := 6 + 6 * ((3 * ldP g : Nat) : Int) + 3 * ((ldP g : Nat) : Int)) (by omega) (by omega), w64_id (by omega) (by omega)]
    omega
  have ks := k_cons (kS_ok (P := Try.prog) (f := 25) (g := eqG fun _ _ _ _ => !mg3 g)) (k_cons (kS_ok (P := Try.prog) (f := 12) (g := sbtG sbtI)) k_nil)
  have ms := m_cons (mR_ok (P := Try.prog) (f := 26) (g := nwU nwN nwM) (m := nwT nwN nwM)) m_nil
  have hev := bk_ev (fun _ _ _ _ => !mg3 g) sbtI nwN nwM n g
  have e3 : (!(!mg3 g)) = false := by rw [hm]; rfl
  unfold bkX bkR bkB bkG g45 at hev
  simp only [e3] at hev
  rw [decide_eq_false (show ¬ (n : Int) < 6 by omega), gate_pos (hp_mk hn hg), w4, w5, i4, i5, propB_t hN, en, em, hl, gate_pos hs, gate_pos hs, hS] at hev
  have G : ∀ {v : AV}, evG Try.prog [] [kS Try.prog 25 (eqG fun _ _ _ _ => !mg3 g), kS Try.prog 12 (sbtG sbtI)] [mR Try.prog 26 (nwU nwN nwM) (nwT nwN nwM)] noL Try.f18 [sB n g] [] [some 2, some 3] = gout v (bkRows (3 * ldP g) (ldP g)) → GSpec Try.prog 18 [sB n g] [] v (bkRows (3 * ldP g) (ldP g)) := fun h =>
    gspecG (mem := []) e_nil ks ms Try.func18 (by kernel_rfl) (by kernel_rfl) noL_okN rfl (by kernel_rfl) h
  refine ⟨fun h => bbad_of (G (hev.trans ?_)) (plainB _ _), fun h => bbad_of (G (hev.trans ?_)) (plainB _ _), fun h => G (hev.trans ?_)⟩
  · rw [decide_eq_true (show (n : Int) < ((21 * ldP g + 10 : Nat) : Int) by omega)]; rfl
  · rw [decide_eq_false (show ¬ (n : Int) < ((21 * ldP g + 10 : Nat) : Int) by omega), decide_eq_true (show (n : Int) > ((21 * ldP g + 10 : Nat) : Int) by omega)]; rfl
  · rw [decide_eq_false (show ¬ (n : Int) < ((21 * ldP g + 10 : Nat) : Int) by omega), decide_eq_false (show ¬ (n : Int) > ((21 * ldP g + 10 : Nat) : Int) by omega)]; rfl
end
end Go.Proofs.Ytghfmaciapmmoaa

namespace Go.Proofs.Ytghfmaciapmmoaa
open Go.Gv

abbrev FLf : Type := (Nat → List AV) → Nat → Nat → Int
noncomputable def fiC (ff : FLf) : List AV → List Row → Option (Bool × AV × List Row)
  | [.osl 0 1 0 N, .sl 1 L el, .x (.int .i64 s)], [.a e sz m el0] => some (propB (GSpec Try.prog 20 [.osl 0 1 0 N, .sl 1 L el, iA s] [.a e sz m el0] (.sl 1 (L - s.toNat * N) fun j => el (s.toNat * N + j)) [.a 3 1 N fun j => [iA (ff el s.toNat j)]]), .sl 1 (L - s.toNat * N) fun j => el (s.toNat * N + j), [.a 3 1 N fun j => [iA (ff el s.toNat j)]])
  | _, _ => none
noncomputable def mFi (ff : FLf) : MEntry := ⟨20, liftM (some 0) (fiC ff), none⟩
theorem mFi_ok {ff : FLf} : MEOk Try.prog (mFi ff) := by
  refine ⟨liftM_ok fun args rs v mem1 hc => ?_, fun _ h => by cases h⟩
  unfold fiC at hc
  split at hc
  · simp only [Option.some.injEq, Prod.mk.injEq] at hc
    obtain ⟨h1, rfl, rfl⟩ := hc
    refine ⟨propB_of h1, fun i hi hw => ?_⟩
    have : i = 0 := by simpa using hi
    subst this
    exact absurd rfl hw
  · cases hc
abbrev NBc (nf : Nat → (Nat → List AV) → Int) (g : Nat → Int) (lo hi : Option Int) (n : Nat) : Prop := FSpec Try.prog 19 [.sl 1 (sbN lo hi n) (sbE g lo)] (iA (nf (sbN lo hi n) (sbE g lo)))
abbrev CKc (sf : Nat → (Nat → List AV) → Int) (g : Nat → Int) (lo hi : Option Int) (n : Nat) : Prop := FSpec Try.prog 14 [.sl 1 (sbN lo hi n) (sbE g lo)] (iA (sf (sbN lo hi n) (sbE g lo)))
def s4 (n : Nat) : Int := w64 ((n : Int) - 4)
abbrev FLo (ff : FLf) (N L : Nat) (S : Nat) (el : Nat → List AV) : Prop := GSpec Try.prog 20 [.osl 0 1 0 N, .sl 1 L el, iA (S : Int)] [.a 3 1 N fun _ => [iA 0]] (.sl 1 (L - S * N) fun j => el (S * N + j)) [.a 3 1 N fun j => [iA (ff el S j)]]
noncomputable def flQ (p : Prop) (N : Nat) : Bool := (propB p && (Nat.blt 0 (0 + N) && true)) || false
section
variable (nf sf : Nat → (Nat → List AV) → Int) (mf : MF) (ff : FLf) (n : Nat) (g : Nat → Int) (W H : Int) (N M : Nat)
def e6 (g : Nat → Int) : Nat → List AV := sbE g (some 6)
def L6 (n : Nat) : Nat := sbN (some 6) none n
def e7 (g : Nat → Int) (N : Nat) : Nat → List AV := fun j => e6 g (6 * N + j)
def lC : List AV := [iA W, iA H, .sl 1 N fun i => [iA (ff (e6 g) 6 (0 + i))], .sl 1 M fun i => [iA (ff (e7 g N) 3 (0 + i))]]
def lM : Int := mf W H N (fun i => [iA (ff (e6 g) 6 (0 + i))]) M (fun i => [iA (ff (e7 g N) 3 (0 + i))])
def lR : List Row := [.a 3 1 N fun j => [iA (ff (e6 g) 6 j)], .a 3 1 M fun j => [iA (ff (e7 g N) 3 j)]]
noncomputable def ldZ : Option Out :=
  cond (flQ (FLo ff M (L6 n - 6 * N) 3 (e7 g N)) M) (cond (lnF N M) (gate (FSpec Try.prog 11 [.agg (lC ff g W H N M)] (fmG mf [.agg (lC ff g W H N M)]))
    (cond (!(lM mf ff g W H N M == 0)) (gout (.tup [.agg flmZ, iA (lM mf ff g W H N M)]) (lR ff g N M)) (gout (bkV W H N M) (lR ff g N M)))) none) none
theorem cl_ev : evG Try.prog [] [kS Try.prog 19 (nbG nf), kS Try.prog 14 (suG sf), kS Try.prog 11 (fmG mf)] [mR Try.prog 18 (fun _ => bkV W H N M) (fun _ => bkRows N M), mFi ff] noL Try.f8 [sB n g] [] [some 1, some 2] =
    cond (propB (GSpec Try.prog 18 [sB n g] [] (bkV W H N M) (bkRows N M))) (gate (NBc nf g (some (s4 n)) none n) (gate (CKc sf g none (some (s4 n)) n) (cond ((sbB (some (s4 n)) none none n || false) && ((sbB none (some (s4 n)) none n || false) && true))
      (cond (!(nf (sbN (some (s4 n)) none n) (sbE g (some (s4 n))) == sf (sbN none (some (s4 n)) n) (sbE g none))) (gout (.tup [.agg flmZ, iA 12]) (bkRows N M))
        (cond ((sbB (some 6) none none n || false) && (flQ (FLo ff N (L6 n) 6 (e6 g)) N && true)) (ldZ mf ff n g W H N M) none)) none))) none := by kernel_rfl
theorem cl_bad (e : Int) : ev Try.prog [] [kS Try.prog 18 (fun _ => .tup [.agg flmZ, iA e]), ⟨19, fun _ _ => none⟩] noL Try.f8 [sB n g] ret =
    gate (BBad n g e) (cond (!(e == 0)) (fBad e) none) := by kernel_rfl
end
end Go.Proofs.Ytghfmaciapmmoaa

namespace Go.Proofs.Ytghfmaciapmmoaa
open Go.Gv

/-! ### Films that are the same as far as they go -/
theorem allI_congr {n : Nat} {p q : Nat → Bool} (h : ∀ i, i < n → p i = q i) : allI n p = allI n q := by
  rcases all_or_first p n with hp | ⟨K, hK, hf, _⟩
  · rw [allI_t hp, allI_t fun i hi => (h i hi).symm.trans (hp i hi)]
  · rw [allI_f hK hf, allI_f hK ((h K hK).symm.trans hf)]
theorem fmay_congr {f g : Flm} (hW : f.W = g.W) (hH : f.H = g.H) (en : f.n = g.n) (em : f.m = g.m) (hl : ∀ i, i < f.n → f.lt i = g.lt i) (hs : ∀ i, i < f.m → f.sh i = g.sh i) : fmay f = fmay g := by
  have e1 : fcnt f = fcnt g := by unfold fcnt; rw [hW, hH, en, em]
  have e2 : fval f = fval g := by
    unfold fval
    rw [allI_congr (p := fun i => !ofB (f.lt i) 1099511627776) (q := fun i => !ofB (g.lt i) 1099511627776) fun i hi => by rw [hl i hi], allI_congr (p := fun i => !ofB (f.sh i) 1048576) (q := fun i => !ofB (g.sh i) 1048576) fun i hi => by rw [hs i hi], en, em]
  unfold fmay
  rw [hW, hH, e1, e2]
theorem flm_like {E : Env} {f g : Flm} {v : Value} (hW : f.W = g.W) (hH : f.H = g.H) (en : f.n = g.n) (em : f.m = g.m) (hl : ∀ i, i < f.n → f.lt i = g.lt i) (hs : ∀ i, i < f.m → f.sh i = g.sh i) (h : rel E (.agg f.c) v) : rel E (.agg g.c) v := by
  obtain ⟨W, H, n, lt, m, sh⟩ := f
  obtain ⟨W', H', n', lt', m', sh'⟩ := g
  simp only at hW hH en em hl hs
  subst hW
  subst hH
  subst en
  subst em
  obtain ⟨vs, h1, h2⟩ := rel_agg.1 h
  refine rel_agg.2 ⟨vs, h1, ?_⟩
  obtain ⟨u0, t0, e0, r0, h2⟩ := rels_cons.1 h2
  obtain ⟨u1, t1, e1, r1, h2⟩ := rels_cons.1 h2
  obtain ⟨u2, t2, e2, r2, h2⟩ := rels_cons.1 h2
  obtain ⟨u3, t3, e3, r3, h2⟩ := rels_cons.1 h2
  exact rels_cons.2 ⟨u0, t0, e0, r0, rels_cons.2 ⟨u1, t1, e1, r1, rels_cons.2 ⟨u2, t2, e2, sl_like r2 (fun i hi => congrArg (fun z => [iA z]) (hl i hi).symm), rels_cons.2 ⟨u3, t3, e3, sl_like r3 (fun i hi => congrArg (fun z => [iA z]) (hs i hi).symm), h2⟩⟩⟩⟩
theorem ofB_false {x M : Int} (h : ofB x M = false) : 0 ≤ x ∧ x ≤ M := by
  unfold ofB at h
  by_cases h1 : x < 0 <;> by_cases h2 : x > M <;> simp [h1, h2] at h
  omega
theorem fval_all {f : Flm} (h : fval f = true) : (∀ i, i < f.n → 0 ≤ f.lt i ∧ f.lt i ≤ 1099511627776) ∧ ∀ i, i < f.m → 0 ≤ f.sh i ∧ f.sh i ≤ 1048576 := by
  unfold fval at h
  simp only [Bool.and_eq_true] at h
  exact ⟨fun i hi => ofB_false (by simpa using allI_all h.1 i hi), fun i hi => ofB_false (by simpa using allI_all h.2 i hi)⟩
end Go.Proofs.Ytghfmaciapmmoaa

namespace Go.Proofs.Ytghfmaciapmmoaa
open Go.Gv

def ffL : FLf := fun el S j => cnV (fun c => u8Of' (el (S * j + c))) S
section
variable {n : Nat} {g : Nat → Int}
theorem cl_of_bad {e : Int} (he : e ≠ 0) (h : BBad n g e) : FreshSpec Try.prog 8 [sB n g] (fOut zF e) := by
  have h0 : FSpec Try.prog 8 [sB n g] (.tup [.agg flmZ, iA e]) := by
    refine gspec e_nil (k_cons (kS_ok (P := Try.prog) (f := 18) (g := fun _ => .tup [.agg flmZ, iA e])) (k_cons (kno_ok _) k_nil)) Try.func8 (by kernel_rfl) (by kernel_rfl) noL_ok rfl ((cl_bad n g e).trans ?_)
    rw [gate_pos h, beq_false_of_ne he]
    rfl
  exact (fresh_plain h0 rfl).of_res fun _ _ hr => tup2_like hr fun _ => zF_like
theorem plainL2 (ff : FLf) (N M : Nat) : PlainRows (lR ff g N M) := by
  intro k e sz c el hk i hi
  match k, hk with
  | 0, hk => cases hk; rfl
  | 1, hk => cases hk; rfl
  | k + 2, hk => simp [lR] at hk
theorem cload_fresh (hg : ∀ i, i < n → 0 ≤ g i ∧ g i ≤ 255) : FreshSpec Try.prog 8 [sB n g] (fOut (ldO n g) (ldE n g)) := by
  have bad : ∀ {e : Int}, e ≠ 0 → ldE n g = e → BBad n g e → FreshSpec Try.prog 8 [sB n g] (fOut (ldO n g) (ldE n g)) := fun {e} he h1 h2 => by
    have hf : ldO n g = zF := by unfold ldO; rw [if_neg (by rw [h1]; exact he)]
    rw [hf, h1]
    exact cl_of_bad he h2
  by_cases h6 : n < 6
  · exact bad (by decide) (by unfold ldE; rw [decide_eq_true h6]; rfl) (bk_short h6)
  have hn6 : 6 ≤ n := by omega
  cases hm : mg3 g
  case true => exact bad (by decide) (by unfold ldE; rw [decide_eq_false h6, hm]; rfl) (bk_form hn6 hg hm)
  cases hb : fbad (g 4) (g 5)
  case true => exact bad (by decide) (by unfold ldE; rw [decide_eq_false h6, hm, hb]; rfl) (bk_sides hn6 hg hm hb)
  obtain ⟨r1, r2, r3⟩ := bk_rest hn6 hg hm hb
  by_cases hlt : n < 21 * ldP g + 10
  · exact bad (by decide) (by unfold ldE; rw [decide_eq_false h6, hm, hb, decide_eq_true hlt]; rfl) (r1 hlt)
  by_cases hgt : n > 21 * ldP g + 10
  · exact bad (by decide) (by unfold ldE; rw [decide_eq_false h6, hm, hb, decide_eq_false hlt, decide_eq_true hgt]; rfl) (r2 hgt)
  have hn : n = 21 * ldP g + 10 := by omega
  have hG := r3 hn
  have hE : ldE n g = cond (!ldS n g) 12 (fmay (ldF g)) := by unfold ldE; rw [decide_eq_false h6, hm, hb, decide_eq_false hlt, decide_eq_false hgt]; rfl
  obtain ⟨w1, w2, w3, w4⟩ := nw_eq hb
  have hP : ldP g ≤ 4096 := by unfold ldP; omega
  have hP0 : 0 < ldP g := by unfold ldP; omega
  have es : s4 n = ((n - 4 : Nat) : Int) := by unfold s4; rw [w64_id (by omega) (by omega)]; omega
  obtain ⟨b1, b2, b3, b4, b5⟩ := sbT (n - 4) n (by omega)
  have eN : sbE g (some ((n - 4 : Nat) : Int)) = fun i => [yA (g (n - 4 + i))] := funext fun i => by unfold sbE; rw [b5]
  have eC : sbE g none = fun i => [yA (g i)] := funext fun i => by
    unfold sbE
    have : sbL none = 0 := rfl
    rw [this, Nat.zero_add]
  have k1 : NBc cfE g (some (s4 n)) none n := by
    show FSpec Try.prog 19 [.sl 1 (sbN (some (s4 n)) none n) (sbE g (some (s4 n)))] (iA (cfE (sbN (some (s4 n)) none n) (sbE g (some (s4 n)))))
    rw [es, b4, eN]
    exact cn_spec (by omega) fun i => g (n - 4 + i)
  have k2 : CKc suE g none (some (s4 n)) n := by
    show FSpec Try.prog 14 [.sl 1 (sbN none (some (s4 n)) n) (sbE g none)] (iA (suE (sbN none (some (s4 n)) n) (sbE g none)))
    rw [es, b3, eC]
    exact ck_spec (by omega) g
  have eS : (cfE (sbN (some (s4 n)) none n) (sbE g (some (s4 n))) == suE (sbN none (some (s4 n)) n) (sbE g none)) = ldS n g := by
    rw [es, b4, b3, eN, eC, show n - (n - 4) = 4 by omega]
    show (cnV (fun i => g (n - 4 + i)) 4 == w64 (suV g (n - 4))) = _
    rw [(cn_nb (g := fun i => g (n - 4 + i)) (k := 4) (by omega) fun i hi => hg _ (by omega)).1]
    rfl
  obtain ⟨c1, c2, c3, c4, c5⟩ := sbT 6 n hn6
  have c2' : sbB (some 6) none none n = true := c2
  have c5' : sbL (some 6) = 6 := c5
  have eL : L6 n = n - 6 := c4
  have f1 : FLo ffL (3 * ldP g) (L6 n) 6 (e6 g) := fi_ok (N := 3 * ldP g) (L := L6 n) (S := 6) (by omega) (by omega) (by rw [eL]; omega) (fun i => g (sbL (some 6) + i)) fun _ => 0
  have f2 : FLo ffL (ldP g) (L6 n - 6 * (3 * ldP g)) 3 (e7 g (3 * ldP g)) := fi_ok (N := ldP g) (L := L6 n - 6 * (3 * ldP g)) (S := 3) (by omega) (by omega) (by rw [eL]; omega) (fun i => g (sbL (some 6) + (6 * (3 * ldP g) + i))) fun _ => 0
  have q1 : flQ (FLo ffL (3 * ldP g) (L6 n) 6 (e6 g)) (3 * ldP g) = true := by unfold flQ; rw [propB_t f1, blt_t (by omega)]; rfl
  have q2 : flQ (FLo ffL (ldP g) (L6 n - 6 * (3 * ldP g)) 3 (e7 g (3 * ldP g))) (ldP g) = true := by unfold flQ; rw [propB_t f2, blt_t (by omega)]; rfl
  have hl : lnF (3 * ldP g) (ldP g) = true := by unfold lnF; rw [ble_t (by omega), ble_t (by omega)]; rfl
  have ok := FMok_of cmay_spec
  let F : Flm := ⟨g 4, g 5, 3 * ldP g, fun i => ffL (e6 g) 6 i, ldP g, fun i => ffL (e7 g (3 * ldP g)) 3 i⟩
  have eF : lC ffL g (g 4) (g 5) (3 * ldP g) (ldP g) = F.c := by
    show ([iA (g 4), iA (g 5), .sl 1 (3 * ldP g) fun i => [iA (ffL (e6 g) 6 (0 + i))], .sl 1 (ldP g) fun i => [iA (ffL (e7 g (3 * ldP g)) 3 (0 + i))]] : List AV) = [iA (g 4), iA (g 5), .sl 1 (3 * ldP g) fun i => [iA (ffL (e6 g) 6 i)], .sl 1 (ldP g) fun i => [iA (ffL (e7 g (3 * ldP g)) 3 i)]]
    simp only [Nat.zero_add]
  have eM : lM fmE' ffL g (g 4) (g 5) (3 * ldP g) (ldP g) = fmay F := by
    show fmay ⟨g 4, g 5, 3 * ldP g, fun i => ffL (e6 g) 6 (0 + i), ldP g, fun i => ffL (e7 g (3 * ldP g)) 3 (0 + i)⟩ = fmay F
    simp only [Nat.zero_add]
    rfl
  have hlt1 : ∀ i, i < F.n → F.lt i = (ldF g).lt i := fun i hi => by
    have hi : i < 3 * ldP g := hi
    show cnV (fun c => g (sbL (some 6) + (6 * i + c))) 6 = nbV (fun c => g (6 + 6 * i + c)) 6
    have e : (fun c => g (sbL (some 6) + (6 * i + c))) = fun c => g (6 + 6 * i + c) := funext fun c => by rw [c5', Nat.add_assoc]
    rw [e]
    exact (cn_nb (g := fun c => g (6 + 6 * i + c)) (k := 6) (by omega) fun c hc => hg _ (by omega)).1
  have hsh1 : ∀ i, i < F.m → F.sh i = (ldF g).sh i := fun i hi => by
    have hi : i < ldP g := hi
    show cnV (fun c => g (sbL (some 6) + (6 * (3 * ldP g) + (3 * i + c)))) 3 = nbV (fun c => g (6 + 18 * ldP g + 3 * i + c)) 3
    have e : (fun c => g (sbL (some 6) + (6 * (3 * ldP g) + (3 * i + c)))) = fun c => g (6 + 18 * ldP g + 3 * i + c) := funext fun c => by rw [c5']; congr 1; omega
    rw [e]
    exact (cn_nb (g := fun c => g (6 + 18 * ldP g + 3 * i + c)) (k := 3) (by omega) fun c hc => hg _ (by omega)).1
  have eM2 : fmay F = fmay (ldF g) := fmay_congr rfl rfl rfl rfl hlt1 hsh1
  have ks := k_cons (kS_ok (P := Try.prog) (f := 19) (g := nbG cfE)) (k_cons (kS_ok (P := Try.prog) (f := 14) (g := suG suE)) (k_cons (kS_ok (P := Try.prog) (f := 11) (g := fmG fmE')) k_nil))
  have ms := m_cons (mR_ok (P := Try.prog) (f := 18) (g := fun _ => bkV (g 4) (g 5) (3 * ldP g) (ldP g)) (m := fun _ => bkRows (3 * ldP g) (ldP g))) (m_cons (mFi_ok (ff := ffL)) m_nil)
  have hev := cl_ev cfE suE fmE' ffL n g (g 4) (g 5) (3 * ldP g) (ldP g)
  unfold ldZ at hev
  rw [propB_t hG, gate_pos k1, gate_pos k2, eS, es, b1, b2, c2', q1, q2, hl, eF, gate_pos (ok F), eM, eM2] at hev
  have G : ∀ {v : AV} {mem : List Row}, evG Try.prog [] [kS Try.prog 19 (nbG cfE), kS Try.prog 14 (suG suE), kS Try.prog 11 (fmG fmE')] [mR Try.prog 18 (fun _ => bkV (g 4) (g 5) (3 * ldP g) (ldP g)) (fun _ => bkRows (3 * ldP g) (ldP g)), mFi ffL] noL Try.f8 [sB n g] [] [some 1, some 2] = gout v mem → GSpec Try.prog 8 [sB n g] [] v mem := fun h =>
    gspecG (mem := []) e_nil ks ms Try.func8 (by kernel_rfl) (by kernel_rfl) noL_okN rfl (by kernel_rfl) h
  cases hs : ldS n g
  · rw [hs] at hE hev
    have hE : ldE n g = 12 := hE
    have hf : ldO n g = zF := by unfold ldO; rw [if_neg (by rw [hE]; decide)]
    rw [hf, hE]
    exact (fresh_rows (G (v := .tup [.agg flmZ, iA 12]) hev) (by rfl) (plainB _ _)).of_res fun _ _ hr => tup2_like hr fun _ => zF_like
  · rw [hs] at hE hev
    have hE : ldE n g = fmay (ldF g) := hE
    by_cases h4 : fmay (ldF g) = 0
    · rw [h4] at hE hev
      have hf : ldO n g = ldF g := by unfold ldO; rw [if_pos hE]
      rw [hf, hE]
      have hF := fresh_rows (G (v := bkV (g 4) (g 5) (3 * ldP g) (ldP g)) hev) (by
        show ownB (lR ffL g (3 * ldP g) (ldP g)) (bkV _ _ _ _) = true
        simp only [bkV, ownB, ownBL, lR, List.getElem?_cons_zero, List.getElem?_cons_succ, iA]
        rw [ble_t (show 0 + 3 * ldP g ≤ 3 * ldP g by omega), ble_t (show 0 + ldP g ≤ ldP g by omega)]
        rfl) (plainL2 _ _ _)
      have e : frzT (lR ffL g (3 * ldP g) (ldP g)) (bkV (g 4) (g 5) (3 * ldP g) (ldP g)) = fOut F 0 := by
        show AV.tup [.agg (lC ffL g (g 4) (g 5) (3 * ldP g) (ldP g)), iA 0] = AV.tup [.agg F.c, iA 0]
        rw [eF]
      rw [e] at hF
      exact hF.of_res fun _ _ hr => tup2_like hr fun _ hu => flm_like (f := F) (g := ldF g) rfl rfl rfl rfl hlt1 hsh1 hu
    · rw [beq_false_of_ne h4] at hev
      have hf : ldO n g = zF := by unfold ldO; rw [if_neg (by rw [hE]; exact h4)]
      rw [hf, hE]
      exact (fresh_rows (G (v := .tup [.agg flmZ, iA (fmay (ldF g))]) hev) (by rfl) (plainL2 _ _ _)).of_res fun _ _ hr => tup2_like hr fun _ => zF_like
theorem cload_spec (hg : ∀ i, i < n → 0 ≤ g i ∧ g i ≤ 255) : FSpec Try.prog 8 [sB n g] (fOut (ldO n g) (ldE n g)) := (cload_fresh hg).spec rfl rfl
end
end Go.Proofs.Ytghfmaciapmmoaa

namespace Go.Proofs.Ytghfmaciapmmoaa
open Go.Gv
theorem wok : WorkOk := ⟨csave_spec, fun _ _ hg => cload_spec hg⟩
end Go.Proofs.Ytghfmaciapmmoaa

namespace Go.Proofs.Ytghfmaciapmmoaa
open Go.Gv Go.RowKit Go.ChangeShapes Go.WideShapes Go.ChangeAt

def rsl (n : Nat) (hs : Nat → Int) : AV := .sl 1 n fun i => [iA (hs i)]
theorem open_num {H : Type} {enc : TypeId × Value → H} {P : Program} {w : World} {r : Reach} {b0 : Nat} {t : TypeId} {v : Value} {d : DataW H} {p : List MemPlace} {k : IntKind} (hu : P.underlying t = some (.int k)) (hk : kds P 1 t = some [.i k]) (hv : Value.okWide P w r b0 t v)
    (h : DataW.Trod enc P w 0 (fun _ => true) true t v d p) : ∃ n, rel (Env.all w) (.x (.int k n)) v ∧ (Lit.int k n).wf = true := by
  have hone : v.cells = #[v] := by
    obtain ⟨n, rfl, _⟩ := okWide_int hu hv
    rfl
  obtain ⟨fuel, hf⟩ := h
  obtain ⟨a, h1, h2⟩ := open_arg hf hk hone
  rw [fitA] at h1
  obtain ⟨n, rfl, hw⟩ := h1
  exact ⟨n, h2, hw⟩
def numOf (el : Nat → List AV) (i : Nat) : Int := match el i with
  | [.x (.int .i64 h)] => h
  | _ => 0
theorem sl_same {E : Env} {sz n : Nat} {el el' : Nat → List AV} {v : Value} (h : rel E (.sl sz n el) v) (he : ∀ i, i < n → el' i = el i) : rel E (.sl sz n el') v := by
  have h : relA _ _ _ := h
  show relA _ _ _
  rw [relA] at h ⊢
  obtain ⟨a, c, h1, h2, h3⟩ := h
  refine ⟨a, c, h1, h2, ?_⟩
  rcases h3 with h3 | ⟨b, o, cs, e, fz, h4, h5, h6, h7⟩
  · exact Or.inl h3
  · exact Or.inr ⟨b, o, cs, e, fz, h4, h5, h6, fun i hi => by rw [he i hi]; exact h7 i hi⟩
theorem fitL_single {k : Kd} {zs : List AV} (h : fitL [k] zs) : ∃ a, zs = [a] ∧ fitA k a := by
  match zs, h with
  | [a], h => exact ⟨a, rfl, (fitL_cons.1 h).1⟩
  | [], h => have := fitL_length h; simp at this
  | _ :: _ :: _, h => have := fitL_length h; simp at this
/-- A row of whole numbers that came in: as many, each a number of 64 bits. -/
theorem open_raw {H : Type} {enc : TypeId × Value → H} {P : Program} {w : World} {r : Reach} {b0 : Nat} {t e : TypeId} {v : Value} {d : DataW H} {p : List MemPlace} (hu : P.underlying t = some (.slice e)) (hk : kds P 2 t = some [.l 1 [.i .i64]]) (hv : Value.okWide P w r b0 t v)
    (h : DataW.Trod enc P w 0 (fun _ => true) true t v d p) : ∃ n hs, rel (Env.all w) (rsl n hs) v ∧ ∀ i, i < n → (Lit.int .i64 (hs i)).wf = true := by
  have hone : v.cells = #[v] := by
    obtain ⟨a, len, cap, rfl⟩ := okWide_slice hu hv
    rfl
  obtain ⟨fuel, hf⟩ := h
  obtain ⟨a, h1, h2⟩ := open_arg hf hk hone
  rw [fitA] at h1
  obtain ⟨n, el, rfl, _, hel⟩ := h1
  have key : ∀ i, i < n → el i = [iA (numOf el i)] ∧ (Lit.int .i64 (numOf el i)).wf = true := fun i hi => by
    obtain ⟨a, ha, hf⟩ := fitL_single (hel i hi)
    rw [fitA] at hf
    obtain ⟨m, rfl, hw⟩ := hf
    have e : numOf el i = m := by unfold numOf; rw [ha]
    rw [e]
    exact ⟨ha, hw⟩
  exact ⟨n, numOf el, sl_same h2 fun i hi => (key i hi).1.symm, fun i hi => (key i hi).2⟩
end Go.Proofs.Ytghfmaciapmmoaa

namespace Go.Proofs.Ytghfmaciapmmoaa
open Go.Gv Go.RowKit Go.ChangeShapes Go.WideShapes Go.ChangeAt

def u8Of (el : Nat → List AV) (i : Nat) : Int := match el i with
  | [.x (.int .u8 h)] => h
  | _ => 0
theorem u8_wf {n : Int} (h : (Lit.int .u8 n).wf = true) : 0 ≤ n ∧ n ≤ 255 := by
  simp [Lit.wf, IntKind.min, IntKind.max, IntKind.signed, IntKind.bits] at h
  omega
theorem fit_iw {a : AV} {k : IntKind} (h : fitA (.i k) a) : ∃ n, a = .x (.int k n) ∧ (Lit.int k n).wf = true := by rw [fitA] at h; exact h
/-- A row of whole numbers within something. -/
theorem fit_ints {E : Env} {a : AV} {v : Value} (h : fitA (.l 1 [.i .i64]) a) (hr : rel E a v) : ∃ n g, n ≤ maxLen ∧ (∀ i, i < n → (Lit.int .i64 (g i)).wf = true) ∧ rel E (sI n g) v := by
  rw [fitA] at h
  obtain ⟨n, el, rfl, hn, hel⟩ := h
  have key : ∀ i, i < n → el i = [iA (numOf el i)] ∧ (Lit.int .i64 (numOf el i)).wf = true := fun i hi => by
    obtain ⟨a, ha, hf⟩ := fitL_single (hel i hi)
    obtain ⟨m, rfl, hw⟩ := fit_iw hf
    have e : numOf el i = m := by unfold numOf; rw [ha]
    rw [e]
    exact ⟨ha, hw⟩
  exact ⟨n, numOf el, hn, fun i hi => (key i hi).2, sl_like hr fun i hi => (key i hi).1.symm⟩
/-- A row of bytes within something. -/
theorem fit_bytes {E : Env} {a : AV} {v : Value} (h : fitA (.l 1 [.i .u8]) a) (hr : rel E a v) : ∃ n g, n ≤ maxLen ∧ (∀ i, i < n → 0 ≤ g i ∧ g i ≤ 255) ∧ rel E (sB n g) v := by
  rw [fitA] at h
  obtain ⟨n, el, rfl, hn, hel⟩ := h
  have key : ∀ i, i < n → el i = [yA (u8Of el i)] ∧ (Lit.int .u8 (u8Of el i)).wf = true := fun i hi => by
    obtain ⟨a, ha, hf⟩ := fitL_single (hel i hi)
    obtain ⟨m, rfl, hw⟩ := fit_iw hf
    have e : u8Of el i = m := by unfold u8Of; rw [ha]
    rw [e]
    exact ⟨ha, hw⟩
  exact ⟨n, u8Of el, hn, fun i hi => u8_wf (key i hi).2, sl_like hr fun i hi => (key i hi).1.symm⟩
/-- A row of bytes that came in. -/
theorem open_bytes {H : Type} {enc : TypeId × Value → H} {P : Program} {w : World} {r : Reach} {b0 : Nat} {t e : TypeId} {v : Value} {d : DataW H} {p : List MemPlace} (hu : P.underlying t = some (.slice e)) (hk : kds P 2 t = some [.l 1 [.i .u8]]) (hv : Value.okWide P w r b0 t v)
    (h : DataW.Trod enc P w 0 (fun _ => true) true t v d p) : ∃ n g, n ≤ maxLen ∧ (∀ i, i < n → 0 ≤ g i ∧ g i ≤ 255) ∧ rel (Env.all w) (sB n g) v := by
  have hone : v.cells = #[v] := by
    obtain ⟨a, len, cap, rfl⟩ := okWide_slice hu hv
    rfl
  obtain ⟨fuel, hf⟩ := h
  obtain ⟨a, h1, h2⟩ := open_arg hf hk hone
  exact fit_bytes h1 h2
/-- Four cells, one behind the other. -/
theorem fitL_n3 {k0 k1 k2 : Kd} {zs : List AV} (h : fitL [k0, k1, k2] zs) : ∃ x y z, zs = [x, y, z] ∧ fitA k0 x ∧ fitA k1 y ∧ fitA k2 z := by
  match zs, h with
  | [x, y, z], h =>
    simp only [fitL_cons] at h
    exact ⟨x, y, z, rfl, h.1, h.2.1, h.2.2.1⟩
  | [], h => have := fitL_length h; simp at this
  | [_], h => have := fitL_length h; simp at this
  | [_, _], h => have := fitL_length h; simp at this
  | _ :: _ :: _ :: _ :: _, h => have := fitL_length h; simp at this
theorem fitL_n4 {k0 k1 k2 k3 : Kd} {zs : List AV} (h : fitL [k0, k1, k2, k3] zs) : ∃ x y z u, zs = [x, y, z, u] ∧ fitA k0 x ∧ fitA k1 y ∧ fitA k2 z ∧ fitA k3 u := by
  match zs, h with
  | [x, y, z, u], h =>
    simp only [fitL_cons] at h
    exact ⟨x, y, z, u, rfl, h.1, h.2.1, h.2.2.1, h.2.2.2.1⟩
  | [], h => have := fitL_length h; simp at this
  | [_], h => have := fitL_length h; simp at this
  | [_, _], h => have := fitL_length h; simp at this
  | [_, _, _], h => have := fitL_length h; simp at this
  | _ :: _ :: _ :: _ :: _ :: _, h => have := fitL_length h; simp at this
def l3A (l : Nat → Int) : List AV := [iA (l 0), iA (l 1), iA (l 2)]
/-- Three whole numbers. -/
theorem three_arg {E : Env} {zs : List AV} {v : Value} (h : fitL [.i .i64, .i .i64, .i .i64] zs) (hr : rel E (.agg zs) v) : ∃ l : Nat → Int, (∀ i, i < 3 → (Lit.int .i64 (l i)).wf = true) ∧ rel E (.agg (l3A l)) v := by
  obtain ⟨x, y, z, rfl, h0, h1, h2⟩ := fitL_n3 h
  obtain ⟨a, rfl, wa⟩ := fit_iw h0
  obtain ⟨b, rfl, wb⟩ := fit_iw h1
  obtain ⟨c, rfl, wc⟩ := fit_iw h2
  refine ⟨fun i => [a, b, c].getD i 0, fun i hi => ?_, hr⟩
  match i, hi with
  | 0, _ => exact wa
  | 1, _ => exact wb
  | 2, _ => exact wc
end Go.Proofs.Ytghfmaciapmmoaa
