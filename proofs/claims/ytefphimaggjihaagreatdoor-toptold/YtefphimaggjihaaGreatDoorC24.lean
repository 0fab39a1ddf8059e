/-
  Yw Yx Qa Qb Qc Yt Ue Uf Ug Uh Ui Hm1 Mk0 Sx1 Fl2 Fl4 Fl5 Fl3 Fl6 Fl7 Fl8 Fl9 Fl10 Fl11 Fl12 Fl13 Fl14 Wh0 Hg0 Hg1 Sx4 Sxa Er0 Uj Uk Ul Um Un Uo Up Yy Yz Za Zb Zc Zd Qd Qe Uq Vb0 Qf Qg Ze Zf Qh Zg Zh Zi Zj Zk Zl Zm Zn Zo Zp Qi Qj Qk Ql Qm Qn Qo Arg0, one behind the other.
-/
import Derived.Test.YtefphimaggjihaaGreatDoorC23
import Derived.Test.YtefphimaggjihaaGreatDoorC21
import Derived.Lib.DecodeN
import Derived.Test.YtefphimaggjihaaGreatDoorC18
namespace Go.Proofs.YtefphimaggjihaaGreatDoor.Pi.Rd
open Go.Shelf Go.RowKit Go.Gv
open Hs.So (Prt prS)
def u11 (l : List (Nat × AV)) (mem : List Row) : St := ⟨(List.range 11).map fun i => (match l.find? (fun p => Nat.beq p.1 i) with
  | some p => p.2
  | none => .x undef, []), mem⟩
def scZ : List AV := [nilA, nilA, nilA, nilA, nilA, iA 0, iA 0, iA 0, .f 0, .f 0, .f 0, .f 0, .f 0, .f 0, .f 0, .f 0, .f 0, .f 0]
def rdX0 (t : Tk) : List Row := [rdN t, .c scZ, .c [iA 0]]
def pl3 : Pl := ⟨3, 4, 5, 6, 7, 8⟩
/-- The scene that was read. -/
def scR (i : Pl) (c : Ct) : List AV := [oX i c 2, oX i c 3, oX i c 4, oX i c 5, oX i c 6, oX i c 7, oX i c 8, oX i c 9, oX i c 10, oX i c 11, oX i c 12, oX i c 13, oX i c 14, oX i c 15, oX i c 16, oX i c 17, oX i c 18, oX i c 19]
def rdX1 (t : Tk) (z : Nat → Int) (c : Ct) (l : List AV) : List Row := rdX t t.n z pl3 c :: .c l :: .c [iA 0] :: rows c
noncomputable def wAl (t : Tk) (zf : Nat → Int) (cf : Ct) : WEntry := wQ Tryz.prog 69 (fun _ _ => .tup []) (fun _ _ => rdX1 t zf cf scZ)
noncomputable def tAl (t : Tk) (zf : Nat → Int) (cf : Ct) : Tab := tabW [] [] [] [wAl t zf cf] []
noncomputable def rdo (i : Nat) : Array Oper := ((opsAt (bodyOf Tryz.f24) i).getD #[])
def rs1 (t : Tk) : St := u11 [(0, .own 0 0), (2, .own 1 0), (3, .own 2 0)] (rdX0 t)
def rs1' (t : Tk) : St := u11 [(0, .own 0 0), (2, .own 1 0), (3, .own 2 0), (4, .any)] (rdX0 t)
def rs2 (t : Tk) (z : Nat → Int) (c : Ct) : St := u11 [(0, .own 0 0), (2, .own 1 0), (3, .own 2 0), (4, .any), (5, .own 0 0), (6, .tup [])] (rdX1 t z c scZ)
def rs3 (t : Tk) (z : Nat → Int) (c : Ct) : St := u11 [(0, .own 0 0), (2, .own 1 0), (3, .own 2 0), (4, .any), (5, .own 0 0), (6, .tup []), (7, .own 0 0), (8, .own 0 0), (9, .own 0 2), (10, .agg (scR pl3 c))] (rdX1 t z c (scR pl3 c))
def τr : List (Option Nat) := [some 0, some 3, some 4, some 5, some 6, some 7, some 8]
section
variable (t : Tk) (zf : Nat → Int) (cf : Ct)
theorem rd_0 : aopsK Tryz.prog (tAl t zf cf) (rdo 0).toList (rdo 0).toList (Gv.start Tryz.f24 [rdN t] [.own 0 0]) kR = rR (rs1 t) := by kernel_rfl
theorem rd_1 : (⟨putS (rs1 t).slots (some 4) (.any, []), (rs1 t).mem⟩ : St) = rs1' t := by kernel_rfl
theorem rd_2 : aopsK Tryz.prog (tAl t zf cf) (rdo 2).toList (rdo 2).toList (rs1' t) kR = qC 69 [] (.tup []) (rdX0 t) (rdX1 t zf cf scZ) (rR (rs2 t zf cf)) := by kernel_rfl
theorem rd_3 : aopsK Tryz.prog (tAl t zf cf) (rdo 3).toList (rdo 3).toList (rs2 t zf cf) kR = rR (rs3 t zf cf) := by kernel_rfl
theorem rd_4 : outG Tryz.prog Tryz.f24 τr (rs3 t zf cf) = some ⟨.normal, ⟨[], M7 t t.n zf cf⟩, .tup [.agg (scR pl0 cf), iA 0]⟩ := by kernel_rfl
end
/-- The deferred closure, where nothing was raised. -/
theorem idle (p q : Value) (w : World) : CallsD Tryz.prog 68 #[p, q] .returning w fun e u' w' => e = .returned (.tuple #[]) ∧ u' = .returning ∧ w' = w := by
  refine callsD_of_wpS Tryz.func68 rfl fun c₀ cs hu => ?_
  apply wpS_seq
  apply wpS_region
  simp [wpOpsS, go_sem, recoverD, hu, Exit.thenS]
  apply wpS_seq
  apply wpS_seq
  apply wpS_region
  simp [wpOpsS, go_sem, Exit.thenS]
  refine wpS_cond (t := true) (by simp [Act.eval, Array.replicate]) ?_
  simp only [if_true]
  refine wpS_of_wp (wp_ret ?_)
  cases c₀
  simp_all [Exit.thenS, bodyPostS, results]
section
variable {t : Tk} {zf : Nat → Int} {c cf : Ct}
theorem read_spec (h : Rest t zf cf 0 z0 (ct0 c)) (hz : zf 21 = 1) : GSpec Tryz.prog 24 [.own 0 0] [rdN t] (.tup [.agg (scR pl0 cf), iA 0]) (M7 t t.n zf cf) := by
  refine gspec_defer (tabW_ok e_nil k_nil m_nil (w_cons (wQ_ok (g := fun _ _ => .tup []) (m := fun _ _ => rdX1 t zf cf scZ)) w_nil) r_nil) Tryz.func24 (by kernel_rfl) ⟨_, Tryz.func68, rfl, rfl⟩ (o0 := rdo 0) (o2 := rdo 2) (o3 := rdo 3) (k := 4) (x := 2) (y := 3) (g := 68) (by rfl) rfl rfl rfl rfl rfl rfl idle (by rfl) (τ := τr) (by rfl) (rd_0 t zf cf) (by rfl) (by rfl) (s2 := rs2 t zf cf) ?_ (rd_3 t zf cf) (rd_4 t zf cf)
  rw [rd_1]
  refine (rd_2 t zf cf).trans ?_
  refine qC_t (wframeX 1 rfl (all_spec h hz) [.c scZ, .c [iA 0]] (by rfl) (fun i r hi => ?_) (by rfl) (by simp [M7]) (by rfl) (by kernel_rfl)) _
  have : i = 0 := by have := (List.getElem?_eq_some_iff.1 hi).1; simpa using this
  subst this
  cases hi
  exact ⟨rfl, by kernel_rfl⟩
end
end Go.Proofs.YtefphimaggjihaaGreatDoor.Pi.Rd

namespace Go.Gv
open Go.RowKit Go.Ev
/-- What is not looked at again is forgotten. -/
def fgZ (keep : List Nat) (τ : List (Option Nat)) : ZFun := fun s k => cond (fgtOk τ s) (k (fgt keep τ s)) none
theorem fgZ_ok {keep : List Nat} {τ : List (Option Nat)} : ZSoundN 0 (fgZ keep τ) := fun s k r h => by
  unfold fgZ at h
  cases hf : fgtOk τ s
  · rw [hf] at h; cases h
  · rw [hf] at h
    exact ⟨_, h, fgt_subN (by rfl) hf⟩
def zSeq (h g : ZFun) : ZFun := fun s k => h s fun s1 => g s1 k
theorem zSeq_ok {np : Nat} {h g : ZFun} (hh : ZSoundN np h) (hg : ZSoundN np g) : ZSoundN np (zSeq h g) := fun s k r e => by
  obtain ⟨s1, e1, p1⟩ := hh s _ r e
  obtain ⟨s2, e2, p2⟩ := hg s1 k r e1
  exact ⟨s2, e2, p1.trans p2⟩
end Go.Gv
namespace Go.Proofs.YtefphimaggjihaaGreatDoor.Pi.Rd
open Go.Shelf Go.RowKit Go.Gv
open Hs.So (Prt prS)
def pl2 : Pl := ⟨2, 3, 4, 5, 6, 7⟩
def pX1 (t : Tk) (z : Nat → Int) (c : Ct) : List Row := .c scZ :: rdX t t.n z pl2 c :: rows c
def vX1 (c : Ct) : AV := .tup [.agg (scR pl2 c), iA 0]
/-- A scene that was read, frozen. -/
def scF (c : Ct) : List AV := [.sl 13 c.nS c.S, .sl 2 c.nO c.O, .sl 8 c.nF c.F, .sl 10 c.nK c.K, .sl 6 c.nL c.L, iA (c.sky 0), iA (c.sky 1), iA (c.sky 2), .f (c.eye 0), .f (c.eye 1), .f (c.eye 2), .f (c.eye 3), .f (c.eye 4), .f (c.eye 5), .f (c.eye 6), .f (c.eye 7), .f (c.eye 8), .f (c.eye 9)]
noncomputable def wRd (t : Tk) (zf : Nat → Int) (cf : Ct) : WEntry := wQ Tryz.prog 24 (fun _ _ => vX1 cf) (fun _ _ => pX1 t zf cf)
noncomputable def kTk (t : Tk) : KEntry := kS Tryz.prog 25 (fun _ => tkSl t)
noncomputable def tPa (t : Tk) (zf : Nat → Int) (cf : Ct) : Tab := tabW [] [kTk t] [] [wRd t zf cf] []
def paZ : Nat → Option ZFun := oneZ 9003 (zSeq (fgZ [2, 3] [some 0, some 2, some 3, some 4, some 5, some 6]) (zSeq (frzK 1) (zSeq (frzK 2) (zSeq (frzK 3) (zSeq (frzK 4) (frzK 5))))))
theorem paZ_ok : ∀ i h, paZ i = some h → ZSoundN 0 h := oneZ_ok (zSeq_ok fgZ_ok (zSeq_ok (frzK_ok 1) (zSeq_ok (frzK_ok 2) (zSeq_ok (frzK_ok 3) (zSeq_ok (frzK_ok 4) (frzK_ok 5))))))
def frB (n : Nat) (x : Option Out) : Option Out := cond ((Nat.beq n n && true) && true) x none
theorem frB_t (n : Nat) (x : Option Out) : frB n x = x := by unfold frB; rw [Nat.beq_refl]; rfl
section
variable (s : ByteArray) (t : Tk) (zf : Nat → Int) (cf : Ct)
theorem pa_ev : abodyZ Tryz.prog (tPa t zf cf) (drawnK Tryz.prog (tPa t zf cf)) noL paZ 40 Tryz.f8 [zA s] (fun v => some (Out.of v)) =
  cond (decide (20000 < ((s.size : Nat) : Int))) (some (Out.of (.tup [.agg scZ, iA 4]))) (gate (FSpec Tryz.prog 25 [zA s] (tkSl t)) (cond (propB (WSpec Tryz.prog 24 [.own 1 0] [.c scZ, rdN t] (vX1 cf) (pX1 t zf cf))) (frB cf.nS (frB cf.nO (frB cf.nF (frB cf.nK (frB cf.nL (some (Out.of (.tup [.agg (scF cf), iA 0]))))))) ) none)) := by kernel_rfl
end
section
variable {s : ByteArray} {t : Tk} {zf : Nat → Int} {c cf : Ct}
theorem read_frame (h : Rest t zf cf 0 z0 (ct0 c)) (hz : zf 21 = 1) : WSpec Tryz.prog 24 [.own 1 0] [.c scZ, rdN t] (vX1 cf) (pX1 t zf cf) := by
  have hw := wframe (args := [.own 1 0]) (mem := [.c scZ, rdN t]) (mem' := pX1 t zf cf) (read_spec h hz) [1] (by rfl) (by rfl) (by rfl) (fun i k hi => ?_) ⟨fun k hk hlt => ?_, fun i k r hi hr => ?_, fun i r hi hr => ?_⟩
  · exact hw
  · have : i = 0 := by have := (List.getElem?_eq_some_iff.1 hi).1; simpa using this
    subst this
    cases hi
    exact ⟨rdN t, rfl, rfl, by show some (rdN t) = some _; congr 1⟩
  · have : k = 0 := by simp at hlt hk; omega
    subst this
    rfl
  · have : i = 0 := by have := (List.getElem?_eq_some_iff.1 hi).1; simpa using this
    subst this
    cases hi
    cases hr
    show some _ = some _
    congr 1
  · match i, hr with
    | 1, hr => cases hr; rfl
    | 2, hr => cases hr; rfl
    | 3, hr => cases hr; rfl
    | 4, hr => cases hr; rfl
    | 5, hr => cases hr; rfl
    | 6, hr => cases hr; rfl
    | n + 7, hr => cases hr
/-- PARSE: what is read of a text that is cut into these tokens. -/
theorem parse_spec (hs : s.size ≤ 20000) (ht : FSpec Tryz.prog 25 [zA s] (tkSl t)) (h : Rest t zf cf 0 z0 (ct0 c)) (hz : zf 21 = 1) : FSpec Tryz.prog 8 [zA s] (.tup [.agg (scF cf), iA 0]) := by
  refine spec_of_bodyZ paZ_ok (tabW_ok e_nil (k_cons kS_ok k_nil) m_nil (w_cons (wQ_ok (g := fun _ _ => vX1 cf) (m := fun _ _ => pX1 t zf cf)) w_nil) r_nil) (drawnK_ok (tabW_ok e_nil (k_cons kS_ok k_nil) m_nil (w_cons wQ_ok w_nil) r_nil) (by kernel_rfl)) 40 Tryz.func8 (by kernel_rfl) (c := bodyOf Tryz.f8) (by kernel_rfl) noL_ok rfl ((pa_ev s t zf cf).trans ?_)
  rw [decide_eq_false (by omega), gate_pos ht, propB_t (read_frame h hz)]
  show frB _ _ = _
  simp only [frB_t]
end
end Go.Proofs.YtefphimaggjihaaGreatDoor.Pi.Rd

namespace Go.Proofs.YtefphimaggjihaaGreatDoor.Pi.Rd
open Go.Shelf Go.RowKit Go.Gv
open Hs (shC)
def wBy : List UInt8 := [98, 121]
noncomputable def reIn : Code := match bodyOf Tryz.f186 with
  | .scope c => c
  | _ => .skip
noncomputable def reRest : Code := (findLabel reIn 0).getD .skip
theorem re_find : findLabel reIn 0 = some reRest := by kernel_rfl
theorem re_body : Tryz.f186.body = some (.scope reIn) := by kernel_rfl
/-- Within the braces: one more is open, points are shifted. -/
def zR3 (z : Nat → Int) (s0 s1 s2 : Int) : Nat → Int := setZ (setZ (setZ (setZ z 23 (w64 (z 23 + 1))) 24 s0) 25 s1) 26 s2
def zR0 (z : Nat → Int) : Nat → Int := setZ z 23 (w64 (w64 (z 23 + 1) - 1))
/-- So many shapes were read. -/
def cN (c : Ct) (m : Nat) : Ct := { c with nS := m }
section
variable (t : Tk) (a b : Nat) (z : Nat → Int) (c : Ct) (m m' : Nat) (n j s0 s1 s2 : Int)
noncomputable def wCn : WEntry := wQ Tryz.prog 217 (fun _ _ => iA n) (fun _ mem => adv 1 mem)
noncomputable def wTh3 : WEntry := wQ Tryz.prog 218 (fun _ mem => n3 t (atM mem)) (fun _ mem => adv 3 mem)
noncomputable def wBr1 : WEntry := wQ Tryz.prog 219 (fun _ _ => .tup []) (fun _ mem => adv 1 mem)
noncomputable def wTi (m : List Row) : WEntry := wQ Tryz.prog 113 (fun _ _ => .tup []) (fun _ _ => m)
def stR : Row := .c [iA (t.N (a + 2)), iA (t.N (a + 2 + 1)), iA (t.N (a + 2 + 2))]
def shR (s0 s1 s2 : Int) : Row := .c [iA s0, iA s1, iA s2]
def scRow : Row := .c (scR pl0 c)
def sixQ (c : Ct) : List Row := [dd, rO c, rF c, rK c, rL c, rN c]
/-- Behind the things: a shape more. -/
def mT0 (x : Nat) : List Row := rdX t x (zR3 z (z 24) (z 25) (z 26)) { pl0 with s := 10 } (cN c m) :: (sixQ c ++ [stR t a, scRow c, shR (z 24) (z 25) (z 26), rS (cN c m)])
def m0 (x : Nat) : List Row := M7 t x z c
def m1 (x : Nat) : List Row := M7 t x z c ++ [stR t a]
def m2 (x : Nat) : List Row := M7 t x (zR3 z (z 24) (z 25) (z 26)) c ++ [stR t a, scRow c, shR (z 24) (z 25) (z 26)]
noncomputable def reHd (k : Option Out) : Option Out := qC 217 [iA 16] (iA n) (m0 t z c a) (m0 t z c (a + 1)) (qAsk wBy (m0 t z c (a + 1)) (m0 t z c (a + 1 + 1)) (qC 218 [] (n3 t (a + 1 + 1)) (m0 t z c (a + 1 + 1)) (m0 t z c (a + 1 + 1 + 3)) (
  qC 219 [iA (z 23)] (.tup []) (m1 t a z c (a + 1 + 1 + 3)) (m1 t a z c (a + 1 + 1 + 3 + 1)) (qC 113 [] (.tup []) (m2 t a z c (a + 1 + 1 + 3 + 1)) (mT0 t a z c m b) (qAsk [125] (mT0 t a z c m b) (mT0 t a z c m (b + 1)) k)))))
noncomputable def reW : List WEntry := [wCn n, wAk, wTh3 t, wBr1, wTi (mT0 t a z c m b)]
/-- Once. -/
def MT : List Row := rdX t b z { pl0 with s := 7 } (cN c m) :: (sixQ c ++ [rS (cN c m)])
theorem re_1 : evGW Tryz.prog [] [] [] (reW t a b z c m 1) [] noL Tryz.f186 [.own 0 0] (M7 t a z c) [some 0, some 1, some 2, some 3, some 4, some 5, some 6, some 10] = reHd t a b z c m 1 (gout (.tup []) (MT t (b + 1) (zR0 z) c m)) := by kernel_rfl
/-- Not at all. -/
def M0 : List Row := rdX t b z pl0 c :: sixQ c
theorem re_0 : evGW Tryz.prog [] [] [] (reW t a b z c m 0) [] noL Tryz.f186 [.own 0 0] (M7 t a z c) [some 0, some 1, some 2, some 3, some 4, some 5, some 6] = reHd t a b z c m 0 (gout (.tup []) (M0 t (b + 1) (zR0 z) c)) := by kernel_rfl
def reM (x p : Nat) : List Row := rdX t x (zR3 z s0 s1 s2) { pl0 with s := p } (cN c m) :: sixQ c
def reS : St := mkS 87 [(0, .own 0 0), (2, iA n), (3, .own 7 0), (4, iA ((a + 1 + 1 + 3 + 1 : Nat) : Int)), (6, .own 8 0), (7, iA j)] (reM t z c m s0 s1 s2 (a + 1 + 1 + 3 + 1) 9 ++ [stR t a, shR (z 24) (z 25) (z 26), rS (cN c m)])
def reP (x : Nat) : List Row := reM t z c m s0 s1 s2 x 10 ++ [stR t a, shR (z 24) (z 25) (z 26), dd, rS (cN c m)]
def reF : St := mkS 87 [(0, .own 0 0)] (MT t (b + 1) (zR0 z) c m)
theorem re_g : evCW Tryz.prog [] [] [] (reW t a b z c m n) [] noL reIn (Gv.start Tryz.f186 (M7 t a z c) [.own 0 0]) (finX [0, 2, 3, 4, 6, 7] [some 0, some 1, some 2, some 3, some 4, some 5, some 6, some 7, some 9, some 10]) =
  reHd t a b z c m n (cond (decide (w64 (0 + 1) < n)) (some ⟨.goto 0, reS t a z c m n (w64 (0 + 1)) (w64 (z 24 + t.N (a + 2))) (w64 (z 25 + t.N (a + 2 + 1))) (w64 (z 26 + t.N (a + 2 + 2))), .any⟩) (cond (n == 0) none none)) := by kernel_rfl
noncomputable def reTi (k : Option Out) : Option Out := qC 113 [] (.tup []) (reM t z c m s0 s1 s2 (a + 1 + 1 + 3 + 1) 9 ++ [stR t a, shR (z 24) (z 25) (z 26), rS (cN c m)]) (reP t a z c m' s0 s1 s2 b) (qAsk [125] (reP t a z c m' s0 s1 s2 b) (reP t a z c m' s0 s1 s2 (b + 1)) k)
theorem re_p : evCW Tryz.prog [] [] [] [wTi (reP t a z c m' s0 s1 s2 b), wAk] [] noL reRest (reS t a z c m n j s0 s1 s2) (finX [0, 2, 3, 4, 6, 7] [some 0, some 1, some 2, some 3, some 4, some 5, some 6, some 7, some 8, some 10]) =
  reTi t a b z c m m' s0 s1 s2 (cond (decide (w64 (j + 1) < n)) (some ⟨.goto 0, reS t a z c m' n (w64 (j + 1)) (w64 (s0 + t.N (a + 2))) (w64 (s1 + t.N (a + 2 + 1))) (w64 (s2 + t.N (a + 2 + 2))), .any⟩) (cond (n == 0) none none)) := by kernel_rfl
theorem re_e : evCW Tryz.prog [] [] [] [wTi (reP t a z c m' s0 s1 s2 b), wAk] [] noL reRest (reS t a z c m n j s0 s1 s2) (finN [0] [some 0, some 1, some 2, some 3, some 4, some 5, some 6, some 10]) =
  reTi t a b z c m m' s0 s1 s2 (cond (decide (w64 (j + 1) < n)) none (cond (n == 0) none (some ⟨.normal, reF t b z c m', .any⟩))) := by kernel_rfl
theorem re_out : outG Tryz.prog Tryz.f186 [some 0, some 1, some 2, some 3, some 4, some 5, some 6, some 7] (reF t b z c m) = gout (.tup []) (MT t (b + 1) (zR0 z) c m) := by kernel_rfl
end
end Go.Proofs.YtefphimaggjihaaGreatDoor.Pi.Rd

namespace Go.Proofs.YtefphimaggjihaaGreatDoor.Pi.Rd
open Go.Shelf Go.RowKit Go.Gv
open Hs (shC)
def τ8 : List (Option Nat) := [some 0, some 1, some 2, some 3, some 4, some 5, some 6, some 7]
section
variable (t : Tk) (a : Nat) (z : Nat → Int) (c : Ct) (b : Nat) (x : List AV)
/-- Behind one shape more. -/
def MR : List Row := MT t b z c (c.nS + 1)
theorem tl_s7 : tlE t a z c (MS t z c b x) τ8 = tlX t a z c (MS t z c b x) (some ⟨.normal, thS (MS t z c b x), .any⟩) := by kernel_rfl
theorem tl_end7 : evCW Tryz.prog [] [] [] [] [] noL (loopAt Tryz.f113 0) (thS (MR t z c b)) (finE [0] τ8) = cond (tlI t b) (cond (tlT t b) none (some ⟨.exit 0, thS (MR t z c b), .any⟩)) none := by kernel_rfl
theorem ti_ev : evGW Tryz.prog [] [] [] [] [] (oneL 0 (toldP 7 [0] τ6 (thS (M7 t a z c)) (.exit 0) (thS (MR t z c b)))) Tryz.f113 [.own 0 0] (M7 t a z c) τ8 = gate (SubN 7 (thS (M7 t a z c)) (thS (M7 t a z c))) (gout (.tup []) (MR t z c b)) := by kernel_rfl
end
section
variable {t : Tk} {a : Nat} {z : Nat → Int} {c : Ct} {b : Nat} {x : List AV} {w : List UInt8}
theorem tlT_no (h : Has t b 1) (hb : Is t b [125]) : tlT t b = false := by
  unfold tlT
  have hT : t.T b = lB [125] := hb
  rw [dec_lt (by have := h.1; omega), hT, sEq, bL_lB]
  rfl
theorem tin_spec (h : Has t a 1) (hw : Is t a w) (hn : Not w) (hth : GSpec Tryz.prog 148 [.own 0 0] (M7 t a z c) (.tup []) (MS t z c b x)) (hx : c.S c.nS = x) (hm : ∀ q, q ≤ c.nS → Mx (c.S q) x) (hb : Has t b 1) (hbr : Is t b [125]) : GSpec Tryz.prog 113 [.own 0 0] (M7 t a z c) (.tup []) (MR t z c b) := by
  have l1 : LeadsN 7 Tryz.prog (loopAt Tryz.f113 0) (thS (M7 t a z c)) .normal (thS (MR t z c b)) := by
    refine LeadsN.sub (leads_evWN (finN_subN _ (by rfl)) e_nil k_nil m_nil (w_cons wQ_ok w_nil) r_nil noL_okN ((tl_s7 t a z c b x).trans ?_)) (SubN.refl _) (sub_like (mem := MS t z c b x) ⟨Or.inl rfl, Or.inl rfl, Or.inl rfl, Or.inl rfl, Or.inl rfl, Or.inl rfl, Or.inl rfl, likeA fun _ hq => ap_el hx hm hq, trivial⟩)
    unfold tlX
    rw [tlI_t h, tlT_t h hw hn]
    exact qC_t (wspec_of hth) _
  have l2 : LeadsN 7 Tryz.prog (loopAt Tryz.f113 0) (thS (MR t z c b)) (.exit 0) (thS (MR t z c b)) := by
    refine leads_evWN (finE_subN _ (by rfl)) e_nil k_nil m_nil w_nil r_nil noL_okN ((tl_end7 t z c b).trans ?_)
    rw [tlI_t hb, tlT_no hb hbr]
    rfl
  refine gspecGW e_nil k_nil m_nil w_nil r_nil Tryz.func113 (by kernel_rfl) (by kernel_rfl) (mem := M7 t a z c) (lokN_one (i := 0) 1 (by kernel_rfl) fun j hj _ => ?_) rfl (τ := τ8) (by rfl) ((ti_ev t a z c b).trans (gate_pos (SubN.refl _)))
  have : j = 0 := by omega
  subst this
  exact toldP_sound (by rfl) (RunsN.loop (by simp) (RunsN.cons l1 (RunsN.last l2)))
/-- Among the rows of repeat: the first time. -/
theorem tin_first {y : Nat} {X : List Row} (hX : X.length = 3) (hg : GSpec Tryz.prog 113 [.own 0 0] (M7 t y z c) (.tup []) (MR t z c b)) : WSpec Tryz.prog 113 [.own 0 0] (M7 t y z c ++ X) (.tup []) (rdX t b z { pl0 with s := 10 } (cN c (c.nS + 1)) :: (sixQ c ++ (X ++ [rS (cN c (c.nS + 1))]))) := by
  refine wframeX 7 rfl hg X rfl M7_live0 rfl (by show 7 ≤ 8; omega) rfl ?_
  rw [hX]
  rfl
end
/-- Among the rows of repeat: later. -/
theorem tin_later {t : Tk} {y b : Nat} {z : Nat → Int} {c : Ct} {m : Nat} {r1 r2 : Row} (hg : GSpec Tryz.prog 113 [.own 0 0] (M7 t y z (cN c m)) (.tup []) (MR t z (cN c m) b)) : WSpec Tryz.prog 113 [.own 0 0] (rdX t y z { pl0 with s := 9 } (cN c m) :: (sixQ c ++ [r1, r2, rS (cN c m)])) (.tup []) (rdX t b z { pl0 with s := 10 } (cN c (m + 1)) :: (sixQ c ++ [r1, r2, dd, rS (cN c (m + 1))])) := by
  have hw := wframe (args := [.own 0 0]) (mem := rdX t y z { pl0 with s := 9 } (cN c m) :: (sixQ c ++ [r1, r2, rS (cN c m)])) (mem' := rdX t b z { pl0 with s := 10 } (cN c (m + 1)) :: (sixQ c ++ [r1, r2, dd, rS (cN c (m + 1))])) hg [0, 9, 2, 3, 4, 5, 6] (by rfl) (by rfl) (by rfl) (fun i k hi => ?_) ⟨fun k hk hlt => ?_, fun i k r hi hr => ?_, fun i r hi hr => ?_⟩
  · exact hw
  · match i, hi with
    | 0, hi => cases hi; exact ⟨_, rfl, rfl, rfl⟩
    | 1, hi => cases hi; exact ⟨_, rfl, rfl, rfl⟩
    | 2, hi => cases hi; exact ⟨_, rfl, rfl, rfl⟩
    | 3, hi => cases hi; exact ⟨_, rfl, rfl, rfl⟩
    | 4, hi => cases hi; exact ⟨_, rfl, rfl, rfl⟩
    | 5, hi => cases hi; exact ⟨_, rfl, rfl, rfl⟩
    | 6, hi => cases hi; exact ⟨_, rfl, rfl, rfl⟩
  · have h10 : k < 10 := hlt
    match k, h10 with
    | 0, _ => exact absurd (by simp) hk
    | 1, _ => rfl
    | 2, _ => exact absurd (by simp) hk
    | 3, _ => exact absurd (by simp) hk
    | 4, _ => exact absurd (by simp) hk
    | 5, _ => exact absurd (by simp) hk
    | 6, _ => exact absurd (by simp) hk
    | 7, _ => rfl
    | 8, _ => rfl
    | 9, _ => exact absurd (by simp) hk
  · match i, hi, hr with
    | 0, hi, hr => cases hi; cases hr; rfl
    | 1, hi, hr => cases hi; cases hr; rfl
    | 2, hi, hr => cases hi; cases hr; rfl
    | 3, hi, hr => cases hi; cases hr; rfl
    | 4, hi, hr => cases hi; cases hr; rfl
    | 5, hi, hr => cases hi; cases hr; rfl
    | 6, hi, hr => cases hi; cases hr; rfl
  · match i, hi, hr with
    | 7, _, hr => cases hr; rfl
    | n + 8, _, hr => cases hr
end Go.Proofs.YtefphimaggjihaaGreatDoor.Pi.Rd

namespace Go.Proofs.YtefphimaggjihaaGreatDoor.Pi.Rd
open Go.Shelf Go.RowKit Go.Gv
/-- A reader without shapes. -/
def oZ (i : Pl) (c : Ct) (q : Nat) : AV := match q with
  | 2 => .sl 13 0 c.S
  | 3 => .osl i.o 2 0 c.nO
  | 4 => .osl i.f 8 0 c.nF
  | 5 => .osl i.k 10 0 c.nK
  | 6 => .osl i.l 6 0 c.nL
  | 7 => iA (c.sky 0)
  | 8 => iA (c.sky 1)
  | 9 => iA (c.sky 2)
  | 10 => .f (c.eye 0)
  | 11 => .f (c.eye 1)
  | 12 => .f (c.eye 2)
  | 13 => .f (c.eye 3)
  | 14 => .f (c.eye 4)
  | 15 => .f (c.eye 5)
  | 16 => .f (c.eye 6)
  | 17 => .f (c.eye 7)
  | 18 => .f (c.eye 8)
  | 19 => .f (c.eye 9)
  | 20 => .osl i.n 1 0 c.nN
  | _ => .any
def rdZ (t : Tk) (a : Nat) (z : Nat → Int) (i : Pl) (c : Ct) : Row := rdR t a z (oZ i c)
def rowsZ (c : Ct) : List Row := [dd, rO c, rF c, rK c, rL c, rN c]
def MZ (t : Tk) (a : Nat) (z : Nat → Int) (c : Ct) : List Row := rdZ t a z pl0 c :: rowsZ c
/-- The rest is read, and no shape is left. -/
def RestZ (t : Tk) (zf : Nat → Int) (cf : Ct) (a : Nat) (z : Nat → Int) (c : Ct) : Prop := RunsN 1 (loopAt Tryz.f113 0) (thS (M7 t a z c)) (.exit 0) (thS (MZ t t.n zf cf))
def scRZ (i : Pl) (c : Ct) : List AV := [oZ i c 2, oZ i c 3, oZ i c 4, oZ i c 5, oZ i c 6, oZ i c 7, oZ i c 8, oZ i c 9, oZ i c 10, oZ i c 11, oZ i c 12, oZ i c 13, oZ i c 14, oZ i c 15, oZ i c 16, oZ i c 17, oZ i c 18, oZ i c 19]
def rdX1Z (t : Tk) (z : Nat → Int) (c : Ct) (l : List AV) : List Row := rdZ t t.n z pl3 c :: .c l :: .c [iA 0] :: rowsZ c
noncomputable def wAlZ (t : Tk) (zf : Nat → Int) (cf : Ct) : WEntry := wQ Tryz.prog 69 (fun _ _ => .tup []) (fun _ _ => rdX1Z t zf cf scZ)
noncomputable def tAlZ (t : Tk) (zf : Nat → Int) (cf : Ct) : Tab := tabW [] [] [] [wAlZ t zf cf] []
def rs2Z (t : Tk) (z : Nat → Int) (c : Ct) : St := u11 [(0, .own 0 0), (2, .own 1 0), (3, .own 2 0), (4, .any), (5, .own 0 0), (6, .tup [])] (rdX1Z t z c scZ)
def rs3Z (t : Tk) (z : Nat → Int) (c : Ct) : St := u11 [(0, .own 0 0), (2, .own 1 0), (3, .own 2 0), (4, .any), (5, .own 0 0), (6, .tup []), (7, .own 0 0), (8, .own 0 0), (9, .own 0 2), (10, .agg (scRZ pl3 c))] (rdX1Z t z c (scRZ pl3 c))
def pX1Z (t : Tk) (z : Nat → Int) (c : Ct) : List Row := .c scZ :: rdZ t t.n z pl2 c :: rowsZ c
def vX1Z (c : Ct) : AV := .tup [.agg (scRZ pl2 c), iA 0]
noncomputable def wRdZ (t : Tk) (zf : Nat → Int) (cf : Ct) : WEntry := wQ Tryz.prog 24 (fun _ _ => vX1Z cf) (fun _ _ => pX1Z t zf cf)
noncomputable def tPaZ (t : Tk) (zf : Nat → Int) (cf : Ct) : Tab := tabW [] [kTk t] [] [wRdZ t zf cf] []
def paZZ : Nat → Option ZFun := oneZ 9003 (zSeq (fgZ [2, 3] [some 0, some 3, some 4, some 5, some 6]) (zSeq (frzK 1) (zSeq (frzK 2) (zSeq (frzK 3) (frzK 4)))))
theorem paZZ_ok : ∀ i h, paZZ i = some h → ZSoundN 0 h := oneZ_ok (zSeq_ok fgZ_ok (zSeq_ok (frzK_ok 1) (zSeq_ok (frzK_ok 2) (zSeq_ok (frzK_ok 3) (frzK_ok 4)))))
def scFZ (c : Ct) : List AV := [.sl 13 0 c.S, .sl 2 c.nO c.O, .sl 8 c.nF c.F, .sl 10 c.nK c.K, .sl 6 c.nL c.L, iA (c.sky 0), iA (c.sky 1), iA (c.sky 2), .f (c.eye 0), .f (c.eye 1), .f (c.eye 2), .f (c.eye 3), .f (c.eye 4), .f (c.eye 5), .f (c.eye 6), .f (c.eye 7), .f (c.eye 8), .f (c.eye 9)]
section
variable (s : ByteArray) (t : Tk) (zf : Nat → Int) (c cf : Ct)
theorem tlZ_end : evCW Tryz.prog [] [] [] [] [] noL (loopAt Tryz.f113 0) (thS (MZ t t.n zf cf)) (finE [0] τ6) = cond (tlI t t.n) (cond (tlT t t.n) none (some ⟨.exit 0, thS (MZ t t.n zf cf), .any⟩)) none := by kernel_rfl
theorem tsZ_ev : evGW Tryz.prog [] [] [] [] [] (oneL 0 (toldP 1 [0] [some 0] (thS (M7 t 0 z0 (ct0 c))) (.exit 0) (thS (MZ t t.n zf cf)))) Tryz.f113 [.own 0 0] [rdN t] τ6 = gate (SubN 1 (thS [rdN t]) (thS (M7 t 0 z0 (ct0 c)))) (gout (.tup []) (MZ t t.n zf cf)) := by kernel_rfl
noncomputable def wTsZ : WEntry := wQ Tryz.prog 113 (fun _ _ => .tup []) (fun _ _ => MZ t t.n zf cf)
theorem alZ_ev : evGW Tryz.prog [] [] [] [wTsZ t zf cf] [] noL Tryz.f69 [.own 0 0] [rdN t] τ6 = qC 113 [] (.tup []) [rdN t] (MZ t t.n zf cf) (cond (decide (((t.n : Nat) : Int) < ((t.n : Nat) : Int))) none (cond (zf 21 == 0) none (gout (.tup []) (MZ t t.n zf cf)))) := by kernel_rfl
theorem rdZ_0 : aopsK Tryz.prog (tAlZ t zf cf) (rdo 0).toList (rdo 0).toList (Gv.start Tryz.f24 [rdN t] [.own 0 0]) kR = rR (rs1 t) := by kernel_rfl
theorem rdZ_2 : aopsK Tryz.prog (tAlZ t zf cf) (rdo 2).toList (rdo 2).toList (rs1' t) kR = qC 69 [] (.tup []) (rdX0 t) (rdX1Z t zf cf scZ) (rR (rs2Z t zf cf)) := by kernel_rfl
theorem rdZ_3 : aopsK Tryz.prog (tAlZ t zf cf) (rdo 3).toList (rdo 3).toList (rs2Z t zf cf) kR = rR (rs3Z t zf cf) := by kernel_rfl
theorem rdZ_4 : outG Tryz.prog Tryz.f24 τr (rs3Z t zf cf) = some ⟨.normal, ⟨[], MZ t t.n zf cf⟩, .tup [.agg (scRZ pl0 cf), iA 0]⟩ := by kernel_rfl
theorem paZ_ev : abodyZ Tryz.prog (tPaZ t zf cf) (drawnK Tryz.prog (tPaZ t zf cf)) noL paZZ 40 Tryz.f8 [zA s] (fun v => some (Out.of v)) =
  cond (decide (20000 < ((s.size : Nat) : Int))) (some (Out.of (.tup [.agg scZ, iA 4]))) (gate (FSpec Tryz.prog 25 [zA s] (tkSl t)) (cond (propB (WSpec Tryz.prog 24 [.own 1 0] [.c scZ, rdN t] (vX1Z cf) (pX1Z t zf cf))) (frB cf.nO (frB cf.nF (frB cf.nK (frB cf.nL (some (Out.of (.tup [.agg (scFZ cf), iA 0]))))))) none)) := by kernel_rfl
end
section
variable {s : ByteArray} {t : Tk} {zf : Nat → Int} {c cf : Ct}
theorem endZ_ok (zf : Nat → Int) (cf : Ct) : RunsN 1 (loopAt Tryz.f113 0) (thS (MZ t t.n zf cf)) (.exit 0) (thS (MZ t t.n zf cf)) := by
  refine RunsN.last (leads_evWN (finE_subN _ (by rfl)) e_nil k_nil m_nil w_nil r_nil noL_okN ((tlZ_end t zf cf).trans ?_))
  unfold tlI tlT
  rw [dec_self]
  have : ixB ((t.n : Nat) : Int) t.n = false := by unfold ixB; rw [dec_self, Bool.and_false]
  rw [this]
  rfl
theorem thingsZ_spec (h : RestZ t zf cf 0 z0 (ct0 c)) : GSpec Tryz.prog 113 [.own 0 0] [rdN t] (.tup []) (MZ t t.n zf cf) := by
  refine gspecGW e_nil k_nil m_nil w_nil r_nil Tryz.func113 (by kernel_rfl) (by kernel_rfl) (mem := [rdN t]) (lokN_one (i := 0) 1 (by kernel_rfl) fun j hj _ => ?_) rfl (τ := τ6) (by rfl) ((tsZ_ev t zf c cf).trans (gate_pos sub_0))
  have : j = 0 := by omega
  subst this
  exact toldP_sound (by rfl) (RunsN.loop (by simp) h)
theorem allZ_spec (h : RestZ t zf cf 0 z0 (ct0 c)) (hz : zf 21 = 1) : GSpec Tryz.prog 69 [.own 0 0] [rdN t] (.tup []) (MZ t t.n zf cf) := by
  refine gspecGW e_nil k_nil m_nil (w_cons wQ_ok w_nil) r_nil Tryz.func69 (by kernel_rfl) (by kernel_rfl) (mem := [rdN t]) noL_okN rfl (τ := τ6) (by rfl) ((alZ_ev t zf cf).trans ?_)
  refine (qC_t (wspec_of (thingsZ_spec h)) _).trans ?_
  rw [dec_self, hz]
  rfl
theorem readZ_spec (h : RestZ t zf cf 0 z0 (ct0 c)) (hz : zf 21 = 1) : GSpec Tryz.prog 24 [.own 0 0] [rdN t] (.tup [.agg (scRZ pl0 cf), iA 0]) (MZ t t.n zf cf) := by
  refine gspec_defer (tabW_ok e_nil k_nil m_nil (w_cons (wQ_ok (g := fun _ _ => .tup []) (m := fun _ _ => rdX1Z t zf cf scZ)) w_nil) r_nil) Tryz.func24 (by kernel_rfl) ⟨_, Tryz.func68, rfl, rfl⟩ (o0 := rdo 0) (o2 := rdo 2) (o3 := rdo 3) (k := 4) (x := 2) (y := 3) (g := 68) (by rfl) rfl rfl rfl rfl rfl rfl idle (by rfl) (τ := τr) (by rfl) (rdZ_0 t zf cf) (by rfl) (by rfl) (s2 := rs2Z t zf cf) ?_ (rdZ_3 t zf cf) (rdZ_4 t zf cf)
  rw [rd_1]
  refine (rdZ_2 t zf cf).trans ?_
  refine qC_t (wframeX 1 rfl (allZ_spec h hz) [.c scZ, .c [iA 0]] (by rfl) (fun i r hi => ?_) (by rfl) (by simp [MZ]) (by rfl) (by kernel_rfl)) _
  have : i = 0 := by have := (List.getElem?_eq_some_iff.1 hi).1; simpa using this
  subst this
  cases hi
  exact ⟨rfl, by kernel_rfl⟩
theorem readZ_frame (h : RestZ t zf cf 0 z0 (ct0 c)) (hz : zf 21 = 1) : WSpec Tryz.prog 24 [.own 1 0] [.c scZ, rdN t] (vX1Z cf) (pX1Z t zf cf) := by
  have hw := wframe (args := [.own 1 0]) (mem := [.c scZ, rdN t]) (mem' := pX1Z t zf cf) (readZ_spec h hz) [1] (by rfl) (by rfl) (by rfl) (fun i k hi => ?_) ⟨fun k hk hlt => ?_, fun i k r hi hr => ?_, fun i r hi hr => ?_⟩
  · exact hw
  · have : i = 0 := by have := (List.getElem?_eq_some_iff.1 hi).1; simpa using this
    subst this
    cases hi
    exact ⟨rdN t, rfl, rfl, by show some (rdN t) = some _; congr 1⟩
  · have : k = 0 := by simp at hlt hk; omega
    subst this
    rfl
  · have : i = 0 := by have := (List.getElem?_eq_some_iff.1 hi).1; simpa using this
    subst this
    cases hi
    cases hr
    show some _ = some _
    congr 1
  · match i, hr with
    | 1, hr => cases hr; rfl
    | 2, hr => cases hr; rfl
    | 3, hr => cases hr; rfl
    | 4, hr => cases hr; rfl
    | 5, hr => cases hr; rfl
    | 6, hr => cases hr; rfl
    | n + 7, hr => cases hr
theorem parseZ_spec (hs : s.size ≤ 20000) (ht : FSpec Tryz.prog 25 [zA s] (tkSl t)) (h : RestZ t zf cf 0 z0 (ct0 c)) (hz : zf 21 = 1) : FSpec Tryz.prog 8 [zA s] (.tup [.agg (scFZ cf), iA 0]) := by
  refine spec_of_bodyZ paZZ_ok (tabW_ok e_nil (k_cons kS_ok k_nil) m_nil (w_cons (wQ_ok (g := fun _ _ => vX1Z cf) (m := fun _ _ => pX1Z t zf cf)) w_nil) r_nil) (drawnK_ok (tabW_ok e_nil (k_cons kS_ok k_nil) m_nil (w_cons wQ_ok w_nil) r_nil) (by kernel_rfl)) 40 Tryz.func8 (by kernel_rfl) (c := bodyOf Tryz.f8) (by kernel_rfl) noL_ok rfl ((paZ_ev s t zf cf).trans ?_)
  rw [decide_eq_false (by omega), gate_pos ht, propB_t (readZ_frame h hz)]
  show frB _ _ = _
  simp only [frB_t]
end
end Go.Proofs.YtefphimaggjihaaGreatDoor.Pi.Rd

namespace Go.Proofs.YtefphimaggjihaaGreatDoor.Pi
open Go.Shelf Go.RowKit Go.Gv
def inW (b : UInt8) : Bool := iwB (b.toNat : Int) && decide (b.toNat < 128)
def Pnc (b : UInt8) : Prop := b = 59 ∨ b = 44 ∨ b = 123 ∨ b = 125
def GpC (b : UInt8) : Prop := b = 32 ∨ b = 10
/-- A token: a word, or a sign by itself. -/
def Tok1 (t : List UInt8) : Prop := (t ≠ [] ∧ ∀ b, b ∈ t → inW b = true) ∨ ∃ c, Pnc c ∧ t = [c]
theorem at_pre {F pre rest : List UInt8} {b : UInt8} (hF : F = pre ++ b :: rest) (hb : b.toNat < 128) : pre.length < (lB F).size ∧ dcI (lB F) pre.length = (b.toNat : Int) ∧ dcW (lB F) pre.length = pre.length + 1 := by
  have hs : pre.length < (lB F).size := by rw [size_lB, hF]; simp
  have hg : (bL (lB F)).getD pre.length 0 = b := by rw [bL_lB, hF, List.getD_eq_getElem?_getD, List.getElem?_append_right (Nat.le_refl _), Nat.sub_self]; rfl
  obtain ⟨h1, h2⟩ := dcX_low hs (by rw [hg]; exact hb)
  rw [hg] at h1
  exact ⟨hs, h1, h2⟩
theorem gap_at {F pre rest : List UInt8} {c : UInt8} (hF : F = pre ++ c :: rest) (hc : GpC c) : Gap (lB F) pre.length ∧ dcW (lB F) pre.length = pre.length + 1 := by
  obtain ⟨h1, h2, h3⟩ := at_pre hF (by rcases hc with rfl | rfl <;> decide)
  refine ⟨⟨h1, ?_, ?_⟩, h3⟩ <;> rw [h2] <;> rcases hc with rfl | rfl <;> decide
theorem pun_at {F pre rest : List UInt8} {c : UInt8} (hF : F = pre ++ c :: rest) (hc : Pnc c) : Pun (lB F) pre.length ∧ dcW (lB F) pre.length = pre.length + 1 ∧ Utf8.encode (dcI (lB F) pre.length) = lB [c] := by
  obtain ⟨h1, h2, h3⟩ := at_pre hF (by rcases hc with rfl | rfl | rfl | rfl <;> decide)
  refine ⟨⟨h1, ?_, ?_⟩, h3, ?_⟩ <;> rw [h2] <;> rcases hc with rfl | rfl | rfl | rfl <;> first | decide | rfl
theorem wrd_at : ∀ (w : List UInt8) {F pre rest : List UInt8}, F = pre ++ (w ++ rest) → (∀ b, b ∈ w → inW b = true) → Wrd (lB F) pre.length w.length (pre.length + w.length)
  | [], F, pre, rest, _, _ => by show pre.length = pre.length + 0; omega
  | b :: w, F, pre, rest, hF, h => by
    have hb := h b (by simp)
    unfold inW at hb
    simp only [Bool.and_eq_true, decide_eq_true_eq] at hb
    obtain ⟨h1, h2, h3⟩ := at_pre (F := F) (pre := pre) (rest := w ++ rest) (b := b) (by rw [hF]; rfl) hb.2
    refine ⟨h1, by rw [h2]; exact hb.1, ?_⟩
    have ih := wrd_at w (F := F) (pre := pre ++ [b]) (rest := rest) (by rw [hF]; simp) fun x hx => h x (by simp [hx])
    rw [List.length_append, List.length_singleton] at ih
    rw [h3, List.length_cons, show pre.length + (w.length + 1) = pre.length + 1 + w.length by omega]
    exact ih
theorem cut_inv {s : ByteArray} {p : Nat} {l : List ByteArray} (h : Cut s p l) (g : Gap s p) : Cut s (dcW s p) l := by
  obtain ⟨g1, g2, g3⟩ := g
  cases h with
  | fin h => omega
  | gap _ r => exact r
  | pun h _ => rw [h.2.2] at g3; cases g3
  | wrd h _ _ _ => rw [h.2.1] at g2; cases g2
theorem cut_one {F pre t rest : List UInt8} {c : UInt8} {l : List ByteArray} (hF : F = pre ++ (t ++ c :: rest)) (ht : Tok1 t) (hc : GpC c) (h : Cut (lB F) (pre ++ t).length l) : Cut (lB F) pre.length (lB t :: l) := by
  have hg := gap_at (F := F) (pre := pre ++ t) (rest := rest) (c := c) (by rw [hF]; simp) hc
  rcases ht with ⟨hne, hw⟩ | ⟨d, hd, rfl⟩
  · obtain ⟨k, hk⟩ : ∃ k, t.length = k + 1 := ⟨t.length - 1, by have := List.length_pos_iff.2 hne; omega⟩
    have hW := wrd_at t (F := F) (pre := pre) (rest := c :: rest) hF hw
    have hl : (pre ++ t).length = pre.length + t.length := List.length_append
    have e : (lB F).extract pre.length (pre.length + t.length) = lB t := by
      rw [← lB_bL ((lB F).extract _ _), bL_extract, bL_lB, hF, ← List.append_assoc, List.take_append_of_le_length (by rw [hl]; omega), List.take_of_length_le (by rw [hl]; omega)]
      simp
    rw [hk] at hW
    have := Cut.wrd (s := lB F) (p := pre.length) (k := k) (q := pre.length + (k + 1)) hW (by omega) (by rw [← hk, ← hl]; exact hg.1) (by rw [← hk, ← hl]; exact cut_inv h hg.1)
    rw [← hk, e] at this
    exact this
  · obtain ⟨h1, h2, h3⟩ := pun_at (F := F) (pre := pre) (rest := c :: rest) (c := d) (by rw [hF]; rfl) hd
    have := Cut.pun h1 (l := l) (by rw [h2]; rw [List.length_append] at h; exact h)
    rw [h3] at this
    exact this
end Go.Proofs.YtefphimaggjihaaGreatDoor.Pi

namespace Go.Proofs.YtefphimaggjihaaGreatDoor.Pi
open Go.Shelf Go.RowKit Go.Gv
open Hs.Sc (Scn)
def skyW : List UInt8 := [115, 107, 121]
section
variable (L : Nat → List UInt8) (U : Nat → Bool) (s : Scn) (l l1 : List UInt8) (b u u1 : Bool) (i : Int)
def q1 (i : Int) (mem : List Row) : St := mkS 96 [(0, .own 0 0), (3, .own 1 0), (28, s.vK), (29, iA s.nK), (30, iA i)] mem
def q2 (i : Int) (mem : List Row) : St := mkS 96 [(0, .own 0 0), (3, .own 1 0), (41, s.vL), (42, iA s.nL), (43, iA i)] mem
def q3 (i : Int) (mem : List Row) : St := mkS 96 [(0, .own 0 0), (3, .own 1 0), (52, s.vS), (53, iA s.nS), (54, iA i)] mem
def q4 (i : Int) (mem : List Row) : St := mkS 96 [(0, .own 0 0), (3, .own 1 0), (67, s.vO), (68, iA s.nO), (69, iA i)] mem
def q5 (i : Int) (mem : List Row) : St := mkS 96 [(0, .own 0 0), (3, .own 1 0), (82, s.vF), (83, iA s.nF), (84, iA i)] mem
end
section
variable (L : Nat → List UInt8) (U : Nat → Bool) (s : Scn) (l1 k1 k2 k3 k4 k5 : List UInt8) (u1 v1 v2 v3 v4 v5 : Bool)
end
def lineL (E : Nat → List UInt8) : Nat → List UInt8
  | 0 => []
  | j + 1 => lineL E j ++ E j
def anyN (B : Nat → Bool) : Nat → Bool
  | 0 => false
  | j + 1 => anyN B j || B j
end Go.Proofs.YtefphimaggjihaaGreatDoor.Pi

namespace Go.Proofs.YtefphimaggjihaaGreatDoor.Pi
open Go.Shelf Go.RowKit Go.Gv
open Hs.Sc (Scn)
section
variable (dc : Int → List UInt8) (tn : Nat → Int) (tb : Nat → Bool) (s : Scn)
def skI (j : Nat) : List SI := [.w 90 [.agg (Hs.Sc.skC (s.K j)), iA (j : Nat)] (fun b => lineE b (skT dc (s.K j) (fun q => s.K j (3 + q)) (fun q => s.K j (6 + q)) (s.K j 9) (j : Nat))) false false]
def lmI (j : Nat) : List SI := [.w 91 [.agg (Hs.Sc.lmC (s.LA j) (s.LL j))] (fun b => lineE b (lamT dc tn (s.LA j) (s.LL j))) (vB tb (s.LA j) 0) false]
def sWr (k : Int) : SI := .w 93 [iA k] (fun b => lineE b [nmT k]) false false
def shI (j : Nat) : List SI := [.w 92 [.agg (s.S j).c] (fun b => tks b (shT dc tn (s.S j).k (s.S j).a)) (shB tb (s.S j).k (s.S j).a (s.S j).sk) true, sWr (s.S j).sk]
noncomputable def soI (j : Nat) : List SI := [.w 94 [.agg (s.O j).c] (fun b => tks b (soT dc tn (s.O j).n (s.O j).P)) (soB tb (s.O j).n (s.O j).P) true, sWr (s.O j).sk]
def skyI : List SI := [sPut skyW, sWh s.sky, sEnd]
def x0 : List UInt8 := lineE false (eyT dc tn s.eye)
def x1 : List UInt8 := x0 dc tn s ++ comp (skyI s) false
def x2 : List UInt8 := x1 dc tn s ++ lineL (fun j => comp (skI dc s j) false) s.nK
def w1 : Bool := eyB tb s.eye || cbad (skyI s)
def w2 : Bool := w1 tb s || anyN (fun j => cbad (skI dc s j)) s.nK
def w3 : Bool := w2 dc tb s || anyN (fun j => cbad (lmI dc tn tb s j)) s.nL
def w4 : Bool := w3 dc tn tb s || anyN (fun j => cbad (shI dc tn tb s j)) s.nS
noncomputable def w5 : Bool := w4 dc tn tb s || anyN (fun j => cbad (soI dc tn tb s j)) s.nO
/-- What is known of a scene's numbers. -/
structure ScN : Prop where
  e0 : NV dc tn tb s.eye 0
  e3 : NV dc tn tb s.eye 3
  e6 : NV dc tn tb s.eye 6
  e9 : Nu dc tn tb (s.eye 9)
  sky : Wh s.sky
  sk : ∀ j, j < s.nK → FNm nmT (j : Nat) ∧ Wh (s.K j) ∧ Wh (fun q => s.K j (3 + q)) ∧ Wh (fun q => s.K j (6 + q)) ∧ FDc dc (s.K j 9) ∧ dc (s.K j 9) ≠ []
  lm : ∀ j, j < s.nL → NV dc tn tb (s.LA j) 0 ∧ Wh (s.LL j)
  sh : ∀ j, j < s.nS → ShN dc tn tb (s.S j).k (s.S j).a ∧ FNm nmT (s.S j).sk
  so : ∀ j, j < s.nO → ((1 ≤ (s.O j).n ∧ (s.O j).n ≤ 16) ∧ PM (s.O j).n (s.O j).P ∧ ∀ i, i < (s.O j).n → ((s.O j).P i).op = 0 → ShN dc tn tb ((s.O j).P i).k ((s.O j).P i).a) ∧ FNm nmT (s.O j).sk
  fd : ∀ j, j < s.nF → ((FIt (s.F j).W ∧ Lib.itoa (s.F j).W ≠ []) ∧ (FIt (s.F j).H ∧ Lib.itoa (s.F j).H ≠ []) ∧ NV dc tn tb (s.F j).at_ 0 ∧ Nu dc tn tb (s.F j).sd ∧ (s.F j).n ≤ 1000 ∧ ∀ q, q < (s.F j).n → FDc dc ((s.F j).hs q) ∧ dc ((s.F j).hs q) ≠ []) ∧ FNm nmT (s.F j).sk
  few : s.nS ≤ 1000 ∧ s.nO ≤ 1000 ∧ s.nF ≤ 1000 ∧ s.nK ≤ 1000 ∧ s.nL ≤ 1000
end
section
variable {dc : Int → List UInt8} {tn : Nat → Int} {tb : Nat → Bool} {s : Scn}
end
end Go.Proofs.YtefphimaggjihaaGreatDoor.Pi

namespace Go.Proofs.YtefphimaggjihaaGreatDoor
open Go.Shelf
end Go.Proofs.YtefphimaggjihaaGreatDoor
namespace Go.Proofs.YtefphimaggjihaaGreatDoor.Pi
open Go.Shelf Go.RowKit Go.Gv

end Go.Proofs.YtefphimaggjihaaGreatDoor.Pi

namespace Go.Proofs.YtefphimaggjihaaGreatDoor.Pi
open Go.Shelf Go.RowKit Go.Gv
open Hs.Sc (Scn)
section
end

section
end
end Go.Proofs.YtefphimaggjihaaGreatDoor.Pi

namespace Go.Gv
open Go.RowKit Go.Ev
end Go.Gv
namespace Go.Proofs.YtefphimaggjihaaGreatDoor.Pi
open Go.Shelf Go.RowKit Go.Gv
section
variable (w : Nat) (ff : Int → Nat) (nn : Nat → Bool)
end
def rndR (w : Nat) : Nat := if w / 2 ^ 52 % 2048 < 1023 then (if w / 2 ^ 52 % 2048 = 1022 then w / 9223372036854775808 * 9223372036854775808 + 4607182418800017408 else w / 9223372036854775808 * 9223372036854775808) else (w + 2 ^ (1074 - w / 2 ^ 52 % 2048)) / 2 ^ (1075 - w / 2 ^ 52 % 2048) * 2 ^ (1075 - w / 2 ^ 52 % 2048)
open Go.Ev (cn isNan)
end Go.Proofs.YtefphimaggjihaaGreatDoor.Pi

namespace Go.Proofs.YtefphimaggjihaaGreatDoor.Hs
open Go.Gv
open Go.Ev (cn fadd fsub fmul fdiv fsqrt fneg feq flt fle fgt fge fabs)

def mpk0 (c : Int) : Int := cond (decide (c < 0)) (w64 (0 - w64 (c + 1))) c
def mpk (c n : Int) : Int := (mpk0 c).tmod n
theorem mpick_ev (c n : Int) : ev Tryz.prog [] [] noL Tryz.f21 [iA c, iA n] ret = cond (decide (c < 0)) (cond ((!(n == 0)) && true) (some (Out.of (iA ((w64 (0 - w64 (c + 1))).tmod n)))) none) (cond ((!(n == 0)) && true) (some (Out.of (iA (c.tmod n)))) none) := by kernel_rfl
theorem mpick {c n : Int} (hn : (!(n == 0)) = true) : FSpec Tryz.prog 21 [iA c, iA n] (iA (mpk c n)) := by
  refine sp e_nil Tryz.func21 (by kernel_rfl) (by kernel_rfl) rfl ((mpick_ev c n).trans ?_)
  rw [hn]
  unfold mpk mpk0
  cases decide (c < 0) <;> rfl
def k1000 : Nat := 4652007308841189376
def mth (n : Int) : Nat := fdiv (cn (FloatKind.f64.nearest n)) k1000
section
variable (n : Nat) (hs : Nat → Int) (pf : Int → Int → Int) (tf : Int → Nat) (rf : Int → Int) (k fr mo c : Int)
def mrw : Int := cond ((n : Int) == 0) 0 (hs (k.tmod (n : Int)).toNat)
theorem mraw_ev : ev Tryz.prog [] [] noL Tryz.f22 [sI n hs, iA k] ret = cond ((n : Int) == 0) (some (Out.of (iA 0))) (cond ((!((n : Int) == 0)) && true) (cond (ixB (k.tmod (n : Int)) n || false) (some (Out.of (iA (hs (k.tmod (n : Int)).toNat)))) none) none) := by kernel_rfl
theorem mraw {n : Nat} {hs : Nat → Int} {k : Int} (hk : 0 ≤ k) : FSpec Tryz.prog 22 [sI n hs, iA k] (iA (mrw n hs k)) := by
  refine sp e_nil Tryz.func22 (by kernel_rfl) (by kernel_rfl) rfl ((mraw_ev n hs k).trans ?_)
  unfold mrw
  cases hn : ((n : Int) == 0)
  · have h0 : (n : Int) ≠ 0 := fun e => by rw [e] at hn; cases hn
    have e : k.tmod (n : Int) = k % (n : Int) := Int.tmod_eq_emod_of_nonneg hk
    have a := Int.emod_nonneg k h0
    have b := Int.emod_lt_of_pos k (show (0 : Int) < n by omega)
    have hi : ixB (k.tmod (n : Int)) n = true := by
      unfold ixB
      rw [e, decide_eq_true a, decide_eq_true b]
      rfl
    rw [hi]; rfl
  · rfl
end
section
variable (n : Nat) (hs : Nat → Int) (rf : Int → Int) (mf : Int → Int → Nat) (fr mo : Int)
def rwG (rf : Int → Int) : List AV → AV
  | [_, .x (.int .i64 k)] => iA (rf k)
  | _ => .any
noncomputable def gR (k : Int) (o : Option Out) : Option Out := gate (FSpec Tryz.prog 22 [sI n hs, iA k] (iA (rf k))) o
noncomputable def rwK : KEntry := kS Tryz.prog 22 (rwG rf)
end
theorem gR_pos {n : Nat} {hs : Nat → Int} {k : Int} {o : Option Out} (h : 0 ≤ k) : gR n hs (mrw n hs) k o = o := gate_pos (mraw h)
section
variable (n : Nat) (hs : Nat → Int) (pf : Int → Int → Int) (tf : Int → Nat) (rf : Int → Int) (vf : Int → Int → Nat → Nat)
end
section
variable (n : Nat) (hs : Nat → Int) (pf : Int → Int → Int) (tf : Int → Nat) (rf : Int → Int) (vf : Int → Int → Nat → Nat) (x y w : Nat)
def z3 : Nat → Nat := fun _ => 0
end
theorem mpk_range {c m : Int} (hc : -9223372036854775808 ≤ c) (hc' : c ≤ 9223372036854775807) (hm : 0 < m) : 0 ≤ mpk c m ∧ mpk c m < m := by
  have h0 : 0 ≤ mpk0 c := by
    unfold mpk0
    by_cases h : c < 0
    · rw [decide_eq_true h, cond_true, w64_id (n := c + 1) (by omega) (by omega), w64_id (by omega) (by omega)]
      omega
    · rw [decide_eq_false h]; show 0 ≤ c; omega
  unfold mpk
  rw [Int.tmod_eq_emod_of_nonneg h0]
  exact ⟨Int.emod_nonneg _ (by omega), Int.emod_lt_of_pos _ hm⟩
theorem mrw_range {n : Nat} {hs : Nat → Int} (h : ∀ i, i < n → -9223372036854775808 ≤ hs i ∧ hs i ≤ 9223372036854775807) {k : Int} (hk : 0 ≤ k) : -9223372036854775808 ≤ mrw n hs k ∧ mrw n hs k ≤ 9223372036854775807 := by
  unfold mrw
  cases hn : ((n : Int) == 0)
  · have h0 : (n : Int) ≠ 0 := fun e => by rw [e] at hn; cases hn
    rw [cond_false, Int.tmod_eq_emod_of_nonneg hk]
    have a := Int.emod_nonneg k h0
    have b := Int.emod_lt_of_pos k (show (0 : Int) < n by omega)
    exact h _ (by omega)
  · show -9223372036854775808 ≤ (0 : Int) ∧ (0 : Int) ≤ 9223372036854775807; omega
end Go.Proofs.YtefphimaggjihaaGreatDoor.Hs

namespace Go.Proofs.YtefphimaggjihaaGreatDoor.Hs.So
open Go.Gv
open Go.Ev (cn fadd fsub fmul fdiv fsqrt fneg feq flt fle fgt fge fabs isNan)

end Go.Proofs.YtefphimaggjihaaGreatDoor.Hs.So

namespace Go.Proofs.YtefphimaggjihaaGreatDoor.Hs.So
open Go.Gv
open Go.Ev (cn fadd fsub fmul fdiv fsqrt fneg feq flt fle fgt fge fabs)

section
end
end Go.Proofs.YtefphimaggjihaaGreatDoor.Hs.So

namespace Go.Ev
open Ieee

end Go.Ev

namespace Go.Ev
open Ieee

end Go.Ev

namespace Go.Ev
open Ieee

end Go.Ev

namespace Go.Ev
open Ieee

end Go.Ev

namespace Go.Ev
open Ieee

/-- The magnitude of a rung, in the least units: 'b' bits of fraction. -/
def rv (b r : Nat) : Nat := if r < 2 ^ b then r else (2 ^ b + r % 2 ^ b) * 2 ^ (r / 2 ^ b - 1)

theorem rv_step (b r : Nat) : rv b r < rv b (r + 1) := by
  have hN : 0 < 2 ^ b := Nat.two_pow_pos b
  unfold rv
  generalize 2 ^ b = N at hN
  by_cases h1 : r + 1 < N
  · rw [if_pos (by omega), if_pos h1]; omega
  · rw [if_neg h1]
    by_cases h2 : r < N
    · rw [if_pos h2]
      have e : r + 1 = N := by omega
      rw [e, Nat.mod_self, Nat.div_self hN, Nat.sub_self, Nat.pow_zero]; omega
    · rw [if_neg h2]
      have hd := Nat.div_add_mod r N
      have hm : r % N < N := Nat.mod_lt _ hN
      have hq : 1 ≤ r / N := (Nat.le_div_iff_mul_le hN).2 (by omega)
      by_cases h3 : r % N + 1 < N
      · have e1 : (r + 1) / N = r / N := by
          rw [Nat.div_eq_iff hN]
          have : r / N * N = N * (r / N) := Nat.mul_comm _ _
          omega
        have e2 : (r + 1) % N = r % N + 1 := by
          have := Nat.div_add_mod (r + 1) N
          rw [e1] at this; omega
        rw [e1, e2]
        exact Nat.mul_lt_mul_of_pos_right (by omega) (Nat.two_pow_pos _)
      · have h4 : r % N + 1 = N := by omega
        have e0 : r + 1 = N * (r / N + 1) := by rw [Nat.mul_add]; omega
        have e1 : (r + 1) / N = r / N + 1 := by rw [e0, Nat.mul_div_cancel_left _ hN]
        have e2 : (r + 1) % N = 0 := by rw [e0, Nat.mul_mod_right]
        rw [e1, e2]
        obtain ⟨q, hq'⟩ : ∃ q, r / N = q + 1 := ⟨r / N - 1, by omega⟩
        rw [hq', Nat.add_sub_cancel, Nat.add_sub_cancel, Nat.pow_succ, Nat.add_zero, Nat.mul_comm (2 ^ q) 2, ← Nat.mul_assoc]
        exact Nat.mul_lt_mul_of_pos_right (by omega) (Nat.two_pow_pos _)
theorem rv_lt (b : Nat) {r : Nat} : ∀ {q : Nat}, r < q → rv b r < rv b q
  | 0, h => by omega
  | q + 1, h => by
    rcases Nat.eq_or_lt_of_le (Nat.lt_succ_iff.1 h) with e | e
    · rw [e]; exact rv_step b q
    · exact Nat.lt_trans (rv_lt b e) (rv_step b q)
theorem rv_zero (b : Nat) : rv b 0 = 0 := by unfold rv; rw [if_pos (Nat.two_pow_pos b)]

def sgn (x : Nat) : Bool := x / 9223372036854775808 % 2 == 1
def rung (x : Nat) : Nat := x % 9223372036854775808
def key (x : Nat) : Int := cond (sgn x) (-(rung x : Int)) (rung x)
def isFin (x : Nat) : Bool := Nat.blt (rung x) 9218868437227405312
def val (x : Nat) : Int := cond (sgn x) (-(rv 52 (rung x) : Int)) (rv 52 (rung x))

theorem rv_high {r : Nat} (h : ¬ r < 4503599627370496) : rv 52 r = (4503599627370496 + r % 4503599627370496) * 2 ^ (r / 4503599627370496 - 1) := by
  unfold rv; rw [if_neg (show ¬ r < 2 ^ 52 from h)]

end Go.Ev

namespace Go.Ev
open Ieee

theorem val_abs (x : Nat) : (val x).natAbs = rv 52 (rung x) := by unfold val; cases sgn x <;> simp only [cond_true, cond_false] <;> omega
end Go.Ev

namespace Go.Ev
open Ieee

end Go.Ev

namespace Go.Ev
open Ieee

/-- The word of a power of two, in units of the least float. -/
def pw (n : Nat) : Nat := (n - 51) * 4503599627370496
theorem rv_pw {n : Nat} (h : 52 ≤ n) : rv 52 (pw n) = 2 ^ n := by
  obtain ⟨k, rfl⟩ : ∃ k, n = 52 + k := ⟨n - 52, by omega⟩
  have e : pw (52 + k) = (k + 1) * 4503599627370496 := by unfold pw; congr 1; omega
  rw [e, rv_high (by omega), Nat.mul_mod_left, Nat.mul_div_cancel _ (by decide), Nat.add_zero, Nat.add_sub_cancel, Nat.pow_add]
/-- At most that. -/
def Bd (n x : Nat) : Prop := rung x ≤ pw n
theorem Bd.fin {n x : Nat} (h : Bd n x) (hn : n ≤ 2097) : isFin x = true := by
  unfold Bd pw at h
  unfold isFin
  exact Nat.ble_eq_true_of_le (by show rung x + 1 ≤ _; omega)
theorem Bd.val {n x : Nat} (h : Bd n x) (hn : 52 ≤ n) : (val x).natAbs ≤ 2 ^ n := by
  rw [val_abs, ← rv_pw hn]
  rcases Nat.lt_or_ge (rung x) (pw n) with e | e
  · exact Nat.le_of_lt (rv_lt 52 e)
  · rw [show rung x = pw n from Nat.le_antisymm h e]; exact Nat.le_refl _
theorem Bd.mono {n m x : Nat} (h : Bd n x) (hm : n ≤ m) : Bd m x :=
  Nat.le_trans h (Nat.mul_le_mul_right _ (Nat.sub_le_sub_right hm _))
end Go.Ev

namespace Go.Ev
open Ieee

/-- y is 2^j times x, both nought or both normal numbers, of one sign. -/
structure Sc (j x y : Nat) : Prop where
  s : sgn x = sgn y
  fx : isFin x = true
  fy : isFin y = true
  r : (rung x = 0 ∧ rung y = 0) ∨ (2 ^ 52 ≤ rung x ∧ rung y = rung x + j * 2 ^ 52)
theorem rv_scale {r : Nat} (j : Nat) (h : 2 ^ 52 ≤ r) : rv 52 (r + j * 2 ^ 52) = rv 52 r * 2 ^ j := by
  have p : 0 < 2 ^ 52 := Nat.two_pow_pos 52
  unfold rv
  generalize 2 ^ 52 = b at *
  rw [if_neg (by have : r ≤ r + j * b := Nat.le_add_right _ _; omega), if_neg (by omega), Nat.add_mul_mod_self_right, Nat.add_mul_div_right _ _ p]
  have : 1 ≤ r / b := (Nat.le_div_iff_mul_le p).2 (by omega)
  rw [show r / b + j - 1 = (r / b - 1) + j by omega, Nat.pow_add, Nat.mul_assoc]
theorem Sc.val {j x y : Nat} (h : Sc j x y) : val y = val x * ((2 ^ j : Nat) : Int) := by
  unfold Go.Ev.val
  rw [← h.s]
  have e : rv 52 (rung y) = rv 52 (rung x) * 2 ^ j := by
    rcases h.r with ⟨a, b⟩ | ⟨a, b⟩
    · rw [a, b, rv_zero, Nat.zero_mul]
    · rw [b]; exact rv_scale j a
  rw [e]
  cases sgn x
  · simp only [cond_false]; push_cast; rfl
  · simp only [cond_true]; push_cast; rw [Int.neg_mul]
end Go.Ev

namespace Go.Ev
open Ieee

end Go.Ev

namespace Go.Ev
open Ieee

end Go.Ev

namespace Go.Ev
open Ieee

/-- A multiple of a power of two. -/
def Gr (k x : Nat) : Prop := 2 ^ k ∣ (val x).natAbs
theorem Gr.mono {k l x : Nat} (h : Gr k x) (hl : l ≤ k) : Gr l x := Nat.dvd_trans (Nat.pow_dvd_pow 2 hl) h
end Go.Ev

namespace Go.Ev
open Ieee

end Go.Ev

namespace Go.Ev
open Ieee

/-- x is the whole number a (c stands for 1074; of nought the sign is left open). -/
structure Wh (c x : Nat) (a : Int) : Prop where
  fin : isFin x = true
  val : val x = a * ((2 ^ c : Nat) : Int)
section
variable {c x y : Nat} {a b : Int} (hc : c = 1074)
include hc
omit hc
end
end Go.Ev

namespace Go.Ev
open Ieee

section
end
end Go.Ev

namespace Go.Ev
open Ieee
end Go.Ev
namespace Go.Proofs.YtefphimaggjihaaGreatDoor
open Go.Gv

end Go.Proofs.YtefphimaggjihaaGreatDoor
namespace Go.Proofs.YtefphimaggjihaaGreatDoor.Hs
open Go.Gv
open Go.Ev (cn fadd fsub fmul fdiv fsqrt fneg feq flt fle fgt fge fabs isNan)

end Go.Proofs.YtefphimaggjihaaGreatDoor.Hs

namespace Go.Ev
open Ieee
end Go.Ev
namespace Go.Proofs.YtefphimaggjihaaGreatDoor.Hs.So
open Go.Gv
open Go.Ev (cn fadd fsub fmul fdiv fsqrt fneg feq flt fle fgt fge fabs key isNan isFin val)

end Go.Proofs.YtefphimaggjihaaGreatDoor.Hs.So

namespace Go.Ev
open Ieee
end Go.Ev
namespace Go.Proofs.YtefphimaggjihaaGreatDoor.Hs.So
open Go.Gv
open Go.Ev (cn fadd fsub fmul fdiv fsqrt fneg feq flt fle fgt fge fabs key isNan isFin val)

end Go.Proofs.YtefphimaggjihaaGreatDoor.Hs.So

namespace Go.Ev
open Ieee

end Go.Ev

namespace Go.Ev
open Ieee
open Go.Proofs.YtefphimaggjihaaGreatDoor.Hs (mth)
open Go.Proofs.YtefphimaggjihaaGreatDoor.Pi (rndR)

section
end
end Go.Ev

namespace Go.Ev
open Ieee
open Go.Proofs.YtefphimaggjihaaGreatDoor.Hs (mth)
open Go.Proofs.YtefphimaggjihaaGreatDoor.Pi (rndR)

section
end
end Go.Ev

namespace Go.Proofs.YtefphimaggjihaaGreatDoor.Pi
open Go.Shelf Go.RowKit Go.Gv
open Go.Ev (cn fadd fsub fmul fdiv fneg feq flt fle fgt fge isNan key val isFin)
open Hs (mth k1000)
section
variable (x : Nat) (rf : Nat → Nat) (bf : Int → Bool) (n : Int) (it : Int → List UInt8) (s t : ByteArray)
def yX (x : Nat) : Nat := fmul x 4652007308841189376
def nX : Int := f2i .i64 (rf (yX x))
end
section
variable (n : Int) (tf : ByteArray → ByteArray)
end
theorem it_few {n : Int} (h0 : 0 ≤ n) (h1 : n < 100000000) : Lib.itoa n ≠ [] ∧ (Lib.itoa n).length ≤ 8 := by
  obtain ⟨k, rfl⟩ := Int.eq_ofNat_of_zero_le h0
  unfold Lib.itoa
  rw [if_neg (by omega), Int.toNat_natCast]
  have key : ∀ (d k : Nat), k < 10 ^ (d + 1) → Lib.decDigits k ≠ [] ∧ (Lib.decDigits k).length ≤ d + 1 := fun d => by
    induction d with
    | zero => intro k hk; rw [Lib.decDigits_one (by omega)]; simp
    | succ d ih =>
      intro k hk
      by_cases h : k < 10
      · rw [Lib.decDigits_one h]; simp
      · rw [Lib.decDigits, dif_neg h]
        have := ih (k / 10) (by rw [Nat.pow_succ] at hk; omega)
        simp only [ne_eq, List.append_eq_nil_iff, List.length_append]
        exact ⟨fun hc => this.1 hc.1, by simp; omega⟩
  exact key 7 k (by omega)
theorem cat_t {a b : ByteArray} (h : a.size + b.size ≤ 1000000000) : catF a b = true := by
  rw [catF_eq]
  exact decide_eq_true (by show ((a.size + b.size : Nat) : Int) ≤ 9223372036854775807; omega)
theorem lB_app (a b : List UInt8) : lB a ++ lB b = lB (a ++ b) := by
  apply ByteArray.ext
  simp [lB]
/-- A number of thousandths in decimal. -/
def dcA (a : Nat) : List UInt8 := Lib.itoa ((a / 1000 : Nat) : Int) ++ (if a % 1000 = 0 then [] else 46 :: Lib.trimRightB ((Lib.itoa ((1000 + a % 1000 : Nat) : Int)).drop 1) 48)
def dcT (n : Int) : List UInt8 := (if n < 0 then [45] else []) ++ dcA n.natAbs
theorem trim_len (l : List UInt8) (b : UInt8) : (Lib.trimRightB l b).length ≤ l.length := by
  unfold Lib.trimRightB
  rw [List.length_reverse]
  exact Nat.le_trans (List.dropWhile_sublist _).length_le (by rw [List.length_reverse]; exact Nat.le_refl _)
theorem dc_ne (n : Int) (h : n.natAbs ≤ 10000000) : dcT n ≠ [] ∧ (dcT n).length ≤ 20 := by
  have i1 := it_few (n := ((n.natAbs / 1000 : Nat) : Int)) (by omega) (by omega)
  have i2 := it_few (n := ((1000 + n.natAbs % 1000 : Nat) : Int)) (by omega) (by omega)
  have ht := trim_len ((Lib.itoa ((1000 + n.natAbs % 1000 : Nat) : Int)).drop 1) 48
  rw [List.length_drop] at ht
  unfold dcT dcA
  constructor
  · intro hc
    simp only [List.append_eq_nil_iff] at hc
    exact i1.1 hc.2.1
  · have h1 : (if n < 0 then ([45] : List UInt8) else []).length ≤ 1 := by split <;> simp
    have h2 : (if n.natAbs % 1000 = 0 then ([] : List UInt8) else 46 :: Lib.trimRightB ((Lib.itoa ((1000 + n.natAbs % 1000 : Nat) : Int)).drop 1) 48).length ≤ 9 := by
      split
      · simp
      · rw [List.length_cons]; omega
    rw [List.length_append, List.length_append]
    omega
end Go.Proofs.YtefphimaggjihaaGreatDoor.Pi

namespace Go.Ev
open Ieee
open Go.Proofs.YtefphimaggjihaaGreatDoor.Hs (mth)
open Go.Proofs.YtefphimaggjihaaGreatDoor.Pi (rndR)

section
variable {c : Nat}
/-- What of a float that is near can be said. -/
structure NearF (x : Nat) : Prop where
  fin : isFin x = true
  le : (val x).natAbs ≤ 1000000 * 2 ^ 1074
end
end Go.Ev

namespace Go.Proofs.YtefphimaggjihaaGreatDoor.Pi
open Go.Shelf Go.RowKit Go.Gv
open Go.Ev (cn fadd fsub fmul fdiv fneg feq flt fle fgt fge isNan key val isFin rung NearF)
open Hs (mth k1000)
/-- Round, as the code does it. -/
def rfR (w : Nat) : Nat := cn (rndR w)
def bfR (n : Int) : Bool := cond (decide (n < -1000000)) true (decide (n > 1000000))
def nnX (x : Nat) : Int := nX x rfR
/-- Whether a float can be told in thousandths; and in how many. -/
def tbX (x : Nat) : Bool := !(cond (bfR (nnX x)) true (!(feq (mth (nnX x)) x)))
def tnX (x : Nat) : Int := cond (tbX x) (nnX x) 0
end Go.Proofs.YtefphimaggjihaaGreatDoor.Pi

namespace Go.Proofs.YtefphimaggjihaaGreatDoor.Pi
open Go.Shelf Go.RowKit Go.Gv
open Go.Ev (cn fadd fsub fmul fdiv fneg feq flt fle fgt fge isNan key val isFin NearF)
open Hs Hs.So Hs.Sc Hs.Fm
theorem c4 {b : Bool} {e x : Int} (he : e ≠ 0) (h : cond b e x = 0) : b = false ∧ x = 0 := by
  cases b
  · exact ⟨rfl, h⟩
  · exact absurd h he
end Go.Proofs.YtefphimaggjihaaGreatDoor.Pi

namespace Go.Proofs.YtefphimaggjihaaGreatDoor.Pi
open Go.Shelf Go.RowKit Go.Gv
open Hs Hs.So Hs.Sc Hs.Fm
/-- Words, so many, none longer than 20 bytes. -/
structure Few (k : Nat) (ts : List (List UInt8)) : Prop where
  n : ts.length ≤ k
  w : ∀ t, t ∈ ts → t.length ≤ 20
end Go.Proofs.YtefphimaggjihaaGreatDoor.Pi

namespace Go.Proofs.YtefphimaggjihaaGreatDoor.Pi.Rd
open Go.Shelf Go.RowKit Go.Gv
theorem u8_dig : ∀ d : Fin 10, (UInt8.ofNat (48 + d.val)).toNat = 48 + d.val := by decide
theorem dg_nat {d : Nat} (h : d < 10) : (UInt8.ofNat (48 + d)).toNat = 48 + d := u8_dig ⟨d, h⟩
theorem dg_48 : ∀ d : Fin 10, (UInt8.ofNat (48 + d.val) = 48) ↔ d.val = 0 := by decide
theorem dd_of : ∀ (d k : Nat), k < 10 ^ (d + 1) → Dig (Lib.decDigits k) ∧ vaL (Lib.decDigits k) = (k : Int) ∧ (1 ≤ (Lib.decDigits k).length ∧ (Lib.decDigits k).length ≤ d + 1) ∧ (1 ≤ k → (Lib.decDigits k).head? ≠ some 48) ∧ (k < 10 → (Lib.decDigits k).length = 1) := fun d => by
  have one : ∀ k, k < 10 → Dig (Lib.decDigits k) ∧ vaL (Lib.decDigits k) = (k : Int) ∧ (Lib.decDigits k).length = 1 ∧ (1 ≤ k → (Lib.decDigits k).head? ≠ some 48) := fun k h => by
    rw [Lib.decDigits_one h]
    refine ⟨fun b hb => ?_, ?_, rfl, fun h1 => ?_⟩
    · simp only [List.mem_singleton] at hb
      subst hb
      rw [dg_nat h]
      omega
    · show dv 0 _ = _
      unfold dv
      rw [dg_nat h]
      omega
    · simp only [List.head?_cons, ne_eq, Option.some.injEq]
      rw [dg_48 ⟨k, h⟩]
      show ¬ k = 0
      omega
  induction d with
  | zero =>
    intro k hk
    obtain ⟨h1, h2, h3, h4⟩ := one k (by omega)
    exact ⟨h1, h2, by omega, h4, fun _ => h3⟩
  | succ d ih =>
    intro k hk
    by_cases h : k < 10
    · obtain ⟨h1, h2, h3, h4⟩ := one k h
      exact ⟨h1, h2, by omega, h4, fun _ => h3⟩
    · obtain ⟨h1, h2, h3, h4, _⟩ := ih (k / 10) (by rw [Nat.pow_succ] at hk; omega)
      have hm := dg_nat (show k % 10 < 10 by omega)
      rw [Lib.decDigits, dif_neg h]
      refine ⟨fun b hb => ?_, ?_, ?_, fun _ => ?_, fun hc => absurd hc h⟩
      · rcases List.mem_append.1 hb with hb | hb
        · exact h1 b hb
        · simp only [List.mem_singleton] at hb
          subst hb
          rw [hm]
          omega
      · rw [val_snoc, h2]
        unfold dv
        rw [hm]
        omega
      · rw [List.length_append, List.length_singleton]; omega
      · have := h4 (by omega)
        cases hx : Lib.decDigits (k / 10) with
        | nil => rw [hx] at h3; simp at h3
        | cons a r => rw [hx] at this; exact this
theorem it_nat (k : Nat) : Lib.itoa (k : Int) = Lib.decDigits k := by
  unfold Lib.itoa
  rw [if_neg (by omega), Int.toNat_natCast]
theorem it_pln {k : Nat} (h : k < 1000000000) : Pln (Lib.itoa (k : Int)) ∧ vaL (Lib.itoa (k : Int)) = (k : Int) := by
  obtain ⟨h1, h2, h3, h4, h5⟩ := dd_of 8 k (by omega)
  rw [it_nat]
  refine ⟨⟨h3.1, h3.2, h1, fun hl => ?_⟩, h2⟩
  refine h4 ?_
  by_cases h' : k < 10
  · have := h5 h'; omega
  · omega
/-- The part behind the point. -/
def frT (r : Nat) : List UInt8 := Lib.trimRightB ((Lib.itoa ((1000 + r : Nat) : Int)).drop 1) 48
theorem tr_zero (l : List UInt8) : Lib.trimRightB (l ++ [48]) 48 = Lib.trimRightB l 48 := by
  unfold Lib.trimRightB
  rw [List.reverse_append]
  rfl
theorem tr_digit {l : List UInt8} {b : UInt8} (h : b ≠ 48) : Lib.trimRightB (l ++ [b]) 48 = l ++ [b] := by
  unfold Lib.trimRightB
  rw [List.reverse_append]
  show (List.dropWhile (· == 48) (b :: l.reverse)).reverse = _
  rw [List.dropWhile_cons, if_neg (by simpa using h)]
  simp
theorem d3 {r : Nat} (h : r < 1000) : (Lib.itoa ((1000 + r : Nat) : Int)).drop 1 = [UInt8.ofNat (48 + r / 100), UInt8.ofNat (48 + r / 10 % 10), UInt8.ofNat (48 + r % 10)] := by
  rw [it_nat, Lib.decDigits, dif_neg (by omega), Lib.decDigits, dif_neg (by omega), Lib.decDigits, dif_neg (by omega), Lib.decDigits_one (by omega)]
  show [_, _, _] = _
  rw [show (1000 + r) / 10 / 10 % 10 = r / 100 by omega, show (1000 + r) / 10 % 10 = r / 10 % 10 by omega, show (1000 + r) % 10 = r % 10 by omega]
theorem fr_of {r : Nat} (h0 : 0 < r) (h : r < 1000) : Dig (frT r) ∧ frT r ≠ [] ∧ (frT r).length ≤ 3 ∧ vaL (frT r) * (if (frT r).length = 1 then 100 else if (frT r).length = 2 then 10 else 1) = (r : Int) := by
  have n1 := dg_nat (show r / 100 < 10 by omega)
  have n2 := dg_nat (show r / 10 % 10 < 10 by omega)
  have n3 := dg_nat (show r % 10 < 10 by omega)
  have z3 := dg_48 ⟨r % 10, by omega⟩
  have z2 := dg_48 ⟨r / 10 % 10, by omega⟩
  have z1 := dg_48 ⟨r / 100, by omega⟩
  simp only at z1 z2 z3
  unfold frT
  rw [d3 h]
  generalize UInt8.ofNat (48 + r / 100) = x at *
  generalize UInt8.ofNat (48 + r / 10 % 10) = y at *
  generalize UInt8.ofNat (48 + r % 10) = w at *
  by_cases c3 : w = 48
  · subst c3
    rw [show [x, y, 48] = [x, y] ++ [48] from rfl, tr_zero]
    have e3 : r % 10 = 0 := z3.1 rfl
    by_cases c2 : y = 48
    · subst c2
      have e2 : r / 10 % 10 = 0 := z2.1 rfl
      rw [show [x, 48] = [x] ++ [48] from rfl, tr_zero]
      have c1 : x ≠ 48 := fun c => by have := z1.1 c; omega
      rw [show [x] = [] ++ [x] from rfl, tr_digit c1]
      refine ⟨fun b hb => ?_, by simp, by simp, ?_⟩
      · simp at hb; subst hb; omega
      · simp [vaL, dv]; omega
    · rw [show [x, y] = [x] ++ [y] from rfl, tr_digit c2]
      refine ⟨fun b hb => ?_, by simp, by simp, ?_⟩
      · simp at hb; rcases hb with rfl | rfl <;> omega
      · simp [vaL, dv]; omega
  · rw [show [x, y, w] = [x, y] ++ [w] from rfl, tr_digit c3]
    refine ⟨fun b hb => ?_, by simp, by simp, ?_⟩
    · simp at hb; rcases hb with rfl | rfl | rfl <;> omega
    · simp [vaL, dv]; omega
/-- A printed number, read. -/
def NumB (p : List UInt8 × Int) : Prop := FSpec Tryz.prog 234 [zA (lB p.1)] (.tup [iA p.2, bA true]) ∧ -1000000 ≤ p.2 ∧ p.2 ≤ 1000000
def WhoB (m : Int) (p : List UInt8 × Int) : Prop := FSpec Tryz.prog 245 [zA (lB p.1)] (.tup [iA p.2, bA true]) ∧ 0 ≤ p.2 ∧ p.2 ≤ m
theorem dc_num {n : Int} (h : n.natAbs ≤ 1000000) : NumB (dcT n, n) := by
  refine ⟨?_, by show -1000000 ≤ n; omega, by show n ≤ 1000000; omega⟩
  obtain ⟨h1, h2⟩ := it_pln (k := n.natAbs / 1000) (by omega)
  have key : ∀ b : List UInt8, Dig b → b.length ≤ 3 → vaL b * (if b.length = 1 then 100 else if b.length = 2 then 10 else 1) = ((n.natAbs % 1000 : Nat) : Int) → dcA n.natAbs = Lib.itoa ((n.natAbs / 1000 : Nat) : Int) ++ (if b = [] then [] else 46 :: b) → FSpec Tryz.prog 234 [zA (lB (dcT n))] (.tup [iA n, bA true]) := fun b hb hl hv hd => by
    have e1 : dcT n = numT (decide (n < 0)) (Lib.itoa ((n.natAbs / 1000 : Nat) : Int)) b := by
      unfold dcT numT sg
      rw [hd]
      by_cases h0 : n < 0
      · simp [h0]
      · simp [h0]
    have e2 : numV (decide (n < 0)) (Lib.itoa ((n.natAbs / 1000 : Nat) : Int)) b = n := by
      unfold numV
      rw [hv, h2]
      by_cases h0 : n < 0
      · simp only [h0, decide_true, if_true]; omega
      · simp only [h0, decide_false, Bool.false_eq_true, if_false]; omega
    have := num_spec (neg := decide (n < 0)) h1 hb hl
    rw [← e1, e2] at this
    exact this
  by_cases hr : n.natAbs % 1000 = 0
  · refine key [] (fun _ h => by cases h) (by simp) (by rw [hr]; rfl) ?_
    unfold dcA
    rw [if_pos hr]
    rfl
  · obtain ⟨g1, g2, g3, g4⟩ := fr_of (r := n.natAbs % 1000) (by omega) (by omega)
    refine key _ g1 g3 g4 ?_
    unfold dcA
    rw [if_neg hr, if_neg g2]
    rfl
theorem it_who {k : Nat} {m : Int} (h : (k : Int) ≤ m) (hm : m ≤ 100000000) : WhoB m (Lib.itoa (k : Int), (k : Int)) := by
  obtain ⟨h1, h2⟩ := it_pln (k := k) (by omega)
  have := whole_spec h1
  rw [h2] at this
  exact ⟨this, by show 0 ≤ (k : Int); omega, h⟩
end Go.Proofs.YtefphimaggjihaaGreatDoor.Pi.Rd

namespace Go.Proofs.YtefphimaggjihaaGreatDoor.Pi.Rd
open Go.Shelf Go.RowKit Go.Gv
theorem inW_dig {b : UInt8} (h : 48 ≤ b.toNat ∧ b.toNat ≤ 57) : inW b = true := by
  unfold inW iwB dgB
  rw [decide_eq_true (show (48 : Int) ≤ (b.toNat : Int) by omega), decide_eq_true (show ((b.toNat : Nat) : Int) ≤ 57 by omega), decide_eq_true (show b.toNat < 128 by omega)]
  cases ltB (b.toNat : Int) <;> rfl
theorem tok_dig {l : List UInt8} (h : Dig l) (h0 : l ≠ []) : Tok1 l := Or.inl ⟨h0, fun b hb => inW_dig (h b hb)⟩
theorem tok_it {k : Nat} (h : k < 1000000000) : Tok1 (Lib.itoa (k : Int)) := by
  obtain ⟨h1, _⟩ := it_pln h
  exact tok_dig h1.d (fun e => by have := h1.n; rw [e] at this; simp at this)
theorem inW_pt : inW 46 = true ∧ inW 45 = true ∧ inW 115 = true := by decide
theorem tok_dc {n : Int} (h : n.natAbs ≤ 1000000) : Tok1 (dcT n) := by
  refine Or.inl ⟨(dc_ne n (by omega)).1, fun b hb => ?_⟩
  obtain ⟨h1, _⟩ := it_pln (k := n.natAbs / 1000) (by omega)
  unfold dcT dcA at hb
  rcases List.mem_append.1 hb with hb | hb
  · split at hb
    · simp at hb; subst hb; exact inW_pt.2.1
    · cases hb
  · rcases List.mem_append.1 hb with hb | hb
    · exact inW_dig (h1.d b hb)
    · split at hb
      · cases hb
      · rename_i hr
        rcases List.mem_cons.1 hb with rfl | hb
        · exact inW_pt.1
        · exact inW_dig ((fr_of (r := n.natAbs % 1000) (by omega) (by omega)).1 b hb)
/-- A word of small letters. -/
def Low (l : List UInt8) : Bool := !l.isEmpty && l.all inW
theorem tok_low {l : List UInt8} (h : Low l = true) : Tok1 l := by
  unfold Low at h
  simp only [Bool.and_eq_true, Bool.not_eq_true', List.all_eq_true] at h
  exact Or.inl ⟨fun e => by rw [e] at h; simp at h, h.2⟩
theorem tok_pnc {c : UInt8} (h : Pnc c) : Tok1 [c] := Or.inr ⟨c, h, rfl⟩
abbrev TP := List UInt8 × Int
/-- From here on there stand these tokens. -/
def At (t : Tk) : Nat → List TP → Prop
  | a, [] => a ≤ t.n ∧ t.n ≤ 1000000
  | a, p :: r => (t.T a = lB p.1 ∧ t.N a = p.2) ∧ At t (a + 1) r
theorem At.le {t : Tk} : ∀ {l : List TP} {a : Nat}, At t a l → a + l.length ≤ t.n ∧ t.n ≤ 1000000
  | [], _, h => h
  | _ :: r, a, h => by have := At.le h.2; rw [List.length_cons]; omega
theorem At.has {t : Tk} {l : List TP} {a : Nat} (h : At t a l) (k : Nat) (hk : k ≤ l.length) : Has t a k := ⟨by have := h.le; omega, h.le.2⟩
theorem At.app {t : Tk} : ∀ {x y : List TP} {a : Nat}, At t a (x ++ y) → At t a x ∧ At t (a + x.length) y
  | [], y, a, h => ⟨⟨by have := h.le; omega, h.le.2⟩, h⟩
  | p :: r, y, a, h => by
    obtain ⟨h1, h2⟩ := At.app (x := r) h.2
    refine ⟨⟨h.1, h1⟩, ?_⟩
    rw [List.length_cons, show a + (r.length + 1) = a + 1 + r.length by omega]
    exact h2
theorem At.get {t : Tk} : ∀ {l : List TP} {a i : Nat} {p : TP}, At t a l → l[i]? = some p → t.T (a + i) = lB p.1 ∧ t.N (a + i) = p.2
  | [], _, _, _, _, h => by simp at h
  | q :: r, a, 0, p, h, hp => by simp at hp; subst hp; exact h.1
  | q :: r, a, i + 1, p, h, hp => by
    have := At.get (l := r) h.2 (i := i) (p := p) (by simpa using hp)
    rw [show a + (i + 1) = a + 1 + i by omega]
    exact this
theorem At.is {t : Tk} {l : List TP} {a i : Nat} {w : List UInt8} {x : Int} (h : At t a l) (hp : l[i]? = some (w, x)) : Is t (a + i) w := (h.get hp).1
theorem At.num {t : Tk} {l : List TP} {a i : Nat} {p : TP} (h : At t a l) (hp : l[i]? = some p) (hn : NumB p) : NumAt t (a + i) := by
  obtain ⟨h1, h2⟩ := h.get hp
  unfold NumAt
  rw [h1, h2]
  exact hn
theorem At.who {t : Tk} {l : List TP} {a i : Nat} {p : TP} {m : Int} (h : At t a l) (hp : l[i]? = some p) (hn : WhoB m p) : WhoAt t m (a + i) := by
  obtain ⟨h1, h2⟩ := h.get hp
  unfold WhoAt
  rw [h1, h2]
  exact hn
/-- The tokens of a text of lines. -/
def tkOf (ps : List TP) : Tk := ⟨ps.length, fun q => (ps.map fun p => lB p.1).getD q eB, fun q => (ps.map Prod.snd).getD q 0⟩
theorem at_tk : ∀ (r pre : List TP) {ps : List TP}, ps = pre ++ r → ps.length ≤ 1000000 → At (tkOf ps) pre.length r
  | [], pre, ps, h, hl => ⟨by show pre.length ≤ ps.length; rw [h]; simp, hl⟩
  | p :: r, pre, ps, h, hl => by
    refine ⟨⟨?_, ?_⟩, ?_⟩
    · show (ps.map fun p => lB p.1).getD pre.length eB = lB p.1
      rw [h, List.getD_eq_getElem?_getD, List.map_append, List.getElem?_append_right (by simp)]
      simp
    · show (ps.map Prod.snd).getD pre.length 0 = p.2
      rw [h, List.getD_eq_getElem?_getD, List.map_append, List.getElem?_append_right (by simp)]
      simp
    · have := at_tk r (pre ++ [p]) (ps := ps) (by rw [h]; simp) hl
      rw [List.length_append, List.length_singleton] at this
      exact this
end Go.Proofs.YtefphimaggjihaaGreatDoor.Pi.Rd

namespace Go.Proofs.YtefphimaggjihaaGreatDoor.Pi.Rd
open Go.Shelf Go.RowKit Go.Gv
open Hs.So (Prt prS)
open Hs.Sc (Scn)
def hP (f : Nat → Int) : List TP := [(Lib.itoa (f 0), f 0), (Lib.itoa (f 1), f 1), (Lib.itoa (f 2), f 2)]
def kP (w : List UInt8) : TP := (w, 0)
section
variable (s : Scn)
end
end Go.Proofs.YtefphimaggjihaaGreatDoor.Pi.Rd

namespace Go.Proofs.YtefphimaggjihaaGreatDoor.Pi.Rd
open Go.Shelf Go.RowKit Go.Gv
open Hs.So (Prt prS)
open Hs (shC)
/-- No group is open. -/
def Z0 (z : Nat → Int) : Prop := z 24 = 0 ∧ z 25 = 0 ∧ z 26 = 0
/-- The float that is read of a printed number. -/
noncomputable def rdF (x : Nat) : Nat := yI (tnX x)
noncomputable def rd (b : Nat → Nat) (q : Nat) : Nat := rdF (b q)
def cX (k : Int) (a : Nat → Nat) : Nat → Nat := if k = 1 then t1 a else if k = 2 then t2 a else if k = 3 then t3 a else if k = 4 then t4 a else if k = 5 then t4 a else t6 a
section
variable {t : Tk} {a : Nat} {z : Nat → Int} {b : Nat → Nat} {l : List TP}
theorem Z0.set (hz : Z0 z) {i : Nat} (hi : i < 24 ∨ 26 < i) (x : Int) : Z0 (setZ z i x) := by
  have key : ∀ q, 24 ≤ q → q ≤ 26 → setZ z i x q = z q := fun q h1 h2 => by
    unfold setZ
    rw [show Nat.beq q i = false from by
      cases hb : Nat.beq q i
      · rfl
      · have := Nat.eq_of_beq_eq_true hb; omega]
    rfl
  exact ⟨(key 24 (by omega) (by omega)).trans hz.1, (key 25 (by omega) (by omega)).trans hz.2.1, (key 26 (by omega) (by omega)).trans hz.2.2⟩
end
end Go.Proofs.YtefphimaggjihaaGreatDoor.Pi.Rd

namespace Go.Proofs.YtefphimaggjihaaGreatDoor.Pi.Rd
open Go.Shelf Go.RowKit Go.Gv
open Hs.So (Prt prS)
open Hs (shC)
variable {P : Nat → Prt}
/-- A part that was read. -/
noncomputable def rdP' (p : Prt) : Prt := if p.op = 0 then ⟨0, 0, 0, p.k, cX p.k (rd p.a), 0⟩ else ⟨p.op, p.l, p.r, 0, fun _ => 0, 0⟩
end Go.Proofs.YtefphimaggjihaaGreatDoor.Pi.Rd

namespace Go.Proofs.YtefphimaggjihaaGreatDoor.Pi.Rd
open Go.Shelf Go.RowKit Go.Gv
open Hs.So (Prt prS)
open Hs (shC)
open Hs.Sc (Scn)
/-- A whole number of so many. -/
def Wn (m : Int) (x : Int) : Prop := ∃ k : Nat, x = (k : Int) ∧ (k : Int) ≤ m
theorem wn_who {m x : Int} (h : Wn m x) (hm : m ≤ 100000000) : WhoB m (Lib.itoa x, x) := by
  obtain ⟨k, rfl, hk⟩ := h
  exact it_who hk hm
section
variable {t : Tk} {a : Nat} {z : Nat → Int} {c : Ct} {l : List TP}
theorem who3 {i0 : Nat} {f : Nat → Int} {m : Int} (h : At t a l) (h0 : l[i0]? = some (Lib.itoa (f 0), f 0)) (h1 : l[i0 + 1]? = some (Lib.itoa (f 1), f 1)) (h2 : l[i0 + 2]? = some (Lib.itoa (f 2), f 2)) (hf : ∀ q, q < 3 → Wn m (f q)) (hm : m ≤ 100000000) : ∀ i, i < 3 → WhoAt t m (a + i0 + i) := fun i hi => by
  match i, hi with
  | 0, _ => exact h.who h0 (wn_who (hf 0 (by omega)) hm)
  | 1, _ => exact h.who h1 (wn_who (hf 1 (by omega)) hm)
  | 2, _ => exact h.who h2 (wn_who (hf 2 (by omega)) hm)
/-- The names that were read so far are those of the first skins. -/
structure Nms0 (c : Ct) (j : Nat) : Prop where
  n : c.nN = j
  few : j ≤ 16
  N : ∀ q, c.N q = lB (nmT (q : Nat))
end
end Go.Proofs.YtefphimaggjihaaGreatDoor.Pi.Rd

namespace Go.Proofs.YtefphimaggjihaaGreatDoor.Pi.Rd
open Go.Shelf Go.RowKit Go.Gv
open Hs (shC)
/-- So many tokens of a repeat: how often, the steps, one shape. -/
structure ReTk (t : Tk) (a : Nat) (n : Int) (b : Nat) : Prop where
  has : Has t a (b + 1 - a)
  le : a + 6 < b
  cnt : NumAt t a
  cnt0 : (t.N a).tmod 1000 = 0
  cnt1 : 0 ≤ t.N a
  cnt2 : t.N a ≤ 16000
  cntn : (t.N a).tdiv 1000 = n
  wby : Is t (a + 1) wBy
  step : ∀ i, i < 3 → NumAt t (a + 1 + 1 + i)
  op : Is t (a + 1 + 1 + 3) [123]
  cl : Is t b [125]
section
variable {t : Tk} {a b : Nat} {z : Nat → Int} {c : Ct} {n : Int} (h : ReTk t a n b)
include h
theorem re_has (i : Nat) (hi : a + i ≤ b) : Has t (a + i) 1 := ⟨by have := h.has.1; have := h.le; omega, h.has.2⟩
theorem reHd_t {m : Nat} (hz : z 23 = 0) (hth : WSpec Tryz.prog 113 [.own 0 0] (m2 t a z c (a + 1 + 1 + 3 + 1)) (.tup []) (mT0 t a z c m b)) (k : Option Out) : reHd t a b z c m n k = k := by
  have hle := h.le
  have hb := h.has
  have e1 : Lf t 217 [iA 16] (iA n) a 1 z z := by
    have := count_spec (a := a) (m := 16) z (re_has h 0 (by omega)) h.cnt h.cnt0 h.cnt1 (by have := h.cnt2; omega) (by omega)
    rw [h.cntn] at this
    exact this
  unfold reHd m0 m1
  rw [show ∀ k, qC 217 [iA 16] (iA n) (M7 t a z c) (M7 t (a + 1) z c) k = k from fun k => qC_lf e1 (fun _ => rfl) (fun _ => rfl) _ _ k]
  rw [show ∀ k, qAsk wBy (M7 t (a + 1) z c) (M7 t (a + 1 + 1) z c) k = k from fun k => qAsk_t (re_has h 1 (by omega)) h.wby _ _ k]
  rw [show ∀ k, qC 218 [] (n3 t (a + 1 + 1)) (M7 t (a + 1 + 1) z c) (M7 t (a + 1 + 1 + 3) z c) k = k from fun k => qC_lf (three_spec z ⟨by have := h.has.1; omega, h.has.2⟩ h.step) (fun _ => rfl) (fun _ => rfl) _ _ k]
  rw [show ∀ k, qC 219 [iA (z 23)] (.tup []) (M7 t (a + 1 + 1 + 3) z c ++ [stR t a]) (M7 t (a + 1 + 1 + 3 + 1) z c ++ [stR t a]) k = k from fun k => qC_lf (brace_spec z (re_has h 5 (by omega)) h.op (by rw [hz]; decide)) (fun _ => rfl) (fun _ => rfl) _ _ k]
  rw [qC_t hth]
  exact qAsk_t (by have := re_has h (b - a) (by omega); rwa [show a + (b - a) = b by omega] at this) h.cl _ _ k
theorem repeat_0 (hn : n = 0) (hz : z 23 = 0) {m : Nat} (hth : WSpec Tryz.prog 113 [.own 0 0] (m2 t a z c (a + 1 + 1 + 3 + 1)) (.tup []) (mT0 t a z c m b)) : GSpec Tryz.prog 186 [.own 0 0] (M7 t a z c) (.tup []) (M0 t (b + 1) (zR0 z) c) := by
  subst hn
  exact gspecGW e_nil k_nil m_nil (w_cons wQ_ok (w_cons wQ_ok (w_cons wQ_ok (w_cons wQ_ok (w_cons wQ_ok w_nil))))) r_nil Tryz.func186 (by kernel_rfl) (by kernel_rfl) (mem := M7 t a z c) noL_okN rfl (τ := τ6) (by rfl) ((re_0 t a b z c m).trans (reHd_t h hz hth _))
theorem repeat_1 (hn : n = 1) (hz : z 23 = 0) {m : Nat} (hth : WSpec Tryz.prog 113 [.own 0 0] (m2 t a z c (a + 1 + 1 + 3 + 1)) (.tup []) (mT0 t a z c m b)) : GSpec Tryz.prog 186 [.own 0 0] (M7 t a z c) (.tup []) (MT t (b + 1) (zR0 z) c m) := by
  subst hn
  exact gspecGW e_nil k_nil m_nil (w_cons wQ_ok (w_cons wQ_ok (w_cons wQ_ok (w_cons wQ_ok (w_cons wQ_ok w_nil))))) r_nil Tryz.func186 (by kernel_rfl) (by kernel_rfl) (mem := M7 t a z c) noL_okN rfl (τ := [some 0, some 1, some 2, some 3, some 4, some 5, some 6, some 10]) (by rfl) ((re_1 t a b z c m).trans (reHd_t h hz hth _))
/-- Where the points are shifted, so often. -/
def shf (t : Tk) (a : Nat) (z : Nat → Int) (i j : Nat) : Int := z (24 + i) + (j : Int) * t.N (a + 2 + i)
theorem repeat_n (hn : 2 ≤ n) (hn2 : n ≤ 16) (hz : z 23 = 0) (hsm : ∀ i, i < 3 → (z (24 + i)).natAbs ≤ 1000000 ∧ (t.N (a + 2 + i)).natAbs ≤ 1000000) (hc : c.nS = 0)
    (hth : ∀ j : Nat, (j : Int) < n → GSpec Tryz.prog 113 [.own 0 0] (M7 t (a + 1 + 1 + 3 + 1) (zR3 z (shf t a z 0 j) (shf t a z 1 j) (shf t a z 2 j)) (cN c j)) (.tup []) (MR t (zR3 z (shf t a z 0 j) (shf t a z 1 j) (shf t a z 2 j)) (cN c j) b)) :
    GSpec Tryz.prog 186 [.own 0 0] (M7 t a z c) (.tup []) (MT t (b + 1) (zR0 z) c n.toNat) := by
  have hle := h.le
  have cl : Has t b 1 := by have := re_has h (b - a) (by omega); rwa [show a + (b - a) = b by omega] at this
  have s0 : ∀ i, i < 3 → shf t a z i 0 = z (24 + i) := fun i _ => by unfold shf; omega
  have sS : ∀ i j : Nat, i < 3 → (j : Int) < n → w64 (shf t a z i j + t.N (a + 2 + i)) = shf t a z i (j + 1) := fun i j hi hj => by
    obtain ⟨h1, h2⟩ := hsm i hi
    unfold shf
    have e : ((j + 1 : Nat) : Int) * t.N (a + 2 + i) = (j : Int) * t.N (a + 2 + i) + t.N (a + 2 + i) := by rw [Int.natCast_add, Int.add_mul]; omega
    have b1 : ((j : Int) * t.N (a + 2 + i)).natAbs ≤ 16 * 1000000 := by
      rw [Int.natAbs_mul, Int.natAbs_natCast]
      exact Nat.mul_le_mul (by omega) h2
    rw [e]
    generalize (j : Int) * t.N (a + 2 + i) = y at b1 ⊢
    rw [w64_id (by omega) (by omega)]
    omega
  have first : LeadsN 7 Tryz.prog reIn (Gv.start Tryz.f186 (M7 t a z c) [.own 0 0]) (.goto 0) (reS t a z c 1 n 1 (shf t a z 0 1) (shf t a z 1 1) (shf t a z 2 1)) := by
    have hw : WSpec Tryz.prog 113 [.own 0 0] (m2 t a z c (a + 1 + 1 + 3 + 1)) (.tup []) (mT0 t a z c 1 b) := by
      have g := hth 0 (by omega)
      rw [s0 0 (by omega), s0 1 (by omega), s0 2 (by omega)] at g
      have g' := tin_first (c := cN c 0) (X := [stR t a, scRow c, shR (z 24) (z 25) (z 26)]) rfl g
      have ec : cN c 0 = c := by unfold cN; rw [← hc]
      rw [ec] at g'
      have e1 : c.nS + 1 = 1 := by omega
      rw [e1] at g'
      exact g'
    refine leads_evWN (finX_subN _ (by rfl)) e_nil k_nil m_nil (w_cons wQ_ok (w_cons wQ_ok (w_cons wQ_ok (w_cons wQ_ok (w_cons wQ_ok w_nil))))) r_nil noL_okN ((re_g t a b z c 1 n).trans ?_)
    rw [reHd_t h hz hw, show w64 (0 + 1) = 1 by decide, decide_eq_true (show (1 : Int) < n by omega)]
    have e0 := sS 0 0 (by omega) (by omega)
    have e1 := sS 1 0 (by omega) (by omega)
    have e2 := sS 2 0 (by omega) (by omega)
    rw [s0 0 (by omega)] at e0
    rw [s0 1 (by omega)] at e1
    rw [s0 2 (by omega)] at e2
    rw [← e0, ← e1, ← e2]
    rfl
  have body : ∀ j : Nat, (j : Int) < n → ∀ k, reTi t a b z c j (j + 1) (shf t a z 0 j) (shf t a z 1 j) (shf t a z 2 j) k = k := fun j hj k => by
    unfold reTi
    have g := tin_later (r1 := stR t a) (r2 := shR (z 24) (z 25) (z 26)) (hth j hj)
    rw [show ∀ k, qC 113 [] (.tup []) (reM t z c j (shf t a z 0 j) (shf t a z 1 j) (shf t a z 2 j) (a + 1 + 1 + 3 + 1) 9 ++ [stR t a, shR (z 24) (z 25) (z 26), rS (cN c j)]) (reP t a z c (j + 1) (shf t a z 0 j) (shf t a z 1 j) (shf t a z 2 j) b) k = k from fun k => qC_t g k]
    exact qAsk_t cl h.cl _ _ k
  obtain ⟨N, rfl⟩ : ∃ N : Nat, n = ((N + 2 : Nat) : Int) := ⟨(n - 2).toNat, by omega⟩
  refine gspec_of_leads Tryz.func186 (by kernel_rfl) re_body rfl (mem := M7 t a z c) (τ := τ8) (by rfl) (sf := reF t b z c (N + 2)) (scope_rule re_find (fun _ e => by cases e) (fun j => reS t a z c (j + 1) ((N + 2 : Nat) : Int) ((j + 1 : Nat) : Int) (shf t a z 0 (j + 1)) (shf t a z 1 (j + 1)) (shf t a z 2 (j + 1))) N first (fun j hj => ?_) ?_) (re_out t b z c (N + 2))
  · refine leads_evWN (finX_subN _ (by rfl)) e_nil k_nil m_nil (w_cons wQ_ok (w_cons wQ_ok w_nil)) r_nil noL_okN ((re_p t a b z c (j + 1) (j + 1 + 1) ((N + 2 : Nat) : Int) ((j + 1 : Nat) : Int) _ _ _).trans ?_)
    rw [body (j + 1) (by omega), show w64 (((j + 1 : Nat) : Int) + 1) = ((j + 1 + 1 : Nat) : Int) by rw [w64_id (by omega) (by omega)]; omega, decide_eq_true (show ((j + 1 + 1 : Nat) : Int) < ((N + 2 : Nat) : Int) by omega)]
    have e0 := sS 0 (j + 1) (by omega) (by omega)
    have e1 := sS 1 (j + 1) (by omega) (by omega)
    have e2 := sS 2 (j + 1) (by omega) (by omega)
    rw [← e0, ← e1, ← e2]
    rfl
  · refine leads_evWN (finN_subN _ (by rfl)) e_nil k_nil m_nil (w_cons wQ_ok (w_cons wQ_ok w_nil)) r_nil noL_okN ((re_e t a b z c (N + 1) (N + 1 + 1) ((N + 2 : Nat) : Int) ((N + 1 : Nat) : Int) _ _ _).trans ?_)
    rw [body (N + 1) (by omega), show w64 (((N + 1 : Nat) : Int) + 1) = ((N + 2 : Nat) : Int) by rw [w64_id (by omega) (by omega)]; omega, decide_eq_false (show ¬ ((N + 2 : Nat) : Int) < ((N + 2 : Nat) : Int) by omega), beq_false_of_ne (show ((N + 2 : Nat) : Int) ≠ 0 by omega)]
    rfl
end
end Go.Proofs.YtefphimaggjihaaGreatDoor.Pi.Rd

namespace Go.Proofs.YtefphimaggjihaaGreatDoor.Pi.Rd
open Go.Shelf Go.RowKit Go.Gv
open Hs (shC)
section
variable (t : Tk) (a : Nat) (z : Nat → Int) (c : Ct) (s : ByteArray) (b : Nat) (z' : Nat → Int) (m : Nat)
def xR : List Row := [rdX t b z' { pl0 with s := 14 } (cN c m), dd, rO c, rF c, rK c, rL c, rN c] ++ (T7 ++ [rS (cN c m)])
theorem th_re : evGW Tryz.prog [] [kTe, kMa] [] (wTe s (xR t c b z' m) 186) [] noL Tryz.f148 [.own 0 0] (M7 t a z c) (τ7 14) =
  thX t a z c s (nestK [eqS wEy s, eqS wSy s, eqS wSk s, eqS wLa s, eqS wSo s, eqS wFi s] (cond (eqS wRe s) (teX t a z c (xR t c b z' m) 186 T7 (gout (.tup []) (MT t b z' c m))) (enX s))) := by kernel_rfl
theorem th_re0 : evGW Tryz.prog [] [kTe, kMa] [] (wTe s (M0 t b z' c ++ T7) 186) [] noL Tryz.f148 [.own 0 0] (M7 t a z c) τ6 =
  thX t a z c s (nestK [eqS wEy s, eqS wSy s, eqS wSk s, eqS wLa s, eqS wSo s, eqS wFi s] (cond (eqS wRe s) (teX t a z c (M0 t b z' c ++ T7) 186 T7 (gout (.tup []) (M0 t b z' c))) (enX s))) := by kernel_rfl
theorem tl_re : tlE t a z c (MT t b z' c m) [some 0, some 7, some 2, some 3, some 4, some 5, some 6] = tlX t a z c (MT t b z' c m) (some ⟨.normal, thS (M7 t b z' (cN c m)), .any⟩) := by kernel_rfl
theorem tl_re0 : tlE t a z c (M0 t b z' c) τ6 = tlX t a z c (M0 t b z' c) (some ⟨.normal, thS (M0 t b z' c), .any⟩) := by kernel_rfl
end
section
variable {t : Tk} {a : Nat} {z : Nat → Int} {c : Ct} {b : Nat} {z' : Nat → Int} {m : Nat}
theorem thing_repeat (h : Has t a 1) (hw : Is t a wRe) (hc : GSpec Tryz.prog 186 [.own 0 0] (M7 t (a + 1) z c) (.tup []) (MT t b z' c m)) : GSpec Tryz.prog 148 [.own 0 0] (M7 t a z c) (.tup []) (MT t b z' c m) := by
  refine gspecGW e_nil kk_ok m_nil wTe_ok r_nil Tryz.func148 (by kernel_rfl) (by kernel_rfl) (mem := M7 t a z c) noL_okN rfl (τ := τ7 14) (by rfl) ((th_re t a z c (lB wRe) b z' m).trans ?_)
  rw [thX_t h hw]
  unfold nestK
  simp only [nestK, show eqS wEy (lB wRe) = false from eqN (by decide), show eqS wSy (lB wRe) = false from eqN (by decide), show eqS wSk (lB wRe) = false from eqN (by decide), show eqS wLa (lB wRe) = false from eqN (by decide), show eqS wSo (lB wRe) = false from eqN (by decide), show eqS wFi (lB wRe) = false from eqN (by decide), eqY]
  exact teX_t (th_frame hc (by show 7 ≤ 8; omega) rfl) _
theorem thing_repeat0 (h : Has t a 1) (hw : Is t a wRe) (hc : GSpec Tryz.prog 186 [.own 0 0] (M7 t (a + 1) z c) (.tup []) (M0 t b z' c)) : GSpec Tryz.prog 148 [.own 0 0] (M7 t a z c) (.tup []) (M0 t b z' c) := by
  refine gspecGW e_nil kk_ok m_nil wTe_ok r_nil Tryz.func148 (by kernel_rfl) (by kernel_rfl) (mem := M7 t a z c) noL_okN rfl (τ := τ6) (by rfl) ((th_re0 t a z c (lB wRe) b z').trans ?_)
  rw [thX_t h hw]
  unfold nestK
  simp only [nestK, show eqS wEy (lB wRe) = false from eqN (by decide), show eqS wSy (lB wRe) = false from eqN (by decide), show eqS wSk (lB wRe) = false from eqN (by decide), show eqS wLa (lB wRe) = false from eqN (by decide), show eqS wSo (lB wRe) = false from eqN (by decide), show eqS wFi (lB wRe) = false from eqN (by decide), eqY]
  exact teX_t (th_frame hc (by show 7 ≤ 7; omega) rfl) _
theorem stp_re (h : Has t a 1) (hw : Is t a wRe) (hc : GSpec Tryz.prog 186 [.own 0 0] (M7 t (a + 1) z c) (.tup []) (MT t b z' c m)) : Stp t a z c b z' (cN c m) := tl_go h hw (by rfl) (thing_repeat h hw hc) (by rfl) (tl_re t a z c b z' m)
theorem stp_re0 (h : Has t a 1) (hw : Is t a wRe) (hc : GSpec Tryz.prog 186 [.own 0 0] (M7 t (a + 1) z c) (.tup []) (M0 t b z' c)) (h0 : c.nS = 0) : LeadsN 1 Tryz.prog (loopAt Tryz.f113 0) (thS (M7 t a z c)) .normal (thS (MZ t b z' c)) := by
  refine LeadsN.sub (tl_go h hw (by rfl) (thing_repeat0 h hw hc) (by rfl) (tl_re0 t a z c b z')) (SubN.refl _) (sub_like ⟨likeC ?_, Or.inl rfl, Or.inl rfl, Or.inl rfl, Or.inl rfl, Or.inl rfl, Or.inl rfl, trivial⟩)
  iterate 2 refine And.intro (Or.inl rfl) ?_
  refine And.intro (Or.inr fun E u hu => ?_) ?_
  · have hu : rel E (.osl 1 13 0 c.nS) u := hu
    rw [h0] at hu
    show rel E (.sl 13 0 c.S) u
    rcases rel_osl.1 hu with ⟨_, _, hv⟩ | ⟨_, cc, _, _, _, _, hv⟩
    · exact rel_sl.2 ⟨none, 0, hv, Nat.le_refl _, Or.inl rfl⟩
    · exact rel_sl.2 ⟨_, cc - 0, hv, Nat.zero_le _, Or.inl rfl⟩
  iterate 25 refine And.intro (Or.inl rfl) ?_
  exact ⟨Or.inl rfl, trivial⟩
end
end Go.Proofs.YtefphimaggjihaaGreatDoor.Pi.Rd

namespace Go.Proofs.YtefphimaggjihaaGreatDoor.Pi
open Go.Shelf Go.RowKit Go.Gv
open Go.Ev (cn fadd fsub fmul fdiv fneg feq flt fle fgt fge isNan key val isFin NearF)
open Hs (mth k1000)
def by8 (n : Int) : Int := IntKind.u8.wrap n
noncomputable def dcC (c : Int) : ByteArray := strF 1 fun i => Go.Gv.byteOf (chunk [yA c] 1 i)
noncomputable def dcK (s : ByteArray) : List KEntry := [kS Tryz.prog 23 fun _ => zA s]
theorem dec_ev (n : Int) (s : ByteArray) : evM Tryz.prog [] (dcK s) [born 78] noL Tryz.f23 [iA n] ret =
    cond (decide (n < 0)) (gate (FSpec Tryz.prog 23 [iA (w64 (0 - n))] (zA s)) (cond (catF ⟨#[45]⟩ s || false) (some (Out.of (zA (⟨#[45]⟩ ++ s)))) none))
      (cond (decide (n < 10)) (some (Out.of (zA (dcC (by8 (w64 (48 + n)))))))
        (gate (FSpec Tryz.prog 23 [iA (w64 (n.tdiv 10))] (zA s)) (cond ((catF s (dcC (by8 (w64 (48 + n.tmod 10)))) || false) && true) (some (Out.of (zA (s ++ dcC (by8 (w64 (48 + n.tmod 10))))))) none))) := by kernel_rfl
theorem dcC_eq (c : Nat) : dcC (c : Nat) = lB [UInt8.ofNat c] := by
  unfold dcC
  rw [strF_eq]
  show ByteArray.push ByteArray.empty (UInt8.ofNat ((c : Int)).toNat) = _
  rw [Int.toNat_natCast]
  rfl
theorem dec_dig {k : Nat} (h : k < 10) : dcC (by8 (w64 (48 + (k : Int)))) = lB [UInt8.ofNat (48 + k)] := by
  rw [w64_id (by omega) (by omega), show by8 (48 + (k : Int)) = ((48 + k : Nat) : Int) by unfold by8; rw [u8_id (by omega) (by omega)]; omega, dcC_eq]
theorem itoa_nat (k : Nat) : Lib.itoa (k : Int) = Lib.decDigits k := by unfold Lib.itoa; rw [if_neg (by omega), Int.toNat_natCast]
theorem decs : ∀ (d k : Nat), d ≤ 7 → k < 10 ^ (d + 1) → FSpec Tryz.prog 23 [iA (k : Nat)] (zA (lB (Lib.itoa (k : Nat))))
  | d, k, hd, hk => by
    by_cases h : k < 10
    · rw [itoa_nat, Lib.decDigits_one h]
      refine gspecM e_nil (k_cons kS_ok k_nil) (m_cons (born_ok _) m_nil) Tryz.func23 (by kernel_rfl) (by kernel_rfl) noL_ok rfl ((dec_ev (k : Nat) ⟨#[]⟩).trans ?_)
      rw [decide_eq_false (show ¬ (k : Int) < 0 by omega), decide_eq_true (show (k : Int) < 10 by omega), dec_dig h]
      rfl
    · match d with
      | 0 => exact absurd hk (by omega)
      | d + 1 =>
        have ih := decs d (k / 10) (by omega) (by rw [Nat.pow_succ] at hk; omega)
        have hk8 : k < 100000000 := Nat.lt_of_lt_of_le hk (Nat.le_trans (Nat.pow_le_pow_right (by decide) (show d + 1 + 1 ≤ 8 by omega)) (by decide))
        have hl := (it_few (n := ((k / 10 : Nat) : Int)) (by omega) (by omega)).2
        refine gspecM e_nil (k_cons kS_ok k_nil) (m_cons (born_ok _) m_nil) Tryz.func23 (by kernel_rfl) (by kernel_rfl) noL_ok rfl ((dec_ev (k : Nat) (lB (Lib.itoa ((k / 10 : Nat) : Int)))).trans ?_)
        have e1 : w64 ((k : Int).tdiv 10) = ((k / 10 : Nat) : Int) := by rw [Int.tdiv_eq_ediv_of_nonneg (by omega), w64_id (by omega) (by omega)]; omega
        have e2 : (k : Int).tmod 10 = ((k % 10 : Nat) : Int) := by rw [Int.tmod_eq_emod_of_nonneg (by omega)]; omega
        have e3 : Lib.itoa (k : Int) = Lib.itoa ((k / 10 : Nat) : Int) ++ [UInt8.ofNat (48 + k % 10)] := by rw [itoa_nat, itoa_nat, Lib.decDigits, dif_neg h]
        rw [decide_eq_false (show ¬ (k : Int) < 0 by omega), cond_false, decide_eq_false (show ¬ (k : Int) < 10 by omega), cond_false, e1, e2, gate_pos ih, dec_dig (k := k % 10) (by omega), cat_t (by rw [size_lB, size_lB]; show _ + 1 ≤ _; omega), lB_app, e3]
        rfl
/-- Dec of a number that is no less than 0. -/
theorem dec_spec {n : Int} (h0 : 0 ≤ n) (h1 : n < 100000000) : FSpec Tryz.prog 23 [iA n] (zA (lB (Lib.itoa n))) := by
  obtain ⟨k, rfl⟩ := Int.eq_ofNat_of_zero_le h0
  exact decs 7 k (by decide) (by omega)
end Go.Proofs.YtefphimaggjihaaGreatDoor.Pi

namespace Go.Proofs.YtefphimaggjihaaGreatDoor.Pi.Rd
open Go.Shelf Go.RowKit Go.Gv
noncomputable def catL : ByteArray → List ByteArray → Bool
  | _, [] => true
  | s, t :: r => (catF s t || false) && catL (s ++ t) r
def apL : ByteArray → List ByteArray → ByteArray
  | s, [] => s
  | s, t :: r => apL (s ++ t) r
end Go.Proofs.YtefphimaggjihaaGreatDoor.Pi.Rd

namespace Go.Proofs.YtefphimaggjihaaGreatDoor.Pi.Rd
open Go.Shelf Go.RowKit Go.Gv
open Hs Hs.Sc
def gPk (pf : Int → Int → Int) : List AV → AV
  | [.x (.int .i64 c), .x (.int .i64 k)] => iA (pf c k)
  | _ => .any
def gDe (dF : Int → ByteArray) : List AV → AV
  | [.x (.int .i64 v)] => zA (dF v)
  | _ => .any
def gPs (G : ByteArray → Scn) : List AV → AV
  | [.x (.string s)] => .tup [.agg (G s).c, iA 0]
  | _ => .any
def hdT : ByteArray := ⟨#[101, 121, 101, 32, 48, 32, 48, 32, 45, 57, 32, 116, 111, 32, 48, 32, 48, 32, 48, 32, 117, 112, 32, 48, 32, 49, 32, 48, 32, 119, 105, 100, 101, 32, 49, 32, 59, 32, 115, 107, 105, 110, 32, 195, 164, 49, 32, 115, 112, 114, 101, 97, 100, 32, 53, 48, 48, 32, 52, 48, 48, 32, 51, 48, 48, 32, 109, 105, 114, 114, 111, 114, 32, 48, 32, 48, 32, 48, 32, 103, 108, 97, 115, 115, 32, 48, 32, 48, 32, 48, 32, 98, 101, 110, 100, 32, 49, 32, 59, 32]⟩
section
variable (n0 r0 : Int) (nb : Nat) (bs : Nat → Int) (pf : Int → Int → Int) (rf : Int → Int) (dF : Int → ByteArray) (G : ByteArray → Scn) (one x : ByteArray) (k n r d0 d1 d2 : Int)
def dSl : AV := .sl 1 3 (chunk [iA d0, iA d1, iA d2] 1)
def twS : St := mkS 129 [(0, iA n), (2, iA r), (7, dSl d0 d1 d2), (9, zA one), (10, zA x), (11, iA k)] []
def twL : List ByteArray := [⟨#[98, 97, 108, 108, 32]⟩, dF (w64 (1 + w64 (k * d0))), ⟨#[32]⟩, dF (w64 (2 + w64 (k * d1))), ⟨#[32]⟩, dF (w64 (3 + w64 (k * d2))), ⟨#[32, 114, 97, 100, 105, 117, 115, 32]⟩, dF r, ⟨#[32, 195, 164, 49, 32, 59, 32]⟩]
def FDe (v : Int) : Prop := FSpec Tryz.prog 23 [iA v] (zA (dF v))
noncomputable def kDe : KEntry := kS Tryz.prog 23 (gDe dF)
noncomputable def twC (o oe : Option Out) : Option Out := cond (decide (k < n)) (gate (FDe dF (w64 (1 + w64 (k * d0)))) (gate (FDe dF (w64 (2 + w64 (k * d1)))) (gate (FDe dF (w64 (3 + w64 (k * d2)))) (gate (FDe dF r) (cond (catL x (twL dF k r d0 d1 d2)) o none))))) oe
theorem tw_step : evC Tryz.prog [] [kDe dF] noL (loopAt Tryz.f7 0) (twS one x k n r d0 d1 d2) (finN [0, 2, 7, 9, 10, 11] []) = twC dF x k n r d0 d1 d2 (some ⟨.normal, twS one (apL x (twL dF k r d0 d1 d2)) (w64 (k + 1)) n r d0 d1 d2, .any⟩) none := by kernel_rfl
theorem tw_end : evC Tryz.prog [] [kDe dF] noL (loopAt Tryz.f7 0) (twS one x k n r d0 d1 d2) (finE [0, 2, 7, 9, 10, 11] []) = twC dF x k n r d0 d1 d2 none (some ⟨.exit 0, twS one x k n r d0 d1 d2, .any⟩) := by kernel_rfl
def oneL' : List ByteArray := [⟨#[114, 101, 112, 101, 97, 116, 32]⟩, dF n, ⟨#[32, 98, 121, 32]⟩, dF d0, ⟨#[32]⟩, dF d1, ⟨#[32]⟩, dF d2, ⟨#[32, 123, 32, 98, 97, 108, 108, 32, 49, 32, 50, 32, 51, 32, 114, 97, 100, 105, 117, 115, 32]⟩, dF r, ⟨#[32, 195, 164, 49, 32, 59, 32, 125]⟩]
def oneT : ByteArray := apL hdT (oneL' dF n r d0 d1 d2)
noncomputable def gPi (c m : Int) (o : Option Out) : Option Out := gate (FSpec Tryz.prog 21 [iA c, iA m] (iA (pf c m))) o
noncomputable def ttK : List KEntry := [kS Tryz.prog 21 (gPk pf), rwK rf, kDe dF, kS Tryz.prog 8 (gPs G), kS Tryz.prog 10 (fun _ => bA true)]
noncomputable def ttB (n r d0 d1 d2 : Int) : Option Out := gate (FDe dF n) (gate (FDe dF d0) (gate (FDe dF d1) (gate (FDe dF d2) (gate (FDe dF r) (cond (catL hdT (oneL' dF n r d0 d1 d2)) (gate (Sub (twS (oneT dF n r d0 d1 d2) hdT 0 n r d0 d1 d2) (twS (oneT dF n r d0 d1 d2) hdT 0 n r d0 d1 d2)) (gate (FSpec Tryz.prog 8 [zA (oneT dF n r d0 d1 d2)] (.tup [.agg (G (oneT dF n r d0 d1 d2)).c, iA 0])) (gate (FSpec Tryz.prog 8 [zA x] (.tup [.agg (G x).c, iA 0])) (gate (FSpec Tryz.prog 10 [.agg (G (oneT dF n r d0 d1 d2)).c, .agg (G x).c] (bA true)) (oB (((G (oneT dF n r d0 d1 d2)).nS : Int) == n)))))) none)))))
noncomputable def ttX : Option Out := cond (decide ((nb : Int) > 64)) (oB true) (gPi pf n0 6 (gR nb bs rf 0 (gPi pf (rf 0) 20 (gR nb bs rf 1 (gPi pf (rf 1) 20 (gR nb bs rf 2 (gPi pf (rf 2) 20 (gPi pf r0 9 (ttB dF G x (pf n0 6) (w64 (1 + pf r0 9)) (pf (rf 0) 20) (pf (rf 1) 20) (pf (rf 2) 20))))))))))
theorem tt_ev : evM Tryz.prog [] (ttK pf rf dF G) [born 48] (oneL 10 (toldF [0, 2, 7, 9, 10, 11] [] (twS (oneT dF (pf n0 6) (w64 (1 + pf r0 9)) (pf (rf 0) 20) (pf (rf 1) 20) (pf (rf 2) 20)) hdT 0 (pf n0 6) (w64 (1 + pf r0 9)) (pf (rf 0) 20) (pf (rf 1) 20) (pf (rf 2) 20)) (.exit 0) (twS (oneT dF (pf n0 6) (w64 (1 + pf r0 9)) (pf (rf 0) 20) (pf (rf 1) 20) (pf (rf 2) 20)) x (pf n0 6) (pf n0 6) (w64 (1 + pf r0 9)) (pf (rf 0) 20) (pf (rf 1) 20) (pf (rf 2) 20)))) Tryz.f7 [iA n0, sI nb bs, iA r0] ret = ttX n0 r0 nb bs pf rf dF G x := by kernel_rfl
end
end Go.Proofs.YtefphimaggjihaaGreatDoor.Pi.Rd

namespace Go.Proofs.YtefphimaggjihaaGreatDoor.Pi
open Go.Shelf Go.RowKit Go.Gv
def aeT : List UInt8 := [195, 164, 49]
theorem get_lB {F : List UInt8} {i : Nat} (h : i < F.length) : (lB F).get! i = F.getD i 0 := by
  have h' : i < (lB F).size := by rw [size_lB]; exact h
  have e := Go.get_at (lB F) i h'
  rw [Nat.add_zero] at e
  rw [e]
  show (lB F).data[i]'h' = _
  rw [List.getD_eq_getElem?_getD, List.getElem?_eq_getElem h]
  rfl
theorem dec_ae (n : Nat) (h : 1 < n) (x y : Nat) : Lib.decodeN n 195 164 x y = (228, 2) := by
  unfold Lib.decodeN
  rw [if_neg (by decide), if_pos ⟨by decide, h, by decide⟩, if_pos (by decide)]
theorem at_ae {F pre rest : List UInt8} (hF : F = pre ++ 195 :: 164 :: rest) : pre.length < (lB F).size ∧ dcI (lB F) pre.length = 228 ∧ dcW (lB F) pre.length = pre.length + 2 := by
  have hs : (lB F).size = pre.length + (rest.length + 2) := by rw [size_lB, hF]; simp
  have g0 : (lB F).get! pre.length = 195 := by
    rw [get_lB (by rw [hF]; simp), hF, List.getD_eq_getElem?_getD, List.getElem?_append_right (Nat.le_refl _), Nat.sub_self]
    rfl
  have g1 : (lB F).get! (pre.length + 1) = 164 := by
    rw [get_lB (by rw [hF]; simp), hF, List.getD_eq_getElem?_getD, List.getElem?_append_right (by omega), show pre.length + 1 - pre.length = 1 by omega]
    rfl
  have e : Utf8.decode (lB F) pre.length = (228, 2) := by
    rw [Lib.decode_at, g0, g1]
    exact dec_ae _ (by omega) _ _
  unfold dcI dcW
  rw [dcX_eq, e]
  exact ⟨by omega, rfl, rfl⟩
/-- A token, that name among them. -/
def TokE (t : List UInt8) : Prop := Tok1 t ∨ t = aeT
theorem cut_onE {F pre t rest : List UInt8} {c : UInt8} {l : List ByteArray} (hF : F = pre ++ (t ++ c :: rest)) (ht : TokE t) (hc : GpC c) (h : Cut (lB F) (pre ++ t).length l) : Cut (lB F) pre.length (lB t :: l) := by
  rcases ht with ht | rfl
  · exact cut_one hF ht hc h
  have hg := gap_at (F := F) (pre := pre ++ aeT) (rest := rest) (c := c) (by rw [hF]; simp) hc
  obtain ⟨a1, a2, a3⟩ := at_ae (F := F) (pre := pre) (rest := 49 :: c :: rest) (by rw [hF]; rfl)
  obtain ⟨b1, b2, b3⟩ := at_pre (F := F) (pre := pre ++ [195, 164]) (rest := c :: rest) (b := 49) (by rw [hF]; simp [aeT]) (by decide)
  have el : (pre ++ [195, 164]).length = pre.length + 2 := by simp
  have el2 : (pre ++ aeT).length = pre.length + 3 := by simp [aeT]
  rw [el] at b1 b2 b3
  rw [el2] at hg h
  have hW : Wrd (lB F) pre.length (1 + 1) (pre.length + 3) := by
    refine ⟨a1, by rw [a2]; decide, ?_⟩
    rw [a3]
    refine ⟨b1, by rw [b2]; decide, ?_⟩
    rw [b3]
    rfl
  have e : (lB F).extract pre.length (pre.length + 3) = lB aeT := by
    rw [← lB_bL ((lB F).extract _ _), bL_extract, bL_lB, hF, ← List.append_assoc, List.take_append_of_le_length (by rw [el2]; omega), List.take_of_length_le (by rw [el2]; omega)]
    simp
  have := Cut.wrd (s := lB F) (p := pre.length) (k := 1) (q := pre.length + 3) hW (by omega) hg.1 (cut_inv h hg.1)
  rw [e] at this
  exact this
theorem cut_tksE : ∀ (ts : List (List UInt8)), (∀ t, t ∈ ts → TokE t) → ∀ {b : Bool} {F pre rest : List UInt8} {c : UInt8} {l : List ByteArray}, F = pre ++ (tks b ts ++ c :: rest) → GpC c → Cut (lB F) (pre ++ tks b ts).length l → Cut (lB F) pre.length (ts.map lB ++ l)
  | [], _, b, F, pre, rest, c, l, _, _, h => by simpa [tks] using h
  | t :: r, ht, b, F, pre, rest, c, l, hF, hc, h => by
    have key : ∀ pre1 : List UInt8, F = pre1 ++ (t ++ (tks true r ++ c :: rest)) → (pre1 ++ (t ++ tks true r)).length = (pre ++ tks b (t :: r)).length → Cut (lB F) pre1.length ((t :: r).map lB ++ l) := fun pre1 e1 e2 => by
      have ih := cut_tksE r (fun x hx => ht x (by simp [hx])) (b := true) (F := F) (pre := pre1 ++ t) (rest := rest) (c := c) (l := l) (by rw [e1]; simp) hc (by rw [List.append_assoc, e2]; exact h)
      cases r with
      | nil => exact cut_onE (rest := rest) (c := c) (by rw [e1]; simp [tks]) (ht t (by simp)) hc ih
      | cons t2 r2 => exact cut_onE (rest := t2 ++ tks true r2 ++ c :: rest) (c := 32) (by rw [e1]; simp [tks]) (ht t (by simp)) (Or.inl rfl) ih
    cases b with
    | false => exact key pre (by rw [hF]; simp [tks]) (by simp [tks])
    | true =>
      obtain ⟨g1, g2⟩ := gap_at (F := F) (pre := pre) (rest := t ++ (tks true r ++ c :: rest)) (c := 32) (by rw [hF]; simp [tks]) (Or.inl rfl)
      have := key (pre ++ [32]) (by rw [hF]; simp [tks]) (by simp [tks])
      refine Cut.gap g1 ?_
      rw [g2]
      rw [List.length_append] at this
      exact this
/-- Tokens with a blank behind each. -/
theorem cut_two {ts : List (List UInt8)} (ht : ∀ t, t ∈ ts → TokE t) : Cut (lB (tks false ts ++ [32])) 0 (ts.map lB) := by
  have := cut_tksE ts ht (b := false) (F := tks false ts ++ [32]) (pre := []) (rest := []) (c := 32) (l := []) rfl (Or.inl rfl) (by
    obtain ⟨g1, g2⟩ := gap_at (F := tks false ts ++ [32]) (pre := tks false ts) (rest := []) (c := 32) rfl (Or.inl rfl)
    exact Cut.gap g1 (Cut.fin (by show (lB (tks false ts ++ [32])).size ≤ dcW (lB (tks false ts ++ [32])) (tks false ts).length; rw [g2, size_lB]; simp)))
  rw [List.append_nil] at this
  exact this
/-- Tokens with a blank between them, and a brace last. -/
theorem cut_brace {ts : List (List UInt8)} (ht : ∀ t, t ∈ ts → TokE t) : Cut (lB (tks false ts ++ [32, 125])) 0 ((ts ++ [[125]]).map lB) := by
  have := cut_tksE ts ht (b := false) (F := tks false ts ++ [32, 125]) (pre := []) (rest := [125]) (c := 32) (l := [lB [125]]) rfl (Or.inl rfl) (by
    obtain ⟨g1, g2⟩ := gap_at (F := tks false ts ++ [32, 125]) (pre := tks false ts) (rest := [125]) (c := 32) rfl (Or.inl rfl)
    refine Cut.gap g1 ?_
    obtain ⟨p1, p2, p3⟩ := pun_at (F := tks false ts ++ [32, 125]) (pre := tks false ts ++ [32]) (rest := []) (c := 125) (by simp) (by unfold Pnc; simp)
    have el : (tks false ts ++ [32]).length = (tks false ts).length + 1 := by simp
    rw [el] at p1 p2 p3
    have := Cut.pun p1 (l := []) (Cut.fin (by rw [p2, size_lB]; simp))
    rw [p3, ← g2] at this
    exact this)
  rw [List.map_append]
  exact this
/-- That name is a name. -/
theorem ae_name : FSpec Tryz.prog 237 [zA (lB aeT)] (bA true) := by
  refine name_spec (k := 2) (by omega) (by omega) ?_
  obtain ⟨a1, a2, a3⟩ := at_ae (F := aeT) (pre := []) (rest := [49]) rfl
  obtain ⟨b1, b2, b3⟩ := at_pre (F := aeT) (pre := [195, 164]) (rest := []) (b := 49) rfl (by decide)
  refine ⟨a1, ?_, ?_⟩
  · have a2 : dcI (lB aeT) 0 = 228 := a2
    rw [a2]
    decide
  · have a3 : dcW (lB aeT) 0 = 2 := a3
    rw [a3]
    refine ⟨b1, ?_, ?_⟩
    · have b2 : dcI (lB aeT) 2 = ((49 : UInt8).toNat : Int) := b2
      rw [b2]
      decide
    · have b3 : dcW (lB aeT) 2 = 3 := b3
      rw [b3]
      show (lB aeT).size ≤ 3
      decide
end Go.Proofs.YtefphimaggjihaaGreatDoor.Pi

namespace Go.Proofs.YtefphimaggjihaaGreatDoor.Pi.Rd
open Go.Shelf Go.RowKit Go.Gv
open Hs.So (Prt prS)
open Hs (shC)
open Hs.Sc (Scn)
section
end
end Go.Proofs.YtefphimaggjihaaGreatDoor.Pi.Rd

namespace Go.Proofs.YtefphimaggjihaaGreatDoor.Pi.Rd
open Go.Shelf Go.RowKit Go.Gv
open Hs.So (Prt prS)
open Hs (shC)
open Hs.Sc (Scn)
structure Good (s : Scn) : Prop where
  fK : s.nK ≤ 16
  fL : s.nL ≤ 4
  fS : s.nS ≤ 64
  fO : s.nO ≤ 8
  fF : s.nF ≤ 2
  sky : ∀ q, q < 3 → Wn 65536 (s.sky q)
  K : ∀ j, j < s.nK → (∀ q, q < 9 → Wn 1000 (s.K j q)) ∧ (s.K j 9).natAbs ≤ 1000000
  LL : ∀ j, j < s.nL → ∀ q, q < 3 → Wn 65536 (s.LL j q)
  S : ∀ j, j < s.nS → (1 ≤ (s.S j).k ∧ (s.S j).k ≤ 6) ∧ ∃ w : Nat, (s.S j).sk = (w : Nat) ∧ w < s.nK
  O : ∀ j, j < s.nO → (1 ≤ (s.O j).n ∧ (s.O j).n ≤ 16) ∧ PM (s.O j).n (s.O j).P ∧ arB (s.O j).n (s.O j).P = true ∧ (∀ i, i < (s.O j).n → ((s.O j).P i).op = 0 → ((s.O j).P i).k = 1 ∨ ((s.O j).P i).k = 2 ∨ ((s.O j).P i).k = 5) ∧ ∃ w : Nat, (s.O j).sk = (w : Nat) ∧ w < s.nK
  F : ∀ j, j < s.nF → ∃ W H w : Nat, (s.F j).W = (W : Nat) ∧ (s.F j).H = (H : Nat) ∧ W ≤ 8 ∧ H ≤ 8 ∧ W * H = (s.F j).n ∧ (∀ q, q < (s.F j).n → ((s.F j).hs q).natAbs ≤ 1000000) ∧ (s.F j).sk = (w : Nat) ∧ w < s.nK
noncomputable def eyL (e : Nat → Nat) : List Nat := [rdF (e 0), rdF (e 1), rdF (e 2), rdF (e 3), rdF (e 4), rdF (e 5), rdF (e 6), rdF (e 7), rdF (e 8), rdF (e 9)]
def skL' (f : Nat → Int) : List Int := [f 0, f 1, f 2, f 3, f 4, f 5, f 6, f 7, f 8, f 9]
noncomputable def shX6 (p : Hs.Sc.Shp) : List AV := shC p.k (cX p.k (rd p.a)) p.sk
noncomputable def soX6 (p : Hs.Sc.Sld) : List AV := soK p.n (fun i => rdP' (p.P i)) p.sk
noncomputable def fdX6 (F : Hs.Fm.Fd) : List AV := fdK F.W F.H (rdF (F.at_ 0)) (rdF (F.at_ 1)) (rdF (F.at_ 2)) (rdF F.sd) (slI F.n F.hs) F.sk
structure Mays (s : Scn) : Prop where
  eye : FSpec Tryz.prog 16 [.agg (eyK (eyL s.eye))] (iA 0)
  K : ∀ j, j < s.nK → FSpec Tryz.prog 18 [.agg (skK (skL' (s.K j)))] (iA 0)
  S : ∀ j, j < s.nS → FSpec Tryz.prog 98 [.agg (shX6 (s.S j))] (iA 0)
  O : ∀ j, j < s.nO → FSpec Tryz.prog 99 [.agg (soX6 (s.O j))] (iA 0)
  F : ∀ j, j < s.nF → FSpec Tryz.prog 100 [.agg (fdX6 (s.F j))] (iA 0)
section
variable {t : Tk} {z zf : Nat → Int} {cf : Ct}
end
end Go.Proofs.YtefphimaggjihaaGreatDoor.Pi.Rd

namespace Go.Proofs.YtefphimaggjihaaGreatDoor.Pi.Rd
open Go.Shelf Go.RowKit Go.Gv
open Hs (shC SH)
open Hs.Sc (ey_spec sk_spec eyE skE)
/-- A number that is written so. -/
def dP (n : Int) : TP := (dcT n, n)
theorem dP_num {n : Int} (h : n.natAbs ≤ 1000000) : NumB (dP n) := dc_num h
section
variable {t : Tk} {a : Nat} {z : Nat → Int} {c : Ct} {l : List TP}
/-- Three numbers, moved. -/
theorem mv_at {x : Nat → Int} {i0 : Nat} (h : At t a l) (k : ∀ i, i < 3 → l[i0 + i]? = some (dP (x i))) (hx : ∀ i, i < 3 → (x i).natAbs ≤ 1000000 ∧ (x i + z (24 + i)).natAbs ≤ 1000000) : ShOk t z (a + i0) ∧ ∀ i, i < 3 → fS t z yI (a + i0) i = yI (x i + z (24 + i)) := by
  have hs : ∀ i, i < 3 → shN t z (a + i0) i = x i + z (24 + i) := fun i hi => by
    have e := (h.get (k i hi)).2
    have e : t.N (a + (i0 + i)) = x i := e
    have hf := (hx i hi).2
    unfold shN
    rw [Nat.add_assoc, e, w64_id (by omega) (by omega)]
  refine ⟨fun i hi => ⟨by rw [Nat.add_assoc]; exact h.num (k i hi) (dP_num (hx i hi).1), ?_⟩, fun i hi => ?_⟩
  · rw [hs i hi]
    have hf := (hx i hi).2
    omega
  · unfold fS
    rw [hs i hi]
theorem num_at {i : Nat} {x : Int} (h : At t a l) (hp : l[i]? = some (dP x)) : fN t yI (a + i) = yI x := by
  unfold fN
  rw [(h.get hp).2]
  rfl
def eyHd : List TP := [kP wEy, dP 0, dP 0, dP (-9000), kP [116, 111], dP 0, dP 0, dP 0, kP [117, 112], dP 0, dP 1000, dP 0, kP [119, 105, 100, 101], dP 1000, kP [59]]
noncomputable def eyV : List Nat := [yI 0, yI 0, yI (-9000), yI 0, yI 0, yI 0, yI 0, yI 1000, yI 0, yI 1000]
theorem eyV_ok : eyE (lst eyV) = 0 := by kernel_rfl
def p9 (i : Nat) : Int := if i = 2 then -9000 else 0
theorem eye_L (h : At t a (eyHd ++ l)) (hz : Z0 z) (h23 : z 23 = 0) (h21 : z 21 = 0) : Stp t a z c (a + 15) (setZ z 21 1) (cEye c eyV) := by
  have hB : At t (a + 1) ([dP 0, dP 0, dP (-9000), kP [116, 111], dP 0, dP 0, dP 0, kP [117, 112], dP 0, dP 1000, dP 0, kP [119, 105, 100, 101], dP 1000, kP [59]] ++ l) := h.2
  have hz1 : Z0 (setZ z 21 1) := hz.set (Or.inl (by omega)) 1
  have e0 : ∀ i, i < 3 → setZ z 21 1 (24 + i) = 0 := fun i hi => by
    match i, hi with
    | 0, _ => exact hz1.1
    | 1, _ => exact hz1.2.1
    | 2, _ => exact hz1.2.2
  obtain ⟨p1, p2⟩ := mv_at (z := setZ z 21 1) (x := p9) (i0 := 0) hB (fun i hi => by match i, hi with | 0, _ => rfl | 1, _ => rfl | 2, _ => rfl) (fun i hi => by rw [e0 i hi]; match i, hi with | 0, _ => decide | 1, _ => decide | 2, _ => decide)
  obtain ⟨q1, q2⟩ := mv_at (z := setZ z 21 1) (x := fun _ => 0) (i0 := 4) hB (fun i hi => by match i, hi with | 0, _ => rfl | 1, _ => rfl | 2, _ => rfl) (fun i hi => by rw [e0 i hi]; decide)
  have r0 : fN t yI (a + 1 + 8) = yI 0 := num_at hB rfl
  have r1 : fN t yI (a + 1 + 9) = yI 1000 := num_at hB rfl
  have r2 : fN t yI (a + 1 + 10) = yI 0 := num_at hB rfl
  have r4 : fN t yI (a + 1 + 12) = yI 1000 := num_at hB rfl
  have p20 : fS t (setZ z 21 1) yI (a + 1) 0 = yI 0 := by have := p2 0 (by omega); rw [e0 0 (by omega)] at this; exact this
  have p21 : fS t (setZ z 21 1) yI (a + 1) 1 = yI 0 := by have := p2 1 (by omega); rw [e0 1 (by omega)] at this; exact this
  have p22 : fS t (setZ z 21 1) yI (a + 1) 2 = yI (-9000) := by have := p2 2 (by omega); rw [e0 2 (by omega)] at this; exact this
  have q20 : fS t (setZ z 21 1) yI (a + 1 + 4) 0 = yI 0 := by have := q2 0 (by omega); rw [e0 0 (by omega)] at this; exact this
  have q21 : fS t (setZ z 21 1) yI (a + 1 + 4) 1 = yI 0 := by have := q2 1 (by omega); rw [e0 1 (by omega)] at this; exact this
  have q22 : fS t (setZ z 21 1) yI (a + 1 + 4) 2 = yI 0 := by have := q2 2 (by omega); rw [e0 2 (by omega)] at this; exact this
  have e4 : ey4 t z yI (a + 1) = eyV := by
    unfold ey4 eyV
    rw [p20, p21, p22, q20, q21, q22, r0, r1, r2, r4]
  have nm : ∀ i x, _ = some (dP x) → x.natAbs ≤ 1000000 → NumAt t (a + 1 + i) := fun i x hp hx => hB.num (i := i) hp (dP_num hx)
  have g := eye_spec (c := c) (hB.has 14 (by simp)) h23 h21 p1 (hB.is (i := 3) rfl) q1 (hB.is (i := 7) rfl) (fun i hi => by match i, hi with | 0, _ => exact nm 8 0 rfl (by decide) | 1, _ => exact nm 9 1000 rfl (by decide) | 2, _ => exact nm 10 0 rfl (by decide)) (hB.is (i := 11) rfl) (nm 12 1000 rfl (by decide)) (hB.is (i := 13) rfl) (by
    rw [e4]
    have := ey_spec (lst eyV)
    rw [eyV_ok] at this
    exact this)
  rw [e4] at g
  exact stp_m (h.has 1 (by simp [eyHd])) (h.is (i := 0) rfl) (by rfl) (thing_eye (h.has 1 (by simp [eyHd])) (h.is (i := 0) rfl) g)
def f5 (i : Nat) : Int := if i = 0 then 500 else if i = 1 then 400 else 300
def skT : List TP := [kP wSk, (aeT, 0), kP W2] ++ (hP f5 ++ (kP W3 :: (hP (fun _ => 0) ++ (kP W4 :: (hP (fun _ => 0) ++ [kP W5, dP 1000, kP [59]])))))
def skV : List Int := [500, 400, 300, 0, 0, 0, 0, 0, 0, 1000]
theorem skV_ok : skE (skL skV) = 0 := by kernel_rfl
theorem skin_L (h : At t a (skT ++ l)) (h23 : z 23 = 0) (hN : c.nN = 0) (h0 : c.N 0 = lB aeT) (hk : c.nK = 0) (hx : c.K 0 = skK skV) : Stp t a z c (a + 17) z { c with nN := c.nN + 1, nK := c.nK + 1 } := by
  have hB : At t (a + 1) ([(aeT, 0), kP W2] ++ ((hP f5 ++ (kP W3 :: (hP (fun _ => 0) ++ (kP W4 :: (hP (fun _ => 0) ++ [kP W5, dP 1000, kP [59]]))))) ++ l)) := h.2
  have e : t.T (a + 1) = lB aeT := hB.1.1
  have e4 : sk4 t (a + 1) = skV := by
    have n := fun (i : Nat) (x : TP) (hp : _ = some x) => (hB.get (i := i) (p := x) hp).2
    have n0 : t.N (a + 1 + 2) = 500 := n 2 _ rfl
    have n1 : t.N (a + 1 + 3) = 400 := n 3 _ rfl
    have n2 : t.N (a + 1 + 4) = 300 := n 4 _ rfl
    have n3 : t.N (a + 1 + 6) = 0 := n 6 _ rfl
    have n4 : t.N (a + 1 + 7) = 0 := n 7 _ rfl
    have n5 : t.N (a + 1 + 8) = 0 := n 8 _ rfl
    have n6 : t.N (a + 1 + 10) = 0 := n 10 _ rfl
    have n7 : t.N (a + 1 + 11) = 0 := n 11 _ rfl
    have n8 : t.N (a + 1 + 12) = 0 := n 12 _ rfl
    have n9 : t.N (a + 1 + 14) = 1000 := n 14 _ rfl
    unfold sk4
    rw [n0, n1, n2, n3, n4, n5, n6, n7, n8, n9]
    rfl
  have w5 : ∀ q, q < 3 → Wn 1000 (f5 q) := fun q hq => by match q, hq with | 0, _ => exact ⟨500, rfl, by decide⟩ | 1, _ => exact ⟨400, rfl, by decide⟩ | 2, _ => exact ⟨300, rfl, by decide⟩
  have w0 : ∀ q : Nat, q < 3 → Wn 1000 ((fun _ => 0 : Nat → Int) q) := fun q hq => ⟨0, rfl, by decide⟩
  have s := skin_spec (c := c) (hB.has 16 (by simp [hP])) h23 (by rw [e]; exact ae_name) (fun q hq => by omega) (by omega) (by omega) (hB.is (i := 1) rfl) (who3 hB (i0 := 2) rfl rfl rfl w5 (by omega)) (hB.is (i := 5) rfl) (who3 hB (i0 := 6) (f := fun _ => 0) rfl rfl rfl w0 (by omega)) (hB.is (i := 9) rfl) (who3 hB (i0 := 10) (f := fun _ => 0) rfl rfl rfl w0 (by omega)) (hB.is (i := 13) rfl) (hB.num (i := 14) rfl (dP_num (by decide))) (hB.is (i := 15) rfl) (by
    rw [e4]
    have := sk_spec (skL skV)
    rw [skV_ok] at this
    exact this)
  rw [e4] at s
  have hmx : ∀ q, q ≤ c.nK → Mx (c.K q) (skK skV) := fun q hq => by
    have : q = 0 := by omega
    subst this
    rw [hx]
    exact ⟨rfl, rfl⟩
  exact stp_k (h.has 1 (by simp [skT])) (h.is (i := 0) rfl) (by rfl) (thing_skin (h.has 1 (by simp [skT])) (h.is (i := 0) rfl) s) (by rw [hk]; exact hx) hmx (by rw [e, hN]; exact h0)
def baP (x : Nat → Int) (r : Int) : List TP := [kP wBa, dP (x 0), dP (x 1), dP (x 2), kP radT, dP r, (aeT, 0), kP [59]]
noncomputable def baA (y : Nat → Int) (r : Int) : Nat → Nat := fun q => cond (Nat.blt q 3) (yI (y q)) (cond (Nat.beq q 9) (yI r) 0)
theorem ball_th {x : Nat → Int} {r : Int} (h : At t a (baP x r ++ l)) (hx : ∀ i, i < 3 → (x i).natAbs ≤ 1000000 ∧ (x i + z (24 + i)).natAbs ≤ 1000000) (hr : r.natAbs ≤ 1000000) (hN : c.nN = 1) (h0 : c.N 0 = lB aeT) (hS : c.nS < 64)
    (hm : FSpec Tryz.prog 98 [.agg (shC 1 (baA (fun i => x i + z (24 + i)) r) 0)] (iA 0)) : GSpec Tryz.prog 148 [.own 0 0] (M7 t a z c) (.tup []) (MS t z c (a + 8) (shC 1 (baA (fun i => x i + z (24 + i)) r) 0)) := by
  have hB : At t (a + 1) ([dP (x 0), dP (x 1), dP (x 2), kP radT, dP r, (aeT, 0), kP [59]] ++ l) := h.2
  obtain ⟨p1, p2⟩ := mv_at (z := z) (x := x) (i0 := 0) hB (fun i hi => by match i, hi with | 0, _ => rfl | 1, _ => rfl | 2, _ => rfl) hx
  have e := ball_spec (hB.has 5 (by simp)) p1 (hB.is (i := 3) rfl) (hB.num (i := 4) rfl (dP_num hr))
  have p20 : fS t z yI (a + 1) 0 = yI (x 0 + z 24) := p2 0 (by omega)
  have p21 : fS t z yI (a + 1) 1 = yI (x 1 + z 25) := p2 1 (by omega)
  have p22 : fS t z yI (a + 1) 2 = yI (x 2 + z 26) := p2 2 (by omega)
  have p4 : fN t yI (a + 1 + 4) = yI r := num_at hB rfl
  unfold cBa at e
  rw [p20, p21, p22, p4] at e
  have e6 : t.T (a + 6) = lB aeT := (h.get (i := 6) rfl).1
  exact thing_shape (n := 6) (w := 0) (.ba (h.has 1 (by simp [baP])) (h.is (i := 0) rfl) e) ((h.has 8 (by simp [baP])).sub 6 2 (by omega)) ⟨by omega, by rw [e6]; exact ae_name, by omega, by rw [e6]; exact h0, fun j hj => absurd hj (by omega)⟩ (h.is (i := 7) rfl) hm hS
end
end Go.Proofs.YtefphimaggjihaaGreatDoor.Pi.Rd

namespace Go.Proofs.YtefphimaggjihaaGreatDoor.Pi.Rd
open Go.Shelf Go.RowKit Go.Gv
open Hs.So (Prt prS)
open Hs (shC)
open Hs.Sc (Scn)
section
end
end Go.Proofs.YtefphimaggjihaaGreatDoor.Pi.Rd

namespace Go.Proofs.YtefphimaggjihaaGreatDoor.Pi.Rd
open Go.Shelf Go.RowKit Go.Gv
open Hs.So (Prt prS)
open Hs (shC)
open Hs.Sc (Scn)
open Hs Hs.So Hs.Sc Hs.Fm
end Go.Proofs.YtefphimaggjihaaGreatDoor.Pi.Rd

namespace Go.Proofs.YtefphimaggjihaaGreatDoor.Pi.Rd
open Go.Shelf Go.RowKit Go.Gv
open Hs.So (Prt prS)
open Hs.Sc (Scn)
end Go.Proofs.YtefphimaggjihaaGreatDoor.Pi.Rd

namespace Go.Proofs.YtefphimaggjihaaGreatDoor.Pi.Rd
open Go.Shelf Go.RowKit Go.Gv
open Hs.Sc (Scn)
open Hs Hs.So Hs.Sc Hs.Fm
open Go.Ev (feq)
/-- What is said of a scene that could be printed, thing by thing. -/
structure Told (s : Scn) : Prop where
  eye : ∀ i, i < 10 → tbX (s.eye i) = true
  L : ∀ j, j < s.nL → vB tbX (s.LA j) 0 = false
  S : ∀ j, j < s.nS → shB tbX (s.S j).k (s.S j).a (s.S j).sk = false
  O : ∀ j, j < s.nO → soB tbX (s.O j).n (s.O j).P = false
  F : ∀ j, j < s.nF → fdB tbX (s.F j) = false
end Go.Proofs.YtefphimaggjihaaGreatDoor.Pi.Rd

namespace Go.Proofs.YtefphimaggjihaaGreatDoor.Pi.Rd
open Go.Shelf Go.RowKit Go.Gv
open Hs.Sc (Scn)
open Hs Hs.So Hs.Sc Hs.Fm
open Go.Ev (feq)
end Go.Proofs.YtefphimaggjihaaGreatDoor.Pi.Rd

namespace Go.Ev
open Ieee
/-- They say the same, but for the sign of nought. -/
def Sm (x y : Nat) : Prop := double.read x = double.read y ∨ ((double.read x).isZero = true ∧ (double.read y).isZero = true)
theorem Sm.refl (x : Nat) : Sm x x := Or.inl rfl
theorem Sm.trans {x y z : Nat} (h : Sm x y) (h' : Sm y z) : Sm x z := by
  rcases h with h | ⟨h1, h2⟩
  · rcases h' with h' | ⟨h3, h4⟩
    · exact Or.inl (h.trans h')
    · exact Or.inr ⟨by rw [h]; exact h3, h4⟩
  · rcases h' with h' | ⟨h3, h4⟩
    · exact Or.inr ⟨h1, by rw [← h']; exact h2⟩
    · exact Or.inr ⟨h1, h4⟩
end Go.Ev

namespace Go.Proofs.YtefphimaggjihaaGreatDoor.Pi.Rd
open Go.Shelf Go.RowKit Go.Gv
open Hs.Sc (Scn)
open Hs Hs.So Hs.Sc Hs.Fm
open Go.Ev (feq flt fle fgt fge fadd fsub fmul fdiv fsqrt Sm)
section
end
section
end
end Go.Proofs.YtefphimaggjihaaGreatDoor.Pi.Rd

namespace Go.Gv
open Go.RowKit
end Go.Gv
namespace Go.Proofs.YtefphimaggjihaaGreatDoor.Pi.Rd
open Go.Shelf Go.RowKit Go.Gv
open Hs.Sc (Scn)
open Hs Hs.So Hs.Sc Hs.Fm
open Go.Ev (feq isNan Sm)
end Go.Proofs.YtefphimaggjihaaGreatDoor.Pi.Rd

namespace Go.Proofs.YtefphimaggjihaaGreatDoor.Pi.Rd
open Go.Shelf Go.RowKit Go.Gv
open Hs Hs.So Hs.Sc Hs.Fm
open Go.Ev (feq)
def likeS (a b : Nat) : Bool := cond (feq a b) true (cond (!feq a a) (!feq b b) false)
theorem lk_spec (a b : Nat) : FSpec Tryz.prog 85 [.f a, .f b] (bA (likeS a b)) := gspec e_nil k_nil Tryz.func85 (by kernel_rfl) (by kernel_rfl) noL_ok rfl (show ev Tryz.prog [] [] noL Tryz.f85 [.f a, .f b] ret = oB (likeS a b) by kernel_rfl)
def lkVS (a b c d e f : Nat) : Bool := cond (cond (likeS a d) (likeS b e) false) (likeS c f) false
def LK1 : List Entry := [⟨85, eFF fun a b => bA (likeS a b)⟩]
theorem LK1_ok : ∀ e, e ∈ LK1 → EOk Tryz.prog e := e_cons (eFF_ok lk_spec) e_nil
theorem lkV_spec (a b c d e f : Nat) : FSpec Tryz.prog 84 [V a b c, V d e f] (bA (lkVS a b c d e f)) := gspec LK1_ok k_nil Tryz.func84 (by kernel_rfl) (by kernel_rfl) noL_ok rfl (show ev Tryz.prog LK1 [] noL Tryz.f84 [V a b c, V d e f] ret = oB (lkVS a b c d e f) by kernel_rfl)
def LK2 : List Entry := ⟨84, eVV fun a b c d e f => bA (lkVS a b c d e f)⟩ :: LK1
theorem LK2_ok : ∀ e, e ∈ LK2 → EOk Tryz.prog e := e_cons (eVV_ok lkV_spec) LK1_ok
def sSh (s u : Shp) : Bool := cond (cond (cond (cond (cond (cond (s.k == u.k) (s.sk == u.sk) false) (lkVS (s.a 0) (s.a 1) (s.a 2) (u.a 0) (u.a 1) (u.a 2)) false) (lkVS (s.a 3) (s.a 4) (s.a 5) (u.a 3) (u.a 4) (u.a 5)) false) (lkVS (s.a 6) (s.a 7) (s.a 8) (u.a 6) (u.a 7) (u.a 8)) false) (likeS (s.a 9) (u.a 9)) false) (likeS (s.a 10) (u.a 10)) false
theorem ss_ev (s u : Shp) : ev Tryz.prog LK2 [] noL Tryz.f29 [.agg s.c, .agg u.c] ret = oB (sSh s u) := by kernel_rfl
theorem ss_spec (s u : Shp) : FSpec Tryz.prog 29 [.agg s.c, .agg u.c] (bA (sSh s u)) := gspec LK2_ok k_nil Tryz.func29 (by kernel_rfl) (by kernel_rfl) noL_ok rfl (ss_ev s u)
def dShp : List AV → Shp
  | [.x (.int .i64 k), .f a0, .f a1, .f a2, .f a3, .f a4, .f a5, .f a6, .f a7, .f a8, .f a9, .f a10, .x (.int .i64 sk)] => ⟨k, ls [a0, a1, a2, a3, a4, a5, a6, a7, a8, a9, a10], sk⟩
  | _ => ⟨0, fun _ => 0, 0⟩
def gSS (c d : List AV) : Bool := sSh (dShp c) (dShp d)
def eSS (g : List AV → List AV → Bool) : List AV → Option AV
  | [.agg [.x (.int .i64 k), .f a0, .f a1, .f a2, .f a3, .f a4, .f a5, .f a6, .f a7, .f a8, .f a9, .f a10, .x (.int .i64 sk)], .agg [.x (.int .i64 k'), .f b0, .f b1, .f b2, .f b3, .f b4, .f b5, .f b6, .f b7, .f b8, .f b9, .f b10, .x (.int .i64 sk')]] => some (bA (g [.x (.int .i64 k), .f a0, .f a1, .f a2, .f a3, .f a4, .f a5, .f a6, .f a7, .f a8, .f a9, .f a10, .x (.int .i64 sk)] [.x (.int .i64 k'), .f b0, .f b1, .f b2, .f b3, .f b4, .f b5, .f b6, .f b7, .f b8, .f b9, .f b10, .x (.int .i64 sk')]))
  | _ => none
theorem eSS_ok : EOk Tryz.prog ⟨29, eSS gSS⟩ := fun args r hr => by
  simp only [eSS] at hr
  split at hr
  · cases hr; exact Or.inl (ss_spec ⟨_, ls [_, _, _, _, _, _, _, _, _, _, _], _⟩ ⟨_, ls [_, _, _, _, _, _, _, _, _, _, _], _⟩)
  · cases hr
def dxB (i : Int) (n m : Nat) : Bool := (ixB i n || false) && ((ixB i m || false) && true)
def v3B (a b c a' b' c' : Nat) : Bool := feq a a' && (feq b b' && (feq c c' && true))
section
variable (F G : Hs.Fm.Fd) (i : Int)
def fdN : Bool := cond (cond (cond (cond (cond (!(F.W == G.W)) true (!(F.H == G.H))) true (!v3B (F.at_ 0) (F.at_ 1) (F.at_ 2) (G.at_ 0) (G.at_ 1) (G.at_ 2))) true (!feq F.sd G.sd)) true (!(F.sk == G.sk))) true (!((F.n : Int) == G.n))
def sfS : St := mkS 66 [(2, .own 0 0), (3, .own 1 0), (5, iA i)] [.c F.c, .c G.c]
def sfC (o oe : Option Out) : Option Out := cond (decide (i < F.n)) (cond (dxB i F.n G.n) (cond (!(F.hs i.toNat == G.hs i.toNat)) none o) none) oe
theorem sf_step : evC Tryz.prog [] [] noL (loopAt Tryz.f30 0) (sfS F G i) (finN [2, 3, 5] [some 0, some 1]) = sfC F G i (some ⟨.normal, sfS F G (w64 (i + 1)), .any⟩) none := by kernel_rfl
theorem sf_end : evC Tryz.prog [] [] noL (loopAt Tryz.f30 0) (sfS F G i) (finE [2, 3, 5] [some 0, some 1]) = sfC F G i none (some ⟨.exit 0, sfS F G i, .any⟩) := by kernel_rfl
theorem sf_ev : ev Tryz.prog [] [] (oneL 4 (toldF [2, 3, 5] [some 0, some 1] (sfS F G 0) (.exit 0) (sfS F G F.n))) Tryz.f30 [.agg F.c, .agg G.c] ret = cond (fdN F G) (oB false) (gate (Sub (sfS F G 0) (sfS F G 0)) (oB true)) := by kernel_rfl
end
section
variable (s u : Scn) (i k : Int)
def e10 (e f : Nat → Nat) : Bool := v3B (e 0) (e 1) (e 2) (f 0) (f 1) (f 2) && (v3B (e 3) (e 4) (e 5) (f 3) (f 4) (f 5) && (v3B (e 6) (e 7) (e 8) (f 6) (f 7) (f 8) && (feq (e 9) (f 9) && true)))
def i3 (e f : Nat → Int) : Bool := (e 0 == f 0) && ((e 1 == f 1) && ((e 2 == f 2) && true))
def hdN : Bool := cond (cond (cond (cond (cond (cond (!((s.nS : Int) == u.nS)) true (!((s.nK : Int) == u.nK))) true (!((s.nL : Int) == u.nL))) true (!((s.nO : Int) == u.nO))) true (!((s.nF : Int) == u.nF))) true (!i3 s.sky u.sky)) true (!e10 s.eye u.eye)
def snS (sl : Nat) : St := mkS 223 [(2, .own 0 0), (3, .own 1 0), (sl, iA i)] [.c s.c, .c u.c]
/-- Shapes. -/
def gB (b : Bool) : List AV → AV := fun _ => bA b
noncomputable def n1C (f n m : Nat) (c d : Nat → List AV) (o oe : Option Out) : Option Out := cond (decide (i < n)) (gate (FSpec Tryz.prog f [.agg (c i.toNat), .agg (d i.toNat)] (bA true)) (cond (dxB i n m) o none)) oe
theorem n1_step : evC Tryz.prog [] [kS Tryz.prog 29 (gB true)] noL (loopAt Tryz.f10 0) (snS s u i 5) (finN [2, 3, 5] [some 0, some 1]) = n1C i 29 s.nS u.nS (fun q => (s.S q).c) (fun q => (u.S q).c) (some ⟨.normal, snS s u (w64 (i + 1)) 5, .any⟩) none := by kernel_rfl
theorem n1_end : evC Tryz.prog [] [kS Tryz.prog 29 (gB true)] noL (loopAt Tryz.f10 0) (snS s u i 5) (finE [2, 3, 5] [some 0, some 1]) = n1C i 29 s.nS u.nS (fun q => (s.S q).c) (fun q => (u.S q).c) none (some ⟨.exit 0, snS s u i 5, .any⟩) := by kernel_rfl
/-- Fields. -/
theorem n4_step : evC Tryz.prog [] [kS Tryz.prog 30 (gB true)] noL (loopAt Tryz.f10 3) (snS s u i 12) (finN [2, 3, 12] [some 0, some 1]) = n1C i 30 s.nF u.nF (fun q => (s.F q).c) (fun q => (u.F q).c) (some ⟨.normal, snS s u (w64 (i + 1)) 12, .any⟩) none := by kernel_rfl
theorem n4_end : evC Tryz.prog [] [kS Tryz.prog 30 (gB true)] noL (loopAt Tryz.f10 3) (snS s u i 12) (finE [2, 3, 12] [some 0, some 1]) = n1C i 30 s.nF u.nF (fun q => (s.F q).c) (fun q => (u.F q).c) none (some ⟨.exit 6, snS s u i 12, .any⟩) := by kernel_rfl
/-- Skins. -/
def j3 (a b c a' b' c' : Int) : Bool := (a == a') && ((b == b') && ((c == c') && true))
def i10 (e f : Nat → Int) : Bool := j3 (e 0) (e 1) (e 2) (f 0) (f 1) (f 2) && (j3 (e 3) (e 4) (e 5) (f 3) (f 4) (f 5) && (j3 (e 6) (e 7) (e 8) (f 6) (f 7) (f 8) && ((e 9 == f 9) && true)))
def n5C (n m : Nat) (b : Bool) (o oe : Option Out) : Option Out := cond (decide (i < n)) (cond (dxB i n m) (cond (!b) none o) none) oe
theorem n5_step : evC Tryz.prog [] [] noL (loopAt Tryz.f10 4) (snS s u i 14) (finN [2, 3, 14] [some 0, some 1]) = n5C i s.nK u.nK (i10 (s.K i.toNat) (u.K i.toNat)) (some ⟨.normal, snS s u (w64 (i + 1)) 14, .any⟩) none := by kernel_rfl
theorem n5_end : evC Tryz.prog [] [] noL (loopAt Tryz.f10 4) (snS s u i 14) (finE [2, 3, 14] [some 0, some 1]) = n5C i s.nK u.nK (i10 (s.K i.toNat) (u.K i.toNat)) none (some ⟨.exit 8, snS s u i 14, .any⟩) := by kernel_rfl
/-- Lamps. -/
def lm6 (a b : Nat → Nat) (l m : Nat → Int) : Bool := v3B (a 0) (a 1) (a 2) (b 0) (b 1) (b 2) && (j3 (l 0) (l 1) (l 2) (m 0) (m 1) (m 2) && true)
theorem n6_step : evC Tryz.prog [] [] noL (loopAt Tryz.f10 5) (snS s u i 15) (finN [2, 3, 15] [some 0, some 1]) = n5C i s.nL u.nL (lm6 (s.LA i.toNat) (u.LA i.toNat) (s.LL i.toNat) (u.LL i.toNat)) (some ⟨.normal, snS s u (w64 (i + 1)) 15, .any⟩) none := by kernel_rfl
theorem n6_end : evC Tryz.prog [] [] noL (loopAt Tryz.f10 5) (snS s u i 15) (finE [2, 3, 15] [some 0, some 1]) = n5C i s.nL u.nL (lm6 (s.LA i.toNat) (u.LA i.toNat) (s.LL i.toNat) (u.LL i.toNat)) none (some ⟨.exit 10, snS s u i 15, .any⟩) := by kernel_rfl
end
section
variable (g : List AV → List AV → Bool) (s u : Scn) (i : Int) (o w : Sld) (k : Int)
def n3S : St := mkS 223 [(2, .own 0 0), (3, .own 1 0), (6, iA i), (7, .own 2 0), (8, .own 3 0), (9, iA k)] [.c s.c, .c u.c, .c o.c, .c w.c]
def keep3' : List Nat := [2, 3, 6, 7, 8, 9]
def tau4 : List (Option Nat) := [some 0, some 1, some 2, some 3]
def pB (p q : Prt) : Bool := cond (cond (cond (!(p.op == q.op)) true (!(p.l == q.l))) true (!(p.r == q.r))) true (!g p.s q.s)
def n3C (x xe : Option Out) : Option Out := cond (decide (k < o.n)) (cond (ixB k o.n || false) (cond (ixB k w.n || false) (cond (pB g (o.P k.toNat) (w.P k.toNat)) none x) none) none) xe
theorem n3_step : evC Tryz.prog [⟨29, eSS g⟩] [] noL (loopAt Tryz.f10 2) (n3S s u i o w k) (finN keep3' tau4) = n3C g o w k (some ⟨.normal, n3S s u i o w (w64 (k + 1)), .any⟩) none := by kernel_rfl
theorem n3_end : evC Tryz.prog [⟨29, eSS g⟩] [] noL (loopAt Tryz.f10 2) (n3S s u i o w k) (finE keep3' tau4) = n3C g o w k none (some ⟨.exit 4, n3S s u i o w k, .any⟩) := by kernel_rfl
def n2C (x xe : Option Out) : Option Out := cond (decide (i < s.nO)) (cond (ixB i s.nO || false) (cond (ixB i u.nO || false) (cond (cond (!((s.O i.toNat).sk == (u.O i.toNat).sk)) true (!(((s.O i.toNat).n : Int) == (u.O i.toNat).n))) none x) none) none) xe
noncomputable def n2L (j : Nat) : Nat → Option LFun := oneL 16 (toldF keep3' tau4 (n3S s u i (s.O j) (u.O j) 0) (.exit 4) (n3S s u i (s.O j) (u.O j) (s.O j).n))
theorem n2_step : evC Tryz.prog [] [] (n2L s u i i.toNat) (loopAt Tryz.f10 1) (snS s u i 6) (finN [2, 3, 6] [some 0, some 1]) = n2C s u i (gate (Sub (n3S s u i (s.O i.toNat) (u.O i.toNat) 0) (n3S s u i (s.O i.toNat) (u.O i.toNat) 0)) (some ⟨.normal, snS s u (w64 (i + 1)) 6, .any⟩)) none := by kernel_rfl
theorem n2_end : evC Tryz.prog [] [] (oneL 16 fun _ _ => none) (loopAt Tryz.f10 1) (snS s u i 6) (finE [2, 3, 6] [some 0, some 1]) = n2C s u i none (some ⟨.exit 2, snS s u i 6, .any⟩) := by kernel_rfl
noncomputable def snT (sl : Nat) (ex : Exit) (n : Nat) : LFun := toldF [2, 3, sl] [some 0, some 1] (snS s u 0 sl) ex (snS s u n sl)
noncomputable def snL : Nat → Option LFun := manyL [(4, snT s u 5 (.exit 0) s.nS), (9, snT s u 6 (.exit 2) s.nO), (23, snT s u 12 (.exit 6) s.nF), (29, snT s u 14 (.exit 8) s.nK), (34, snT s u 15 (.exit 10) s.nL)]
noncomputable def sG (sl : Nat) (x : Option Out) : Option Out := gate (Sub (snS s u 0 sl) (snS s u 0 sl)) x
theorem sn_ev : ev Tryz.prog [] [] (snL s u) Tryz.f10 [.agg s.c, .agg u.c] ret = cond (hdN s u) (oB false) (sG s u 5 (sG s u 6 (sG s u 12 (sG s u 14 (sG s u 15 (oB true)))))) := by kernel_rfl
end
end Go.Proofs.YtefphimaggjihaaGreatDoor.Pi.Rd

namespace Go.Proofs.YtefphimaggjihaaGreatDoor.Pi.Rd
open Go.Shelf Go.RowKit Go.Gv
open Hs Hs.So Hs.Sc Hs.Fm
open Go.Ev (feq Sm)
/-- Two scenes that are the same, thing by thing. -/
structure Alike (s u : Scn) : Prop where
  few : s.nS ≤ 1000 ∧ s.nO ≤ 1000 ∧ s.nF ≤ 1000 ∧ s.nK ≤ 1000 ∧ s.nL ≤ 1000
  n : s.nS = u.nS ∧ s.nO = u.nO ∧ s.nF = u.nF ∧ s.nK = u.nK ∧ s.nL = u.nL
  S : ∀ q, q < s.nS → sSh (s.S q) (u.S q) = true
  O : ∀ q, q < s.nO → (s.O q).n ≤ 1000 ∧ (s.O q).n = (u.O q).n ∧ (s.O q).sk = (u.O q).sk ∧ ∀ i, i < (s.O q).n → pB gSS ((s.O q).P i) ((u.O q).P i) = false
  F : ∀ q, q < s.nF → (s.F q).n ≤ 1000 ∧ fdN (s.F q) (u.F q) = false ∧ (s.F q).hs = (u.F q).hs ∧ (s.F q).n = (u.F q).n
  K : ∀ q, q < s.nK → s.K q = u.K q
  LA : ∀ q, q < s.nL → v3B (s.LA q 0) (s.LA q 1) (s.LA q 2) (u.LA q 0) (u.LA q 1) (u.LA q 2) = true
  LL : ∀ q, q < s.nL → s.LL q = u.LL q
  sky : i3 s.sky u.sky = true
  eye : e10 s.eye u.eye = true
theorem dxB_t {k n m : Nat} (h : k < n) (e : n = m) : dxB (k : Nat) n m = true := by subst e; unfold dxB; rw [ixB_t h]; rfl
theorem sf_same {F G : Hs.Fm.Fd} (h : F.n ≤ 1000) (hb : fdN F G = false) (hh : F.hs = G.hs) (hn : F.n = G.n) : FSpec Tryz.prog 30 [.agg F.c, .agg G.c] (bA true) := by
  have lead : Leads Tryz.prog (.loop (loopAt Tryz.f30 0)) (sfS F G 0) (.exit 0) (sfS F G F.n) := by
    refine loop_rule (fun k => sfS F G (k : Nat)) F.n (.exit 0) _ (by simp) (fun k hk => ?_) ?_
    · refine leads_ev (finN_sub _ _) e_nil k_nil noL_ok ((sf_step F G (k : Nat)).trans ?_)
      unfold sfC
      rw [dec_lt hk, dxB_t hk hn, hh, BEq.rfl, w64_next (by omega)]; rfl
    · refine leads_ev (finE_sub _ _) e_nil k_nil noL_ok ((sf_end F G (F.n : Nat)).trans ?_)
      unfold sfC
      rw [dec_self, cond_false]
  refine gspec e_nil k_nil Tryz.func30 (by kernel_rfl) (by kernel_rfl) (lok_at 0 1 (by kernel_rfl) (by kernel_rfl) (toldF_sound lead)) rfl ((sf_ev F G).trans ?_)
  rw [hb, gate_pos (Sub.refl _)]; rfl
section
variable {s u : Scn}
theorem n1_leads (ok : Alike s u) : Leads Tryz.prog (.loop (loopAt Tryz.f10 0)) (snS s u 0 5) (.exit 0) (snS s u s.nS 5) := by
  have few := ok.few
  refine loop_rule (fun k => snS s u (k : Nat) 5) s.nS (.exit 0) _ (by simp) (fun k hk => ?_) ?_
  · have sp := ss_spec (s.S k) (u.S k)
    rw [ok.S k hk] at sp
    refine leads_ev (finN_sub _ _) e_nil k1_ok noL_ok ((n1_step s u (k : Nat)).trans ?_)
    unfold n1C
    rw [dec_lt hk, dxB_t hk ok.n.1, Int.toNat_natCast, gate_pos sp, w64_next (by omega)]; rfl
  · refine leads_ev (finE_sub _ _) e_nil k1_ok noL_ok ((n1_end s u (s.nS : Nat)).trans ?_)
    unfold n1C
    rw [dec_self, cond_false]
theorem n4_leads (ok : Alike s u) : Leads Tryz.prog (.loop (loopAt Tryz.f10 3)) (snS s u 0 12) (.exit 6) (snS s u s.nF 12) := by
  have few := ok.few
  refine loop_rule (fun k => snS s u (k : Nat) 12) s.nF (.exit 6) _ (by simp) (fun k hk => ?_) ?_
  · obtain ⟨h1, h2, h3, h4⟩ := ok.F k hk
    refine leads_ev (finN_sub _ _) e_nil k1_ok noL_ok ((n4_step s u (k : Nat)).trans ?_)
    unfold n1C
    rw [dec_lt hk, dxB_t hk ok.n.2.2.1, Int.toNat_natCast, gate_pos (sf_same h1 h2 h3 h4), w64_next (by omega)]; rfl
  · refine leads_ev (finE_sub _ _) e_nil k1_ok noL_ok ((n4_end s u (s.nF : Nat)).trans ?_)
    unfold n1C
    rw [dec_self, cond_false]
theorem j3_t (a b c : Int) : j3 a b c a b c = true := by unfold j3; rw [BEq.rfl, BEq.rfl, BEq.rfl]; rfl
theorem i10_t (e : Nat → Int) : i10 e e = true := by unfold i10; rw [j3_t, j3_t, j3_t, BEq.rfl]; rfl
theorem n5_leads (ok : Alike s u) : Leads Tryz.prog (.loop (loopAt Tryz.f10 4)) (snS s u 0 14) (.exit 8) (snS s u s.nK 14) := by
  have few := ok.few
  refine loop_rule (fun k => snS s u (k : Nat) 14) s.nK (.exit 8) _ (by simp) (fun k hk => ?_) ?_
  · refine leads_ev (finN_sub _ _) e_nil k_nil noL_ok ((n5_step s u (k : Nat)).trans ?_)
    unfold n5C
    rw [dec_lt hk, dxB_t hk ok.n.2.2.2.1, Int.toNat_natCast, ok.K k hk, i10_t, w64_next (by omega)]; rfl
  · refine leads_ev (finE_sub _ _) e_nil k_nil noL_ok ((n5_end s u (s.nK : Nat)).trans ?_)
    unfold n5C
    rw [dec_self, cond_false]
theorem n6_leads (ok : Alike s u) : Leads Tryz.prog (.loop (loopAt Tryz.f10 5)) (snS s u 0 15) (.exit 10) (snS s u s.nL 15) := by
  have few := ok.few
  refine loop_rule (fun k => snS s u (k : Nat) 15) s.nL (.exit 10) _ (by simp) (fun k hk => ?_) ?_
  · refine leads_ev (finN_sub _ _) e_nil k_nil noL_ok ((n6_step s u (k : Nat)).trans ?_)
    unfold n5C lm6
    rw [dec_lt hk, dxB_t hk ok.n.2.2.2.2, Int.toNat_natCast, ok.LA k hk, ok.LL k hk, j3_t, w64_next (by omega)]; rfl
  · refine leads_ev (finE_sub _ _) e_nil k_nil noL_ok ((n6_end s u (s.nL : Nat)).trans ?_)
    unfold n5C
    rw [dec_self, cond_false]
theorem n3_leads (i : Int) {o w : Sld} (h : o.n ≤ 1000) (hn : o.n = w.n) (hp : ∀ q, q < o.n → pB gSS (o.P q) (w.P q) = false) : Leads Tryz.prog (.loop (loopAt Tryz.f10 2)) (n3S s u i o w 0) (.exit 4) (n3S s u i o w o.n) := by
  have en := e_cons eSS_ok e_nil
  refine loop_rule (fun k => n3S s u i o w (k : Nat)) o.n (.exit 4) _ (by simp) (fun k hk => ?_) ?_
  · refine leads_ev (finN_sub _ _) en k_nil noL_ok ((n3_step gSS s u i o w (k : Nat)).trans ?_)
    unfold n3C
    rw [dec_lt hk, ixB_t hk, ixB_t (show k < w.n by omega), Int.toNat_natCast, hp k hk, w64_next (by omega)]; rfl
  · refine leads_ev (finE_sub _ _) en k_nil noL_ok ((n3_end gSS s u i o w (o.n : Nat)).trans ?_)
    unfold n3C
    rw [dec_self, cond_false]
theorem n2L_ok {i : Int} {j : Nat} (ok : Alike s u) (hj : j < s.nO) : LOk Tryz.prog (n2L s u i j) (loopAt Tryz.f10 1) :=
  lok_at 0 1 (by kernel_rfl) (by kernel_rfl) (toldF_sound (n3_leads i (ok.O j hj).1 (ok.O j hj).2.1 (ok.O j hj).2.2.2))
theorem n2_leads (ok : Alike s u) : Leads Tryz.prog (.loop (loopAt Tryz.f10 1)) (snS s u 0 6) (.exit 2) (snS s u s.nO 6) := by
  have few := ok.few
  refine loop_rule (fun k => snS s u (k : Nat) 6) s.nO (.exit 2) _ (by simp) (fun k hk => ?_) ?_
  · obtain ⟨_, h2, h3, _⟩ := ok.O k hk
    refine leads_ev (finN_sub _ _) e_nil k_nil (n2L_ok ok (by rw [Int.toNat_natCast]; exact hk)) ((n2_step s u (k : Nat)).trans ?_)
    unfold n2C
    rw [dec_lt hk, ixB_t hk, ixB_t (show k < u.nO by have := ok.n.2.1; omega), Int.toNat_natCast, h2, h3, BEq.rfl, BEq.rfl, gate_pos (Sub.refl _), w64_next (by omega)]; rfl
  · refine leads_ev (finE_sub _ _) e_nil k_nil (lok_none 16) ((n2_end s u (s.nO : Nat)).trans ?_)
    unfold n2C
    rw [dec_self, cond_false]
/-- Two scenes that are the same are the same. -/
theorem sn_same (ok : Alike s u) : FSpec Tryz.prog 10 [.agg s.c, .agg u.c] (bA true) := by
  refine gspec e_nil k_nil Tryz.func10 (by kernel_rfl) (by kernel_rfl) (lok_cons (lok_at 0 6 (by kernel_rfl) (by kernel_rfl) (toldF_sound (n1_leads ok))) (lok_cons (lok_at 1 6 (by kernel_rfl) (by kernel_rfl) (toldF_sound (n2_leads ok))) (lok_cons (lok_at 3 6 (by kernel_rfl) (by kernel_rfl) (toldF_sound (n4_leads ok))) (lok_cons (lok_at 4 6 (by kernel_rfl) (by kernel_rfl) (toldF_sound (n5_leads ok))) (lok_cons (lok_at 5 6 (by kernel_rfl) (by kernel_rfl) (toldF_sound (n6_leads ok))) lok_nil))))) rfl ((sn_ev s u).trans ?_)
  have hd : hdN s u = false := by
    unfold hdN
    rw [ok.eye, ok.sky, ok.n.1, ok.n.2.1, ok.n.2.2.1, ok.n.2.2.2.1, ok.n.2.2.2.2, BEq.rfl, BEq.rfl, BEq.rfl, BEq.rfl, BEq.rfl]; rfl
  unfold sG
  rw [hd, gate_pos (Sub.refl _), gate_pos (Sub.refl _), gate_pos (Sub.refl _), gate_pos (Sub.refl _), gate_pos (Sub.refl _)]; rfl
end
end Go.Proofs.YtefphimaggjihaaGreatDoor.Pi.Rd

namespace Go.Proofs.YtefphimaggjihaaGreatDoor.Pi.Rd
open Go.Shelf Go.RowKit Go.Gv
open Hs
open Go.Ev (fadd fsub feq isNan)
noncomputable def axB (k m : Nat) : Bool := nearS (yI (1000 * (k : Int))) && (nearS (fsub (yI (1000 * (k : Int))) (yI (1000 * (m : Int)))) && (nearS (fadd (yI (1000 * (k : Int))) (yI (1000 * (m : Int)))) && (!(Go.Ev.fgt (fsub (yI (1000 * (k : Int))) (yI (1000 * (m : Int)))) (fadd (yI (1000 * (k : Int))) (yI (1000 * (m : Int))))) && feq (yI (1000 * (k : Int))) (yI (1000 * (k : Int))))))
noncomputable def rB (m : Nat) : Bool := nearS (yI (1000 * (m : Int))) && (Go.Ev.fgt (yI (1000 * (m : Int))) 0 && feq (yI (1000 * (m : Int))) (yI (1000 * (m : Int))))
noncomputable def allN (f : Nat → Bool) : Nat → Bool
  | 0 => true
  | n + 1 => f n && allN f n
theorem allN_at {f : Nat → Bool} : ∀ {n : Nat}, allN f n = true → ∀ k, k < n → f k = true
  | n + 1, h, k, hk => by
    unfold allN at h
    rw [Bool.and_eq_true] at h
    by_cases e : k = n
    · subst e; exact h.1
    · exact allN_at h.2 k (by omega)
theorem r_all : allN (fun m => rB (m + 1)) 9 = true := by kernel_rfl
theorem ax_1 : allN (fun k => axB k 1) 80 = true := by kernel_rfl
theorem ax_2 : allN (fun k => axB k 2) 80 = true := by kernel_rfl
theorem ax_3 : allN (fun k => axB k 3) 80 = true := by kernel_rfl
theorem ax_4 : allN (fun k => axB k 4) 80 = true := by kernel_rfl
theorem ax_5 : allN (fun k => axB k 5) 80 = true := by kernel_rfl
theorem ax_6 : allN (fun k => axB k 6) 80 = true := by kernel_rfl
theorem ax_7 : allN (fun k => axB k 7) 80 = true := by kernel_rfl
theorem ax_8 : allN (fun k => axB k 8) 80 = true := by kernel_rfl
theorem ax_9 : allN (fun k => axB k 9) 80 = true := by kernel_rfl
theorem ax_all : ∀ m, m < 9 → allN (fun k => axB k (m + 1)) 80 = true
  | 0, _ => ax_1
  | 1, _ => ax_2
  | 2, _ => ax_3
  | 3, _ => ax_4
  | 4, _ => ax_5
  | 5, _ => ax_6
  | 6, _ => ax_7
  | 7, _ => ax_8
  | 8, _ => ax_9
theorem ba_lo (y : Nat → Int) (r : Int) (q : Nat) (h : q < 3) : baA y r q = yI (y q) := by
  unfold baA
  rw [show Nat.blt q 3 = true from Nat.ble_eq_true_of_le h]
  rfl
theorem ba_9 (y : Nat → Int) (r : Int) : baA y r 9 = yI r := by
  unfold baA
  generalize yI r = u
  generalize yI (y 9) = w
  rfl
theorem ba_z (y : Nat → Int) (r : Int) (q : Nat) (h : q = 3 ∨ q = 4 ∨ q = 5 ∨ q = 6 ∨ q = 7 ∨ q = 8 ∨ q = 10) : baA y r q = 0 := by
  unfold baA
  generalize yI r = u
  generalize yI (y q) = w
  rcases h with rfl | rfl | rfl | rfl | rfl | rfl | rfl <;> rfl
theorem ball_may {y : Nat → Int} {r : Int} (hy : ∀ i, i < 3 → ∃ k : Nat, k < 80 ∧ y i = 1000 * (k : Int)) (hr : ∃ m : Nat, m < 9 ∧ r = 1000 * ((m + 1 : Nat) : Int)) : FSpec Tryz.prog 98 [.agg (shC 1 (baA y r) 0)] (iA 0) := by
  obtain ⟨m, hm, rfl⟩ := hr
  obtain ⟨k0, h0, e0⟩ := hy 0 (by omega)
  obtain ⟨k1, h1, e1⟩ := hy 1 (by omega)
  obtain ⟨k2, h2, e2⟩ := hy 2 (by omega)
  have R := allN_at r_all m hm
  have A := ax_all m hm
  have A0 := allN_at A k0 h0
  have A1 := allN_at A k1 h1
  have A2 := allN_at A k2 h2
  unfold axB at A0 A1 A2
  unfold rB at R
  simp only [Bool.and_eq_true, Bool.not_eq_true'] at A0 A1 A2 R
  obtain ⟨a1, a2, a3, a4, _⟩ := A0
  obtain ⟨b1, b2, b3, b4, _⟩ := A1
  obtain ⟨c1, c2, c3, c4, _⟩ := A2
  obtain ⟨r1, r2, _⟩ := R
  refine may_g (k := 1) (a := baA y (1000 * ((m + 1 : Nat) : Int))) (sk := 0) (kn1_good _ _ ?_)
  have v0 : baA y (1000 * ((m + 1 : Nat) : Int)) 0 = yI (1000 * (k0 : Int)) := by rw [ba_lo _ _ _ (by decide), e0]
  have v1 : baA y (1000 * ((m + 1 : Nat) : Int)) 1 = yI (1000 * (k1 : Int)) := by rw [ba_lo _ _ _ (by decide), e1]
  have v2 : baA y (1000 * ((m + 1 : Nat) : Int)) 2 = yI (1000 * (k2 : Int)) := by rw [ba_lo _ _ _ (by decide), e2]
  have v9 : baA y (1000 * ((m + 1 : Nat) : Int)) 9 = yI (1000 * ((m + 1 : Nat) : Int)) := ba_9 _ _
  have vz : ∀ q, q = 3 ∨ q = 4 ∨ q = 5 ∨ q = 6 ∨ q = 7 ∨ q = 8 ∨ q = 10 → baA y (1000 * ((m + 1 : Nat) : Int)) q = 0 := fun q hq => ba_z _ _ q hq
  generalize baA y (1000 * ((m + 1 : Nat) : Int)) = f at *
  generalize yI (1000 * (k0 : Int)) = x0 at *
  generalize yI (1000 * (k1 : Int)) = x1 at *
  generalize yI (1000 * (k2 : Int)) = x2 at *
  generalize yI (1000 * ((m + 1 : Nat) : Int)) = x9 at *
  have z0 : nearS 0 = true := by decide
  have hrc : rcB f = false := by
    unfold rcB fineS
    rw [v0, v1, v2, v9, vz 3 (by simp), vz 4 (by simp), vz 5 (by simp), vz 6 (by simp), vz 7 (by simp), vz 8 (by simp), vz 10 (by simp), a1, b1, c1, r1, z0]
    rfl
  have hb : ballM f = 0 := by
    unfold ballM
    rw [v9, r2]
    rfl
  have hc : mayS (cubeB f) = 0 := by
    have q0 : cubeB f 0 = fsub (f 0) (f 9) := rfl
    have q1 : cubeB f 1 = fsub (f 1) (f 9) := rfl
    have q2 : cubeB f 2 = fsub (f 2) (f 9) := rfl
    have q3 : cubeB f 3 = fadd (f 0) (f 9) := rfl
    have q4 : cubeB f 4 = fadd (f 1) (f 9) := rfl
    have q5 : cubeB f 5 = fadd (f 2) (f 9) := rfl
    unfold mayS mayF mayG fineS
    rw [q0, q1, q2, q3, q4, q5, v0, v1, v2, v9, a2, a3, b2, b3, c2, c3, a4, b4, c4]
    rfl
  show knE f 0 (ballM f) (cubeB f) = 0
  unfold knE
  rw [hrc, hb, hc]
  rfl
end Go.Proofs.YtefphimaggjihaaGreatDoor.Pi.Rd

namespace Go.Proofs.YtefphimaggjihaaGreatDoor.Pi.Rd
open Go.Shelf Go.RowKit Go.Gv
open Hs Hs.So Hs.Sc Hs.Fm
/-- The numbers of the j-th ball. -/
def yT (d : Nat → Nat) (j i : Nat) : Int := 1000 * ((i + 1 + j * d i : Nat) : Int)
def rT (m : Nat) : Int := 1000 * ((m + 1 : Nat) : Int)
noncomputable def sT (n : Nat) (d : Nat → Nat) (m : Nat) : Scn := ⟨n, fun j => ⟨1, baA (yT d j) (rT m), 0⟩, 0, fun _ => ⟨0, fun _ => ⟨0, 0, 0, 0, fun _ => 0, 0⟩, 0⟩, 0, fun _ => ⟨0, 0, fun _ => 0, 0, 0, fun _ => 0, 0⟩, 1, fun _ => skL skV, 0, fun _ _ => 0, fun _ _ => 0, fun _ => 0, lst eyV⟩
def ctT (s : Scn) : Ct := ⟨s.nS, fun q => (s.S q).c, s.nO, fun q => (s.O q).c, s.nF, fun q => (s.F q).c, s.nK, fun q => skC (s.K q), s.nL, fun q => lmC (s.LA q) (s.LL q), 1, fun _ => lB aeT, s.sky, s.eye⟩
theorem scFZ_ct (s : Scn) (h : s.nS = 0) : scFZ (ctT s) = s.c := by
  unfold scFZ Scn.c
  show [AV.sl 13 0 (fun q => (s.S q).c), _, _, _, _, _, _, _, _, _, _, _, _, _, _, _, _, _] = [AV.sl 13 s.nS (fun q => (s.S q).c), _, _, _, _, _, _, _, _, _, _, _, _, _, _, _, _, _]
  rw [h]
  rfl
/-- With the eye and the skin, and k balls. -/
def cS (s : Scn) (k : Nat) : Ct := { ctT s with nS := k }
/-- A scene of these balls, that eye and that skin. -/
structure SOk (s : Scn) (d : Nat → Nat) (m : Nat) : Prop where
  S : ∀ j, (s.S j).c = shC 1 (baA (yT d j) (rT m)) 0
  nO : s.nO = 0
  nF : s.nF = 0
  nL : s.nL = 0
  nK : s.nK = 1
  K : skC (s.K 0) = skK skV
  sky : s.sky = fun _ => 0
  e : s.eye = lst eyV
theorem sT_ok (n : Nat) (d : Nat → Nat) (m : Nat) : SOk (sT n d m) d m := ⟨fun _ => rfl, rfl, rfl, rfl, rfl, rfl, rfl, rfl⟩
theorem mx_sh (α β : Nat → Nat) : Mx (shC 1 α 0) (shC 1 β 0) := ⟨rfl, rfl⟩
theorem mx_S {s : Scn} {d : Nat → Nat} {m : Nat} (h : SOk s d m) (k q : Nat) (y : Nat → Int) (r : Int) : Mx ((cS s k).S q) (shC 1 (baA y r) 0) := by
  show Mx ((s.S q).c) _
  rw [h.S q]
  exact mx_sh _ _
structure Few (d : Nat → Nat) (m : Nat) : Prop where
  d : ∀ i, i < 3 → d i < 20
  m : m < 9
theorem jd_le {j x : Nat} (hj : j < 5) (hx : x < 20) : j * x ≤ 76 := Nat.le_trans (Nat.mul_le_mul (show j ≤ 4 by omega) (show x ≤ 19 by omega)) (by decide)
theorem yT_in {d : Nat → Nat} {m j i : Nat} (h : Few d m) (hj : j < 5) (hi : i < 3) : i + 1 + j * d i < 80 := by
  have := jd_le hj (h.d i hi)
  omega
theorem bT_may {d : Nat → Nat} {m j : Nat} (h : Few d m) (hj : j < 5) : FSpec Tryz.prog 98 [.agg (shC 1 (baA (yT d j) (rT m)) 0)] (iA 0) :=
  ball_may (fun i hi => ⟨i + 1 + j * d i, yT_in h hj hi, rfl⟩) ⟨m, h.m, rfl⟩
theorem ba_congr {y y' : Nat → Int} {r : Int} (h : ∀ i, i < 3 → y i = y' i) : baA y r = baA y' r := by
  funext q
  unfold baA
  by_cases hq : q < 3
  · rw [h q hq]
  · have : Nat.blt q 3 = false := by
      cases hb : Nat.blt q 3
      · rfl
      · exact absurd (Nat.le_of_ble_eq_true hb) (by omega)
    rw [this]
    exact (cond_false _ _).trans (cond_false _ _).symm
theorem rT_few {m : Nat} (h : m < 9) : (rT m).natAbs ≤ 1000000 := by unfold rT; omega
section
variable {t : Tk} {n : Nat} {d : Nat → Nat} {m : Nat} {s : Scn}
/-- A ball's line in any group: its numbers, moved, are the j-th ball's. -/
theorem bT_th {a j : Nat} {z : Nat → Int} {x : Nat → Int} {l : List TP} (h : Few d m) (hj : j < 5) (hA : At t a (baP x (rT m) ++ l)) (hx : ∀ i, i < 3 → (x i).natAbs ≤ 1000000) (hs : ∀ i, i < 3 → x i + z (24 + i) = yT d j i) : GSpec Tryz.prog 148 [.own 0 0] (M7 t a z (cS s j)) (.tup []) (MS t z (cS s j) (a + 8) (shC 1 (baA (yT d j) (rT m)) 0)) := by
  have e : baA (fun i => x i + z (24 + i)) (rT m) = baA (yT d j) (rT m) := ba_congr hs
  have g := ball_th (t := t) (a := a) (z := z) (c := cS s j) (x := x) (r := rT m) (l := l) hA (fun i hi => ⟨hx i hi, by rw [hs i hi]; have := yT_in h hj hi; unfold yT; omega⟩) (rT_few h.m) rfl rfl (by show j < 64; omega) (by rw [e]; exact bT_may h hj)
  rw [e] at g
  exact g
def bls (d : Nat → Nat) (m : Nat) : Nat → Nat → List TP
  | _, 0 => []
  | k, w + 1 => baP (yT d k) (rT m) ++ bls d m (k + 1) w
theorem bls_len (d : Nat → Nat) (m : Nat) : ∀ k w, (bls d m k w).length = 8 * w
  | _, 0 => rfl
  | k, w + 1 => by unfold bls; rw [List.length_append, bls_len d m (k + 1) w]; simp [baP]; omega
theorem bls_rest (ok : SOk s d m) (h : Few d m) (hn : n ≤ 5) {z : Nat → Int} (hz : Z0 z) : ∀ (w k a : Nat), k + w = n → At t a (bls d m k w) → a + 8 * w = t.n → Rest t z (cS s n) a z (cS s k)
  | 0, k, a, hk, _, ha => by
    have : k = n := by omega
    subst this
    have : a = t.n := by omega
    subst this
    exact end_ok z _
  | w + 1, k, a, hk, hA, ha => by
    have hA' : At t a (baP (yT d k) (rT m) ++ bls d m (k + 1) w) := hA
    have hB := hA'.app.2
    have g := bT_th (s := s) (z := z) h (show k < 5 by omega) hA' (fun i hi => by have := yT_in h (show k < 5 by omega) hi; unfold yT; omega) (fun i hi => by
      have e : z (24 + i) = 0 := by
        match i, hi with
        | 0, _ => exact hz.1
        | 1, _ => exact hz.2.1
        | 2, _ => exact hz.2.2
      rw [e]; omega)
    have st : Stp t a z (cS s k) (a + 8) z (cS s (k + 1)) := stp_s (hA'.has 1 (by simp [baP])) (hA'.is (i := 0) rfl) (by rfl) g (ok.S k) (fun q _ => mx_S ok k q _ _)
    exact st.go (bls_rest ok h hn hz w (k + 1) (a + 8) (by omega) hB (by omega))
def x1T (i : Nat) : Int := 1000 * ((i + 1 : Nat) : Int)
def reT (n : Nat) (d : Nat → Nat) (m : Nat) : List TP := [kP wRe, dP (1000 * (n : Int)), kP wBy, dP (1000 * (d 0 : Int)), dP (1000 * (d 1 : Int)), dP (1000 * (d 2 : Int)), kP [123]] ++ (baP x1T (rT m) ++ [kP [125]])
theorem re_tk {a : Nat} (h : Few d m) (hn : n ≤ 5) (hA : At t a (reT n d m)) : ReTk t (a + 1) (n : Int) (a + 15) := by
  have hl : (reT n d m).length = 16 := rfl
  have eN : t.N (a + 1) = 1000 * (n : Int) := (hA.get (i := 1) rfl).2
  exact {
    has := by have := hA.has 16 (by rw [hl]; omega); exact ⟨by have := this.1; omega, this.2⟩
    le := by omega
    cnt := hA.num (i := 1) rfl (dP_num (by omega))
    cnt0 := by rw [eN]; exact Int.mul_tmod_right _ _
    cnt1 := by rw [eN]; omega
    cnt2 := by rw [eN]; omega
    cntn := by rw [eN]; exact Int.mul_tdiv_cancel_left _ (by decide)
    wby := hA.is (i := 2) rfl
    step := fun i hi => by
      match i, hi with
      | 0, _ => exact hA.num (i := 3) rfl (dP_num (by have := h.d 0 (by omega); omega))
      | 1, _ => exact hA.num (i := 4) rfl (dP_num (by have := h.d 1 (by omega); omega))
      | 2, _ => exact hA.num (i := 5) rfl (dP_num (by have := h.d 2 (by omega); omega))
    op := hA.is (i := 6) rfl
    cl := hA.is (i := 15) rfl }
theorem step_N {a : Nat} (hA : At t a (reT n d m)) (i : Nat) (hi : i < 3) : t.N (a + 1 + 2 + i) = 1000 * (d i : Int) := by
  match i, hi with
  | 0, _ => exact (hA.get (i := 3) rfl).2
  | 1, _ => exact (hA.get (i := 4) rfl).2
  | 2, _ => exact (hA.get (i := 5) rfl).2
end
end Go.Proofs.YtefphimaggjihaaGreatDoor.Pi.Rd

namespace Go.Proofs.YtefphimaggjihaaGreatDoor.Pi.Rd
open Go.Shelf Go.RowKit Go.Gv
open Hs Hs.So Hs.Sc Hs.Fm
section
variable {t : Tk} {n : Nat} {d : Nat → Nat} {m : Nat} {s : Scn}
/-- What stands in the braces, the j-th time. -/
theorem re_in {a : Nat} {z : Nat → Int} (ok : SOk s d m) (h : Few d m) (hz : Z0 z) (hA : At t a (reT n d m)) (j : Nat) (hj : j < 5) : GSpec Tryz.prog 113 [.own 0 0] (M7 t (a + 1 + 1 + 1 + 3 + 1) (zR3 z (shf t (a + 1) z 0 j) (shf t (a + 1) z 1 j) (shf t (a + 1) z 2 j)) (cN (cS s 0) j)) (.tup []) (MR t (zR3 z (shf t (a + 1) z 0 j) (shf t (a + 1) z 1 j) (shf t (a + 1) z 2 j)) (cN (cS s 0) j) (a + 15)) := by
  have hl : (reT n d m).length = 16 := rfl
  have hB : At t (a + 7) (baP x1T (rT m) ++ [kP [125]]) := (At.app (x := [kP wRe, dP (1000 * (n : Int)), kP wBy, dP (1000 * (d 0 : Int)), dP (1000 * (d 1 : Int)), dP (1000 * (d 2 : Int)), kP [123]]) hA).2
  have sh : ∀ i, i < 3 → shf t (a + 1) z i j = (j : Int) * (1000 * (d i : Int)) := fun i hi => by
    have e : z (24 + i) = 0 := by
      match i, hi with
      | 0, _ => exact hz.1
      | 1, _ => exact hz.2.1
      | 2, _ => exact hz.2.2
    unfold shf
    rw [e, step_N hA i hi, Int.zero_add]
  have g := bT_th (s := s) (z := zR3 z (shf t (a + 1) z 0 j) (shf t (a + 1) z 1 j) (shf t (a + 1) z 2 j)) (a := a + 7) (x := x1T) h hj hB (fun i hi => by unfold x1T; omega) (fun i hi => by
    have e : zR3 z (shf t (a + 1) z 0 j) (shf t (a + 1) z 1 j) (shf t (a + 1) z 2 j) (24 + i) = shf t (a + 1) z i j := by
      match i, hi with
      | 0, _ => rfl
      | 1, _ => rfl
      | 2, _ => rfl
    rw [e, sh i hi]
    unfold x1T yT
    rw [Int.natCast_add (i + 1), Int.natCast_mul, Int.mul_left_comm]
    omega)
  exact tin_spec (hB.has 1 (by simp [baP])) (hB.is (i := 0) rfl) (by rfl) g (ok.S j) (fun q _ => mx_S ok j q _ _) (by have := hA.has 16 (by rw [hl]; omega); exact this.sub 15 1 (by omega)) (hA.is (i := 15) rfl)
theorem re_fst {a : Nat} {z : Nat → Int} (ok : SOk s d m) (h : Few d m) (hz : Z0 z) (hA : At t a (reT n d m)) : WSpec Tryz.prog 113 [.own 0 0] (m2 t (a + 1) z (cS s 0) (a + 1 + 1 + 1 + 3 + 1)) (.tup []) (mT0 t (a + 1) z (cS s 0) 1 (a + 15)) := by
  have g := re_in ok h hz hA 0 (by omega)
  have s0 : ∀ i, shf t (a + 1) z i 0 = z (24 + i) := fun i => by unfold shf; omega
  rw [s0 0, s0 1, s0 2] at g
  exact tin_first (c := cS s 0) (X := [stR t (a + 1), scRow (cS s 0), shR (z 24) (z 25) (z 26)]) rfl g
theorem re_rest {a : Nat} {z : Nat → Int} (ok : SOk s d m) (h : Few d m) (hn : n ≤ 5) (h1 : 1 ≤ n) (hz : Z0 z) (h23 : z 23 = 0) (hA : At t a (reT n d m)) (ha : a + 16 = t.n) : Rest t (zR0 z) (cS s n) a z (cS s 0) := by
  have tk := re_tk h hn hA
  have hl : (reT n d m).length = 16 := rfl
  have g : GSpec Tryz.prog 186 [.own 0 0] (M7 t (a + 1) z (cS s 0)) (.tup []) (MT t (a + 15 + 1) (zR0 z) (cS s 0) n) := by
    by_cases e : n = 1
    · subst e
      exact repeat_1 tk rfl h23 (re_fst ok h hz hA)
    · have := repeat_n tk (by omega) (by omega) h23 (fun i hi => by
        have e : z (24 + i) = 0 := by
          match i, hi with
          | 0, _ => exact hz.1
          | 1, _ => exact hz.2.1
          | 2, _ => exact hz.2.2
        rw [e, step_N hA i hi]
        have := h.d i hi
        exact ⟨by decide, by omega⟩) (c := cS s 0) rfl (fun j hj => re_in ok h hz hA j (by omega))
      rw [Int.toNat_natCast] at this
      exact this
  have st : Stp t a z (cS s 0) (a + 15 + 1) (zR0 z) (cS s n) := stp_re (hA.has 1 (by rw [hl]; omega)) (hA.is (i := 0) rfl) g
  refine st.go ?_
  rw [show a + 15 + 1 = t.n by omega]
  exact end_ok _ _
theorem re_rest0 {a : Nat} {z : Nat → Int} (ok : SOk s d m) (h : Few d m) (hz : Z0 z) (h23 : z 23 = 0) (hA : At t a (reT 0 d m)) (ha : a + 16 = t.n) : RestZ t (zR0 z) (cS s 0) a z (cS s 0) := by
  have tk := re_tk h (by omega) hA
  have hl : (reT 0 d m).length = 16 := rfl
  have g := repeat_0 tk rfl h23 (re_fst ok h hz hA)
  have st := stp_re0 (hA.has 1 (by rw [hl]; omega)) (hA.is (i := 0) rfl) g rfl
  rw [show a + 15 + 1 = t.n by omega] at st
  exact RunsN.cons st (endZ_ok _ _)
theorem hd_c (ok : SOk s d m) : { cEye (ct0 (ctT s)) eyV with nN := (cEye (ct0 (ctT s)) eyV).nN + 1, nK := (cEye (ct0 (ctT s)) eyV).nK + 1 } = cS s 0 := by
  have h1 := ok.nO
  have h2 := ok.nF
  have h3 := ok.nL
  have h4 := ok.nK
  have h5 := ok.sky
  have h6 := ok.e
  generalize eyV = v at *
  obtain ⟨nS, S, nO, O, nF, F, nK, K, nL, LA, LL, sky, eye⟩ := s
  simp only at h1 h2 h3 h4 h5 h6
  subst h1 h2 h3 h4 h5 h6
  rfl
theorem hd_stp (ok : SOk s d m) {l : List TP} (hA : At t 0 (eyHd ++ (skT ++ l))) : Stp t 0 z0 (ct0 (ctT s)) 15 (setZ z0 21 1) (cEye (ct0 (ctT s)) eyV) ∧ Stp t 15 (setZ z0 21 1) (cEye (ct0 (ctT s)) eyV) 32 (setZ z0 21 1) (cS s 0) := by
  have hB : At t 15 (skT ++ l) := hA.app.2
  have st := skin_L (c := cEye (ct0 (ctT s)) eyV) (z := setZ z0 21 1) (a := 15) hB rfl rfl rfl rfl ok.K
  rw [hd_c ok] at st
  exact ⟨eye_L (c := ct0 (ctT s)) (z := z0) hA ⟨rfl, rfl, rfl⟩ rfl rfl, st⟩
theorem hd_go (ok : SOk s d m) {l : List TP} {zf : Nat → Int} {cf : Ct} (hA : At t 0 (eyHd ++ (skT ++ l))) (g : Rest t zf cf 32 (setZ z0 21 1) (cS s 0)) : Rest t zf cf 0 z0 (ct0 (ctT s)) := (hd_stp ok hA).1.go ((hd_stp ok hA).2.go g)
theorem hd_go0 (ok : SOk s d m) {l : List TP} {zf : Nat → Int} {cf : Ct} (hA : At t 0 (eyHd ++ (skT ++ l))) (g : RestZ t zf cf 32 (setZ z0 21 1) (cS s 0)) : RestZ t zf cf 0 z0 (ct0 (ctT s)) := RunsN.cons (hd_stp ok hA).1 (RunsN.cons (hd_stp ok hA).2 g)
end
end Go.Proofs.YtefphimaggjihaaGreatDoor.Pi.Rd

namespace Go.Proofs.YtefphimaggjihaaGreatDoor.Pi.Rd
open Go.Shelf Go.RowKit Go.Gv
open Hs Hs.So Hs.Sc Hs.Fm
/-- Tokens with a blank behind each. -/
def tb (ts : List TP) : List UInt8 := ts.flatMap fun p => p.1 ++ [32]
theorem tb_app (a b : List TP) : tb (a ++ b) = tb a ++ tb b := List.flatMap_append
theorem tks_t : ∀ ts : List TP, tks true (ts.map Prod.fst) ++ [32] = 32 :: tb ts
  | [] => rfl
  | p :: r => by
    have ih := tks_t r
    show ((if true then [32] else []) ++ (p.1 ++ tks true (r.map Prod.fst))) ++ [32] = 32 :: tb (p :: r)
    have e : tb (p :: r) = p.1 ++ (32 :: tb r) := by unfold tb; simp
    rw [e, ← ih]
    simp
theorem tks_f {p : TP} {r : List TP} : tks false ((p :: r).map Prod.fst) ++ [32] = tb (p :: r) := by
  have ih := tks_t r
  show ((if false then [32] else []) ++ (p.1 ++ tks true (r.map Prod.fst))) ++ [32] = tb (p :: r)
  have e : tb (p :: r) = p.1 ++ (32 :: tb r) := by unfold tb; simp
  rw [e, ← ih]
  simp
def AllE : List TP → Prop
  | [] => True
  | p :: r => TokE p.1 ∧ AllE r
theorem AllE.app : ∀ {a b : List TP}, AllE a → AllE b → AllE (a ++ b)
  | [], _, _, h => h
  | _ :: _, _, g, h => ⟨g.1, AllE.app g.2 h⟩
theorem AllE.mem : ∀ {a : List TP}, AllE a → ∀ t, t ∈ a.map Prod.fst → TokE t
  | p :: r, h, t, ht => by
    rcases List.mem_cons.1 ht with rfl | ht
    · exact h.1
    · exact AllE.mem h.2 t ht
theorem tE_dP {n : Int} (h : n.natAbs ≤ 1000000) : TokE (dP n).1 := .inl (tok_dc h)
theorem tE_w {w : List UInt8} (h : Low w = true) : TokE (kP w).1 := .inl (tok_low h)
theorem tE_p {c : UInt8} (h : Pnc c) : TokE (kP [c]).1 := .inl (tok_pnc h)
theorem tE_it {k : Nat} (h : k < 1000000000) : TokE (Lib.itoa (k : Int)) := .inl (tok_it h)
theorem tE_a (x : Int) : TokE (aeT, x).1 := .inr rfl
theorem p59 : Pnc 59 := .inl rfl
theorem p123 : Pnc 123 := .inr (.inr (.inl rfl))
theorem ey_all : AllE eyHd := ⟨tE_w (by decide), tE_dP (by decide), tE_dP (by decide), tE_dP (by decide), tE_w (by decide), tE_dP (by decide), tE_dP (by decide), tE_dP (by decide), tE_w (by decide), tE_dP (by decide), tE_dP (by decide), tE_dP (by decide), tE_w (by decide), tE_dP (by decide), tE_p p59, trivial⟩
theorem sk_all : AllE skT := ⟨tE_w (by decide), tE_a 0, tE_w (by decide), tE_it (k := 500) (by decide), tE_it (k := 400) (by decide), tE_it (k := 300) (by decide), tE_w (by decide), tE_it (k := 0) (by decide), tE_it (k := 0) (by decide), tE_it (k := 0) (by decide), tE_w (by decide), tE_it (k := 0) (by decide), tE_it (k := 0) (by decide), tE_it (k := 0) (by decide), tE_w (by decide), tE_dP (by decide), tE_p p59, trivial⟩
theorem ba_all {x : Nat → Int} {r : Int} (h : ∀ i, i < 3 → (x i).natAbs ≤ 1000000) (hr : r.natAbs ≤ 1000000) : AllE (baP x r) := ⟨tE_w (by decide), tE_dP (h 0 (by omega)), tE_dP (h 1 (by omega)), tE_dP (h 2 (by omega)), tE_w (by decide), tE_dP hr, tE_a 0, tE_p p59, trivial⟩
theorem bls_all {d : Nat → Nat} {m : Nat} (h : Few d m) : ∀ w k, k + w ≤ 5 → AllE (bls d m k w)
  | 0, _, _ => trivial
  | w + 1, k, hk => (ba_all (fun i hi => by have := yT_in h (show k < 5 by omega) hi; unfold yT; omega) (rT_few h.m)).app (bls_all h w (k + 1) (by omega))
def reI (n : Nat) (d : Nat → Nat) (m : Nat) : List TP := [kP wRe, dP (1000 * (n : Int)), kP wBy, dP (1000 * (d 0 : Int)), dP (1000 * (d 1 : Int)), dP (1000 * (d 2 : Int)), kP [123]] ++ baP x1T (rT m)
theorem re_all {n : Nat} {d : Nat → Nat} {m : Nat} (h : Few d m) (hn : n ≤ 5) : AllE (reI n d m) :=
  AllE.app (a := [kP wRe, dP (1000 * (n : Int)), kP wBy, dP (1000 * (d 0 : Int)), dP (1000 * (d 1 : Int)), dP (1000 * (d 2 : Int)), kP [123]]) ⟨tE_w (by decide), tE_dP (by omega), tE_w (by decide), tE_dP (by have := h.d 0 (by omega); omega), tE_dP (by have := h.d 1 (by omega); omega), tE_dP (by have := h.d 2 (by omega); omega), tE_p p123, trivial⟩ (ba_all (fun i hi => by unfold x1T; omega) (rT_few h.m))
noncomputable def two (n : Nat) (d : Nat → Nat) (m : Nat) : List TP := eyHd ++ (skT ++ bls d m 0 n)
theorem sz_tok (ps : List TP) (s : ByteArray) (h : Cut s 0 ((ps.map Prod.fst).map lB)) (hl : ps.length ≤ 1000000) : FSpec Tryz.prog 25 [zA s] (tkSl (tkOf ps)) := by
  have := tokens_spec h (by rw [List.length_map, List.length_map]; exact hl)
  rw [List.length_map, List.length_map, List.map_map] at this
  exact this
theorem two_len (n : Nat) (d : Nat → Nat) (m : Nat) : (two n d m).length = 32 + 8 * n := by
  unfold two
  rw [List.length_append, List.length_append, bls_len]
  show 15 + (17 + 8 * n) = _
  omega
theorem two_tok {n : Nat} {d : Nat → Nat} {m : Nat} (h : Few d m) (hn : n ≤ 5) : FSpec Tryz.prog 25 [zA (lB (tb (two n d m)))] (tkSl (tkOf (two n d m))) := by
  refine sz_tok _ _ ?_ (by rw [two_len]; omega)
  have := cut_two (ts := (two n d m).map Prod.fst) (AllE.mem (ey_all.app (sk_all.app (bls_all h n 0 (by omega)))))
  rw [show two n d m = kP wEy :: ((two n d m).drop 1) from rfl] at this ⊢
  rw [tks_f] at this
  exact this
theorem two_parse {n : Nat} {d : Nat → Nat} {m : Nat} {s : Scn} (ok : SOk s d m) (hs : s.nS = n) (h : Few d m) (hn : n ≤ 5) (hl : (tb (two n d m)).length ≤ 20000) : FSpec Tryz.prog 8 [zA (lB (tb (two n d m)))] (.tup [.agg s.c, iA 0]) := by
  have hA : At (tkOf (two n d m)) 0 (eyHd ++ (skT ++ bls d m 0 n)) := at_tk (two n d m) [] rfl (by rw [two_len]; omega)
  have hB : At (tkOf (two n d m)) 32 (bls d m 0 n) := (At.app (x := eyHd ++ skT) (by rw [List.append_assoc]; exact hA)).2
  have e : cS s n = ctT s := by subst hs; rfl
  have g := hd_go ok hA (bls_rest (n := n) ok h hn (z := setZ z0 21 1) ⟨rfl, rfl, rfl⟩ n 0 32 (by omega) hB (by show _ = (two n d m).length; rw [two_len]))
  have := parse_spec (by rw [size_lB]; exact hl) (two_tok h hn) g rfl
  rw [e] at this
  exact this
noncomputable def onI (n : Nat) (d : Nat → Nat) (m : Nat) : List TP := eyHd ++ (skT ++ reI n d m)
noncomputable def one (n : Nat) (d : Nat → Nat) (m : Nat) : List TP := eyHd ++ (skT ++ reT n d m)
theorem one_tok {n : Nat} {d : Nat → Nat} {m : Nat} (h : Few d m) (hn : n ≤ 5) : FSpec Tryz.prog 25 [zA (lB (tb (onI n d m) ++ [125]))] (tkSl (tkOf (one n d m))) := by
  refine sz_tok _ _ ?_ (by show 48 ≤ 1000000; decide)
  have := cut_brace (ts := (onI n d m).map Prod.fst) (AllE.mem (ey_all.app (sk_all.app (re_all h hn))))
  rw [show (onI n d m).map Prod.fst ++ [[125]] = (one n d m).map Prod.fst from rfl] at this
  rw [show tks false ((onI n d m).map Prod.fst) ++ [32, 125] = (tks false ((onI n d m).map Prod.fst) ++ [32]) ++ [125] by simp] at this
  rw [show onI n d m = kP wEy :: ((onI n d m).drop 1) from rfl, tks_f] at this
  exact this
theorem one_parse {n : Nat} {d : Nat → Nat} {m : Nat} {s : Scn} (ok : SOk s d m) (hs : s.nS = n) (h : Few d m) (hn : n ≤ 5) (hl : (tb (onI n d m) ++ [125]).length ≤ 20000) : FSpec Tryz.prog 8 [zA (lB (tb (onI n d m) ++ [125]))] (.tup [.agg s.c, iA 0]) := by
  have hA : At (tkOf (one n d m)) 0 (eyHd ++ (skT ++ reT n d m)) := at_tk (one n d m) [] rfl (by show 48 ≤ 1000000; decide)
  have hB : At (tkOf (one n d m)) 32 (reT n d m) := (At.app (x := eyHd ++ skT) (by rw [List.append_assoc]; exact hA)).2
  have e : cS s n = ctT s := by subst hs; rfl
  by_cases h1 : 1 ≤ n
  · have g := hd_go ok hA (re_rest (n := n) ok h hn h1 (z := setZ z0 21 1) ⟨rfl, rfl, rfl⟩ rfl hB rfl)
    have := parse_spec (by rw [size_lB]; exact hl) (one_tok h hn) g rfl
    rw [e] at this
    exact this
  · have h0 : n = 0 := by omega
    subst h0
    have g := hd_go0 ok hA (re_rest0 ok h (z := setZ z0 21 1) ⟨rfl, rfl, rfl⟩ rfl hB rfl)
    have := parseZ_spec (by rw [size_lB]; exact hl) (one_tok h hn) g rfl
    rw [e, scFZ_ct s hs] at this
    exact this
end Go.Proofs.YtefphimaggjihaaGreatDoor.Pi.Rd

namespace Go.Proofs.YtefphimaggjihaaGreatDoor.Pi.Rd
open Go.Shelf Go.RowKit Go.Gv
open Hs Hs.So Hs.Sc Hs.Fm
theorem apL_lB : ∀ (l : List ByteArray) (a : List UInt8), apL (lB a) l = lB (a ++ l.flatMap bL)
  | [], a => by simp [apL]
  | t :: r, a => by
    show apL (lB a ++ t) r = _
    rw [← lB_bL t, lB_app, apL_lB r]
    simp
theorem hd_tb : hdT = lB (tb (eyHd ++ skT)) := by kernel_rfl
theorem dcT_k (x : Nat) : dcT (1000 * (x : Int)) = Lib.itoa (x : Int) := by
  unfold dcT dcA
  rw [if_neg (by omega), show (1000 * (x : Int)).natAbs = 1000 * x by omega, Nat.mul_mod_right, if_pos rfl, Nat.mul_div_cancel_left x (by decide)]
  simp
def dFT (v : Int) : ByteArray := lB (Lib.itoa v)
theorem tb_ba (x : Nat → Int) (r : Int) : tb (baP x r) = wBa ++ (32 :: (dcT (x 0) ++ (32 :: (dcT (x 1) ++ (32 :: (dcT (x 2) ++ (32 :: (radT ++ (32 :: (dcT r ++ (32 :: (aeT ++ [32, 59, 32])))))))))))) := by
  simp [tb, baP, dP, kP]
theorem bls_snoc (d : Nat → Nat) (m : Nat) : ∀ w k, bls d m k (w + 1) = bls d m k w ++ baP (yT d (k + w)) (rT m)
  | 0, k => by simp [bls]
  | w + 1, k => by
    have ih := bls_snoc d m w (k + 1)
    show baP (yT d k) (rT m) ++ bls d m (k + 1) (w + 1) = (baP (yT d k) (rT m) ++ bls d m (k + 1) w) ++ baP (yT d (k + (w + 1))) (rT m)
    rw [ih, List.append_assoc, show k + 1 + w = k + (w + 1) by omega]
theorem two_snoc (n : Nat) (d : Nat → Nat) (m : Nat) : two (n + 1) d m = two n d m ++ baP (yT d n) (rT m) := by
  unfold two
  rw [bls_snoc, Nat.zero_add]
  simp
theorem dF_k (x : Nat) : bL (dFT (x : Int)) = dcT (1000 * (x : Int)) := by
  unfold dFT
  rw [bL_lB, dcT_k]
theorem tw_bytes (k : Nat) (d : Nat → Nat) (m : Nat) {v0 v1 v2 r : Int} (h0 : v0 = ((0 + 1 + k * d 0 : Nat) : Int)) (h1 : v1 = ((1 + 1 + k * d 1 : Nat) : Int)) (h2 : v2 = ((2 + 1 + k * d 2 : Nat) : Int)) (hr : r = ((m + 1 : Nat) : Int)) :
    [⟨#[98, 97, 108, 108, 32]⟩, dFT v0, ⟨#[32]⟩, dFT v1, ⟨#[32]⟩, dFT v2, ⟨#[32, 114, 97, 100, 105, 117, 115, 32]⟩, dFT r, ⟨#[32, 195, 164, 49, 32, 59, 32]⟩].flatMap bL = tb (baP (yT d k) (rT m)) := by
  subst h0 h1 h2 hr
  rw [tb_ba]
  simp only [List.flatMap_cons, List.flatMap_nil, dF_k]
  show [98, 97, 108, 108, 32] ++ (dcT (yT d k 0) ++ ([32] ++ (dcT (yT d k 1) ++ ([32] ++ (dcT (yT d k 2) ++ ([32, 114, 97, 100, 105, 117, 115, 32] ++ (dcT (rT m) ++ ([32, 195, 164, 49, 32, 59, 32] ++ [])))))))) = _
  simp [wBa, radT, aeT]
theorem it_1 : dcT (x1T 0) = [49] ∧ dcT (x1T 1) = [50] ∧ dcT (x1T 2) = [51] := by
  unfold x1T
  refine ⟨?_, ?_, ?_⟩ <;> rw [dcT_k, it_nat, Lib.decDigits_one (by decide)] <;> rfl
theorem on_bytes (n : Nat) (d : Nat → Nat) (m : Nat) {r : Int} (hr : r = ((m + 1 : Nat) : Int)) : (oneL' dFT (n : Int) r (d 0 : Int) (d 1 : Int) (d 2 : Int)).flatMap bL = tb (reI n d m) ++ [125] := by
  subst hr
  obtain ⟨e0, e1, e2⟩ := it_1
  unfold oneL' reI
  rw [tb_app, tb_ba, e0, e1, e2]
  simp only [List.flatMap_cons, List.flatMap_nil, dF_k]
  show [114, 101, 112, 101, 97, 116, 32] ++ (dcT (1000 * (n : Int)) ++ ([32, 98, 121, 32] ++ (dcT (1000 * (d 0 : Int)) ++ ([32] ++ (dcT (1000 * (d 1 : Int)) ++ ([32] ++ (dcT (1000 * (d 2 : Int)) ++ ([32, 123, 32, 98, 97, 108, 108, 32, 49, 32, 50, 32, 51, 32, 114, 97, 100, 105, 117, 115, 32] ++ (dcT (rT m) ++ ([32, 195, 164, 49, 32, 59, 32, 125] ++ [])))))))))) = _
  simp [tb, dP, kP, wRe, wBy, wBa, radT, aeT]
theorem one_text (n : Nat) (d : Nat → Nat) (m : Nat) {r : Int} (hr : r = ((m + 1 : Nat) : Int)) : oneT dFT (n : Int) r (d 0 : Int) (d 1 : Int) (d 2 : Int) = lB (tb (onI n d m) ++ [125]) := by
  unfold oneT
  rw [hd_tb, apL_lB, on_bytes n d m hr]
  unfold onI
  rw [← List.append_assoc, ← tb_app]
  simp
theorem two_text (k : Nat) (d : Nat → Nat) (m : Nat) {v0 v1 v2 r : Int} (h0 : v0 = ((0 + 1 + k * d 0 : Nat) : Int)) (h1 : v1 = ((1 + 1 + k * d 1 : Nat) : Int)) (h2 : v2 = ((2 + 1 + k * d 2 : Nat) : Int)) (hr : r = ((m + 1 : Nat) : Int)) :
    apL (lB (tb (two k d m))) [⟨#[98, 97, 108, 108, 32]⟩, dFT v0, ⟨#[32]⟩, dFT v1, ⟨#[32]⟩, dFT v2, ⟨#[32, 114, 97, 100, 105, 117, 115, 32]⟩, dFT r, ⟨#[32, 195, 164, 49, 32, 59, 32]⟩] = lB (tb (two (k + 1) d m)) := by
  rw [apL_lB, tw_bytes k d m h0 h1 h2 hr, two_snoc, tb_app]
theorem two_0 (d : Nat → Nat) (m : Nat) : hdT = lB (tb (two 0 d m)) := by
  rw [hd_tb]
  unfold two bls
  rw [List.append_nil]
def Sh20 (ps : List TP) : Prop := ∀ p, p ∈ ps → p.1.length ≤ 20
theorem tb_short : ∀ {ps : List TP}, Sh20 ps → (tb ps).length ≤ 21 * ps.length
  | [], _ => by simp [tb]
  | p :: r, h => by
    have h1 := h p (by simp)
    have h2 := tb_short (ps := r) fun q hq => h q (by simp [hq])
    have e : tb (p :: r) = (p.1 ++ [32]) ++ tb r := rfl
    rw [e, List.length_append, List.length_append, List.length_cons]
    simp only [List.length_cons, List.length_nil]
    omega
end Go.Proofs.YtefphimaggjihaaGreatDoor.Pi.Rd

namespace Go.Proofs.YtefphimaggjihaaGreatDoor.Pi.Rd
open Go.Shelf Go.RowKit Go.Gv
open Hs Hs.So Hs.Sc Hs.Fm
def AllL : List TP → Prop
  | [] => True
  | p :: r => p.1.length ≤ 20 ∧ AllL r
theorem AllL.mem : ∀ {a : List TP}, AllL a → Sh20 a
  | p :: r, h, t, ht => by
    rcases List.mem_cons.1 ht with rfl | ht
    · exact h.1
    · exact AllL.mem h.2 t ht
theorem AllL.app : ∀ {a b : List TP}, AllL a → AllL b → AllL (a ++ b)
  | [], _, _, h => h
  | _ :: _, _, g, h => ⟨g.1, AllL.app g.2 h⟩
theorem l_d {n : Int} (h : n.natAbs ≤ 1000000) : (dP n).1.length ≤ 20 := (dc_ne n (by omega)).2
theorem l_i (k : Nat) (h : k < 1000000000) : (Lib.itoa (k : Int)).length ≤ 20 := by
  have := (it_pln h).1.m
  omega
theorem ey_sh : AllL eyHd := ⟨by decide, l_d (by decide), l_d (by decide), l_d (by decide), by decide, l_d (by decide), l_d (by decide), l_d (by decide), by decide, l_d (by decide), l_d (by decide), l_d (by decide), by decide, l_d (by decide), by decide, trivial⟩
theorem sk_sh : AllL skT := ⟨by decide, by decide, by decide, l_i 500 (by decide), l_i 400 (by decide), l_i 300 (by decide), by decide, l_i 0 (by decide), l_i 0 (by decide), l_i 0 (by decide), by decide, l_i 0 (by decide), l_i 0 (by decide), l_i 0 (by decide), by decide, l_d (by decide), by decide, trivial⟩
theorem ba_sh {x : Nat → Int} {r : Int} (h : ∀ i, i < 3 → (x i).natAbs ≤ 1000000) (hr : r.natAbs ≤ 1000000) : AllL (baP x r) := ⟨by decide, l_d (h 0 (by omega)), l_d (h 1 (by omega)), l_d (h 2 (by omega)), by decide, l_d hr, by decide, by decide, trivial⟩
theorem bls_sh {d : Nat → Nat} {m : Nat} (h : Few d m) : ∀ w k, k + w ≤ 5 → AllL (bls d m k w)
  | 0, _, _ => trivial
  | w + 1, k, hk => (ba_sh (fun i hi => by have := yT_in h (show k < 5 by omega) hi; unfold yT; omega) (rT_few h.m)).app (bls_sh h w (k + 1) (by omega))
theorem re_sh {n : Nat} {d : Nat → Nat} {m : Nat} (h : Few d m) (hn : n ≤ 5) : AllL (reI n d m) :=
  AllL.app (a := [kP wRe, dP (1000 * (n : Int)), kP wBy, dP (1000 * (d 0 : Int)), dP (1000 * (d 1 : Int)), dP (1000 * (d 2 : Int)), kP [123]]) ⟨by decide, l_d (by omega), by decide, l_d (by have := h.d 0 (by omega); omega), l_d (by have := h.d 1 (by omega); omega), l_d (by have := h.d 2 (by omega); omega), by decide, trivial⟩ (ba_sh (fun i hi => by unfold x1T; omega) (rT_few h.m))
theorem two_sh {n : Nat} {d : Nat → Nat} {m : Nat} (h : Few d m) (hn : n ≤ 5) : (tb (two n d m)).length ≤ 2000 := by
  have := tb_short (AllL.mem (ey_sh.app (sk_sh.app (bls_sh h n 0 (by omega)))))
  have e := two_len n d m
  unfold two at e ⊢
  omega
theorem on_sh {n : Nat} {d : Nat → Nat} {m : Nat} (h : Few d m) (hn : n ≤ 5) : (tb (onI n d m) ++ [125]).length ≤ 2000 := by
  have := tb_short (AllL.mem (ey_sh.app (sk_sh.app (re_sh h hn))))
  rw [List.length_append]
  have e : (eyHd ++ (skT ++ reI n d m)).length = 47 := rfl
  rw [e] at this
  show (tb (onI n d m)).length + 1 ≤ 2000
  unfold onI
  omega
theorem catL_t : ∀ (l : List ByteArray) (s : ByteArray), s.size + (l.flatMap bL).length ≤ 1000000000 → catL s l = true
  | [], _, _ => rfl
  | t :: r, s, h => by
    have et : t.size = (bL t).length := size_bL t
    simp only [List.flatMap_cons, List.length_append] at h
    show ((catF s t || false) && catL (s ++ t) r) = true
    rw [cat_t (by omega), catL_t r (s ++ t) (by rw [ByteArray.size_append]; omega)]
    rfl
theorem lk_me (x : Nat) : likeS x x = true := by unfold likeS; cases Go.Ev.feq x x <;> rfl
theorem sSh_me (s : Shp) : sSh s s = true := by
  unfold sSh lkVS
  simp only [lk_me, BEq.rfl, cond_true]
theorem eyV_me : e10 (lst eyV) (lst eyV) = true := by kernel_rfl
theorem exS (N : Nat) (d : Nat → Nat) (M : Nat) (hN : N ≤ 5) : ∃ s : Scn, SOk s d M ∧ s.nS = N ∧ Alike s s := by
  refine ⟨sT N d M, sT_ok N d M, rfl, ?_⟩
  exact {
    few := ⟨by show N ≤ 1000; omega, by show 0 ≤ 1000; omega, by show 0 ≤ 1000; omega, by show 1 ≤ 1000; omega, by show 0 ≤ 1000; omega⟩
    n := ⟨rfl, rfl, rfl, rfl, rfl⟩
    S := fun q _ => sSh_me _
    O := fun q hq => absurd hq (Nat.not_lt_zero q)
    F := fun q hq => absurd hq (Nat.not_lt_zero q)
    K := fun _ _ => rfl
    LA := fun q hq => absurd hq (Nat.not_lt_zero q)
    LL := fun _ _ => rfl
    sky := rfl
    eye := eyV_me }
end Go.Proofs.YtefphimaggjihaaGreatDoor.Pi.Rd

namespace Go.Proofs.YtefphimaggjihaaGreatDoor.Pi.Rd
open Go.Shelf Go.RowKit Go.Gv
open Hs Hs.So Hs.Sc Hs.Fm
theorem dc_of (k : Nat) (h : k < 100000000) : FDe dFT (k : Int) := dec_spec (by omega) (by omega)
theorem wv {d : Nat → Nat} {m k i : Nat} (h : Few d m) (hk : k < 5) (hi : i < 3) {c : Int} (hc : c = ((i + 1 : Nat) : Int)) : w64 (c + w64 ((k : Int) * (d i : Int))) = ((i + 1 + k * d i : Nat) : Int) := by
  subst hc
  have h1 := jd_le hk (h.d i hi)
  rw [← Int.natCast_mul, w64_id (n := ((k * d i : Nat) : Int)) (by omega) (by omega), w64_id (by omega) (by omega)]
  omega
section
variable {n : Nat} {d : Nat → Nat} {m : Nat} (one : ByteArray)
theorem tw_leads (h : Few d m) (hn : n ≤ 5) : Leads Tryz.prog (.loop (loopAt Tryz.f7 0)) (twS one (lB (tb (two 0 d m))) 0 (n : Int) ((m + 1 : Nat) : Int) (d 0 : Int) (d 1 : Int) (d 2 : Int)) (.exit 0) (twS one (lB (tb (two n d m))) (n : Int) (n : Int) ((m + 1 : Nat) : Int) (d 0 : Int) (d 1 : Int) (d 2 : Int)) := by
  have hm := h.m
  have G : ∀ k : Nat, k < 5 → (two k d m = two k d m) → ∀ o oe, twC dFT (lB (tb (two k d m))) (k : Int) (n : Int) ((m + 1 : Nat) : Int) (d 0 : Int) (d 1 : Int) (d 2 : Int) o oe = cond (decide ((k : Int) < (n : Int))) o oe := fun k hk _ o oe => by
    have e0 := wv (k := k) h hk (i := 0) (by omega) (c := 1) rfl
    have e1 := wv (k := k) h hk (i := 1) (by omega) (c := 2) rfl
    have e2 := wv (k := k) h hk (i := 2) (by omega) (c := 3) rfl
    have b0 := yT_in h hk (i := 0) (by omega)
    have b1 := yT_in h hk (i := 1) (by omega)
    have b2 := yT_in h hk (i := 2) (by omega)
    have hc : catL (lB (tb (two k d m))) (twL dFT (k : Int) ((m + 1 : Nat) : Int) (d 0 : Int) (d 1 : Int) (d 2 : Int)) = true := by
      refine catL_t _ _ ?_
      unfold twL
      rw [tw_bytes k d m e0 e1 e2 rfl, size_lB, ← List.length_append, ← tb_app, ← two_snoc]
      have := two_sh h (show k + 1 ≤ 5 by omega)
      omega
    unfold twC
    rw [hc, e0, e1, e2, gate_pos (dc_of _ (by omega)), gate_pos (dc_of _ (by omega)), gate_pos (dc_of _ (by omega)), gate_pos (dc_of _ (by omega)), cond_true]
  refine loop_rule (fun k => twS one (lB (tb (two k d m))) (k : Int) (n : Int) ((m + 1 : Nat) : Int) (d 0 : Int) (d 1 : Int) (d 2 : Int)) n (.exit 0) _ (by simp) (fun k hk => ?_) ?_
  · refine leads_ev (finN_sub _ _) e_nil (k_cons kS_ok k_nil) noL_ok ((tw_step dFT one _ _ _ _ _ _ _).trans ?_)
    rw [G k (by omega) rfl, decide_eq_true (show (k : Int) < (n : Int) by omega), cond_true]
    unfold twL
    rw [two_text k d m (wv (i := 0) h (by omega) (by omega) (c := 1) rfl) (wv (i := 1) h (by omega) (by omega) (c := 2) rfl) (wv (i := 2) h (by omega) (by omega) (c := 3) rfl) rfl, show w64 ((k : Int) + 1) = ((k + 1 : Nat) : Int) by rw [w64_id (by omega) (by omega)]; omega]
  · refine leads_ev (finE_sub _ _) e_nil (k_cons kS_ok k_nil) noL_ok ((tw_end dFT one _ _ _ _ _ _ _).trans ?_)
    unfold twC
    rw [decide_eq_false (show ¬ (n : Int) < (n : Int) by omega)]
    rfl
end
/-- THE LAW TopTold. -/
theorem topTold_law {nb : Nat} {bs : Nat → Int} (hb : ∀ i, i < nb → -9223372036854775808 ≤ bs i ∧ bs i ≤ 9223372036854775807) {n0 r0 : Int} (h0 : -9223372036854775808 ≤ n0 ∧ n0 ≤ 9223372036854775807) (h1 : -9223372036854775808 ≤ r0 ∧ r0 ≤ 9223372036854775807) : FSpec Tryz.prog 7 [iA n0, sI nb bs, iA r0] (bA true) := by
  have q0 := mpk_range (m := 6) h0.1 h0.2 (by decide)
  have q1 := mpk_range (m := 9) h1.1 h1.2 (by decide)
  obtain ⟨N, hN, hN5⟩ : ∃ N : Nat, mpk n0 6 = (N : Int) ∧ N ≤ 5 := ⟨(mpk n0 6).toNat, by omega, by omega⟩
  obtain ⟨M, hM, hM9⟩ : ∃ M : Nat, w64 (1 + mpk r0 9) = ((M + 1 : Nat) : Int) ∧ M < 9 := ⟨(mpk r0 9).toNat, by rw [w64_id (by omega) (by omega)]; omega, by omega⟩
  have qd : ∀ i : Nat, 0 ≤ mpk (mrw nb bs (i : Int)) 20 ∧ mpk (mrw nb bs (i : Int)) 20 < 20 := fun i => by
    have := mrw_range hb (k := (i : Int)) (by omega)
    exact mpk_range this.1 this.2 (by decide)
  obtain ⟨d, hd⟩ : ∃ d : Nat → Nat, ∀ i : Nat, mpk (mrw nb bs (i : Int)) 20 = (d i : Int) := ⟨fun i => (mpk (mrw nb bs (i : Int)) 20).toNat, fun i => (Int.toNat_of_nonneg (qd i).1).symm⟩
  have few : Few d M := ⟨fun i _ => by have := (qd i).2; rw [hd i] at this; omega, hM9⟩
  have d0 : mpk (mrw nb bs 0) 20 = (d 0 : Int) := hd 0
  have d1 : mpk (mrw nb bs 1) 20 = (d 1 : Int) := hd 1
  have d2 : mpk (mrw nb bs 2) 20 = (d 2 : Int) := hd 2
  obtain ⟨s, ok, hs, al⟩ := exS N d M hN5
  have key := tt_ev n0 r0 nb bs mpk (mrw nb bs) dFT (fun _ => s) (lB (tb (two N d M)))
  have fin : ttX n0 r0 nb bs mpk (mrw nb bs) dFT (fun _ => s) (lB (tb (two N d M))) = some (Out.of (bA true)) := by
    unfold ttX gPi
    by_cases h64 : (nb : Int) > 64
    · rw [decide_eq_true h64]
      rfl
    rw [decide_eq_false h64, cond_false, gate_pos (mpick (by decide)), gR_pos (by decide), gate_pos (mpick (by decide)), gR_pos (by decide), gate_pos (mpick (by decide)), gR_pos (by decide), gate_pos (mpick (by decide)), gate_pos (mpick (by decide)), hN, hM, d0, d1, d2]
    have k0 := few.d 0 (by omega)
    have k1 := few.d 1 (by omega)
    have k2 := few.d 2 (by omega)
    have hc : catL hdT (oneL' dFT (N : Int) ((M + 1 : Nat) : Int) (d 0 : Int) (d 1 : Int) (d 2 : Int)) = true := by
      refine catL_t _ _ ?_
      rw [on_bytes N d M rfl, hd_tb, size_lB]
      have := on_sh few hN5
      have e : tb (onI N d M) = tb (eyHd ++ skT) ++ tb (reI N d M) := by unfold onI; rw [← List.append_assoc, tb_app]
      rw [e] at this
      simp only [List.length_append] at this ⊢
      omega
    unfold ttB
    rw [gate_pos (dc_of N (by omega)), gate_pos (dc_of (d 0) (by omega)), gate_pos (dc_of (d 1) (by omega)), gate_pos (dc_of (d 2) (by omega)), gate_pos (dc_of (M + 1) (by omega)), hc, cond_true, gate_pos (Sub.refl _)]
    rw [gate_pos (by rw [one_text N d M rfl]; exact one_parse ok hs few hN5 (Nat.le_trans (on_sh few hN5) (by decide))), gate_pos (two_parse ok hs few hN5 (Nat.le_trans (two_sh few hN5) (by decide))), gate_pos (sn_same al)]
    show oB (((s.nS : Nat) : Int) == (N : Int)) = _
    rw [hs, BEq.rfl]
    rfl
  rw [hN, hM, d0, d1, d2] at key
  refine gspecM e_nil (k_cons kS_ok (k_cons kS_ok (k_cons kS_ok (k_cons kS_ok (k_cons kS_ok k_nil))))) (m_cons (born_ok _) (fun _ h => by cases h)) Tryz.func7 (by kernel_rfl) (by kernel_rfl) (lok_one (i := 10) 1 (by kernel_rfl) fun j hj _ => ?_) rfl (key.trans fin)
  have : j = 0 := by omega
  subst this
  have := tw_leads (oneT dFT (N : Int) ((M + 1 : Nat) : Int) (d 0 : Int) (d 1 : Int) (d 2 : Int)) few hN5
  rw [← two_0 d M] at this
  exact toldF_sound this
end Go.Proofs.YtefphimaggjihaaGreatDoor.Pi.Rd

namespace Go.Proofs.YtefphimaggjihaaGreatDoor
open Go.Gv Go.RowKit Go.ChangeShapes Go.WideShapes Go.ChangeAt

def rsl (n : Nat) (hs : Nat → Int) : AV := .sl 1 n fun i => [iA (hs i)]
theorem open_num {H : Type} {enc : TypeId × Value → H} {P : Program} {w : World} {r : Reach} {b0 : Nat} {t : TypeId} {v : Value} {d : DataW H} {p : List MemPlace} {k : IntKind} (hu : P.underlying t = some (.int k)) (hk : kds P 1 t = some [.i k]) (hv : Value.okWide P w r b0 t v)
    (h : DataW.Trod enc P w 0 (fun _ => true) true t v d p) : ∃ n, rel (Env.all w) (.x (.int k n)) v ∧ (Lit.int k n).wf = true := by
  have hone : v.cells = #[v] := by
    obtain ⟨n, rfl, _⟩ := okWide_int hu hv
    rfl
  obtain ⟨fuel, hf⟩ := h
  obtain ⟨a, h1, h2⟩ := open_arg hf hk hone
  rw [fitA] at h1
  obtain ⟨n, rfl, hw⟩ := h1
  exact ⟨n, h2, hw⟩
def numOf (el : Nat → List AV) (i : Nat) : Int := match el i with
  | [.x (.int .i64 h)] => h
  | _ => 0
theorem sl_same {E : Env} {sz n : Nat} {el el' : Nat → List AV} {v : Value} (h : rel E (.sl sz n el) v) (he : ∀ i, i < n → el' i = el i) : rel E (.sl sz n el') v := by
  have h : relA _ _ _ := h
  show relA _ _ _
  rw [relA] at h ⊢
  obtain ⟨a, c, h1, h2, h3⟩ := h
  refine ⟨a, c, h1, h2, ?_⟩
  rcases h3 with h3 | ⟨b, o, cs, e, fz, h4, h5, h6, h7⟩
  · exact Or.inl h3
  · exact Or.inr ⟨b, o, cs, e, fz, h4, h5, h6, fun i hi => by rw [he i hi]; exact h7 i hi⟩
theorem fitL_single {k : Kd} {zs : List AV} (h : fitL [k] zs) : ∃ a, zs = [a] ∧ fitA k a := by
  match zs, h with
  | [a], h => exact ⟨a, rfl, (fitL_cons.1 h).1⟩
  | [], h => have := fitL_length h; simp at this
  | _ :: _ :: _, h => have := fitL_length h; simp at this
/-- A row of whole numbers that came in: as many, each a number of 64 bits. -/
theorem open_raw {H : Type} {enc : TypeId × Value → H} {P : Program} {w : World} {r : Reach} {b0 : Nat} {t e : TypeId} {v : Value} {d : DataW H} {p : List MemPlace} (hu : P.underlying t = some (.slice e)) (hk : kds P 2 t = some [.l 1 [.i .i64]]) (hv : Value.okWide P w r b0 t v)
    (h : DataW.Trod enc P w 0 (fun _ => true) true t v d p) : ∃ n hs, rel (Env.all w) (rsl n hs) v ∧ ∀ i, i < n → (Lit.int .i64 (hs i)).wf = true := by
  have hone : v.cells = #[v] := by
    obtain ⟨a, len, cap, rfl⟩ := okWide_slice hu hv
    rfl
  obtain ⟨fuel, hf⟩ := h
  obtain ⟨a, h1, h2⟩ := open_arg hf hk hone
  rw [fitA] at h1
  obtain ⟨n, el, rfl, _, hel⟩ := h1
  have key : ∀ i, i < n → el i = [iA (numOf el i)] ∧ (Lit.int .i64 (numOf el i)).wf = true := fun i hi => by
    obtain ⟨a, ha, hf⟩ := fitL_single (hel i hi)
    rw [fitA] at hf
    obtain ⟨m, rfl, hw⟩ := hf
    have e : numOf el i = m := by unfold numOf; rw [ha]
    rw [e]
    exact ⟨ha, hw⟩
  exact ⟨n, numOf el, sl_same h2 fun i hi => (key i hi).1.symm, fun i hi => (key i hi).2⟩
end Go.Proofs.YtefphimaggjihaaGreatDoor
