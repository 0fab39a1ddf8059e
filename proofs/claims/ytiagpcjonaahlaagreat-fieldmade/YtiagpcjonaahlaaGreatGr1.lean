/-
  The document's answer on fields: the box around a field's points.
-/
import Derived.Test.YtiagpcjonaahlaaGreatGf6
namespace Go.Proofs.YtiagpcjonaahlaaGreat
open Go.Gv
open Go.Ev (cn fadd fsub fmul fdiv feq flt fle fgt fge)

def gLo (a b : Nat → Nat) : Value := lowV (a 0) (a 1) (a 2) (b 0) (b 1) (b 2)
def gHi (a b : Nat → Nat) : Value := highV (a 0) (a 1) (a 2) (b 0) (b 1) (b 2)
def gTi (a b : Nat) : Value := Ev.F (fmul a b)
def gSa (a b : Nat) : Value := Ev.B (sameS a b)
def gSB (a b : Nat → Nat) : Value := Ev.B (sameB a b)
/-- What the answer's functions beneath give. -/
def D2 : List Entry := ⟨21, g1 gF gN⟩ :: ⟨20, g1 gV gFi⟩ :: ⟨40, g2 gV gV gLo⟩ :: ⟨41, g2 gV gV gHi⟩ :: ⟨44, g2 gF gF gTi⟩ :: ⟨22, g1 gB gM⟩ :: ⟨29, g1 gY gR⟩ :: ⟨30, g2 gB gY meetV⟩ ::
  ⟨31, g2 gT gY gS⟩ :: ⟨14, g2 gF gF gSa⟩ :: ⟨9, g2 gB gB gSB⟩ :: []
theorem D2_ok : ∀ e, e ∈ D2 → EOk Tryz.prog e :=
  letI := noTok
  e_cons (g1_ok gF_some (fun _ => rfl) (fun _ => rfl) fun a => rnear a) <| e_cons (g1_ok gV_some (fun _ => rfl) (fun _ => rfl) fun a => rfine (a 0) (a 1) (a 2)) <|
  e_cons (g2_ok gV_some gV_some (fun _ => rfl) (fun _ => rfl) (fun _ _ => rfl) fun a b => rlow (a 0) (a 1) (a 2) (b 0) (b 1) (b 2)) <| e_cons (g2_ok gV_some gV_some (fun _ => rfl) (fun _ => rfl) (fun _ _ => rfl) fun a b => rhigh (a 0) (a 1) (a 2) (b 0) (b 1) (b 2)) <|
  e_cons (g2_ok gF_some gF_some (fun _ => rfl) (fun _ => rfl) (fun _ _ => rfl) fun a b => rtimes a b) <| e_cons (g1_ok gB_some (fun _ => rfl) (fun _ => rfl) fun a => rmay a) <| e_cons (g1_ok gY_some (fun _ => rfl) (fun _ => rfl) fun a => rrfine a) <|
  e_cons (g2_ok gB_some gY_some (fun _ => rfl) (fun _ => rfl) (fun _ _ => rfl) fun a b => rmeets a b) <| e_cons (g2_ok gT_some gY_some (fun _ => rfl) (fun _ => rfl) (fun _ _ => rfl) fun a b => rstrike3 a.2 a.1 b) <|
  e_cons (g2_ok gF_some gF_some (fun _ => rfl) (fun _ => rfl) (fun _ _ => rfl) fun a b => rsame a b) <| e_cons (g2_ok gB_some gB_some (fun _ => rfl) (fun _ => rfl) (fun _ _ => rfl) fun a b => rsameB a b) e_nil
def GK (P : Program) (g : Func) : List KEntry := [inl P D2 [] (fun _ => noL) 25 g]
theorem GK_ok : ∀ e, e ∈ GK Tryz.prog Tryz.f25 → KOk Tryz.prog e := k_cons (inl_ok D2_ok k_nil (by kernel_rfl) Tryz.func25 (by kernel_rfl) (by kernel_rfl) (c := bodyOf Tryz.f25) fun _ => noL_ok) k_nil
def skK : Kont := fun e _ => some ⟨e, ⟨[], []⟩, .any⟩
def fbI (F : Fd) (y x : Int) (p b : Nat → Nat) : St := mkS 39 [(1, .own 0 0), (2, .own 1 0), (3, .own 2 0), (4, .own 3 0), (5, iA y), (6, iA x)] [.c F.c, .c z6, .c (c3 p), .c (c6 b)]
def fbO (F : Fd) (y : Int) (p b : Nat → Nat) : St := mkS 39 [(1, .own 0 0), (2, .own 1 0), (3, .own 2 0), (4, .own 3 0), (5, iA y)] [.c F.c, .c z6, .c (c3 p), .c (c6 b)]
def keepB : List Nat := [1, 2, 3, 4, 5, 6]
def keepC : List Nat := [1, 2, 3, 4, 5]
def rmS (F : Fd) (e q : Int) : St := mkS 83 [(1, .own 0 0), (2, iA e), (5, iA q)] [.c F.c]
def keepR2 : List Nat := [1, 2, 5]
def rpI (F : Fd) (y x : Int) (m : Nat) (ps : Nat → List AV) : St := mkS 65 [(1, .own 0 0), (5, .osl 1 13 0 m), (6, iA y), (7, iA x)] [.c F.c, .a 41 13 m ps]
def rpO (F : Fd) (y : Int) (m : Nat) (ps : Nat → List AV) : St := mkS 65 [(1, .own 0 0), (5, .osl 1 13 0 m), (6, iA y)] [.c F.c, .a 41 13 m ps]

/-! ### The box -/
theorem fbI_step (F : Fd) (y x : Int) (p b : Nat → Nat) : evC Tryz.prog D2 (GK Tryz.prog Tryz.f25) noL (loopAt Tryz.f19 1) (fbI F y x p b) (finN keepB [some 0, some 1, some 2, some 3]) =
    cond (decide (x < F.W)) (cond ((inR (ix F.W y x) F.n || false) && true) (some ⟨.normal, fbI F y (w64 (x + 1)) (ptXY F (F.hs (ix F.W y x).toNat) x y) (joinS b (pp (ptXY F (F.hs (ix F.W y x).toNat) x y))), .any⟩) none) none := by kernel_rfl
theorem fbI_end (F : Fd) (y x : Int) (p b : Nat → Nat) : evC Tryz.prog D2 (GK Tryz.prog Tryz.f25) noL (loopAt Tryz.f19 1) (fbI F y x p b) (finX keepB [some 0, some 1, some 2, some 3]) =
    cond (decide (x < F.W)) (cond ((inR (ix F.W y x) F.n || false) && true) none none) (some ⟨.exit 2, fbI F y x p b, .any⟩) := by kernel_rfl
def lastP (p : Nat → Nat → Nat) : Nat → Nat → Nat
  | 0 => p 0
  | q + 1 => p q
theorem fbI_leads {F : Fd} {w h y : Nat} (d : Dim F w h) (hy : y < h) : Leads Tryz.prog (.loop (loopAt Tryz.f19 1)) (fbI F (y : Nat) 0 (lastP (pt F) (y * w)) (boxQ (pt F) (y * w))) (.exit 2) (fbI F (y : Nat) (w : Nat) (lastP (pt F) (y * w + w)) (boxQ (pt F) (y * w + w))) := by
  have hle := d.le
  have hyW := d.row hy
  refine loop_rule (fun j => fbI F (y : Nat) (j : Nat) (lastP (pt F) (y * w + j)) (boxQ (pt F) (y * w + j))) w (.exit 2) _ (by simp) (fun j hj => ?_) ?_
  · refine leads_ev (finN_sub keepB [some 0, some 1, some 2, some 3]) D2_ok GK_ok noL_ok ?_
    have c1 : decide (((j : Nat) : Int) < F.W) = true := by rw [d.W]; exact dec_lt hj
    rw [fbI_step, c1, d.ix hy hj, inR_nat (by rw [d.n]; omega), w64_next (by omega), Int.toNat_natCast, ← pt_at d hj]
    rfl
  · refine leads_ev (finX_sub keepB [some 0, some 1, some 2, some 3]) D2_ok GK_ok noL_ok ?_
    have c1 : decide (((w : Nat) : Int) < F.W) = false := by rw [d.W]; exact dec_self w
    rw [fbI_end, c1]
    rfl
noncomputable def fbIL (F : Fd) (w y : Nat) : Nat → Option LFun := oneL 7 (toldF keepB [some 0, some 1, some 2, some 3] (fbI F (y : Nat) 0 (lastP (pt F) (y * w)) (boxQ (pt F) (y * w))) (.exit 2) (fbI F (y : Nat) (w : Nat) (lastP (pt F) (y * w + w)) (boxQ (pt F) (y * w + w))))
theorem fbIL_ok {F : Fd} {w h y : Nat} (d : Dim F w h) (hy : y < h) : LOk Tryz.prog (fbIL F w y) (loopAt Tryz.f19 0) :=
  lok_one (i := 7) 1 (by kernel_rfl) fun j hj _ => by
    have : j = 0 := by omega
    subst this
    have e : (loopsOf (loopAt Tryz.f19 0)).getD 0 .skip = loopAt Tryz.f19 1 := by kernel_rfl
    rw [e]
    exact toldF_sound (fbI_leads d hy)
theorem fbO_step (F : Fd) (w y : Nat) : evC Tryz.prog D2 (GK Tryz.prog Tryz.f25) (fbIL F w y) (loopAt Tryz.f19 0) (fbO F (y : Nat) (lastP (pt F) (y * w)) (boxQ (pt F) (y * w))) (finN keepC [some 0, some 1, some 2, some 3]) =
    cond (decide (((y : Nat) : Int) < F.H)) (gate (Sub (fbI F (y : Nat) 0 (lastP (pt F) (y * w)) (boxQ (pt F) (y * w))) (fbI F (y : Nat) 0 (lastP (pt F) (y * w)) (boxQ (pt F) (y * w)))) (some ⟨.normal, fbO F (w64 (((y : Nat) : Int) + 1)) (lastP (pt F) (y * w + w)) (boxQ (pt F) (y * w + w)), .any⟩)) none := by kernel_rfl
theorem fbO_last (F : Fd) (y : Int) (p b : Nat → Nat) : evC Tryz.prog D2 (GK Tryz.prog Tryz.f25) (oneL 7 fun _ _ => none) (loopAt Tryz.f19 0) (fbO F y p b) (finX keepC [some 0, some 1, some 2, some 3]) =
    cond (decide (y < F.H)) none (some ⟨.exit 0, fbO F y p b, .any⟩) := by kernel_rfl
theorem fbO_leads {F : Fd} {w h : Nat} (d : Dim F w h) : Leads Tryz.prog (.loop (loopAt Tryz.f19 0)) (fbO F 0 (lastP (pt F) (0 * w)) (boxQ (pt F) (0 * w))) (.exit 0) (fbO F (h : Nat) (lastP (pt F) (h * w)) (boxQ (pt F) (h * w))) := by
  have h8 := d.h8
  refine loop_rule (fun y => fbO F (y : Nat) (lastP (pt F) (y * w)) (boxQ (pt F) (y * w))) h (.exit 0) _ (by simp) (fun y hy => ?_) ?_
  · refine leads_ev (finN_sub keepC [some 0, some 1, some 2, some 3]) D2_ok GK_ok (fbIL_ok d hy) ?_
    have c1 : decide (((y : Nat) : Int) < F.H) = true := by rw [d.H]; exact dec_lt hy
    rw [fbO_step, c1, gate_pos (Sub.refl _), w64_next (by omega), Nat.succ_mul y w]
    rfl
  · refine leads_ev (finX_sub keepC [some 0, some 1, some 2, some 3]) D2_ok GK_ok (lok_none 7) ?_
    have c1 : decide (((h : Nat) : Int) < F.H) = false := by rw [d.H]; exact dec_self h
    rw [fbO_last, c1]
    rfl
noncomputable def fbL (F : Fd) (w h : Nat) : Nat → Option LFun := oneL 4 (toldF keepC [some 0, some 1, some 2, some 3] (fbO F 0 (lastP (pt F) (0 * w)) (boxQ (pt F) (0 * w))) (.exit 0) (fbO F (h : Nat) (lastP (pt F) (h * w)) (boxQ (pt F) (h * w))))
theorem fbL_ok {F : Fd} {w h : Nat} (d : Dim F w h) : LOk Tryz.prog (fbL F w h) (bodyOf Tryz.f19) :=
  lok_one (i := 4) 2 (by kernel_rfl) fun j hj hid => by
    have : j = 0 ∨ j = 1 := by omega
    rcases this with rfl | rfl
    · exact toldF_sound (fbO_leads d)
    · have e : firstId ((loopsOf (bodyOf Tryz.f19)).getD 1 .skip) = some 7 := by kernel_rfl
      rw [e] at hid
      cases hid
theorem fb_ev (F : Fd) (w h : Nat) : ev Tryz.prog D2 (GK Tryz.prog Tryz.f25) (fbL F w h) Tryz.f19 [.agg F.c] ret =
    cond ((inR (ix F.W 0 0) F.n || false) && true) (gate (Sub (fbO F 0 (ptXY F (F.hs (ix F.W 0 0).toNat) 0 0) (pp (ptXY F (F.hs (ix F.W 0 0).toNat) 0 0))) (fbO F 0 (lastP (pt F) (0 * w)) (boxQ (pt F) (0 * w)))) (some (Out.of (.agg (c6 (boxQ (pt F) (h * w))))))) none := by kernel_rfl
theorem fb_spec {F : Fd} {w h : Nat} (d : Dim F w h) : FSpec Tryz.prog 19 [.agg F.c] (.agg (c6 (bx F))) := by
  refine gspec D2_ok GK_ok Tryz.func19 (by kernel_rfl) (by kernel_rfl) (fbL_ok d) rfl ?_
  have hpos : 4 ≤ w * h := Nat.mul_le_mul d.w1 d.h1
  have hn := d.n
  have hw := d.w1
  have hix : ix F.W 0 0 = ((0 * w + 0 : Nat) : Int) := d.ix (y := 0) (x := 0) (by have := d.h1; omega) (by omega)
  have hpt : ptXY F (F.hs (0 * w + 0)) 0 0 = pt F 0 := by
    have := (pt_at (y := 0) (x := 0) d (by omega)).symm
    rw [Nat.zero_mul] at this ⊢
    exact this
  rw [fb_ev, hix, inR_nat (by rw [hn]; omega), Int.toNat_natCast, hpt]
  have hs : Sub (fbO F 0 (pt F 0) (pp (pt F 0))) (fbO F 0 (lastP (pt F) (0 * w)) (boxQ (pt F) (0 * w))) := by
    rw [Nat.zero_mul]
    exact Sub.refl _
  rw [gate_pos hs]
  unfold bx
  rw [hn, Nat.mul_comm h w]
  rfl
end Go.Proofs.YtiagpcjonaahlaaGreat
