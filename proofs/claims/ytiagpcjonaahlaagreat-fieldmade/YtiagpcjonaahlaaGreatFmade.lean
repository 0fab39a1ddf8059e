/-
  The law FieldMade returns true for every row of numbers and every number, and leaves them as they were.
-/
import Derived.Test.YtiagpcjonaahlaaGreatRaw3
import Derived.Test.YtiagpcjonaahlaaGreatArg
import Derived.Carry
import Derived.ChangeSlices
namespace Go.Proofs.YtiagpcjonaahlaaGreat
open Go.Gv Go.RowKit Go.ChangeShapes Go.WideShapes Go.ChangeAt
open Go.Ev (cn fadd fsub fmul fdiv feq flt fle fgt fge law_post)

section
variable (pf : Int → Int → Int) (tf : Int → Nat) (rv : Int → Int) (vf : Int → Int → Nat → Nat) (n : Nat) (hs : Nat → Int) (W H : Int) (a : Nat → Nat) (sd : Nat) (sk : Int) (m : Nat) (hf : Nat → Int)
noncomputable def foL : Nat → Option LFun := oneL 3 (toldF keepFo [some 0, some 1] (fS0 n hs 3 W H a sd sk 0) (.exit 0) (fS1 n hs 3 W H a sd sk (m : Nat) m fun q => [iA (hf q)]))
theorem fo_ev : ev Tryz.prog (eTh tf) [kPick pf, kRaw n hs rv, kVec n hs vf] (foL n hs W H a sd sk m hf) Tryz.f17 [rsl n hs, iA 3, iA 3] ret =
    gate (some (rsl n hs) = some (rsl n hs)) (gate (some (rsl n hs) = some (rsl n hs)) (gate (some (rsl n hs) = some (rsl n hs)) (gate (some (rsl n hs) = some (rsl n hs)) (gate (some (rsl n hs) = some (rsl n hs))
      (gate (Sub (fS0 n hs 3 (w64 (2 + pf (rv 3) 3)) (w64 (2 + pf (rv (w64 (3 + 1))) 3)) (vf (w64 (3 + 2)) 3000) (tf (w64 (300 + pf (rv (w64 (3 + 5))) 1500))) (pf (rv (w64 (3 + 6))) 3) 0) (fS0 n hs 3 W H a sd sk 0))
        (some (Out.of (.agg (fldC W H a sd (.sl 1 m fun i => [iA (hf (0 + i))]) sk)))))))))  := by kernel_rfl
end
theorem wf0 : (Lit.int .i64 0).wf = true := by decide
theorem rawV_wf {n : Nat} {hs : Nat → Int} (hw : ∀ i, i < n → (Lit.int .i64 (hs i)).wf = true) {k : Int} (hk : 0 ≤ k) : (Lit.int .i64 (rawV n hs k)).wf = true := by
  unfold rawV
  by_cases h : n = 0
  · subst h; exact wf0
  · have e1 : ((n : Int) == 0) = false := beq_false_of_ne (by omega)
    obtain ⟨m, rfl⟩ : ∃ m : Nat, k = m := ⟨k.toNat, by omega⟩
    have e2 : Int.tmod (m : Int) (n : Int) = ((m % n : Nat) : Int) := (Int.ofNat_tmod m n).symm
    have hlt : m % n < n := Nat.mod_lt _ (by omega)
    rw [e1, e2, cond_false, Int.toNat_natCast]
    exact hw _ hlt
/-- The field that is made. -/
def fdM (n : Nat) (hs : Nat → Int) (m : Nat) : Fd := ⟨w64 (2 + pk (rawV n hs 3) 3), w64 (2 + pk (rawV n hs (w64 (3 + 1))) 3), vecS n hs (w64 (3 + 2)) 3000, thS (w64 (300 + pk (rawV n hs (w64 (3 + 5))) 1500)), m, hiS n hs 3, pk (rawV n hs (w64 (3 + 6))) 3⟩
theorem fo_spec {n : Nat} {hs : Nat → Int} (hw : ∀ i, i < n → (Lit.int .i64 (hs i)).wf = true) : ∃ m, FSpec Tryz.prog 17 [rsl n hs, iA 3, iA 3] (.agg (fdM n hs m).c) := by
  obtain ⟨w, ew, hw1⟩ := pk_nat (rawV_wf hw (k := 3) (by decide)) (show 0 < 3 by decide)
  obtain ⟨h, eh, hh1⟩ := pk_nat (rawV_wf hw (k := w64 (3 + 1)) (by decide)) (show 0 < 3 by decide)
  have ew : pk (rawV n hs 3) 3 = w := ew
  have eh : pk (rawV n hs (w64 (3 + 1))) 3 = h := eh
  have eW : w64 (2 + pk (rawV n hs 3) 3) = ((2 + w : Nat) : Int) := by rw [ew, w64_id (by omega) (by omega)]; omega
  have eH : w64 (2 + pk (rawV n hs (w64 (3 + 1))) 3) = ((2 + h : Nat) : Int) := by rw [eh, w64_id (by omega) (by omega)]; omega
  have h1 : (2 + w) * (2 + h) ≤ 4 * 4 := Nat.mul_le_mul (by omega) (by omega)
  have h2 : 2 * 2 ≤ (2 + w) * (2 + h) := Nat.mul_le_mul (by omega) (by omega)
  obtain ⟨m, hm⟩ : ∃ m, (2 + w) * (2 + h) = m + 1 := ⟨(2 + w) * (2 + h) - 1, by omega⟩
  refine ⟨m + 1, ?_⟩
  have hWH : w64 (w64 (2 + pk (rawV n hs 3) 3) * w64 (2 + pk (rawV n hs (w64 (3 + 1))) 3)) = ((m + 1 : Nat) : Int) := by
    rw [eW, eH, ← Int.natCast_mul, hm, w64_id (by omega) (by omega)]
  have hL : LOk Tryz.prog (foL n hs (fdM n hs (m + 1)).W (fdM n hs (m + 1)).H (fdM n hs (m + 1)).at_ (fdM n hs (m + 1)).sd (fdM n hs (m + 1)).sk (m + 1) (hiS n hs 3)) (bodyOf Tryz.f17) :=
    lok_one (i := 3) 1 (by kernel_rfl) fun j hj _ => by
      have : j = 0 := by omega
      subst this
      exact toldF_sound (fo_leads _ _ _ (by decide) (by decide) hWH (by omega))
  refine gspec eTh_ok (k_cons kPick_ok (k_cons (kRaw_ok n hs) (k_cons (kVec_ok n hs) k_nil))) Tryz.func17 (by kernel_rfl) (by kernel_rfl) hL rfl ((fo_ev pk thS (rawV n hs) (vecS n hs) n hs _ _ _ _ _ (m + 1) (hiS n hs 3)).trans ?_)
  have e : (fun i => [iA (hiS n hs 3 (0 + i))]) = fun q => [iA (hiS n hs 3 q)] := funext fun i => by rw [Nat.zero_add]
  rw [gate_pos rfl, gate_pos rfl, gate_pos rfl, gate_pos rfl, gate_pos rfl]
  simp only [fdM]
  rw [gate_pos (Sub.refl _), e]
  rfl
/-! ### The law -/
def rayM (n : Nat) (hs : Nat → Int) (f : Int) : Nat → Nat := ls [vecS n hs f 6000 0, vecS n hs f 6000 1, vecS n hs f 6000 2, rX n hs f, rY n hs f, rZ n hs f, rL n hs f]
section
variable (pf : Int → Int → Int) (F : Fd) (r0 r1 r2 r3 r4 r5 r6 : Nat)
theorem fm_ev1 (n : Nat) (hs : Nat → Int) (k : Int) : ev Tryz.prog [] [⟨16, fun _ _ => none⟩] noL Tryz.f4 [rsl n hs, iA k] ret = cond (decide ((n : Int) > 256)) (some (Out.of (bA true))) none := by kernel_rfl
theorem fm_ev (n : Nat) (hs : Nat → Int) (k : Int) : ev Tryz.prog [] [kPick pf, kfix 15 [rsl n hs, iA (pf k 64)] (.agg [.f r0, .f r1, .f r2, .f r3, .f r4, .f r5, .f r6]), kfix 17 [rsl n hs, iA 3, iA 3] (.agg F.c), kfix 3 [.agg F.c, .agg [.f r0, .f r1, .f r2, .f r3, .f (fsub r4 (cn 4607182418800017408)), .f r5, .f r6]] (bA true)] noL Tryz.f4 [rsl n hs, iA k] ret =
    cond (decide ((n : Int) > 256)) (some (Out.of (bA true))) (gate ([rsl n hs, iA (pf k 64)] = [rsl n hs, iA (pf k 64)]) (gate ([rsl n hs, iA 3, iA 3] = [rsl n hs, iA 3, iA 3])
      (gate ([AV.agg F.c, .agg [.f r0, .f r1, .f r2, .f r3, .f (fsub r4 (cn 4607182418800017408)), .f r5, .f r6]] = [AV.agg F.c, .agg [.f r0, .f r1, .f r2, .f r3, .f (fsub r4 (cn 4607182418800017408)), .f r5, .f r6]]) (some (Out.of (bA true)))))) := by kernel_rfl
end
theorem fm_all {n : Nat} {hs : Nat → Int} {k : Int} (hw : ∀ i, i < n → (Lit.int .i64 (hs i)).wf = true) (hk : (Lit.int .i64 k).wf = true) : FSpec Tryz.prog 4 [rsl n hs, iA k] (bA true) := by
  by_cases hn : (n : Int) > 256
  · refine gspec e_nil (k_cons (kNo_ok 16) k_nil) Tryz.func4 (by kernel_rfl) (by kernel_rfl) noL_ok rfl ((fm_ev1 n hs k).trans ?_)
    rw [decide_eq_true hn, cond_true]
  · obtain ⟨p, ep, hp⟩ := pk_nat hk (show 0 < 64 by decide)
    have ep : pk k 64 = p := ep
    obtain ⟨m, hm⟩ := fo_spec hw
    have hr := ray_spec (n := n) (hs := hs) (f := pk k 64) (by rw [ep]; omega) (by rw [ep]; omega)
    have hl := law_all (fdM n hs m) (ls [vecS n hs (pk k 64) 6000 0, vecS n hs (pk k 64) 6000 1, vecS n hs (pk k 64) 6000 2, rX n hs (pk k 64), fsub (rY n hs (pk k 64)) (cn 4607182418800017408), rZ n hs (pk k 64), rL n hs (pk k 64)])
    refine gspec e_nil (k_cons kPick_ok (k_cons (kfix_ok hr) (k_cons (kfix_ok hm) (k_cons (kfix_ok hl) k_nil)))) Tryz.func4 (by kernel_rfl) (by kernel_rfl) noL_ok rfl ((fm_ev pk (fdM n hs m) _ _ _ _ _ _ _ n hs k).trans ?_)
    rw [decide_eq_false hn, cond_false, gate_pos rfl, gate_pos rfl, gate_pos rfl]

set_option maxRecDepth 100000 in
theorem fmade_lifted (os : Os) (started : os.Started) (H : Type) (enc : TypeId × Value → H) :
    ReturnsInHanded {} Tryz.checked os 4 .any (Rows.fieldMadeSpec.pre6 enc Tryz.prog Tryz.f4 Rows.fieldMadeRow.domain false) (Rows.fieldMadeSpec.post enc Tryz.prog Tryz.f4 false true false false) := by
  refine returnsInHanded_of_change (C := Tryz.checked) Tryz.own started (by kernel_rfl) Tryz.func4
    (ChangeSpec.witness6 (enc := enc) (C := Tryz.checked) false ⟨#[], #[.slice none 0 0, .int .i64 0], []⟩ 8 (by kernel_rfl) (by kernel_rfl) (by kernel_rfl) (by kernel_rfl)) ?_
  intro W base args ds gs before hval0 hW hcnd _
  have hval : ∀ (j : Nat) t v, Tryz.f4.params[j]? = some t → args[j]? = some v → Value.okWide Tryz.prog W .any base t v := hval0
  have hW' := hW
  obtain ⟨p, q, hA0, hV, rfl, hfz, hnd⟩ := hW
  have hA : DataW.TrodAll enc Tryz.prog W 0 (fun _ => true) true Tryz.f4.params.toList args.toList ds p := hA0
  rw [Tryz.params4] at hA hval
  obtain ⟨v0, v1, d0, d1, p0, p1, rfl, rfl, rfl, h0, h1⟩ := trodAll_two hA
  obtain ⟨rfl, rfl⟩ := trodVars_none hV
  obtain ⟨n, hs, r0, w0⟩ := open_raw Tryz.underlying25 (by kernel_rfl) (hval 0 25 v0 rfl rfl) h0
  obtain ⟨k, r1, w1⟩ := open_num Tryz.underlying3 (by kernel_rfl) (hval 1 3 v1 rfl rfl) h1
  refine ((fm_all w0 w1).2 (fun _ => False) W #[v0, v1] (fun _ h => h.elim) (rels_cons.2 ⟨v0, [v1], rfl, r0, rels_cons.2 ⟨v1, [], rfl, r1, rels_nil.2 rfl⟩⟩)).mono ?_
  rintro e' W' ⟨v, rfl, hv, hb⟩
  have hvt : v = .bool true := rel_x.1 hv
  subst hvt
  exact ⟨_, rfl, law_post Tryz.laidOut (by kernel_rfl) rfl (by kernel_rfl) Tryz.underlying4 rfl hW' hb⟩

/-- THE STATEMENT. -/
theorem fieldMade_holds : Rows.FieldMadeSaid :=
  OpenClaim.holds_of_wide 4 Tryz.f4 rfl rfl rfl rfl rfl rfl rfl ⟨rfl, rfl, rfl, rfl, rfl⟩ rfl rfl rfl rfl rfl (by kernel_rfl) Tryz.func4 (by kernel_rfl)
    (of_decide_eq_true (by kernel_rfl)) (by unfold Func.isWrapper; first | (rw [if_pos (by decide +kernel)]; kernel_rfl) | (rw [if_neg (by decide +kernel)]; exact ⟨rfl, rfl⟩))
    (fun os started H enc _ => fmade_lifted os started H enc)
#print axioms fieldMade_holds
end Go.Proofs.YtiagpcjonaahlaaGreat
