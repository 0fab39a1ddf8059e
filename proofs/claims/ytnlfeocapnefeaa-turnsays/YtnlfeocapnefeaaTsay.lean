/-
  The law TurnSays returns true for all turns, points and boxes, and leaves its arguments as they were.
-/
import Derived.Test.YtnlfeocapnefeaaTurnB
import Derived.Test.YtnlfeocapnefeaaBends
import Derived.Carry
namespace Go.Proofs.Ytnlfeocapnefeaa
open Go.Ev Go.RowKit Go.ChangeShapes Go.WideShapes Go.ChangeAt

theorem order_same (x : Nat) : Ieee.double.order x x = some .eq ∨ Ieee.double.order x x = none := by
  cases h : isNan x
  · exact Or.inl (order_self h)
  · exact Or.inr (order_nan_left h)
theorem flt_self (x : Nat) : flt x x = false := by
  unfold flt; rcases order_same x with h | h <;> rw [h] <;> rfl
theorem fgt_self (x : Nat) : fgt x x = false := by
  unfold fgt; rcases order_same x with h | h <;> rw [h] <;> rfl
theorem less_self (x : Nat) : lessS x x = x := by unfold lessS; rw [flt_self]; rfl
theorem more_self (x : Nat) : moreS x x = x := by unfold moreS; rw [fgt_self]; rfl
theorem box_eq (t b : Nat → Nat) : boxS' t b = boxS t b := by
  unfold boxS' boxS loS' hiS'
  simp only [less_self, more_self]
  rfl
theorem sameT_all (t : Nat → Nat) : sameT t t = true := by
  unfold sameT; rw [sameVS_self, sameVS_self, sameVS_self, sameVS_self]; rfl
theorem sameB_all (t : Nat → Nat) : sameB t t = true := by
  unfold sameB; rw [sameVS_self, sameVS_self]; rfl

theorem box50' (t b : Nat → Nat) : FSpec Try.prog 50 [] [TT t, BX b] (BX (boxS t b)) := by rw [← box_eq]; exact box50 t b

def L13 (P : Program) (f69 f62 f61 : Func) : List Entry := (47, pe (eTT0 fun a b => TT (thenS a b))) :: (50, pe (eTB0 fun t b => BX (boxS t b))) :: (51, pe (eTB0 fun t b => BX (boxS t b))) :: L12 P f69 f62 f61
theorem L13_ok : ∀ e, e ∈ L13 Try.prog Try.f69 Try.f62 Try.f61 → EOk Try.prog e := all_cons (eTT_ok then47) <| all_cons (eTB_ok box50') <| all_cons (eTB_ok box51) L12_ok

theorem tsay_ev (a b x : Nat → Nat) (p q r : Nat) : ev Try.prog (L13 Try.prog Try.f69 Try.f62 Try.f61) Try.f6 [TT a, TT b, V p q r, BX x] = some (B true) := by
  have h : ev Try.prog (L13 Try.prog Try.f69 Try.f62 Try.f61) Try.f6 [TT a, TT b, V p q r, BX x] =
      cond (cond (cond (cond (cond (!(fineT a == fineT a)) true (!sameT (shiftS 0 0 0) (shiftS 0 0 0))) true (!sameT (shiftS p q r) (shiftS p q r))) true
        (!sameVS (dirS a 0 p q r) (dirS a 1 p q r) (dirS a 2 p q r) (dirS a 0 p q r) (dirS a 1 p q r) (dirS a 2 p q r))) true
        (!sameVS (pointS a 0 p q r) (pointS a 1 p q r) (pointS a 2 p q r) (pointS a 0 p q r) (pointS a 1 p q r) (pointS a 2 p q r))) (some (B false))
      (cond (!sameT (thenS a b) (thenS a b)) (some (B false))
      (cond (cond (cond (fineT a) (mayS x == 0) false) (!sameB (boxS a x) (boxS a x)) false) (some (B false))
      (some (B (cond (backE a == backE a) (sameT (backS a) (backS a)) false))))) := by kernel_rfl
  rw [h, sameT_all, sameT_all, sameT_all, sameT_all, sameB_all, sameVS_self, sameVS_self]
  cases fineT a <;> simp
theorem tsay6 (a b x : Nat → Nat) (p q r : Nat) : FSpec Try.prog 6 [] [TT a, TT b, V p q r, BX x] (B true) := sp L13_ok Try.func6 (by kernel_rfl) rfl (tsay_ev a b x p q r)

theorem Try.flat43 : flatKinds Try.prog 6 43 = some [.float .f64 0, .float .f64 0, .float .f64 0, .float .f64 0, .float .f64 0, .float .f64 0, .float .f64 0, .float .f64 0, .float .f64 0, .float .f64 0, .float .f64 0, .float .f64 0] := by kernel_rfl
theorem Try.flat45 : flatKinds Try.prog 6 45 = some [.float .f64 0, .float .f64 0, .float .f64 0, .float .f64 0, .float .f64 0, .float .f64 0] := by kernel_rfl

/-- A turn that comes in: twelve floats; a box: six. -/
theorem turn_arg {H : Type} {enc : TypeId × Value → H} {W : World} {r : Reach} {b0 : Nat} {v : Value} {d : DataW H} {p : List MemPlace} (hv : Value.okWide Try.prog W r b0 43 v) (h : DataW.Trod enc Try.prog W 0 (fun _ => true) true 43 v d p) :
    ∃ m : Nat → Nat, v = TT m := by
  obtain ⟨cs, rfl, hf⟩ := flat_arg Try.underlying43 rfl Try.flat43 hv h
  match cs, hf with
  | [_, _, _, _, _, _, _, _, _, _, _, _], ⟨⟨a0, h0, _⟩, ⟨a1, h1, _⟩, ⟨a2, h2, _⟩, ⟨a3, h3, _⟩, ⟨a4, h4, _⟩, ⟨a5, h5, _⟩, ⟨a6, h6, _⟩, ⟨a7, h7, _⟩, ⟨a8, h8, _⟩, ⟨a9, h9, _⟩, ⟨a10, h10, _⟩, ⟨a11, h11, _⟩, _⟩ =>
    exact ⟨ls [a0, a1, a2, a3, a4, a5, a6, a7, a8, a9, a10, a11], by rw [h0, h1, h2, h3, h4, h5, h6, h7, h8, h9, h10, h11]; rfl⟩
theorem box_arg {H : Type} {enc : TypeId × Value → H} {W : World} {r : Reach} {b0 : Nat} {v : Value} {d : DataW H} {p : List MemPlace} (hv : Value.okWide Try.prog W r b0 45 v) (h : DataW.Trod enc Try.prog W 0 (fun _ => true) true 45 v d p) :
    ∃ m : Nat → Nat, v = BX m := by
  obtain ⟨cs, rfl, hf⟩ := flat_arg Try.underlying45 rfl Try.flat45 hv h
  match cs, hf with
  | [_, _, _, _, _, _], ⟨⟨a0, h0, _⟩, ⟨a1, h1, _⟩, ⟨a2, h2, _⟩, ⟨a3, h3, _⟩, ⟨a4, h4, _⟩, ⟨a5, h5, _⟩, _⟩ =>
    exact ⟨ls [a0, a1, a2, a3, a4, a5], by rw [h0, h1, h2, h3, h4, h5]; rfl⟩
theorem turn_rel (bs : List Nat) (m : Nat → Nat) : vrel bs (TT fun i => cn (m i)) (TT m) :=
  ⟨_, rfl, ⟨_, rfl, rfl⟩, ⟨_, rfl, rfl⟩, ⟨_, rfl, rfl⟩, ⟨_, rfl, rfl⟩, ⟨_, rfl, rfl⟩, ⟨_, rfl, rfl⟩, ⟨_, rfl, rfl⟩, ⟨_, rfl, rfl⟩, ⟨_, rfl, rfl⟩, ⟨_, rfl, rfl⟩, ⟨_, rfl, rfl⟩, ⟨_, rfl, rfl⟩, trivial⟩
theorem box_rel (bs : List Nat) (m : Nat → Nat) : vrel bs (BX fun i => cn (m i)) (BX m) :=
  ⟨_, rfl, ⟨_, rfl, rfl⟩, ⟨_, rfl, rfl⟩, ⟨_, rfl, rfl⟩, ⟨_, rfl, rfl⟩, ⟨_, rfl, rfl⟩, ⟨_, rfl, rfl⟩, trivial⟩

set_option maxRecDepth 100000 in
theorem tsay_lifted (os : Os) (started : os.Started) (H : Type) (enc : TypeId × Value → H) :
    ReturnsInHanded {} Try.checked os 6 .any (Rows.turnSaysSpec.pre6 enc Try.prog Try.f6 Rows.turnSaysRow.domain false) (Rows.turnSaysSpec.post enc Try.prog Try.f6 false true false false) := by
  refine returnsInHanded_of_change (C := Try.checked) Try.own started (by kernel_rfl) Try.func6
    (ChangeSpec.witness6 (enc := enc) (C := Try.checked) false ⟨#[], #[TT (fun _ => 0), TT (fun _ => 0), .agg #[.float .f64 0, .float .f64 0, .float .f64 0], BX (fun _ => 0)], []⟩ 8 (by kernel_rfl) (by kernel_rfl) (by kernel_rfl) (by kernel_rfl)) ?_
  intro W base args ds gs before hval0 hW hcnd _
  have hval : ∀ (j : Nat) t v, Try.f6.params[j]? = some t → args[j]? = some v → Value.okWide Try.prog W .any base t v := hval0
  have hW' := hW
  obtain ⟨p, q, hA0, hV, rfl, hfz, hnd⟩ := hW
  have hA : DataW.TrodAll enc Try.prog W 0 (fun _ => true) true Try.f6.params.toList args.toList ds p := hA0
  rw [Try.params6] at hA hval
  obtain ⟨v0, v1, v2, v3, d0, d1, d2, d3, p0, p1, p2, p3, rfl, rfl, rfl, h0, h1, h2, h3⟩ := trodAll_four hA
  obtain ⟨rfl, rfl⟩ := trodVars_none hV
  obtain ⟨m, rfl⟩ := turn_arg (hval 0 43 v0 rfl rfl) h0
  obtain ⟨n, rfl⟩ := turn_arg (hval 1 43 v1 rfl rfl) h1
  obtain ⟨a, b, c, rfl⟩ := vec_arg (hval 2 24 v2 rfl rfl) h2
  obtain ⟨x, rfl⟩ := box_arg (hval 3 45 v3 rfl rfl) h3
  refine ((tsay6 (fun i => cn (m i)) (fun i => cn (n i)) (fun i => cn (x i)) (cn a) (cn b) (cn c)).2 [] W #[TT m, TT n, .agg #[.float .f64 a, .float .f64 b, .float .f64 c], BX x] ⟨rfl, fun i b cells hb => by simp at hb⟩ ⟨turn_rel _ m, turn_rel _ n, vec_rel _ a b c, box_rel _ x, trivial⟩).mono ?_
  rintro e' W' ⟨v, rfl, hv, hb⟩
  have hvt : v = .bool true := vrel_bool hv
  subst hvt
  exact ⟨_, rfl, law_post Try.laidOut (by kernel_rfl) rfl (by kernel_rfl) Try.underlying4 rfl hW' hb⟩

/-- THE STATEMENT. -/
theorem turnSays_holds : Rows.TurnSaysSaid :=
  OpenClaim.holds_of_wide 6 Try.f6 rfl rfl rfl rfl rfl rfl rfl ⟨rfl, rfl, rfl, rfl, rfl⟩ rfl rfl rfl rfl rfl (by kernel_rfl) Try.func6 (by kernel_rfl)
    (of_decide_eq_true (by kernel_rfl)) (by unfold Func.isWrapper; first | (rw [if_pos (by decide +kernel)]; kernel_rfl) | (rw [if_neg (by decide +kernel)]; exact ⟨rfl, rfl⟩))
    (fun os started H enc _ => tsay_lifted os started H enc)
#print axioms turnSays_holds
end Go.Proofs.Ytnlfeocapnefeaa
