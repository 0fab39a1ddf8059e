/-
  The size of a float: its sign bit taken away, by way of its bits.
-/
import Derived.Test.YtldbbajakgaajaaEv7
namespace Go.Ev
open Go.RowKit

/-- A float without its sign. -/
def fabs (x : Nat) : Nat := cond (isNan x) nanB (x % 9223372036854775808)

theorem isNan_low (x : Nat) : isNan (x % 9223372036854775808) = isNan x := by
  unfold isNan; rw [read_isNaN, read_isNaN, Nat.mod_mod]
theorem cn_low (b : Nat) : cn (b % 9223372036854775808) = fabs (cn b) := by
  unfold fabs
  rw [isNan_cn]
  cases h : isNan b
  · rw [cn_of_not (by rw [isNan_low]; exact h), cn_of_not h]; rfl
  · rw [cn_of_nan (by rw [isNan_low]; exact h)]; rfl

theorem bits_low (b : Nat) : (BitVec.ofInt 64 (b : Int) &&& ~~~BitVec.ofInt 64 9223372036854775808).toNat = b % 9223372036854775808 := by
  have e1 : (~~~BitVec.ofInt 64 9223372036854775808) = BitVec.ofNat 64 9223372036854775807 := by decide
  rw [e1, BitVec.ofInt_natCast, BitVec.toNat_and, BitVec.toNat_ofNat, BitVec.toNat_ofNat]
  rw [show (9223372036854775807 % 2 ^ 64 : Nat) = 2 ^ 63 - 1 by decide, Nat.and_two_pow_sub_one_eq_mod]
  rw [show (9223372036854775808 : Nat) = 2 ^ 63 by decide]
  exact Nat.mod_mod_of_dvd _ (Nat.pow_dvd_pow 2 (by omega))

theorem wrap_low (m : Nat) (h : m < 9223372036854775808) : IntKind.u64.wrap (m : Int) = (m : Int) := by
  unfold IntKind.wrap
  simp only [IntKind.bits, IntKind.signed, Bool.false_and, Bool.false_eq_true, if_false]
  have : (2 : Int) ^ 64 = 18446744073709551616 := by decide
  omega
theorem run_andNot (P : Program) (w : World) (t : TypeId) (b : Nat) : (binOp .andNot t (.int .u64 b) (.int .u64 9223372036854775808)).run P w = .ok (.int .u64 ((b % 9223372036854775808 : Nat) : Int)) w := by
  have h := bits_low b
  have hw := wrap_low (b % 9223372036854775808) (Nat.mod_lt _ (by decide))
  have e : (binOp .andNot t (.int .u64 b) (.int .u64 9223372036854775808)).run P w = .ok (.int .u64 (IntKind.u64.wrap ((BitVec.ofInt 64 (b : Int) &&& ~~~BitVec.ofInt 64 9223372036854775808).toNat : Int))) w := rfl
  rw [e, h, hw]

theorem wpl_value {P : Program} {ops : Array Oper} {Q : Exit → Act → World → Prop} {o : Oper} {rest : List Oper} {a : Act} {w : World} {v : Value} (hg : o.guard = none) (hrun : (execOp a.eval o).run P w = .ok (.value v) w)
    (h : wpList P ops Q rest (a.put o.dst v) w) : wpList P ops Q (o :: rest) a w :=
  wpList_step fun K hK => by
    rw [if_pos (by unfold Region.wanted; rw [hg])]
    unfold Oper.wp
    rw [hrun, Oper.upon_value]
    exact hK _ _ h

/-- The text of it, whatever the calls give. -/
theorem abs_chain {P : Program} {w : World} {R : Exit → Act → World → Prop} {fb ff : Nat} {t t' : TypeId} {ts us : Array TypeId} {i0 i1 : Nat} {o0 o1 o2 o3 o4 o5 : Oper} {k v0 x y z u : Value}
    (h0 : o0.op = .assign (.const v0)) (h1 : o1.op = .move (.tmp 0)) (h2 : o2.op = .call ⟨.value (.func fb), #[.tmp 3], ts⟩) (h3 : o3.op = .binOp .andNot t (.tmp 4) (.const k) t')
    (h4 : o4.op = .call ⟨.value (.func ff), #[.tmp 5], us⟩) (h5 : o5.op = .assign (.tmp 6)) (d0 : o0.dst = some 2) (d1 : o1.dst = some 3) (d2 : o2.dst = some 4) (d3 : o3.dst = some 5) (d4 : o4.dst = some 6) (d5 : o5.dst = some 2)
    (g0 : o0.guard = none) (g1 : o1.guard = none) (g2 : o2.guard = none) (g3 : o3.guard = none) (g4 : o4.guard = none) (g5 : o5.guard = none)
    (c2 : (callFunc fb #[x]).run P w = .ok (.value y) w) (c3 : (binOp .andNot t y k).run P w = .ok z w) (c4 : (callFunc ff #[z]).run P w = .ok (.value u) w)
    (hR : R .ret { tmps := #[x, undef, u, x, y, z, u], defers := [] } w) : (Code.seq (.region i0 #[o0] false) (.seq (.region i1 #[o1, o2, o3, o4, o5] false) .ret)).wp P R { tmps := #[x, undef, undef, undef, undef, undef, undef], defers := [] } w := by
  refine wp_seq (wp_region_list ?_)
  refine wpl_value (v := v0) g0 (by simp only [execOp, h0]; rfl) ?_
  refine wpList_nil ?_
  refine wp_seq (wp_region_list ?_)
  rw [d0]
  refine wpl_value (v := x) g1 (by simp only [execOp, h1]; rfl) ?_
  rw [d1]
  refine wpl_value (v := y) g2 (by simp only [execOp, h2, resolve, Act.eval, Deferred.ofValue, Sem.run_bind, Sem.run_pure, Result.andThen_ok, invoke, Array.append_empty, Array.empty_append, List.map_toArray, List.map_cons, List.map_nil]; exact c2) ?_
  rw [d2]
  refine wpl_value (v := z) g3 ?_ ?_
  · simp only [execOp, h3, Sem.run_bind]
    show (((eqGuard .andNot t (.tmp 4) (.const k) y k).run P w).andThen fun _ w' => ((binOp .andNot t y k).run P w')).andThen _ = _
    have hg : (eqGuard .andNot t (.tmp 4) (.const k) y k).run P w = .ok () w := rfl
    rw [hg, Result.andThen_ok, c3]
    rfl
  rw [d3]
  refine wpl_value (v := u) g4 (by simp only [execOp, h4, resolve, Act.eval, Deferred.ofValue, Sem.run_bind, Sem.run_pure, Result.andThen_ok, invoke, Array.append_empty, Array.empty_append, List.map_toArray, List.map_cons, List.map_nil]; exact c4) ?_
  rw [d4]
  refine wpl_value (v := u) g5 (by simp only [execOp, h5]; rfl) ?_
  rw [d5]
  refine wpList_nil ?_
  exact wp_ret hR

theorem abs_spec [Tok] {P : Program} {f : Nat} {fn : Func} (hf : P.funcs[f]? = some fn) (hnm : (fn.name == "runtime.NumGoroutine") = false) {fb ff t : Nat} {fnb fnf : Func}
    (hfb : P.funcs[fb]? = some fnb) (hnb : (fnb.name == "runtime.NumGoroutine") = false) (hbb : fnb.body.isNone = true) (hxb : Extern.findNext fnb = none) (heb : Extern.find fnb = some Extern.MathFloatBits.float64bits)
    (hff : P.funcs[ff]? = some fnf) (hnf : (fnf.name == "runtime.NumGoroutine") = false) (hbf : fnf.body.isNone = true) (hxf : Extern.findNext fnf = none) (hef : Extern.find fnf = some Extern.MathFloatBits.float64frombits)
    (hres : fn.results = #[.tmp 2]) (hnt : fn.ntmps = 7) {i0 i1 : Nat} {o0 o1 o2 o3 o4 o5 : Oper} (hb : fn.body = some (.seq (.region i0 #[o0] false) (.seq (.region i1 #[o1, o2, o3, o4, o5] false) .ret)))
    {v0 : Value} {ts us : Array TypeId} {t' : TypeId} (h0 : o0.op = .assign (.const v0)) (h1 : o1.op = .move (.tmp 0)) (h2 : o2.op = .call ⟨.value (.func fb), #[.tmp 3], ts⟩) (h3 : o3.op = .binOp .andNot t (.tmp 4) (.const (.int .u64 9223372036854775808)) t')
    (h4 : o4.op = .call ⟨.value (.func ff), #[.tmp 5], us⟩) (h5 : o5.op = .assign (.tmp 6)) (d0 : o0.dst = some 2) (d1 : o1.dst = some 3) (d2 : o2.dst = some 4) (d3 : o3.dst = some 5) (d4 : o4.dst = some 6) (d5 : o5.dst = some 2)
    (g0 : o0.guard = none) (g1 : o1.guard = none) (g2 : o2.guard = none) (g3 : o3.guard = none) (g4 : o4.guard = none) (g5 : o5.guard = none) (a : Nat) : FSpec P f [] [F a] (F (fabs a)) := by
  refine ⟨⟨fn, hf, hnm, by rw [hb]; rfl⟩, fun bs w cargs _ hv => ?_⟩
  obtain ⟨l⟩ := cargs
  match l, hv with
  | [], hv => exact hv.elim
  | _ :: _ :: _, hv => exact hv.2.elim
  | [v], hv =>
    obtain ⟨b, rfl, rfl⟩ := vrel_float hv.1
    refine calls_of_wp hf hb ?_
    rw [hnt]
    have hcb : ∀ (x : Nat) (w : World), (callFunc fb #[.float .f64 x]).run P w = .ok (.value (.int .u64 x)) w := fun x w => by
      rw [run_callFunc_extern hfb hnb hbb hxb heb]; rfl
    have hcf : ∀ (x : Int) (w : World), (callFunc ff #[.int .u64 x]).run P w = .ok (.value (.float .f64 x.toNat)) w := fun x w => by
      rw [run_callFunc_extern hff hnf hbf hxf hef]; rfl
    refine abs_chain h0 h1 h2 h3 h4 h5 d0 d1 d2 d3 d4 d5 g0 g1 g2 g3 g4 g5 (hcb b w) (run_andNot P w t b) (hcf _ w) ?_
    have hm := cn_low b
    revert hm
    rw [Int.toNat_natCast]
    generalize b % 9223372036854775808 = m
    intro hm
    refine ⟨rfl, .float .f64 m, ?_, _, rfl, ⟨_, rfl, hm⟩, Below.refl _ _⟩
    rw [results_eq, hres]
    simp [resOf]

end Go.Ev
