/-
  Hv0 Hv1 Hv2 Hv3 Hv4 Hv5 Hv6 Hv7 Hv8 Hv9 Hva Hr1 Fl Hf0 Hr2 Hr3 Hr4 Fl2 Fl4 Fl5 Fl3 Fl6 Fl7 Fl8 Hr5 Hm1 Hs1 Hw1 So1 So2 So3 So4 So5 So6 So7, one behind the other.
-/
import Derived.Test.YtancjnambbkhmaaGreatC16
import Derived.Test.YtancjnambbkhmaaGreatC17
import Derived.Test.YtancjnambbkhmaaGreatC2
namespace Go.Ev
open Go.RowKit

/-- A float without its sign. -/
def fabs (x : Nat) : Nat := cond (isNan x) nanB (x % 9223372036854775808)
theorem isNan_low (x : Nat) : isNan (x % 9223372036854775808) = isNan x := by
  unfold isNan; rw [read_isNaN, read_isNaN, Nat.mod_mod]
theorem cn_low (b : Nat) : cn (b % 9223372036854775808) = fabs (cn b) := by
  unfold fabs
  rw [isNan_cn]
  cases h : isNan b
  · rw [cn_of_not (by rw [isNan_low]; exact h), cn_of_not h]; rfl
  · rw [cn_of_nan (by rw [isNan_low]; exact h)]; rfl
theorem bits_low (b : Nat) : (BitVec.ofInt 64 (b : Int) &&& ~~~BitVec.ofInt 64 9223372036854775808).toNat = b % 9223372036854775808 := by
  have e1 : (~~~BitVec.ofInt 64 9223372036854775808) = BitVec.ofNat 64 9223372036854775807 := by decide
  rw [e1, BitVec.ofInt_natCast, BitVec.toNat_and, BitVec.toNat_ofNat, BitVec.toNat_ofNat]
  rw [show (9223372036854775807 % 2 ^ 64 : Nat) = 2 ^ 63 - 1 by decide, Nat.and_two_pow_sub_one_eq_mod]
  rw [show (9223372036854775808 : Nat) = 2 ^ 63 by decide]
  exact Nat.mod_mod_of_dvd _ (Nat.pow_dvd_pow 2 (by omega))
theorem wrap_low (m : Nat) (h : m < 9223372036854775808) : IntKind.u64.wrap (m : Int) = (m : Int) := by
  unfold IntKind.wrap
  simp only [IntKind.bits, IntKind.signed, Bool.false_and, Bool.false_eq_true, if_false]
  have : (2 : Int) ^ 64 = 18446744073709551616 := by decide
  omega
theorem run_andNot (P : Program) (w : World) (t : TypeId) (b : Nat) : (binOp .andNot t (.int .u64 b) (.int .u64 9223372036854775808)).run P w = .ok (.int .u64 ((b % 9223372036854775808 : Nat) : Int)) w := by
  have h := bits_low b
  have hw := wrap_low (b % 9223372036854775808) (Nat.mod_lt _ (by decide))
  have e : (binOp .andNot t (.int .u64 b) (.int .u64 9223372036854775808)).run P w = .ok (.int .u64 (IntKind.u64.wrap ((BitVec.ofInt 64 (b : Int) &&& ~~~BitVec.ofInt 64 9223372036854775808).toNat : Int))) w := rfl
  rw [e, h, hw]
end Go.Ev
namespace Go.Gv
open Go.RowKit Go.Ev
theorem wplA_value {P : Program} {ops : Array Oper} {Q : Exit → Act → World → Prop} {o : Oper} {rest : List Oper} {a : Act} {w : World} {v : Value} (hg : o.guard = none) (hrun : (execOp a.eval o).run P w = .ok (.value v) w)
    (h : wpList P ops Q rest (a.put o.dst v) w) : wpList P ops Q (o :: rest) a w :=
  wpList_step fun K hK => by
    rw [if_pos (by unfold Region.wanted; rw [hg])]
    unfold Oper.wp
    rw [hrun, Oper.upon_value]
    exact hK _ _ h
/-- The text of it, whatever the calls give. -/
theorem absA_chain {P : Program} {w : World} {R : Exit → Act → World → Prop} {fb ff : Nat} {t t' : TypeId} {ts us : Array TypeId} {i0 i1 : Nat} {o0 o1 o2 o3 o4 o5 : Oper} {k v0 x y z u : Value}
    (h0 : o0.op = .assign (.const v0)) (h1 : o1.op = .move (.tmp 0)) (h2 : o2.op = .call ⟨.value (.func fb), #[.tmp 3], ts⟩) (h3 : o3.op = .binOp .andNot t (.tmp 4) (.const k) t')
    (h4 : o4.op = .call ⟨.value (.func ff), #[.tmp 5], us⟩) (h5 : o5.op = .assign (.tmp 6)) (d0 : o0.dst = some 2) (d1 : o1.dst = some 3) (d2 : o2.dst = some 4) (d3 : o3.dst = some 5) (d4 : o4.dst = some 6) (d5 : o5.dst = some 2)
    (g0 : o0.guard = none) (g1 : o1.guard = none) (g2 : o2.guard = none) (g3 : o3.guard = none) (g4 : o4.guard = none) (g5 : o5.guard = none)
    (c2 : (callFunc fb #[x]).run P w = .ok (.value y) w) (c3 : (binOp .andNot t y k).run P w = .ok z w) (c4 : (callFunc ff #[z]).run P w = .ok (.value u) w)
    (hR : R .ret { tmps := #[x, undef, u, x, y, z, u], defers := [] } w) : (Code.seq (.region i0 #[o0] false) (.seq (.region i1 #[o1, o2, o3, o4, o5] false) .ret)).wp P R { tmps := #[x, undef, undef, undef, undef, undef, undef], defers := [] } w := by
  refine wp_seq (wp_region_list ?_)
  refine wplA_value (v := v0) g0 (by simp only [execOp, h0]; rfl) ?_
  refine wpList_nil ?_
  refine wp_seq (wp_region_list ?_)
  rw [d0]
  refine wplA_value (v := x) g1 (by simp only [execOp, h1]; rfl) ?_
  rw [d1]
  refine wplA_value (v := y) g2 (by simp only [execOp, h2, resolve, Act.eval, Deferred.ofValue, Sem.run_bind, Sem.run_pure, Result.andThen_ok, invoke, Array.append_empty, Array.empty_append, List.map_toArray, List.map_cons, List.map_nil]; exact c2) ?_
  rw [d2]
  refine wplA_value (v := z) g3 ?_ ?_
  · simp only [execOp, h3, Sem.run_bind]
    show (((eqGuard .andNot t (.tmp 4) (.const k) y k).run P w).andThen fun _ w' => ((binOp .andNot t y k).run P w')).andThen _ = _
    have hg : (eqGuard .andNot t (.tmp 4) (.const k) y k).run P w = .ok () w := rfl
    rw [hg, Result.andThen_ok, c3]
    rfl
  rw [d3]
  refine wplA_value (v := u) g4 (by simp only [execOp, h4, resolve, Act.eval, Deferred.ofValue, Sem.run_bind, Sem.run_pure, Result.andThen_ok, invoke, Array.append_empty, Array.empty_append, List.map_toArray, List.map_cons, List.map_nil]; exact c4) ?_
  rw [d4]
  refine wplA_value (v := u) g5 (by simp only [execOp, h5]; rfl) ?_
  rw [d5]
  refine wpList_nil ?_
  exact wp_ret hR
theorem absA_spec {P : Program} {f : Nat} {fn : Func} (hf : P.funcs[f]? = some fn) (hnm : (fn.name == "runtime.NumGoroutine") = false) {fb ff t : Nat} {fnb fnf : Func}
    (hfb : P.funcs[fb]? = some fnb) (hnb : (fnb.name == "runtime.NumGoroutine") = false) (hbb : fnb.body.isNone = true) (hxb : Extern.findNext fnb = none) (heb : Extern.find fnb = some Extern.MathFloatBits.float64bits)
    (hff : P.funcs[ff]? = some fnf) (hnf : (fnf.name == "runtime.NumGoroutine") = false) (hbf : fnf.body.isNone = true) (hxf : Extern.findNext fnf = none) (hef : Extern.find fnf = some Extern.MathFloatBits.float64frombits)
    (hres : fn.results = #[.tmp 2]) (hnt : fn.ntmps = 7) {i0 i1 : Nat} {o0 o1 o2 o3 o4 o5 : Oper} (hb : fn.body = some (.seq (.region i0 #[o0] false) (.seq (.region i1 #[o1, o2, o3, o4, o5] false) .ret)))
    {v0 : Value} {ts us : Array TypeId} {t' : TypeId} (h0 : o0.op = .assign (.const v0)) (h1 : o1.op = .move (.tmp 0)) (h2 : o2.op = .call ⟨.value (.func fb), #[.tmp 3], ts⟩) (h3 : o3.op = .binOp .andNot t (.tmp 4) (.const (.int .u64 9223372036854775808)) t')
    (h4 : o4.op = .call ⟨.value (.func ff), #[.tmp 5], us⟩) (h5 : o5.op = .assign (.tmp 6)) (d0 : o0.dst = some 2) (d1 : o1.dst = some 3) (d2 : o2.dst = some 4) (d3 : o3.dst = some 5) (d4 : o4.dst = some 6) (d5 : o5.dst = some 2)
    (g0 : o0.guard = none) (g1 : o1.guard = none) (g2 : o2.guard = none) (g3 : o3.guard = none) (g4 : o4.guard = none) (g5 : o5.guard = none) (a : Nat) : FSpec P f [.f a] (.f (fabs a)) := by
  refine ⟨⟨fn, hf, hnm, by rw [hb]; rfl⟩, fun A w cargs _ hv _ => ?_⟩
  obtain ⟨l⟩ := cargs
  obtain ⟨v, tl, e1, hv1, hv2⟩ := rels_cons.1 hv
  have e2 := rels_nil.1 hv2
  obtain ⟨b, rfl, rfl⟩ := rel_f.1 hv1
  have e3 : l = [.float .f64 b] := by rw [e2] at e1; exact e1
  subst e3
  refine calls_of_wp hf hb ?_
  rw [hnt]
  have hcb : ∀ (x : Nat) (w : World), (callFunc fb #[.float .f64 x]).run P w = .ok (.value (.int .u64 x)) w := fun x w => by
    rw [run_callFunc_extern hfb hnb hbb hxb heb]; rfl
  have hcf : ∀ (x : Int) (w : World), (callFunc ff #[.int .u64 x]).run P w = .ok (.value (.float .f64 x.toNat)) w := fun x w => by
    rw [run_callFunc_extern hff hnf hbf hxf hef]; rfl
  refine absA_chain h0 h1 h2 h3 h4 h5 d0 d1 d2 d3 d4 d5 g0 g1 g2 g3 g4 g5 (hcb b w) (run_andNot P w t b) (hcf _ w) ?_
  have hm := cn_low b
  revert hm
  rw [Int.toNat_natCast]
  generalize b % 9223372036854775808 = m
  intro hm
  refine ⟨rfl, .float .f64 m, ?_, _, rfl, rel_f.2 ⟨m, rfl, hm⟩, Below.refl _ _⟩
  rw [results_eq, hres]
  simp [resOf]
end Go.Gv
namespace Go.Proofs.YtancjnambbkhmaaGreat.Hs
open Go.Gv
open Go.Ev (cn fadd fsub fmul fdiv fsqrt fneg feq flt fle fgt fge fabs)

abbrev V (a b c : Nat) : AV := .agg [.f a, .f b, .f c]
def one : Nat := 4607182418800017408
def nearS (x : Nat) : Bool := cond (fge x 13920209183539462144) (fle x 4696837146684686336) false
def fineS (a b c : Nat) : Bool := cond (cond (nearS a) (nearS b) false) (nearS c) false
def sameS (a b : Nat) : Bool := cond (cond (!feq a a) true (!feq b b)) (cond (!feq a a) (!feq b b) false) (cond (feq a b) (cond (!feq a 0) true (feq (fdiv one a) (fdiv one b))) false)
def sameVS (a b c d e f : Nat) : Bool := cond (cond (sameS a d) (sameS b e) false) (sameS c f) false
def dotS (a b c d e f : Nat) : Nat := fadd (fadd (fmul a d) (fmul b e)) (fmul c f)
def cleanS (x : Nat) : Nat := cond (cond (fgt x 13740701229962882445) (flt x 4517329193108106637) false) 0 x
def crX (b c e f : Nat) : Nat := fsub (fmul b f) (fmul c e)
def lengthS (a b c : Nat) : Nat := fsqrt (dotS a b c a b c)
def lessS (a b : Nat) : Nat := cond (flt b a) b a
def moreS (a b : Nat) : Nat := cond (fgt b a) b a
def eF (g : Nat → AV) : List AV → Option AV
  | [.f a] => some (g a)
  | _ => none
def eFF (g : Nat → Nat → AV) : List AV → Option AV
  | [.f a, .f b] => some (g a b)
  | _ => none
def eFFF (g : Nat → Nat → Nat → AV) : List AV → Option AV
  | [.f a, .f b, .f c] => some (g a b c)
  | _ => none
def eV (g : Nat → Nat → Nat → AV) : List AV → Option AV
  | [.agg [.f a, .f b, .f c]] => some (g a b c)
  | _ => none
def eVV (g : Nat → Nat → Nat → Nat → Nat → Nat → AV) : List AV → Option AV
  | [.agg [.f a, .f b, .f c], .agg [.f d, .f e, .f f]] => some (g a b c d e f)
  | _ => none
def eVF (g : Nat → Nat → Nat → Nat → AV) : List AV → Option AV
  | [.agg [.f a, .f b, .f c], .f d] => some (g a b c d)
  | _ => none
def eVVF (g : Nat → Nat → Nat → Nat → Nat → Nat → Nat → AV) : List AV → Option AV
  | [.agg [.f a, .f b, .f c], .agg [.f d, .f e, .f f], .f x] => some (g a b c d e f x)
  | _ => none
theorem eF_ok {f : Nat} {g : Nat → AV} (h : ∀ a, FSpec Tryz.prog f [.f a] (g a)) : EOk Tryz.prog ⟨f, eF g⟩ := fun args r hr => by
  simp only [eF] at hr
  split at hr
  · cases hr; exact Or.inl (h _)
  · cases hr
theorem eFF_ok {f : Nat} {g : Nat → Nat → AV} (h : ∀ a b, FSpec Tryz.prog f [.f a, .f b] (g a b)) : EOk Tryz.prog ⟨f, eFF g⟩ := fun args r hr => by
  simp only [eFF] at hr
  split at hr
  · cases hr; exact Or.inl (h _ _)
  · cases hr
theorem eFFF_ok {f : Nat} {g : Nat → Nat → Nat → AV} (h : ∀ a b c, FSpec Tryz.prog f [.f a, .f b, .f c] (g a b c)) : EOk Tryz.prog ⟨f, eFFF g⟩ := fun args r hr => by
  simp only [eFFF] at hr
  split at hr
  · cases hr; exact Or.inl (h _ _ _)
  · cases hr
theorem eV_ok {f : Nat} {g : Nat → Nat → Nat → AV} (h : ∀ a b c, FSpec Tryz.prog f [V a b c] (g a b c)) : EOk Tryz.prog ⟨f, eV g⟩ := fun args r hr => by
  simp only [eV] at hr
  split at hr
  · cases hr; exact Or.inl (h _ _ _)
  · cases hr
theorem eVV_ok {f : Nat} {g : Nat → Nat → Nat → Nat → Nat → Nat → AV} (h : ∀ a b c d e f', FSpec Tryz.prog f [V a b c, V d e f'] (g a b c d e f')) : EOk Tryz.prog ⟨f, eVV g⟩ := fun args r hr => by
  simp only [eVV] at hr
  split at hr
  · cases hr; exact Or.inl (h _ _ _ _ _ _)
  · cases hr
theorem eVF_ok {f : Nat} {g : Nat → Nat → Nat → Nat → AV} (h : ∀ a b c d, FSpec Tryz.prog f [V a b c, .f d] (g a b c d)) : EOk Tryz.prog ⟨f, eVF g⟩ := fun args r hr => by
  simp only [eVF] at hr
  split at hr
  · cases hr; exact Or.inl (h _ _ _ _)
  · cases hr
theorem eVVF_ok {f : Nat} {g : Nat → Nat → Nat → Nat → Nat → Nat → Nat → AV} (h : ∀ a b c d e f' x, FSpec Tryz.prog f [V a b c, V d e f', .f x] (g a b c d e f' x)) : EOk Tryz.prog ⟨f, eVVF g⟩ := fun args r hr => by
  simp only [eVVF] at hr
  split at hr
  · cases hr; exact Or.inl (h _ _ _ _ _ _ _)
  · cases hr
/-- Six floats, seven floats, as a function of their number. -/
def ls (l : List Nat) : Nat → Nat := fun i => l.getD i 0
abbrev BX (m : Nat → Nat) : AV := .agg [.f (m 0), .f (m 1), .f (m 2), .f (m 3), .f (m 4), .f (m 5)]
abbrev RY (m : Nat → Nat) : AV := .agg [.f (m 0), .f (m 1), .f (m 2), .f (m 3), .f (m 4), .f (m 5), .f (m 6)]
def eB (g : (Nat → Nat) → AV) : List AV → Option AV
  | [.agg [.f a, .f b, .f c, .f d, .f e, .f f]] => some (g (ls [a, b, c, d, e, f]))
  | _ => none
def eY (g : (Nat → Nat) → AV) : List AV → Option AV
  | [.agg [.f a, .f b, .f c, .f d, .f e, .f f, .f x]] => some (g (ls [a, b, c, d, e, f, x]))
  | _ => none
def eBB (g : (Nat → Nat) → (Nat → Nat) → AV) : List AV → Option AV
  | [.agg [.f a, .f b, .f c, .f d, .f e, .f f], .agg [.f a', .f b', .f c', .f d', .f e', .f f']] => some (g (ls [a, b, c, d, e, f]) (ls [a', b', c', d', e', f']))
  | _ => none
def eBY (g : (Nat → Nat) → (Nat → Nat) → AV) : List AV → Option AV
  | [.agg [.f a, .f b, .f c, .f d, .f e, .f f], .agg [.f a', .f b', .f c', .f d', .f e', .f f', .f x]] => some (g (ls [a, b, c, d, e, f]) (ls [a', b', c', d', e', f', x]))
  | _ => none
theorem eB_ok {f : Nat} {g : (Nat → Nat) → AV} (h : ∀ a, FSpec Tryz.prog f [BX a] (g a)) : EOk Tryz.prog ⟨f, eB g⟩ := fun args r hr => by
  simp only [eB] at hr
  split at hr
  · cases hr; exact Or.inl (h (ls [_, _, _, _, _, _]))
  · cases hr
theorem eY_ok {f : Nat} {g : (Nat → Nat) → AV} (h : ∀ a, FSpec Tryz.prog f [RY a] (g a)) : EOk Tryz.prog ⟨f, eY g⟩ := fun args r hr => by
  simp only [eY] at hr
  split at hr
  · cases hr; exact Or.inl (h (ls [_, _, _, _, _, _, _]))
  · cases hr
theorem eBB_ok {f : Nat} {g : (Nat → Nat) → (Nat → Nat) → AV} (h : ∀ a b, FSpec Tryz.prog f [BX a, BX b] (g a b)) : EOk Tryz.prog ⟨f, eBB g⟩ := fun args r hr => by
  simp only [eBB] at hr
  split at hr
  · cases hr; exact Or.inl (h (ls [_, _, _, _, _, _]) (ls [_, _, _, _, _, _]))
  · cases hr
theorem eBY_ok {f : Nat} {g : (Nat → Nat) → (Nat → Nat) → AV} (h : ∀ a b, FSpec Tryz.prog f [BX a, RY b] (g a b)) : EOk Tryz.prog ⟨f, eBY g⟩ := fun args r hr => by
  simp only [eBY] at hr
  split at hr
  · cases hr; exact Or.inl (h (ls [_, _, _, _, _, _]) (ls [_, _, _, _, _, _, _]))
  · cases hr
theorem sp {l : List Entry} (hl : ∀ e, e ∈ l → EOk Tryz.prog e) {f : Nat} {fn : Func} (hf : Tryz.prog.funcs[f]? = some fn) (hnm : (fn.name == "runtime.NumGoroutine") = false) (hb : fn.body = some (bodyOf fn)) {args : List AV} (hlen : Nat.ble args.length fn.ntmps = true) {r : AV}
    (h : ev Tryz.prog l [] noL fn args ret = some (Out.of r)) : FSpec Tryz.prog f args r := gspec hl k_nil hf hnm hb noL_ok hlen h
theorem cond_o (b : Bool) (x y : AV) : cond b (some (Out.of x)) (some (Out.of y)) = some (Out.of (cond b x y)) := by cases b <;> rfl
theorem cond_b (b : Bool) (x y : Bool) : cond b (bA x) (bA y) = bA (cond b x y) := by cases b <;> rfl
theorem cond_f (b : Bool) (x y : Nat) : cond b (AV.f x) (.f y) = .f (cond b x y) := by cases b <;> rfl
end Go.Proofs.YtancjnambbkhmaaGreat.Hs

namespace Go.Ev
open Go.RowKit
theorem run_sqrt (P : Program) (w : World) (b : Nat) : ∃ r w', (Extern.MathSqrt.sqrt #[.float .f64 b]).run P w = .ok (.float .f64 r) w' ∧ (w' = w ∨ w' = w.drew) ∧ cn r = fsqrt (cn b) := by
  have e : Extern.MathSqrt.sqrt #[.float .f64 b] = (match FloatKind.f64.format.sqrt b with
    | some r => (pure (.float .f64 r) : Sem Value)
    | none => do pure (.float .f64 (← choose (.nanBits .f64 b b)))) := rfl
  rw [e]
  unfold fsqrt
  rw [sqrt_cn]
  cases h : Ieee.double.sqrt b with
  | some r =>
    refine ⟨r, w, ?_, Or.inl rfl, ?_⟩
    · have h' : FloatKind.f64.format.sqrt b = some r := h
      simp [h']
    · rw [cn_of_not (isNan_sqrt h)]; rfl
  | none =>
    refine ⟨(Question.nanBits .f64 b b).cut (w.tape w.drawn (.nanBits .f64 b b)), w.drew, ?_, Or.inr rfl, ?_⟩
    · have h' : FloatKind.f64.format.sqrt b = none := h
      simp [h', Question.forced]
    · rw [cn_of_nan (isNan_cut _ _ _)]; rfl
end Go.Ev
namespace Go.Proofs.YtancjnambbkhmaaGreat
open Go.Gv
open Go.Ev (cn fadd fsub fmul fdiv fsqrt fneg feq flt fle fgt fge fabs)
theorem sqrtX {f : Nat} {fn : Func} (hf : Tryz.prog.funcs[f]? = some fn) (hname : (fn.name == "runtime.NumGoroutine") = false) (hb : fn.body.isNone = true) (hn : Extern.findNext fn = none)
    (he : Extern.find fn = some Extern.MathSqrt.sqrt) (a : Nat) : XSpec Tryz.prog f [.f a] (.f (fsqrt a)) := fun E cargs hv => by
  obtain ⟨l⟩ := cargs
  obtain ⟨v, t, e1, h1, h2⟩ := rels_cons.1 hv
  have e2 := rels_nil.1 h2
  obtain ⟨b, rfl, rfl⟩ := rel_f.1 h1
  have e3 : l = [.float .f64 b] := by rw [e2] at e1; exact e1
  subst e3
  obtain ⟨r, w', g1, g2, g3⟩ := Go.Ev.run_sqrt Tryz.prog E.w b
  refine ⟨.float .f64 r, w', ?_, g2, rel_f.2 ⟨r, rfl, g3⟩⟩
  rw [run_callFunc_extern hf hname hb hn he, g1]
  rfl
end Go.Proofs.YtancjnambbkhmaaGreat
namespace Go.Proofs.YtancjnambbkhmaaGreat.Hs
open Go.Gv
open Go.Ev (cn fadd fsub fmul fdiv fsqrt fneg feq flt fle fgt fge fabs)

theorem eSq0_ok : EOk Tryz.prog ⟨120, eF fun x => .f (fsqrt x)⟩ := fun args r hr => by
  simp only [eF] at hr
  split at hr
  · cases hr; exact Or.inr (sqrtX Tryz.func120 (by kernel_rfl) rfl (by kernel_rfl) (by kernel_rfl) _)
  · cases hr
def Sq0 : List Entry := [⟨120, eF fun x => .f (fsqrt x)⟩]
theorem msqrt (x : Nat) : FSpec Tryz.prog 97 [.f x] (.f (fsqrt x)) := sp (l := Sq0) (e_cons eSq0_ok e_nil) Tryz.func97 (by kernel_rfl) (by kernel_rfl) rfl (by kernel_rfl)
theorem mabs (a : Nat) : FSpec Tryz.prog 99 [.f a] (.f (fabs a)) :=
  absA_spec Tryz.func99 (by kernel_rfl) Tryz.func122 (by kernel_rfl) (by kernel_rfl) (by kernel_rfl) (by kernel_rfl) Tryz.func121 (by kernel_rfl) (by kernel_rfl) (by kernel_rfl) (by kernel_rfl) rfl rfl rfl rfl rfl rfl rfl rfl rfl rfl rfl rfl rfl rfl rfl rfl rfl rfl rfl rfl rfl a
theorem vnear (x : Nat) : FSpec Tryz.prog 81 [.f x] (bA (nearS x)) := sp e_nil Tryz.func81 (by kernel_rfl) (by kernel_rfl) rfl (by kernel_rfl)
theorem vadd (a b c d e f : Nat) : FSpec Tryz.prog 202 [V a b c, V d e f] (V (fadd a d) (fadd b e) (fadd c f)) := sp e_nil Tryz.func202 (by kernel_rfl) (by kernel_rfl) rfl (by kernel_rfl)
theorem vsub (a b c d e f : Nat) : FSpec Tryz.prog 201 [V a b c, V d e f] (V (fsub a d) (fsub b e) (fsub c f)) := sp e_nil Tryz.func201 (by kernel_rfl) (by kernel_rfl) rfl (by kernel_rfl)
theorem vscale (a b c k : Nat) : FSpec Tryz.prog 78 [V a b c, .f k] (V (fmul a k) (fmul b k) (fmul c k)) := sp e_nil Tryz.func78 (by kernel_rfl) (by kernel_rfl) rfl (by kernel_rfl)
theorem vover (a b c k : Nat) : FSpec Tryz.prog 52 [V a b c, .f k] (V (fdiv a k) (fdiv b k) (fdiv c k)) := sp e_nil Tryz.func52 (by kernel_rfl) (by kernel_rfl) rfl (by kernel_rfl)
theorem vdot (a b c d e f : Nat) : FSpec Tryz.prog 98 [V a b c, V d e f] (.f (dotS a b c d e f)) := sp e_nil Tryz.func98 (by kernel_rfl) (by kernel_rfl) rfl (by kernel_rfl)
theorem vcross (a b c d e f : Nat) : FSpec Tryz.prog 215 [V a b c, V d e f] (V (crX b c e f) (crX c a f d) (crX a b d e)) := sp e_nil Tryz.func215 (by kernel_rfl) (by kernel_rfl) rfl (by kernel_rfl)
theorem vcleanN (x : Nat) : FSpec Tryz.prog 136 [.f x] (.f (cleanS x)) := by
  refine sp e_nil Tryz.func136 (by kernel_rfl) (by kernel_rfl) rfl ?_
  have h : ev Tryz.prog [] [] noL Tryz.f136 [.f x] ret = cond (cond (fgt x 13740701229962882445) (flt x 4517329193108106637) false) (some (Out.of (.f 0))) (some (Out.of (.f x))) := by kernel_rfl
  rw [h, cond_o, cond_f]
  rfl
def V1 : List Entry := [⟨97, eF fun x => .f (fsqrt x)⟩, ⟨99, eF fun x => .f (fabs x)⟩, ⟨81, eF fun x => bA (nearS x)⟩, ⟨202, eVV fun a b c d e f => V (fadd a d) (fadd b e) (fadd c f)⟩, ⟨201, eVV fun a b c d e f => V (fsub a d) (fsub b e) (fsub c f)⟩, ⟨78, eVF fun a b c k => V (fmul a k) (fmul b k) (fmul c k)⟩,
  ⟨52, eVF fun a b c k => V (fdiv a k) (fdiv b k) (fdiv c k)⟩, ⟨98, eVV fun a b c d e f => .f (dotS a b c d e f)⟩, ⟨215, eVV fun a b c d e f => V (crX b c e f) (crX c a f d) (crX a b d e)⟩, ⟨136, eF fun x => .f (cleanS x)⟩]
theorem V1_ok : ∀ e, e ∈ V1 → EOk Tryz.prog e := e_cons (eF_ok msqrt) <| e_cons (eF_ok mabs) <| e_cons (eF_ok vnear) <| e_cons (eVV_ok vadd) <| e_cons (eVV_ok vsub) <| e_cons (eVF_ok vscale) <| e_cons (eVF_ok vover) <| e_cons (eVV_ok vdot) <| e_cons (eVV_ok vcross) <| e_cons (eF_ok vcleanN) e_nil
theorem vfine (a b c : Nat) : FSpec Tryz.prog 50 [V a b c] (bA (fineS a b c)) := sp V1_ok Tryz.func50 (by kernel_rfl) (by kernel_rfl) rfl (by kernel_rfl)
theorem vclean (a b c : Nat) : FSpec Tryz.prog 114 [V a b c] (V (cleanS a) (cleanS b) (cleanS c)) := sp V1_ok Tryz.func114 (by kernel_rfl) (by kernel_rfl) rfl (by kernel_rfl)
theorem vlength (a b c : Nat) : FSpec Tryz.prog 51 [V a b c] (.f (lengthS a b c)) := sp V1_ok Tryz.func51 (by kernel_rfl) (by kernel_rfl) rfl (by kernel_rfl)
def V2 : List Entry := ⟨50, eV fun a b c => bA (fineS a b c)⟩ :: ⟨114, eV fun a b c => V (cleanS a) (cleanS b) (cleanS c)⟩ :: ⟨51, eV fun a b c => .f (lengthS a b c)⟩ :: V1
theorem V2_ok : ∀ e, e ∈ V2 → EOk Tryz.prog e := e_cons (eV_ok vfine) <| e_cons (eV_ok vclean) <| e_cons (eV_ok vlength) V1_ok
/-- The errno, and the parts of what has the length 1. -/
def unE (a b c : Nat) : Int := cond (!fineS a b c) 1 (cond (feq (lengthS a b c) 0) 2 0)
def unN (a b c x : Nat) : Nat := cond (!fineS a b c) 0 (cond (feq (lengthS a b c) 0) 0 (fdiv x (lengthS a b c)))
def unV (a b c : Nat) : AV := .tup [V (unN a b c a) (unN a b c b) (unN a b c c), iA (unE a b c)]
def unX (a b c : Nat) : Option Out := cond (!fineS a b c) (some (Out.of (.tup [V 0 0 0, iA 1]))) (cond (feq (lengthS a b c) 0) (some (Out.of (.tup [V 0 0 0, iA 2]))) (some (Out.of (.tup [V (fdiv a (lengthS a b c)) (fdiv b (lengthS a b c)) (fdiv c (lengthS a b c)), iA 0]))))
theorem unX_eq (a b c : Nat) : unX a b c = some (Out.of (unV a b c)) := by
  unfold unX unV unN unE
  cases fineS a b c <;> cases feq (lengthS a b c) 0 <;> rfl
theorem vunit (a b c : Nat) : FSpec Tryz.prog 226 [V a b c] (unV a b c) :=
  sp V2_ok Tryz.func226 (by kernel_rfl) (by kernel_rfl) rfl ((show ev Tryz.prog V2 [] noL Tryz.f226 [V a b c] ret = unX a b c by kernel_rfl).trans (unX_eq a b c))
theorem sless (a b : Nat) : FSpec Tryz.prog 124 [.f a, .f b] (.f (lessS a b)) := by
  refine sp e_nil Tryz.func124 (by kernel_rfl) (by kernel_rfl) rfl ?_
  have h : ev Tryz.prog [] [] noL Tryz.f124 [.f a, .f b] ret = cond (flt b a) (some (Out.of (.f b))) (some (Out.of (.f a))) := by kernel_rfl
  rw [h]; unfold lessS; cases flt b a <;> rfl
theorem smore (a b : Nat) : FSpec Tryz.prog 125 [.f a, .f b] (.f (moreS a b)) := by
  refine sp e_nil Tryz.func125 (by kernel_rfl) (by kernel_rfl) rfl ?_
  have h : ev Tryz.prog [] [] noL Tryz.f125 [.f a, .f b] ret = cond (fgt b a) (some (Out.of (.f b))) (some (Out.of (.f a))) := by kernel_rfl
  rw [h]; unfold moreS; cases fgt b a <;> rfl
def joinS (a b : Nat → Nat) : Nat → Nat := ls [lessS (a 0) (b 0), lessS (a 1) (b 1), lessS (a 2) (b 2), moreS (a 3) (b 3), moreS (a 4) (b 4), moreS (a 5) (b 5)]
def V3 : List Entry := ⟨226, eV unV⟩ :: ⟨124, eFF fun a b => .f (lessS a b)⟩ :: ⟨125, eFF fun a b => .f (moreS a b)⟩ :: V2
theorem V3_ok : ∀ e, e ∈ V3 → EOk Tryz.prog e := e_cons (eV_ok vunit) <| e_cons (eFF_ok sless) <| e_cons (eFF_ok smore) V2_ok
theorem sjoin (a b : Nat → Nat) : FSpec Tryz.prog 104 [BX a, BX b] (BX (joinS a b)) := sp V3_ok Tryz.func104 (by kernel_rfl) (by kernel_rfl) rfl (by kernel_rfl)
def mayF (b : Nat → Nat) : Bool := cond (!fineS (b 0) (b 1) (b 2)) true (!fineS (b 3) (b 4) (b 5))
def mayG (b : Nat → Nat) : Bool := cond (cond (fgt (b 0) (b 3)) true (fgt (b 1) (b 4))) true (fgt (b 2) (b 5))
def mayS (b : Nat → Nat) : Int := cond (mayF b) 1 (cond (mayG b) 6 0)
theorem smay (b : Nat → Nat) : FSpec Tryz.prog 83 [BX b] (iA (mayS b)) := by
  refine sp V3_ok Tryz.func83 (by kernel_rfl) (by kernel_rfl) rfl ?_
  have h : ev Tryz.prog V3 [] noL Tryz.f83 [BX b] ret = cond (mayF b) (some (Out.of (iA 1))) (cond (mayG b) (some (Out.of (iA 6))) (some (Out.of (iA 0)))) := by kernel_rfl
  rw [h]; unfold mayS; cases mayF b <;> cases mayG b <;> rfl
def rayF (r : Nat → Nat) : Bool := cond (cond (!fineS (r 0) (r 1) (r 2)) true (!fineS (r 3) (r 4) (r 5))) true (!nearS (r 6))
def rayZ (r : Nat → Nat) : Bool := feq (r 3) 0 && (feq (r 4) 0 && (feq (r 5) 0 && true))
def rayC (r : Nat → Nat) : Bool := feq (r 3) (cleanS (r 3)) && (feq (r 4) (cleanS (r 4)) && (feq (r 5) (cleanS (r 5)) && true))
def rayS (r : Nat → Nat) : Int := cond (rayF r) 1 (cond (rayZ r) 2 (cond (!rayC r) 1 (cond (flt (r 6) 0) 6 0)))
theorem sfine (r : Nat → Nat) : FSpec Tryz.prog 87 [RY r] (iA (rayS r)) := by
  refine sp V3_ok Tryz.func87 (by kernel_rfl) (by kernel_rfl) rfl ?_
  have h : ev Tryz.prog V3 [] noL Tryz.f87 [RY r] ret = cond (rayF r) (some (Out.of (iA 1))) (cond (rayZ r) (some (Out.of (iA 2))) (cond (!rayC r) (some (Out.of (iA 1))) (cond (flt (r 6) 0) (some (Out.of (iA 6))) (some (Out.of (iA 0)))))) := by kernel_rfl
  rw [h]; unfold rayS; cases rayF r <;> cases rayZ r <;> cases rayC r <;> cases flt (r 6) 0 <;> rfl
def V4 : List Entry := ⟨104, eBB fun a b => BX (joinS a b)⟩ :: ⟨83, eB fun b => iA (mayS b)⟩ :: ⟨87, eY fun r => iA (rayS r)⟩ :: V3
theorem V4_ok : ∀ e, e ∈ V4 → EOk Tryz.prog e := e_cons (eBB_ok sjoin) <| e_cons (eB_ok smay) <| e_cons (eY_ok sfine) V3_ok
def cutA (lo hi o d : Nat) : Nat := cond (flt d 0) (fdiv (fsub hi o) d) (fdiv (fsub lo o) d)
def cutB (lo hi o d : Nat) : Nat := cond (flt d 0) (fdiv (fsub lo o) d) (fdiv (fsub hi o) d)
def cutOk (lo hi o d : Nat) : Bool := cond (feq d 0) (cond (fge o lo) (fle o hi) false) true
def cutN (lo hi o d n : Nat) : Nat := cond (feq d 0) n (moreS n (cutA lo hi o d))
def cutF (lo hi o d f : Nat) : Nat := cond (feq d 0) f (lessS f (cutB lo hi o d))
section
variable (lo hi o d n f : Nat)
def cutR (ok : Bool) (a b : Nat) : Option Out := gout (bA ok) [.c [.f a, .f b]]
def cutX (a b : Nat) : Option Out := cond (fgt a n) (cond (flt b f) (cutR true a b) (cutR true a f)) (cond (flt b f) (cutR true n b) (cutR true n f))
theorem cut_ev : evG Tryz.prog [] [] [] noL Tryz.f112 [.own 0 0, .f lo, .f hi, .f o, .f d] [.c [.f n, .f f]] [some 0] =
    cond (feq d 0) (cutR (cond (fge o lo) (fle o hi) false) n f) (cond (flt d 0) (cutX n f (fdiv (fsub hi o) d) (fdiv (fsub lo o) d)) (cutX n f (fdiv (fsub lo o) d) (fdiv (fsub hi o) d))) := by kernel_rfl
theorem cut_spec : GSpec Tryz.prog 112 [.own 0 0, .f lo, .f hi, .f o, .f d] [.c [.f n, .f f]] (bA (cutOk lo hi o d)) [.c [.f (cutN lo hi o d n), .f (cutF lo hi o d f)]] := by
  refine gspecG e_nil k_nil m_nil Tryz.func112 (by kernel_rfl) (by kernel_rfl) (fun _ _ _ _ _ h => by cases h) rfl rfl ((cut_ev lo hi o d n f).trans ?_)
  unfold cutX cutR cutOk cutN cutF cutA cutB moreS lessS
  cases feq d 0 <;> cases flt d 0 <;> simp only [cond_true, cond_false]
  · cases fgt (fdiv (fsub lo o) d) n <;> cases flt (fdiv (fsub hi o) d) f <;> rfl
  · cases fgt (fdiv (fsub hi o) d) n <;> cases flt (fdiv (fsub lo o) d) f <;> rfl
end
def cutC : List AV → List Row → Option (Bool × AV × List Row)
  | [.own 0 0, .f lo, .f hi, .f o, .f d], [.c [.f n, .f f]] => some (true, bA (cutOk lo hi o d), [.c [.f (cutN lo hi o d n), .f (cutF lo hi o d f)]])
  | _, _ => none
def mCut : MEntry := ⟨112, liftM (some 0) cutC, none⟩
theorem mCut_ok : MEOk Tryz.prog mCut := by
  refine ⟨liftM_ok fun args rs v mem1 h => ?_, fun _ h => by cases h⟩
  unfold cutC at h
  split at h
  · cases h
    exact ⟨cut_spec _ _ _ _ _ _, fun i hi hne => by
      have : i = 0 := by simp at hi; exact hi
      subst this
      exact absurd rfl hne⟩
  · cases h
end Go.Proofs.YtancjnambbkhmaaGreat.Hs

namespace Go.Proofs.YtancjnambbkhmaaGreat.Hs
open Go.Gv
open Go.Ev (cn fadd fsub fmul fdiv fsqrt fneg feq flt fle fgt fge fabs)

/-- Writes under a guard are gone on with by cases. -/
def mFork : MEntry := ⟨forkK, fun _ _ _ => none, none⟩
theorem mFork_ok {P : Program} : MEOk P mFork := ⟨⟨fun _ _ _ _ h => (by cases h), fun _ _ _ _ _ _ h => (by cases h)⟩, fun _ h => (by cases h)⟩
def maxFar : Nat := 4786511204640096256
section
variable (b r : Nat → Nat)
def m1K : Bool := cutOk (b 0) (b 3) (r 0) (r 3)
def m1N : Nat := cutN (b 0) (b 3) (r 0) (r 3) (r 6)
def m1F : Nat := cutF (b 0) (b 3) (r 0) (r 3) maxFar
def m2K : Bool := cutOk (b 1) (b 4) (r 1) (r 4)
def m2N : Nat := cutN (b 1) (b 4) (r 1) (r 4) (m1N b r)
def m2F : Nat := cutF (b 1) (b 4) (r 1) (r 4) (m1F b r)
def m3K : Bool := cutOk (b 2) (b 5) (r 2) (r 5)
def m3N : Nat := cutN (b 2) (b 5) (r 2) (r 5) (m2N b r)
def m3F : Nat := cutF (b 2) (b 5) (r 2) (r 5) (m2F b r)
def badS : Bool := cond (!(mayS b == 0)) true (!(rayS r == 0))
/-- Whether they meet; from where, to where. -/
def meetK : Bool := cond (badS b r) false (cond (m1K b r) (cond (m2K b r) (cond (m3K b r) (!fgt (m3N b r) (m3F b r)) false) false) false)
def meetN : Nat := cond (meetK b r) (m3N b r) 0
def meetF : Nat := cond (meetK b r) (m3F b r) 0
def meetV : AV := .tup [.f (meetN b r), .f (meetF b r), bA (meetK b r)]
def zeroT : Option Out := some (Out.of (.tup [.f 0, .f 0, bA false]))
def meetX (x1 x2 x3 : Bool) (n f : Nat) : Option Out := cond (cond (!(cond (cond x1 x2 false) x3 false)) true (fgt n f)) zeroT (some (Out.of (.tup [.f n, .f f, bA true])))
def meetE : Option Out := cond (badS b r) zeroT (cond (decide (m1K b r = true) && true) (cond (decide ((cond (m1K b r) (m2K b r) false) = true) && true) (meetX (m1K b r) (m2K b r) (m3K b r) (m3N b r) (m3F b r)) (meetX (m1K b r) (m2K b r) (m3K b r) (m2N b r) (m2F b r))) (cond (decide ((cond (m1K b r) (m2K b r) false) = true) && true) (meetX (m1K b r) (m2K b r) (m3K b r) (cutN (b 2) (b 5) (r 2) (r 5) (m1N b r)) (cutF (b 2) (b 5) (r 2) (r 5) (m1F b r))) (meetX (m1K b r) (m2K b r) (m3K b r) (m1N b r) (m1F b r))))
theorem meet_ev : evM Tryz.prog V4 [] [mFork, mCut] noL Tryz.f75 [BX b, RY r] ret = meetE b r := by kernel_rfl
theorem meetE_eq : meetE b r = some (Out.of (meetV b r)) := by
  unfold meetE meetX zeroT meetV meetN meetF meetK
  cases badS b r <;> cases m1K b r <;> cases m2K b r <;> cases m3K b r <;> cases fgt (m3N b r) (m3F b r) <;> rfl
theorem smeets : FSpec Tryz.prog 75 [BX b, RY r] (meetV b r) :=
  gspecM V4_ok k_nil (m_cons mFork_ok (m_cons mCut_ok m_nil)) Tryz.func75 (by kernel_rfl) (by kernel_rfl) noL_ok rfl ((meet_ev b r).trans (meetE_eq b r))
end
def V5 : List Entry := ⟨75, eBY meetV⟩ :: V4
theorem V5_ok : ∀ e, e ∈ V5 → EOk Tryz.prog e := e_cons (eBY_ok smeets) V4_ok
theorem rnear (x : Nat) : FSpec Tryz.prog 41 [.f x] (bA (nearS x)) := sp e_nil Tryz.func41 (by kernel_rfl) (by kernel_rfl) rfl (by kernel_rfl)
theorem rtimes (a b : Nat) : FSpec Tryz.prog 95 [.f a, .f b] (.f (fmul a b)) := sp e_nil Tryz.func95 (by kernel_rfl) (by kernel_rfl) rfl (by kernel_rfl)
theorem radd (a b c d e f : Nat) : FSpec Tryz.prog 65 [V a b c, V d e f] (V (fadd a d) (fadd b e) (fadd c f)) := sp e_nil Tryz.func65 (by kernel_rfl) (by kernel_rfl) rfl (by kernel_rfl)
theorem rsub (a b c d e f : Nat) : FSpec Tryz.prog 53 [V a b c, V d e f] (V (fsub a d) (fsub b e) (fsub c f)) := sp e_nil Tryz.func53 (by kernel_rfl) (by kernel_rfl) rfl (by kernel_rfl)
theorem rscale (a b c k : Nat) : FSpec Tryz.prog 79 [V a b c, .f k] (V (fmul a k) (fmul b k) (fmul c k)) := sp e_nil Tryz.func79 (by kernel_rfl) (by kernel_rfl) rfl (by kernel_rfl)
theorem rover (a b c k : Nat) : FSpec Tryz.prog 59 [V a b c, .f k] (V (fdiv a k) (fdiv b k) (fdiv c k)) := sp e_nil Tryz.func59 (by kernel_rfl) (by kernel_rfl) rfl (by kernel_rfl)
theorem rcleanN (x : Nat) : FSpec Tryz.prog 88 [.f x] (.f (cleanS x)) := by
  refine sp e_nil Tryz.func88 (by kernel_rfl) (by kernel_rfl) rfl ?_
  have h : ev Tryz.prog [] [] noL Tryz.f88 [.f x] ret = cond (cond (fgt x 13740701229962882445) (flt x 4517329193108106637) false) (some (Out.of (.f 0))) (some (Out.of (.f x))) := by kernel_rfl
  rw [h, cond_o, cond_f]
  rfl
theorem rless (a b : Nat) : FSpec Tryz.prog 90 [.f a, .f b] (.f (lessS a b)) := by
  refine sp e_nil Tryz.func90 (by kernel_rfl) (by kernel_rfl) rfl ?_
  have h : ev Tryz.prog [] [] noL Tryz.f90 [.f a, .f b] ret = cond (flt b a) (some (Out.of (.f b))) (some (Out.of (.f a))) := by kernel_rfl
  rw [h]; unfold lessS; cases flt b a <;> rfl
theorem rmore (a b : Nat) : FSpec Tryz.prog 89 [.f a, .f b] (.f (moreS a b)) := by
  refine sp e_nil Tryz.func89 (by kernel_rfl) (by kernel_rfl) rfl ?_
  have h : ev Tryz.prog [] [] noL Tryz.f89 [.f a, .f b] ret = cond (fgt b a) (some (Out.of (.f b))) (some (Out.of (.f a))) := by kernel_rfl
  rw [h]; unfold moreS; cases fgt b a <;> rfl
theorem rsame (a b : Nat) : FSpec Tryz.prog 15 [.f a, .f b] (bA (sameS a b)) := by
  refine sp e_nil Tryz.func15 (by kernel_rfl) (by kernel_rfl) rfl ?_
  have h : ev Tryz.prog [] [] noL Tryz.f15 [.f a, .f b] ret = cond (cond (!feq a a) true (!feq b b)) (some (Out.of (bA (cond (!feq a a) (!feq b b) false)))) (some (Out.of (bA (cond (feq a b) (cond (!feq a 0) true (feq (fdiv one a) (fdiv one b))) false)))) := by kernel_rfl
  rw [h, cond_o, cond_b]
  rfl
/-- A number of a vector. -/
def eVI (g : Nat → Nat → Nat → Int → Option AV) : List AV → Option AV
  | [.agg [.f a, .f b, .f c], .x (.int .i64 k)] => g a b c k
  | _ => none
def axG (a b c : Nat) (k : Int) : Option AV := cond (k == 0) (some (.f a)) (cond (k == 1) (some (.f b)) (cond (k == 2) (some (.f c)) none))
theorem ax_ev (a b c : Nat) (k : Int) : ev Tryz.prog [] [] noL Tryz.f86 [V a b c, iA k] ret = cond (k == 0) (some (Out.of (.f a))) (cond (k == 1) (some (Out.of (.f b))) (some (Out.of (.f c)))) := by kernel_rfl
theorem eAx_ok : EOk Tryz.prog ⟨86, eVI axG⟩ := fun args r hr => by
  simp only [eVI] at hr
  split at hr
  · rename_i a b c k
    refine Or.inl (sp e_nil Tryz.func86 (by kernel_rfl) (by kernel_rfl) rfl ((ax_ev a b c k).trans ?_))
    unfold axG at hr
    cases h0 : k == 0
    · rw [h0] at hr
      cases h1 : k == 1
      · rw [h1] at hr
        cases h2 : k == 2
        · rw [h2] at hr; cases hr
        · rw [h2] at hr; cases hr; rfl
      · rw [h1] at hr; cases hr; rfl
    · rw [h0] at hr; cases hr; rfl
  · cases hr
def R1 : List Entry := [⟨97, eF fun x => .f (fsqrt x)⟩, ⟨99, eF fun x => .f (fabs x)⟩, ⟨41, eF fun x => bA (nearS x)⟩, ⟨95, eFF fun a b => .f (fmul a b)⟩, ⟨65, eVV fun a b c d e f => V (fadd a d) (fadd b e) (fadd c f)⟩, ⟨53, eVV fun a b c d e f => V (fsub a d) (fsub b e) (fsub c f)⟩,
  ⟨79, eVF fun a b c k => V (fmul a k) (fmul b k) (fmul c k)⟩, ⟨59, eVF fun a b c k => V (fdiv a k) (fdiv b k) (fdiv c k)⟩, ⟨88, eF fun x => .f (cleanS x)⟩, ⟨90, eFF fun a b => .f (lessS a b)⟩, ⟨89, eFF fun a b => .f (moreS a b)⟩, ⟨15, eFF fun a b => bA (sameS a b)⟩, ⟨86, eVI axG⟩]
theorem R1_ok : ∀ e, e ∈ R1 → EOk Tryz.prog e := e_cons (eF_ok msqrt) <| e_cons (eF_ok mabs) <| e_cons (eF_ok rnear) <| e_cons (eFF_ok rtimes) <| e_cons (eVV_ok radd) <| e_cons (eVV_ok rsub) <| e_cons (eVF_ok rscale) <| e_cons (eVF_ok rover) <| e_cons (eF_ok rcleanN) <| e_cons (eFF_ok rless) <| e_cons (eFF_ok rmore) <| e_cons (eFF_ok rsame) <| e_cons eAx_ok e_nil
theorem rfine (a b c : Nat) : FSpec Tryz.prog 40 [V a b c] (bA (fineS a b c)) := sp R1_ok Tryz.func40 (by kernel_rfl) (by kernel_rfl) rfl (by kernel_rfl)
theorem rdot (a b c d e f : Nat) : FSpec Tryz.prog 96 [V a b c, V d e f] (.f (dotS a b c d e f)) := sp R1_ok Tryz.func96 (by kernel_rfl) (by kernel_rfl) rfl (by kernel_rfl)
theorem rcross (a b c d e f : Nat) : FSpec Tryz.prog 55 [V a b c, V d e f] (V (crX b c e f) (crX c a f d) (crX a b d e)) := sp R1_ok Tryz.func55 (by kernel_rfl) (by kernel_rfl) rfl (by kernel_rfl)
theorem rsameV (a b c d e f : Nat) : FSpec Tryz.prog 18 [V a b c, V d e f] (bA (sameVS a b c d e f)) := sp R1_ok Tryz.func18 (by kernel_rfl) (by kernel_rfl) rfl (by kernel_rfl)
def lowV (a b c d e f : Nat) : AV := V (lessS a d) (lessS b e) (lessS c f)
def highV (a b c d e f : Nat) : AV := V (moreS a d) (moreS b e) (moreS c f)
theorem rlow (a b c d e f : Nat) : FSpec Tryz.prog 84 [V a b c, V d e f] (lowV a b c d e f) := sp R1_ok Tryz.func84 (by kernel_rfl) (by kernel_rfl) rfl (by kernel_rfl)
theorem rhigh (a b c d e f : Nat) : FSpec Tryz.prog 85 [V a b c, V d e f] (highV a b c d e f) := sp R1_ok Tryz.func85 (by kernel_rfl) (by kernel_rfl) rfl (by kernel_rfl)
def R2 : List Entry := ⟨40, eV fun a b c => bA (fineS a b c)⟩ :: ⟨96, eVV fun a b c d e f => .f (dotS a b c d e f)⟩ :: ⟨55, eVV fun a b c d e f => V (crX b c e f) (crX c a f d) (crX a b d e)⟩ :: ⟨18, eVV fun a b c d e f => bA (sameVS a b c d e f)⟩ :: ⟨84, eVV lowV⟩ :: ⟨85, eVV highV⟩ :: R1
theorem R2_ok : ∀ e, e ∈ R2 → EOk Tryz.prog e := e_cons (eV_ok rfine) <| e_cons (eVV_ok rdot) <| e_cons (eVV_ok rcross) <| e_cons (eVV_ok rsameV) <| e_cons (eVV_ok rlow) <| e_cons (eVV_ok rhigh) R1_ok
theorem rlength (a b c : Nat) : FSpec Tryz.prog 58 [V a b c] (.f (lengthS a b c)) := sp R2_ok Tryz.func58 (by kernel_rfl) (by kernel_rfl) rfl (by kernel_rfl)
def sameB (s t : Nat → Nat) : Bool := cond (sameVS (s 0) (s 1) (s 2) (t 0) (t 1) (t 2)) (sameVS (s 3) (s 4) (s 5) (t 3) (t 4) (t 5)) false
theorem rsameB (s t : Nat → Nat) : FSpec Tryz.prog 12 [BX s, BX t] (bA (sameB s t)) := sp R2_ok Tryz.func12 (by kernel_rfl) (by kernel_rfl) rfl (by kernel_rfl)
theorem rmay (b : Nat → Nat) : FSpec Tryz.prog 44 [BX b] (iA (mayS b)) := by
  refine sp R2_ok Tryz.func44 (by kernel_rfl) (by kernel_rfl) rfl ?_
  have h : ev Tryz.prog R2 [] noL Tryz.f44 [BX b] ret = cond (mayF b) (some (Out.of (iA 1))) (cond (fgt (b 0) (b 3)) (some (Out.of (iA 6))) (cond (fgt (b 1) (b 4)) (some (Out.of (iA 6))) (cond (fgt (b 2) (b 5)) (some (Out.of (iA 6))) (some (Out.of (iA 0)))))) := by kernel_rfl
  rw [h]
  unfold mayS mayG
  cases mayF b <;> cases fgt (b 0) (b 3) <;> cases fgt (b 1) (b 4) <;> cases fgt (b 2) (b 5) <;> rfl
theorem rrfine (r : Nat → Nat) : FSpec Tryz.prog 47 [RY r] (iA (rayS r)) := by
  refine sp R2_ok Tryz.func47 (by kernel_rfl) (by kernel_rfl) rfl ?_
  have h : ev Tryz.prog R2 [] noL Tryz.f47 [RY r] ret = cond (rayF r) (some (Out.of (iA 1))) (cond (cond (cond (feq (r 3) 0) (feq (r 4) 0) false) (feq (r 5) 0) false) (some (Out.of (iA 2)))
    (cond (!feq (r 3) (cleanS (r 3))) (some (Out.of (iA 1))) (cond (!feq (r 4) (cleanS (r 4))) (some (Out.of (iA 1))) (cond (!feq (r 5) (cleanS (r 5))) (some (Out.of (iA 1))) (cond (flt (r 6) 0) (some (Out.of (iA 6))) (some (Out.of (iA 0)))))))) := by kernel_rfl
  rw [h]
  unfold rayS rayZ rayC
  cases rayF r <;> cases feq (r 3) 0 <;> cases feq (r 4) 0 <;> cases feq (r 5) 0 <;> cases feq (r 3) (cleanS (r 3)) <;> cases feq (r 4) (cleanS (r 4)) <;> cases feq (r 5) (cleanS (r 5)) <;> cases flt (r 6) 0 <;> rfl
theorem runit (a b c : Nat) : FSpec Tryz.prog 42 [V a b c] (unV a b c) :=
  sp (l := ⟨58, eV fun a b c => .f (lengthS a b c)⟩ :: R2) (e_cons (eV_ok rlength) R2_ok) Tryz.func42 (by kernel_rfl) (by kernel_rfl) rfl ((show ev Tryz.prog (⟨58, eV fun a b c => .f (lengthS a b c)⟩ :: R2) [] noL Tryz.f42 [V a b c] ret = unX a b c by kernel_rfl).trans (unX_eq a b c))
def R3 : List Entry := ⟨58, eV fun a b c => .f (lengthS a b c)⟩ :: ⟨42, eV unV⟩ :: ⟨12, eBB fun s t => bA (sameB s t)⟩ :: ⟨44, eB fun b => iA (mayS b)⟩ :: ⟨47, eY fun r => iA (rayS r)⟩ :: R2
theorem R3_ok : ∀ e, e ∈ R3 → EOk Tryz.prog e := e_cons (eV_ok rlength) <| e_cons (eV_ok runit) <| e_cons (eBB_ok rsameB) <| e_cons (eB_ok rmay) <| e_cons (eY_ok rrfine) R2_ok
end Go.Proofs.YtancjnambbkhmaaGreat.Hs

namespace Go.Proofs.YtancjnambbkhmaaGreat.Hs
open Go.Gv
open Go.Ev (cn fadd fsub fmul fdiv fsqrt fneg feq flt fle fgt fge fabs)

def neZ (x : Nat) : Bool := !feq x 0
theorem snumbers (a b c : Nat) : FSpec Tryz.prog 208 [V a b c] (V a b c) := sp e_nil Tryz.func208 (by kernel_rfl) (by kernel_rfl) rfl (by kernel_rfl)
theorem svecOf (a b c : Nat) : FSpec Tryz.prog 210 [V a b c] (V a b c) := sp e_nil Tryz.func210 (by kernel_rfl) (by kernel_rfl) rfl (by kernel_rfl)
def V6 : List Entry := ⟨208, eV fun a b c => V a b c⟩ :: ⟨210, eV fun a b c => V a b c⟩ :: V5
theorem V6_ok : ∀ e, e ∈ V6 → EOk Tryz.prog e := e_cons (eV_ok snumbers) <| e_cons (eV_ok svecOf) V5_ok
theorem sflat0 (a b c : Nat) : FSpec Tryz.prog 233 [V a b c, iA 0] (V 0 b c) := sp V6_ok Tryz.func233 (by kernel_rfl) (by kernel_rfl) rfl (by kernel_rfl)
theorem sflat1 (a b c : Nat) : FSpec Tryz.prog 233 [V a b c, iA 1] (V a 0 c) := sp V6_ok Tryz.func233 (by kernel_rfl) (by kernel_rfl) rfl (by kernel_rfl)
theorem sflat2 (a b c : Nat) : FSpec Tryz.prog 233 [V a b c, iA 2] (V a b 0) := sp V6_ok Tryz.func233 (by kernel_rfl) (by kernel_rfl) rfl (by kernel_rfl)
def flG (a b c : Nat) (k : Int) : Option AV := cond (k == 0) (some (V 0 b c)) (cond (k == 1) (some (V a 0 c)) (cond (k == 2) (some (V a b 0)) none))
theorem eFlat_ok : EOk Tryz.prog ⟨233, eVI flG⟩ := fun args r hr => by
  simp only [eVI] at hr
  split at hr
  · rename_i a b c k
    unfold flG at hr
    cases h0 : k == 0
    · rw [h0] at hr
      cases h1 : k == 1
      · rw [h1] at hr
        cases h2 : k == 2
        · rw [h2] at hr; cases hr
        · rw [h2] at hr; cases hr; rw [eq_of_beq h2]; exact Or.inl (sflat2 a b c)
      · rw [h1] at hr; cases hr; rw [eq_of_beq h1]; exact Or.inl (sflat1 a b c)
    · rw [h0] at hr; cases hr; rw [eq_of_beq h0]; exact Or.inl (sflat0 a b c)
  · cases hr
def axR (k : Int) (b : Bool) : Option Out := some (Out.of (.tup [iA k, bA b]))
def axT (a b c : Nat) : Option Out := cond (neZ a) (cond (neZ b) (cond (neZ c) (axR 2 false) (axR 1 false)) (cond (neZ c) (axR 2 false) (axR 0 true))) (cond (neZ b) (cond (neZ c) (axR 2 false) (axR 1 true)) (cond (neZ c) (axR 2 true) (axR 0 false)))
def axI (a b c : Nat) : Int := cond (neZ c) 2 (cond (neZ b) 1 (cond (neZ a) 0 0))
def axO (a b c : Nat) : Bool := cond (neZ a) (cond (neZ b) false (!neZ c)) (cond (neZ b) (!neZ c) (neZ c))
theorem saxis (a b c : Nat) : FSpec Tryz.prog 234 [V a b c] (.tup [iA (axI a b c), bA (axO a b c)]) := by
  refine sp V6_ok Tryz.func234 (by kernel_rfl) (by kernel_rfl) rfl ((show ev Tryz.prog V6 [] noL Tryz.f234 [V a b c] ret = axT a b c by kernel_rfl).trans ?_)
  unfold axT axI axO axR
  cases neZ a <;> cases neZ b <;> cases neZ c <;> rfl
theorem scube (a b c R : Nat) : FSpec Tryz.prog 199 [V a b c, .f R] (BX (ls [fsub a R, fsub b R, fsub c R, fadd a R, fadd b R, fadd c R])) := sp V6_ok Tryz.func199 (by kernel_rfl) (by kernel_rfl) rfl (by kernel_rfl)
def aroundS (a b c d e f : Nat) : Nat → Nat := joinS (ls [a, b, c, a, b, c]) (ls [d, e, f, d, e, f])
theorem saround (a b c d e f : Nat) : FSpec Tryz.prog 214 [V a b c, V d e f] (BX (aroundS a b c d e f)) := sp V6_ok Tryz.func214 (by kernel_rfl) (by kernel_rfl) rfl (by kernel_rfl)
section
variable (o d : Nat → Nat) (r : Nat)
def abA : Nat := dotS (d 0) (d 1) (d 2) (d 0) (d 1) (d 2)
def abH : Nat := dotS (o 0) (o 1) (o 2) (d 0) (d 1) (d 2)
def abE : Nat := fsub (fmul (abH o d) (abH o d)) (fmul (abA d) (fsub (dotS (o 0) (o 1) (o 2) (o 0) (o 1) (o 2)) (fmul r r)))
def abK : Bool := fge (abE o d r) 0
def abN : Nat := cond (abK o d r) (fdiv (fsub (fneg (abH o d)) (fsqrt (abE o d r))) (abA d)) 0
def abF : Nat := cond (abK o d r) (fdiv (fadd (fneg (abH o d)) (fsqrt (abE o d r))) (abA d)) 0
def abV : AV := .tup [.f (abN o d r), .f (abF o d r), bA (abK o d r)]
def ab3 (n f : Nat) (k : Bool) : Option Out := some (Out.of (.tup [.f n, .f f, bA k]))
def abX : Option Out := cond (abK o d r) (ab3 (fdiv (fsub (fneg (abH o d)) (fsqrt (abE o d r))) (abA d)) (fdiv (fadd (fneg (abH o d)) (fsqrt (abE o d r))) (abA d)) true) (ab3 0 0 false)
theorem abX_eq : abX o d r = some (Out.of (abV o d r)) := by
  unfold abX abV abN abF ab3
  cases abK o d r <;> rfl
theorem sabout_ev : ev Tryz.prog V6 [] noL Tryz.f200 [V (o 0) (o 1) (o 2), V (d 0) (d 1) (d 2), .f r] ret = cond (!abK o d r) (ab3 0 0 false) (ab3 (fdiv (fsub (fneg (abH o d)) (fsqrt (abE o d r))) (abA d)) (fdiv (fadd (fneg (abH o d)) (fsqrt (abE o d r))) (abA d)) true) := by kernel_rfl
theorem sabout0 : FSpec Tryz.prog 200 [V (o 0) (o 1) (o 2), V (d 0) (d 1) (d 2), .f r] (abV o d r) := by
  refine sp V6_ok Tryz.func200 (by kernel_rfl) (by kernel_rfl) rfl ((sabout_ev o d r).trans ?_)
  unfold abV abN abF ab3
  cases abK o d r <;> rfl
end
def abG (a b c d e f r : Nat) : AV := abV (ls [a, b, c]) (ls [d, e, f]) r
theorem sabout (a b c d e f r : Nat) : FSpec Tryz.prog 200 [V a b c, V d e f, .f r] (abG a b c d e f r) := sabout0 (ls [a, b, c]) (ls [d, e, f]) r
/-- Brought between near and far. -/
def btS (t n f : Nat) : Nat := cond (!fgt t n) (cond (!flt n f) f n) (cond (!flt t f) f t)
theorem sbt_ev (t n f : Nat) : ev Tryz.prog [] [] noL Tryz.f123 [.f t, .f n, .f f] ret = cond (!fgt t n) (cond (!flt n f) (some (Out.of (.f f))) (some (Out.of (.f n)))) (cond (!flt t f) (some (Out.of (.f f))) (some (Out.of (.f t)))) := by kernel_rfl
theorem sbetween (t n f : Nat) : FSpec Tryz.prog 123 [.f t, .f n, .f f] (.f (btS t n f)) := by
  refine sp e_nil Tryz.func123 (by kernel_rfl) (by kernel_rfl) rfl ((sbt_ev t n f).trans ?_)
  unfold btS
  cases fgt t n <;> cases flt n f <;> cases flt t f <;> rfl
/-- How far what goes along the axis is within. -/
def eVFFF (g : Nat → Nat → Nat → Nat → Nat → Nat → AV) : List AV → Option AV
  | [.agg [.f a, .f b, .f c], .f d, .f e, .f f] => some (g a b c d e f)
  | _ => none
theorem eVFFF_ok {f : Nat} {g : Nat → Nat → Nat → Nat → Nat → Nat → AV} (h : ∀ a b c d e f', FSpec Tryz.prog f [V a b c, .f d, .f e, .f f'] (g a b c d e f')) : EOk Tryz.prog ⟨f, eVFFF g⟩ := fun args r hr => by
  simp only [eVFFF] at hr
  split at hr
  · cases hr; exact Or.inl (h _ _ _ _ _ _)
  · cases hr
def alK (a b c r : Nat) : Bool := fle (dotS a b c a b c) (fmul r r)
def alV (a b c r n f : Nat) : AV := .tup [.f (cond (alK a b c r) n 0), .f (cond (alK a b c r) f 0), bA (alK a b c r)]
theorem salong (a b c r n f : Nat) : FSpec Tryz.prog 235 [V a b c, .f r, .f n, .f f] (alV a b c r n f) := by
  refine sp V6_ok Tryz.func235 (by kernel_rfl) (by kernel_rfl) rfl ((show ev Tryz.prog V6 [] noL Tryz.f235 [V a b c, .f r, .f n, .f f] ret = cond (alK a b c r) (ab3 n f true) (ab3 0 0 false) by kernel_rfl).trans ?_)
  unfold alV ab3
  cases alK a b c r <;> rfl
def V7 : List Entry := ⟨233, eVI flG⟩ :: ⟨199, eVF fun a b c R => BX (ls [fsub a R, fsub b R, fsub c R, fadd a R, fadd b R, fadd c R])⟩ :: ⟨214, eVV fun a b c d e f => BX (aroundS a b c d e f)⟩ :: ⟨200, eVVF abG⟩ :: ⟨123, eFFF fun t n f => .f (btS t n f)⟩ :: ⟨235, eVFFF alV⟩ :: V6
theorem V7_ok : ∀ e, e ∈ V7 → EOk Tryz.prog e := e_cons eFlat_ok <| e_cons (eVF_ok scube) <| e_cons (eVV_ok saround) <| e_cons (eVVF_ok sabout) <| e_cons (eFFF_ok sbetween) <| e_cons (eVFFF_ok salong) V6_ok
end Go.Proofs.YtancjnambbkhmaaGreat.Hs

namespace Go.Proofs.YtancjnambbkhmaaGreat.Hs
open Go.Gv
open Go.Ev (cn fadd fsub fmul fdiv fsqrt fneg feq flt fle fgt fge fabs)

/-- A shape: its kind, eleven floats, its skin. -/
abbrev SH (k : Int) (a : Nat → Nat) (sk : Int) : AV := .agg [iA k, .f (a 0), .f (a 1), .f (a 2), .f (a 3), .f (a 4), .f (a 5), .f (a 6), .f (a 7), .f (a 8), .f (a 9), .f (a 10), iA sk]
def eS (g : (Nat → Nat) → AV) : List AV → Option AV
  | [.agg [.x (.int .i64 _), .f a0, .f a1, .f a2, .f a3, .f a4, .f a5, .f a6, .f a7, .f a8, .f a9, .f a10, .x (.int .i64 _)]] => some (g (ls [a0, a1, a2, a3, a4, a5, a6, a7, a8, a9, a10]))
  | _ => none
def eSYFF (g : (Nat → Nat) → (Nat → Nat) → Nat → Nat → AV) : List AV → Option AV
  | [.agg [.x (.int .i64 _), .f a0, .f a1, .f a2, .f a3, .f a4, .f a5, .f a6, .f a7, .f a8, .f a9, .f a10, .x (.int .i64 _)], .agg [.f r0, .f r1, .f r2, .f r3, .f r4, .f r5, .f r6], .f n, .f f] => some (g (ls [a0, a1, a2, a3, a4, a5, a6, a7, a8, a9, a10]) (ls [r0, r1, r2, r3, r4, r5, r6]) n f)
  | _ => none
def eSV (g : (Nat → Nat) → Nat → Nat → Nat → AV) : List AV → Option AV
  | [.agg [.x (.int .i64 _), .f a0, .f a1, .f a2, .f a3, .f a4, .f a5, .f a6, .f a7, .f a8, .f a9, .f a10, .x (.int .i64 _)], .agg [.f p, .f q, .f r]] => some (g (ls [a0, a1, a2, a3, a4, a5, a6, a7, a8, a9, a10]) p q r)
  | _ => none
theorem eS_ok {f : Nat} {g : (Nat → Nat) → AV} (h : ∀ k a sk, FSpec Tryz.prog f [SH k a sk] (g a)) : EOk Tryz.prog ⟨f, eS g⟩ := fun args r hr => by
  simp only [eS] at hr
  split at hr
  · cases hr; exact Or.inl (h _ (ls [_, _, _, _, _, _, _, _, _, _, _]) _)
  · cases hr
theorem eSYFF_ok {f : Nat} {g : (Nat → Nat) → (Nat → Nat) → Nat → Nat → AV} (h : ∀ k a sk y n f', FSpec Tryz.prog f [SH k a sk, RY y, .f n, .f f'] (g a y n f')) : EOk Tryz.prog ⟨f, eSYFF g⟩ := fun args r hr => by
  simp only [eSYFF] at hr
  split at hr
  · cases hr; exact Or.inl (h _ (ls [_, _, _, _, _, _, _, _, _, _, _]) _ (ls [_, _, _, _, _, _, _]) _ _)
  · cases hr
theorem eSV_ok {f : Nat} {g : (Nat → Nat) → Nat → Nat → Nat → AV} (h : ∀ k a sk p q r, FSpec Tryz.prog f [SH k a sk, V p q r] (g a p q r)) : EOk Tryz.prog ⟨f, eSV g⟩ := fun args r hr => by
  simp only [eSV] at hr
  split at hr
  · cases hr; exact Or.inl (h _ (ls [_, _, _, _, _, _, _, _, _, _, _]) _ _ _ _)
  · cases hr
section
variable (k : Int) (a : Nat → Nat) (sk : Int) (r : Nat → Nat) (n f p q u : Nat)
def cubeB : Nat → Nat := ls [fsub (a 0) (a 9), fsub (a 1) (a 9), fsub (a 2) (a 9), fadd (a 0) (a 9), fadd (a 1) (a 9), fadd (a 2) (a 9)]
def blockB : Nat → Nat := ls [a 0, a 1, a 2, a 3, a 4, a 5]
def triB : Nat → Nat := joinS (aroundS (a 0) (a 1) (a 2) (a 3) (a 4) (a 5)) (ls [a 6, a 7, a 8, a 6, a 7, a 8])
theorem bball : FSpec Tryz.prog 194 [SH k a sk] (BX (cubeB a)) := sp V7_ok Tryz.func194 (by kernel_rfl) (by kernel_rfl) rfl (by kernel_rfl)
theorem bplate : FSpec Tryz.prog 222 [SH k a sk] (BX (cubeB a)) := sp V7_ok Tryz.func222 (by kernel_rfl) (by kernel_rfl) rfl (by kernel_rfl)
theorem bblock : FSpec Tryz.prog 203 [SH k a sk] (BX (blockB a)) := sp V7_ok Tryz.func203 (by kernel_rfl) (by kernel_rfl) rfl (by kernel_rfl)
theorem btri : FSpec Tryz.prog 211 [SH k a sk] (BX (triB a)) := sp V7_ok Tryz.func211 (by kernel_rfl) (by kernel_rfl) rfl (by kernel_rfl)
def ballM : Int := cond (!fgt (a 9) 0) 6 0
theorem mball : FSpec Tryz.prog 196 [SH k a sk] (iA (ballM a)) := by
  refine sp V7_ok Tryz.func196 (by kernel_rfl) (by kernel_rfl) rfl ((show ev Tryz.prog V7 [] noL Tryz.f196 [SH k a sk] ret = cond (!fgt (a 9) 0) (some (Out.of (iA 6))) (some (Out.of (iA 0))) by kernel_rfl).trans ?_)
  unfold ballM; cases fgt (a 9) 0 <;> rfl
def blockG : Bool := cond (cond (fgt (a 0) (a 3)) true (fgt (a 1) (a 4))) true (fgt (a 2) (a 5))
def blockM : Int := cond (blockG a) 6 0
theorem mblock : FSpec Tryz.prog 205 [SH k a sk] (iA (blockM a)) := by
  refine sp V7_ok Tryz.func205 (by kernel_rfl) (by kernel_rfl) rfl ((show ev Tryz.prog V7 [] noL Tryz.f205 [SH k a sk] ret = cond (blockG a) (some (Out.of (iA 6))) (some (Out.of (iA 0))) by kernel_rfl).trans ?_)
  unfold blockM; cases blockG a <;> rfl
def plateM : Int := cond (!fgt (a 9) 0) 6 (unE (a 3) (a 4) (a 5))
theorem mplate : FSpec Tryz.prog 223 [SH k a sk] (iA (plateM a)) := by
  refine sp V7_ok Tryz.func223 (by kernel_rfl) (by kernel_rfl) rfl ((show ev Tryz.prog V7 [] noL Tryz.f223 [SH k a sk] ret = cond (!fgt (a 9) 0) (some (Out.of (iA 6))) (some (Out.of (iA (unE (a 3) (a 4) (a 5))))) by kernel_rfl).trans ?_)
  unfold plateM; cases fgt (a 9) 0 <;> rfl
def V8 : List Entry := ⟨234, eV fun a b c => .tup [iA (axI a b c), bA (axO a b c)]⟩ :: V7
theorem V8_ok : ∀ e, e ∈ V8 → EOk Tryz.prog e := e_cons (eV_ok saxis) V7_ok
def tubeM : Int := cond (cond (!axO (a 3) (a 4) (a 5)) true (!fgt (a 9) 0)) 6 0
theorem mtube : FSpec Tryz.prog 230 [SH k a sk] (iA (tubeM a)) := by
  refine sp V8_ok Tryz.func230 (by kernel_rfl) (by kernel_rfl) rfl ((show ev Tryz.prog V8 [] noL Tryz.f230 [SH k a sk] ret = cond (cond (!axO (a 3) (a 4) (a 5)) true (!fgt (a 9) 0)) (some (Out.of (iA 6))) (some (Out.of (iA 0))) by kernel_rfl).trans ?_)
  unfold tubeM; cases cond (!axO (a 3) (a 4) (a 5)) true (!fgt (a 9) 0) <;> rfl
def ringM : Int := cond (cond (!axO (a 3) (a 4) (a 5)) true (!(cond (fgt (a 10) 0) (fge (a 9) (a 10)) false))) 6 0
theorem mring : FSpec Tryz.prog 238 [SH k a sk] (iA (ringM a)) := by
  refine sp V8_ok Tryz.func238 (by kernel_rfl) (by kernel_rfl) rfl ((show ev Tryz.prog V8 [] noL Tryz.f238 [SH k a sk] ret = cond (cond (!axO (a 3) (a 4) (a 5)) true (!(cond (fgt (a 10) 0) (fge (a 9) (a 10)) false))) (some (Out.of (iA 6))) (some (Out.of (iA 0))) by kernel_rfl).trans ?_)
  unfold ringM; cases cond (!axO (a 3) (a 4) (a 5)) true (!(cond (fgt (a 10) 0) (fge (a 9) (a 10)) false)) <;> rfl
def baO : Nat → Nat := ls [fsub (r 0) (a 0), fsub (r 1) (a 1), fsub (r 2) (a 2)]
def ryD : Nat → Nat := ls [r 3, r 4, r 5]
theorem iball : FSpec Tryz.prog 195 [SH k a sk, RY r, .f n, .f f] (abV (baO a r) (ryD r) (a 9)) := sp V8_ok Tryz.func195 (by kernel_rfl) (by kernel_rfl) rfl (by kernel_rfl)
theorem iblock : FSpec Tryz.prog 204 [SH k a sk, RY r, .f n, .f f] (.tup [.f n, .f f, bA true]) := sp V8_ok Tryz.func204 (by kernel_rfl) (by kernel_rfl) rfl (by kernel_rfl)
def s2 (t : Nat) (k : Bool) : Option Out := some (Out.of (.tup [.f t, bA k]))
def V9 : List Entry := ⟨195, eSYFF fun a r _ _ => abV (baO a r) (ryD r) (a 9)⟩ :: ⟨204, eSYFF fun _ _ n f => .tup [.f n, .f f, bA true]⟩ :: V8
theorem V9_ok : ∀ e, e ∈ V9 → EOk Tryz.prog e := e_cons (eSYFF_ok iball) <| e_cons (eSYFF_ok iblock) V8_ok
def ballT : Nat := cond (abK (baO a r) (ryD r) (a 9)) (cond (fge (abN (baO a r) (ryD r) (a 9)) (r 6)) (abN (baO a r) (ryD r) (a 9)) (abF (baO a r) (ryD r) (a 9))) 0
theorem tball : FSpec Tryz.prog 198 [SH k a sk, RY r, .f n, .f f] (.tup [.f (ballT a r), bA (abK (baO a r) (ryD r) (a 9))]) := by
  refine sp V9_ok Tryz.func198 (by kernel_rfl) (by kernel_rfl) rfl ((show ev Tryz.prog V9 [] noL Tryz.f198 [SH k a sk, RY r, .f n, .f f] ret = cond (!abK (baO a r) (ryD r) (a 9)) (s2 0 false) (cond (fge (abN (baO a r) (ryD r) (a 9)) (r 6)) (s2 (abN (baO a r) (ryD r) (a 9)) true) (s2 (abF (baO a r) (ryD r) (a 9)) true)) by kernel_rfl).trans ?_)
  unfold ballT s2
  cases abK (baO a r) (ryD r) (a 9) <;> cases fge (abN (baO a r) (ryD r) (a 9)) (r 6) <;> rfl
theorem tblock : FSpec Tryz.prog 207 [SH k a sk, RY r, .f n, .f f] (.tup [.f (cond (fgt n (r 6)) n f), bA true]) := by
  refine sp V9_ok Tryz.func207 (by kernel_rfl) (by kernel_rfl) rfl ((show ev Tryz.prog V9 [] noL Tryz.f207 [SH k a sk, RY r, .f n, .f f] ret = cond (fgt n (r 6)) (s2 n true) (s2 f true) by kernel_rfl).trans ?_)
  unfold s2
  cases fgt n (r 6) <;> rfl
def plU (x : Nat) : Nat := unN (a 3) (a 4) (a 5) x
def plD : Nat := dotS (plU a (a 3)) (plU a (a 4)) (plU a (a 5)) (r 3) (r 4) (r 5)
def plT : Nat := fdiv (dotS (plU a (a 3)) (plU a (a 4)) (plU a (a 5)) (fsub (a 0) (r 0)) (fsub (a 1) (r 1)) (fsub (a 2) (r 2))) (plD a r)
def plQ (i j : Nat) : Nat := fsub (fadd (r i) (fmul (r j) (plT a r))) (a i)
def plK : Bool := fle (dotS (plQ a r 0 3) (plQ a r 1 4) (plQ a r 2 5) (plQ a r 0 3) (plQ a r 1 4) (plQ a r 2 5)) (fmul (a 9) (a 9))
theorem tplate : FSpec Tryz.prog 225 [SH k a sk, RY r, .f n, .f f] (.tup [.f (cond (feq (plD a r) 0) 0 (plT a r)), bA (cond (feq (plD a r) 0) false (plK a r))]) := by
  refine sp V9_ok Tryz.func225 (by kernel_rfl) (by kernel_rfl) rfl ((show ev Tryz.prog V9 [] noL Tryz.f225 [SH k a sk, RY r, .f n, .f f] ret = cond (feq (plD a r) 0) (s2 0 false) (s2 (plT a r) (plK a r)) by kernel_rfl).trans ?_)
  unfold s2
  cases feq (plD a r) 0 <;> rfl
theorem nball : FSpec Tryz.prog 197 [SH k a sk, V p q u] (V (fsub p (a 0)) (fsub q (a 1)) (fsub u (a 2))) := sp V9_ok Tryz.func197 (by kernel_rfl) (by kernel_rfl) rfl (by kernel_rfl)
theorem nplate : FSpec Tryz.prog 224 [SH k a sk, V p q u] (V (a 3) (a 4) (a 5)) := sp V9_ok Tryz.func224 (by kernel_rfl) (by kernel_rfl) rfl (by kernel_rfl)
def triX (i j : Nat) : Nat := fsub (a i) (a j)
def trX (i j : Nat) : Nat := crX (triX a (3 + i) i) (triX a (3 + j) j) (triX a (6 + i) i) (triX a (6 + j) j)
theorem ntri : FSpec Tryz.prog 212 [SH k a sk, V p q u] (V (trX a 1 2) (trX a 2 0) (trX a 0 1)) := sp V9_ok Tryz.func212 (by kernel_rfl) (by kernel_rfl) rfl (by kernel_rfl)
end
end Go.Proofs.YtancjnambbkhmaaGreat.Hs

namespace Go.Proofs.YtancjnambbkhmaaGreat.Hs
open Go.Gv
open Go.Ev (cn fadd fsub fmul fdiv fsqrt fneg feq flt fle fgt fge fabs)

section
variable (r : Nat → Nat)
/-- The axis that a ray goes along most. -/
def dp0 : Bool := fgt (fabs (r 4)) (fabs (r 3))
def dpZ : Nat := cond (dp0 r) (cond (fgt (fabs (r 5)) (fabs (r 4))) 2 1) (cond (fgt (fabs (r 5)) (fabs (r 3))) 2 0)
def lkA (x y z : Int) : AV := .agg [.f (r 0), .f (r 1), .f (r 2), .f (r 3), .f (r 4), .f (r 5), iA x, iA y, iA z]
def lkZ : Nat → AV
  | 0 => lkA r 1 2 0
  | 1 => lkA r 2 0 1
  | _ => lkA r 0 1 2
def lkO (z : Nat) : Option Out := some (Out.of (lkZ r z))
def lkX : Option Out := cond (dp0 r) (cond (fgt (fabs (r 5)) (fabs (r 4))) (lkO r 2) (lkO r 1)) (cond (fgt (fabs (r 5)) (fabs (r 3))) (lkO r 2) (lkO r 0))
theorem look_ev : ev Tryz.prog V9 [] noL Tryz.f216 [RY r] ret = cond (fgt (fabs (r 3)) (fabs (r 3))) (lkX r) (lkX r) := by kernel_rfl
theorem slook : FSpec Tryz.prog 216 [RY r] (lkZ r (dpZ r)) := by
  refine sp V9_ok Tryz.func216 (by kernel_rfl) (by kernel_rfl) rfl ((look_ev r).trans ?_)
  unfold lkX lkO dpZ
  cases fgt (fabs (r 3)) (fabs (r 3)) <;> cases dp0 r <;> cases fgt (fabs (r 5)) (fabs (r 4)) <;> cases fgt (fabs (r 5)) (fabs (r 3)) <;> rfl
theorem dpZ_lt : dpZ r = 0 ∨ dpZ r = 1 ∨ dpZ r = 2 := by
  unfold dpZ
  cases dp0 r <;> cases fgt (fabs (r 5)) (fabs (r 4)) <;> cases fgt (fabs (r 5)) (fabs (r 3)) <;> simp
end
section
variable (r : Nat → Nat) (x y z : Nat) (g : Nat → Nat)
/-- A point's place, as a ray sees it: axes x, y beside it, z along it. -/
def plF (i : Nat) : Nat := fsub (g i) (r i)
def plB (i : Nat) : Nat := fsub (plF r g i) (fmul (fdiv (r (3 + i)) (r (3 + z))) (plF r g z))
def plA : Nat := fmul (fdiv one (r (3 + z))) (plF r g z)
def plV : AV := V (plB r z g x) (plB r z g y) (plA r z g)
end
def nx : Nat → Nat
  | 0 => 1
  | 1 => 2
  | _ => 0
def ny : Nat → Nat
  | 0 => 2
  | 1 => 0
  | _ => 1
theorem place0 (r : Nat → Nat) (a b c : Nat) : FSpec Tryz.prog 217 [lkA r 1 2 0, V a b c] (plV r 1 2 0 (ls [a, b, c])) := sp V9_ok Tryz.func217 (by kernel_rfl) (by kernel_rfl) rfl (by kernel_rfl)
theorem place1 (r : Nat → Nat) (a b c : Nat) : FSpec Tryz.prog 217 [lkA r 2 0 1, V a b c] (plV r 2 0 1 (ls [a, b, c])) := sp V9_ok Tryz.func217 (by kernel_rfl) (by kernel_rfl) rfl (by kernel_rfl)
theorem place2 (r : Nat → Nat) (a b c : Nat) : FSpec Tryz.prog 217 [lkA r 0 1 2, V a b c] (plV r 0 1 2 (ls [a, b, c])) := sp V9_ok Tryz.func217 (by kernel_rfl) (by kernel_rfl) rfl (by kernel_rfl)
def ePl (z : Nat) : List AV → Option AV
  | [.agg [.f a0, .f a1, .f a2, .f a3, .f a4, .f a5, .x (.int .i64 x), .x (.int .i64 y), .x (.int .i64 w)], .agg [.f a, .f b, .f c]] => cond ((x == (nx z : Int)) && ((y == (ny z : Int)) && (w == (z : Int)))) (some (plV (ls [a0, a1, a2, a3, a4, a5]) (nx z) (ny z) z (ls [a, b, c]))) none
  | _ => none
theorem ePl_ok {z : Nat} (hz : z = 0 ∨ z = 1 ∨ z = 2) : EOk Tryz.prog ⟨217, ePl z⟩ := fun args r hr => by
  simp only [ePl] at hr
  split at hr
  · rename_i a0 a1 a2 a3 a4 a5 x y w a b c
    cases hc : ((x == (nx z : Int)) && ((y == (ny z : Int)) && (w == (z : Int))))
    · rw [hc] at hr; cases hr
    · rw [hc] at hr
      cases hr
      simp only [Bool.and_eq_true, beq_iff_eq] at hc
      obtain ⟨rfl, rfl, rfl⟩ := hc
      rcases hz with rfl | rfl | rfl
      · exact Or.inl (place0 (ls [a0, a1, a2, a3, a4, a5]) a b c)
      · exact Or.inl (place1 (ls [a0, a1, a2, a3, a4, a5]) a b c)
      · exact Or.inl (place2 (ls [a0, a1, a2, a3, a4, a5]) a b c)
  · cases hr
def edS (p q p' q' : Nat) : Nat := fsub (fmul p q') (fmul q p')
theorem sedge (a b c d e f : Nat) : FSpec Tryz.prog 221 [V a b c, V d e f] (.f (edS a b d e)) := sp e_nil Tryz.func221 (by kernel_rfl) (by kernel_rfl) rfl (by kernel_rfl)
def smS (u v w : Nat) : Nat := fadd (fadd u v) w
theorem ssum (u v w : Nat) : FSpec Tryz.prog 220 [V u v w] (.f (smS u v w)) := sp e_nil Tryz.func220 (by kernel_rfl) (by kernel_rfl) rfl (by kernel_rfl)
def eVVV (g : Nat → Nat → Nat → Nat → Nat → Nat → Nat → Nat → Nat → AV) : List AV → Option AV
  | [.agg [.f a, .f b, .f c], .agg [.f d, .f e, .f f], .agg [.f x, .f y, .f z]] => some (g a b c d e f x y z)
  | _ => none
theorem eVVV_ok {f : Nat} {g : Nat → Nat → Nat → Nat → Nat → Nat → Nat → Nat → Nat → AV} (h : ∀ a b c d e f' x y z, FSpec Tryz.prog f [V a b c, V d e f', V x y z] (g a b c d e f' x y z)) : EOk Tryz.prog ⟨f, eVVV g⟩ := fun args r hr => by
  simp only [eVVV] at hr
  split at hr
  · cases hr; exact Or.inl (h _ _ _ _ _ _ _ _ _)
  · cases hr
def W1 : List Entry := ⟨221, eVV fun a b _ d e _ => .f (edS a b d e)⟩ :: ⟨220, eV fun u v w => .f (smS u v w)⟩ :: V9
theorem W1_ok : ∀ e, e ∈ W1 → EOk Tryz.prog e := e_cons (eVV_ok sedge) <| e_cons (eV_ok ssum) V9_ok
def esG (a b d e x y : Nat) : AV := V (edS d e x y) (edS x y a b) (edS a b d e)
theorem sedges (a b c d e f x y z : Nat) : FSpec Tryz.prog 218 [V a b c, V d e f, V x y z] (esG a b d e x y) := sp W1_ok Tryz.func218 (by kernel_rfl) (by kernel_rfl) rfl (by kernel_rfl)
def thB (u v w : Nat) : Bool := cond (cond (flt u 0) true (flt v 0)) true (flt w 0)
def thA (u v w : Nat) : Bool := cond (cond (fgt u 0) true (fgt v 0)) true (fgt w 0)
def thS (u v w : Nat) : Bool := cond (!(cond (thB u v w) (thA u v w) false)) (!feq (smS u v w) 0) false
theorem sthrough (u v w : Nat) : FSpec Tryz.prog 219 [V u v w] (bA (thS u v w)) := sp W1_ok Tryz.func219 (by kernel_rfl) (by kernel_rfl) rfl (by kernel_rfl)
def W2 : List Entry := ⟨218, eVVV fun a b _ d e _ x y _ => esG a b d e x y⟩ :: ⟨219, eV fun u v w => bA (thS u v w)⟩ :: W1
theorem W2_ok : ∀ e, e ∈ W2 → EOk Tryz.prog e := e_cons (eVVV_ok sedges) <| e_cons (eV_ok sthrough) W1_ok
section
variable (a r : Nat → Nat) (z : Nat)
def cA : Nat → Nat := ls [a 0, a 1, a 2]
def cB : Nat → Nat := ls [a 3, a 4, a 5]
def cC : Nat → Nat := ls [a 6, a 7, a 8]
/-- The number of an edge. -/
def trE (p q : Nat → Nat) : Nat := edS (plB r z p (nx z)) (plB r z p (ny z)) (plB r z q (nx z)) (plB r z q (ny z))
def trU : Nat := trE r z (cB a) (cC a)
def trV : Nat := trE r z (cC a) (cA a)
def trW : Nat := trE r z (cA a) (cB a)
def trK : Bool := thS (trU a r z) (trV a r z) (trW a r z)
def trN : Nat := fdiv (fadd (fadd (fmul (trU a r z) (plA r z (cA a))) (fmul (trV a r z) (plA r z (cB a)))) (fmul (trW a r z) (plA r z (cC a)))) (smS (trU a r z) (trV a r z) (trW a r z))
def trT : Nat := cond (trK a r z) (trN a r z) 0
end
section
variable (k : Int) (a : Nat → Nat) (sk : Int) (r : Nat → Nat) (n f : Nat)
noncomputable def lkK (z : Nat) : KEntry := kS Tryz.prog 216 fun _ => lkZ r z
noncomputable def trO (z : Nat) : Option Out := gate (FSpec Tryz.prog 216 [RY r] (lkZ r z)) (cond (!trK a r z) (s2 0 false) (s2 (trN a r z) true))
theorem tri_ev0 : ev Tryz.prog (⟨217, ePl 0⟩ :: W2) [lkK r 0] noL Tryz.f213 [SH k a sk, RY r, .f n, .f f] ret = trO a r 0 := by kernel_rfl
theorem tri_ev1 : ev Tryz.prog (⟨217, ePl 1⟩ :: W2) [lkK r 1] noL Tryz.f213 [SH k a sk, RY r, .f n, .f f] ret = trO a r 1 := by kernel_rfl
theorem tri_ev2 : ev Tryz.prog (⟨217, ePl 2⟩ :: W2) [lkK r 2] noL Tryz.f213 [SH k a sk, RY r, .f n, .f f] ret = trO a r 2 := by kernel_rfl
theorem trO_eq {z : Nat} (h : dpZ r = z) : trO a r z = some (Out.of (.tup [.f (trT a r z), bA (trK a r z)])) := by
  unfold trO trT s2
  rw [gate_pos (by rw [← h]; exact slook r)]
  cases trK a r z <;> rfl
theorem ttri : FSpec Tryz.prog 213 [SH k a sk, RY r, .f n, .f f] (.tup [.f (trT a r (dpZ r)), bA (trK a r (dpZ r))]) := by
  rcases dpZ_lt r with h | h | h
  · rw [h]
    exact gspec (e_cons (ePl_ok (Or.inl rfl)) W2_ok) (k_cons kS_ok k_nil) Tryz.func213 (by kernel_rfl) (by kernel_rfl) noL_ok rfl ((tri_ev0 k a sk r n f).trans (trO_eq a r h))
  · rw [h]
    exact gspec (e_cons (ePl_ok (Or.inr (Or.inl rfl))) W2_ok) (k_cons kS_ok k_nil) Tryz.func213 (by kernel_rfl) (by kernel_rfl) noL_ok rfl ((tri_ev1 k a sk r n f).trans (trO_eq a r h))
  · rw [h]
    exact gspec (e_cons (ePl_ok (Or.inr (Or.inr rfl))) W2_ok) (k_cons kS_ok k_nil) Tryz.func213 (by kernel_rfl) (by kernel_rfl) noL_ok rfl ((tri_ev2 k a sk r n f).trans (trO_eq a r h))
end
end Go.Proofs.YtancjnambbkhmaaGreat.Hs

namespace Go.Proofs.YtancjnambbkhmaaGreat.Hs
open Go.Gv
open Go.Ev (cn fadd fsub fmul fdiv fsqrt fneg feq flt fle fgt fge fabs)

/-- Nought at an axis. -/
def fl3 (z i x : Nat) : Nat := cond (Nat.beq i z) 0 x
/-- The one axis of a vector. -/
def zB (a : Nat → Nat) : Nat := cond (neZ (a 5)) 2 (cond (neZ (a 4)) 1 0)
theorem axI_z (a : Nat → Nat) : axI (a 3) (a 4) (a 5) = (zB a : Nat) := by
  unfold axI zB
  cases neZ (a 5) <;> cases neZ (a 4) <;> cases neZ (a 3) <;> rfl
theorem zB_lt (a : Nat → Nat) : zB a = 0 ∨ zB a = 1 ∨ zB a = 2 := by
  unfold zB
  cases neZ (a 5) <;> cases neZ (a 4) <;> simp
section
variable (k : Int) (a : Nat → Nat) (sk : Int) (r : Nat → Nat) (n f p q u z : Nat)
theorem atube : FSpec Tryz.prog 227 [SH k a sk] (iA (zB a : Nat)) := by
  rw [← axI_z]
  exact sp V8_ok Tryz.func227 (by kernel_rfl) (by kernel_rfl) rfl (by kernel_rfl)
theorem aring : FSpec Tryz.prog 236 [SH k a sk] (iA (zB a : Nat)) := by
  rw [← axI_z]
  exact sp V8_ok Tryz.func236 (by kernel_rfl) (by kernel_rfl) rfl (by kernel_rfl)
noncomputable def tuK (z : Nat) : KEntry := kS Tryz.prog 227 fun _ => iA (z : Nat)
noncomputable def riK (z : Nat) : KEntry := kS Tryz.prog 236 fun _ => iA (z : Nat)
noncomputable def gTu (o : Option Out) : Option Out := gate (FSpec Tryz.prog 227 [SH k a sk] (iA (z : Nat))) o
noncomputable def gRi (o : Option Out) : Option Out := gate (FSpec Tryz.prog 236 [SH k a sk] (iA (z : Nat))) o
def tuE : Nat → Nat := aroundS (a 0) (a 1) (a 2) (fadd (a 0) (a 3)) (fadd (a 1) (a 4)) (fadd (a 2) (a 5))
def tubeB : Nat → Nat := ls [fsub (tuE a 0) (fl3 z 0 (a 9)), fsub (tuE a 1) (fl3 z 1 (a 9)), fsub (tuE a 2) (fl3 z 2 (a 9)), fadd (tuE a 3) (fl3 z 0 (a 9)), fadd (tuE a 4) (fl3 z 1 (a 9)), fadd (tuE a 5) (fl3 z 2 (a 9))]
def riA (i : Nat) : Nat := fadd (fl3 z i (a 9)) (a 10)
def ringB : Nat → Nat := ls [fsub (a 0) (riA a z 0), fsub (a 1) (riA a z 1), fsub (a 2) (riA a z 2), fadd (a 0) (riA a z 0), fadd (a 1) (riA a z 1), fadd (a 2) (riA a z 2)]
theorem btube_ev0 : ev Tryz.prog V8 [tuK 0] noL Tryz.f228 [SH k a sk] ret = gTu k a sk 0 (some (Out.of (BX (tubeB a 0)))) := by kernel_rfl
theorem btube_ev1 : ev Tryz.prog V8 [tuK 1] noL Tryz.f228 [SH k a sk] ret = gTu k a sk 1 (some (Out.of (BX (tubeB a 1)))) := by kernel_rfl
theorem btube_ev2 : ev Tryz.prog V8 [tuK 2] noL Tryz.f228 [SH k a sk] ret = gTu k a sk 2 (some (Out.of (BX (tubeB a 2)))) := by kernel_rfl
theorem bring_ev0 : ev Tryz.prog V8 [riK 0] noL Tryz.f237 [SH k a sk] ret = gRi k a sk 0 (some (Out.of (BX (ringB a 0)))) := by kernel_rfl
theorem bring_ev1 : ev Tryz.prog V8 [riK 1] noL Tryz.f237 [SH k a sk] ret = gRi k a sk 1 (some (Out.of (BX (ringB a 1)))) := by kernel_rfl
theorem bring_ev2 : ev Tryz.prog V8 [riK 2] noL Tryz.f237 [SH k a sk] ret = gRi k a sk 2 (some (Out.of (BX (ringB a 2)))) := by kernel_rfl
theorem gTu_pos {z : Nat} {o : Option Out} (h : zB a = z) : gTu k a sk z o = o := gate_pos (by rw [← h]; exact atube k a sk)
theorem gRi_pos {z : Nat} {o : Option Out} (h : zB a = z) : gRi k a sk z o = o := gate_pos (by rw [← h]; exact aring k a sk)
theorem btube : FSpec Tryz.prog 228 [SH k a sk] (BX (tubeB a (zB a))) := by
  rcases zB_lt a with h | h | h
  · rw [h]; exact gspec V8_ok (k_cons kS_ok k_nil) Tryz.func228 (by kernel_rfl) (by kernel_rfl) noL_ok rfl ((btube_ev0 k a sk).trans (gTu_pos k a sk h))
  · rw [h]; exact gspec V8_ok (k_cons kS_ok k_nil) Tryz.func228 (by kernel_rfl) (by kernel_rfl) noL_ok rfl ((btube_ev1 k a sk).trans (gTu_pos k a sk h))
  · rw [h]; exact gspec V8_ok (k_cons kS_ok k_nil) Tryz.func228 (by kernel_rfl) (by kernel_rfl) noL_ok rfl ((btube_ev2 k a sk).trans (gTu_pos k a sk h))
theorem bring : FSpec Tryz.prog 237 [SH k a sk] (BX (ringB a (zB a))) := by
  rcases zB_lt a with h | h | h
  · rw [h]; exact gspec V8_ok (k_cons kS_ok k_nil) Tryz.func237 (by kernel_rfl) (by kernel_rfl) noL_ok rfl ((bring_ev0 k a sk).trans (gRi_pos k a sk h))
  · rw [h]; exact gspec V8_ok (k_cons kS_ok k_nil) Tryz.func237 (by kernel_rfl) (by kernel_rfl) noL_ok rfl ((bring_ev1 k a sk).trans (gRi_pos k a sk h))
  · rw [h]; exact gspec V8_ok (k_cons kS_ok k_nil) Tryz.func237 (by kernel_rfl) (by kernel_rfl) noL_ok rfl ((bring_ev2 k a sk).trans (gRi_pos k a sk h))
def tbO (i : Nat) : Nat := fl3 z i (fsub (r i) (a i))
def tbD (i : Nat) : Nat := fl3 z i (r (3 + i))
def tbo : Nat → Nat := ls [tbO a r z 0, tbO a r z 1, tbO a r z 2]
def tbd : Nat → Nat := ls [tbD r z 0, tbD r z 1, tbD r z 2]
def tbZ : Bool := feq (tbD r z 0) 0 && (feq (tbD r z 1) 0 && (feq (tbD r z 2) 0 && true))
def tbA : Bool := alK (tbO a r z 0) (tbO a r z 1) (tbO a r z 2) (a 9)
def tbB : Bool := abK (tbo a r z) (tbd r z) (a 9)
def tbP : Nat := abN (tbo a r z) (tbd r z) (a 9)
def tbQ : Nat := abF (tbo a r z) (tbd r z) (a 9)
def tbI : Nat := cond (fgt (tbP a r z) n) (tbP a r z) n
def tbU : Nat := cond (flt (tbQ a r z) f) (tbQ a r z) f
def tbK : Bool := cond (tbZ r z) (tbA a r z) (cond (tbB a r z) (!fgt (tbI a r n z) (tbU a r f z)) false)
def tbN : Nat := cond (tbK a r n f z) (cond (tbZ r z) n (tbI a r n z)) 0
def tbF : Nat := cond (tbK a r n f z) (cond (tbZ r z) f (tbU a r f z)) 0
def tbY (i o : Nat) : Option Out := cond (fgt i o) (ab3 0 0 false) (ab3 i o true)
def tbX : Option Out := cond (tbZ r z) (some (Out.of (alV (tbO a r z 0) (tbO a r z 1) (tbO a r z 2) (a 9) n f))) (cond (!tbB a r z) (ab3 0 0 false)
  (cond (!fgt (tbP a r z) n) (cond (!flt (tbQ a r z) f) (tbY n f) (tbY n (tbQ a r z))) (cond (!flt (tbQ a r z) f) (tbY (tbP a r z) f) (tbY (tbP a r z) (tbQ a r z)))))
def tbV : AV := .tup [.f (tbN a r n f z), .f (tbF a r n f z), bA (tbK a r n f z)]
theorem tbX_eq : tbX a r n f z = some (Out.of (tbV a r n f z)) := by
  unfold tbX tbV tbN tbF tbK tbI tbU alV tbY ab3
  rw [show alK (tbO a r z 0) (tbO a r z 1) (tbO a r z 2) (a 9) = tbA a r z from rfl]
  cases tbZ r z
  · cases tbB a r z
    · rfl
    · cases fgt (tbP a r z) n <;> cases flt (tbQ a r z) f <;> simp only [cond_true, cond_false, Bool.not_true, Bool.not_false]
      · cases fgt n f <;> rfl
      · cases fgt n (tbQ a r z) <;> rfl
      · cases fgt (tbP a r z) f <;> rfl
      · cases fgt (tbP a r z) (tbQ a r z) <;> rfl
  · cases tbA a r z <;> rfl
theorem itube_ev0 : ev Tryz.prog V8 [tuK 0] noL Tryz.f229 [SH k a sk, RY r, .f n, .f f] ret = gTu k a sk 0 (tbX a r n f 0) := by kernel_rfl
theorem itube_ev1 : ev Tryz.prog V8 [tuK 1] noL Tryz.f229 [SH k a sk, RY r, .f n, .f f] ret = gTu k a sk 1 (tbX a r n f 1) := by kernel_rfl
theorem itube_ev2 : ev Tryz.prog V8 [tuK 2] noL Tryz.f229 [SH k a sk, RY r, .f n, .f f] ret = gTu k a sk 2 (tbX a r n f 2) := by kernel_rfl
theorem itube : FSpec Tryz.prog 229 [SH k a sk, RY r, .f n, .f f] (tbV a r n f (zB a)) := by
  rcases zB_lt a with h | h | h
  · rw [h]; exact gspec V8_ok (k_cons kS_ok k_nil) Tryz.func229 (by kernel_rfl) (by kernel_rfl) noL_ok rfl ((itube_ev0 k a sk r n f).trans ((gTu_pos k a sk h).trans (tbX_eq a r n f 0)))
  · rw [h]; exact gspec V8_ok (k_cons kS_ok k_nil) Tryz.func229 (by kernel_rfl) (by kernel_rfl) noL_ok rfl ((itube_ev1 k a sk r n f).trans ((gTu_pos k a sk h).trans (tbX_eq a r n f 1)))
  · rw [h]; exact gspec V8_ok (k_cons kS_ok k_nil) Tryz.func229 (by kernel_rfl) (by kernel_rfl) noL_ok rfl ((itube_ev2 k a sk r n f).trans ((gTu_pos k a sk h).trans (tbX_eq a r n f 2)))
def tubT : Nat := cond (tbK a r n f z) (cond (fgt (tbN a r n f z) (r 6)) (tbN a r n f z) (tbF a r n f z)) 0
def X0 : List Entry := ⟨229, eSYFF fun a r n f => tbV a r n f (zB a)⟩ :: V9
theorem X0_ok : ∀ e, e ∈ X0 → EOk Tryz.prog e := e_cons (eSYFF_ok itube) V9_ok
theorem ttube : FSpec Tryz.prog 232 [SH k a sk, RY r, .f n, .f f] (.tup [.f (tubT a r n f (zB a)), bA (tbK a r n f (zB a))]) := by
  refine sp X0_ok Tryz.func232 (by kernel_rfl) (by kernel_rfl) rfl ((show ev Tryz.prog X0 [] noL Tryz.f232 [SH k a sk, RY r, .f n, .f f] ret = cond (!tbK a r n f (zB a)) (s2 0 false) (cond (fgt (tbN a r n f (zB a)) (r 6)) (s2 (tbN a r n f (zB a)) true) (s2 (tbF a r n f (zB a)) true)) by kernel_rfl).trans ?_)
  unfold tubT s2
  cases tbK a r n f (zB a) <;> cases fgt (tbN a r n f (zB a)) (r 6) <;> rfl
end
end Go.Proofs.YtancjnambbkhmaaGreat.Hs

namespace Go.Proofs.YtancjnambbkhmaaGreat.Hs
open Go.Gv
open Go.Ev (cn fadd fsub fmul fdiv fsqrt fneg feq flt fle fgt fge fabs)

def eKd : List AV → Option AV
  | [.agg [.x (.int .i64 k), .f a0, .f a1, .f a2, .f a3, .f a4, .f a5, .f a6, .f a7, .f a8, .f a9, .f a10, .x (.int .i64 sk)]] => cond (k == 1) (some (.ifc 145 (.agg [.x (.int .i64 k), .f a0, .f a1, .f a2, .f a3, .f a4, .f a5, .f a6, .f a7, .f a8, .f a9, .f a10, .x (.int .i64 sk)]))) (cond (k == 2) (some (.ifc 146 (.agg [.x (.int .i64 k), .f a0, .f a1, .f a2, .f a3, .f a4, .f a5, .f a6, .f a7, .f a8, .f a9, .f a10, .x (.int .i64 sk)]))) (cond (k == 3) (some (.ifc 147 (.agg [.x (.int .i64 k), .f a0, .f a1, .f a2, .f a3, .f a4, .f a5, .f a6, .f a7, .f a8, .f a9, .f a10, .x (.int .i64 sk)]))) (cond (k == 4) (some (.ifc 148 (.agg [.x (.int .i64 k), .f a0, .f a1, .f a2, .f a3, .f a4, .f a5, .f a6, .f a7, .f a8, .f a9, .f a10, .x (.int .i64 sk)]))) (cond (k == 5) (some (.ifc 149 (.agg [.x (.int .i64 k), .f a0, .f a1, .f a2, .f a3, .f a4, .f a5, .f a6, .f a7, .f a8, .f a9, .f a10, .x (.int .i64 sk)]))) (cond (k == 6) (some (.ifc 150 (.agg [.x (.int .i64 k), .f a0, .f a1, .f a2, .f a3, .f a4, .f a5, .f a6, .f a7, .f a8, .f a9, .f a10, .x (.int .i64 sk)]))) (none))))))
  | _ => none
theorem kd_ev (k : Int) (a : Nat → Nat) (sk : Int) : ev Tryz.prog [] [] noL Tryz.f82 [SH k a sk] ret = cond (k == 1) (some (Out.of (.ifc 145 (SH k a sk)))) (cond (k == 2) (some (Out.of (.ifc 146 (SH k a sk)))) (cond (k == 3) (some (Out.of (.ifc 147 (SH k a sk)))) (cond (k == 4) (some (Out.of (.ifc 148 (SH k a sk)))) (cond (k == 5) (some (Out.of (.ifc 149 (SH k a sk)))) (cond (k == 6) (some (Out.of (.ifc 150 (SH k a sk)))) (some (Out.of (.x .nilIface)))))))) := by kernel_rfl
theorem eKd_ok : EOk Tryz.prog ⟨82, eKd⟩ := fun args r hr => by
  simp only [eKd] at hr
  split at hr
  · rename_i k a0 a1 a2 a3 a4 a5 a6 a7 a8 a9 a10 sk
    refine Or.inl (sp e_nil Tryz.func82 (by kernel_rfl) (by kernel_rfl) rfl ((kd_ev k (ls [a0, a1, a2, a3, a4, a5, a6, a7, a8, a9, a10]) sk).trans ?_))
    cases h1 : k == 1
    case true => rw [h1] at hr; cases hr; rfl
    case false =>
    cases h2 : k == 2
    case true => rw [h1, h2] at hr; cases hr; rfl
    case false =>
    cases h3 : k == 3
    case true => rw [h1, h2, h3] at hr; cases hr; rfl
    case false =>
    cases h4 : k == 4
    case true => rw [h1, h2, h3, h4] at hr; cases hr; rfl
    case false =>
    cases h5 : k == 5
    case true => rw [h1, h2, h3, h4, h5] at hr; cases hr; rfl
    case false =>
    cases h6 : k == 6
    case true => rw [h1, h2, h3, h4, h5, h6] at hr; cases hr; rfl
    case false =>
    rw [h1, h2, h3, h4, h5, h6] at hr; cases hr
  · cases hr
def skB (sk : Int) : Bool := cond (decide (sk < 0)) true (decide (sk ≥ 16))
def rcB (a : Nat → Nat) : Bool := cond (cond (cond (cond (!fineS (a 0) (a 1) (a 2)) true (!fineS (a 3) (a 4) (a 5))) true (!fineS (a 6) (a 7) (a 8))) true (!nearS (a 9))) true (!nearS (a 10))
def kbad (e : Int) : Option Out := some (Out.of (.tup [.x .nilIface, iA e]))
def kgood (T : Nat) (v : AV) : Option Out := some (Out.of (.tup [.ifc T v, iA 0]))
def knX (a : Nat → Nat) (sk m : Int) (b : Nat → Nat) (o : Option Out) : Option Out := cond (skB sk) (kbad 4) (cond (rcB a) (kbad 1) (cond (!(m == 0)) (kbad m) (cond (!(mayS b == 0)) (kbad 1) o)))
/-- The errno of what asks for m and has the box b. -/
def knE (a : Nat → Nat) (sk m : Int) (b : Nat → Nat) : Int := cond (skB sk) 4 (cond (rcB a) 1 (cond (!(m == 0)) m (cond (!(mayS b == 0)) 1 0)))
theorem knX_good {a : Nat → Nat} {sk m : Int} {b : Nat → Nat} {o : Option Out} (h : knE a sk m b = 0) : knX a sk m b o = o := by
  unfold knE at h
  unfold knX
  cases h1 : skB sk
  · rw [h1] at h
    cases h2 : rcB a
    · rw [h2] at h
      cases h3 : (m == 0)
      · rw [h3] at h
        have h : m = 0 := h
        rw [h] at h3; cases h3
      · rw [h3] at h
        cases h4 : (mayS b == 0)
        · rw [h4] at h; cases h
        · rfl
    · rw [h2] at h; cases h
  · rw [h1] at h; cases h
theorem knX_bad {a : Nat → Nat} {sk m : Int} {b : Nat → Nat} {o : Option Out} (h : knE a sk m b ≠ 0) : knX a sk m b o = kbad (knE a sk m b) := by
  unfold knE at h ⊢
  unfold knX
  cases h1 : skB sk
  · cases h2 : rcB a
    · cases h3 : (m == 0)
      · rfl
      · cases h4 : (mayS b == 0)
        · rfl
        · rw [h1, h2, h3, h4] at h
          exact absurd rfl h
    · rfl
  · rfl
def X1 : List Entry := ⟨82, eKd⟩ :: ⟨196, eS fun a => iA (ballM a)⟩ :: ⟨194, eS fun a => BX (cubeB a)⟩ :: ⟨205, eS fun a => iA (blockM a)⟩ :: ⟨203, eS fun a => BX (blockB a)⟩ :: ⟨211, eS fun a => BX (triB a)⟩ :: ⟨223, eS fun a => iA (plateM a)⟩ :: ⟨222, eS fun a => BX (cubeB a)⟩ :: ⟨230, eS fun a => iA (tubeM a)⟩ :: ⟨228, eS fun a => BX (tubeB a (zB a))⟩ :: ⟨238, eS fun a => iA (ringM a)⟩ :: ⟨237, eS fun a => BX (ringB a (zB a))⟩ ::  X0
theorem X1_ok : ∀ e, e ∈ X1 → EOk Tryz.prog e := e_cons eKd_ok <| e_cons (eS_ok mball) <| e_cons (eS_ok bball) <| e_cons (eS_ok mblock) <| e_cons (eS_ok bblock) <| e_cons (eS_ok btri) <| e_cons (eS_ok mplate) <| e_cons (eS_ok bplate) <| e_cons (eS_ok mtube) <| e_cons (eS_ok btube) <| e_cons (eS_ok mring) <| e_cons (eS_ok bring) <|  X0_ok
section
variable (a : Nat → Nat) (sk : Int)
theorem kn1_ev : ev Tryz.prog X1 [] noL Tryz.f38 [SH 1 a sk] ret = knX a sk (ballM a) (cubeB a) (kgood 145 (SH 1 a sk)) := by kernel_rfl
def e1 : Int := knE a sk (ballM a) (cubeB a)
theorem kn1_good (h : e1 a sk = 0) : FSpec Tryz.prog 38 [SH 1 a sk] (.tup [.ifc 145 (SH 1 a sk), iA 0]) := sp X1_ok Tryz.func38 (by kernel_rfl) (by kernel_rfl) rfl ((kn1_ev a sk).trans (knX_good (m := ballM a) (b := cubeB a) h))
theorem kn1_bad (h : e1 a sk ≠ 0) : FSpec Tryz.prog 38 [SH 1 a sk] (.tup [.x .nilIface, iA (e1 a sk)]) := sp X1_ok Tryz.func38 (by kernel_rfl) (by kernel_rfl) rfl ((kn1_ev a sk).trans (knX_bad (m := ballM a) (b := cubeB a) (o := kgood 145 (SH 1 a sk)) h))
theorem kn2_ev : ev Tryz.prog X1 [] noL Tryz.f38 [SH 2 a sk] ret = knX a sk (blockM a) (blockB a) (kgood 146 (SH 2 a sk)) := by kernel_rfl
def e2 : Int := knE a sk (blockM a) (blockB a)
theorem kn2_good (h : e2 a sk = 0) : FSpec Tryz.prog 38 [SH 2 a sk] (.tup [.ifc 146 (SH 2 a sk), iA 0]) := sp X1_ok Tryz.func38 (by kernel_rfl) (by kernel_rfl) rfl ((kn2_ev a sk).trans (knX_good (m := blockM a) (b := blockB a) h))
theorem kn2_bad (h : e2 a sk ≠ 0) : FSpec Tryz.prog 38 [SH 2 a sk] (.tup [.x .nilIface, iA (e2 a sk)]) := sp X1_ok Tryz.func38 (by kernel_rfl) (by kernel_rfl) rfl ((kn2_ev a sk).trans (knX_bad (m := blockM a) (b := blockB a) (o := kgood 146 (SH 2 a sk)) h))
theorem kn3_ev : ev Tryz.prog X1 [] noL Tryz.f38 [SH 3 a sk] ret = cond (skB sk) (kbad 4) (cond (rcB a) (kbad 1) (cond (!(mayS (triB a) == 0)) (kbad 1) (kgood 147 (SH 3 a sk)))) := by kernel_rfl
def e3 : Int := knE a sk (0) (triB a)
theorem kn3_good (h : e3 a sk = 0) : FSpec Tryz.prog 38 [SH 3 a sk] (.tup [.ifc 147 (SH 3 a sk), iA 0]) := sp X1_ok Tryz.func38 (by kernel_rfl) (by kernel_rfl) rfl ((kn3_ev a sk).trans (knX_good (m := 0) (b := triB a) h))
theorem kn3_bad (h : e3 a sk ≠ 0) : FSpec Tryz.prog 38 [SH 3 a sk] (.tup [.x .nilIface, iA (e3 a sk)]) := sp X1_ok Tryz.func38 (by kernel_rfl) (by kernel_rfl) rfl ((kn3_ev a sk).trans (knX_bad (m := 0) (b := triB a) (o := kgood 147 (SH 3 a sk)) h))
theorem kn4_ev : ev Tryz.prog X1 [] noL Tryz.f38 [SH 4 a sk] ret = knX a sk (plateM a) (cubeB a) (kgood 148 (SH 4 a sk)) := by kernel_rfl
def e4 : Int := knE a sk (plateM a) (cubeB a)
theorem kn4_good (h : e4 a sk = 0) : FSpec Tryz.prog 38 [SH 4 a sk] (.tup [.ifc 148 (SH 4 a sk), iA 0]) := sp X1_ok Tryz.func38 (by kernel_rfl) (by kernel_rfl) rfl ((kn4_ev a sk).trans (knX_good (m := plateM a) (b := cubeB a) h))
theorem kn4_bad (h : e4 a sk ≠ 0) : FSpec Tryz.prog 38 [SH 4 a sk] (.tup [.x .nilIface, iA (e4 a sk)]) := sp X1_ok Tryz.func38 (by kernel_rfl) (by kernel_rfl) rfl ((kn4_ev a sk).trans (knX_bad (m := plateM a) (b := cubeB a) (o := kgood 148 (SH 4 a sk)) h))
theorem kn5_ev : ev Tryz.prog X1 [] noL Tryz.f38 [SH 5 a sk] ret = knX a sk (tubeM a) (tubeB a (zB a)) (kgood 149 (SH 5 a sk)) := by kernel_rfl
def e5 : Int := knE a sk (tubeM a) (tubeB a (zB a))
theorem kn5_good (h : e5 a sk = 0) : FSpec Tryz.prog 38 [SH 5 a sk] (.tup [.ifc 149 (SH 5 a sk), iA 0]) := sp X1_ok Tryz.func38 (by kernel_rfl) (by kernel_rfl) rfl ((kn5_ev a sk).trans (knX_good (m := tubeM a) (b := tubeB a (zB a)) h))
theorem kn5_bad (h : e5 a sk ≠ 0) : FSpec Tryz.prog 38 [SH 5 a sk] (.tup [.x .nilIface, iA (e5 a sk)]) := sp X1_ok Tryz.func38 (by kernel_rfl) (by kernel_rfl) rfl ((kn5_ev a sk).trans (knX_bad (m := tubeM a) (b := tubeB a (zB a)) (o := kgood 149 (SH 5 a sk)) h))
theorem kn6_ev : ev Tryz.prog X1 [] noL Tryz.f38 [SH 6 a sk] ret = knX a sk (ringM a) (ringB a (zB a)) (kgood 150 (SH 6 a sk)) := by kernel_rfl
def e6 : Int := knE a sk (ringM a) (ringB a (zB a))
theorem kn6_good (h : e6 a sk = 0) : FSpec Tryz.prog 38 [SH 6 a sk] (.tup [.ifc 150 (SH 6 a sk), iA 0]) := sp X1_ok Tryz.func38 (by kernel_rfl) (by kernel_rfl) rfl ((kn6_ev a sk).trans (knX_good (m := ringM a) (b := ringB a (zB a)) h))
theorem kn6_bad (h : e6 a sk ≠ 0) : FSpec Tryz.prog 38 [SH 6 a sk] (.tup [.x .nilIface, iA (e6 a sk)]) := sp X1_ok Tryz.func38 (by kernel_rfl) (by kernel_rfl) rfl ((kn6_ev a sk).trans (knX_bad (m := ringM a) (b := ringB a (zB a)) (o := kgood 150 (SH 6 a sk)) h))
end
/-- A kind that there is none of. -/
def kOther (k : Int) : Prop := k ≠ 1 ∧ k ≠ 2 ∧ k ≠ 3 ∧ k ≠ 4 ∧ k ≠ 5 ∧ k ≠ 6
def e0 (a : Nat → Nat) (sk : Int) : Int := cond (skB sk) 4 (cond (rcB a) 1 3)
theorem kd0 {k : Int} (h : kOther k) (a : Nat → Nat) (sk : Int) : FSpec Tryz.prog 82 [SH k a sk] (.x .nilIface) := by
  obtain ⟨h1, h2, h3, h4, h5, h6⟩ := h
  refine sp e_nil Tryz.func82 (by kernel_rfl) (by kernel_rfl) rfl ((kd_ev k a sk).trans ?_)
  rw [beq_false_of_ne h1, beq_false_of_ne h2, beq_false_of_ne h3, beq_false_of_ne h4, beq_false_of_ne h5, beq_false_of_ne h6]
  rfl
theorem kn0_ev (k : Int) (a : Nat → Nat) (sk : Int) : ev Tryz.prog X0 [kS Tryz.prog 82 fun _ => .x .nilIface] noL Tryz.f38 [SH k a sk] ret = cond (skB sk) (kbad 4) (cond (rcB a) (kbad 1) (gate (FSpec Tryz.prog 82 [SH k a sk] (.x .nilIface)) (kbad 3))) := by kernel_rfl
theorem kn0_bad {k : Int} (h : kOther k) (a : Nat → Nat) (sk : Int) : FSpec Tryz.prog 38 [SH k a sk] (.tup [.x .nilIface, iA (e0 a sk)]) := by
  refine gspec X0_ok (k_cons kS_ok k_nil) Tryz.func38 (by kernel_rfl) (by kernel_rfl) noL_ok rfl ((kn0_ev k a sk).trans ?_)
  rw [gate_pos (kd0 h a sk)]
  unfold e0
  cases skB sk <;> cases rcB a <;> rfl
theorem e0_ne (a : Nat → Nat) (sk : Int) : e0 a sk ≠ 0 := by
  unfold e0
  cases skB sk <;> cases rcB a <;> simp
end Go.Proofs.YtancjnambbkhmaaGreat.Hs

namespace Go.Proofs.YtancjnambbkhmaaGreat.Hs
open Go.Gv
open Go.Ev (cn fadd fsub fmul fdiv fsqrt fneg feq flt fle fgt fge fabs isNan cn_of_not)

def infF : Nat := 9218868437227405312
def neg1 : Nat := 13830554455654793216
theorem fromX {f : Nat} {fn : Func} (hf : Tryz.prog.funcs[f]? = some fn) (hname : (fn.name == "runtime.NumGoroutine") = false) (hb : fn.body.isNone = true) (hn : Extern.findNext fn = none)
    (he : Extern.find fn = some Extern.MathFloatBits.float64frombits) : XSpec Tryz.prog f [.x (.int .u64 9218868437227405312)] (.f infF) := fun E cargs hv => by
  obtain ⟨l⟩ := cargs
  obtain ⟨v, t, e1, h1, h2⟩ := rels_cons.1 hv
  have e2 := rels_nil.1 h2
  have e4 := rel_x.1 h1
  have e3 : l = [.int .u64 9218868437227405312] := by rw [e2, e4] at e1; exact e1
  subst e3
  refine ⟨.float .f64 infF, E.w, ?_, Or.inl rfl, rel_f.2 ⟨infF, rfl, cn_of_not (by decide +kernel)⟩⟩
  rw [run_callFunc_extern hf hname hb hn he]
  rfl
def eFb : List AV → Option AV
  | [.x (.int .u64 n)] => cond (n == 9218868437227405312) (some (.f infF)) none
  | _ => none
theorem eFb_ok : EOk Tryz.prog ⟨121, eFb⟩ := fun args r hr => by
  simp only [eFb] at hr
  split at hr
  · rename_i n
    cases h : n == 9218868437227405312
    · rw [h] at hr; cases hr
    · rw [h] at hr; cases hr
      rw [eq_of_beq h]
      exact Or.inr (fromX Tryz.func121 (by kernel_rfl) (by kernel_rfl) (by kernel_rfl) (by kernel_rfl))
  · cases hr
theorem minf : FSpec Tryz.prog 209 [iA 1] (.f infF) := sp (e_cons eFb_ok e_nil) Tryz.func209 (by kernel_rfl) (by kernel_rfl) rfl (by kernel_rfl)
def eInf : List AV → Option AV
  | [.x (.int .i64 n)] => cond (n == 1) (some (.f infF)) none
  | _ => none
theorem eInf_ok : EOk Tryz.prog ⟨209, eInf⟩ := fun args r hr => by
  simp only [eInf] at hr
  split at hr
  · rename_i n
    cases h : n == 1
    · rw [h] at hr; cases hr
    · rw [h] at hr; cases hr; rw [eq_of_beq h]; exact Or.inl minf
  · cases hr
def X2 : List Entry := ⟨209, eInf⟩ :: X1
theorem X2_ok : ∀ e, e ∈ X2 → EOk Tryz.prog e := e_cons eInf_ok X1_ok
/-- Which side is nearest: 0 to 2 below, 3 to 5 above. -/
def sdC (s c : Nat) : Nat := cond (Nat.beq s c) neg1 (cond (Nat.beq s (3 + c)) one 0)
def sdV (s : Nat) : AV := V (sdC s 0) (sdC s 1) (sdC s 2)
def sdS {α : Type} (i dl dh least s : Nat) (k : Nat → Nat → α) : α := cond (flt dl least) (cond (flt dh dl) (k dh (3 + i)) (k dl i)) (cond (flt dh least) (k dh (3 + i)) (k least s))
def sdL (a : Nat → Nat) (p : Nat → Nat) (i : Nat) : Nat := fabs (fsub (p i) (a i))
def sdH (a : Nat → Nat) (p : Nat → Nat) (i : Nat) : Nat := fabs (fsub (a (3 + i)) (p i))
def sdT {α : Type} (a p : Nat → Nat) (least : Nat) (k : Nat → Nat → α) : α := sdS 0 (sdL a p 0) (sdH a p 0) least 0 fun l s => sdS 1 (sdL a p 1) (sdH a p 1) l s fun l s => sdS 2 (sdL a p 2) (sdH a p 2) l s k
/-- The nearest side, from the least so far on. -/
def sdN (a p : Nat → Nat) (least : Nat) : Nat := sdT a p least fun _ s => s
theorem sdS_map {α β : Type} (g : α → β) (i dl dh least s : Nat) (k : Nat → Nat → α) : g (sdS i dl dh least s k) = sdS i dl dh least s fun l s => g (k l s) := by
  unfold sdS
  cases flt dl least <;> cases flt dh dl <;> cases flt dh least <;> rfl
theorem sdT_map {α β : Type} (g : α → β) (a p : Nat → Nat) (least : Nat) (k : Nat → Nat → α) : g (sdT a p least k) = sdT a p least fun l s => g (k l s) := by
  unfold sdT
  refine (sdS_map g ..).trans (congrArg _ (funext fun l => funext fun s => ?_))
  refine (sdS_map g ..).trans (congrArg _ (funext fun l => funext fun s => ?_))
  exact sdS_map g ..
section
variable (k : Int) (a : Nat → Nat) (sk : Int) (p q u : Nat)
theorem nblock_ev : ev Tryz.prog X2 [] noL Tryz.f206 [SH k a sk, V p q u] ret = sdT a (ls [p, q, u]) infF fun _ s => some (Out.of (sdV s)) := by kernel_rfl
theorem nblock : FSpec Tryz.prog 206 [SH k a sk, V p q u] (sdV (sdN a (ls [p, q, u]) infF)) :=
  sp X2_ok Tryz.func206 (by kernel_rfl) (by kernel_rfl) rfl ((nblock_ev k a sk p q u).trans (sdT_map (fun s => some (Out.of (sdV s))) a (ls [p, q, u]) infF fun _ s => s).symm)
variable (z : Nat)
def tnQ (i : Nat) : Nat := fl3 z i (fsub (ls [p, q, u] i) (a i))
def tnL : Nat := fabs (fsub (lengthS (tnQ a p q u z 0) (tnQ a p q u z 1) (tnQ a p q u z 2)) (a 9))
def tnA : Nat := fsub (ls [p, q, u] z) (a z)
def tnE : Nat := fabs (fsub (tnA a p q u z) (a (3 + z)))
def tnS {α : Type} (kq kb kn : α) : α := cond (flt (fabs (tnA a p q u z)) (tnL a p q u z)) (cond (flt (tnE a p q u z) (fabs (tnA a p q u z))) kb kn) (cond (flt (tnE a p q u z) (tnL a p q u z)) kb kq)
def tnC (i : Nat) : Nat := tnS a p q u z (tnQ a p q u z i) (a (3 + i)) (fmul (a (3 + i)) neg1)
def tnV : AV := V (tnC a p q u z 0) (tnC a p q u z 1) (tnC a p q u z 2)
def oV (x y w : Nat) : Option Out := some (Out.of (V x y w))
noncomputable def tnX : Option Out := gTu k a sk z (tnS a p q u z (oV (tnQ a p q u z 0) (tnQ a p q u z 1) (tnQ a p q u z 2)) (oV (a 3) (a 4) (a 5)) (oV (fmul (a 3) neg1) (fmul (a 4) neg1) (fmul (a 5) neg1)))
theorem tn_eq : tnS a p q u z (oV (tnQ a p q u z 0) (tnQ a p q u z 1) (tnQ a p q u z 2)) (oV (a 3) (a 4) (a 5)) (oV (fmul (a 3) neg1) (fmul (a 4) neg1) (fmul (a 5) neg1)) = some (Out.of (tnV a p q u z)) := by
  unfold tnV tnC tnS oV
  cases flt (fabs (tnA a p q u z)) (tnL a p q u z) <;> cases flt (tnE a p q u z) (fabs (tnA a p q u z)) <;> cases flt (tnE a p q u z) (tnL a p q u z) <;> rfl
theorem ntube_ev0 : ev Tryz.prog X2 [tuK 0] noL Tryz.f231 [SH k a sk, V p q u] ret = tnX k a sk p q u 0 := by kernel_rfl
theorem ntube_ev1 : ev Tryz.prog X2 [tuK 1] noL Tryz.f231 [SH k a sk, V p q u] ret = tnX k a sk p q u 1 := by kernel_rfl
theorem ntube_ev2 : ev Tryz.prog X2 [tuK 2] noL Tryz.f231 [SH k a sk, V p q u] ret = tnX k a sk p q u 2 := by kernel_rfl
theorem ntube : FSpec Tryz.prog 231 [SH k a sk, V p q u] (tnV a p q u (zB a)) := by
  rcases zB_lt a with h | h | h
  · rw [h]; exact gspec X2_ok (k_cons kS_ok k_nil) Tryz.func231 (by kernel_rfl) (by kernel_rfl) noL_ok rfl ((ntube_ev0 k a sk p q u).trans ((gTu_pos k a sk h).trans (tn_eq a p q u 0)))
  · rw [h]; exact gspec X2_ok (k_cons kS_ok k_nil) Tryz.func231 (by kernel_rfl) (by kernel_rfl) noL_ok rfl ((ntube_ev1 k a sk p q u).trans ((gTu_pos k a sk h).trans (tn_eq a p q u 1)))
  · rw [h]; exact gspec X2_ok (k_cons kS_ok k_nil) Tryz.func231 (by kernel_rfl) (by kernel_rfl) noL_ok rfl ((ntube_ev2 k a sk p q u).trans ((gTu_pos k a sk h).trans (tn_eq a p q u 2)))
def rnL : Nat := lengthS (tnQ a p q u z 0) (tnQ a p q u z 1) (tnQ a p q u z 2)
def rnB (i : Nat) : Nat := fsub (fsub (ls [p, q, u] i) (a i)) (fmul (tnQ a p q u z i) (fdiv (a 9) (rnL a p q u z)))
def rnC (i : Nat) : Nat := cond (fgt (rnL a p q u z) 0) (rnB a p q u z i) 0
def rnV : AV := V (rnC a p q u z 0) (rnC a p q u z 1) (rnC a p q u z 2)
noncomputable def rnX : Option Out := gRi k a sk z (cond (!fgt (rnL a p q u z) 0) (oV 0 0 0) (oV (rnB a p q u z 0) (rnB a p q u z 1) (rnB a p q u z 2)))
theorem rn_eq : cond (!fgt (rnL a p q u z) 0) (oV 0 0 0) (oV (rnB a p q u z 0) (rnB a p q u z 1) (rnB a p q u z 2)) = some (Out.of (rnV a p q u z)) := by
  unfold rnV rnC oV
  cases fgt (rnL a p q u z) 0 <;> rfl
theorem nring_ev0 : ev Tryz.prog X2 [riK 0] noL Tryz.f239 [SH k a sk, V p q u] ret = rnX k a sk p q u 0 := by kernel_rfl
theorem nring_ev1 : ev Tryz.prog X2 [riK 1] noL Tryz.f239 [SH k a sk, V p q u] ret = rnX k a sk p q u 1 := by kernel_rfl
theorem nring_ev2 : ev Tryz.prog X2 [riK 2] noL Tryz.f239 [SH k a sk, V p q u] ret = rnX k a sk p q u 2 := by kernel_rfl
theorem nring : FSpec Tryz.prog 239 [SH k a sk, V p q u] (rnV a p q u (zB a)) := by
  rcases zB_lt a with h | h | h
  · rw [h]; exact gspec X2_ok (k_cons kS_ok k_nil) Tryz.func239 (by kernel_rfl) (by kernel_rfl) noL_ok rfl ((nring_ev0 k a sk p q u).trans ((gRi_pos k a sk h).trans (rn_eq a p q u 0)))
  · rw [h]; exact gspec X2_ok (k_cons kS_ok k_nil) Tryz.func239 (by kernel_rfl) (by kernel_rfl) noL_ok rfl ((nring_ev1 k a sk p q u).trans ((gRi_pos k a sk h).trans (rn_eq a p q u 1)))
  · rw [h]; exact gspec X2_ok (k_cons kS_ok k_nil) Tryz.func239 (by kernel_rfl) (by kernel_rfl) noL_ok rfl ((nring_ev2 k a sk p q u).trans ((gRi_pos k a sk h).trans (rn_eq a p q u 2)))
end
end Go.Proofs.YtancjnambbkhmaaGreat.Hs

namespace Go.Proofs.YtancjnambbkhmaaGreat.Hs
open Go.Gv
open Go.Ev (cn fadd fsub fmul fdiv fsqrt fneg feq flt fle fgt fge fabs)

section
variable (k : Int) (a : Nat → Nat) (sk : Int) (r : Nat → Nat) (e : Int) (T : Nat) (p q u : Nat)
abbrev KNb : Prop := FSpec Tryz.prog 38 [SH k a sk] (.tup [.x .nilIface, iA e])
abbrev KNg : Prop := FSpec Tryz.prog 38 [SH k a sk] (.tup [.ifc T (SH k a sk), iA 0])
noncomputable def kK (x : AV) (e : Int) : KEntry := kS Tryz.prog 38 fun _ => .tup [x, iA e]
theorem may_evb : ev Tryz.prog X2 [kK (.x .nilIface) e] noL Tryz.f10 [SH k a sk] ret = gate (KNb k a sk e) (some (Out.of (iA e))) := by kernel_rfl
theorem may_evg : ev Tryz.prog X2 [kK (.ifc T (SH k a sk)) 0] noL Tryz.f10 [SH k a sk] ret = gate (KNg k a sk T) (some (Out.of (iA 0))) := by kernel_rfl
theorem may_b {k : Int} {a : Nat → Nat} {sk e : Int} (h : KNb k a sk e) : FSpec Tryz.prog 10 [SH k a sk] (iA e) := gspec X2_ok (k_cons kS_ok k_nil) Tryz.func10 (by kernel_rfl) (by kernel_rfl) noL_ok rfl ((may_evb k a sk e).trans (gate_pos h))
theorem may_g {k : Int} {a : Nat → Nat} {sk : Int} {T : Nat} (h : KNg k a sk T) : FSpec Tryz.prog 10 [SH k a sk] (iA 0) := gspec X2_ok (k_cons kS_ok k_nil) Tryz.func10 (by kernel_rfl) (by kernel_rfl) noL_ok rfl ((may_evg k a sk T).trans (gate_pos h))
abbrev KTb : Prop := FSpec Tryz.prog 45 [SH k a sk, RY r] (.tup [.x .nilIface, iA e])
abbrev KTg : Prop := FSpec Tryz.prog 45 [SH k a sk, RY r] (.tup [.ifc T (SH k a sk), iA 0])
theorem kt_evb : ev Tryz.prog X2 [kK (.x .nilIface) e] noL Tryz.f45 [SH k a sk, RY r] ret = gate (KNb k a sk e) (cond (!(e == 0)) (kbad e) (cond (!(rayS r == 0)) (kbad (rayS r)) (some (Out.of (.tup [.x .nilIface, iA 0]))))) := by kernel_rfl
theorem kt_evg : ev Tryz.prog X2 [kK (.ifc T (SH k a sk)) 0] noL Tryz.f45 [SH k a sk, RY r] ret = gate (KNg k a sk T) (cond (!(rayS r == 0)) (kbad (rayS r)) (kgood T (SH k a sk))) := by kernel_rfl
theorem kt_b {k : Int} {a : Nat → Nat} {sk e : Int} (h : KNb k a sk e) (he : e ≠ 0) : KTb k a sk r e := by
  refine gspec X2_ok (k_cons kS_ok k_nil) Tryz.func45 (by kernel_rfl) (by kernel_rfl) noL_ok rfl ((kt_evb k a sk r e).trans ((gate_pos h).trans ?_))
  rw [beq_false_of_ne he]; rfl
theorem kt_r {k : Int} {a : Nat → Nat} {sk : Int} {T : Nat} {r : Nat → Nat} (h : KNg k a sk T) (hr : rayS r ≠ 0) : KTb k a sk r (rayS r) := by
  refine gspec X2_ok (k_cons kS_ok k_nil) Tryz.func45 (by kernel_rfl) (by kernel_rfl) noL_ok rfl ((kt_evg k a sk r T).trans ((gate_pos h).trans ?_))
  rw [beq_false_of_ne hr]; rfl
theorem kt_g {k : Int} {a : Nat → Nat} {sk : Int} {T : Nat} {r : Nat → Nat} (h : KNg k a sk T) (hr : rayS r = 0) : KTg k a sk r T := by
  refine gspec X2_ok (k_cons kS_ok k_nil) Tryz.func45 (by kernel_rfl) (by kernel_rfl) noL_ok rfl ((kt_evg k a sk r T).trans ((gate_pos h).trans ?_))
  rw [hr]; rfl
noncomputable def tK (x : AV) (e : Int) : KEntry := kS Tryz.prog 45 fun _ => .tup [x, iA e]
def wi4 (i o : Nat) (ok : Bool) (e : Int) : Option Out := some (Out.of (.tup [.f i, .f o, bA ok, iA e]))
noncomputable def wK (i o : Nat) (ok : Bool) (e : Int) : KEntry := kS Tryz.prog 60 fun _ => .tup [.f i, .f o, bA ok, iA e]
theorem within_evb : ev Tryz.prog X2 [tK (.x .nilIface) e, wK 0 0 false 0] noL Tryz.f19 [SH k a sk, RY r] ret = gate (KTb k a sk r e) (cond (!(e == 0)) (wi4 0 0 false e) (gate (FSpec Tryz.prog 60 [.x .nilIface, RY r] (.tup [.f 0, .f 0, bA false, iA 0])) (wi4 0 0 false 0))) := by kernel_rfl
theorem within_evg (i o : Nat) (ok : Bool) : ev Tryz.prog X2 [tK (.ifc T (SH k a sk)) 0, wK i o ok e] noL Tryz.f19 [SH k a sk, RY r] ret = gate (KTg k a sk r T) (gate (FSpec Tryz.prog 60 [.ifc T (SH k a sk), RY r] (.tup [.f i, .f o, bA ok, iA e])) (wi4 i o ok e)) := by kernel_rfl
theorem within_b {k : Int} {a : Nat → Nat} {sk e : Int} {r : Nat → Nat} (h : KTb k a sk r e) (he : e ≠ 0) : FSpec Tryz.prog 19 [SH k a sk, RY r] (.tup [.f 0, .f 0, bA false, iA e]) := by
  refine gspec X2_ok (k_cons kS_ok (k_cons kS_ok k_nil)) Tryz.func19 (by kernel_rfl) (by kernel_rfl) noL_ok rfl ((within_evb k a sk r e).trans ((gate_pos h).trans ?_))
  rw [beq_false_of_ne he]; rfl
theorem within_g {k : Int} {a : Nat → Nat} {sk e : Int} {T : Nat} {r : Nat → Nat} {i o : Nat} {ok : Bool} (h : KTg k a sk r T) (hs : FSpec Tryz.prog 60 [.ifc T (SH k a sk), RY r] (.tup [.f i, .f o, bA ok, iA e])) : FSpec Tryz.prog 19 [SH k a sk, RY r] (.tup [.f i, .f o, bA ok, iA e]) :=
  gspec X2_ok (k_cons kS_ok (k_cons kS_ok k_nil)) Tryz.func19 (by kernel_rfl) (by kernel_rfl) noL_ok rfl ((within_evg k a sk r e T i o ok).trans ((gate_pos h).trans (gate_pos hs)))
def bo7 (b : Nat → Nat) (e : Int) : Option Out := some (Out.of (.tup [BX b, iA e]))
def z6 : Nat → Nat := fun _ => 0
theorem bounds_evb : ev Tryz.prog X2 [kK (.x .nilIface) e] noL Tryz.f8 [SH k a sk] ret = gate (KNb k a sk e) (cond (!(e == 0)) (bo7 z6 e) none) := by kernel_rfl
theorem bounds_b {k : Int} {a : Nat → Nat} {sk e : Int} (h : KNb k a sk e) (he : e ≠ 0) : FSpec Tryz.prog 8 [SH k a sk] (.tup [BX z6, iA e]) := by
  refine gspec X2_ok (k_cons kS_ok k_nil) Tryz.func8 (by kernel_rfl) (by kernel_rfl) noL_ok rfl ((bounds_evb k a sk e).trans ((gate_pos h).trans ?_))
  rw [beq_false_of_ne he]; rfl
end
def r0 (r : Nat → Nat) : Nat → Nat := ls [r 0, r 1, r 2, r 3, r 4, r 5, 0]
def paK (m k : Bool) (i o n f : Nat) : Bool := cond m (cond k (flt (btS i n f) (btS o n f)) false) false
def paI (m k : Bool) (i o n f : Nat) : Nat := cond (paK m k i o n f) (btS i n f) 0
def paO (m k : Bool) (i o n f : Nat) : Nat := cond (paK m k i o n f) (btS o n f) 0
def paX (m k : Bool) (i o n f : Nat) : Option Out := cond (!m) (ab3 0 0 false) (cond (!k) (ab3 0 0 false) (cond (!flt (btS i n f) (btS o n f)) (ab3 0 0 false) (ab3 (btS i n f) (btS o n f) true)))
def paV (m k : Bool) (i o n f : Nat) : AV := .tup [.f (paI m k i o n f), .f (paO m k i o n f), bA (paK m k i o n f)]
theorem paX_eq (m k : Bool) (i o n f : Nat) : paX m k i o n f = some (Out.of (paV m k i o n f)) := by
  unfold paX paV paI paO paK ab3
  cases m <;> cases k <;> cases flt (btS i n f) (btS o n f) <;> rfl
end Go.Proofs.YtancjnambbkhmaaGreat.Hs

namespace Go.Proofs.YtancjnambbkhmaaGreat.Hs
open Go.Gv
open Go.Ev (cn fadd fsub fmul fdiv fsqrt fneg feq flt fle fgt fge fabs)

/-- By the axis that a ray goes along most; by the one axis of a tube. -/
def byD {α : Type} (r : Nat → Nat) (f : Nat → α) : α := cond (dp0 r) (cond (fgt (fabs (r 5)) (fabs (r 4))) (f 2) (f 1)) (cond (fgt (fabs (r 5)) (fabs (r 3))) (f 2) (f 0))
theorem byD_eq {α : Type} (r : Nat → Nat) (f : Nat → α) : byD r f = f (dpZ r) := by
  unfold byD dpZ
  cases dp0 r <;> cases fgt (fabs (r 5)) (fabs (r 4)) <;> cases fgt (fabs (r 5)) (fabs (r 3)) <;> rfl
def byZ {α : Type} (a : Nat → Nat) (f : Nat → α) : α := cond (neZ (a 5)) (f 2) (cond (neZ (a 4)) (f 1) (f 0))
theorem byZ_eq {α : Type} (a : Nat → Nat) (f : Nat → α) : byZ a f = f (zB a) := by
  unfold byZ zB
  cases neZ (a 5) <;> cases neZ (a 4) <;> rfl
theorem ttri2 (k : Int) (a : Nat → Nat) (sk : Int) (r : Nat → Nat) (n f : Nat) : FSpec Tryz.prog 213 [SH k a sk, RY r, .f n, .f f] (.tup [.f (byD r fun z => trT a r z), bA (byD r fun z => trK a r z)]) := by
  rw [byD_eq, byD_eq]
  exact ttri k a sk r n f
theorem ntube2 (k : Int) (a : Nat → Nat) (sk : Int) (p q u : Nat) : FSpec Tryz.prog 231 [SH k a sk, V p q u] (V (byZ a fun z => tnC a p q u z 0) (byZ a fun z => tnC a p q u z 1) (byZ a fun z => tnC a p q u z 2)) := by
  rw [byZ_eq, byZ_eq, byZ_eq]
  exact ntube k a sk p q u
def X3 : List Entry := ⟨198, eSYFF fun a r _ _ => .tup [.f (ballT a r), bA (abK (baO a r) (ryD r) (a 9))]⟩ :: ⟨197, eSV fun a p q u => V (fsub p (a 0)) (fsub q (a 1)) (fsub u (a 2))⟩ :: ⟨207, eSYFF fun _ r n f => .tup [.f (cond (fgt n (r 6)) n f), bA (true)]⟩ :: ⟨206, eSV fun a p q u => V (sdC (sdN a (ls [p, q, u]) infF) 0) (sdC (sdN a (ls [p, q, u]) infF) 1) (sdC (sdN a (ls [p, q, u]) infF) 2)⟩ :: ⟨213, eSYFF fun a r _ _ => .tup [.f (byD r fun z => trT a r z), bA (byD r fun z => trK a r z)]⟩ :: ⟨212, eSV fun a _ _ _ => V (trX a 1 2) (trX a 2 0) (trX a 0 1)⟩ :: ⟨225, eSYFF fun a r _ _ => .tup [.f (cond (feq (plD a r) 0) 0 (plT a r)), bA (cond (feq (plD a r) 0) false (plK a r))]⟩ :: ⟨224, eSV fun a _ _ _ => V (a 3) (a 4) (a 5)⟩ :: ⟨232, eSYFF fun a r n f => .tup [.f (tubT a r n f (zB a)), bA (tbK a r n f (zB a))]⟩ :: ⟨231, eSV fun a p q u => V (byZ a fun z => tnC a p q u z 0) (byZ a fun z => tnC a p q u z 1) (byZ a fun z => tnC a p q u z 2)⟩ :: ⟨239, eSV fun a p q u => V (rnC a p q u (zB a) 0) (rnC a p q u (zB a) 1) (rnC a p q u (zB a) 2)⟩ :: X2
theorem X3_ok : ∀ e, e ∈ X3 → EOk Tryz.prog e := e_cons (eSYFF_ok tball) <| e_cons (eSV_ok nball) <| e_cons (eSYFF_ok tblock) <| e_cons (eSV_ok nblock) <| e_cons (eSYFF_ok ttri2) <| e_cons (eSV_ok ntri) <| e_cons (eSYFF_ok tplate) <| e_cons (eSV_ok nplate) <| e_cons (eSYFF_ok ttube) <| e_cons (eSV_ok ntube2) <| e_cons (eSV_ok nring) <| X2_ok
section
variable (a : Nat → Nat) (sk : Int) (r : Nat → Nat) (p q u : Nat)
theorem boK1_ev : ev Tryz.prog X3 [kK (.ifc 145 (SH 1 a sk)) 0] noL Tryz.f8 [SH 1 a sk] ret = gate (KNg 1 a sk 145) (bo7 (cubeB a) 0) := by kernel_rfl
theorem boK1 (h : e1 a sk = 0) : FSpec Tryz.prog 8 [SH 1 a sk] (.tup [BX (cubeB a), iA 0]) := gspec X3_ok (k_cons kS_ok k_nil) Tryz.func8 (by kernel_rfl) (by kernel_rfl) noL_ok rfl ((boK1_ev a sk).trans (gate_pos (kn1_good a sk h)))
theorem pa1_ev : ev Tryz.prog X3 [] noL Tryz.f101 [.ifc 145 (SH 1 a sk), RY r] ret = paX (meetK (cubeB a) (r0 r)) (abK (baO a (r0 r)) (ryD (r0 r)) (a 9)) (abN (baO a (r0 r)) (ryD (r0 r)) (a 9)) (abF (baO a (r0 r)) (ryD (r0 r)) (a 9)) (meetN (cubeB a) (r0 r)) (meetF (cubeB a) (r0 r)) := by kernel_rfl
theorem pa1 : FSpec Tryz.prog 101 [.ifc 145 (SH 1 a sk), RY r] (paV (meetK (cubeB a) (r0 r)) (abK (baO a (r0 r)) (ryD (r0 r)) (a 9)) (abN (baO a (r0 r)) (ryD (r0 r)) (a 9)) (abF (baO a (r0 r)) (ryD (r0 r)) (a 9)) (meetN (cubeB a) (r0 r)) (meetF (cubeB a) (r0 r))) := sp X3_ok Tryz.func101 (by kernel_rfl) (by kernel_rfl) rfl ((pa1_ev a sk r).trans (paX_eq _ _ _ _ _ _))
theorem wiK1_ev (i o : Nat) (ok : Bool) : ev Tryz.prog X3 [kS Tryz.prog 101 fun _ => .tup [.f i, .f o, bA ok]] noL Tryz.f60 [.ifc 145 (SH 1 a sk), RY r] ret = gate (FSpec Tryz.prog 101 [.ifc 145 (SH 1 a sk), RY r] (.tup [.f i, .f o, bA ok])) (wi4 i o ok 0) := by kernel_rfl
theorem wiK1 : FSpec Tryz.prog 60 [.ifc 145 (SH 1 a sk), RY r] (.tup [.f (paI (meetK (cubeB a) (r0 r)) (abK (baO a (r0 r)) (ryD (r0 r)) (a 9)) (abN (baO a (r0 r)) (ryD (r0 r)) (a 9)) (abF (baO a (r0 r)) (ryD (r0 r)) (a 9)) (meetN (cubeB a) (r0 r)) (meetF (cubeB a) (r0 r))), .f (paO (meetK (cubeB a) (r0 r)) (abK (baO a (r0 r)) (ryD (r0 r)) (a 9)) (abN (baO a (r0 r)) (ryD (r0 r)) (a 9)) (abF (baO a (r0 r)) (ryD (r0 r)) (a 9)) (meetN (cubeB a) (r0 r)) (meetF (cubeB a) (r0 r))), bA (paK (meetK (cubeB a) (r0 r)) (abK (baO a (r0 r)) (ryD (r0 r)) (a 9)) (abN (baO a (r0 r)) (ryD (r0 r)) (a 9)) (abF (baO a (r0 r)) (ryD (r0 r)) (a 9)) (meetN (cubeB a) (r0 r)) (meetF (cubeB a) (r0 r))), iA 0]) := gspec X3_ok (k_cons kS_ok k_nil) Tryz.func60 (by kernel_rfl) (by kernel_rfl) noL_ok rfl ((wiK1_ev a sk r _ _ _).trans (gate_pos (pa1 a sk r)))
theorem boK2_ev : ev Tryz.prog X3 [kK (.ifc 146 (SH 2 a sk)) 0] noL Tryz.f8 [SH 2 a sk] ret = gate (KNg 2 a sk 146) (bo7 (blockB a) 0) := by kernel_rfl
theorem boK2 (h : e2 a sk = 0) : FSpec Tryz.prog 8 [SH 2 a sk] (.tup [BX (blockB a), iA 0]) := gspec X3_ok (k_cons kS_ok k_nil) Tryz.func8 (by kernel_rfl) (by kernel_rfl) noL_ok rfl ((boK2_ev a sk).trans (gate_pos (kn2_good a sk h)))
theorem pa2_ev : ev Tryz.prog X3 [] noL Tryz.f101 [.ifc 146 (SH 2 a sk), RY r] ret = paX (meetK (blockB a) (r0 r)) (true) ((meetN (blockB a) (r0 r))) ((meetF (blockB a) (r0 r))) (meetN (blockB a) (r0 r)) (meetF (blockB a) (r0 r)) := by kernel_rfl
theorem pa2 : FSpec Tryz.prog 101 [.ifc 146 (SH 2 a sk), RY r] (paV (meetK (blockB a) (r0 r)) (true) ((meetN (blockB a) (r0 r))) ((meetF (blockB a) (r0 r))) (meetN (blockB a) (r0 r)) (meetF (blockB a) (r0 r))) := sp X3_ok Tryz.func101 (by kernel_rfl) (by kernel_rfl) rfl ((pa2_ev a sk r).trans (paX_eq _ _ _ _ _ _))
theorem wiK2_ev (i o : Nat) (ok : Bool) : ev Tryz.prog X3 [kS Tryz.prog 101 fun _ => .tup [.f i, .f o, bA ok]] noL Tryz.f60 [.ifc 146 (SH 2 a sk), RY r] ret = gate (FSpec Tryz.prog 101 [.ifc 146 (SH 2 a sk), RY r] (.tup [.f i, .f o, bA ok])) (wi4 i o ok 0) := by kernel_rfl
theorem wiK2 : FSpec Tryz.prog 60 [.ifc 146 (SH 2 a sk), RY r] (.tup [.f (paI (meetK (blockB a) (r0 r)) (true) ((meetN (blockB a) (r0 r))) ((meetF (blockB a) (r0 r))) (meetN (blockB a) (r0 r)) (meetF (blockB a) (r0 r))), .f (paO (meetK (blockB a) (r0 r)) (true) ((meetN (blockB a) (r0 r))) ((meetF (blockB a) (r0 r))) (meetN (blockB a) (r0 r)) (meetF (blockB a) (r0 r))), bA (paK (meetK (blockB a) (r0 r)) (true) ((meetN (blockB a) (r0 r))) ((meetF (blockB a) (r0 r))) (meetN (blockB a) (r0 r)) (meetF (blockB a) (r0 r))), iA 0]) := gspec X3_ok (k_cons kS_ok k_nil) Tryz.func60 (by kernel_rfl) (by kernel_rfl) noL_ok rfl ((wiK2_ev a sk r _ _ _).trans (gate_pos (pa2 a sk r)))
theorem boK3_ev : ev Tryz.prog X3 [kK (.ifc 147 (SH 3 a sk)) 0] noL Tryz.f8 [SH 3 a sk] ret = gate (KNg 3 a sk 147) (bo7 (triB a) 0) := by kernel_rfl
theorem boK3 (h : e3 a sk = 0) : FSpec Tryz.prog 8 [SH 3 a sk] (.tup [BX (triB a), iA 0]) := gspec X3_ok (k_cons kS_ok k_nil) Tryz.func8 (by kernel_rfl) (by kernel_rfl) noL_ok rfl ((boK3_ev a sk).trans (gate_pos (kn3_good a sk h)))
theorem wiK3 : FSpec Tryz.prog 60 [.ifc 147 (SH 3 a sk), RY r] (.tup [.f 0, .f 0, bA false, iA 3]) := sp X3_ok Tryz.func60 (by kernel_rfl) (by kernel_rfl) rfl (show ev Tryz.prog X3 [] noL Tryz.f60 [.ifc 147 (SH 3 a sk), RY r] ret = wi4 0 0 false 3 by kernel_rfl)
theorem boK4_ev : ev Tryz.prog X3 [kK (.ifc 148 (SH 4 a sk)) 0] noL Tryz.f8 [SH 4 a sk] ret = gate (KNg 4 a sk 148) (bo7 (cubeB a) 0) := by kernel_rfl
theorem boK4 (h : e4 a sk = 0) : FSpec Tryz.prog 8 [SH 4 a sk] (.tup [BX (cubeB a), iA 0]) := gspec X3_ok (k_cons kS_ok k_nil) Tryz.func8 (by kernel_rfl) (by kernel_rfl) noL_ok rfl ((boK4_ev a sk).trans (gate_pos (kn4_good a sk h)))
theorem wiK4 : FSpec Tryz.prog 60 [.ifc 148 (SH 4 a sk), RY r] (.tup [.f 0, .f 0, bA false, iA 3]) := sp X3_ok Tryz.func60 (by kernel_rfl) (by kernel_rfl) rfl (show ev Tryz.prog X3 [] noL Tryz.f60 [.ifc 148 (SH 4 a sk), RY r] ret = wi4 0 0 false 3 by kernel_rfl)
theorem boK5_ev : ev Tryz.prog X3 [kK (.ifc 149 (SH 5 a sk)) 0] noL Tryz.f8 [SH 5 a sk] ret = gate (KNg 5 a sk 149) (bo7 (tubeB a (zB a)) 0) := by kernel_rfl
theorem boK5 (h : e5 a sk = 0) : FSpec Tryz.prog 8 [SH 5 a sk] (.tup [BX (tubeB a (zB a)), iA 0]) := gspec X3_ok (k_cons kS_ok k_nil) Tryz.func8 (by kernel_rfl) (by kernel_rfl) noL_ok rfl ((boK5_ev a sk).trans (gate_pos (kn5_good a sk h)))
theorem pa5_ev : ev Tryz.prog X3 [] noL Tryz.f101 [.ifc 149 (SH 5 a sk), RY r] ret = paX (meetK (tubeB a (zB a)) (r0 r)) (tbK a (r0 r) (meetN (tubeB a (zB a)) (r0 r)) (meetF (tubeB a (zB a)) (r0 r)) (zB a)) (tbN a (r0 r) (meetN (tubeB a (zB a)) (r0 r)) (meetF (tubeB a (zB a)) (r0 r)) (zB a)) (tbF a (r0 r) (meetN (tubeB a (zB a)) (r0 r)) (meetF (tubeB a (zB a)) (r0 r)) (zB a)) (meetN (tubeB a (zB a)) (r0 r)) (meetF (tubeB a (zB a)) (r0 r)) := by kernel_rfl
theorem pa5 : FSpec Tryz.prog 101 [.ifc 149 (SH 5 a sk), RY r] (paV (meetK (tubeB a (zB a)) (r0 r)) (tbK a (r0 r) (meetN (tubeB a (zB a)) (r0 r)) (meetF (tubeB a (zB a)) (r0 r)) (zB a)) (tbN a (r0 r) (meetN (tubeB a (zB a)) (r0 r)) (meetF (tubeB a (zB a)) (r0 r)) (zB a)) (tbF a (r0 r) (meetN (tubeB a (zB a)) (r0 r)) (meetF (tubeB a (zB a)) (r0 r)) (zB a)) (meetN (tubeB a (zB a)) (r0 r)) (meetF (tubeB a (zB a)) (r0 r))) := sp X3_ok Tryz.func101 (by kernel_rfl) (by kernel_rfl) rfl ((pa5_ev a sk r).trans (paX_eq _ _ _ _ _ _))
theorem wiK5_ev (i o : Nat) (ok : Bool) : ev Tryz.prog X3 [kS Tryz.prog 101 fun _ => .tup [.f i, .f o, bA ok]] noL Tryz.f60 [.ifc 149 (SH 5 a sk), RY r] ret = gate (FSpec Tryz.prog 101 [.ifc 149 (SH 5 a sk), RY r] (.tup [.f i, .f o, bA ok])) (wi4 i o ok 0) := by kernel_rfl
theorem wiK5 : FSpec Tryz.prog 60 [.ifc 149 (SH 5 a sk), RY r] (.tup [.f (paI (meetK (tubeB a (zB a)) (r0 r)) (tbK a (r0 r) (meetN (tubeB a (zB a)) (r0 r)) (meetF (tubeB a (zB a)) (r0 r)) (zB a)) (tbN a (r0 r) (meetN (tubeB a (zB a)) (r0 r)) (meetF (tubeB a (zB a)) (r0 r)) (zB a)) (tbF a (r0 r) (meetN (tubeB a (zB a)) (r0 r)) (meetF (tubeB a (zB a)) (r0 r)) (zB a)) (meetN (tubeB a (zB a)) (r0 r)) (meetF (tubeB a (zB a)) (r0 r))), .f (paO (meetK (tubeB a (zB a)) (r0 r)) (tbK a (r0 r) (meetN (tubeB a (zB a)) (r0 r)) (meetF (tubeB a (zB a)) (r0 r)) (zB a)) (tbN a (r0 r) (meetN (tubeB a (zB a)) (r0 r)) (meetF (tubeB a (zB a)) (r0 r)) (zB a)) (tbF a (r0 r) (meetN (tubeB a (zB a)) (r0 r)) (meetF (tubeB a (zB a)) (r0 r)) (zB a)) (meetN (tubeB a (zB a)) (r0 r)) (meetF (tubeB a (zB a)) (r0 r))), bA (paK (meetK (tubeB a (zB a)) (r0 r)) (tbK a (r0 r) (meetN (tubeB a (zB a)) (r0 r)) (meetF (tubeB a (zB a)) (r0 r)) (zB a)) (tbN a (r0 r) (meetN (tubeB a (zB a)) (r0 r)) (meetF (tubeB a (zB a)) (r0 r)) (zB a)) (tbF a (r0 r) (meetN (tubeB a (zB a)) (r0 r)) (meetF (tubeB a (zB a)) (r0 r)) (zB a)) (meetN (tubeB a (zB a)) (r0 r)) (meetF (tubeB a (zB a)) (r0 r))), iA 0]) := gspec X3_ok (k_cons kS_ok k_nil) Tryz.func60 (by kernel_rfl) (by kernel_rfl) noL_ok rfl ((wiK5_ev a sk r _ _ _).trans (gate_pos (pa5 a sk r)))
theorem boK6_ev : ev Tryz.prog X3 [kK (.ifc 150 (SH 6 a sk)) 0] noL Tryz.f8 [SH 6 a sk] ret = gate (KNg 6 a sk 150) (bo7 (ringB a (zB a)) 0) := by kernel_rfl
theorem boK6 (h : e6 a sk = 0) : FSpec Tryz.prog 8 [SH 6 a sk] (.tup [BX (ringB a (zB a)), iA 0]) := gspec X3_ok (k_cons kS_ok k_nil) Tryz.func8 (by kernel_rfl) (by kernel_rfl) noL_ok rfl ((boK6_ev a sk).trans (gate_pos (kn6_good a sk h)))
theorem wiK6 : FSpec Tryz.prog 60 [.ifc 150 (SH 6 a sk), RY r] (.tup [.f 0, .f 0, bA false, iA 3]) := sp X3_ok Tryz.func60 (by kernel_rfl) (by kernel_rfl) rfl (show ev Tryz.prog X3 [] noL Tryz.f60 [.ifc 150 (SH 6 a sk), RY r] ret = wi4 0 0 false 3 by kernel_rfl)
end
end Go.Proofs.YtancjnambbkhmaaGreat.Hs

namespace Go.Proofs.YtancjnambbkhmaaGreat.Hs
open Go.Gv
open Go.Ev (cn fadd fsub fmul fdiv fsqrt fneg feq flt fle fgt fge fabs)

/-- Three floats in a row. -/
def fOf : List AV → Nat
  | [.f x] => x
  | _ => 0
theorem of_ev (g : Nat → Nat) : ev Tryz.prog [] [] noL Tryz.f103 [.sl 1 3 fun i => [.f (g i)]] ret = some (Out.of (V (g 0) (g 1) (g 2))) := by kernel_rfl
theorem rof (g : Nat → Nat) : FSpec Tryz.prog 103 [.sl 1 3 fun i => [.f (g i)]] (V (g 0) (g 1) (g 2)) := sp e_nil Tryz.func103 (by kernel_rfl) (by kernel_rfl) rfl (of_ev g)
def ofG : List AV → AV
  | [.sl _ _ el] => V (fOf (el 0)) (fOf (el 1)) (fOf (el 2))
  | _ => .any
def pE (a b c x k : Nat) : Nat → List AV := fun i => mixL ((0 + i) == k) [.f x] (chunk [.f a, .f b, .f c] 1 (0 + i))
theorem of_put {a b c x k : Nat} (g : Nat → Nat) (h : ∀ i, i < 3 → pE a b c x k i = [.f (g i)]) : FSpec Tryz.prog 103 [.sl 1 3 (pE a b c x k)] (V (g 0) (g 1) (g 2)) := by
  refine FSpec.of_args (rof g) fun E vs hv => ?_
  obtain ⟨v, ws, rfl, h1, h2⟩ := rels_cons.1 hv
  exact rels_cons.2 ⟨v, ws, rfl, sl_like h1 fun i hi => (h i hi).symm, h2⟩
section
variable (a b c x : Nat)
noncomputable def ptO (k : Nat) (v : AV) : Option Out := gate (FSpec Tryz.prog 103 [.sl 1 3 (pE a b c x k)] v) (some (Out.of v))
theorem put_ev0 : ev Tryz.prog [] [kS Tryz.prog 103 ofG] noL Tryz.f66 [V a b c, iA 0, .f x] ret = ptO a b c x 0 (V x b c) := by kernel_rfl
theorem put_ev1 : ev Tryz.prog [] [kS Tryz.prog 103 ofG] noL Tryz.f66 [V a b c, iA 1, .f x] ret = ptO a b c x 1 (V a x c) := by kernel_rfl
theorem put_ev2 : ev Tryz.prog [] [kS Tryz.prog 103 ofG] noL Tryz.f66 [V a b c, iA 2, .f x] ret = ptO a b c x 2 (V a b x) := by kernel_rfl
theorem rput0 : FSpec Tryz.prog 66 [V a b c, iA 0, .f x] (V x b c) := gspec e_nil (k_cons kS_ok k_nil) Tryz.func66 (by kernel_rfl) (by kernel_rfl) noL_ok rfl ((put_ev0 a b c x).trans (gate_pos (of_put (ls [x, b, c]) fun i hi => (by match i, hi with | 0, _ => rfl | 1, _ => rfl | 2, _ => rfl))))
theorem rput1 : FSpec Tryz.prog 66 [V a b c, iA 1, .f x] (V a x c) := gspec e_nil (k_cons kS_ok k_nil) Tryz.func66 (by kernel_rfl) (by kernel_rfl) noL_ok rfl ((put_ev1 a b c x).trans (gate_pos (of_put (ls [a, x, c]) fun i hi => (by match i, hi with | 0, _ => rfl | 1, _ => rfl | 2, _ => rfl))))
theorem rput2 : FSpec Tryz.prog 66 [V a b c, iA 2, .f x] (V a b x) := gspec e_nil (k_cons kS_ok k_nil) Tryz.func66 (by kernel_rfl) (by kernel_rfl) noL_ok rfl ((put_ev2 a b c x).trans (gate_pos (of_put (ls [a, b, x]) fun i hi => (by match i, hi with | 0, _ => rfl | 1, _ => rfl | 2, _ => rfl))))
noncomputable def stO (x k : Nat) (v : AV) : Option Out := gate (FSpec Tryz.prog 103 [.sl 1 3 (pE 0 0 0 x k)] v) (some (Out.of v))
theorem stands_ev0 : ev Tryz.prog [] [kS Tryz.prog 103 ofG] noL Tryz.f100 [iA 0, .f x] ret = stO x 0 (V x 0 0) := by kernel_rfl
theorem stands_ev1 : ev Tryz.prog [] [kS Tryz.prog 103 ofG] noL Tryz.f100 [iA 1, .f x] ret = stO x 1 (V 0 x 0) := by kernel_rfl
theorem stands_ev2 : ev Tryz.prog [] [kS Tryz.prog 103 ofG] noL Tryz.f100 [iA 2, .f x] ret = stO x 2 (V 0 0 x) := by kernel_rfl
theorem rstands0 : FSpec Tryz.prog 100 [iA 0, .f x] (V x 0 0) := gspec e_nil (k_cons kS_ok k_nil) Tryz.func100 (by kernel_rfl) (by kernel_rfl) noL_ok rfl ((stands_ev0 x).trans (gate_pos (of_put (ls [x, 0, 0]) fun i hi => (by match i, hi with | 0, _ => rfl | 1, _ => rfl | 2, _ => rfl))))
theorem rstands1 : FSpec Tryz.prog 100 [iA 1, .f x] (V 0 x 0) := gspec e_nil (k_cons kS_ok k_nil) Tryz.func100 (by kernel_rfl) (by kernel_rfl) noL_ok rfl ((stands_ev1 x).trans (gate_pos (of_put (ls [0, x, 0]) fun i hi => (by match i, hi with | 0, _ => rfl | 1, _ => rfl | 2, _ => rfl))))
theorem rstands2 : FSpec Tryz.prog 100 [iA 2, .f x] (V 0 0 x) := gspec e_nil (k_cons kS_ok k_nil) Tryz.func100 (by kernel_rfl) (by kernel_rfl) noL_ok rfl ((stands_ev2 x).trans (gate_pos (of_put (ls [0, 0, x]) fun i hi => (by match i, hi with | 0, _ => rfl | 1, _ => rfl | 2, _ => rfl))))
end
def ePut : List AV → Option AV
  | [.agg [.f a, .f b, .f c], .x (.int .i64 k), .f x] => cond (k == 0) (some (V x b c)) (cond (k == 1) (some (V a x c)) (cond (k == 2) (some (V a b x)) none))
  | _ => none
theorem ePut_ok : EOk Tryz.prog ⟨66, ePut⟩ := fun args r hr => by
  simp only [ePut] at hr
  split at hr
  · rename_i a b c k x
    cases h0 : k == 0
    · rw [h0] at hr
      cases h1 : k == 1
      · rw [h1] at hr
        cases h2 : k == 2
        · rw [h2] at hr; cases hr
        · rw [h2] at hr; cases hr; rw [eq_of_beq h2]; exact Or.inl (rput2 a b c x)
      · rw [h1] at hr; cases hr; rw [eq_of_beq h1]; exact Or.inl (rput1 a b c x)
    · rw [h0] at hr; cases hr; rw [eq_of_beq h0]; exact Or.inl (rput0 a b c x)
  · cases hr
def eStd : List AV → Option AV
  | [.x (.int .i64 k), .f x] => cond (k == 0) (some (V x 0 0)) (cond (k == 1) (some (V 0 x 0)) (cond (k == 2) (some (V 0 0 x)) none))
  | _ => none
theorem eStd_ok : EOk Tryz.prog ⟨100, eStd⟩ := fun args r hr => by
  simp only [eStd] at hr
  split at hr
  · rename_i k x
    cases h0 : k == 0
    · rw [h0] at hr
      cases h1 : k == 1
      · rw [h1] at hr
        cases h2 : k == 2
        · rw [h2] at hr; cases hr
        · rw [h2] at hr; cases hr; rw [eq_of_beq h2]; exact Or.inl (rstands2 x)
      · rw [h1] at hr; cases hr; rw [eq_of_beq h1]; exact Or.inl (rstands1 x)
    · rw [h0] at hr; cases hr; rw [eq_of_beq h0]; exact Or.inl (rstands0 x)
  · cases hr
def aiR (k : Int) : Option Out := some (Out.of (iA k))
def aiT (a b c : Nat) : Option Out := cond (neZ a) (cond (neZ b) (cond (neZ c) (aiR (-1)) (aiR (-1))) (cond (neZ c) (aiR (-1)) (aiR 0))) (cond (neZ b) (cond (neZ c) (aiR (-1)) (aiR 1)) (cond (neZ c) (aiR 2) (aiR (-1))))
/-- The one axis, or -1. -/
def aiS (a b c : Nat) : Int := cond (axO a b c) (axI a b c) (-1)
theorem raxisOf (a b c : Nat) : FSpec Tryz.prog 43 [V a b c] (iA (aiS a b c)) := by
  refine sp R3_ok Tryz.func43 (by kernel_rfl) (by kernel_rfl) rfl ((show ev Tryz.prog R3 [] noL Tryz.f43 [V a b c] ret = aiT a b c by kernel_rfl).trans ?_)
  unfold aiT aiS axO axI aiR
  cases neZ a <;> cases neZ b <;> cases neZ c <;> rfl
theorem raxisZ {a : Nat → Nat} (h : axO (a 3) (a 4) (a 5) = true) : FSpec Tryz.prog 43 [V (a 3) (a 4) (a 5)] (iA (zB a : Nat)) := by
  have := raxisOf (a 3) (a 4) (a 5)
  unfold aiS at this
  rw [h, cond_true, axI_z] at this
  exact this
section
variable (o d : Nat → Nat) (r : Nat)
theorem rabout_ev : ev Tryz.prog R3 [] noL Tryz.f102 [V (o 0) (o 1) (o 2), V (d 0) (d 1) (d 2), .f r] ret = abX o d r := by kernel_rfl
end
theorem rabout (a b c d e f r : Nat) : FSpec Tryz.prog 102 [V a b c, V d e f, .f r] (abG a b c d e f r) := sp R3_ok Tryz.func102 (by kernel_rfl) (by kernel_rfl) rfl ((rabout_ev (ls [a, b, c]) (ls [d, e, f]) r).trans (abX_eq _ _ _))
theorem rbt_ev (n t f : Nat) : ev Tryz.prog [] [] noL Tryz.f62 [.f n, .f t, .f f] ret = cond (!fgt t n) (cond (!flt n f) (some (Out.of (.f f))) (some (Out.of (.f n)))) (cond (!flt t f) (some (Out.of (.f f))) (some (Out.of (.f t)))) := by kernel_rfl
theorem rbetween (n t f : Nat) : FSpec Tryz.prog 62 [.f n, .f t, .f f] (.f (btS t n f)) := by
  refine sp e_nil Tryz.func62 (by kernel_rfl) (by kernel_rfl) rfl ((rbt_ev n t f).trans ?_)
  unfold btS
  cases fgt t n <;> cases flt n f <;> cases flt t f <;> rfl
def noughtB (a b c : Nat) : Bool := cond (cond (feq a 0) (feq b 0) false) (feq c 0) false
theorem rnought (a b c : Nat) : FSpec Tryz.prog 67 [V a b c] (bA (noughtB a b c)) := sp e_nil Tryz.func67 (by kernel_rfl) (by kernel_rfl) rfl (by kernel_rfl)
def R4 : List Entry := ⟨66, ePut⟩ :: ⟨100, eStd⟩ :: ⟨102, eVVF abG⟩ :: ⟨62, eFFF fun n t f => .f (btS t n f)⟩ :: ⟨67, eV fun a b c => bA (noughtB a b c)⟩ :: R3
theorem R4_ok : ∀ e, e ∈ R4 → EOk Tryz.prog e := e_cons ePut_ok <| e_cons eStd_ok <| e_cons (eVVF_ok rabout) <| e_cons (eFFF_ok rbetween) <| e_cons (eV_ok rnought) R3_ok
end Go.Proofs.YtancjnambbkhmaaGreat.Hs

namespace Go.Ev
open Ieee

theorem order_self {d : Datum} (h : d.isNaN = false) : d.order d = some .eq := by
  cases d with
  | number s m i => simp only [Datum.order]; simp
  | infinity s => simp [Datum.order]
  | nan s f => simp [Datum.isNaN] at h

end Go.Ev

namespace Go.Ev
open Ieee
theorem datum_tot {d e : Datum} (hd : d.isNaN = false) (he : e.isNaN = false) : ∃ o, d.order e = some o := by
  cases d with
  | nan s f => simp [Datum.isNaN] at hd
  | infinity s =>
    cases e with
    | nan s f => simp [Datum.isNaN] at he
    | infinity t => cases s <;> cases t <;> exact ⟨_, rfl⟩
    | number t m i => cases s <;> exact ⟨_, rfl⟩
  | number s m i =>
    cases e with
    | nan s f => simp [Datum.isNaN] at he
    | infinity t => cases t <;> exact ⟨_, rfl⟩
    | number t n j => exact ⟨_, rfl⟩
theorem order_tot {x y : Nat} (hx : isNan x = false) (hy : isNan y = false) : ∃ o, double.order x y = some o := datum_tot hx hy
theorem fge_not {x y : Nat} (hx : isNan x = false) (hy : isNan y = false) : fge x y = !flt x y := by
  obtain ⟨o, h⟩ := order_tot hx hy
  unfold fge flt
  rw [h]
  cases o <;> rfl
theorem fle_not {x y : Nat} (hx : isNan x = false) (hy : isNan y = false) : fle x y = !fgt x y := by
  obtain ⟨o, h⟩ := order_tot hx hy
  unfold fle fgt
  rw [h]
  cases o <;> rfl
theorem nan_fge {x y : Nat} (h : fge x y = true) : isNan x = false ∧ isNan y = false := by
  unfold fge at h
  constructor
  · cases hx : isNan x
    · rfl
    · have e : double.order x y = none := order_nan_left hx
      rw [e] at h; cases h
  · cases hy : isNan y
    · rfl
    · have e : double.order x y = none := order_nan_right hy
      rw [e] at h; cases h
theorem nan_fgt {x y : Nat} (h : fgt x y = true) : isNan x = false ∧ isNan y = false := by
  unfold fgt at h
  constructor
  · cases hx : isNan x
    · rfl
    · have e : double.order x y = none := order_nan_left hx
      rw [e] at h; cases h
  · cases hy : isNan y
    · rfl
    · have e : double.order x y = none := order_nan_right hy
      rw [e] at h; cases h
theorem nan_flt {x y : Nat} (h : flt x y = true) : isNan x = false ∧ isNan y = false := by
  unfold flt at h
  constructor
  · cases hx : isNan x
    · rfl
    · have e : double.order x y = none := order_nan_left hx
      rw [e] at h; cases h
  · cases hy : isNan y
    · rfl
    · have e : double.order x y = none := order_nan_right hy
      rw [e] at h; cases h
theorem flt_irr (x : Nat) : flt x x = false := by
  unfold flt
  cases hx : isNan x
  · have : double.order x x = some .eq := order_self hx
    rw [this]; rfl
  · have e : double.order x x = none := order_nan_left hx
    rw [e]; rfl
end Go.Ev
namespace Go.Proofs.YtancjnambbkhmaaGreat.Hs
open Go.Gv
open Go.Ev (cn fadd fsub fmul fdiv fsqrt fneg feq flt fle fgt fge fabs isNan fge_not fle_not nan_fge nan_fgt nan_flt)

theorem near_nan {x : Nat} (h : nearS x = true) : isNan x = false := by
  unfold nearS at h
  cases h1 : fge x 13920209183539462144
  · rw [h1] at h; cases h
  · exact (nan_fge h1).1
theorem fine_near {a b c : Nat} (h : fineS a b c = true) : nearS a = true ∧ nearS b = true ∧ nearS c = true := by
  unfold fineS at h
  revert h
  cases nearS a <;> cases nearS b <;> cases nearS c <;> intro h <;> first | (cases h; done) | exact ⟨rfl, rfl, rfl⟩
theorem fine_nan {a b c : Nat} (h : fineS a b c = true) : isNan a = false ∧ isNan b = false ∧ isNan c = false := by
  obtain ⟨h1, h2, h3⟩ := fine_near h
  exact ⟨near_nan h1, near_nan h2, near_nan h3⟩
theorem may_fine {b : Nat → Nat} (h : mayS b = 0) : fineS (b 0) (b 1) (b 2) = true ∧ fineS (b 3) (b 4) (b 5) = true := by
  unfold mayS mayF at h
  revert h
  cases fineS (b 0) (b 1) (b 2) <;> cases fineS (b 3) (b 4) (b 5) <;> intro h <;> first | (cases h; done) | exact ⟨rfl, rfl⟩
structure RayOk (r : Nat → Nat) : Prop where
  from' : fineS (r 0) (r 1) (r 2) = true
  dir : fineS (r 3) (r 4) (r 5) = true
  least : nearS (r 6) = true
theorem ray_ok {r : Nat → Nat} (h : rayS r = 0) : RayOk r := by
  unfold rayS at h
  cases hF : rayF r
  · unfold rayF at hF
    revert hF
    cases h1 : fineS (r 0) (r 1) (r 2) <;> cases h2 : fineS (r 3) (r 4) (r 5) <;> cases h3 : nearS (r 6) <;> intro hF <;> first | (cases hF; done) | exact ⟨h1, h2, h3⟩
  · rw [hF] at h; cases h
theorem not_gt {x : Nat} (h : nearS x = true) : fle x 0 = !fgt x 0 := fle_not (near_nan h) (by decide +kernel)
section
variable (b r : Nat → Nat)
def stepR (lo hi o d n f : Nat) (k : Nat → Nat → Option Out) : Option Out :=
  cond (feq d 0) (cond (cond (flt o lo) true (fgt o hi)) zeroT (k n f))
    (cond (flt d 0) (k (moreS n (fdiv (fsub hi o) d)) (lessS f (fdiv (fsub lo o) d))) (k (moreS n (fdiv (fsub lo o) d)) (lessS f (fdiv (fsub hi o) d))))
theorem stepR_eq {lo hi o d n f : Nat} (k : Nat → Nat → Option Out) (hlo : isNan lo = false) (hhi : isNan hi = false) (ho : isNan o = false) : stepR lo hi o d n f k = cond (cutOk lo hi o d) (k (cutN lo hi o d n) (cutF lo hi o d f)) zeroT := by
  unfold stepR cutOk cutN cutF cutA cutB
  rw [fge_not ho hlo, fle_not ho hhi]
  cases feq d 0 <;> simp only [cond_true, cond_false]
  · cases flt d 0 <;> rfl
  · cases flt o lo <;> cases fgt o hi <;> rfl
def lastR (n f : Nat) : Option Out := cond (fgt n f) zeroT (some (Out.of (.tup [.f n, .f f, bA true])))
def meetR : Option Out := cond (badS b r) zeroT (stepR (b 0) (b 3) (r 0) (r 3) (r 6) maxFar fun n f => stepR (b 1) (b 4) (r 1) (r 4) n f fun n f => stepR (b 2) (b 5) (r 2) (r 5) n f lastR)
theorem meetR_ev : ev Tryz.prog R4 [] noL Tryz.f48 [BX b, RY r] ret = meetR b r := by kernel_rfl
theorem bad_false {b r : Nat → Nat} (h : badS b r = false) : mayS b = 0 ∧ rayS r = 0 := by
  unfold badS at h
  cases h1 : mayS b == 0
  · rw [h1] at h; cases h
  · rw [h1] at h
    exact ⟨eq_of_beq h1, by simpa using h⟩
theorem meetR_eq : meetR b r = some (Out.of (meetV b r)) := by
  unfold meetR
  cases hb : badS b r
  · obtain ⟨hx, hy⟩ := bad_false hb
    obtain ⟨f1, f2⟩ := may_fine hx
    obtain ⟨l0, l1, l2⟩ := fine_nan f1
    obtain ⟨u0, u1, u2⟩ := fine_nan f2
    obtain ⟨o0, o1, o2⟩ := fine_nan (ray_ok hy).from'
    rw [cond_false, stepR_eq _ l0 u0 o0]
    simp only [stepR_eq _ l1 u1 o1, stepR_eq _ l2 u2 o2]
    unfold meetV meetN meetF meetK
    rw [hb]
    unfold lastR zeroT
    show cond (m1K b r) (cond (m2K b r) (cond (m3K b r) (cond (fgt (m3N b r) (m3F b r)) (some (Out.of (.tup [.f 0, .f 0, bA false]))) (some (Out.of (.tup [.f (m3N b r), .f (m3F b r), bA true])))) _) _) _ = _
    cases m1K b r <;> cases m2K b r <;> cases m3K b r <;> cases fgt (m3N b r) (m3F b r) <;> rfl
  · unfold meetV meetN meetF meetK
    rw [hb]; rfl
theorem rmeets : FSpec Tryz.prog 48 [BX b, RY r] (meetV b r) := sp R4_ok Tryz.func48 (by kernel_rfl) (by kernel_rfl) rfl ((meetR_ev b r).trans (meetR_eq b r))
end
def R5 : List Entry := ⟨48, eBY meetV⟩ :: R4
theorem R5_ok : ∀ e, e ∈ R5 → EOk Tryz.prog e := e_cons (eBY_ok rmeets) R4_ok
end Go.Proofs.YtancjnambbkhmaaGreat.Hs

namespace Go.Proofs.YtancjnambbkhmaaGreat.Hs
open Go.Gv
open Go.Ev (cn fadd fsub fmul fdiv fsqrt fneg feq flt fle fgt fge fabs isNan fge_not fle_not)

section
variable (a : Nat → Nat) (sk : Int)
theorem ar1 : FSpec Tryz.prog 39 [SH 1 a sk] (BX (cubeB a)) := sp R5_ok Tryz.func39 (by kernel_rfl) (by kernel_rfl) rfl (by kernel_rfl)
theorem ar2 : FSpec Tryz.prog 39 [SH 2 a sk] (BX (blockB a)) := sp R5_ok Tryz.func39 (by kernel_rfl) (by kernel_rfl) rfl (by kernel_rfl)
theorem ar3 : FSpec Tryz.prog 39 [SH 3 a sk] (BX (triB a)) := sp R5_ok Tryz.func39 (by kernel_rfl) (by kernel_rfl) rfl (by kernel_rfl)
theorem ar4 : FSpec Tryz.prog 39 [SH 4 a sk] (BX (cubeB a)) := sp R5_ok Tryz.func39 (by kernel_rfl) (by kernel_rfl) rfl (by kernel_rfl)
noncomputable def axK (z : Nat) : KEntry := kS Tryz.prog 43 fun _ => iA (z : Nat)
noncomputable def gAx (z : Nat) (o : Option Out) : Option Out := gate (FSpec Tryz.prog 43 [V (a 3) (a 4) (a 5)] (iA (z : Nat))) o
theorem gAx_pos {z : Nat} {o : Option Out} (h : axO (a 3) (a 4) (a 5) = true) (hz : zB a = z) : gAx a z o = o := gate_pos (by rw [← hz]; exact raxisZ h)
theorem ar5_ev0 : ev Tryz.prog R5 [axK 0] noL Tryz.f39 [SH 5 a sk] ret = gAx a 0 (some (Out.of (BX (tubeB a 0)))) := by kernel_rfl
theorem ar5_ev1 : ev Tryz.prog R5 [axK 1] noL Tryz.f39 [SH 5 a sk] ret = gAx a 1 (some (Out.of (BX (tubeB a 1)))) := by kernel_rfl
theorem ar5_ev2 : ev Tryz.prog R5 [axK 2] noL Tryz.f39 [SH 5 a sk] ret = gAx a 2 (some (Out.of (BX (tubeB a 2)))) := by kernel_rfl
theorem ar5 (h : axO (a 3) (a 4) (a 5) = true) : FSpec Tryz.prog 39 [SH 5 a sk] (BX (tubeB a (zB a))) := by
  rcases zB_lt a with hz | hz | hz
  · rw [hz]; exact gspec R5_ok (k_cons kS_ok k_nil) Tryz.func39 (by kernel_rfl) (by kernel_rfl) noL_ok rfl ((ar5_ev0 a sk).trans (gAx_pos a h hz))
  · rw [hz]; exact gspec R5_ok (k_cons kS_ok k_nil) Tryz.func39 (by kernel_rfl) (by kernel_rfl) noL_ok rfl ((ar5_ev1 a sk).trans (gAx_pos a h hz))
  · rw [hz]; exact gspec R5_ok (k_cons kS_ok k_nil) Tryz.func39 (by kernel_rfl) (by kernel_rfl) noL_ok rfl ((ar5_ev2 a sk).trans (gAx_pos a h hz))
theorem ar6_ev0 : ev Tryz.prog R5 [axK 0] noL Tryz.f39 [SH 6 a sk] ret = gAx a 0 (some (Out.of (BX (ringB a 0)))) := by kernel_rfl
theorem ar6_ev1 : ev Tryz.prog R5 [axK 1] noL Tryz.f39 [SH 6 a sk] ret = gAx a 1 (some (Out.of (BX (ringB a 1)))) := by kernel_rfl
theorem ar6_ev2 : ev Tryz.prog R5 [axK 2] noL Tryz.f39 [SH 6 a sk] ret = gAx a 2 (some (Out.of (BX (ringB a 2)))) := by kernel_rfl
theorem ar6 (h : axO (a 3) (a 4) (a 5) = true) : FSpec Tryz.prog 39 [SH 6 a sk] (BX (ringB a (zB a))) := by
  rcases zB_lt a with hz | hz | hz
  · rw [hz]; exact gspec R5_ok (k_cons kS_ok k_nil) Tryz.func39 (by kernel_rfl) (by kernel_rfl) noL_ok rfl ((ar6_ev0 a sk).trans (gAx_pos a h hz))
  · rw [hz]; exact gspec R5_ok (k_cons kS_ok k_nil) Tryz.func39 (by kernel_rfl) (by kernel_rfl) noL_ok rfl ((ar6_ev1 a sk).trans (gAx_pos a h hz))
  · rw [hz]; exact gspec R5_ok (k_cons kS_ok k_nil) Tryz.func39 (by kernel_rfl) (by kernel_rfl) noL_ok rfl ((ar6_ev2 a sk).trans (gAx_pos a h hz))
noncomputable def arK (b : Nat → Nat) : KEntry := kS Tryz.prog 39 fun _ => BX b
noncomputable def gAr (j : Int) (b : Nat → Nat) (o : Option Out) : Option Out := gate (FSpec Tryz.prog 39 [SH j a sk] (BX b)) o
noncomputable def smZ (j : Int) (b : Nat → Nat) : Option Out := gAr a sk j b (cond (!(mayS b == 0)) (aiR 1) (aiR 0))
noncomputable def smX (o : Option Out) : Option Out := cond (skB sk) (aiR 4) (cond (rcB a) (aiR 1) o)
def R6 : List Entry := ⟨43, eV fun a b c => iA (aiS a b c)⟩ :: R5
theorem R6_ok : ∀ e, e ∈ R6 → EOk Tryz.prog e := e_cons (eV_ok raxisOf) R5_ok
theorem sm1_ev (b : Nat → Nat) : ev Tryz.prog R6 [arK b] noL Tryz.f11 [SH 1 a sk] ret = smX a sk (cond (fle (a 9) 0) (aiR 6) (smZ a sk 1 b)) := by kernel_rfl
theorem sm2_ev (b : Nat → Nat) : ev Tryz.prog R6 [arK b] noL Tryz.f11 [SH 2 a sk] ret = smX a sk (cond (blockG a) (aiR 6) (smZ a sk 2 b)) := by kernel_rfl
theorem sm3_ev (b : Nat → Nat) : ev Tryz.prog R6 [arK b] noL Tryz.f11 [SH 3 a sk] ret = smX a sk (smZ a sk 3 b) := by kernel_rfl
theorem sm4_ev (b : Nat → Nat) : ev Tryz.prog R6 [arK b] noL Tryz.f11 [SH 4 a sk] ret = smX a sk (cond (fle (a 9) 0) (aiR 6) (cond (!(unE (a 3) (a 4) (a 5) == 0)) (aiR (unE (a 3) (a 4) (a 5))) (smZ a sk 4 b))) := by kernel_rfl
theorem sm5_ev (b : Nat → Nat) : ev Tryz.prog R6 [arK b] noL Tryz.f11 [SH 5 a sk] ret = smX a sk (cond (cond (fle (a 9) 0) true (decide (aiS (a 3) (a 4) (a 5) < 0))) (aiR 6) (smZ a sk 5 b)) := by kernel_rfl
theorem sm6_ev (b : Nat → Nat) : ev Tryz.prog R6 [arK b] noL Tryz.f11 [SH 6 a sk] ret = smX a sk (cond (cond (cond (fle (a 10) 0) true (flt (a 9) (a 10))) true (decide (aiS (a 3) (a 4) (a 5) < 0))) (aiR 6) (smZ a sk 6 b)) := by kernel_rfl
theorem sm0_ev (k : Int) (b : Nat → Nat) : ev Tryz.prog R6 [arK b] noL Tryz.f11 [SH k a sk] ret = smX a sk (cond (k == 1) (cond (fle (a 9) 0) (aiR 6) (smZ a sk k b)) (cond (k == 2) (cond (blockG a) (aiR 6) (smZ a sk k b)) (cond (k == 3) (smZ a sk k b) (cond (k == 4) (cond (fle (a 9) 0) (aiR 6) (cond (!(unE (a 3) (a 4) (a 5) == 0)) (aiR (unE (a 3) (a 4) (a 5))) (smZ a sk k b)))
    (cond (k == 5) (cond (cond (fle (a 9) 0) true (decide (aiS (a 3) (a 4) (a 5) < 0))) (aiR 6) (smZ a sk k b)) (cond (k == 6) (cond (cond (cond (fle (a 10) 0) true (flt (a 9) (a 10))) true (decide (aiS (a 3) (a 4) (a 5) < 0))) (aiR 6) (smZ a sk k b)) (aiR 3))))))) := by kernel_rfl
end
theorem aiS_neg (x y z : Nat) : decide (aiS x y z < 0) = !axO x y z := by
  unfold aiS axO axI
  cases neZ x <;> cases neZ y <;> cases neZ z <;> rfl
theorem rc_near {a : Nat → Nat} (h : rcB a = false) : nearS (a 9) = true ∧ nearS (a 10) = true := by
  unfold rcB at h
  revert h
  cases fineS (a 0) (a 1) (a 2) <;> cases fineS (a 3) (a 4) (a 5) <;> cases fineS (a 6) (a 7) (a 8) <;> cases nearS (a 9) <;> cases nearS (a 10) <;> intro h <;> first | (cases h; done) | exact ⟨rfl, rfl⟩
theorem smX_go {a : Nat → Nat} {sk : Int} {m : Int} {b : Nat → Nat} {o : Option Out} (h : rcB a = false → o = cond (!(m == 0)) (aiR m) (cond (!(mayS b == 0)) (aiR 1) (aiR 0))) : smX a sk o = some (Out.of (iA (knE a sk m b))) := by
  unfold smX knE
  cases skB sk
  · cases hr : rcB a
    · rw [h hr]
      unfold aiR
      cases (m == 0) <;> cases (mayS b == 0) <;> rfl
    · rfl
  · rfl
theorem smZ_pos {a : Nat → Nat} {sk j : Int} {b : Nat → Nat} (h : FSpec Tryz.prog 39 [SH j a sk] (BX b)) : smZ a sk j b = cond (!(mayS b == 0)) (aiR 1) (aiR 0) := gate_pos h
section
variable (a : Nat → Nat) (sk : Int)
theorem sm1 : FSpec Tryz.prog 11 [SH 1 a sk] (iA (e1 a sk)) := by
  refine gspec R6_ok (k_cons kS_ok k_nil) Tryz.func11 (by kernel_rfl) (by kernel_rfl) noL_ok rfl ((sm1_ev a sk (cubeB a)).trans (smX_go fun hr => ?_))
  rw [smZ_pos (ar1 a sk), not_gt (rc_near hr).1]
  unfold ballM
  cases fgt (a 9) 0 <;> rfl
theorem sm2 : FSpec Tryz.prog 11 [SH 2 a sk] (iA (e2 a sk)) := by
  refine gspec R6_ok (k_cons kS_ok k_nil) Tryz.func11 (by kernel_rfl) (by kernel_rfl) noL_ok rfl ((sm2_ev a sk (blockB a)).trans (smX_go fun hr => ?_))
  rw [smZ_pos (ar2 a sk)]
  unfold blockM
  cases blockG a <;> rfl
theorem sm3 : FSpec Tryz.prog 11 [SH 3 a sk] (iA (e3 a sk)) := by
  refine gspec R6_ok (k_cons kS_ok k_nil) Tryz.func11 (by kernel_rfl) (by kernel_rfl) noL_ok rfl ((sm3_ev a sk (triB a)).trans (smX_go fun hr => ?_))
  rw [smZ_pos (ar3 a sk)]
  rfl
theorem sm4 : FSpec Tryz.prog 11 [SH 4 a sk] (iA (e4 a sk)) := by
  refine gspec R6_ok (k_cons kS_ok k_nil) Tryz.func11 (by kernel_rfl) (by kernel_rfl) noL_ok rfl ((sm4_ev a sk (cubeB a)).trans (smX_go fun hr => ?_))
  rw [smZ_pos (ar4 a sk), not_gt (rc_near hr).1]
  unfold plateM
  cases fgt (a 9) 0
  · rfl
  · rfl
theorem sm5 : FSpec Tryz.prog 11 [SH 5 a sk] (iA (e5 a sk)) := by
  refine gspec R6_ok (k_cons kS_ok k_nil) Tryz.func11 (by kernel_rfl) (by kernel_rfl) noL_ok rfl ((sm5_ev a sk (tubeB a (zB a))).trans (smX_go fun hr => ?_))
  rw [not_gt (rc_near hr).1, aiS_neg]
  unfold tubeM
  cases ho : axO (a 3) (a 4) (a 5)
  · cases fgt (a 9) 0 <;> rfl
  · rw [smZ_pos (ar5 a sk ho)]
    cases fgt (a 9) 0 <;> rfl
theorem sm6 : FSpec Tryz.prog 11 [SH 6 a sk] (iA (e6 a sk)) := by
  refine gspec R6_ok (k_cons kS_ok k_nil) Tryz.func11 (by kernel_rfl) (by kernel_rfl) noL_ok rfl ((sm6_ev a sk (ringB a (zB a))).trans (smX_go fun hr => ?_))
  rw [not_gt (rc_near hr).2, aiS_neg]
  unfold ringM
  rw [fge_not (near_nan (rc_near hr).1) (near_nan (rc_near hr).2)]
  cases ho : axO (a 3) (a 4) (a 5)
  · cases fgt (a 10) 0 <;> cases flt (a 9) (a 10) <;> rfl
  · rw [smZ_pos (ar6 a sk ho)]
    cases fgt (a 10) 0 <;> cases flt (a 9) (a 10) <;> rfl
theorem sm0 {k : Int} (h : kOther k) : FSpec Tryz.prog 11 [SH k a sk] (iA (e0 a sk)) := by
  obtain ⟨h1, h2, h3, h4, h5, h6⟩ := h
  refine gspec R6_ok (k_cons kS_ok k_nil) Tryz.func11 (by kernel_rfl) (by kernel_rfl) noL_ok rfl ((sm0_ev a sk k z6).trans ?_)
  rw [beq_false_of_ne h1, beq_false_of_ne h2, beq_false_of_ne h3, beq_false_of_ne h4, beq_false_of_ne h5, beq_false_of_ne h6]
  unfold smX e0 aiR
  cases skB sk <;> cases rcB a <;> rfl
end
section
variable (k : Int) (a : Nat → Nat) (sk : Int) (e : Int) (b : Nat → Nat)
noncomputable def smK (e : Int) : KEntry := kS Tryz.prog 11 fun _ => iA e
abbrev SMok : Prop := FSpec Tryz.prog 11 [SH k a sk] (iA e)
theorem rbo_ev : ev Tryz.prog R6 [smK e, arK b] noL Tryz.f9 [SH k a sk] ret = gate (SMok k a sk e) (cond (!(e == 0)) (bo7 z6 e) (gAr a sk k b (bo7 b 0))) := by kernel_rfl
theorem rbo_b {k : Int} {a : Nat → Nat} {sk e : Int} (h : SMok k a sk e) (he : e ≠ 0) : FSpec Tryz.prog 9 [SH k a sk] (.tup [BX z6, iA e]) := by
  refine gspec R6_ok (k_cons kS_ok (k_cons kS_ok k_nil)) Tryz.func9 (by kernel_rfl) (by kernel_rfl) noL_ok rfl ((rbo_ev k a sk e z6).trans ((gate_pos h).trans ?_))
  rw [beq_false_of_ne he]; rfl
theorem rbo_g {k : Int} {a : Nat → Nat} {sk : Int} {b : Nat → Nat} (h : SMok k a sk 0) (hb : FSpec Tryz.prog 39 [SH k a sk] (BX b)) : FSpec Tryz.prog 9 [SH k a sk] (.tup [BX b, iA 0]) :=
  gspec R6_ok (k_cons kS_ok (k_cons kS_ok k_nil)) Tryz.func9 (by kernel_rfl) (by kernel_rfl) noL_ok rfl ((rbo_ev k a sk 0 b).trans ((gate_pos h).trans (gate_pos hb)))
end
end Go.Proofs.YtancjnambbkhmaaGreat.Hs

namespace Go.Proofs.YtancjnambbkhmaaGreat.Hs
open Go.Gv
open Go.Ev (cn fadd fsub fmul fdiv fsqrt fneg feq flt fle fgt fge fabs isNan fge_not fle_not)

section
variable (k : Int) (a : Nat → Nat) (sk : Int) (r : Nat → Nat) (e : Int) (b : Nat → Nat) (t i o n f p q u x y w : Nat) (ok : Bool)
noncomputable def ioK : KEntry := kS Tryz.prog 61 fun _ => .tup [.f i, .f o, bA ok]
abbrev IOok (n f i o : Nat) (ok : Bool) : Prop := FSpec Tryz.prog 61 [SH k a sk, RY r, .f n, .f f] (.tup [.f i, .f o, bA ok])
def rwX (n f : Nat) : Option Out := cond (cond (!ok) true (!flt (btS i n f) (btS o n f))) (wi4 0 0 false 0) (wi4 (btS i n f) (btS o n f) true 0)
def noIn : Bool := cond (cond (!(k == 1)) (!(k == 2)) false) (!(k == 5)) false
theorem rwi_ev : ev Tryz.prog R6 [smK e, arK b, ioK i o ok] noL Tryz.f20 [SH k a sk, RY r] ret =
    gate (SMok k a sk e) (cond (!(e == 0)) (wi4 0 0 false e) (cond (!(rayS r == 0)) (wi4 0 0 false (rayS r)) (cond (noIn k) (wi4 0 0 false 3) (gAr a sk k b (cond (!meetK b (r0 r)) (wi4 0 0 false 0) (gate (IOok k a sk (r0 r) (meetN b (r0 r)) (meetF b (r0 r)) i o ok) (rwX i o ok (meetN b (r0 r)) (meetF b (r0 r))))))))) := by kernel_rfl
theorem rwi_b {k : Int} {a : Nat → Nat} {sk e : Int} {r : Nat → Nat} (h : SMok k a sk e) (he : e ≠ 0) : FSpec Tryz.prog 20 [SH k a sk, RY r] (.tup [.f 0, .f 0, bA false, iA e]) := by
  refine gspec R6_ok (k_cons kS_ok (k_cons kS_ok (k_cons kS_ok k_nil))) Tryz.func20 (by kernel_rfl) (by kernel_rfl) noL_ok rfl ((rwi_ev k a sk r e z6 0 0 false).trans ((gate_pos h).trans ?_))
  rw [beq_false_of_ne he]; rfl
theorem rwi_r {k : Int} {a : Nat → Nat} {sk : Int} {r : Nat → Nat} (h : SMok k a sk 0) (hr : rayS r ≠ 0) : FSpec Tryz.prog 20 [SH k a sk, RY r] (.tup [.f 0, .f 0, bA false, iA (rayS r)]) := by
  refine gspec R6_ok (k_cons kS_ok (k_cons kS_ok (k_cons kS_ok k_nil))) Tryz.func20 (by kernel_rfl) (by kernel_rfl) noL_ok rfl ((rwi_ev k a sk r 0 z6 0 0 false).trans ((gate_pos h).trans ?_))
  rw [beq_false_of_ne hr]; rfl
theorem rwi_n {k : Int} {a : Nat → Nat} {sk : Int} {r : Nat → Nat} (h : SMok k a sk 0) (hr : rayS r = 0) (hk : noIn k = true) : FSpec Tryz.prog 20 [SH k a sk, RY r] (.tup [.f 0, .f 0, bA false, iA 3]) := by
  refine gspec R6_ok (k_cons kS_ok (k_cons kS_ok (k_cons kS_ok k_nil))) Tryz.func20 (by kernel_rfl) (by kernel_rfl) noL_ok rfl ((rwi_ev k a sk r 0 z6 0 0 false).trans ((gate_pos h).trans ?_))
  rw [hr, hk]; rfl
theorem rwi_g {k : Int} {a : Nat → Nat} {sk : Int} {r b : Nat → Nat} {i o : Nat} {ok : Bool} (h : SMok k a sk 0) (hr : rayS r = 0) (hk : noIn k = false) (hb : FSpec Tryz.prog 39 [SH k a sk] (BX b)) (ho : meetK b (r0 r) = true → IOok k a sk (r0 r) (meetN b (r0 r)) (meetF b (r0 r)) i o ok) :
    FSpec Tryz.prog 20 [SH k a sk, RY r] (.tup [.f (paI (meetK b (r0 r)) ok i o (meetN b (r0 r)) (meetF b (r0 r))), .f (paO (meetK b (r0 r)) ok i o (meetN b (r0 r)) (meetF b (r0 r))), bA (paK (meetK b (r0 r)) ok i o (meetN b (r0 r)) (meetF b (r0 r))), iA 0]) := by
  refine gspec R6_ok (k_cons kS_ok (k_cons kS_ok (k_cons kS_ok k_nil))) Tryz.func20 (by kernel_rfl) (by kernel_rfl) noL_ok rfl ((rwi_ev k a sk r 0 b i o ok).trans ((gate_pos h).trans ?_))
  rw [hr, hk]
  show gAr a sk k b _ = _
  unfold gAr
  rw [gate_pos hb]
  cases hm : meetK b (r0 r)
  · rfl
  · rw [gate_pos (ho hm)]
    unfold rwX paI paO paK wi4
    cases ok <;> cases flt (btS i (meetN b (r0 r)) (meetF b (r0 r))) (btS o (meetN b (r0 r)) (meetF b (r0 r))) <;> rfl
theorem io1 : IOok 1 a sk r n f (abN (baO a r) (ryD r) (a 9)) (abF (baO a r) (ryD r) (a 9)) (abK (baO a r) (ryD r) (a 9)) := sp R6_ok Tryz.func61 (by kernel_rfl) (by kernel_rfl) rfl (by kernel_rfl)
theorem io2 : IOok 2 a sk r n f n f true := sp R6_ok Tryz.func61 (by kernel_rfl) (by kernel_rfl) rfl (by kernel_rfl)
end
end Go.Proofs.YtancjnambbkhmaaGreat.Hs

namespace Go.Proofs.YtancjnambbkhmaaGreat.Hs
open Go.Gv
open Go.Ev (cn fadd fsub fmul fdiv fsqrt fneg feq flt fle fgt fge fabs isNan fge_not fle_not nan_fgt nan_flt)

section
variable (a : Nat → Nat) (sk : Int) (r : Nat → Nat) (n f z : Nat)
def tzB : Bool := noughtB (tbD r z 0) (tbD r z 1) (tbD r z 2)
theorem tzB_eq : tzB r z = tbZ r z := by
  unfold tzB tbZ noughtB
  cases feq (tbD r z 0) 0 <;> cases feq (tbD r z 1) 0 <;> cases feq (tbD r z 2) 0 <;> rfl
/-- How the answer tells it: what is not within has numbers too. -/
def rtI : Nat := cond (tbZ r z) n (tbI a r n z)
def rtU : Nat := cond (tbZ r z) f (tbU a r f z)
def rtK : Bool := cond (tbZ r z) (tbA a r z) (cond (tbB a r z) (fle (tbI a r n z) (tbU a r f z)) false)
def rtY (i o : Nat) : Option Out := ab3 i o (cond (tbB a r z) (fle i o) false)
def rtX : Option Out := cond (tzB r z) (ab3 n f (tbA a r z)) (cond (!fgt (tbP a r z) n) (cond (!flt (tbQ a r z) f) (rtY a r z n f) (rtY a r z n (tbQ a r z))) (cond (!flt (tbQ a r z) f) (rtY a r z (tbP a r z) f) (rtY a r z (tbP a r z) (tbQ a r z))))
theorem rtX_eq : rtX a r n f z = some (Out.of (.tup [.f (rtI a r n z), .f (rtU a r f z), bA (rtK a r n f z)])) := by
  unfold rtX rtI rtU rtK rtY tbI tbU ab3
  rw [tzB_eq]
  cases tbZ r z
  · cases fgt (tbP a r z) n <;> cases flt (tbQ a r z) f <;> rfl
  · rfl
theorem io5_ev0 : ev Tryz.prog R5 [axK 0] noL Tryz.f61 [SH 5 a sk, RY r, .f n, .f f] ret = gAx a 0 (rtX a r n f 0) := by kernel_rfl
theorem io5_ev1 : ev Tryz.prog R5 [axK 1] noL Tryz.f61 [SH 5 a sk, RY r, .f n, .f f] ret = gAx a 1 (rtX a r n f 1) := by kernel_rfl
theorem io5_ev2 : ev Tryz.prog R5 [axK 2] noL Tryz.f61 [SH 5 a sk, RY r, .f n, .f f] ret = gAx a 2 (rtX a r n f 2) := by kernel_rfl
theorem io5 (h : axO (a 3) (a 4) (a 5) = true) : IOok 5 a sk r n f (rtI a r n (zB a)) (rtU a r f (zB a)) (rtK a r n f (zB a)) := by
  rcases zB_lt a with hz | hz | hz
  · rw [hz]; exact gspec R5_ok (k_cons kS_ok k_nil) Tryz.func61 (by kernel_rfl) (by kernel_rfl) noL_ok rfl ((io5_ev0 a sk r n f).trans ((gAx_pos a h hz).trans (rtX_eq a r n f 0)))
  · rw [hz]; exact gspec R5_ok (k_cons kS_ok k_nil) Tryz.func61 (by kernel_rfl) (by kernel_rfl) noL_ok rfl ((io5_ev1 a sk r n f).trans ((gAx_pos a h hz).trans (rtX_eq a r n f 1)))
  · rw [hz]; exact gspec R5_ok (k_cons kS_ok k_nil) Tryz.func61 (by kernel_rfl) (by kernel_rfl) noL_ok rfl ((io5_ev2 a sk r n f).trans ((gAx_pos a h hz).trans (rtX_eq a r n f 2)))
theorem rtK_eq (hn : isNan n = false) (hf : isNan f = false) : rtK a r n f z = tbK a r n f z := by
  unfold rtK tbK
  have h1 : isNan (tbI a r n z) = false := by
    unfold tbI
    cases h : fgt (tbP a r z) n
    · exact hn
    · exact (nan_fgt h).1
  have h2 : isNan (tbU a r f z) = false := by
    unfold tbU
    cases h : flt (tbQ a r z) f
    · exact hf
    · exact (nan_flt h).1
  rw [fle_not h1 h2]
variable (i o : Nat) (ok : Bool)
end
section
variable (r : Nat → Nat) (z : Nat) (p q g : Nat → Nat)
variable (hr : rayS r = 0) (hp : fineS (p 0) (p 1) (p 2) = true) (hq : fineS (q 0) (q 1) (q 2) = true) (hg : fineS (g 0) (g 1) (g 2) = true)
include hr hp hq
omit hr hp hq
include hr hp hq hg
end
section
variable (a : Nat → Nat) (sk : Int) (r : Nat → Nat) (n f : Nat)
variable (hr : rayS r = 0) (hA : fineS (a 0) (a 1) (a 2) = true) (hB : fineS (a 3) (a 4) (a 5) = true) (hC : fineS (a 6) (a 7) (a 8) = true)
include hr hA hB hC
end
end Go.Proofs.YtancjnambbkhmaaGreat.Hs

namespace Go.Ev
open Ieee

theorem leastP : double.leastPlace = -1074 := by decide +kernel
theorem fracB : (double.fractionBits : Int) = 52 := rfl
theorem log2_shl {m : Nat} (k : Nat) (hm : m ≠ 0) : (m <<< k).log2 = m.log2 + k := by
  have hp : 0 < 2 ^ k := Nat.two_pow_pos k
  have hne : m <<< k ≠ 0 := by rw [Nat.shiftLeft_eq]; exact Nat.mul_ne_zero hm (Nat.pos_iff_ne_zero.1 hp)
  rw [Nat.log2_eq_iff hne, Nat.shiftLeft_eq]
  refine ⟨by rw [Nat.pow_add]; exact Nat.mul_le_mul_right _ (Nat.log2_self_le hm), ?_⟩
  rw [show m.log2 + k + 1 = m.log2 + 1 + k by omega, Nat.pow_add]
  exact Nat.mul_lt_mul_of_pos_right Nat.lt_log2_self hp

theorem log2_lt53 {m : Nat} (h : m < 9007199254740992) : m.log2 ≤ 52 := by
  by_cases h0 : m = 0
  · subst h0; decide
  · have := (Nat.log2_lt h0).2 (show m < 2 ^ 53 by omega)
    omega

theorem nearest_zero (s : Bool) (p : Int) : double.nearest s 0 p = double.word s 0 := by simp [Format.nearest]

theorem word_neg (s : Bool) {r : Nat} (h : r ≤ 9218868437227405312) : double.word s r ^^^ 9223372036854775808 = double.word (!s) r := by
  have h63 : r < 2 ^ 63 := by omega
  unfold Format.word
  rw [signW]
  have e : (9223372036854775808 : Nat) = 2 ^ 63 := by decide
  rw [e]
  cases s
  · simp only [Bool.false_eq_true, if_false, Bool.not_false, if_true]
    have hor := Nat.two_pow_add_eq_or_of_lt h63 1
    rw [Nat.mul_one] at hor
    rw [hor]
    apply Nat.eq_of_testBit_eq
    intro n
    simp only [Nat.testBit_xor, Nat.testBit_or, Nat.testBit_two_pow]
    by_cases hn : 63 = n
    · subst hn; simp [Nat.testBit_lt_two_pow h63]
    · simp [hn]
  · simp only [if_true, Bool.not_true, Bool.false_eq_true, if_false]
    have hor := Nat.two_pow_add_eq_or_of_lt h63 1
    rw [Nat.mul_one] at hor
    rw [hor]
    apply Nat.eq_of_testBit_eq
    intro n
    simp only [Nat.testBit_xor, Nat.testBit_or, Nat.testBit_two_pow]
    by_cases hn : 63 = n
    · subst hn; simp [Nat.testBit_lt_two_pow h63]
    · simp [hn]

theorem fneg_word (s : Bool) {r : Nat} (h : r ≤ 9218868437227405312) : fneg (double.word s r) = double.word (!s) r := by
  unfold fneg
  rw [isNan_word s h, cond_false, word_neg s h]

theorem signed_neg (s : Bool) (m k : Nat) : signed (!s) m k = - signed s m k := by cases s <;> simp [signed]

end Go.Ev

namespace Go.Ev
open Ieee

/-- 'a / g' to the nearest whole number, between two to the even one. -/
def rnd (a g : Nat) : Nat := a / g + (decide (g < 2 * (a % g)) || (g == 2 * (a % g) && a / g % 2 == 1)).toNat

theorem rnd_small {a g : Nat} (h : 2 * a < g) : rnd a g = 0 := by
  have h1 : a / g = 0 := Nat.div_eq_of_lt (by omega)
  have h2 : a % g = a := Nat.mod_eq_of_lt (by omega)
  have h3 : decide (g < 2 * a) = false := decide_eq_false (by omega)
  have h4 : (g == 2 * a) = false := by simp; omega
  unfold rnd
  rw [h1, h2, h3, h4]; rfl

theorem toNat_le_one (b : Bool) : b.toNat ≤ 1 := by cases b <;> decide
theorem rnd_le (a g : Nat) : rnd a g ≤ a / g + 1 := Nat.add_le_add_left (toNat_le_one _) _
theorem le_rnd (a g : Nat) : a / g ≤ rnd a g := Nat.le_add_right _ _

theorem rnd_mono {a b g : Nat} (h : a ≤ b) : rnd a g ≤ rnd b g := by
  have hd : a / g ≤ b / g := Nat.div_le_div_right h
  rcases Nat.eq_or_lt_of_le hd with e | e
  · have h1 := Nat.div_add_mod a g
    have h2 := Nat.div_add_mod b g
    have hm : a % g ≤ b % g := by rw [e] at h1; omega
    unfold rnd
    rw [e]
    refine Nat.add_le_add_left ?_ _
    cases hx : (decide (g < 2 * (a % g)) || (g == 2 * (a % g) && b / g % 2 == 1))
    · exact Nat.zero_le _
    · have : (decide (g < 2 * (b % g)) || (g == 2 * (b % g) && b / g % 2 == 1)) = true := by
        simp only [Bool.or_eq_true, Bool.and_eq_true, decide_eq_true_eq, beq_iff_eq] at hx ⊢
        omega
      rw [this]; exact Nat.le_refl _
  · exact Nat.le_trans (rnd_le a g) (Nat.le_trans e (le_rnd b g))

theorem rnd_mul (a g : Nat) {c : Nat} (hc : 0 < c) : rnd (a * c) (g * c) = rnd a g := by
  unfold rnd
  rw [Nat.mul_div_mul_right _ _ hc, Nat.mul_mod_mul_right]
  have h1 : decide (g * c < 2 * (a % g * c)) = decide (g < 2 * (a % g)) := by
    rw [← Nat.mul_assoc]
    exact decide_eq_decide.2 (Nat.mul_lt_mul_right hc)
  have h2 : (g * c == 2 * (a % g * c)) = (g == 2 * (a % g)) := by
    rw [← Nat.mul_assoc, Bool.eq_iff_iff, beq_iff_eq, beq_iff_eq]
    exact Nat.mul_left_inj (by omega)
  rw [h1, h2]

theorem cut_rnd (s : Bool) (n d : Nat) : Toward.even.cut s n d = rnd n (2 ^ d) := by
  have hn : n < 2 ^ (n.log2 + 1) := Nat.lt_log2_self
  by_cases h : d ≤ n.log2 + 2
  · unfold Toward.cut rnd
    rw [Nat.min_eq_left h, Nat.one_shiftLeft]
  · have hL : 2 * n < 2 ^ (n.log2 + 2) := by rw [Nat.pow_succ]; omega
    have hd : 2 * n < 2 ^ d := Nat.lt_of_lt_of_le hL (Nat.pow_le_pow_right (by decide) (by omega))
    rw [rnd_small hd]
    have := rnd_small hL
    unfold rnd at this
    unfold Toward.cut
    rw [Nat.min_eq_right (by omega), Nat.one_shiftLeft]
    exact this

/-- A quotient with one digit more that tells whether anything is left. -/
theorem rnd_sticky (d n k : Nat) (hn : 0 < n) : rnd (2 * (d / n) + (d % n != 0).toNat) (2 ^ (k + 2)) = rnd d (n * 2 ^ (k + 1)) := by
  have hp : 0 < 2 ^ k := Nat.two_pow_pos k
  have e1 : 2 ^ (k + 1) = 2 * 2 ^ k := by rw [Nat.pow_succ]; omega
  have e2 : 2 ^ (k + 2) = 2 * (2 * 2 ^ k) := by rw [Nat.pow_succ, e1]; omega
  rw [e1, e2]
  generalize 2 ^ k = H at hp
  have hr : d % n < n := Nat.mod_lt _ hn
  have hd := Nat.div_add_mod d n
  generalize hst : (d % n != 0).toNat = st
  have hs : (st = 0 ∧ d % n = 0) ∨ (st = 1 ∧ 0 < d % n) := by
    cases hb : (d % n != 0)
    · rw [hb] at hst; left; exact ⟨hst.symm, by simpa using hb⟩
    · rw [hb] at hst; right; refine ⟨hst.symm, ?_⟩
      have : d % n ≠ 0 := by simpa using hb
      omega
  generalize d % n = r at hr hd hs
  have hQ := Nat.div_add_mod (d / n) (2 * H)
  have hB : d / n % (2 * H) < 2 * H := Nat.mod_lt _ (by omega)
  -- the whole part
  have w1 : (2 * (d / n) + st) / (2 * (2 * H)) = d / n / (2 * H) := by
    rw [← Nat.div_div_eq_div_mul]
    congr 1
    omega
  have w2 : d / (n * (2 * H)) = d / n / (2 * H) := (Nat.div_div_eq_div_mul d n (2 * H)).symm
  generalize hA : d / n / (2 * H) = A at *
  generalize hBe : d / n % (2 * H) = Bq at *
  generalize hq : d / n = Q at *
  -- what is left
  have m1 : (2 * Q + st) % (2 * (2 * H)) = 2 * Bq + st := by
    have := Nat.div_add_mod (2 * Q + st) (2 * (2 * H))
    rw [w1] at this
    have e : 2 * (2 * H) * A = 2 * (2 * H * A) := by rw [Nat.mul_assoc]
    omega
  have m2 : d % (n * (2 * H)) = n * Bq + r := by
    have := Nat.div_add_mod d (n * (2 * H))
    rw [w2] at this
    have e : n * Q = n * (2 * H) * A + n * Bq := by rw [← hQ, Nat.mul_add, Nat.mul_assoc n]
    omega
  unfold rnd
  rw [w1, w2, m1, m2]
  congr 2
  have c1 : (2 * (2 * H) < 2 * (2 * Bq + st)) ↔ (n * (2 * H) < 2 * (n * Bq + r)) := by
    have q1 : n * (2 * H) = 2 * (n * H) := by rw [Nat.mul_left_comm]
    rw [q1]
    constructor
    · intro h
      have : H ≤ Bq := by omega
      rcases Nat.eq_or_lt_of_le this with e | e
      · subst e; omega
      · have := Nat.mul_le_mul_left n (show H + 1 ≤ Bq from e)
        rw [Nat.mul_add] at this; omega
    · intro h
      by_cases hl : Bq < H
      · have := Nat.mul_le_mul_left n (show Bq + 1 ≤ H from hl)
        rw [Nat.mul_add] at this; omega
      · rcases Nat.eq_or_lt_of_le (Nat.le_of_not_lt hl) with e | e
        · subst e; omega
        · omega
  have c2 : (2 * (2 * H) = 2 * (2 * Bq + st)) ↔ (n * (2 * H) = 2 * (n * Bq + r)) := by
    have q1 : n * (2 * H) = 2 * (n * H) := by rw [Nat.mul_left_comm]
    rw [q1]
    constructor
    · intro h
      have : H = Bq := by omega
      subst this; omega
    · intro h
      rcases Nat.lt_trichotomy Bq H with hl | e | hl
      · have := Nat.mul_le_mul_left n (show Bq + 1 ≤ H from hl)
        rw [Nat.mul_add] at this; omega
      · subst e; omega
      · have := Nat.mul_le_mul_left n (show H + 1 ≤ Bq from hl)
        rw [Nat.mul_add] at this; omega
  have d1 : decide (2 * (2 * H) < 2 * (2 * Bq + st)) = decide (n * (2 * H) < 2 * (n * Bq + r)) := decide_eq_decide.2 c1
  have d2 : (2 * (2 * H) == 2 * (2 * Bq + st)) = (n * (2 * H) == 2 * (n * Bq + r)) := by
    rw [Bool.eq_iff_iff, beq_iff_eq, beq_iff_eq]; exact c2
  rw [d1, d2]

/-- The rung of 'a / g' units, uncapped: 'b' bits of fraction. -/
def rq (b a g : Nat) : Nat := ((a / g).log2 - b) * 2 ^ b + rnd a (g * 2 ^ ((a / g).log2 - b))

theorem rq_mul (b a g : Nat) {c : Nat} (hc : 0 < c) : rq b (a * c) (g * c) = rq b a g := by
  unfold rq
  rw [Nat.mul_div_mul_right _ _ hc, Nat.mul_right_comm, rnd_mul _ _ hc]

theorem rq_mono1 (b : Nat) {a c g : Nat} (h : a ≤ c) : rq b a g ≤ rq b c g := by
  have hd : a / g ≤ c / g := Nat.div_le_div_right h
  have hl : (a / g).log2 ≤ (c / g).log2 := by
    by_cases h0 : a / g = 0
    · rw [h0]; simp
    · exact (Nat.le_log2 (fun hc => h0 (Nat.le_zero.1 (hc ▸ hd)))).2 (Nat.le_trans (Nat.log2_self_le h0) hd)
  unfold rq
  have hl2 : (a / g).log2 - b ≤ (c / g).log2 - b := by omega
  rcases Nat.eq_or_lt_of_le hl2 with e | e
  · rw [e]
    exact Nat.add_le_add_left (rnd_mono h) _
  · -- the lower one is at most the next binade's first
    have h1 : rnd a (g * 2 ^ ((a / g).log2 - b)) ≤ 2 ^ (b + 1) := by
      refine Nat.le_trans (rnd_le _ _) ?_
      rw [← Nat.div_div_eq_div_mul]
      have : a / g < 2 ^ ((a / g).log2 + 1) := Nat.lt_log2_self
      have h2 : a / g / 2 ^ ((a / g).log2 - b) < 2 ^ (b + 1) := by
        rw [Nat.div_lt_iff_lt_mul (Nat.two_pow_pos _), ← Nat.pow_add]
        exact Nat.lt_of_lt_of_le this (Nat.pow_le_pow_right (by decide) (by omega))
      omega
    have h2 : 2 ^ b ≤ rnd c (g * 2 ^ ((c / g).log2 - b)) := by
      refine Nat.le_trans ?_ (le_rnd _ _)
      rw [← Nat.div_div_eq_div_mul, Nat.le_div_iff_mul_le (Nat.two_pow_pos _), ← Nat.pow_add]
      have h0 : c / g ≠ 0 := by
        intro h0; rw [h0] at e; simp at e
      refine Nat.le_trans (Nat.pow_le_pow_right (by decide) (by omega)) (Nat.log2_self_le h0)
    have h3 := Nat.mul_le_mul_right (2 ^ b) e
    rw [Nat.succ_mul] at h3
    rw [Nat.pow_succ] at h1
    omega

theorem rq_mono (b : Nat) {a c g h : Nat} (hg : 0 < g) (hh : 0 < h) (hle : a * h ≤ c * g) : rq b a g ≤ rq b c h := by
  rw [← rq_mul b a g hh, ← rq_mul b c h hg, Nat.mul_comm h g]
  exact rq_mono1 b hle

theorem rq_zero (b : Nat) {g : Nat} (hg : 0 < g) : rq b 0 g = 0 := by
  unfold rq
  rw [Nat.zero_div, Nat.log2_zero, Nat.zero_sub, Nat.zero_mul, Nat.zero_add]
  exact rnd_small (by rw [Nat.mul_zero]; exact Nat.mul_pos hg (Nat.two_pow_pos _))
end Go.Ev

namespace Go.Ev
open Ieee

theorem log2_half (n : Nat) : (n / 2).log2 = n.log2 - 1 := by
  rw [Nat.log2_def n]
  by_cases h : n ≥ 2
  · rw [if_pos h]; simp
  · rw [if_neg h]
    have : n / 2 = 0 := by omega
    rw [this]; simp
theorem log2_div (n : Nat) : ∀ v, (n / 2 ^ v).log2 = n.log2 - v
  | 0 => by simp
  | v + 1 => by rw [Nat.pow_succ, ← Nat.div_div_eq_div_mul, log2_half, log2_div n v]; omega

theorem nearest_rq0 (s : Bool) (m u : Nat) (p : Int) (hp : p = u - 1074) : double.nearest s m p = double.word s (min (rq 52 (m * 2 ^ u) 1) double.infRung) := by
  by_cases hm : m = 0
  · subst hm; rw [nearest_zero, Nat.zero_mul, rq_zero 52 (by decide), Nat.zero_min]
  · have hl : (m * 2 ^ u / 1).log2 = m.log2 + u := by rw [Nat.div_one, ← Nat.shiftLeft_eq, log2_shl u hm]
    have e1 : (max (p + m.log2 - (double.fractionBits : Int)) double.leastPlace - double.leastPlace).toNat = m.log2 + u - 52 := by rw [leastP, fracB]; omega
    have e2 : (p - max (p + m.log2 - (double.fractionBits : Int)) double.leastPlace).toNat = u - (m.log2 + u - 52) := by rw [leastP, fracB]; omega
    have e3 : (max (p + m.log2 - (double.fractionBits : Int)) double.leastPlace - p).toNat = (m.log2 + u - 52) - u := by rw [leastP, fracB]; omega
    unfold Format.nearest rq
    rw [if_neg hm, hl]
    simp only [e1, e2, e3]
    generalize m.log2 + u - 52 = l
    rw [cut_rnd, Nat.shiftLeft_eq, Nat.one_mul]
    have : rnd (m * 2 ^ (u - l)) (2 ^ (l - u)) = rnd (m * 2 ^ u) (2 ^ l) := by
      rw [← rnd_mul _ _ (Nat.two_pow_pos (min u l)), Nat.mul_assoc, ← Nat.pow_add, ← Nat.pow_add]
      congr 3 <;> omega
    rw [this]
    rfl

theorem nearest_rq1 (s : Bool) (m v : Nat) (p : Int) (hp : p = -1074 - v) : double.nearest s m p = double.word s (min (rq 52 m (2 ^ v)) double.infRung) := by
  by_cases hm : m = 0
  · subst hm; rw [nearest_zero, rq_zero 52 (Nat.two_pow_pos _), Nat.zero_min]
  · have e1 : (max (p + m.log2 - (double.fractionBits : Int)) double.leastPlace - double.leastPlace).toNat = m.log2 - v - 52 := by rw [leastP, fracB]; omega
    have e2 : (p - max (p + m.log2 - (double.fractionBits : Int)) double.leastPlace).toNat = 0 := by rw [leastP, fracB]; omega
    have e3 : (max (p + m.log2 - (double.fractionBits : Int)) double.leastPlace - p).toNat = v + (m.log2 - v - 52) := by rw [leastP, fracB]; omega
    unfold Format.nearest rq
    rw [if_neg hm, log2_div]
    simp only [e1, e2, e3]
    rw [cut_rnd, Nat.shiftLeft_eq, Nat.pow_zero, Nat.mul_one, Nat.pow_add]
    rfl

/-- What is written of 'm * 2 ^ p', with 'p + 1074 = u - v'. -/
theorem nearest_rq (s : Bool) (m u v : Nat) (p : Int) (hp : p + 1074 = u - v) : double.nearest s m p = double.word s (min (rq 52 (m * 2 ^ u) (2 ^ v)) double.infRung) := by
  by_cases h : v ≤ u
  · rw [nearest_rq0 s m (u - v) p (by omega)]
    have := rq_mul 52 (m * 2 ^ (u - v)) 1 (Nat.two_pow_pos v)
    rw [Nat.mul_assoc, ← Nat.pow_add, Nat.one_mul, Nat.sub_add_cancel h] at this
    rw [this]
  · rw [nearest_rq1 s m (v - u) p (by omega)]
    have := rq_mul 52 m (2 ^ (v - u)) (Nat.two_pow_pos u)
    rw [← Nat.pow_add, Nat.sub_add_cancel (by omega)] at this
    rw [this]

theorem log2_of_iff {x y : Nat} (h : ∀ k, 2 ^ k ≤ x ↔ 2 ^ k ≤ y) : x.log2 = y.log2 := by
  by_cases hx : x = 0
  · have : y = 0 := by
      by_cases hy : y = 0
      · exact hy
      · have := (h 0).2 (by rw [Nat.pow_zero]; omega)
        rw [Nat.pow_zero] at this; omega
    rw [hx, this]
  · have hy : y ≠ 0 := by
      have := (h 0).1 (by rw [Nat.pow_zero]; omega)
      rw [Nat.pow_zero] at this; omega
    exact Nat.le_antisymm ((Nat.le_log2 hy).2 ((h _).1 (Nat.log2_self_le hx))) ((Nat.le_log2 hx).2 ((h _).2 (Nat.log2_self_le hy)))

theorem rq_sticky (b d n u v : Nat) (hn : 0 < n) (hq : 2 ^ (b + 1) ≤ d / n) : rq b ((2 * (d / n) + (d % n != 0).toNat) * 2 ^ u) (2 ^ v) = rq b (2 * d * 2 ^ u) (n * 2 ^ v) := by
  have hp : 0 < 2 ^ (b + 1) := Nat.two_pow_pos _
  have hst := toNat_le_one (d % n != 0)
  have hlog : ((2 * (d / n) + (d % n != 0).toNat) * 2 ^ u / 2 ^ v).log2 = (2 * d * 2 ^ u / (n * 2 ^ v)).log2 := by
    refine log2_of_iff fun k => ?_
    rw [Nat.le_div_iff_mul_le (Nat.two_pow_pos _), Nat.le_div_iff_mul_le (Nat.mul_pos hn (Nat.two_pow_pos _)), ← Nat.pow_add, Nat.mul_left_comm, ← Nat.pow_add]
    have hnd : n ≤ d := by
      have := (Nat.le_div_iff_mul_le hn (x := 1) (y := d)).1 (by omega)
      omega
    by_cases hk : k + v ≤ u
    · have hle : 2 ^ (k + v) ≤ 2 ^ u := Nat.pow_le_pow_right (by decide) hk
      constructor
      · intro _; exact Nat.le_trans (Nat.mul_le_mul hnd hle) (Nat.mul_le_mul_right _ (by omega))
      · intro _
        exact Nat.le_trans hle (Nat.le_mul_of_pos_left _ (by omega))
    · obtain ⟨w, hw⟩ : ∃ w, k + v = w + 1 + u := ⟨k + v - u - 1, by omega⟩
      rw [hw, Nat.pow_add, ← Nat.mul_assoc, Nat.mul_le_mul_right_iff (Nat.two_pow_pos u), Nat.mul_le_mul_right_iff (Nat.two_pow_pos u), Nat.pow_succ]
      have hiff := Nat.le_div_iff_mul_le hn (x := 2 ^ w) (y := d)
      have e : n * (2 ^ w * 2) = 2 * (2 ^ w * n) := by rw [Nat.mul_comm, Nat.mul_assoc, Nat.mul_left_comm]
      rw [e]
      omega
  have hl : u + 2 ≤ v + (((2 * (d / n) + (d % n != 0).toNat) * 2 ^ u / 2 ^ v).log2 - b) := by
    by_cases h : v ≤ b + 2 + u
    · have h1 : 2 ^ (b + 2 + u - v) ≤ (2 * (d / n) + (d % n != 0).toNat) * 2 ^ u / 2 ^ v := by
        rw [Nat.le_div_iff_mul_le (Nat.two_pow_pos _), ← Nat.pow_add, Nat.sub_add_cancel h, Nat.pow_add]
        refine Nat.mul_le_mul_right _ ?_
        rw [Nat.pow_succ]; omega
      have h0 : (2 * (d / n) + (d % n != 0).toNat) * 2 ^ u / 2 ^ v ≠ 0 := by
        have := Nat.two_pow_pos (b + 2 + u - v)
        intro h0; rw [h0] at h1; omega
      have := (Nat.le_log2 h0).2 h1
      omega
    · omega
  unfold rq
  rw [hlog] at hl ⊢
  generalize (2 * d * 2 ^ u / (n * 2 ^ v)).log2 - b = l at hl
  obtain ⟨k, hk⟩ : ∃ k, v + l = k + 2 + u := ⟨v + l - u - 2, by omega⟩
  congr 1
  rw [← Nat.pow_add, Nat.mul_assoc n, ← Nat.pow_add, hk, Nat.pow_add, rnd_mul _ _ (Nat.two_pow_pos u), rnd_sticky d n k hn, ← Nat.mul_assoc, rnd_mul _ _ (Nat.two_pow_pos u)]
  have := rnd_mul d (n * 2 ^ (k + 1)) (c := 2) (by decide)
  rw [← this, Nat.mul_comm d 2, Nat.mul_assoc n, ← Nat.pow_succ]
end Go.Ev

namespace Go.Ev
open Ieee

theorem signed_mul (s : Bool) (m k : Nat) : signed s m k = signed s 1 0 * ((m : Int) * 2 ^ k) := by
  cases s <;> simp [signed, Nat.shiftLeft_eq]

theorem signed_split (s : Bool) (m a b : Nat) : signed s m (a + b) = signed s m a * 2 ^ b := by
  rw [signed_mul, signed_mul s m a, Int.mul_assoc, Int.mul_assoc, Int.pow_add]

end Go.Ev

namespace Go.Ev
open Ieee

/-- The magnitude of a rung, in the least units: 'b' bits of fraction. -/
def rv (b r : Nat) : Nat := if r < 2 ^ b then r else (2 ^ b + r % 2 ^ b) * 2 ^ (r / 2 ^ b - 1)

theorem rv_step (b r : Nat) : rv b r < rv b (r + 1) := by
  have hN : 0 < 2 ^ b := Nat.two_pow_pos b
  unfold rv
  generalize 2 ^ b = N at hN
  by_cases h1 : r + 1 < N
  · rw [if_pos (by omega), if_pos h1]; omega
  · rw [if_neg h1]
    by_cases h2 : r < N
    · rw [if_pos h2]
      have e : r + 1 = N := by omega
      rw [e, Nat.mod_self, Nat.div_self hN, Nat.sub_self, Nat.pow_zero]; omega
    · rw [if_neg h2]
      have hd := Nat.div_add_mod r N
      have hm : r % N < N := Nat.mod_lt _ hN
      have hq : 1 ≤ r / N := (Nat.le_div_iff_mul_le hN).2 (by omega)
      by_cases h3 : r % N + 1 < N
      · have e1 : (r + 1) / N = r / N := by
          rw [Nat.div_eq_iff hN]
          have : r / N * N = N * (r / N) := Nat.mul_comm _ _
          omega
        have e2 : (r + 1) % N = r % N + 1 := by
          have := Nat.div_add_mod (r + 1) N
          rw [e1] at this; omega
        rw [e1, e2]
        exact Nat.mul_lt_mul_of_pos_right (by omega) (Nat.two_pow_pos _)
      · have h4 : r % N + 1 = N := by omega
        have e0 : r + 1 = N * (r / N + 1) := by rw [Nat.mul_add]; omega
        have e1 : (r + 1) / N = r / N + 1 := by rw [e0, Nat.mul_div_cancel_left _ hN]
        have e2 : (r + 1) % N = 0 := by rw [e0, Nat.mul_mod_right]
        rw [e1, e2]
        obtain ⟨q, hq'⟩ : ∃ q, r / N = q + 1 := ⟨r / N - 1, by omega⟩
        rw [hq', Nat.add_sub_cancel, Nat.add_sub_cancel, Nat.pow_succ, Nat.add_zero, Nat.mul_comm (2 ^ q) 2, ← Nat.mul_assoc]
        exact Nat.mul_lt_mul_of_pos_right (by omega) (Nat.two_pow_pos _)
theorem rv_lt (b : Nat) {r : Nat} : ∀ {q : Nat}, r < q → rv b r < rv b q
  | 0, h => by omega
  | q + 1, h => by
    rcases Nat.eq_or_lt_of_le (Nat.lt_succ_iff.1 h) with e | e
    · rw [e]; exact rv_step b q
    · exact Nat.lt_trans (rv_lt b e) (rv_step b q)
theorem rv_lt_iff (b r q : Nat) : rv b r < rv b q ↔ r < q := by
  constructor
  · intro h
    rcases Nat.lt_trichotomy r q with e | e | e
    · exact e
    · rw [e] at h; omega
    · have := rv_lt b e; omega
  · exact rv_lt b
theorem rv_zero (b : Nat) : rv b 0 = 0 := by unfold rv; rw [if_pos (Nat.two_pow_pos b)]

theorem log2_mul_pow {m : Nat} (k : Nat) (hm : m ≠ 0) : (m * 2 ^ k).log2 = m.log2 + k := by rw [← Nat.shiftLeft_eq, log2_shl k hm]
theorem rnd_one (a : Nat) : rnd a 1 = a := by
  unfold rnd
  rw [Nat.div_one, Nat.mod_one]; rfl
/-- Rounding what is a rung's gives that rung. -/
theorem rq_rv (b r : Nat) : rq b (rv b r) 1 = r := by
  have hN : 0 < 2 ^ b := Nat.two_pow_pos b
  unfold rq rv
  rw [Nat.div_one]
  by_cases h : r < 2 ^ b
  · rw [if_pos h]
    have hl : r.log2 - b = 0 := by
      by_cases h0 : r = 0
      · rw [h0]; simp
      · have := (Nat.log2_lt h0).2 h; omega
    rw [hl, Nat.zero_mul, Nat.zero_add, Nat.pow_zero, rnd_one]
  · rw [if_neg h]
    have hm : r % 2 ^ b < 2 ^ b := Nat.mod_lt _ hN
    have hd := Nat.div_add_mod r (2 ^ b)
    have hq : 1 ≤ r / 2 ^ b := (Nat.le_div_iff_mul_le hN).2 (by omega)
    have hl : ((2 ^ b + r % 2 ^ b) * 2 ^ (r / 2 ^ b - 1)).log2 = b + (r / 2 ^ b - 1) := by
      rw [log2_mul_pow _ (by omega)]
      congr 1
      rw [Nat.log2_eq_iff (by omega), Nat.pow_succ]
      omega
    rw [hl, Nat.add_sub_cancel_left, rnd_mul _ 1 (Nat.two_pow_pos _), rnd_one]
    obtain ⟨q, hq'⟩ : ∃ q, r / 2 ^ b = q + 1 := ⟨r / 2 ^ b - 1, by omega⟩
    rw [hq', Nat.mul_add] at hd
    rw [hq', Nat.add_sub_cancel, Nat.mul_comm q]
    omega

def sgn (x : Nat) : Bool := x / 9223372036854775808 % 2 == 1
def rung (x : Nat) : Nat := x % 9223372036854775808
def key (x : Nat) : Int := cond (sgn x) (-(rung x : Int)) (rung x)
def isFin (x : Nat) : Bool := Nat.blt (rung x) 9218868437227405312
def val (x : Nat) : Int := cond (sgn x) (-(rv 52 (rung x) : Int)) (rv 52 (rung x))

theorem isFin_lt {x : Nat} (h : isFin x = true) : rung x < 9218868437227405312 := Nat.le_of_ble_eq_true h

theorem rv_low {r : Nat} (h : r < 4503599627370496) : rv 52 r = r := by unfold rv; rw [if_pos (show r < 2 ^ 52 from h)]
theorem rv_high {r : Nat} (h : ¬ r < 4503599627370496) : rv 52 r = (4503599627370496 + r % 4503599627370496) * 2 ^ (r / 4503599627370496 - 1) := by
  unfold rv; rw [if_neg (show ¬ r < 2 ^ 52 from h)]

theorem signed_val (s : Bool) (m k : Nat) : signed s m k = cond s (-((m * 2 ^ k : Nat) : Int)) ((m * 2 ^ k : Nat) : Int) := by
  unfold signed; rw [Nat.shiftLeft_eq]; cases s <;> rfl

/-- What a word that is a number stands for. -/
theorem read_fin {x : Nat} (h : isFin x = true) : ∃ m i, double.read x = .number (sgn x) m i ∧ -1074 ≤ i ∧ m < 9007199254740992 ∧ rv 52 (rung x) = m * 2 ^ (i + 1074).toNat := by
  have hl := isFin_lt h
  unfold rung at hl ⊢
  unfold Format.read sgn
  simp only [signW, infR, binadeV, leastP]
  by_cases h1 : x % 9223372036854775808 < 4503599627370496
  · rw [if_pos h1]
    refine ⟨_, _, rfl, by omega, by omega, ?_⟩
    rw [rv_low h1, show (-1074 + 1074 : Int).toNat = 0 from rfl, Nat.pow_zero, Nat.mul_one]
  · rw [if_neg h1, if_pos hl]
    have := Nat.mod_lt (x % 9223372036854775808) (show 0 < 4503599627370496 by decide)
    refine ⟨_, _, rfl, by omega, by omega, ?_⟩
    rw [rv_high h1]
    congr 2
    omega
theorem read_inf {x : Nat} (h : rung x = 9218868437227405312) : double.read x = .infinity (sgn x) := by
  unfold rung at h
  unfold Format.read sgn
  simp only [signW, infR, binadeV, leastP, h]
  rfl
theorem fin_or_inf {x : Nat} (h : isNan x = false) : isFin x = true ∨ rung x = 9218868437227405312 := by
  cases hf : isFin x
  · right
    have h1 : ¬ rung x < 9218868437227405312 := fun hl => by
      have : isFin x = true := Nat.ble_eq_true_of_le hl
      rw [hf] at this; cases this
    unfold rung at h1 ⊢
    unfold isNan Format.read at h
    simp only [signW, infR, binadeV, leastP] at h
    rw [if_neg (by omega), if_neg h1] at h
    by_cases he : x % 9223372036854775808 = 9218868437227405312
    · exact he
    · rw [if_neg he] at h; simp [Datum.isNaN] at h
  · exact Or.inl rfl
theorem fin_not_nan {x : Nat} (h : isFin x = true) : isNan x = false := by
  obtain ⟨m, i, hr, _⟩ := read_fin h
  unfold isNan; rw [hr]; rfl

theorem cmp_congr {a b c d : Int} (h1 : a < b ↔ c < d) (h2 : a = b ↔ c = d) : compare a b = compare c d := by
  show compareOfLessAndEq a b = compareOfLessAndEq c d
  unfold compareOfLessAndEq
  simp only [h1, h2]
theorem order_val {x y : Nat} (hx : isFin x = true) (hy : isFin y = true) : double.order x y = some (compare (val x) (val y)) := by
  obtain ⟨m, i, hrx, hi, _, hvx⟩ := read_fin hx
  obtain ⟨n, j, hry, hj, _, hvy⟩ := read_fin hy
  unfold Format.order
  rw [hrx, hry]
  simp only [Datum.order, Option.some.injEq]
  have e1 : val x = signed (sgn x) m (i - min i j).toNat * 2 ^ (min i j + 1074).toNat := by
    rw [← signed_split, show (i - min i j).toNat + (min i j + 1074).toNat = (i + 1074).toNat by omega, signed_val, ← hvx]; rfl
  have e2 : val y = signed (sgn y) n (j - min i j).toNat * 2 ^ (min i j + 1074).toNat := by
    rw [← signed_split, show (j - min i j).toNat + (min i j + 1074).toNat = (j + 1074).toNat by omega, signed_val, ← hvy]; rfl
  have hp : (0 : Int) < 2 ^ (min i j + 1074).toNat := Int.pow_pos (by decide)
  rw [e1, e2]
  generalize (2 : Int) ^ (min i j + 1074).toNat = c at hp
  refine cmp_congr ?_ ?_
  · exact (Int.mul_lt_mul_right hp).symm
  · exact (Int.mul_eq_mul_right_iff (by omega)).symm
theorem val_lt {x y : Nat} : val x < val y ↔ key x < key y := by
  unfold val key
  have a1 := rv_lt_iff 52 (rung x) (rung y)
  have a2 := rv_lt_iff 52 (rung y) (rung x)
  have a3 := rv_lt_iff 52 0 (rung x)
  have a4 := rv_lt_iff 52 0 (rung y)
  rw [rv_zero] at a3 a4
  cases sgn x <;> cases sgn y <;> simp only [cond_true, cond_false] <;> omega
theorem val_le {x y : Nat} : val x ≤ val y ↔ key x ≤ key y := by
  have := val_lt (x := y) (y := x); omega
theorem order_key {x y : Nat} (hx : isNan x = false) (hy : isNan y = false) : double.order x y = some (compare (key x) (key y)) := by
  rcases fin_or_inf hx with fx | ix
  · rcases fin_or_inf hy with fy | iy
    · rw [order_val fx fy]
      have := val_lt (x := x) (y := y)
      have := val_lt (x := y) (y := x)
      exact congrArg some (cmp_congr (by omega) (by omega))
    · obtain ⟨m, i, hr, _⟩ := read_fin fx
      have hl := isFin_lt fx
      unfold Format.order
      rw [hr, read_inf iy]
      simp only [Datum.order, Option.some.injEq]
      unfold key
      rw [iy]
      cases sgn y
      · exact (show compare _ _ = compare (0 : Int) 1 from cmp_congr (by cases sgn x <;> simp only [cond_true, cond_false] <;> omega) (by cases sgn x <;> simp only [cond_true, cond_false] <;> omega)).symm
      · exact (show compare _ _ = compare (1 : Int) 0 from cmp_congr (by cases sgn x <;> simp only [cond_true, cond_false] <;> omega) (by cases sgn x <;> simp only [cond_true, cond_false] <;> omega)).symm
  · rcases fin_or_inf hy with fy | iy
    · obtain ⟨m, i, hr, _⟩ := read_fin fy
      have hl := isFin_lt fy
      unfold Format.order
      rw [hr, read_inf ix]
      simp only [Datum.order, Option.some.injEq]
      unfold key
      rw [ix]
      cases sgn x
      · exact (show compare _ _ = compare (1 : Int) 0 from cmp_congr (by cases sgn y <;> simp only [cond_true, cond_false] <;> omega) (by cases sgn y <;> simp only [cond_true, cond_false] <;> omega)).symm
      · exact (show compare _ _ = compare (0 : Int) 1 from cmp_congr (by cases sgn y <;> simp only [cond_true, cond_false] <;> omega) (by cases sgn y <;> simp only [cond_true, cond_false] <;> omega)).symm
    · unfold Format.order key
      rw [read_inf ix, read_inf iy, ix, iy]
      cases sgn x <;> cases sgn y <;> decide
end Go.Ev

namespace Go.Ev
open Ieee

theorem cmp_lt (a b : Int) : (compare a b == Ordering.lt) = decide (a < b) := by
  show (compareOfLessAndEq a b == Ordering.lt) = _
  unfold compareOfLessAndEq
  by_cases h : a < b
  · simp [h]
  · by_cases h2 : a = b
    · simp [h2]
    · simp [h, h2]
theorem cmp_eq (a b : Int) : (compare a b == Ordering.eq) = decide (a = b) := by
  show (compareOfLessAndEq a b == Ordering.eq) = _
  unfold compareOfLessAndEq
  by_cases h : a < b
  · have : a ≠ b := by omega
    simp [h, this]
  · by_cases h2 : a = b
    · simp [h2]
    · simp [h, h2]
theorem cmp_gt (a b : Int) : (compare a b == Ordering.gt) = decide (b < a) := by
  show (compareOfLessAndEq a b == Ordering.gt) = _
  unfold compareOfLessAndEq
  by_cases h : a < b
  · have : ¬ b < a := by omega
    simp [h, this]
  · by_cases h2 : a = b
    · simp [h2]
    · have : b < a := by omega
      simp [h, h2, this]
theorem some_beq (a b : Ordering) : (some a == some b) = (a == b) := rfl

theorem flt_key {x y : Nat} (hx : isNan x = false) (hy : isNan y = false) : flt x y = decide (key x < key y) := by
  unfold flt; rw [order_key hx hy, some_beq, cmp_lt]
theorem fgt_key {x y : Nat} (hx : isNan x = false) (hy : isNan y = false) : fgt x y = decide (key y < key x) := by
  unfold fgt; rw [order_key hx hy, some_beq, cmp_gt]
theorem feq_key {x y : Nat} (hx : isNan x = false) (hy : isNan y = false) : feq x y = decide (key x = key y) := by
  unfold feq; rw [order_key hx hy, some_beq, cmp_eq]
theorem fle_key {x y : Nat} (hx : isNan x = false) (hy : isNan y = false) : fle x y = decide (key x ≤ key y) := by
  unfold fle; rw [order_key hx hy, some_beq, some_beq, cmp_lt, cmp_eq, Bool.eq_iff_iff]; simp; omega
theorem fge_key {x y : Nat} (hx : isNan x = false) (hy : isNan y = false) : fge x y = decide (key y ≤ key x) := by
  unfold fge; rw [order_key hx hy, some_beq, some_beq, cmp_gt, cmp_eq, Bool.eq_iff_iff]; simp; omega
theorem not_nan_of {x y : Nat} {o : Ordering} (h : double.order x y = some o) : isNan x = false ∧ isNan y = false := by
  constructor
  · cases hx : isNan x
    · rfl
    · have : double.order x y = none := order_nan_left hx
      rw [this] at h; cases h
  · cases hy : isNan y
    · rfl
    · have : double.order x y = none := order_nan_right hy
      rw [this] at h; cases h
theorem flt_true {x y : Nat} (h : flt x y = true) : isNan x = false ∧ isNan y = false ∧ key x < key y := by
  have h' := h
  unfold flt at h
  cases ho : double.order x y with
  | none => rw [ho] at h; cases h
  | some o =>
    obtain ⟨a, b⟩ := not_nan_of ho
    rw [flt_key a b] at h'
    exact ⟨a, b, of_decide_eq_true h'⟩
def KR (v : Int) (g : Nat) : Int := cond (decide (v < 0)) (-((min (rq 52 v.natAbs g) 9218868437227405312 : Nat) : Int)) ((min (rq 52 v.natAbs g) 9218868437227405312 : Nat) : Int)

theorem KR_mono {v w : Int} (g : Nat) (h : v ≤ w) : KR v g ≤ KR w g := by
  unfold KR
  by_cases h1 : v < 0
  · rw [decide_eq_true h1, cond_true]
    by_cases h2 : w < 0
    · rw [decide_eq_true h2, cond_true]
      have := rq_mono1 52 (g := g) (show w.natAbs ≤ v.natAbs by omega)
      omega
    · rw [decide_eq_false h2, cond_false]; omega
  · rw [decide_eq_false h1, decide_eq_false (show ¬ w < 0 by omega), cond_false, cond_false]
    have := rq_mono1 52 (g := g) (show v.natAbs ≤ w.natAbs by omega)
    omega
theorem key_word (s : Bool) {r : Nat} (h : r ≤ 9218868437227405312) : key (double.word s r) = cond s (-(r : Int)) r := by
  unfold key rung sgn Format.word
  rw [signW]
  cases s
  · have h1 : r / 9223372036854775808 = 0 := Nat.div_eq_of_lt (by omega)
    have h2 : r % 9223372036854775808 = r := Nat.mod_eq_of_lt (by omega)
    simp [h1, h2]
  · have h1 : (9223372036854775808 + r) / 9223372036854775808 = 1 := by omega
    have h2 : (9223372036854775808 + r) % 9223372036854775808 = r := by omega
    simp [h1, h2]

/-- What is written of an exact value 'v / g' units, where the sign is the value's (of nought either). -/
theorem key_nearest {s : Bool} {m u w : Nat} {p : Int} {v : Int} {g : Nat} (hg : 0 < g) (hp : p + 1074 = u - w) (ha : rq 52 (m * 2 ^ u) (2 ^ w) = rq 52 v.natAbs g) (hs : v ≠ 0 → s = decide (v < 0)) : key (double.nearest s m p) = KR v g := by
  rw [nearest_rq s m u w p hp, ha, infR, key_word _ (Nat.min_le_right _ _)]
  unfold KR
  by_cases h0 : v = 0
  · subst h0
    rw [Int.natAbs_zero, rq_zero 52 hg]
    cases s <;> decide
  · rw [hs h0]

theorem val_signed {x m : Nat} {i base : Int} (hv : rv 52 (rung x) = m * 2 ^ (i + 1074).toNat) (h1 : base ≤ i) (h2 : -1074 ≤ base) : val x = signed (sgn x) m (i - base).toNat * 2 ^ (base + 1074).toNat := by
  rw [← signed_split, show (i - base).toNat + (base + 1074).toNat = (i + 1074).toNat by omega, signed_val, ← hv]; rfl

theorem key_sum {x : Nat} {s t : Bool} {m n : Nat} {i j : Int} {r : Bool} {a b : Int} (hi : -1074 ≤ i) (hj : -1074 ≤ j)
    (ea : a = signed s m (i - min i j).toNat * 2 ^ (min i j + 1074).toNat) (eb : b = signed t n (j - min i j).toNat * 2 ^ (min i j + 1074).toNat)
    (hr : x = double.write (.number r (signed s m (i - min i j).toNat + signed t n (j - min i j).toNat).natAbs (min i j)))
    (hs : signed s m (i - min i j).toNat + signed t n (j - min i j).toNat ≠ 0 → r = decide (signed s m (i - min i j).toNat + signed t n (j - min i j).toNat < 0)) : key x = KR (a + b) 1 := by
  generalize signed s m (i - min i j).toNat = A at *
  generalize signed t n (j - min i j).toNat = B at *
  have e : a + b = (A + B) * 2 ^ (min i j + 1074).toNat := by rw [ea, eb, Int.add_mul]
  have hc : (0 : Int) < 2 ^ (min i j + 1074).toNat := Int.pow_pos (by decide)
  rw [hr, e]
  refine key_nearest (u := (min i j + 1074).toNat) (w := 0) (by decide) (by omega) ?_ ?_
  · rw [Int.natAbs_mul, Int.natAbs_pow]; rfl
  · intro h0
    have hAB : A + B ≠ 0 := fun h => h0 (by rw [h, Int.zero_mul])
    rw [hs hAB]
    refine decide_eq_decide.2 ?_
    constructor
    · intro h; exact Int.mul_neg_of_neg_of_pos h hc
    · intro h
      rcases Int.lt_trichotomy (A + B) 0 with h1 | h1 | h1
      · exact h1
      · exact absurd h1 hAB
      · have := Int.mul_pos h1 hc; omega

theorem key_add {x y : Nat} (hx : isFin x = true) (hy : isFin y = true) : key (fadd x y) = KR (val x + val y) 1 ∧ isNan (fadd x y) = false := by
  obtain ⟨m, i, hrx, hi, _, hvx⟩ := read_fin hx
  obtain ⟨n, j, hry, hj, _, hvy⟩ := read_fin hy
  constructor
  · unfold fadd Format.add
    rw [hrx, hry]
    simp only [Datum.sum, Option.map_some, Option.getD_some]
    refine key_sum hi hj (val_signed hvx (by omega) (by omega)) (val_signed hvy (by omega) (by omega)) rfl ?_
    intro h; rw [if_neg h]
  · have : ∃ r, double.add x y = some r := by unfold Format.add; rw [hrx, hry]; exact ⟨_, rfl⟩
    obtain ⟨r, hr⟩ := this
    unfold fadd; rw [hr]; exact isNan_add hr
theorem key_sub {x y : Nat} (hx : isFin x = true) (hy : isFin y = true) : key (fsub x y) = KR (val x - val y) 1 ∧ isNan (fsub x y) = false := by
  obtain ⟨m, i, hrx, hi, _, hvx⟩ := read_fin hx
  obtain ⟨n, j, hry, hj, _, hvy⟩ := read_fin hy
  constructor
  · unfold fsub Format.sub
    rw [hrx, hry]
    simp only [Datum.opposite, Datum.sum, Option.map_some, Option.getD_some]
    have e : val x - val y = val x + -(val y) := Int.sub_eq_add_neg
    rw [e]
    refine key_sum hi hj (val_signed hvx (by omega) (by omega)) ?_ rfl ?_
    · rw [signed_neg, Int.neg_mul, ← val_signed hvy (by omega) (by omega)]
    · intro h; rw [if_neg h]
  · have : ∃ r, double.sub x y = some r := by unfold Format.sub; rw [hrx, hry]; exact ⟨_, rfl⟩
    obtain ⟨r, hr⟩ := this
    unfold fsub; rw [hr]; exact isNan_sub hr

theorem val_abs (x : Nat) : (val x).natAbs = rv 52 (rung x) := by unfold val; cases sgn x <;> simp only [cond_true, cond_false] <;> omega
theorem val_neg {x : Nat} (h : val x ≠ 0) : sgn x = decide (val x < 0) := by
  unfold val at h ⊢
  cases hs : sgn x
  · rw [cond_false, decide_eq_false (by omega)]
  · rw [hs, cond_true] at h; rw [cond_true, decide_eq_true (by omega)]
theorem mul_sign {a b : Int} (h : a * b ≠ 0) : (decide (a < 0) ^^ decide (b < 0)) = decide (a * b < 0) := by
  have ha : a ≠ 0 := fun e => h (by rw [e, Int.zero_mul])
  have hb : b ≠ 0 := fun e => h (by rw [e, Int.mul_zero])
  rcases Int.lt_or_gt_of_ne ha with h1 | h1 <;> rcases Int.lt_or_gt_of_ne hb with h2 | h2
  · have := Int.mul_pos_of_neg_of_neg h1 h2
    rw [decide_eq_true h1, decide_eq_true h2, decide_eq_false (by omega)]; rfl
  · have := Int.mul_neg_of_neg_of_pos h1 h2
    rw [decide_eq_true h1, decide_eq_false (by omega), decide_eq_true this]; rfl
  · have := Int.mul_neg_of_pos_of_neg h1 h2
    rw [decide_eq_false (by omega), decide_eq_true h2, decide_eq_true this]; rfl
  · have := Int.mul_pos h1 h2
    rw [decide_eq_false (by omega), decide_eq_false (by omega), decide_eq_false (by omega)]; rfl

theorem key_mul {x y c : Nat} (hc : c = 1074) (hx : isFin x = true) (hy : isFin y = true) : key (fmul x y) = KR (val x * val y) (2 ^ c) ∧ isNan (fmul x y) = false := by
  obtain ⟨m, i, hrx, hi, _, hvx⟩ := read_fin hx
  obtain ⟨n, j, hry, hj, _, hvy⟩ := read_fin hy
  constructor
  · unfold fmul Format.mul
    rw [hrx, hry]
    simp only [Datum.product, Option.map_some, Option.getD_some, Format.write]
    refine key_nearest (u := (i + 1074).toNat + (j + 1074).toNat) (w := c) (Nat.two_pow_pos _) (by omega) ?_ ?_
    · rw [Int.natAbs_mul, val_abs, val_abs, hvx, hvy, Nat.pow_add]
      congr 1
      rw [Nat.mul_assoc, Nat.mul_assoc, Nat.mul_left_comm n]
    · intro h
      have ha : val x ≠ 0 := fun e => h (by rw [e, Int.zero_mul])
      have hb : val y ≠ 0 := fun e => h (by rw [e, Int.mul_zero])
      rw [val_neg ha, val_neg hb, mul_sign h]
  · have : ∃ r, double.mul x y = some r := by unfold Format.mul; rw [hrx, hry]; exact ⟨_, rfl⟩
    obtain ⟨r, hr⟩ := this
    unfold fmul; rw [hr]; exact isNan_mul hr

/-- A number's sign, as a factor. -/
def sg (v : Int) : Int := cond (decide (v < 0)) (-1) 1

theorem key_div {x y c : Nat} (hc : c = 1074) (hx : isFin x = true) (hy : isFin y = true) (h0 : val y ≠ 0) : key (fdiv x y) = KR (val x * sg (val y) * ((2 ^ c : Nat) : Int)) (val y).natAbs ∧ isNan (fdiv x y) = false := by
  obtain ⟨m, i, hrx, hi, hm, hvx⟩ := read_fin hx
  obtain ⟨n, j, hry, hj, hn, hvy⟩ := read_fin hy
  have hn0 : n ≠ 0 := fun e => h0 (by
    have : (val y).natAbs = 0 := by rw [val_abs, hvy, e, Nat.zero_mul]
    omega)
  have hr : double.div x y = some (double.write (.number (sgn x ^^ sgn y) (2 * (m <<< (54 + n.log2 - m.log2) / n) + (m <<< (54 + n.log2 - m.log2) % n != 0).toNat) (i - j - (54 + n.log2 - m.log2 : Nat) - 1))) := by
    unfold Format.div
    rw [hrx, hry]
    simp only [Datum.quotient]
    rw [if_neg hn0]
    rfl
  refine ⟨?_, by unfold fdiv; rw [hr]; exact isNan_div hr⟩
  unfold fdiv
  rw [hr, Option.getD_some]
  have hsg : (sg (val y)).natAbs = 1 := by unfold sg; cases decide (val y < 0) <;> rfl
  have hP : 0 < (2 ^ c : Nat) := Nat.two_pow_pos _
  refine key_nearest (u := (i + 1074).toNat + c) (w := (j + 1074).toNat + (54 + n.log2 - m.log2) + 1) (by omega) (by omega) ?_ ?_
  · rw [Int.natAbs_mul, Int.natAbs_mul, hsg, Nat.mul_one, Int.natAbs_natCast, val_abs, val_abs, hvx, hvy]
    by_cases hm0 : m = 0
    · rw [hm0, Nat.zero_shiftLeft, Nat.zero_div, Nat.zero_mod, Nat.zero_mul, Nat.zero_mul]
      show rq 52 (0 * _) _ = _
      rw [Nat.zero_mul, rq_zero 52 (Nat.two_pow_pos _), rq_zero 52 (Nat.mul_pos (by omega) (Nat.two_pow_pos _))]
    · have hl := log2_lt53 hm
      have hq : 2 ^ (52 + 1) ≤ m <<< (54 + n.log2 - m.log2) / n := by
        rw [Nat.le_div_iff_mul_le (by omega)]
        have h1 : 2 ^ (54 + n.log2) ≤ m <<< (54 + n.log2 - m.log2) := by
          rw [Nat.shiftLeft_eq]
          have := Nat.mul_le_mul_right (2 ^ (54 + n.log2 - m.log2)) (Nat.log2_self_le hm0)
          rw [← Nat.pow_add, show m.log2 + (54 + n.log2 - m.log2) = 54 + n.log2 by omega] at this
          exact this
        refine Nat.le_trans ?_ h1
        rw [show 54 + n.log2 = (52 + 1) + (n.log2 + 1) by omega, Nat.pow_add 2 (52 + 1)]
        exact Nat.mul_le_mul_left _ (Nat.le_of_lt Nat.lt_log2_self)
      rw [rq_sticky 52 _ n _ _ (by omega) hq, Nat.shiftLeft_eq]
      generalize 54 + n.log2 - m.log2 = k
      have := rq_mul 52 (m * 2 ^ (i + 1074).toNat * 2 ^ c) (n * 2 ^ (j + 1074).toNat) (Nat.two_pow_pos (k + 1))
      rw [← this]
      congr 1
      · rw [Nat.pow_add, Nat.pow_succ]
        generalize 2 ^ (i + 1074).toNat = a
        generalize 2 ^ c = b
        generalize 2 ^ k = d
        simp only [Nat.mul_assoc, Nat.mul_comm, Nat.mul_left_comm]
      · rw [Nat.mul_assoc, ← Nat.pow_add, Nat.add_assoc]
  · intro h
    have hP' : (0 : Int) < ((2 ^ c : Nat) : Int) := Int.ofNat_lt.2 hP
    generalize ((2 ^ c : Nat) : Int) = P at h hP'
    have h1 : val x * sg (val y) ≠ 0 := fun e => h (by rw [e, Int.zero_mul])
    have ha : val x ≠ 0 := fun e => h1 (by rw [e, Int.zero_mul])
    have h2 := mul_sign h
    rw [← h2, decide_eq_false (show ¬ P < 0 by omega), Bool.xor_false, ← mul_sign h1, val_neg ha, val_neg h0]
    congr 1
    unfold sg
    cases decide (val y < 0) <;> decide
end Go.Ev

namespace Go.Ev
open Ieee

theorem fadd_mono {a b o : Nat} (ha : isFin a = true) (hb : isFin b = true) (ho : isFin o = true) (h : key a ≤ key b) : key (fadd a o) ≤ key (fadd b o) := by
  rw [(key_add ha ho).1, (key_add hb ho).1]
  have := val_le.2 h
  exact KR_mono 1 (by omega)
theorem val_pos {x : Nat} : 0 < val x ↔ 0 < key x := by
  have h := val_lt (x := 0) (y := x)
  have h1 : val 0 = 0 := by decide +kernel
  have h2 : key 0 = 0 := by decide +kernel
  rw [h1, h2] at h; exact h
theorem fdiv_mono {a b d : Nat} (ha : isFin a = true) (hb : isFin b = true) (hd : isFin d = true) (h0 : 0 < key d) (h : key a ≤ key b) : key (fdiv a d) ≤ key (fdiv b d) := by
  have hv := val_pos.2 h0
  obtain ⟨c, hc⟩ : ∃ c, c = 1074 := ⟨_, rfl⟩
  rw [(key_div hc ha hd (by omega)).1, (key_div hc hb hd (by omega)).1]
  have hsg : sg (val d) = 1 := by unfold sg; rw [decide_eq_false (by omega)]; rfl
  rw [hsg, Int.mul_one, Int.mul_one]
  exact KR_mono _ (Int.mul_le_mul_of_nonneg_right (val_le.2 h) (Int.natCast_nonneg _))
end Go.Ev

namespace Go.Ev
open Ieee
theorem fabs_lt_inf {x : Nat} (h : isFin x = true) : flt (fabs x) 9218868437227405312 = true := by
  have hn := fin_not_nan h
  have h1 : isNan (fabs x) = false := by unfold fabs; rw [hn, cond_false, isNan_low]; exact hn
  have h2 : isNan 9218868437227405312 = false := by decide +kernel
  rw [flt_key h1 h2]
  refine decide_eq_true ?_
  have e2 : key 9218868437227405312 = 9218868437227405312 := by decide +kernel
  have hr : rung x < 9218868437227405312 := isFin_lt h
  have e1 : key (fabs x) = rung x := by
    unfold fabs; rw [hn, cond_false]
    unfold key sgn rung
    have : x % 9223372036854775808 / 9223372036854775808 = 0 := Nat.div_eq_of_lt (Nat.mod_lt _ (by decide))
    rw [this, Nat.mod_mod]; rfl
  rw [e1, e2]
  omega
end Go.Ev
namespace Go.Proofs.YtancjnambbkhmaaGreat.Hs
open Go.Gv
open Go.Ev (cn fadd fsub fmul fdiv fsqrt fneg feq flt fle fgt fge fabs isNan fge_not fle_not nan_fgt nan_flt flt_irr fabs_lt_inf)

section
variable (k : Int) (a : Nat → Nat) (sk : Int) (e : Int) (p q u x y w : Nat)
variable (z : Nat)
end
end Go.Proofs.YtancjnambbkhmaaGreat.Hs

namespace Go.Proofs.YtancjnambbkhmaaGreat.Hs
open Go.Gv
open Go.Ev (cn fadd fsub fmul fdiv fsqrt fneg feq flt fle fgt fge fabs)

def mpk0 (c : Int) : Int := cond (decide (c < 0)) (w64 (0 - w64 (c + 1))) c
def mpk (c n : Int) : Int := (mpk0 c).tmod n
theorem mpick_ev (c n : Int) : ev Tryz.prog [] [] noL Tryz.f36 [iA c, iA n] ret = cond (decide (c < 0)) (cond ((!(n == 0)) && true) (some (Out.of (iA ((w64 (0 - w64 (c + 1))).tmod n)))) none) (cond ((!(n == 0)) && true) (some (Out.of (iA (c.tmod n)))) none) := by kernel_rfl
theorem mpick {c n : Int} (hn : (!(n == 0)) = true) : FSpec Tryz.prog 36 [iA c, iA n] (iA (mpk c n)) := by
  refine sp e_nil Tryz.func36 (by kernel_rfl) (by kernel_rfl) rfl ((mpick_ev c n).trans ?_)
  rw [hn]
  unfold mpk mpk0
  cases decide (c < 0) <;> rfl
def ePk (pf : Int → Int → Int) : List AV → Option AV
  | [.x (.int .i64 c), .x (.int .i64 n)] => cond (!(n == 0)) (some (iA (pf c n))) none
  | _ => none
theorem ePk_ok : EOk Tryz.prog ⟨36, ePk mpk⟩ := fun args r hr => by
  simp only [ePk] at hr
  split at hr
  · rename_i c n
    cases hn : !(n == 0)
    · rw [hn] at hr; cases hr
    · rw [hn] at hr; cases hr; exact Or.inl (mpick hn)
  · cases hr
def k1000 : Nat := 4652007308841189376
def mth (n : Int) : Nat := fdiv (cn (FloatKind.f64.nearest n)) k1000
theorem mthou (n : Int) : FSpec Tryz.prog 64 [iA n] (.f (mth n)) := sp e_nil Tryz.func64 (by kernel_rfl) (by kernel_rfl) rfl (by kernel_rfl)
def eI (g : Int → AV) : List AV → Option AV
  | [.x (.int .i64 n)] => some (g n)
  | _ => none
theorem eI_ok {f : Nat} {g : Int → AV} (h : ∀ n, FSpec Tryz.prog f [iA n] (g n)) : EOk Tryz.prog ⟨f, eI g⟩ := fun args r hr => by
  simp only [eI] at hr
  split at hr
  · cases hr; exact Or.inl (h _)
  · cases hr
def M0 (pf : Int → Int → Int) (tf : Int → Nat) : List Entry := ⟨36, ePk pf⟩ :: ⟨64, eI fun n => .f (tf n)⟩ :: R4
theorem M0_ok : ∀ e, e ∈ M0 mpk mth → EOk Tryz.prog e := e_cons ePk_ok <| e_cons (eI_ok mthou) R4_ok
section
variable (n : Nat) (hs : Nat → Int) (pf : Int → Int → Int) (tf : Int → Nat) (rf : Int → Int) (k fr mo c : Int)
def mrw : Int := cond ((n : Int) == 0) 0 (hs (k.tmod (n : Int)).toNat)
theorem mraw_ev : ev Tryz.prog [] [] noL Tryz.f63 [sI n hs, iA k] ret = cond ((n : Int) == 0) (some (Out.of (iA 0))) (cond ((!((n : Int) == 0)) && true) (cond (ixB (k.tmod (n : Int)) n || false) (some (Out.of (iA (hs (k.tmod (n : Int)).toNat)))) none) none) := by kernel_rfl
theorem mraw {n : Nat} {hs : Nat → Int} {k : Int} (hk : 0 ≤ k) : FSpec Tryz.prog 63 [sI n hs, iA k] (iA (mrw n hs k)) := by
  refine sp e_nil Tryz.func63 (by kernel_rfl) (by kernel_rfl) rfl ((mraw_ev n hs k).trans ?_)
  unfold mrw
  cases hn : ((n : Int) == 0)
  · have h0 : (n : Int) ≠ 0 := fun e => by rw [e] at hn; cases hn
    have e : k.tmod (n : Int) = k % (n : Int) := Int.tmod_eq_emod_of_nonneg hk
    have a := Int.emod_nonneg k h0
    have b := Int.emod_lt_of_pos k (show (0 : Int) < n by omega)
    have hi : ixB (k.tmod (n : Int)) n = true := by
      unfold ixB
      rw [e, decide_eq_true a, decide_eq_true b]
      rfl
    rw [hi]; rfl
  · rfl
def mmi (pf : Int → Int → Int) (tf : Int → Nat) (c mo : Int) : Nat := tf (w64 (pf c (w64 (w64 (2 * mo) + 1)) - mo))
theorem mil1_ev : ev Tryz.prog (M0 pf tf) [] noL Tryz.f68 [iA c, iA 4000] ret = some (Out.of (.f (mmi pf tf c 4000))) := by kernel_rfl
theorem mil2_ev : ev Tryz.prog (M0 pf tf) [] noL Tryz.f68 [iA c, iA 3000] ret = some (Out.of (.f (mmi pf tf c 3000))) := by kernel_rfl
theorem mil3_ev : ev Tryz.prog (M0 pf tf) [] noL Tryz.f68 [iA c, iA 6000] ret = some (Out.of (.f (mmi pf tf c 6000))) := by kernel_rfl
theorem mil4_ev : ev Tryz.prog (M0 pf tf) [] noL Tryz.f68 [iA c, iA 1500] ret = some (Out.of (.f (mmi pf tf c 1500))) := by kernel_rfl
theorem mil5_ev : ev Tryz.prog (M0 pf tf) [] noL Tryz.f68 [iA c, iA 5000] ret = some (Out.of (.f (mmi pf tf c 5000))) := by kernel_rfl
end
def moOk (mo : Int) : Prop := mo = 4000 ∨ mo = 3000 ∨ mo = 6000 ∨ mo = 1500 ∨ mo = 5000
theorem mmilli {mo : Int} (h : moOk mo) (c : Int) : FSpec Tryz.prog 68 [iA c, iA mo] (.f (mmi mpk mth c mo)) := by
  rcases h with rfl | rfl | rfl | rfl | rfl
  · exact sp M0_ok Tryz.func68 (by kernel_rfl) (by kernel_rfl) rfl (mil1_ev mpk mth c)
  · exact sp M0_ok Tryz.func68 (by kernel_rfl) (by kernel_rfl) rfl (mil2_ev mpk mth c)
  · exact sp M0_ok Tryz.func68 (by kernel_rfl) (by kernel_rfl) rfl (mil3_ev mpk mth c)
  · exact sp M0_ok Tryz.func68 (by kernel_rfl) (by kernel_rfl) rfl (mil4_ev mpk mth c)
  · exact sp M0_ok Tryz.func68 (by kernel_rfl) (by kernel_rfl) rfl (mil5_ev mpk mth c)
section
variable (n : Nat) (hs : Nat → Int) (rf : Int → Int) (mf : Int → Int → Nat) (fr mo : Int)
def rwG (rf : Int → Int) : List AV → AV
  | [_, .x (.int .i64 k)] => iA (rf k)
  | _ => .any
def miG' (mf : Int → Int → Nat) : List AV → AV
  | [.x (.int .i64 c), .x (.int .i64 mo)] => .f (mf c mo)
  | _ => .any
noncomputable def gR (k : Int) (o : Option Out) : Option Out := gate (FSpec Tryz.prog 63 [sI n hs, iA k] (iA (rf k))) o
noncomputable def gMi (c mo : Int) (o : Option Out) : Option Out := gate (FSpec Tryz.prog 68 [iA c, iA mo] (.f (mf c mo))) o
noncomputable def rwK : KEntry := kS Tryz.prog 63 (rwG rf)
noncomputable def veX : Option Out := gR n hs rf fr (gMi mf (rf fr) mo (gR n hs rf (w64 (fr + 1)) (gMi mf (rf (w64 (fr + 1))) mo (gR n hs rf (w64 (fr + 2)) (gMi mf (rf (w64 (fr + 2))) mo (some (Out.of (V (mf (rf fr) mo) (mf (rf (w64 (fr + 1))) mo) (mf (rf (w64 (fr + 2))) mo)))))))))
theorem ve_ev : ev Tryz.prog R4 [rwK rf, kS Tryz.prog 68 (miG' mf)] noL Tryz.f23 [sI n hs, iA fr, iA mo] ret = veX n hs rf mf fr mo := by kernel_rfl
end
def mve (n : Nat) (hs : Nat → Int) (fr mo : Int) (i : Nat) : Nat := mmi mpk mth (mrw n hs (w64 (fr + (i : Nat)))) mo
theorem gR_pos {n : Nat} {hs : Nat → Int} {k : Int} {o : Option Out} (h : 0 ≤ k) : gR n hs (mrw n hs) k o = o := gate_pos (mraw h)
theorem gMi_pos {c mo : Int} {o : Option Out} (h : moOk mo) : gMi (mmi mpk mth) c mo o = o := gate_pos (mmilli h c)
theorem mvec {n : Nat} {hs : Nat → Int} {fr mo : Int} (h0 : 0 ≤ fr) (h1 : fr ≤ 1000) (hm : moOk mo) : FSpec Tryz.prog 23 [sI n hs, iA fr, iA mo] (V (mve n hs fr mo 0) (mve n hs fr mo 1) (mve n hs fr mo 2)) := by
  refine gspec R4_ok (k_cons kS_ok (k_cons kS_ok k_nil)) Tryz.func23 (by kernel_rfl) (by kernel_rfl) noL_ok rfl ((ve_ev n hs (mrw n hs) (mmi mpk mth) fr mo).trans ?_)
  have e0 : w64 (fr + ((0 : Nat) : Int)) = fr := by rw [w64_id (by omega) (by omega)]; omega
  have a1 : 0 ≤ w64 (fr + 1) := by rw [w64_id (by omega) (by omega)]; omega
  have a2 : 0 ≤ w64 (fr + 2) := by rw [w64_id (by omega) (by omega)]; omega
  unfold veX mve
  rw [gR_pos h0, gMi_pos hm, gR_pos a1, gMi_pos hm, gR_pos a2, gMi_pos hm, e0]
  rfl
section
variable (n : Nat) (hs : Nat → Int) (pf : Int → Int → Int) (tf : Int → Nat) (rf : Int → Int) (vf : Int → Int → Nat → Nat)
def vcG (vf : Int → Int → Nat → Nat) : List AV → AV
  | [_, .x (.int .i64 fr), .x (.int .i64 mo)] => V (vf fr mo 0) (vf fr mo 1) (vf fr mo 2)
  | _ => .any
noncomputable def vcK : KEntry := kS Tryz.prog 23 (vcG vf)
noncomputable def gV (fr mo : Int) (o : Option Out) : Option Out := gate (FSpec Tryz.prog 23 [sI n hs, iA fr, iA mo] (V (vf fr mo 0) (vf fr mo 1) (vf fr mo 2))) o
end
theorem gV_pos {n : Nat} {hs : Nat → Int} {fr mo : Int} {o : Option Out} (h0 : 0 ≤ fr) (h1 : fr ≤ 1000) (hm : moOk mo) : gV n hs (mve n hs) fr mo o = o := gate_pos (mvec h0 h1 hm)
section
variable (n : Nat) (hs : Nat → Int) (pf : Int → Int → Int) (tf : Int → Nat) (rf : Int → Int) (vf : Int → Int → Nat → Nat) (x y w : Nat)
def z3 : Nat → Nat := fun _ => 0
def M1 (pf : Int → Int → Int) (tf : Int → Nat) : List Entry := ⟨36, ePk pf⟩ :: ⟨64, eI fun n => .f (tf n)⟩ :: ⟨67, eV fun a b c => bA (noughtB a b c)⟩ :: R3
theorem M1_ok : ∀ e, e ∈ M1 mpk mth → EOk Tryz.prog e := e_cons ePk_ok <| e_cons (eI_ok mthou) <| e_cons (eV_ok rnought) R3_ok
end
theorem mpk_range {c m : Int} (hc : -9223372036854775808 ≤ c) (hc' : c ≤ 9223372036854775807) (hm : 0 < m) : 0 ≤ mpk c m ∧ mpk c m < m := by
  have h0 : 0 ≤ mpk0 c := by
    unfold mpk0
    by_cases h : c < 0
    · rw [decide_eq_true h, cond_true, w64_id (n := c + 1) (by omega) (by omega), w64_id (by omega) (by omega)]
      omega
    · rw [decide_eq_false h]; show 0 ≤ c; omega
  unfold mpk
  rw [Int.tmod_eq_emod_of_nonneg h0]
  exact ⟨Int.emod_nonneg _ (by omega), Int.emod_lt_of_pos _ hm⟩
theorem mrw_range {n : Nat} {hs : Nat → Int} (h : ∀ i, i < n → -9223372036854775808 ≤ hs i ∧ hs i ≤ 9223372036854775807) {k : Int} (hk : 0 ≤ k) : -9223372036854775808 ≤ mrw n hs k ∧ mrw n hs k ≤ 9223372036854775807 := by
  unfold mrw
  cases hn : ((n : Int) == 0)
  · have h0 : (n : Int) ≠ 0 := fun e => by rw [e] at hn; cases hn
    rw [cond_false, Int.tmod_eq_emod_of_nonneg hk]
    have a := Int.emod_nonneg k h0
    have b := Int.emod_lt_of_pos k (show (0 : Int) < n by omega)
    exact h _ (by omega)
  · show -9223372036854775808 ≤ (0 : Int) ∧ (0 : Int) ≤ 9223372036854775807; omega
end Go.Proofs.YtancjnambbkhmaaGreat.Hs

namespace Go.Proofs.YtancjnambbkhmaaGreat.Hs
open Go.Gv
open Go.Ev (cn fadd fsub fmul fdiv fsqrt fneg feq flt fle fgt fge fabs isNan fge_not fle_not nan_fgt nan_flt flt_irr)

section
variable (k : Int) (a : Nat → Nat) (sk : Int) (r : Nat → Nat) (p q u : Nat)
def AgM : Prop := ∃ m, FSpec Tryz.prog 10 [SH k a sk] (iA m) ∧ FSpec Tryz.prog 11 [SH k a sk] (iA m)
def AgB : Prop := ∃ b e, FSpec Tryz.prog 8 [SH k a sk] (.tup [BX b, iA e]) ∧ FSpec Tryz.prog 9 [SH k a sk] (.tup [BX b, iA e])
def AgS : Prop := ∃ t ok e, FSpec Tryz.prog 13 [SH k a sk, RY r] (.tup [.f t, bA ok, iA e]) ∧ FSpec Tryz.prog 14 [SH k a sk, RY r] (.tup [.f t, bA ok, iA e])
def AgN : Prop := ∃ x y w e, FSpec Tryz.prog 16 [SH k a sk, V p q u] (.tup [V x y w, iA e]) ∧ FSpec Tryz.prog 17 [SH k a sk, V p q u] (.tup [V x y w, iA e])
def AgW : Prop := ∃ i o ok e, FSpec Tryz.prog 19 [SH k a sk, RY r] (.tup [.f i, .f o, bA ok, iA e]) ∧ FSpec Tryz.prog 20 [SH k a sk, RY r] (.tup [.f i, .f o, bA ok, iA e])
/-- Both give the same. -/
structure Agree : Prop where
  m : AgM k a sk
  b : AgB k a sk
  s : AgS k a sk r
  n : AgN k a sk p q u
  w : AgW k a sk r
end
theorem knE_zero {a : Nat → Nat} {sk m : Int} {b : Nat → Nat} (h : knE a sk m b = 0) : rcB a = false ∧ m = 0 ∧ mayS b = 0 := by
  unfold knE at h
  cases h1 : skB sk
  · rw [h1] at h
    cases h2 : rcB a
    · rw [h2] at h
      cases h3 : (m == 0)
      · rw [h3] at h
        have h : m = 0 := h
        rw [h] at h3; cases h3
      · rw [h3] at h
        cases h4 : (mayS b == 0)
        · rw [h4] at h; cases h
        · exact ⟨rfl, eq_of_beq h3, eq_of_beq h4⟩
    · rw [h2] at h; cases h
  · rw [h1] at h; cases h
theorem more_nan {n x : Nat} (h : isNan n = false) : isNan (moreS n x) = false := by
  unfold moreS
  cases g : fgt x n
  · exact h
  · exact (nan_fgt g).1
theorem less_nan {n x : Nat} (h : isNan n = false) : isNan (lessS n x) = false := by
  unfold lessS
  cases g : flt x n
  · exact h
  · exact (nan_flt g).1
theorem cutN_nan {lo hi o d n : Nat} (h : isNan n = false) : isNan (cutN lo hi o d n) = false := by
  unfold cutN
  cases feq d 0
  · exact more_nan h
  · exact h
theorem cutF_nan {lo hi o d n : Nat} (h : isNan n = false) : isNan (cutF lo hi o d n) = false := by
  unfold cutF
  cases feq d 0
  · exact less_nan h
  · exact h
theorem meet_nan {b r : Nat → Nat} (h : meetK b r = true) : isNan (meetN b r) = false ∧ isNan (meetF b r) = false := by
  have hb : badS b r = false := by
    unfold meetK at h
    cases hb : badS b r
    · rfl
    · rw [hb] at h; cases h
  have hl := near_nan (ray_ok (bad_false hb).2).least
  unfold meetN meetF
  rw [h]
  exact ⟨cutN_nan (cutN_nan (cutN_nan hl)), cutF_nan (cutF_nan (cutF_nan (by decide +kernel)))⟩
section
variable (a : Nat → Nat) (sk : Int) (r : Nat → Nat) (p q u : Nat)
theorem ax_of5 {a : Nat → Nat} {sk : Int} (h : e5 a sk = 0) : axO (a 3) (a 4) (a 5) = true := by
  have := (knE_zero h).2.1
  unfold tubeM at this
  cases ho : axO (a 3) (a 4) (a 5)
  · rw [ho] at this; cases this
  · rfl
theorem ax_of6 {a : Nat → Nat} {sk : Int} (h : e6 a sk = 0) : axO (a 3) (a 4) (a 5) = true := by
  have := (knE_zero h).2.1
  unfold ringM at this
  cases ho : axO (a 3) (a 4) (a 5)
  · rw [ho] at this; cases this
  · rfl
end
section
variable (k : Int) (a : Nat → Nat) (sk : Int) (r : Nat → Nat) (p q u : Nat) (m eb es en ew : Int) (b : Nat → Nat) (t x y w i o : Nat) (ok ok' : Bool)
noncomputable def g2 (c d : Prop) (z : Option Out) : Option Out := gate c (gate d z)
end
end Go.Proofs.YtancjnambbkhmaaGreat.Hs

namespace Go.Proofs.YtancjnambbkhmaaGreat.Hs
open Go.Gv
open Go.Ev (cn fadd fsub fmul fdiv fsqrt fneg feq flt fle fgt fge fabs isNan)

/-- Within: the same, and what is within has a beginning ahead of its end. -/
def AgW2 (k : Int) (a : Nat → Nat) (sk : Int) (r : Nat → Nat) : Prop := ∃ i o ok e, FSpec Tryz.prog 19 [SH k a sk, RY r] (.tup [.f i, .f o, bA ok, iA e]) ∧ FSpec Tryz.prog 20 [SH k a sk, RY r] (.tup [.f i, .f o, bA ok, iA e]) ∧ (ok = true → flt i o = true)
theorem pa_lt {m k : Bool} {i o n f : Nat} (h : paK m k i o n f = true) : flt (paI m k i o n f) (paO m k i o n f) = true := by
  unfold paI paO
  rw [h]
  unfold paK at h
  revert h
  cases m <;> cases k <;> simp
theorem agW2_bad {k : Int} {a : Nat → Nat} {sk e : Int} (r : Nat → Nat) (h : KNb k a sk e) (g : SMok k a sk e) (he : e ≠ 0) : AgW2 k a sk r := ⟨0, 0, false, e, within_b (kt_b r h he) he, rwi_b g he, fun h => by cases h⟩
theorem agW2_none {k : Int} {a : Nat → Nat} {sk : Int} {T : Nat} (r : Nat → Nat) (h : KNg k a sk T) (g : SMok k a sk 0) (hk : noIn k = true)
    (h1 : FSpec Tryz.prog 60 [.ifc T (SH k a sk), RY r] (.tup [.f 0, .f 0, bA false, iA 3])) : AgW2 k a sk r := by
  by_cases hr : rayS r = 0
  · exact ⟨0, 0, false, 3, within_g (kt_g h hr) h1, rwi_n g hr hk, fun h => by cases h⟩
  · exact ⟨0, 0, false, rayS r, within_b (kt_r h hr) hr, rwi_r g hr, fun h => by cases h⟩
theorem agW2_good {k : Int} {a : Nat → Nat} {sk : Int} {T : Nat} {b : Nat → Nat} (r : Nat → Nat) (h : KNg k a sk T) (g : SMok k a sk 0) (hk : noIn k = false) {i o : Nat} {ok : Bool}
    (h1 : FSpec Tryz.prog 60 [.ifc T (SH k a sk), RY r] (.tup [.f (paI (meetK b (r0 r)) ok i o (meetN b (r0 r)) (meetF b (r0 r))), .f (paO (meetK b (r0 r)) ok i o (meetN b (r0 r)) (meetF b (r0 r))), bA (paK (meetK b (r0 r)) ok i o (meetN b (r0 r)) (meetF b (r0 r))), iA 0]))
    (hb : FSpec Tryz.prog 39 [SH k a sk] (BX b)) (h2 : ∃ i' o' ok', (meetK b (r0 r) = true → IOok k a sk (r0 r) (meetN b (r0 r)) (meetF b (r0 r)) i' o' ok' ∧ ok' = ok ∧ (ok = true → i' = i ∧ o' = o))) : AgW2 k a sk r := by
  by_cases hr : rayS r = 0
  · obtain ⟨i', o', ok', ho⟩ := h2
    have s2 := rwi_g (i := i') (o := o') (ok := ok') g hr hk hb fun hm => (ho hm).1
    refine ⟨_, _, _, 0, within_g (kt_g h hr) h1, ?_, pa_lt⟩
    cases hm : meetK b (r0 r)
    · rw [hm] at s2; exact s2
    · rw [hm] at s2
      obtain ⟨_, rfl, e⟩ := ho hm
      cases ok' with
      | false => exact s2
      | true => rw [(e rfl).1, (e rfl).2] at s2; exact s2
  · exact ⟨0, 0, false, rayS r, within_b (kt_r h hr) hr, rwi_r g hr, fun h => by cases h⟩
theorem agW2_all (k : Int) (a : Nat → Nat) (sk : Int) (r : Nat → Nat) : AgW2 k a sk r := by
  by_cases h1 : k = 1
  · subst h1
    have sm := sm1 a sk
    by_cases h : e1 a sk = 0
    · rw [h] at sm
      exact agW2_good r (kn1_good a sk h) sm rfl (wiK1 a sk r) (ar1 a sk) ⟨_, _, _, fun _ => ⟨io1 a sk (r0 r) _ _, rfl, fun _ => ⟨rfl, rfl⟩⟩⟩
    · exact agW2_bad r (kn1_bad a sk h) sm h
  by_cases h2 : k = 2
  · subst h2
    have sm := sm2 a sk
    by_cases h : e2 a sk = 0
    · rw [h] at sm
      exact agW2_good r (kn2_good a sk h) sm rfl (wiK2 a sk r) (ar2 a sk) ⟨_, _, _, fun _ => ⟨io2 a sk (r0 r) _ _, rfl, fun _ => ⟨rfl, rfl⟩⟩⟩
    · exact agW2_bad r (kn2_bad a sk h) sm h
  by_cases h3 : k = 3
  · subst h3
    have sm := sm3 a sk
    by_cases h : e3 a sk = 0
    · rw [h] at sm; exact agW2_none r (kn3_good a sk h) sm rfl (wiK3 a sk r)
    · exact agW2_bad r (kn3_bad a sk h) sm h
  by_cases h4 : k = 4
  · subst h4
    have sm := sm4 a sk
    by_cases h : e4 a sk = 0
    · rw [h] at sm; exact agW2_none r (kn4_good a sk h) sm rfl (wiK4 a sk r)
    · exact agW2_bad r (kn4_bad a sk h) sm h
  by_cases h5 : k = 5
  · subst h5
    have sm := sm5 a sk
    by_cases h : e5 a sk = 0
    · have ho := ax_of5 h
      rw [h] at sm
      refine agW2_good r (kn5_good a sk h) sm rfl (wiK5 a sk r) (ar5 a sk ho) ⟨_, _, _, fun hm => ⟨io5 a sk (r0 r) _ _ ho, rtK_eq a (r0 r) _ _ _ (meet_nan hm).1 (meet_nan hm).2, fun hk => ?_⟩⟩
      unfold tbN tbF rtI rtU; rw [hk]; exact ⟨rfl, rfl⟩
    · exact agW2_bad r (kn5_bad a sk h) sm h
  by_cases h6 : k = 6
  · subst h6
    have sm := sm6 a sk
    by_cases h : e6 a sk = 0
    · rw [h] at sm; exact agW2_none r (kn6_good a sk h) sm rfl (wiK6 a sk r)
    · exact agW2_bad r (kn6_bad a sk h) sm h
  exact agW2_bad r (kn0_bad ⟨h1, h2, h3, h4, h5, h6⟩ a sk) (sm0 a sk ⟨h1, h2, h3, h4, h5, h6⟩) (e0_ne a sk)
/-- The rest of what is the same, without where rings are struck. -/
structure Agree2 (k : Int) (a : Nat → Nat) (sk : Int) (p q u : Nat) : Prop where
  m : AgM k a sk
  b : AgB k a sk
  n : AgN k a sk p q u
abbrev shC (k : Int) (a : Nat → Nat) (sk : Int) : List AV := [iA k, .f (a 0), .f (a 1), .f (a 2), .f (a 3), .f (a 4), .f (a 5), .f (a 6), .f (a 7), .f (a 8), .f (a 9), .f (a 10), iA sk]
/-- May, Bounds and the box around, all at once. -/
structure Cel where
  m : Int
  b : Nat → Nat
  e : Int
def CelOk (c : List AV) (x : Cel) : Prop := FSpec Tryz.prog 10 [.agg c] (iA x.m) ∧ FSpec Tryz.prog 11 [.agg c] (iA x.m) ∧ FSpec Tryz.prog 8 [.agg c] (.tup [BX x.b, iA x.e]) ∧ FSpec Tryz.prog 9 [.agg c] (.tup [BX x.b, iA x.e]) ∧ (x.m = 0 → FSpec Tryz.prog 39 [.agg c] (BX x.b)) ∧ x.e = x.m
theorem cel_bad {k : Int} {a : Nat → Nat} {sk e : Int} (h : KNb k a sk e) (g : SMok k a sk e) (he : e ≠ 0) : ∃ x, CelOk (shC k a sk) x :=
  ⟨⟨e, z6, e⟩, may_b h, g, bounds_b h he, rbo_b g he, fun h0 => absurd h0 he, rfl⟩
theorem cel_good {k : Int} {a : Nat → Nat} {sk : Int} {T : Nat} {b : Nat → Nat} (h : KNg k a sk T) (g : SMok k a sk 0) (h1 : FSpec Tryz.prog 8 [SH k a sk] (.tup [BX b, iA 0])) (hb : FSpec Tryz.prog 39 [SH k a sk] (BX b)) : ∃ x, CelOk (shC k a sk) x :=
  ⟨⟨0, b, 0⟩, may_g h, g, h1, rbo_g g hb, fun _ => hb, rfl⟩
theorem cel_all (k : Int) (a : Nat → Nat) (sk : Int) : ∃ x, CelOk (shC k a sk) x := by
  by_cases h1 : k = 1
  · subst h1
    have sm := sm1 a sk
    by_cases h : e1 a sk = 0
    · rw [h] at sm; exact cel_good (kn1_good a sk h) sm (boK1 a sk h) (ar1 a sk)
    · exact cel_bad (kn1_bad a sk h) sm h
  by_cases h2 : k = 2
  · subst h2
    have sm := sm2 a sk
    by_cases h : e2 a sk = 0
    · rw [h] at sm; exact cel_good (kn2_good a sk h) sm (boK2 a sk h) (ar2 a sk)
    · exact cel_bad (kn2_bad a sk h) sm h
  by_cases h3 : k = 3
  · subst h3
    have sm := sm3 a sk
    by_cases h : e3 a sk = 0
    · rw [h] at sm; exact cel_good (kn3_good a sk h) sm (boK3 a sk h) (ar3 a sk)
    · exact cel_bad (kn3_bad a sk h) sm h
  by_cases h4 : k = 4
  · subst h4
    have sm := sm4 a sk
    by_cases h : e4 a sk = 0
    · rw [h] at sm; exact cel_good (kn4_good a sk h) sm (boK4 a sk h) (ar4 a sk)
    · exact cel_bad (kn4_bad a sk h) sm h
  by_cases h5 : k = 5
  · subst h5
    have sm := sm5 a sk
    by_cases h : e5 a sk = 0
    · have ho := ax_of5 h
      rw [h] at sm; exact cel_good (kn5_good a sk h) sm (boK5 a sk h) (ar5 a sk ho)
    · exact cel_bad (kn5_bad a sk h) sm h
  by_cases h6 : k = 6
  · subst h6
    have sm := sm6 a sk
    by_cases h : e6 a sk = 0
    · have ho := ax_of6 h
      rw [h] at sm; exact cel_good (kn6_good a sk h) sm (boK6 a sk h) (ar6 a sk ho)
    · exact cel_bad (kn6_bad a sk h) sm h
  exact cel_bad (kn0_bad ⟨h1, h2, h3, h4, h5, h6⟩ a sk) (sm0 a sk ⟨h1, h2, h3, h4, h5, h6⟩) (e0_ne a sk)
open Classical in
noncomputable def celC (c : List AV) : Cel := if h : ∃ x, CelOk c x then h.choose else ⟨0, fun _ => 0, 0⟩
theorem celC_spec (k : Int) (a : Nat → Nat) (sk : Int) : CelOk (shC k a sk) (celC (shC k a sk)) := by
  unfold celC
  rw [dif_pos (cel_all k a sk)]
  exact (cel_all k a sk).choose_spec
/-- What May says of the cells of a shape. -/
noncomputable def mayC (c : List AV) : Int := (celC c).m
theorem mayC_spec (k : Int) (a : Nat → Nat) (sk : Int) : FSpec Tryz.prog 10 [SH k a sk] (iA (mayC (shC k a sk))) ∧ FSpec Tryz.prog 11 [SH k a sk] (iA (mayC (shC k a sk))) :=
  ⟨(celC_spec k a sk).1, (celC_spec k a sk).2.1⟩
structure Wit where
  i : Nat
  o : Nat
  ok : Bool
  e : Int
def Wit.v (w : Wit) : AV := .tup [.f w.i, .f w.o, bA w.ok, iA w.e]
open Classical in
noncomputable def witC (c : List AV) (r : Nat → Nat) : Wit := if h : ∃ w : Wit, FSpec Tryz.prog 19 [.agg c, RY r] w.v ∧ FSpec Tryz.prog 20 [.agg c, RY r] w.v ∧ (w.ok = true → flt w.i w.o = true) then h.choose else ⟨0, 0, false, 0⟩
theorem witC_spec (k : Int) (a : Nat → Nat) (sk : Int) (r : Nat → Nat) : FSpec Tryz.prog 19 [SH k a sk, RY r] (witC (shC k a sk) r).v ∧ FSpec Tryz.prog 20 [SH k a sk, RY r] (witC (shC k a sk) r).v ∧ ((witC (shC k a sk) r).ok = true → flt (witC (shC k a sk) r).i (witC (shC k a sk) r).o = true) := by
  have h : ∃ w : Wit, FSpec Tryz.prog 19 [.agg (shC k a sk), RY r] w.v ∧ FSpec Tryz.prog 20 [.agg (shC k a sk), RY r] w.v ∧ (w.ok = true → flt w.i w.o = true) := by
    obtain ⟨i, o, ok, e, h1, h2, h3⟩ := agW2_all k a sk r
    exact ⟨⟨i, o, ok, e⟩, h1, h2, h3⟩
  unfold witC
  rw [dif_pos h]
  exact h.choose_spec
end Go.Proofs.YtancjnambbkhmaaGreat.Hs

namespace Go.Proofs.YtancjnambbkhmaaGreat.Hs.So
open Go.Gv
open Go.Ev (cn fadd fsub fmul fdiv fsqrt fneg feq flt fle fgt fge fabs isNan)

structure Prt where
  op : Int
  l : Int
  r : Int
  k : Int
  a : Nat → Nat
  sk : Int
def Prt.s (p : Prt) : List AV := shC p.k p.a p.sk
def Prt.c (p : Prt) : List AV := [iA p.op, iA p.l, iA p.r, iA p.k, .f (p.a 0), .f (p.a 1), .f (p.a 2), .f (p.a 3), .f (p.a 4), .f (p.a 5), .f (p.a 6), .f (p.a 7), .f (p.a 8), .f (p.a 9), .f (p.a 10), iA p.sk]
def prS (n : Nat) (P : Nat → Prt) : AV := .sl 16 n fun i => (P i).c
def soC (n : Nat) (P : Nat → Prt) (sn : Int) : List AV := [prS n P, iA sn]
/-- An entry that takes the cells of a shape. -/
def eSc (g : List AV → AV) : List AV → Option AV
  | [.agg [.x (.int .i64 k), .f a0, .f a1, .f a2, .f a3, .f a4, .f a5, .f a6, .f a7, .f a8, .f a9, .f a10, .x (.int .i64 sk)]] => some (g [.x (.int .i64 k), .f a0, .f a1, .f a2, .f a3, .f a4, .f a5, .f a6, .f a7, .f a8, .f a9, .f a10, .x (.int .i64 sk)])
  | _ => none
theorem eSc_ok {f : Nat} {g : List AV → AV} (h : ∀ k a sk, FSpec Tryz.prog f [SH k a sk] (g (shC k a sk))) : EOk Tryz.prog ⟨f, eSc g⟩ := fun args r hr => by
  simp only [eSc] at hr
  split at hr
  · cases hr; exact Or.inl (h _ (ls [_, _, _, _, _, _, _, _, _, _, _]) _)
  · cases hr
def kin (k : Int) : Bool := (k == 1) || ((k == 2) || (k == 5))
def ktT {α : Type} (k : Int) (z t : α) : α := cond (k == 1) (cond (k == 1) z t) (cond (k == 2) (cond (k == 2) z t) (cond (k == 5) z t))
theorem ktT_eq {α : Type} (k : Int) (z t : α) : ktT k z t = cond (kin k) z t := by
  unfold ktT kin
  cases k == 1 <;> cases k == 2 <;> cases k == 5 <;> rfl
section
variable (mf : List AV → Int) (k : Int) (a : Nat → Nat) (sk : Int)
def mlE (m k : Int) : Int := cond (!(m == 0)) m (cond (kin k) 0 3)
theorem ml_ev : ev Tryz.prog [⟨10, eSc fun c => iA (mf c)⟩] [] noL Tryz.f106 [SH k a sk] ret = cond (!(mf (shC k a sk) == 0)) (aiR (mf (shC k a sk))) (ktT k (aiR 0) (aiR 3)) := by kernel_rfl
end
theorem eMay_ok : EOk Tryz.prog ⟨10, eSc fun c => iA (mayC c)⟩ := eSc_ok fun k a sk => (mayC_spec k a sk).1
theorem sml (k : Int) (a : Nat → Nat) (sk : Int) : FSpec Tryz.prog 106 [SH k a sk] (iA (mlE (mayC (shC k a sk)) k)) := by
  refine sp (e_cons eMay_ok e_nil) Tryz.func106 (by kernel_rfl) (by kernel_rfl) rfl ((ml_ev mayC k a sk).trans ?_)
  rw [ktT_eq]
  unfold mlE aiR
  cases (mayC (shC k a sk) == 0) <;> cases kin k <;> rfl
/-- Which kind the cells of a shape are of. -/
def kOfC : List AV → Int
  | .x (.int .i64 k) :: _ => k
  | _ => 0
theorem eMl_ok : EOk Tryz.prog ⟨106, eSc fun c => iA (mlE (mayC c) (kOfC c))⟩ := eSc_ok fun k a sk => sml k a sk
def nmB (l r i : Int) : Bool := cond (cond (cond (decide (l < 0)) true (decide (l ≥ i))) true (decide (r < 0))) true (decide (r ≥ i))
def opT {α : Type} (o : Int) (z t : α) : α := cond (o == 1) (cond (o == 1) z t) (cond (o == 2) (cond (o == 2) z t) (cond (o == 3) z t))
def opB (o : Int) : Bool := (o == 1) || ((o == 2) || (o == 3))
theorem opT_eq {α : Type} (o : Int) (z t : α) : opT o z t = cond (opB o) z t := by
  unfold opT opB
  cases o == 1 <;> cases o == 2 <;> cases o == 3 <;> rfl
/-- The errno of a part with so many ahead of it. -/
noncomputable def ppE (p : Prt) (i : Int) : Int := cond (p.op == 0) (mlE (mayC p.s) p.k) (cond (opB p.op) (cond (nmB p.l p.r i) 9 0) 11)
theorem mp_ev (g : List AV → Int) (p : Prt) (i : Int) : ev Tryz.prog [⟨106, eSc fun c => iA (g c)⟩] [] noL Tryz.f71 [.agg p.c, iA i] ret = cond (p.op == 0) (aiR (g p.s)) (opT p.op (cond (nmB p.l p.r i) (aiR 9) (aiR 0)) (aiR 11)) := by kernel_rfl
theorem smp (p : Prt) (i : Int) : FSpec Tryz.prog 71 [.agg p.c, iA i] (iA (ppE p i)) := by
  refine sp (e_cons eMl_ok e_nil) Tryz.func71 (by kernel_rfl) (by kernel_rfl) rfl ((mp_ev (fun c => mlE (mayC c) (kOfC c)) p i).trans ?_)
  rw [opT_eq]
  unfold ppE aiR
  show cond (p.op == 0) (some (Out.of (iA (mlE (mayC p.s) p.k)))) _ = _
  cases p.op == 0 <;> cases opB p.op <;> cases nmB p.l p.r i <;> rfl
def seqE (fb : Nat → Int) : Nat → Int
  | 0 => 0
  | i + 1 => cond (seqE fb i == 0) (fb i) (seqE fb i)
theorem seq_all {fb : Nat → Int} : ∀ n, (∀ i, i < n → fb i = 0) → seqE fb n = 0
  | 0, _ => rfl
  | n + 1, h => by
    show cond (seqE fb n == 0) (fb n) (seqE fb n) = 0
    rw [seq_all n fun i hi => h i (by omega), h n (by omega)]
    rfl
theorem seq_first {fb : Nat → Int} {K : Nat} (hK : fb K ≠ 0) (h : ∀ i, i < K → fb i = 0) : ∀ n, K < n → seqE fb n = fb K
  | 0, hn => absurd hn (Nat.not_lt_zero _)
  | n + 1, hn => by
    show cond (seqE fb n == 0) (fb n) (seqE fb n) = _
    by_cases e : K = n
    · subst e; rw [seq_all K h]; rfl
    · rw [seq_first hK h n (by omega), beq_false_of_ne hK]; rfl
theorem seq_zero {fb : Nat → Int} : ∀ n, seqE fb n = 0 → ∀ i, i < n → fb i = 0
  | 0, _, i, hi => absurd hi (Nat.not_lt_zero i)
  | n + 1, h, i, hi => by
    have h : cond (seqE fb n == 0) (fb n) (seqE fb n) = 0 := h
    by_cases h0 : seqE fb n = 0
    · rw [h0] at h
      have h : fb n = 0 := h
      by_cases e : i = n
      · subst e; exact h
      · exact seq_zero n h0 i (by omega)
    · rw [beq_false_of_ne h0] at h; exact absurd h h0
noncomputable def paE (P : Nat → Prt) (i : Nat) : Int := ppE (P i) (i : Nat)
def soX (n : Nat) (sn : Int) (R : Option Out) : Option Out := cond (cond (decide ((n : Int) < 1)) true (decide ((n : Int) > 16))) (aiR 5) (cond (skB sn) (aiR 4) R)
/-- The errno of a solid. -/
noncomputable def soE (n : Nat) (P : Nat → Prt) (sn : Int) : Int := cond (cond (decide ((n : Int) < 1)) true (decide ((n : Int) > 16))) 5 (cond (skB sn) 4 (seqE (paE P) n))
theorem soX_eq {n : Nat} {P : Nat → Prt} {sn : Int} {R : Option Out} (h : 1 ≤ n → n ≤ 16 → R = aiR (seqE (paE P) n)) : soX n sn R = some (Out.of (iA (soE n P sn))) := by
  unfold soX soE
  by_cases h1 : n < 1
  · rw [decide_eq_true (show (n : Int) < 1 by omega)]; rfl
  · by_cases h2 : 16 < n
    · rw [decide_eq_false (show ¬ (n : Int) < 1 by omega), decide_eq_true (show (n : Int) > 16 by omega)]; rfl
    · rw [decide_eq_false (show ¬ (n : Int) < 1 by omega), decide_eq_false (show ¬ (n : Int) > 16 by omega), h (by omega) (by omega)]
      unfold aiR
      cases skB sn <;> rfl
def smS (n : Nat) (P : Nat → Prt) (i : Int) : St := mkS 39 [(25, prS n P), (26, iA n), (27, iA i)] []
def smE' (e : Int) : St := mkS 39 [(2, iA e)] []
def eMp (g : List AV → Int → Int) : List AV → Option AV
  | [.agg [.x (.int .i64 o), .x (.int .i64 l), .x (.int .i64 r), .x (.int .i64 k), .f a0, .f a1, .f a2, .f a3, .f a4, .f a5, .f a6, .f a7, .f a8, .f a9, .f a10, .x (.int .i64 sk)], .x (.int .i64 i)] => some (iA (g [.x (.int .i64 o), .x (.int .i64 l), .x (.int .i64 r), .x (.int .i64 k), .f a0, .f a1, .f a2, .f a3, .f a4, .f a5, .f a6, .f a7, .f a8, .f a9, .f a10, .x (.int .i64 sk)] i))
  | _ => none
def decP : List AV → Prt
  | [.x (.int .i64 o), .x (.int .i64 l), .x (.int .i64 r), .x (.int .i64 k), .f a0, .f a1, .f a2, .f a3, .f a4, .f a5, .f a6, .f a7, .f a8, .f a9, .f a10, .x (.int .i64 sk)] => ⟨o, l, r, k, ls [a0, a1, a2, a3, a4, a5, a6, a7, a8, a9, a10], sk⟩
  | _ => ⟨0, 0, 0, 0, fun _ => 0, 0⟩
noncomputable def mpG (c : List AV) (i : Int) : Int := ppE (decP c) i
theorem mpG_eq (p : Prt) (i : Int) : mpG p.c i = ppE p i := rfl
theorem eMp_ok : EOk Tryz.prog ⟨71, eMp mpG⟩ := fun args r hr => by
  simp only [eMp] at hr
  split at hr
  · cases hr; exact Or.inl (smp ⟨_, _, _, _, ls [_, _, _, _, _, _, _, _, _, _, _], _⟩ _)
  · cases hr
section
variable (g : List AV → Int → Int) (n : Nat) (P : Nat → Prt) (i : Int) (sn : Int)
def smC (o ob oe : Option Out) : Option Out := cond (decide (i < n)) (cond (ixB i n || false) (cond (!(g (P i.toNat).c i == 0)) ob o) none) oe
theorem sm_step : evC Tryz.prog [⟨71, eMp g⟩] [] noL (loopAt Tryz.f26 0) (smS n P i) (finN [25, 26, 27] []) = smC g n P i (some ⟨.normal, smS n P (w64 (i + 1)), .any⟩) none none := by kernel_rfl
theorem sm_ret : evC Tryz.prog [⟨71, eMp g⟩] [] noL (loopAt Tryz.f26 0) (smS n P i) (finR [2] []) = smC g n P i none (some ⟨.ret, smE' (g (P i.toNat).c i), .any⟩) none := by kernel_rfl
theorem sm_end : evC Tryz.prog [⟨71, eMp g⟩] [] noL (loopAt Tryz.f26 0) (smS n P i) (finE [25, 26, 27] []) = smC g n P i none none (some ⟨.exit 0, smS n P i, .any⟩) := by kernel_rfl
theorem sm_evG (j : Int) : ev Tryz.prog [⟨71, eMp g⟩] [] (oneL 6 (toldF [25, 26, 27] [] (smS n P 0) (.exit 0) (smS n P j))) Tryz.f26 [.agg (soC n P sn)] ret = soX n sn (gate (Sub (smS n P 0) (smS n P 0)) (aiR 0)) := by kernel_rfl
theorem sm_evR (e : Int) : ev Tryz.prog [⟨71, eMp g⟩] [] (oneL 6 (toldF [25, 26, 27] [] (smS n P 0) .ret (smE' e))) Tryz.f26 [.agg (soC n P sn)] ret = soX n sn (gate (Sub (smS n P 0) (smS n P 0)) (aiR e)) := by kernel_rfl
theorem sm_ev0 : ev Tryz.prog [⟨71, eMp g⟩] [] (oneL 6 fun _ _ => none) Tryz.f26 [.agg (soC n P sn)] ret = soX n sn none := by kernel_rfl
end
theorem smay_spec (n : Nat) (P : Nat → Prt) (sn : Int) : FSpec Tryz.prog 26 [.agg (soC n P sn)] (iA (soE n P sn)) := by
  have en := e_cons eMp_ok e_nil
  by_cases hc : n < 1 ∨ 16 < n
  · exact gspec en k_nil Tryz.func26 (by kernel_rfl) (by kernel_rfl) (lok_none 6) rfl ((sm_ev0 mpG n P sn).trans (soX_eq fun h1 h2 => absurd hc (by omega)))
  · have go : ∀ k, k < n → paE P k = 0 → Leads Tryz.prog (loopAt Tryz.f26 0) (smS n P (k : Nat)) .normal (smS n P ((k + 1 : Nat) : Int)) := fun k hk hb => by
      refine leads_ev (finN_sub _ _) en k_nil noL_ok ((sm_step mpG n P (k : Nat)).trans ?_)
      unfold smC
      rw [dec_lt hk, ixB_t hk, Int.toNat_natCast, mpG_eq, show ppE (P k) (k : Nat) = 0 from hb, w64_next (by omega)]
      rfl
    rcases all_or_first (fun i => paE P i == 0) n with hl | ⟨K, hK, hp, hq⟩
    · have hl' : ∀ i, i < n → paE P i = 0 := fun i hi => by simpa using hl i hi
      have lead : Leads Tryz.prog (.loop (loopAt Tryz.f26 0)) (smS n P 0) (.exit 0) (smS n P (n : Nat)) := by
        refine loop_rule (fun k => smS n P (k : Nat)) n (.exit 0) _ (by simp) (fun k hk => go k hk (hl' k hk)) ?_
        refine leads_ev (finE_sub _ _) en k_nil noL_ok ((sm_end mpG n P (n : Nat)).trans ?_)
        unfold smC
        rw [dec_self, cond_false]
      refine gspec en k_nil Tryz.func26 (by kernel_rfl) (by kernel_rfl) (lok_at (i := 6) 0 1 (by kernel_rfl) (by kernel_rfl) (toldF_sound (keep := [25, 26, 27]) (τ := []) lead)) rfl ((sm_evG mpG n P sn (n : Nat)).trans (soX_eq fun _ _ => ?_))
      rw [gate_pos (Sub.refl _), seq_all n hl']
    · have hb : paE P K ≠ 0 := by simpa using hp
      have hq' : ∀ i, i < K → paE P i = 0 := fun i hi => by simpa using hq i hi
      have lead : Leads Tryz.prog (.loop (loopAt Tryz.f26 0)) (smS n P 0) .ret (smE' (paE P K)) := by
        refine loop_rule (fun k => smS n P (k : Nat)) K .ret _ (by simp) (fun k hk => go k (by omega) (hq' k hk)) ?_
        refine leads_ev (finR_sub _ _) en k_nil noL_ok ((sm_ret mpG n P (K : Nat)).trans ?_)
        unfold smC
        rw [dec_lt hK, ixB_t hK, Int.toNat_natCast, mpG_eq, beq_false_of_ne (show ppE (P K) (K : Nat) ≠ 0 from hb)]
        rfl
      refine gspec en k_nil Tryz.func26 (by kernel_rfl) (by kernel_rfl) (lok_at (i := 6) 0 1 (by kernel_rfl) (by kernel_rfl) (toldF_sound (keep := [25, 26, 27]) (τ := []) lead)) rfl ((sm_evR mpG n P sn (paE P K)).trans (soX_eq fun _ _ => ?_))
      rw [gate_pos (Sub.refl _), seq_first hb hq' n hK]
section
variable (mf : List AV → Int) (n : Nat) (P : Nat → Prt) (sn : Int) (i : Int)
end
end Go.Proofs.YtancjnambbkhmaaGreat.Hs.So

namespace Go.Proofs.YtancjnambbkhmaaGreat.Hs.So
open Go.Gv
open Go.Ev (cn fadd fsub fmul fdiv fsqrt fneg feq flt fle fgt fge fabs isNan)

section
variable (bb : List AV → Nat → Nat) (be : List AV → Int) (jn : (Nat → Nat) → (Nat → Nat) → Nat → Nat) (n : Nat) (P : Nat → Prt) (i : Int) (B : Nat → Nat → Nat)
def bl' (i : Int) (n : Nat) : Bool := Nat.blt (0 + i.toNat) n || false
def ow' (i : Int) (n : Nat) (o : Option Out) : Option Out := cond (ixB i n || false) (cond (bl' i n) o none) none
def jnB (l r i : Int) (n : Nat) : Bool := (ixB l n || false) && ((bl' l n) && ((ixB r n || false) && ((bl' r n) && ((ixB i n || false) && ((bl' i n) && true)))))
end
def PrOk (p : Prt) (k : Nat) : Prop := p.op = 0 ∨ (p.op ≠ 0 ∧ ∃ l r : Nat, p.l = (l : Nat) ∧ p.r = (r : Nat) ∧ l < k ∧ r < k)
theorem pr_ok {p : Prt} {k : Nat} (h : ppE p (k : Nat) = 0) : PrOk p k := by
  by_cases h0 : p.op = 0
  · exact Or.inl h0
  · refine Or.inr ⟨h0, ?_⟩
    unfold ppE at h
    rw [beq_false_of_ne h0, cond_false] at h
    cases ho : opB p.op
    · rw [ho] at h; exact absurd (show (11 : Int) = 0 from h) (by decide)
    · rw [ho, cond_true] at h
      cases hn : nmB p.l p.r (k : Nat)
      · unfold nmB at hn
        by_cases c1 : p.l < 0
        · rw [decide_eq_true c1] at hn; cases hn
        · rw [decide_eq_false c1] at hn
          by_cases c2 : p.l ≥ (k : Nat)
          · rw [decide_eq_true c2] at hn; cases hn
          · rw [decide_eq_false c2] at hn
            by_cases c3 : p.r < 0
            · rw [decide_eq_true c3] at hn; cases hn
            · rw [decide_eq_false c3] at hn
              by_cases c4 : p.r ≥ (k : Nat)
              · rw [decide_eq_true c4] at hn; cases hn
              · exact ⟨p.l.toNat, p.r.toNat, by omega, by omega, by omega, by omega⟩
      · rw [hn] at h; exact absurd (show (9 : Int) = 0 from h) (by decide)
theorem ow_t {i n : Nat} (h : i < n) (o : Option Out) : ow' (i : Nat) n o = o := by
  unfold ow' bl'
  rw [ixB_t h, Int.toNat_natCast, Nat.zero_add, blt_t h]
  rfl
theorem jnB_t {l r i n : Nat} (h1 : l < n) (h2 : r < n) (h3 : i < n) : jnB (l : Nat) (r : Nat) (i : Nat) n = true := by
  unfold jnB bl'
  rw [ixB_t h1, ixB_t h2, ixB_t h3, Int.toNat_natCast, Int.toNat_natCast, Int.toNat_natCast, Nat.zero_add, Nat.zero_add, Nat.zero_add, blt_t h1, blt_t h2, blt_t h3]
  rfl
end Go.Proofs.YtancjnambbkhmaaGreat.Hs.So

namespace Go.Proofs.YtancjnambbkhmaaGreat.Hs.So
open Go.Gv
open Go.Ev (cn fadd fsub fmul fdiv fsqrt fneg feq flt fle fgt fge fabs isNan)

section
end
end Go.Proofs.YtancjnambbkhmaaGreat.Hs.So

namespace Go.Proofs.YtancjnambbkhmaaGreat.Hs.So
open Go.Gv
open Go.Ev (cn fadd fsub fmul fdiv fsqrt fneg feq flt fle fgt fge fabs isNan)

section
variable (n : Nat) (P : Nat → Prt) (sn e : Int) (b : Nat → Nat)
end
/-- What is known of a solid that may be. -/
theorem so_ok {n : Nat} {P : Nat → Prt} {sn : Int} (h : soE n P sn = 0) : 1 ≤ n ∧ n ≤ 16 ∧ ∀ k, k < n → ppE (P k) (k : Nat) = 0 := by
  unfold soE at h
  by_cases h1 : n < 1
  · rw [decide_eq_true (show (n : Int) < 1 by omega)] at h; exact absurd (show (5 : Int) = 0 from h) (by decide)
  · by_cases h2 : 16 < n
    · rw [decide_eq_false (show ¬ (n : Int) < 1 by omega), decide_eq_true (show (n : Int) > 16 by omega)] at h; exact absurd (show (5 : Int) = 0 from h) (by decide)
    · rw [decide_eq_false (show ¬ (n : Int) < 1 by omega), decide_eq_false (show ¬ (n : Int) > 16 by omega)] at h
      cases hs : skB sn
      · rw [hs] at h
        exact ⟨by omega, by omega, seq_zero n h⟩
      · rw [hs] at h; exact absurd (show (4 : Int) = 0 from h) (by decide)
end Go.Proofs.YtancjnambbkhmaaGreat.Hs.So

namespace Go.Proofs.YtancjnambbkhmaaGreat.Hs.So
open Go.Gv
open Go.Ev (cn fadd fsub fmul fdiv fsqrt fneg feq flt fle fgt fge fabs isNan)

structure Nor where
  x : Nat
  y : Nat
  w : Nat
  e : Int
def Nor.v (g : Nor) : AV := .tup [V g.x g.y g.w, iA g.e]
def mo : Nat := 13830554455654793216
section
variable (G : List AV → Nat → Nat → Nat → Nor) (n : Nat) (P : Nat → Prt) (sn e : Int) (t : Nat) (lf : Int) (tu : Bool) (p q u : Nat)
end
end Go.Proofs.YtancjnambbkhmaaGreat.Hs.So

namespace Go.Proofs.YtancjnambbkhmaaGreat.Hs.So
open Go.Gv
open Go.Ev (cn fadd fsub fmul fdiv fsqrt fneg feq flt fle fgt fge fabs isNan)

structure Crs where
  t : Nat
  l : Int
  u : Bool
def Crs.c (x : Crs) : List AV := [.f x.t, iA x.l, bA x.u]
def Crs.v (x : Crs) : AV := .agg x.c
def lateS (a b : Crs) : Crs := cond (fgt b.t a.t) b a
def earlS (a b : Crs) : Crs := cond (flt b.t a.t) b a
def turnS (a : Crs) : Crs := ⟨a.t, a.l, !a.u⟩
theorem late_ev (a b : Crs) : ev Tryz.prog [] [] noL Tryz.f127 [a.v, b.v] ret = cond (fgt b.t a.t) (some (Out.of b.v)) (some (Out.of a.v)) := by kernel_rfl
theorem earl_ev (a b : Crs) : ev Tryz.prog [] [] noL Tryz.f128 [a.v, b.v] ret = cond (flt b.t a.t) (some (Out.of b.v)) (some (Out.of a.v)) := by kernel_rfl
theorem turn_ev (a : Crs) : ev Tryz.prog [] [] noL Tryz.f154 [a.v] ret = some (Out.of (turnS a).v) := by kernel_rfl
theorem slate (a b : Crs) : FSpec Tryz.prog 127 [a.v, b.v] (lateS a b).v := sp e_nil Tryz.func127 (by kernel_rfl) (by kernel_rfl) rfl ((late_ev a b).trans (by unfold lateS; cases fgt b.t a.t <;> rfl))
theorem searl (a b : Crs) : FSpec Tryz.prog 128 [a.v, b.v] (earlS a b).v := sp e_nil Tryz.func128 (by kernel_rfl) (by kernel_rfl) rfl ((earl_ev a b).trans (by unfold earlS; cases flt b.t a.t <;> rfl))
theorem sturn (a : Crs) : FSpec Tryz.prog 154 [a.v] (turnS a).v := sp e_nil Tryz.func154 (by kernel_rfl) (by kernel_rfl) rfl (turn_ev a)
end Go.Proofs.YtancjnambbkhmaaGreat.Hs.So

namespace Go.Proofs.YtancjnambbkhmaaGreat.Hs.So
open Go.Gv
open Go.Ev (cn fadd fsub fmul fdiv fsqrt fneg feq flt fle fgt fge fabs isNan)

def eScY (g : List AV → (Nat → Nat) → AV) : List AV → Option AV
  | [.agg [.x (.int .i64 k), .f a0, .f a1, .f a2, .f a3, .f a4, .f a5, .f a6, .f a7, .f a8, .f a9, .f a10, .x (.int .i64 sk)], .agg [.f a, .f b, .f c, .f d, .f e, .f f, .f x]] => some (g [.x (.int .i64 k), .f a0, .f a1, .f a2, .f a3, .f a4, .f a5, .f a6, .f a7, .f a8, .f a9, .f a10, .x (.int .i64 sk)] (ls [a, b, c, d, e, f, x]))
  | _ => none
theorem eScY_ok {f : Nat} {g : List AV → (Nat → Nat) → AV} (h : ∀ k a sk r, FSpec Tryz.prog f [SH k a sk, RY r] (g (shC k a sk) r)) : EOk Tryz.prog ⟨f, eScY g⟩ := fun args r hr => by
  simp only [eScY] at hr
  split at hr
  · cases hr; exact Or.inl (h _ (ls [_, _, _, _, _, _, _, _, _, _, _]) _ (ls [_, _, _, _, _, _, _]))
  · cases hr
def l7 (r : Nat → Nat) : Nat → Nat := ls [r 0, r 1, r 2, r 3, r 4, r 5, r 6]
structure Spn where
  i : Crs
  o : Crs
def Spn.c (x : Spn) : List AV := [.f x.i.t, iA x.i.l, bA x.i.u, .f x.o.t, iA x.o.l, bA x.o.u]
theorem lf_ev (w : List AV → (Nat → Nat) → Wit) (num k : Int) (a : Nat → Nat) (sk : Int) (r : Nat → Nat) : ev Tryz.prog [⟨19, eScY fun c r => (w c r).v⟩] [] noL Tryz.f107 [iA num, SH k a sk, RY r] ret =
    cond (!(w (shC k a sk) (l7 r)).ok) (some (Out.of (.x (.slice none 0 0)))) (some (Out.of (.sl 6 1 fun q => chunk (⟨⟨(w (shC k a sk) (l7 r)).i, num, false⟩, ⟨(w (shC k a sk) (l7 r)).o, num, false⟩⟩ : Spn).c 6 (0 + q)))) := by kernel_rfl
end Go.Proofs.YtancjnambbkhmaaGreat.Hs.So
