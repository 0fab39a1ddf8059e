/-
  Hv0 Hv1 Hv2 Hv3 Hv4 Hv5 Hv6 Hv7 Hv8 Hv9 Hva Hr1 Fl Hf0 Hr2 Hm1 Rw1 So1 Mk0 Sx1, one behind the other.
-/
import Derived.Test.YtngjiggplabfkaaGreatC16
import Derived.Test.YtngjiggplabfkaaGreatC17
import Derived.Test.YtngjiggplabfkaaGreatC2
namespace Go.Ev
open Go.RowKit

/-- A float without its sign. -/
def fabs (x : Nat) : Nat := cond (isNan x) nanB (x % 9223372036854775808)
end Go.Ev
namespace Go.Gv
open Go.RowKit Go.Ev
end Go.Gv
namespace Go.Proofs.YtngjiggplabfkaaGreat.Hs
open Go.Gv
open Go.Ev (cn fadd fsub fmul fdiv fsqrt fneg feq flt fle fgt fge fabs)

abbrev V (a b c : Nat) : AV := .agg [.f a, .f b, .f c]
def one : Nat := 4607182418800017408
def nearS (x : Nat) : Bool := cond (fge x 13920209183539462144) (fle x 4696837146684686336) false
def fineS (a b c : Nat) : Bool := cond (cond (nearS a) (nearS b) false) (nearS c) false
def dotS (a b c d e f : Nat) : Nat := fadd (fadd (fmul a d) (fmul b e)) (fmul c f)
def crX (b c e f : Nat) : Nat := fsub (fmul b f) (fmul c e)
def lengthS (a b c : Nat) : Nat := fsqrt (dotS a b c a b c)
def lessS (a b : Nat) : Nat := cond (flt b a) b a
def moreS (a b : Nat) : Nat := cond (fgt b a) b a
def eF (g : Nat → AV) : List AV → Option AV
  | [.f a] => some (g a)
  | _ => none
def eFF (g : Nat → Nat → AV) : List AV → Option AV
  | [.f a, .f b] => some (g a b)
  | _ => none
def eV (g : Nat → Nat → Nat → AV) : List AV → Option AV
  | [.agg [.f a, .f b, .f c]] => some (g a b c)
  | _ => none
def eVV (g : Nat → Nat → Nat → Nat → Nat → Nat → AV) : List AV → Option AV
  | [.agg [.f a, .f b, .f c], .agg [.f d, .f e, .f f]] => some (g a b c d e f)
  | _ => none
def eVF (g : Nat → Nat → Nat → Nat → AV) : List AV → Option AV
  | [.agg [.f a, .f b, .f c], .f d] => some (g a b c d)
  | _ => none
theorem eF_ok {f : Nat} {g : Nat → AV} (h : ∀ a, FSpec Tryz.prog f [.f a] (g a)) : EOk Tryz.prog ⟨f, eF g⟩ := fun args r hr => by
  simp only [eF] at hr
  split at hr
  · cases hr; exact Or.inl (h _)
  · cases hr
theorem eFF_ok {f : Nat} {g : Nat → Nat → AV} (h : ∀ a b, FSpec Tryz.prog f [.f a, .f b] (g a b)) : EOk Tryz.prog ⟨f, eFF g⟩ := fun args r hr => by
  simp only [eFF] at hr
  split at hr
  · cases hr; exact Or.inl (h _ _)
  · cases hr
theorem eV_ok {f : Nat} {g : Nat → Nat → Nat → AV} (h : ∀ a b c, FSpec Tryz.prog f [V a b c] (g a b c)) : EOk Tryz.prog ⟨f, eV g⟩ := fun args r hr => by
  simp only [eV] at hr
  split at hr
  · cases hr; exact Or.inl (h _ _ _)
  · cases hr
theorem eVV_ok {f : Nat} {g : Nat → Nat → Nat → Nat → Nat → Nat → AV} (h : ∀ a b c d e f', FSpec Tryz.prog f [V a b c, V d e f'] (g a b c d e f')) : EOk Tryz.prog ⟨f, eVV g⟩ := fun args r hr => by
  simp only [eVV] at hr
  split at hr
  · cases hr; exact Or.inl (h _ _ _ _ _ _)
  · cases hr
theorem eVF_ok {f : Nat} {g : Nat → Nat → Nat → Nat → AV} (h : ∀ a b c d, FSpec Tryz.prog f [V a b c, .f d] (g a b c d)) : EOk Tryz.prog ⟨f, eVF g⟩ := fun args r hr => by
  simp only [eVF] at hr
  split at hr
  · cases hr; exact Or.inl (h _ _ _ _)
  · cases hr
/-- Six floats, seven floats, as a function of their number. -/
def ls (l : List Nat) : Nat → Nat := fun i => l.getD i 0
abbrev BX (m : Nat → Nat) : AV := .agg [.f (m 0), .f (m 1), .f (m 2), .f (m 3), .f (m 4), .f (m 5)]
def eB (g : (Nat → Nat) → AV) : List AV → Option AV
  | [.agg [.f a, .f b, .f c, .f d, .f e, .f f]] => some (g (ls [a, b, c, d, e, f]))
  | _ => none
def eBB (g : (Nat → Nat) → (Nat → Nat) → AV) : List AV → Option AV
  | [.agg [.f a, .f b, .f c, .f d, .f e, .f f], .agg [.f a', .f b', .f c', .f d', .f e', .f f']] => some (g (ls [a, b, c, d, e, f]) (ls [a', b', c', d', e', f']))
  | _ => none
theorem eB_ok {f : Nat} {g : (Nat → Nat) → AV} (h : ∀ a, FSpec Tryz.prog f [BX a] (g a)) : EOk Tryz.prog ⟨f, eB g⟩ := fun args r hr => by
  simp only [eB] at hr
  split at hr
  · cases hr; exact Or.inl (h (ls [_, _, _, _, _, _]))
  · cases hr
theorem eBB_ok {f : Nat} {g : (Nat → Nat) → (Nat → Nat) → AV} (h : ∀ a b, FSpec Tryz.prog f [BX a, BX b] (g a b)) : EOk Tryz.prog ⟨f, eBB g⟩ := fun args r hr => by
  simp only [eBB] at hr
  split at hr
  · cases hr; exact Or.inl (h (ls [_, _, _, _, _, _]) (ls [_, _, _, _, _, _]))
  · cases hr
theorem sp {l : List Entry} (hl : ∀ e, e ∈ l → EOk Tryz.prog e) {f : Nat} {fn : Func} (hf : Tryz.prog.funcs[f]? = some fn) (hnm : (fn.name == "runtime.NumGoroutine") = false) (hb : fn.body = some (bodyOf fn)) {args : List AV} (hlen : Nat.ble args.length fn.ntmps = true) {r : AV}
    (h : ev Tryz.prog l [] noL fn args ret = some (Out.of r)) : FSpec Tryz.prog f args r := gspec hl k_nil hf hnm hb noL_ok hlen h
end Go.Proofs.YtngjiggplabfkaaGreat.Hs

namespace Go.Ev
open Go.RowKit
theorem run_sqrt (P : Program) (w : World) (b : Nat) : ∃ r w', (Extern.MathSqrt.sqrt #[.float .f64 b]).run P w = .ok (.float .f64 r) w' ∧ (w' = w ∨ w' = w.drew) ∧ cn r = fsqrt (cn b) := by
  have e : Extern.MathSqrt.sqrt #[.float .f64 b] = (match FloatKind.f64.format.sqrt b with
    | some r => (pure (.float .f64 r) : Sem Value)
    | none => do pure (.float .f64 (← choose (.nanBits .f64 b b)))) := rfl
  rw [e]
  unfold fsqrt
  rw [sqrt_cn]
  cases h : Ieee.double.sqrt b with
  | some r =>
    refine ⟨r, w, ?_, Or.inl rfl, ?_⟩
    · have h' : FloatKind.f64.format.sqrt b = some r := h
      simp [h']
    · rw [cn_of_not (isNan_sqrt h)]; rfl
  | none =>
    refine ⟨(Question.nanBits .f64 b b).cut (w.tape w.drawn (.nanBits .f64 b b)), w.drew, ?_, Or.inr rfl, ?_⟩
    · have h' : FloatKind.f64.format.sqrt b = none := h
      simp [h', Question.forced]
    · rw [cn_of_nan (isNan_cut _ _ _)]; rfl
end Go.Ev
namespace Go.Proofs.YtngjiggplabfkaaGreat
open Go.Gv
open Go.Ev (cn fadd fsub fmul fdiv fsqrt fneg feq flt fle fgt fge fabs)
theorem sqrtX {f : Nat} {fn : Func} (hf : Tryz.prog.funcs[f]? = some fn) (hname : (fn.name == "runtime.NumGoroutine") = false) (hb : fn.body.isNone = true) (hn : Extern.findNext fn = none)
    (he : Extern.find fn = some Extern.MathSqrt.sqrt) (a : Nat) : XSpec Tryz.prog f [.f a] (.f (fsqrt a)) := fun E cargs hv => by
  obtain ⟨l⟩ := cargs
  obtain ⟨v, t, e1, h1, h2⟩ := rels_cons.1 hv
  have e2 := rels_nil.1 h2
  obtain ⟨b, rfl, rfl⟩ := rel_f.1 h1
  have e3 : l = [.float .f64 b] := by rw [e2] at e1; exact e1
  subst e3
  obtain ⟨r, w', g1, g2, g3⟩ := Go.Ev.run_sqrt Tryz.prog E.w b
  refine ⟨.float .f64 r, w', ?_, g2, rel_f.2 ⟨r, rfl, g3⟩⟩
  rw [run_callFunc_extern hf hname hb hn he, g1]
  rfl
end Go.Proofs.YtngjiggplabfkaaGreat
namespace Go.Proofs.YtngjiggplabfkaaGreat.Hs
open Go.Gv
open Go.Ev (cn fadd fsub fmul fdiv fsqrt fneg feq flt fle fgt fge fabs)

theorem eSq0_ok : EOk Tryz.prog ⟨104, eF fun x => .f (fsqrt x)⟩ := fun args r hr => by
  simp only [eF] at hr
  split at hr
  · cases hr; exact Or.inr (sqrtX Tryz.func104 (by kernel_rfl) rfl (by kernel_rfl) (by kernel_rfl) _)
  · cases hr
def Sq0 : List Entry := [⟨104, eF fun x => .f (fsqrt x)⟩]
theorem msqrt (x : Nat) : FSpec Tryz.prog 88 [.f x] (.f (fsqrt x)) := sp (l := Sq0) (e_cons eSq0_ok e_nil) Tryz.func88 (by kernel_rfl) (by kernel_rfl) rfl (by kernel_rfl)
theorem vnear (x : Nat) : FSpec Tryz.prog 66 [.f x] (bA (nearS x)) := sp e_nil Tryz.func66 (by kernel_rfl) (by kernel_rfl) rfl (by kernel_rfl)
theorem vadd (a b c d e f : Nat) : FSpec Tryz.prog 47 [V a b c, V d e f] (V (fadd a d) (fadd b e) (fadd c f)) := sp e_nil Tryz.func47 (by kernel_rfl) (by kernel_rfl) rfl (by kernel_rfl)
theorem vsub (a b c d e f : Nat) : FSpec Tryz.prog 68 [V a b c, V d e f] (V (fsub a d) (fsub b e) (fsub c f)) := sp e_nil Tryz.func68 (by kernel_rfl) (by kernel_rfl) rfl (by kernel_rfl)
theorem vover (a b c k : Nat) : FSpec Tryz.prog 87 [V a b c, .f k] (V (fdiv a k) (fdiv b k) (fdiv c k)) := sp e_nil Tryz.func87 (by kernel_rfl) (by kernel_rfl) rfl (by kernel_rfl)
theorem vdot (a b c d e f : Nat) : FSpec Tryz.prog 89 [V a b c, V d e f] (.f (dotS a b c d e f)) := sp e_nil Tryz.func89 (by kernel_rfl) (by kernel_rfl) rfl (by kernel_rfl)
theorem vcross (a b c d e f : Nat) : FSpec Tryz.prog 70 [V a b c, V d e f] (V (crX b c e f) (crX c a f d) (crX a b d e)) := sp e_nil Tryz.func70 (by kernel_rfl) (by kernel_rfl) rfl (by kernel_rfl)
def V1 : List Entry := [⟨88, eF fun x => .f (fsqrt x)⟩, ⟨66, eF fun x => bA (nearS x)⟩, ⟨47, eVV fun a b c d e f => V (fadd a d) (fadd b e) (fadd c f)⟩, ⟨68, eVV fun a b c d e f => V (fsub a d) (fsub b e) (fsub c f)⟩, ⟨87, eVF fun a b c k => V (fdiv a k) (fdiv b k) (fdiv c k)⟩, ⟨89, eVV fun a b c d e f => .f (dotS a b c d e f)⟩, ⟨70, eVV fun a b c d e f => V (crX b c e f) (crX c a f d) (crX a b d e)⟩]
theorem V1_ok : ∀ e, e ∈ V1 → EOk Tryz.prog e := e_cons (eF_ok msqrt) <| e_cons (eF_ok vnear) <| e_cons (eVV_ok vadd) <| e_cons (eVV_ok vsub) <| e_cons (eVF_ok vover) <| e_cons (eVV_ok vdot) <| e_cons (eVV_ok vcross) e_nil
theorem vfine (a b c : Nat) : FSpec Tryz.prog 65 [V a b c] (bA (fineS a b c)) := sp V1_ok Tryz.func65 (by kernel_rfl) (by kernel_rfl) rfl (by kernel_rfl)
theorem vlength (a b c : Nat) : FSpec Tryz.prog 69 [V a b c] (.f (lengthS a b c)) := sp V1_ok Tryz.func69 (by kernel_rfl) (by kernel_rfl) rfl (by kernel_rfl)
def V2 : List Entry := ⟨65, eV fun a b c => bA (fineS a b c)⟩ :: ⟨69, eV fun a b c => .f (lengthS a b c)⟩ :: V1
theorem V2_ok : ∀ e, e ∈ V2 → EOk Tryz.prog e := e_cons (eV_ok vfine) <| e_cons (eV_ok vlength) V1_ok
/-- The errno, and the parts of what has the length 1. -/
def unE (a b c : Nat) : Int := cond (!fineS a b c) 1 (cond (feq (lengthS a b c) 0) 2 0)
def unN (a b c x : Nat) : Nat := cond (!fineS a b c) 0 (cond (feq (lengthS a b c) 0) 0 (fdiv x (lengthS a b c)))
def unV (a b c : Nat) : AV := .tup [V (unN a b c a) (unN a b c b) (unN a b c c), iA (unE a b c)]
def unX (a b c : Nat) : Option Out := cond (!fineS a b c) (some (Out.of (.tup [V 0 0 0, iA 1]))) (cond (feq (lengthS a b c) 0) (some (Out.of (.tup [V 0 0 0, iA 2]))) (some (Out.of (.tup [V (fdiv a (lengthS a b c)) (fdiv b (lengthS a b c)) (fdiv c (lengthS a b c)), iA 0]))))
theorem unX_eq (a b c : Nat) : unX a b c = some (Out.of (unV a b c)) := by
  unfold unX unV unN unE
  cases fineS a b c <;> cases feq (lengthS a b c) 0 <;> rfl
theorem vunit (a b c : Nat) : FSpec Tryz.prog 67 [V a b c] (unV a b c) :=
  sp V2_ok Tryz.func67 (by kernel_rfl) (by kernel_rfl) rfl ((show ev Tryz.prog V2 [] noL Tryz.f67 [V a b c] ret = unX a b c by kernel_rfl).trans (unX_eq a b c))
theorem sless (a b : Nat) : FSpec Tryz.prog 108 [.f a, .f b] (.f (lessS a b)) := by
  refine sp e_nil Tryz.func108 (by kernel_rfl) (by kernel_rfl) rfl ?_
  have h : ev Tryz.prog [] [] noL Tryz.f108 [.f a, .f b] ret = cond (flt b a) (some (Out.of (.f b))) (some (Out.of (.f a))) := by kernel_rfl
  rw [h]; unfold lessS; cases flt b a <;> rfl
theorem smore (a b : Nat) : FSpec Tryz.prog 109 [.f a, .f b] (.f (moreS a b)) := by
  refine sp e_nil Tryz.func109 (by kernel_rfl) (by kernel_rfl) rfl ?_
  have h : ev Tryz.prog [] [] noL Tryz.f109 [.f a, .f b] ret = cond (fgt b a) (some (Out.of (.f b))) (some (Out.of (.f a))) := by kernel_rfl
  rw [h]; unfold moreS; cases fgt b a <;> rfl
def joinS (a b : Nat → Nat) : Nat → Nat := ls [lessS (a 0) (b 0), lessS (a 1) (b 1), lessS (a 2) (b 2), moreS (a 3) (b 3), moreS (a 4) (b 4), moreS (a 5) (b 5)]
def V3 : List Entry := ⟨67, eV unV⟩ :: ⟨108, eFF fun a b => .f (lessS a b)⟩ :: ⟨109, eFF fun a b => .f (moreS a b)⟩ :: V2
theorem V3_ok : ∀ e, e ∈ V3 → EOk Tryz.prog e := e_cons (eV_ok vunit) <| e_cons (eFF_ok sless) <| e_cons (eFF_ok smore) V2_ok
theorem sjoin (a b : Nat → Nat) : FSpec Tryz.prog 107 [BX a, BX b] (BX (joinS a b)) := sp V3_ok Tryz.func107 (by kernel_rfl) (by kernel_rfl) rfl (by kernel_rfl)
def mayF (b : Nat → Nat) : Bool := cond (!fineS (b 0) (b 1) (b 2)) true (!fineS (b 3) (b 4) (b 5))
def mayG (b : Nat → Nat) : Bool := cond (cond (fgt (b 0) (b 3)) true (fgt (b 1) (b 4))) true (fgt (b 2) (b 5))
def mayS (b : Nat → Nat) : Int := cond (mayF b) 1 (cond (mayG b) 6 0)
theorem smay (b : Nat → Nat) : FSpec Tryz.prog 99 [BX b] (iA (mayS b)) := by
  refine sp V3_ok Tryz.func99 (by kernel_rfl) (by kernel_rfl) rfl ?_
  have h : ev Tryz.prog V3 [] noL Tryz.f99 [BX b] ret = cond (mayF b) (some (Out.of (iA 1))) (cond (mayG b) (some (Out.of (iA 6))) (some (Out.of (iA 0)))) := by kernel_rfl
  rw [h]; unfold mayS; cases mayF b <;> cases mayG b <;> rfl
def V4 : List Entry := ⟨107, eBB fun a b => BX (joinS a b)⟩ :: ⟨99, eB fun b => iA (mayS b)⟩ :: V3
theorem V4_ok : ∀ e, e ∈ V4 → EOk Tryz.prog e := e_cons (eBB_ok sjoin) <| e_cons (eB_ok smay) V3_ok
section
variable (lo hi o d n f : Nat)
end
end Go.Proofs.YtngjiggplabfkaaGreat.Hs

namespace Go.Proofs.YtngjiggplabfkaaGreat.Hs
open Go.Gv
open Go.Ev (cn fadd fsub fmul fdiv fsqrt fneg feq flt fle fgt fge fabs)

section
variable (b r : Nat → Nat)
end
def V5 : List Entry := V4
theorem V5_ok : ∀ e, e ∈ V5 → EOk Tryz.prog e := V4_ok
theorem rnear (x : Nat) : FSpec Tryz.prog 71 [.f x] (bA (nearS x)) := sp e_nil Tryz.func71 (by kernel_rfl) (by kernel_rfl) rfl (by kernel_rfl)
theorem rtimes (a b : Nat) : FSpec Tryz.prog 96 [.f a, .f b] (.f (fmul a b)) := sp e_nil Tryz.func96 (by kernel_rfl) (by kernel_rfl) rfl (by kernel_rfl)
theorem radd (a b c d e f : Nat) : FSpec Tryz.prog 23 [V a b c, V d e f] (V (fadd a d) (fadd b e) (fadd c f)) := sp e_nil Tryz.func23 (by kernel_rfl) (by kernel_rfl) rfl (by kernel_rfl)
theorem rsub (a b c d e f : Nat) : FSpec Tryz.prog 77 [V a b c, V d e f] (V (fsub a d) (fsub b e) (fsub c f)) := sp e_nil Tryz.func77 (by kernel_rfl) (by kernel_rfl) rfl (by kernel_rfl)
theorem rscale (a b c k : Nat) : FSpec Tryz.prog 82 [V a b c, .f k] (V (fmul a k) (fmul b k) (fmul c k)) := sp e_nil Tryz.func82 (by kernel_rfl) (by kernel_rfl) rfl (by kernel_rfl)
theorem rover (a b c k : Nat) : FSpec Tryz.prog 90 [V a b c, .f k] (V (fdiv a k) (fdiv b k) (fdiv c k)) := sp e_nil Tryz.func90 (by kernel_rfl) (by kernel_rfl) rfl (by kernel_rfl)
theorem rless (a b : Nat) : FSpec Tryz.prog 105 [.f a, .f b] (.f (lessS a b)) := by
  refine sp e_nil Tryz.func105 (by kernel_rfl) (by kernel_rfl) rfl ?_
  have h : ev Tryz.prog [] [] noL Tryz.f105 [.f a, .f b] ret = cond (flt b a) (some (Out.of (.f b))) (some (Out.of (.f a))) := by kernel_rfl
  rw [h]; unfold lessS; cases flt b a <;> rfl
theorem rmore (a b : Nat) : FSpec Tryz.prog 106 [.f a, .f b] (.f (moreS a b)) := by
  refine sp e_nil Tryz.func106 (by kernel_rfl) (by kernel_rfl) rfl ?_
  have h : ev Tryz.prog [] [] noL Tryz.f106 [.f a, .f b] ret = cond (fgt b a) (some (Out.of (.f b))) (some (Out.of (.f a))) := by kernel_rfl
  rw [h]; unfold moreS; cases fgt b a <;> rfl
/-- A number of a vector. -/
def eVI (g : Nat → Nat → Nat → Int → Option AV) : List AV → Option AV
  | [.agg [.f a, .f b, .f c], .x (.int .i64 k)] => g a b c k
  | _ => none
def axG (a b c : Nat) (k : Int) : Option AV := cond (k == 0) (some (.f a)) (cond (k == 1) (some (.f b)) (cond (k == 2) (some (.f c)) none))
theorem ax_ev (a b c : Nat) (k : Int) : ev Tryz.prog [] [] noL Tryz.f91 [V a b c, iA k] ret = cond (k == 0) (some (Out.of (.f a))) (cond (k == 1) (some (Out.of (.f b))) (some (Out.of (.f c)))) := by kernel_rfl
theorem eAx_ok : EOk Tryz.prog ⟨91, eVI axG⟩ := fun args r hr => by
  simp only [eVI] at hr
  split at hr
  · rename_i a b c k
    refine Or.inl (sp e_nil Tryz.func91 (by kernel_rfl) (by kernel_rfl) rfl ((ax_ev a b c k).trans ?_))
    unfold axG at hr
    cases h0 : k == 0
    · rw [h0] at hr
      cases h1 : k == 1
      · rw [h1] at hr
        cases h2 : k == 2
        · rw [h2] at hr; cases hr
        · rw [h2] at hr; cases hr; rfl
      · rw [h1] at hr; cases hr; rfl
    · rw [h0] at hr; cases hr; rfl
  · cases hr
def R1 : List Entry := [⟨88, eF fun x => .f (fsqrt x)⟩, ⟨71, eF fun x => bA (nearS x)⟩, ⟨96, eFF fun a b => .f (fmul a b)⟩, ⟨23, eVV fun a b c d e f => V (fadd a d) (fadd b e) (fadd c f)⟩, ⟨77, eVV fun a b c d e f => V (fsub a d) (fsub b e) (fsub c f)⟩, ⟨82, eVF fun a b c k => V (fmul a k) (fmul b k) (fmul c k)⟩, ⟨90, eVF fun a b c k => V (fdiv a k) (fdiv b k) (fdiv c k)⟩, ⟨105, eFF fun a b => .f (lessS a b)⟩, ⟨106, eFF fun a b => .f (moreS a b)⟩, ⟨91, eVI axG⟩]
theorem R1_ok : ∀ e, e ∈ R1 → EOk Tryz.prog e := e_cons (eF_ok msqrt) <| e_cons (eF_ok rnear) <| e_cons (eFF_ok rtimes) <| e_cons (eVV_ok radd) <| e_cons (eVV_ok rsub) <| e_cons (eVF_ok rscale) <| e_cons (eVF_ok rover) <| e_cons (eFF_ok rless) <| e_cons (eFF_ok rmore) <| e_cons eAx_ok e_nil
theorem rfine (a b c : Nat) : FSpec Tryz.prog 52 [V a b c] (bA (fineS a b c)) := sp R1_ok Tryz.func52 (by kernel_rfl) (by kernel_rfl) rfl (by kernel_rfl)
theorem rdot (a b c d e f : Nat) : FSpec Tryz.prog 95 [V a b c, V d e f] (.f (dotS a b c d e f)) := sp R1_ok Tryz.func95 (by kernel_rfl) (by kernel_rfl) rfl (by kernel_rfl)
theorem rcross (a b c d e f : Nat) : FSpec Tryz.prog 79 [V a b c, V d e f] (V (crX b c e f) (crX c a f d) (crX a b d e)) := sp R1_ok Tryz.func79 (by kernel_rfl) (by kernel_rfl) rfl (by kernel_rfl)
def lowV (a b c d e f : Nat) : AV := V (lessS a d) (lessS b e) (lessS c f)
def highV (a b c d e f : Nat) : AV := V (moreS a d) (moreS b e) (moreS c f)
theorem rlow (a b c d e f : Nat) : FSpec Tryz.prog 92 [V a b c, V d e f] (lowV a b c d e f) := sp R1_ok Tryz.func92 (by kernel_rfl) (by kernel_rfl) rfl (by kernel_rfl)
theorem rhigh (a b c d e f : Nat) : FSpec Tryz.prog 93 [V a b c, V d e f] (highV a b c d e f) := sp R1_ok Tryz.func93 (by kernel_rfl) (by kernel_rfl) rfl (by kernel_rfl)
def R2 : List Entry := ⟨52, eV fun a b c => bA (fineS a b c)⟩ :: ⟨95, eVV fun a b c d e f => .f (dotS a b c d e f)⟩ :: ⟨79, eVV fun a b c d e f => V (crX b c e f) (crX c a f d) (crX a b d e)⟩ :: ⟨92, eVV lowV⟩ :: ⟨93, eVV highV⟩ :: R1
theorem R2_ok : ∀ e, e ∈ R2 → EOk Tryz.prog e := e_cons (eV_ok rfine) <| e_cons (eVV_ok rdot) <| e_cons (eVV_ok rcross) <| e_cons (eVV_ok rlow) <| e_cons (eVV_ok rhigh) R1_ok
theorem rlength (a b c : Nat) : FSpec Tryz.prog 78 [V a b c] (.f (lengthS a b c)) := sp R2_ok Tryz.func78 (by kernel_rfl) (by kernel_rfl) rfl (by kernel_rfl)
theorem rmay (b : Nat → Nat) : FSpec Tryz.prog 74 [BX b] (iA (mayS b)) := by
  refine sp R2_ok Tryz.func74 (by kernel_rfl) (by kernel_rfl) rfl ?_
  have h : ev Tryz.prog R2 [] noL Tryz.f74 [BX b] ret = cond (mayF b) (some (Out.of (iA 1))) (cond (fgt (b 0) (b 3)) (some (Out.of (iA 6))) (cond (fgt (b 1) (b 4)) (some (Out.of (iA 6))) (cond (fgt (b 2) (b 5)) (some (Out.of (iA 6))) (some (Out.of (iA 0)))))) := by kernel_rfl
  rw [h]
  unfold mayS mayG
  cases mayF b <;> cases fgt (b 0) (b 3) <;> cases fgt (b 1) (b 4) <;> cases fgt (b 2) (b 5) <;> rfl
theorem runit (a b c : Nat) : FSpec Tryz.prog 72 [V a b c] (unV a b c) :=
  sp (l := ⟨78, eV fun a b c => .f (lengthS a b c)⟩ :: R2) (e_cons (eV_ok rlength) R2_ok) Tryz.func72 (by kernel_rfl) (by kernel_rfl) rfl ((show ev Tryz.prog (⟨78, eV fun a b c => .f (lengthS a b c)⟩ :: R2) [] noL Tryz.f72 [V a b c] ret = unX a b c by kernel_rfl).trans (unX_eq a b c))
def R3 : List Entry := ⟨78, eV fun a b c => .f (lengthS a b c)⟩ :: ⟨72, eV unV⟩ :: ⟨74, eB fun b => iA (mayS b)⟩ :: R2
theorem R3_ok : ∀ e, e ∈ R3 → EOk Tryz.prog e := e_cons (eV_ok rlength) <| e_cons (eV_ok runit) <| e_cons (eB_ok rmay) R2_ok
end Go.Proofs.YtngjiggplabfkaaGreat.Hs

namespace Go.Proofs.YtngjiggplabfkaaGreat.Hs
open Go.Gv
open Go.Ev (cn fadd fsub fmul fdiv fsqrt fneg feq flt fle fgt fge fabs)

def neZ (x : Nat) : Bool := !feq x 0
theorem snumbers (a b c : Nat) : FSpec Tryz.prog 150 [V a b c] (V a b c) := sp e_nil Tryz.func150 (by kernel_rfl) (by kernel_rfl) rfl (by kernel_rfl)
theorem svecOf (a b c : Nat) : FSpec Tryz.prog 151 [V a b c] (V a b c) := sp e_nil Tryz.func151 (by kernel_rfl) (by kernel_rfl) rfl (by kernel_rfl)
def V6 : List Entry := ⟨150, eV fun a b c => V a b c⟩ :: ⟨151, eV fun a b c => V a b c⟩ :: V5
theorem V6_ok : ∀ e, e ∈ V6 → EOk Tryz.prog e := e_cons (eV_ok snumbers) <| e_cons (eV_ok svecOf) V5_ok
theorem sflat0 (a b c : Nat) : FSpec Tryz.prog 148 [V a b c, iA 0] (V 0 b c) := sp V6_ok Tryz.func148 (by kernel_rfl) (by kernel_rfl) rfl (by kernel_rfl)
theorem sflat1 (a b c : Nat) : FSpec Tryz.prog 148 [V a b c, iA 1] (V a 0 c) := sp V6_ok Tryz.func148 (by kernel_rfl) (by kernel_rfl) rfl (by kernel_rfl)
theorem sflat2 (a b c : Nat) : FSpec Tryz.prog 148 [V a b c, iA 2] (V a b 0) := sp V6_ok Tryz.func148 (by kernel_rfl) (by kernel_rfl) rfl (by kernel_rfl)
def flG (a b c : Nat) (k : Int) : Option AV := cond (k == 0) (some (V 0 b c)) (cond (k == 1) (some (V a 0 c)) (cond (k == 2) (some (V a b 0)) none))
theorem eFlat_ok : EOk Tryz.prog ⟨148, eVI flG⟩ := fun args r hr => by
  simp only [eVI] at hr
  split at hr
  · rename_i a b c k
    unfold flG at hr
    cases h0 : k == 0
    · rw [h0] at hr
      cases h1 : k == 1
      · rw [h1] at hr
        cases h2 : k == 2
        · rw [h2] at hr; cases hr
        · rw [h2] at hr; cases hr; rw [eq_of_beq h2]; exact Or.inl (sflat2 a b c)
      · rw [h1] at hr; cases hr; rw [eq_of_beq h1]; exact Or.inl (sflat1 a b c)
    · rw [h0] at hr; cases hr; rw [eq_of_beq h0]; exact Or.inl (sflat0 a b c)
  · cases hr
def axR (k : Int) (b : Bool) : Option Out := some (Out.of (.tup [iA k, bA b]))
def axT (a b c : Nat) : Option Out := cond (neZ a) (cond (neZ b) (cond (neZ c) (axR 2 false) (axR 1 false)) (cond (neZ c) (axR 2 false) (axR 0 true))) (cond (neZ b) (cond (neZ c) (axR 2 false) (axR 1 true)) (cond (neZ c) (axR 2 true) (axR 0 false)))
def axI (a b c : Nat) : Int := cond (neZ c) 2 (cond (neZ b) 1 (cond (neZ a) 0 0))
def axO (a b c : Nat) : Bool := cond (neZ a) (cond (neZ b) false (!neZ c)) (cond (neZ b) (!neZ c) (neZ c))
theorem saxis (a b c : Nat) : FSpec Tryz.prog 149 [V a b c] (.tup [iA (axI a b c), bA (axO a b c)]) := by
  refine sp V6_ok Tryz.func149 (by kernel_rfl) (by kernel_rfl) rfl ((show ev Tryz.prog V6 [] noL Tryz.f149 [V a b c] ret = axT a b c by kernel_rfl).trans ?_)
  unfold axT axI axO axR
  cases neZ a <;> cases neZ b <;> cases neZ c <;> rfl
theorem scube (a b c R : Nat) : FSpec Tryz.prog 130 [V a b c, .f R] (BX (ls [fsub a R, fsub b R, fsub c R, fadd a R, fadd b R, fadd c R])) := sp V6_ok Tryz.func130 (by kernel_rfl) (by kernel_rfl) rfl (by kernel_rfl)
def aroundS (a b c d e f : Nat) : Nat → Nat := joinS (ls [a, b, c, a, b, c]) (ls [d, e, f, d, e, f])
theorem saround (a b c d e f : Nat) : FSpec Tryz.prog 138 [V a b c, V d e f] (BX (aroundS a b c d e f)) := sp V6_ok Tryz.func138 (by kernel_rfl) (by kernel_rfl) rfl (by kernel_rfl)
section
variable (o d : Nat → Nat) (r : Nat)
end
def V7 : List Entry := ⟨148, eVI flG⟩ :: ⟨130, eVF fun a b c R => BX (ls [fsub a R, fsub b R, fsub c R, fadd a R, fadd b R, fadd c R])⟩ :: ⟨138, eVV fun a b c d e f => BX (aroundS a b c d e f)⟩ :: V6
theorem V7_ok : ∀ e, e ∈ V7 → EOk Tryz.prog e := e_cons eFlat_ok <| e_cons (eVF_ok scube) <| e_cons (eVV_ok saround) V6_ok
end Go.Proofs.YtngjiggplabfkaaGreat.Hs

namespace Go.Proofs.YtngjiggplabfkaaGreat.Hs
open Go.Gv
open Go.Ev (cn fadd fsub fmul fdiv fsqrt fneg feq flt fle fgt fge fabs)

/-- A shape: its kind, eleven floats, its skin. -/
abbrev SH (k : Int) (a : Nat → Nat) (sk : Int) : AV := .agg [iA k, .f (a 0), .f (a 1), .f (a 2), .f (a 3), .f (a 4), .f (a 5), .f (a 6), .f (a 7), .f (a 8), .f (a 9), .f (a 10), iA sk]
def eS (g : (Nat → Nat) → AV) : List AV → Option AV
  | [.agg [.x (.int .i64 _), .f a0, .f a1, .f a2, .f a3, .f a4, .f a5, .f a6, .f a7, .f a8, .f a9, .f a10, .x (.int .i64 _)]] => some (g (ls [a0, a1, a2, a3, a4, a5, a6, a7, a8, a9, a10]))
  | _ => none
theorem eS_ok {f : Nat} {g : (Nat → Nat) → AV} (h : ∀ k a sk, FSpec Tryz.prog f [SH k a sk] (g a)) : EOk Tryz.prog ⟨f, eS g⟩ := fun args r hr => by
  simp only [eS] at hr
  split at hr
  · cases hr; exact Or.inl (h _ (ls [_, _, _, _, _, _, _, _, _, _, _]) _)
  · cases hr
section
variable (k : Int) (a : Nat → Nat) (sk : Int) (r : Nat → Nat) (n f p q u : Nat)
def cubeB : Nat → Nat := ls [fsub (a 0) (a 9), fsub (a 1) (a 9), fsub (a 2) (a 9), fadd (a 0) (a 9), fadd (a 1) (a 9), fadd (a 2) (a 9)]
def blockB : Nat → Nat := ls [a 0, a 1, a 2, a 3, a 4, a 5]
def triB : Nat → Nat := joinS (aroundS (a 0) (a 1) (a 2) (a 3) (a 4) (a 5)) (ls [a 6, a 7, a 8, a 6, a 7, a 8])
theorem bball : FSpec Tryz.prog 126 [SH k a sk] (BX (cubeB a)) := sp V7_ok Tryz.func126 (by kernel_rfl) (by kernel_rfl) rfl (by kernel_rfl)
theorem bplate : FSpec Tryz.prog 139 [SH k a sk] (BX (cubeB a)) := sp V7_ok Tryz.func139 (by kernel_rfl) (by kernel_rfl) rfl (by kernel_rfl)
theorem bblock : FSpec Tryz.prog 131 [SH k a sk] (BX (blockB a)) := sp V7_ok Tryz.func131 (by kernel_rfl) (by kernel_rfl) rfl (by kernel_rfl)
theorem btri : FSpec Tryz.prog 135 [SH k a sk] (BX (triB a)) := sp V7_ok Tryz.func135 (by kernel_rfl) (by kernel_rfl) rfl (by kernel_rfl)
def ballM : Int := cond (!fgt (a 9) 0) 6 0
theorem mball : FSpec Tryz.prog 127 [SH k a sk] (iA (ballM a)) := by
  refine sp V7_ok Tryz.func127 (by kernel_rfl) (by kernel_rfl) rfl ((show ev Tryz.prog V7 [] noL Tryz.f127 [SH k a sk] ret = cond (!fgt (a 9) 0) (some (Out.of (iA 6))) (some (Out.of (iA 0))) by kernel_rfl).trans ?_)
  unfold ballM; cases fgt (a 9) 0 <;> rfl
def blockG : Bool := cond (cond (fgt (a 0) (a 3)) true (fgt (a 1) (a 4))) true (fgt (a 2) (a 5))
def blockM : Int := cond (blockG a) 6 0
theorem mblock : FSpec Tryz.prog 132 [SH k a sk] (iA (blockM a)) := by
  refine sp V7_ok Tryz.func132 (by kernel_rfl) (by kernel_rfl) rfl ((show ev Tryz.prog V7 [] noL Tryz.f132 [SH k a sk] ret = cond (blockG a) (some (Out.of (iA 6))) (some (Out.of (iA 0))) by kernel_rfl).trans ?_)
  unfold blockM; cases blockG a <;> rfl
def plateM : Int := cond (!fgt (a 9) 0) 6 (unE (a 3) (a 4) (a 5))
theorem mplate : FSpec Tryz.prog 140 [SH k a sk] (iA (plateM a)) := by
  refine sp V7_ok Tryz.func140 (by kernel_rfl) (by kernel_rfl) rfl ((show ev Tryz.prog V7 [] noL Tryz.f140 [SH k a sk] ret = cond (!fgt (a 9) 0) (some (Out.of (iA 6))) (some (Out.of (iA (unE (a 3) (a 4) (a 5))))) by kernel_rfl).trans ?_)
  unfold plateM; cases fgt (a 9) 0 <;> rfl
def V8 : List Entry := ⟨149, eV fun a b c => .tup [iA (axI a b c), bA (axO a b c)]⟩ :: V7
theorem V8_ok : ∀ e, e ∈ V8 → EOk Tryz.prog e := e_cons (eV_ok saxis) V7_ok
def tubeM : Int := cond (cond (!axO (a 3) (a 4) (a 5)) true (!fgt (a 9) 0)) 6 0
theorem mtube : FSpec Tryz.prog 145 [SH k a sk] (iA (tubeM a)) := by
  refine sp V8_ok Tryz.func145 (by kernel_rfl) (by kernel_rfl) rfl ((show ev Tryz.prog V8 [] noL Tryz.f145 [SH k a sk] ret = cond (cond (!axO (a 3) (a 4) (a 5)) true (!fgt (a 9) 0)) (some (Out.of (iA 6))) (some (Out.of (iA 0))) by kernel_rfl).trans ?_)
  unfold tubeM; cases cond (!axO (a 3) (a 4) (a 5)) true (!fgt (a 9) 0) <;> rfl
def ringM : Int := cond (cond (!axO (a 3) (a 4) (a 5)) true (!(cond (fgt (a 10) 0) (fge (a 9) (a 10)) false))) 6 0
theorem mring : FSpec Tryz.prog 154 [SH k a sk] (iA (ringM a)) := by
  refine sp V8_ok Tryz.func154 (by kernel_rfl) (by kernel_rfl) rfl ((show ev Tryz.prog V8 [] noL Tryz.f154 [SH k a sk] ret = cond (cond (!axO (a 3) (a 4) (a 5)) true (!(cond (fgt (a 10) 0) (fge (a 9) (a 10)) false))) (some (Out.of (iA 6))) (some (Out.of (iA 0))) by kernel_rfl).trans ?_)
  unfold ringM; cases cond (!axO (a 3) (a 4) (a 5)) true (!(cond (fgt (a 10) 0) (fge (a 9) (a 10)) false)) <;> rfl
def V9 : List Entry := V8
theorem V9_ok : ∀ e, e ∈ V9 → EOk Tryz.prog e := V8_ok
end
end Go.Proofs.YtngjiggplabfkaaGreat.Hs

namespace Go.Proofs.YtngjiggplabfkaaGreat.Hs
open Go.Gv
open Go.Ev (cn fadd fsub fmul fdiv fsqrt fneg feq flt fle fgt fge fabs)

section
end
section
end
section
end
section
end
end Go.Proofs.YtngjiggplabfkaaGreat.Hs

namespace Go.Proofs.YtngjiggplabfkaaGreat.Hs
open Go.Gv
open Go.Ev (cn fadd fsub fmul fdiv fsqrt fneg feq flt fle fgt fge fabs)

/-- Nought at an axis. -/
def fl3 (z i x : Nat) : Nat := cond (Nat.beq i z) 0 x
/-- The one axis of a vector. -/
def zB (a : Nat → Nat) : Nat := cond (neZ (a 5)) 2 (cond (neZ (a 4)) 1 0)
theorem axI_z (a : Nat → Nat) : axI (a 3) (a 4) (a 5) = (zB a : Nat) := by
  unfold axI zB
  cases neZ (a 5) <;> cases neZ (a 4) <;> cases neZ (a 3) <;> rfl
theorem zB_lt (a : Nat → Nat) : zB a = 0 ∨ zB a = 1 ∨ zB a = 2 := by
  unfold zB
  cases neZ (a 5) <;> cases neZ (a 4) <;> simp
section
variable (k : Int) (a : Nat → Nat) (sk : Int) (r : Nat → Nat) (n f p q u z : Nat)
theorem atube : FSpec Tryz.prog 143 [SH k a sk] (iA (zB a : Nat)) := by
  rw [← axI_z]
  exact sp V8_ok Tryz.func143 (by kernel_rfl) (by kernel_rfl) rfl (by kernel_rfl)
theorem aring : FSpec Tryz.prog 152 [SH k a sk] (iA (zB a : Nat)) := by
  rw [← axI_z]
  exact sp V8_ok Tryz.func152 (by kernel_rfl) (by kernel_rfl) rfl (by kernel_rfl)
noncomputable def tuK (z : Nat) : KEntry := kS Tryz.prog 143 fun _ => iA (z : Nat)
noncomputable def riK (z : Nat) : KEntry := kS Tryz.prog 152 fun _ => iA (z : Nat)
noncomputable def gTu (o : Option Out) : Option Out := gate (FSpec Tryz.prog 143 [SH k a sk] (iA (z : Nat))) o
noncomputable def gRi (o : Option Out) : Option Out := gate (FSpec Tryz.prog 152 [SH k a sk] (iA (z : Nat))) o
def tuE : Nat → Nat := aroundS (a 0) (a 1) (a 2) (fadd (a 0) (a 3)) (fadd (a 1) (a 4)) (fadd (a 2) (a 5))
def tubeB : Nat → Nat := ls [fsub (tuE a 0) (fl3 z 0 (a 9)), fsub (tuE a 1) (fl3 z 1 (a 9)), fsub (tuE a 2) (fl3 z 2 (a 9)), fadd (tuE a 3) (fl3 z 0 (a 9)), fadd (tuE a 4) (fl3 z 1 (a 9)), fadd (tuE a 5) (fl3 z 2 (a 9))]
def riA (i : Nat) : Nat := fadd (fl3 z i (a 9)) (a 10)
def ringB : Nat → Nat := ls [fsub (a 0) (riA a z 0), fsub (a 1) (riA a z 1), fsub (a 2) (riA a z 2), fadd (a 0) (riA a z 0), fadd (a 1) (riA a z 1), fadd (a 2) (riA a z 2)]
theorem btube_ev0 : ev Tryz.prog V8 [tuK 0] noL Tryz.f144 [SH k a sk] ret = gTu k a sk 0 (some (Out.of (BX (tubeB a 0)))) := by kernel_rfl
theorem btube_ev1 : ev Tryz.prog V8 [tuK 1] noL Tryz.f144 [SH k a sk] ret = gTu k a sk 1 (some (Out.of (BX (tubeB a 1)))) := by kernel_rfl
theorem btube_ev2 : ev Tryz.prog V8 [tuK 2] noL Tryz.f144 [SH k a sk] ret = gTu k a sk 2 (some (Out.of (BX (tubeB a 2)))) := by kernel_rfl
theorem bring_ev0 : ev Tryz.prog V8 [riK 0] noL Tryz.f153 [SH k a sk] ret = gRi k a sk 0 (some (Out.of (BX (ringB a 0)))) := by kernel_rfl
theorem bring_ev1 : ev Tryz.prog V8 [riK 1] noL Tryz.f153 [SH k a sk] ret = gRi k a sk 1 (some (Out.of (BX (ringB a 1)))) := by kernel_rfl
theorem bring_ev2 : ev Tryz.prog V8 [riK 2] noL Tryz.f153 [SH k a sk] ret = gRi k a sk 2 (some (Out.of (BX (ringB a 2)))) := by kernel_rfl
theorem gTu_pos {z : Nat} {o : Option Out} (h : zB a = z) : gTu k a sk z o = o := gate_pos (by rw [← h]; exact atube k a sk)
theorem gRi_pos {z : Nat} {o : Option Out} (h : zB a = z) : gRi k a sk z o = o := gate_pos (by rw [← h]; exact aring k a sk)
theorem btube : FSpec Tryz.prog 144 [SH k a sk] (BX (tubeB a (zB a))) := by
  rcases zB_lt a with h | h | h
  · rw [h]; exact gspec V8_ok (k_cons kS_ok k_nil) Tryz.func144 (by kernel_rfl) (by kernel_rfl) noL_ok rfl ((btube_ev0 k a sk).trans (gTu_pos k a sk h))
  · rw [h]; exact gspec V8_ok (k_cons kS_ok k_nil) Tryz.func144 (by kernel_rfl) (by kernel_rfl) noL_ok rfl ((btube_ev1 k a sk).trans (gTu_pos k a sk h))
  · rw [h]; exact gspec V8_ok (k_cons kS_ok k_nil) Tryz.func144 (by kernel_rfl) (by kernel_rfl) noL_ok rfl ((btube_ev2 k a sk).trans (gTu_pos k a sk h))
theorem bring : FSpec Tryz.prog 153 [SH k a sk] (BX (ringB a (zB a))) := by
  rcases zB_lt a with h | h | h
  · rw [h]; exact gspec V8_ok (k_cons kS_ok k_nil) Tryz.func153 (by kernel_rfl) (by kernel_rfl) noL_ok rfl ((bring_ev0 k a sk).trans (gRi_pos k a sk h))
  · rw [h]; exact gspec V8_ok (k_cons kS_ok k_nil) Tryz.func153 (by kernel_rfl) (by kernel_rfl) noL_ok rfl ((bring_ev1 k a sk).trans (gRi_pos k a sk h))
  · rw [h]; exact gspec V8_ok (k_cons kS_ok k_nil) Tryz.func153 (by kernel_rfl) (by kernel_rfl) noL_ok rfl ((bring_ev2 k a sk).trans (gRi_pos k a sk h))
def X0 : List Entry := V9
theorem X0_ok : ∀ e, e ∈ X0 → EOk Tryz.prog e := V9_ok
end
end Go.Proofs.YtngjiggplabfkaaGreat.Hs

namespace Go.Proofs.YtngjiggplabfkaaGreat.Hs
open Go.Gv
open Go.Ev (cn fadd fsub fmul fdiv fsqrt fneg feq flt fle fgt fge fabs)

def eKd : List AV → Option AV
  | [.agg [.x (.int .i64 k), .f a0, .f a1, .f a2, .f a3, .f a4, .f a5, .f a6, .f a7, .f a8, .f a9, .f a10, .x (.int .i64 sk)]] => cond (k == 1) (some (.ifc 139 (.agg [.x (.int .i64 k), .f a0, .f a1, .f a2, .f a3, .f a4, .f a5, .f a6, .f a7, .f a8, .f a9, .f a10, .x (.int .i64 sk)]))) (cond (k == 2) (some (.ifc 140 (.agg [.x (.int .i64 k), .f a0, .f a1, .f a2, .f a3, .f a4, .f a5, .f a6, .f a7, .f a8, .f a9, .f a10, .x (.int .i64 sk)]))) (cond (k == 3) (some (.ifc 141 (.agg [.x (.int .i64 k), .f a0, .f a1, .f a2, .f a3, .f a4, .f a5, .f a6, .f a7, .f a8, .f a9, .f a10, .x (.int .i64 sk)]))) (cond (k == 4) (some (.ifc 142 (.agg [.x (.int .i64 k), .f a0, .f a1, .f a2, .f a3, .f a4, .f a5, .f a6, .f a7, .f a8, .f a9, .f a10, .x (.int .i64 sk)]))) (cond (k == 5) (some (.ifc 143 (.agg [.x (.int .i64 k), .f a0, .f a1, .f a2, .f a3, .f a4, .f a5, .f a6, .f a7, .f a8, .f a9, .f a10, .x (.int .i64 sk)]))) (cond (k == 6) (some (.ifc 144 (.agg [.x (.int .i64 k), .f a0, .f a1, .f a2, .f a3, .f a4, .f a5, .f a6, .f a7, .f a8, .f a9, .f a10, .x (.int .i64 sk)]))) (none))))))
  | _ => none
theorem kd_ev (k : Int) (a : Nat → Nat) (sk : Int) : ev Tryz.prog [] [] noL Tryz.f98 [SH k a sk] ret = cond (k == 1) (some (Out.of (.ifc 139 (SH k a sk)))) (cond (k == 2) (some (Out.of (.ifc 140 (SH k a sk)))) (cond (k == 3) (some (Out.of (.ifc 141 (SH k a sk)))) (cond (k == 4) (some (Out.of (.ifc 142 (SH k a sk)))) (cond (k == 5) (some (Out.of (.ifc 143 (SH k a sk)))) (cond (k == 6) (some (Out.of (.ifc 144 (SH k a sk)))) (some (Out.of (.x .nilIface)))))))) := by kernel_rfl
theorem eKd_ok : EOk Tryz.prog ⟨98, eKd⟩ := fun args r hr => by
  simp only [eKd] at hr
  split at hr
  · rename_i k a0 a1 a2 a3 a4 a5 a6 a7 a8 a9 a10 sk
    refine Or.inl (sp e_nil Tryz.func98 (by kernel_rfl) (by kernel_rfl) rfl ((kd_ev k (ls [a0, a1, a2, a3, a4, a5, a6, a7, a8, a9, a10]) sk).trans ?_))
    cases h1 : k == 1
    case true => rw [h1] at hr; cases hr; rfl
    case false =>
    cases h2 : k == 2
    case true => rw [h1, h2] at hr; cases hr; rfl
    case false =>
    cases h3 : k == 3
    case true => rw [h1, h2, h3] at hr; cases hr; rfl
    case false =>
    cases h4 : k == 4
    case true => rw [h1, h2, h3, h4] at hr; cases hr; rfl
    case false =>
    cases h5 : k == 5
    case true => rw [h1, h2, h3, h4, h5] at hr; cases hr; rfl
    case false =>
    cases h6 : k == 6
    case true => rw [h1, h2, h3, h4, h5, h6] at hr; cases hr; rfl
    case false =>
    rw [h1, h2, h3, h4, h5, h6] at hr; cases hr
  · cases hr
def skB (sk : Int) : Bool := cond (decide (sk < 0)) true (decide (sk ≥ 16))
def rcB (a : Nat → Nat) : Bool := cond (cond (cond (cond (!fineS (a 0) (a 1) (a 2)) true (!fineS (a 3) (a 4) (a 5))) true (!fineS (a 6) (a 7) (a 8))) true (!nearS (a 9))) true (!nearS (a 10))
def kbad (e : Int) : Option Out := some (Out.of (.tup [.x .nilIface, iA e]))
def kgood (T : Nat) (v : AV) : Option Out := some (Out.of (.tup [.ifc T v, iA 0]))
def knX (a : Nat → Nat) (sk m : Int) (b : Nat → Nat) (o : Option Out) : Option Out := cond (skB sk) (kbad 4) (cond (rcB a) (kbad 1) (cond (!(m == 0)) (kbad m) (cond (!(mayS b == 0)) (kbad 1) o)))
/-- The errno of what asks for m and has the box b. -/
def knE (a : Nat → Nat) (sk m : Int) (b : Nat → Nat) : Int := cond (skB sk) 4 (cond (rcB a) 1 (cond (!(m == 0)) m (cond (!(mayS b == 0)) 1 0)))
theorem knX_good {a : Nat → Nat} {sk m : Int} {b : Nat → Nat} {o : Option Out} (h : knE a sk m b = 0) : knX a sk m b o = o := by
  unfold knE at h
  unfold knX
  cases h1 : skB sk
  · rw [h1] at h
    cases h2 : rcB a
    · rw [h2] at h
      cases h3 : (m == 0)
      · rw [h3] at h
        have h : m = 0 := h
        rw [h] at h3; cases h3
      · rw [h3] at h
        cases h4 : (mayS b == 0)
        · rw [h4] at h; cases h
        · rfl
    · rw [h2] at h; cases h
  · rw [h1] at h; cases h
theorem knX_bad {a : Nat → Nat} {sk m : Int} {b : Nat → Nat} {o : Option Out} (h : knE a sk m b ≠ 0) : knX a sk m b o = kbad (knE a sk m b) := by
  unfold knE at h ⊢
  unfold knX
  cases h1 : skB sk
  · cases h2 : rcB a
    · cases h3 : (m == 0)
      · rfl
      · cases h4 : (mayS b == 0)
        · rfl
        · rw [h1, h2, h3, h4] at h
          exact absurd rfl h
    · rfl
  · rfl
def X1 : List Entry := ⟨98, eKd⟩ :: ⟨127, eS fun a => iA (ballM a)⟩ :: ⟨126, eS fun a => BX (cubeB a)⟩ :: ⟨132, eS fun a => iA (blockM a)⟩ :: ⟨131, eS fun a => BX (blockB a)⟩ :: ⟨135, eS fun a => BX (triB a)⟩ :: ⟨140, eS fun a => iA (plateM a)⟩ :: ⟨139, eS fun a => BX (cubeB a)⟩ :: ⟨145, eS fun a => iA (tubeM a)⟩ :: ⟨144, eS fun a => BX (tubeB a (zB a))⟩ :: ⟨154, eS fun a => iA (ringM a)⟩ :: ⟨153, eS fun a => BX (ringB a (zB a))⟩ ::  X0
theorem X1_ok : ∀ e, e ∈ X1 → EOk Tryz.prog e := e_cons eKd_ok <| e_cons (eS_ok mball) <| e_cons (eS_ok bball) <| e_cons (eS_ok mblock) <| e_cons (eS_ok bblock) <| e_cons (eS_ok btri) <| e_cons (eS_ok mplate) <| e_cons (eS_ok bplate) <| e_cons (eS_ok mtube) <| e_cons (eS_ok btube) <| e_cons (eS_ok mring) <| e_cons (eS_ok bring) X0_ok
section
variable (a : Nat → Nat) (sk : Int)
theorem kn1_ev : ev Tryz.prog X1 [] noL Tryz.f84 [SH 1 a sk] ret = knX a sk (ballM a) (cubeB a) (kgood 139 (SH 1 a sk)) := by kernel_rfl
def e1 : Int := knE a sk (ballM a) (cubeB a)
theorem kn1_good (h : e1 a sk = 0) : FSpec Tryz.prog 84 [SH 1 a sk] (.tup [.ifc 139 (SH 1 a sk), iA 0]) := sp X1_ok Tryz.func84 (by kernel_rfl) (by kernel_rfl) rfl ((kn1_ev a sk).trans (knX_good (m := ballM a) (b := cubeB a) h))
theorem kn1_bad (h : e1 a sk ≠ 0) : FSpec Tryz.prog 84 [SH 1 a sk] (.tup [.x .nilIface, iA (e1 a sk)]) := sp X1_ok Tryz.func84 (by kernel_rfl) (by kernel_rfl) rfl ((kn1_ev a sk).trans (knX_bad (m := ballM a) (b := cubeB a) (o := kgood 139 (SH 1 a sk)) h))
theorem kn2_ev : ev Tryz.prog X1 [] noL Tryz.f84 [SH 2 a sk] ret = knX a sk (blockM a) (blockB a) (kgood 140 (SH 2 a sk)) := by kernel_rfl
def e2 : Int := knE a sk (blockM a) (blockB a)
theorem kn2_good (h : e2 a sk = 0) : FSpec Tryz.prog 84 [SH 2 a sk] (.tup [.ifc 140 (SH 2 a sk), iA 0]) := sp X1_ok Tryz.func84 (by kernel_rfl) (by kernel_rfl) rfl ((kn2_ev a sk).trans (knX_good (m := blockM a) (b := blockB a) h))
theorem kn2_bad (h : e2 a sk ≠ 0) : FSpec Tryz.prog 84 [SH 2 a sk] (.tup [.x .nilIface, iA (e2 a sk)]) := sp X1_ok Tryz.func84 (by kernel_rfl) (by kernel_rfl) rfl ((kn2_ev a sk).trans (knX_bad (m := blockM a) (b := blockB a) (o := kgood 140 (SH 2 a sk)) h))
theorem kn3_ev : ev Tryz.prog X1 [] noL Tryz.f84 [SH 3 a sk] ret = cond (skB sk) (kbad 4) (cond (rcB a) (kbad 1) (cond (!(mayS (triB a) == 0)) (kbad 1) (kgood 141 (SH 3 a sk)))) := by kernel_rfl
def e3 : Int := knE a sk (0) (triB a)
theorem kn3_good (h : e3 a sk = 0) : FSpec Tryz.prog 84 [SH 3 a sk] (.tup [.ifc 141 (SH 3 a sk), iA 0]) := sp X1_ok Tryz.func84 (by kernel_rfl) (by kernel_rfl) rfl ((kn3_ev a sk).trans (knX_good (m := 0) (b := triB a) h))
theorem kn3_bad (h : e3 a sk ≠ 0) : FSpec Tryz.prog 84 [SH 3 a sk] (.tup [.x .nilIface, iA (e3 a sk)]) := sp X1_ok Tryz.func84 (by kernel_rfl) (by kernel_rfl) rfl ((kn3_ev a sk).trans (knX_bad (m := 0) (b := triB a) (o := kgood 141 (SH 3 a sk)) h))
theorem kn4_ev : ev Tryz.prog X1 [] noL Tryz.f84 [SH 4 a sk] ret = knX a sk (plateM a) (cubeB a) (kgood 142 (SH 4 a sk)) := by kernel_rfl
def e4 : Int := knE a sk (plateM a) (cubeB a)
theorem kn4_good (h : e4 a sk = 0) : FSpec Tryz.prog 84 [SH 4 a sk] (.tup [.ifc 142 (SH 4 a sk), iA 0]) := sp X1_ok Tryz.func84 (by kernel_rfl) (by kernel_rfl) rfl ((kn4_ev a sk).trans (knX_good (m := plateM a) (b := cubeB a) h))
theorem kn4_bad (h : e4 a sk ≠ 0) : FSpec Tryz.prog 84 [SH 4 a sk] (.tup [.x .nilIface, iA (e4 a sk)]) := sp X1_ok Tryz.func84 (by kernel_rfl) (by kernel_rfl) rfl ((kn4_ev a sk).trans (knX_bad (m := plateM a) (b := cubeB a) (o := kgood 142 (SH 4 a sk)) h))
theorem kn5_ev : ev Tryz.prog X1 [] noL Tryz.f84 [SH 5 a sk] ret = knX a sk (tubeM a) (tubeB a (zB a)) (kgood 143 (SH 5 a sk)) := by kernel_rfl
def e5 : Int := knE a sk (tubeM a) (tubeB a (zB a))
theorem kn5_good (h : e5 a sk = 0) : FSpec Tryz.prog 84 [SH 5 a sk] (.tup [.ifc 143 (SH 5 a sk), iA 0]) := sp X1_ok Tryz.func84 (by kernel_rfl) (by kernel_rfl) rfl ((kn5_ev a sk).trans (knX_good (m := tubeM a) (b := tubeB a (zB a)) h))
theorem kn5_bad (h : e5 a sk ≠ 0) : FSpec Tryz.prog 84 [SH 5 a sk] (.tup [.x .nilIface, iA (e5 a sk)]) := sp X1_ok Tryz.func84 (by kernel_rfl) (by kernel_rfl) rfl ((kn5_ev a sk).trans (knX_bad (m := tubeM a) (b := tubeB a (zB a)) (o := kgood 143 (SH 5 a sk)) h))
theorem kn6_ev : ev Tryz.prog X1 [] noL Tryz.f84 [SH 6 a sk] ret = knX a sk (ringM a) (ringB a (zB a)) (kgood 144 (SH 6 a sk)) := by kernel_rfl
def e6 : Int := knE a sk (ringM a) (ringB a (zB a))
theorem kn6_good (h : e6 a sk = 0) : FSpec Tryz.prog 84 [SH 6 a sk] (.tup [.ifc 144 (SH 6 a sk), iA 0]) := sp X1_ok Tryz.func84 (by kernel_rfl) (by kernel_rfl) rfl ((kn6_ev a sk).trans (knX_good (m := ringM a) (b := ringB a (zB a)) h))
theorem kn6_bad (h : e6 a sk ≠ 0) : FSpec Tryz.prog 84 [SH 6 a sk] (.tup [.x .nilIface, iA (e6 a sk)]) := sp X1_ok Tryz.func84 (by kernel_rfl) (by kernel_rfl) rfl ((kn6_ev a sk).trans (knX_bad (m := ringM a) (b := ringB a (zB a)) (o := kgood 144 (SH 6 a sk)) h))
end
/-- A kind that there is none of. -/
def kOther (k : Int) : Prop := k ≠ 1 ∧ k ≠ 2 ∧ k ≠ 3 ∧ k ≠ 4 ∧ k ≠ 5 ∧ k ≠ 6
def e0 (a : Nat → Nat) (sk : Int) : Int := cond (skB sk) 4 (cond (rcB a) 1 3)
theorem kd0 {k : Int} (h : kOther k) (a : Nat → Nat) (sk : Int) : FSpec Tryz.prog 98 [SH k a sk] (.x .nilIface) := by
  obtain ⟨h1, h2, h3, h4, h5, h6⟩ := h
  refine sp e_nil Tryz.func98 (by kernel_rfl) (by kernel_rfl) rfl ((kd_ev k a sk).trans ?_)
  rw [beq_false_of_ne h1, beq_false_of_ne h2, beq_false_of_ne h3, beq_false_of_ne h4, beq_false_of_ne h5, beq_false_of_ne h6]
  rfl
theorem kn0_ev (k : Int) (a : Nat → Nat) (sk : Int) : ev Tryz.prog X0 [kS Tryz.prog 98 fun _ => .x .nilIface] noL Tryz.f84 [SH k a sk] ret = cond (skB sk) (kbad 4) (cond (rcB a) (kbad 1) (gate (FSpec Tryz.prog 98 [SH k a sk] (.x .nilIface)) (kbad 3))) := by kernel_rfl
theorem kn0_bad {k : Int} (h : kOther k) (a : Nat → Nat) (sk : Int) : FSpec Tryz.prog 84 [SH k a sk] (.tup [.x .nilIface, iA (e0 a sk)]) := by
  refine gspec X0_ok (k_cons kS_ok k_nil) Tryz.func84 (by kernel_rfl) (by kernel_rfl) noL_ok rfl ((kn0_ev k a sk).trans ?_)
  rw [gate_pos (kd0 h a sk)]
  unfold e0
  cases skB sk <;> cases rcB a <;> rfl
end Go.Proofs.YtngjiggplabfkaaGreat.Hs

namespace Go.Proofs.YtngjiggplabfkaaGreat.Hs
open Go.Gv
open Go.Ev (cn fadd fsub fmul fdiv fsqrt fneg feq flt fle fgt fge fabs isNan cn_of_not)

def X2 : List Entry := X1
theorem X2_ok : ∀ e, e ∈ X2 → EOk Tryz.prog e := X1_ok
section
variable (k : Int) (a : Nat → Nat) (sk : Int) (p q u : Nat)
variable (z : Nat)
end
end Go.Proofs.YtngjiggplabfkaaGreat.Hs

namespace Go.Proofs.YtngjiggplabfkaaGreat.Hs
open Go.Gv
open Go.Ev (cn fadd fsub fmul fdiv fsqrt fneg feq flt fle fgt fge fabs)

section
variable (k : Int) (a : Nat → Nat) (sk : Int) (r : Nat → Nat) (e : Int) (T : Nat) (p q u : Nat)
abbrev KNb : Prop := FSpec Tryz.prog 84 [SH k a sk] (.tup [.x .nilIface, iA e])
abbrev KNg : Prop := FSpec Tryz.prog 84 [SH k a sk] (.tup [.ifc T (SH k a sk), iA 0])
noncomputable def kK (x : AV) (e : Int) : KEntry := kS Tryz.prog 84 fun _ => .tup [x, iA e]
theorem may_evb : ev Tryz.prog X2 [kK (.x .nilIface) e] noL Tryz.f62 [SH k a sk] ret = gate (KNb k a sk e) (some (Out.of (iA e))) := by kernel_rfl
theorem may_evg : ev Tryz.prog X2 [kK (.ifc T (SH k a sk)) 0] noL Tryz.f62 [SH k a sk] ret = gate (KNg k a sk T) (some (Out.of (iA 0))) := by kernel_rfl
theorem may_b {k : Int} {a : Nat → Nat} {sk e : Int} (h : KNb k a sk e) : FSpec Tryz.prog 62 [SH k a sk] (iA e) := gspec X2_ok (k_cons kS_ok k_nil) Tryz.func62 (by kernel_rfl) (by kernel_rfl) noL_ok rfl ((may_evb k a sk e).trans (gate_pos h))
theorem may_g {k : Int} {a : Nat → Nat} {sk : Int} {T : Nat} (h : KNg k a sk T) : FSpec Tryz.prog 62 [SH k a sk] (iA 0) := gspec X2_ok (k_cons kS_ok k_nil) Tryz.func62 (by kernel_rfl) (by kernel_rfl) noL_ok rfl ((may_evg k a sk T).trans (gate_pos h))
def z6 : Nat → Nat := fun _ => 0
end
end Go.Proofs.YtngjiggplabfkaaGreat.Hs

namespace Go.Proofs.YtngjiggplabfkaaGreat.Hs
open Go.Gv
open Go.Ev (cn fadd fsub fmul fdiv fsqrt fneg feq flt fle fgt fge fabs)

section
end
end Go.Proofs.YtngjiggplabfkaaGreat.Hs

namespace Go.Proofs.YtngjiggplabfkaaGreat.Hs
open Go.Gv
open Go.Ev (cn fadd fsub fmul fdiv fsqrt fneg feq flt fle fgt fge fabs)

/-- Three floats in a row. -/
def fOf : List AV → Nat
  | [.f x] => x
  | _ => 0
theorem of_ev (g : Nat → Nat) : ev Tryz.prog [] [] noL Tryz.f97 [.sl 1 3 fun i => [.f (g i)]] ret = some (Out.of (V (g 0) (g 1) (g 2))) := by kernel_rfl
theorem rof (g : Nat → Nat) : FSpec Tryz.prog 97 [.sl 1 3 fun i => [.f (g i)]] (V (g 0) (g 1) (g 2)) := sp e_nil Tryz.func97 (by kernel_rfl) (by kernel_rfl) rfl (of_ev g)
def ofG : List AV → AV
  | [.sl _ _ el] => V (fOf (el 0)) (fOf (el 1)) (fOf (el 2))
  | _ => .any
def pE (a b c x k : Nat) : Nat → List AV := fun i => mixL ((0 + i) == k) [.f x] (chunk [.f a, .f b, .f c] 1 (0 + i))
theorem of_put {a b c x k : Nat} (g : Nat → Nat) (h : ∀ i, i < 3 → pE a b c x k i = [.f (g i)]) : FSpec Tryz.prog 97 [.sl 1 3 (pE a b c x k)] (V (g 0) (g 1) (g 2)) := by
  refine FSpec.of_args (rof g) fun E vs hv => ?_
  obtain ⟨v, ws, rfl, h1, h2⟩ := rels_cons.1 hv
  exact rels_cons.2 ⟨v, ws, rfl, sl_like h1 fun i hi => (h i hi).symm, h2⟩
section
variable (a b c x : Nat)
noncomputable def ptO (k : Nat) (v : AV) : Option Out := gate (FSpec Tryz.prog 97 [.sl 1 3 (pE a b c x k)] v) (some (Out.of v))
theorem put_ev0 : ev Tryz.prog [] [kS Tryz.prog 97 ofG] noL Tryz.f80 [V a b c, iA 0, .f x] ret = ptO a b c x 0 (V x b c) := by kernel_rfl
theorem put_ev1 : ev Tryz.prog [] [kS Tryz.prog 97 ofG] noL Tryz.f80 [V a b c, iA 1, .f x] ret = ptO a b c x 1 (V a x c) := by kernel_rfl
theorem put_ev2 : ev Tryz.prog [] [kS Tryz.prog 97 ofG] noL Tryz.f80 [V a b c, iA 2, .f x] ret = ptO a b c x 2 (V a b x) := by kernel_rfl
theorem rput0 : FSpec Tryz.prog 80 [V a b c, iA 0, .f x] (V x b c) := gspec e_nil (k_cons kS_ok k_nil) Tryz.func80 (by kernel_rfl) (by kernel_rfl) noL_ok rfl ((put_ev0 a b c x).trans (gate_pos (of_put (ls [x, b, c]) fun i hi => (by match i, hi with | 0, _ => rfl | 1, _ => rfl | 2, _ => rfl))))
theorem rput1 : FSpec Tryz.prog 80 [V a b c, iA 1, .f x] (V a x c) := gspec e_nil (k_cons kS_ok k_nil) Tryz.func80 (by kernel_rfl) (by kernel_rfl) noL_ok rfl ((put_ev1 a b c x).trans (gate_pos (of_put (ls [a, x, c]) fun i hi => (by match i, hi with | 0, _ => rfl | 1, _ => rfl | 2, _ => rfl))))
theorem rput2 : FSpec Tryz.prog 80 [V a b c, iA 2, .f x] (V a b x) := gspec e_nil (k_cons kS_ok k_nil) Tryz.func80 (by kernel_rfl) (by kernel_rfl) noL_ok rfl ((put_ev2 a b c x).trans (gate_pos (of_put (ls [a, b, x]) fun i hi => (by match i, hi with | 0, _ => rfl | 1, _ => rfl | 2, _ => rfl))))
end
def ePut : List AV → Option AV
  | [.agg [.f a, .f b, .f c], .x (.int .i64 k), .f x] => cond (k == 0) (some (V x b c)) (cond (k == 1) (some (V a x c)) (cond (k == 2) (some (V a b x)) none))
  | _ => none
theorem ePut_ok : EOk Tryz.prog ⟨80, ePut⟩ := fun args r hr => by
  simp only [ePut] at hr
  split at hr
  · rename_i a b c k x
    cases h0 : k == 0
    · rw [h0] at hr
      cases h1 : k == 1
      · rw [h1] at hr
        cases h2 : k == 2
        · rw [h2] at hr; cases hr
        · rw [h2] at hr; cases hr; rw [eq_of_beq h2]; exact Or.inl (rput2 a b c x)
      · rw [h1] at hr; cases hr; rw [eq_of_beq h1]; exact Or.inl (rput1 a b c x)
    · rw [h0] at hr; cases hr; rw [eq_of_beq h0]; exact Or.inl (rput0 a b c x)
  · cases hr
def aiR (k : Int) : Option Out := some (Out.of (iA k))
def aiT (a b c : Nat) : Option Out := cond (neZ a) (cond (neZ b) (cond (neZ c) (aiR (-1)) (aiR (-1))) (cond (neZ c) (aiR (-1)) (aiR 0))) (cond (neZ b) (cond (neZ c) (aiR (-1)) (aiR 1)) (cond (neZ c) (aiR 2) (aiR (-1))))
/-- The one axis, or -1. -/
def aiS (a b c : Nat) : Int := cond (axO a b c) (axI a b c) (-1)
theorem raxisOf (a b c : Nat) : FSpec Tryz.prog 73 [V a b c] (iA (aiS a b c)) := by
  refine sp R3_ok Tryz.func73 (by kernel_rfl) (by kernel_rfl) rfl ((show ev Tryz.prog R3 [] noL Tryz.f73 [V a b c] ret = aiT a b c by kernel_rfl).trans ?_)
  unfold aiT aiS axO axI aiR
  cases neZ a <;> cases neZ b <;> cases neZ c <;> rfl
theorem raxisZ {a : Nat → Nat} (h : axO (a 3) (a 4) (a 5) = true) : FSpec Tryz.prog 73 [V (a 3) (a 4) (a 5)] (iA (zB a : Nat)) := by
  have := raxisOf (a 3) (a 4) (a 5)
  unfold aiS at this
  rw [h, cond_true, axI_z] at this
  exact this
section
variable (o d : Nat → Nat) (r : Nat)
end
def noughtB (a b c : Nat) : Bool := cond (cond (feq a 0) (feq b 0) false) (feq c 0) false
theorem rnought (a b c : Nat) : FSpec Tryz.prog 81 [V a b c] (bA (noughtB a b c)) := sp e_nil Tryz.func81 (by kernel_rfl) (by kernel_rfl) rfl (by kernel_rfl)
def R4 : List Entry := ⟨80, ePut⟩ :: ⟨81, eV fun a b c => bA (noughtB a b c)⟩ :: R3
theorem R4_ok : ∀ e, e ∈ R4 → EOk Tryz.prog e := e_cons ePut_ok <| e_cons (eV_ok rnought) R3_ok
end Go.Proofs.YtngjiggplabfkaaGreat.Hs

namespace Go.Ev
open Ieee

theorem order_self {d : Datum} (h : d.isNaN = false) : d.order d = some .eq := by
  cases d with
  | number s m i => simp only [Datum.order]; simp
  | infinity s => simp [Datum.order]
  | nan s f => simp [Datum.isNaN] at h

theorem feq_self (x : Nat) : feq x x = !isNan x := by
  unfold feq
  cases h : isNan x
  · have : double.order x x = some .eq := order_self h
    rw [this]; rfl
  · have : double.order x x = none := order_nan_left h
    rw [this]; rfl

end Go.Ev

namespace Go.Ev
open Ieee
theorem datum_tot {d e : Datum} (hd : d.isNaN = false) (he : e.isNaN = false) : ∃ o, d.order e = some o := by
  cases d with
  | nan s f => simp [Datum.isNaN] at hd
  | infinity s =>
    cases e with
    | nan s f => simp [Datum.isNaN] at he
    | infinity t => cases s <;> cases t <;> exact ⟨_, rfl⟩
    | number t m i => cases s <;> exact ⟨_, rfl⟩
  | number s m i =>
    cases e with
    | nan s f => simp [Datum.isNaN] at he
    | infinity t => cases t <;> exact ⟨_, rfl⟩
    | number t n j => exact ⟨_, rfl⟩
theorem order_tot {x y : Nat} (hx : isNan x = false) (hy : isNan y = false) : ∃ o, double.order x y = some o := datum_tot hx hy
theorem fge_not {x y : Nat} (hx : isNan x = false) (hy : isNan y = false) : fge x y = !flt x y := by
  obtain ⟨o, h⟩ := order_tot hx hy
  unfold fge flt
  rw [h]
  cases o <;> rfl
theorem fle_not {x y : Nat} (hx : isNan x = false) (hy : isNan y = false) : fle x y = !fgt x y := by
  obtain ⟨o, h⟩ := order_tot hx hy
  unfold fle fgt
  rw [h]
  cases o <;> rfl
theorem nan_fge {x y : Nat} (h : fge x y = true) : isNan x = false ∧ isNan y = false := by
  unfold fge at h
  constructor
  · cases hx : isNan x
    · rfl
    · have e : double.order x y = none := order_nan_left hx
      rw [e] at h; cases h
  · cases hy : isNan y
    · rfl
    · have e : double.order x y = none := order_nan_right hy
      rw [e] at h; cases h
end Go.Ev
namespace Go.Proofs.YtngjiggplabfkaaGreat.Hs
open Go.Gv
open Go.Ev (cn fadd fsub fmul fdiv fsqrt fneg feq flt fle fgt fge fabs isNan fge_not fle_not nan_fge)

theorem near_nan {x : Nat} (h : nearS x = true) : isNan x = false := by
  unfold nearS at h
  cases h1 : fge x 13920209183539462144
  · rw [h1] at h; cases h
  · exact (nan_fge h1).1
theorem fine_near {a b c : Nat} (h : fineS a b c = true) : nearS a = true ∧ nearS b = true ∧ nearS c = true := by
  unfold fineS at h
  revert h
  cases nearS a <;> cases nearS b <;> cases nearS c <;> intro h <;> first | (cases h; done) | exact ⟨rfl, rfl, rfl⟩
theorem not_gt {x : Nat} (h : nearS x = true) : fle x 0 = !fgt x 0 := fle_not (near_nan h) (by decide +kernel)
section
variable (b r : Nat → Nat)
end
def R5 : List Entry := R4
theorem R5_ok : ∀ e, e ∈ R5 → EOk Tryz.prog e := R4_ok
end Go.Proofs.YtngjiggplabfkaaGreat.Hs

namespace Go.Proofs.YtngjiggplabfkaaGreat.Hs
open Go.Gv
open Go.Ev (cn fadd fsub fmul fdiv fsqrt fneg feq flt fle fgt fge fabs isNan fge_not fle_not)

section
variable (a : Nat → Nat) (sk : Int)
theorem ar1 : FSpec Tryz.prog 75 [SH 1 a sk] (BX (cubeB a)) := sp R5_ok Tryz.func75 (by kernel_rfl) (by kernel_rfl) rfl (by kernel_rfl)
theorem ar2 : FSpec Tryz.prog 75 [SH 2 a sk] (BX (blockB a)) := sp R5_ok Tryz.func75 (by kernel_rfl) (by kernel_rfl) rfl (by kernel_rfl)
theorem ar3 : FSpec Tryz.prog 75 [SH 3 a sk] (BX (triB a)) := sp R5_ok Tryz.func75 (by kernel_rfl) (by kernel_rfl) rfl (by kernel_rfl)
theorem ar4 : FSpec Tryz.prog 75 [SH 4 a sk] (BX (cubeB a)) := sp R5_ok Tryz.func75 (by kernel_rfl) (by kernel_rfl) rfl (by kernel_rfl)
noncomputable def axK (z : Nat) : KEntry := kS Tryz.prog 73 fun _ => iA (z : Nat)
noncomputable def gAx (z : Nat) (o : Option Out) : Option Out := gate (FSpec Tryz.prog 73 [V (a 3) (a 4) (a 5)] (iA (z : Nat))) o
theorem gAx_pos {z : Nat} {o : Option Out} (h : axO (a 3) (a 4) (a 5) = true) (hz : zB a = z) : gAx a z o = o := gate_pos (by rw [← hz]; exact raxisZ h)
theorem ar5_ev0 : ev Tryz.prog R5 [axK 0] noL Tryz.f75 [SH 5 a sk] ret = gAx a 0 (some (Out.of (BX (tubeB a 0)))) := by kernel_rfl
theorem ar5_ev1 : ev Tryz.prog R5 [axK 1] noL Tryz.f75 [SH 5 a sk] ret = gAx a 1 (some (Out.of (BX (tubeB a 1)))) := by kernel_rfl
theorem ar5_ev2 : ev Tryz.prog R5 [axK 2] noL Tryz.f75 [SH 5 a sk] ret = gAx a 2 (some (Out.of (BX (tubeB a 2)))) := by kernel_rfl
theorem ar5 (h : axO (a 3) (a 4) (a 5) = true) : FSpec Tryz.prog 75 [SH 5 a sk] (BX (tubeB a (zB a))) := by
  rcases zB_lt a with hz | hz | hz
  · rw [hz]; exact gspec R5_ok (k_cons kS_ok k_nil) Tryz.func75 (by kernel_rfl) (by kernel_rfl) noL_ok rfl ((ar5_ev0 a sk).trans (gAx_pos a h hz))
  · rw [hz]; exact gspec R5_ok (k_cons kS_ok k_nil) Tryz.func75 (by kernel_rfl) (by kernel_rfl) noL_ok rfl ((ar5_ev1 a sk).trans (gAx_pos a h hz))
  · rw [hz]; exact gspec R5_ok (k_cons kS_ok k_nil) Tryz.func75 (by kernel_rfl) (by kernel_rfl) noL_ok rfl ((ar5_ev2 a sk).trans (gAx_pos a h hz))
theorem ar6_ev0 : ev Tryz.prog R5 [axK 0] noL Tryz.f75 [SH 6 a sk] ret = gAx a 0 (some (Out.of (BX (ringB a 0)))) := by kernel_rfl
theorem ar6_ev1 : ev Tryz.prog R5 [axK 1] noL Tryz.f75 [SH 6 a sk] ret = gAx a 1 (some (Out.of (BX (ringB a 1)))) := by kernel_rfl
theorem ar6_ev2 : ev Tryz.prog R5 [axK 2] noL Tryz.f75 [SH 6 a sk] ret = gAx a 2 (some (Out.of (BX (ringB a 2)))) := by kernel_rfl
theorem ar6 (h : axO (a 3) (a 4) (a 5) = true) : FSpec Tryz.prog 75 [SH 6 a sk] (BX (ringB a (zB a))) := by
  rcases zB_lt a with hz | hz | hz
  · rw [hz]; exact gspec R5_ok (k_cons kS_ok k_nil) Tryz.func75 (by kernel_rfl) (by kernel_rfl) noL_ok rfl ((ar6_ev0 a sk).trans (gAx_pos a h hz))
  · rw [hz]; exact gspec R5_ok (k_cons kS_ok k_nil) Tryz.func75 (by kernel_rfl) (by kernel_rfl) noL_ok rfl ((ar6_ev1 a sk).trans (gAx_pos a h hz))
  · rw [hz]; exact gspec R5_ok (k_cons kS_ok k_nil) Tryz.func75 (by kernel_rfl) (by kernel_rfl) noL_ok rfl ((ar6_ev2 a sk).trans (gAx_pos a h hz))
noncomputable def arK (b : Nat → Nat) : KEntry := kS Tryz.prog 75 fun _ => BX b
noncomputable def gAr (j : Int) (b : Nat → Nat) (o : Option Out) : Option Out := gate (FSpec Tryz.prog 75 [SH j a sk] (BX b)) o
noncomputable def smZ (j : Int) (b : Nat → Nat) : Option Out := gAr a sk j b (cond (!(mayS b == 0)) (aiR 1) (aiR 0))
noncomputable def smX (o : Option Out) : Option Out := cond (skB sk) (aiR 4) (cond (rcB a) (aiR 1) o)
def R6 : List Entry := ⟨73, eV fun a b c => iA (aiS a b c)⟩ :: R5
theorem R6_ok : ∀ e, e ∈ R6 → EOk Tryz.prog e := e_cons (eV_ok raxisOf) R5_ok
theorem sm1_ev (b : Nat → Nat) : ev Tryz.prog R6 [arK b] noL Tryz.f49 [SH 1 a sk] ret = smX a sk (cond (fle (a 9) 0) (aiR 6) (smZ a sk 1 b)) := by kernel_rfl
theorem sm2_ev (b : Nat → Nat) : ev Tryz.prog R6 [arK b] noL Tryz.f49 [SH 2 a sk] ret = smX a sk (cond (blockG a) (aiR 6) (smZ a sk 2 b)) := by kernel_rfl
theorem sm3_ev (b : Nat → Nat) : ev Tryz.prog R6 [arK b] noL Tryz.f49 [SH 3 a sk] ret = smX a sk (smZ a sk 3 b) := by kernel_rfl
theorem sm4_ev (b : Nat → Nat) : ev Tryz.prog R6 [arK b] noL Tryz.f49 [SH 4 a sk] ret = smX a sk (cond (fle (a 9) 0) (aiR 6) (cond (!(unE (a 3) (a 4) (a 5) == 0)) (aiR (unE (a 3) (a 4) (a 5))) (smZ a sk 4 b))) := by kernel_rfl
theorem sm5_ev (b : Nat → Nat) : ev Tryz.prog R6 [arK b] noL Tryz.f49 [SH 5 a sk] ret = smX a sk (cond (cond (fle (a 9) 0) true (decide (aiS (a 3) (a 4) (a 5) < 0))) (aiR 6) (smZ a sk 5 b)) := by kernel_rfl
theorem sm6_ev (b : Nat → Nat) : ev Tryz.prog R6 [arK b] noL Tryz.f49 [SH 6 a sk] ret = smX a sk (cond (cond (cond (fle (a 10) 0) true (flt (a 9) (a 10))) true (decide (aiS (a 3) (a 4) (a 5) < 0))) (aiR 6) (smZ a sk 6 b)) := by kernel_rfl
theorem sm0_ev (k : Int) (b : Nat → Nat) : ev Tryz.prog R6 [arK b] noL Tryz.f49 [SH k a sk] ret = smX a sk (cond (k == 1) (cond (fle (a 9) 0) (aiR 6) (smZ a sk k b)) (cond (k == 2) (cond (blockG a) (aiR 6) (smZ a sk k b)) (cond (k == 3) (smZ a sk k b) (cond (k == 4) (cond (fle (a 9) 0) (aiR 6) (cond (!(unE (a 3) (a 4) (a 5) == 0)) (aiR (unE (a 3) (a 4) (a 5))) (smZ a sk k b)))
    (cond (k == 5) (cond (cond (fle (a 9) 0) true (decide (aiS (a 3) (a 4) (a 5) < 0))) (aiR 6) (smZ a sk k b)) (cond (k == 6) (cond (cond (cond (fle (a 10) 0) true (flt (a 9) (a 10))) true (decide (aiS (a 3) (a 4) (a 5) < 0))) (aiR 6) (smZ a sk k b)) (aiR 3))))))) := by kernel_rfl
end
theorem aiS_neg (x y z : Nat) : decide (aiS x y z < 0) = !axO x y z := by
  unfold aiS axO axI
  cases neZ x <;> cases neZ y <;> cases neZ z <;> rfl
theorem rc_near {a : Nat → Nat} (h : rcB a = false) : nearS (a 9) = true ∧ nearS (a 10) = true := by
  unfold rcB at h
  revert h
  cases fineS (a 0) (a 1) (a 2) <;> cases fineS (a 3) (a 4) (a 5) <;> cases fineS (a 6) (a 7) (a 8) <;> cases nearS (a 9) <;> cases nearS (a 10) <;> intro h <;> first | (cases h; done) | exact ⟨rfl, rfl⟩
theorem smX_go {a : Nat → Nat} {sk : Int} {m : Int} {b : Nat → Nat} {o : Option Out} (h : rcB a = false → o = cond (!(m == 0)) (aiR m) (cond (!(mayS b == 0)) (aiR 1) (aiR 0))) : smX a sk o = some (Out.of (iA (knE a sk m b))) := by
  unfold smX knE
  cases skB sk
  · cases hr : rcB a
    · rw [h hr]
      unfold aiR
      cases (m == 0) <;> cases (mayS b == 0) <;> rfl
    · rfl
  · rfl
theorem smZ_pos {a : Nat → Nat} {sk j : Int} {b : Nat → Nat} (h : FSpec Tryz.prog 75 [SH j a sk] (BX b)) : smZ a sk j b = cond (!(mayS b == 0)) (aiR 1) (aiR 0) := gate_pos h
section
variable (a : Nat → Nat) (sk : Int)
theorem sm1 : FSpec Tryz.prog 49 [SH 1 a sk] (iA (e1 a sk)) := by
  refine gspec R6_ok (k_cons kS_ok k_nil) Tryz.func49 (by kernel_rfl) (by kernel_rfl) noL_ok rfl ((sm1_ev a sk (cubeB a)).trans (smX_go fun hr => ?_))
  rw [smZ_pos (ar1 a sk), not_gt (rc_near hr).1]
  unfold ballM
  cases fgt (a 9) 0 <;> rfl
theorem sm2 : FSpec Tryz.prog 49 [SH 2 a sk] (iA (e2 a sk)) := by
  refine gspec R6_ok (k_cons kS_ok k_nil) Tryz.func49 (by kernel_rfl) (by kernel_rfl) noL_ok rfl ((sm2_ev a sk (blockB a)).trans (smX_go fun hr => ?_))
  rw [smZ_pos (ar2 a sk)]
  unfold blockM
  cases blockG a <;> rfl
theorem sm3 : FSpec Tryz.prog 49 [SH 3 a sk] (iA (e3 a sk)) := by
  refine gspec R6_ok (k_cons kS_ok k_nil) Tryz.func49 (by kernel_rfl) (by kernel_rfl) noL_ok rfl ((sm3_ev a sk (triB a)).trans (smX_go fun hr => ?_))
  rw [smZ_pos (ar3 a sk)]
  rfl
theorem sm4 : FSpec Tryz.prog 49 [SH 4 a sk] (iA (e4 a sk)) := by
  refine gspec R6_ok (k_cons kS_ok k_nil) Tryz.func49 (by kernel_rfl) (by kernel_rfl) noL_ok rfl ((sm4_ev a sk (cubeB a)).trans (smX_go fun hr => ?_))
  rw [smZ_pos (ar4 a sk), not_gt (rc_near hr).1]
  unfold plateM
  cases fgt (a 9) 0
  · rfl
  · rfl
theorem sm5 : FSpec Tryz.prog 49 [SH 5 a sk] (iA (e5 a sk)) := by
  refine gspec R6_ok (k_cons kS_ok k_nil) Tryz.func49 (by kernel_rfl) (by kernel_rfl) noL_ok rfl ((sm5_ev a sk (tubeB a (zB a))).trans (smX_go fun hr => ?_))
  rw [not_gt (rc_near hr).1, aiS_neg]
  unfold tubeM
  cases ho : axO (a 3) (a 4) (a 5)
  · cases fgt (a 9) 0 <;> rfl
  · rw [smZ_pos (ar5 a sk ho)]
    cases fgt (a 9) 0 <;> rfl
theorem sm6 : FSpec Tryz.prog 49 [SH 6 a sk] (iA (e6 a sk)) := by
  refine gspec R6_ok (k_cons kS_ok k_nil) Tryz.func49 (by kernel_rfl) (by kernel_rfl) noL_ok rfl ((sm6_ev a sk (ringB a (zB a))).trans (smX_go fun hr => ?_))
  rw [not_gt (rc_near hr).2, aiS_neg]
  unfold ringM
  rw [fge_not (near_nan (rc_near hr).1) (near_nan (rc_near hr).2)]
  cases ho : axO (a 3) (a 4) (a 5)
  · cases fgt (a 10) 0 <;> cases flt (a 9) (a 10) <;> rfl
  · rw [smZ_pos (ar6 a sk ho)]
    cases fgt (a 10) 0 <;> cases flt (a 9) (a 10) <;> rfl
theorem sm0 {k : Int} (h : kOther k) : FSpec Tryz.prog 49 [SH k a sk] (iA (e0 a sk)) := by
  obtain ⟨h1, h2, h3, h4, h5, h6⟩ := h
  refine gspec R6_ok (k_cons kS_ok k_nil) Tryz.func49 (by kernel_rfl) (by kernel_rfl) noL_ok rfl ((sm0_ev a sk k z6).trans ?_)
  rw [beq_false_of_ne h1, beq_false_of_ne h2, beq_false_of_ne h3, beq_false_of_ne h4, beq_false_of_ne h5, beq_false_of_ne h6]
  unfold smX e0 aiR
  cases skB sk <;> cases rcB a <;> rfl
end
section
variable (k : Int) (a : Nat → Nat) (sk : Int) (e : Int) (b : Nat → Nat)
end
end Go.Proofs.YtngjiggplabfkaaGreat.Hs

namespace Go.Proofs.YtngjiggplabfkaaGreat.Hs
open Go.Gv
open Go.Ev (cn fadd fsub fmul fdiv fsqrt fneg feq flt fle fgt fge fabs)

def mpk0 (c : Int) : Int := cond (decide (c < 0)) (w64 (0 - w64 (c + 1))) c
def mpk (c n : Int) : Int := (mpk0 c).tmod n
theorem mpick_ev (c n : Int) : ev Tryz.prog [] [] noL Tryz.f13 [iA c, iA n] ret = cond (decide (c < 0)) (cond ((!(n == 0)) && true) (some (Out.of (iA ((w64 (0 - w64 (c + 1))).tmod n)))) none) (cond ((!(n == 0)) && true) (some (Out.of (iA (c.tmod n)))) none) := by kernel_rfl
theorem mpick {c n : Int} (hn : (!(n == 0)) = true) : FSpec Tryz.prog 13 [iA c, iA n] (iA (mpk c n)) := by
  refine sp e_nil Tryz.func13 (by kernel_rfl) (by kernel_rfl) rfl ((mpick_ev c n).trans ?_)
  rw [hn]
  unfold mpk mpk0
  cases decide (c < 0) <;> rfl
def ePk (pf : Int → Int → Int) : List AV → Option AV
  | [.x (.int .i64 c), .x (.int .i64 n)] => cond (!(n == 0)) (some (iA (pf c n))) none
  | _ => none
theorem ePk_ok : EOk Tryz.prog ⟨13, ePk mpk⟩ := fun args r hr => by
  simp only [ePk] at hr
  split at hr
  · rename_i c n
    cases hn : !(n == 0)
    · rw [hn] at hr; cases hr
    · rw [hn] at hr; cases hr; exact Or.inl (mpick hn)
  · cases hr
def k1000 : Nat := 4652007308841189376
def mth (n : Int) : Nat := fdiv (cn (FloatKind.f64.nearest n)) k1000
theorem mthou (n : Int) : FSpec Tryz.prog 28 [iA n] (.f (mth n)) := sp e_nil Tryz.func28 (by kernel_rfl) (by kernel_rfl) rfl (by kernel_rfl)
def eI (g : Int → AV) : List AV → Option AV
  | [.x (.int .i64 n)] => some (g n)
  | _ => none
theorem eI_ok {f : Nat} {g : Int → AV} (h : ∀ n, FSpec Tryz.prog f [iA n] (g n)) : EOk Tryz.prog ⟨f, eI g⟩ := fun args r hr => by
  simp only [eI] at hr
  split at hr
  · cases hr; exact Or.inl (h _)
  · cases hr
def M0 (pf : Int → Int → Int) (tf : Int → Nat) : List Entry := ⟨13, ePk pf⟩ :: ⟨28, eI fun n => .f (tf n)⟩ :: R4
theorem M0_ok : ∀ e, e ∈ M0 mpk mth → EOk Tryz.prog e := e_cons ePk_ok <| e_cons (eI_ok mthou) R4_ok
section
variable (n : Nat) (hs : Nat → Int) (pf : Int → Int → Int) (tf : Int → Nat) (rf : Int → Int) (k fr mo c : Int)
def mrw : Int := cond ((n : Int) == 0) 0 (hs (k.tmod (n : Int)).toNat)
theorem mraw_ev : ev Tryz.prog [] [] noL Tryz.f27 [sI n hs, iA k] ret = cond ((n : Int) == 0) (some (Out.of (iA 0))) (cond ((!((n : Int) == 0)) && true) (cond (ixB (k.tmod (n : Int)) n || false) (some (Out.of (iA (hs (k.tmod (n : Int)).toNat)))) none) none) := by kernel_rfl
theorem mraw {n : Nat} {hs : Nat → Int} {k : Int} (hk : 0 ≤ k) : FSpec Tryz.prog 27 [sI n hs, iA k] (iA (mrw n hs k)) := by
  refine sp e_nil Tryz.func27 (by kernel_rfl) (by kernel_rfl) rfl ((mraw_ev n hs k).trans ?_)
  unfold mrw
  cases hn : ((n : Int) == 0)
  · have h0 : (n : Int) ≠ 0 := fun e => by rw [e] at hn; cases hn
    have e : k.tmod (n : Int) = k % (n : Int) := Int.tmod_eq_emod_of_nonneg hk
    have a := Int.emod_nonneg k h0
    have b := Int.emod_lt_of_pos k (show (0 : Int) < n by omega)
    have hi : ixB (k.tmod (n : Int)) n = true := by
      unfold ixB
      rw [e, decide_eq_true a, decide_eq_true b]
      rfl
    rw [hi]; rfl
  · rfl
def mmi (pf : Int → Int → Int) (tf : Int → Nat) (c mo : Int) : Nat := tf (w64 (pf c (w64 (w64 (2 * mo) + 1)) - mo))
theorem mil1_ev : ev Tryz.prog (M0 pf tf) [] noL Tryz.f26 [iA c, iA 4000] ret = some (Out.of (.f (mmi pf tf c 4000))) := by kernel_rfl
theorem mil2_ev : ev Tryz.prog (M0 pf tf) [] noL Tryz.f26 [iA c, iA 3000] ret = some (Out.of (.f (mmi pf tf c 3000))) := by kernel_rfl
theorem mil3_ev : ev Tryz.prog (M0 pf tf) [] noL Tryz.f26 [iA c, iA 6000] ret = some (Out.of (.f (mmi pf tf c 6000))) := by kernel_rfl
theorem mil4_ev : ev Tryz.prog (M0 pf tf) [] noL Tryz.f26 [iA c, iA 1500] ret = some (Out.of (.f (mmi pf tf c 1500))) := by kernel_rfl
theorem mil5_ev : ev Tryz.prog (M0 pf tf) [] noL Tryz.f26 [iA c, iA 5000] ret = some (Out.of (.f (mmi pf tf c 5000))) := by kernel_rfl
end
def moOk (mo : Int) : Prop := mo = 4000 ∨ mo = 3000 ∨ mo = 6000 ∨ mo = 1500 ∨ mo = 5000
theorem mmilli {mo : Int} (h : moOk mo) (c : Int) : FSpec Tryz.prog 26 [iA c, iA mo] (.f (mmi mpk mth c mo)) := by
  rcases h with rfl | rfl | rfl | rfl | rfl
  · exact sp M0_ok Tryz.func26 (by kernel_rfl) (by kernel_rfl) rfl (mil1_ev mpk mth c)
  · exact sp M0_ok Tryz.func26 (by kernel_rfl) (by kernel_rfl) rfl (mil2_ev mpk mth c)
  · exact sp M0_ok Tryz.func26 (by kernel_rfl) (by kernel_rfl) rfl (mil3_ev mpk mth c)
  · exact sp M0_ok Tryz.func26 (by kernel_rfl) (by kernel_rfl) rfl (mil4_ev mpk mth c)
  · exact sp M0_ok Tryz.func26 (by kernel_rfl) (by kernel_rfl) rfl (mil5_ev mpk mth c)
section
variable (n : Nat) (hs : Nat → Int) (rf : Int → Int) (mf : Int → Int → Nat) (fr mo : Int)
def rwG (rf : Int → Int) : List AV → AV
  | [_, .x (.int .i64 k)] => iA (rf k)
  | _ => .any
def miG' (mf : Int → Int → Nat) : List AV → AV
  | [.x (.int .i64 c), .x (.int .i64 mo)] => .f (mf c mo)
  | _ => .any
noncomputable def gR (k : Int) (o : Option Out) : Option Out := gate (FSpec Tryz.prog 27 [sI n hs, iA k] (iA (rf k))) o
noncomputable def gMi (c mo : Int) (o : Option Out) : Option Out := gate (FSpec Tryz.prog 26 [iA c, iA mo] (.f (mf c mo))) o
noncomputable def rwK : KEntry := kS Tryz.prog 27 (rwG rf)
noncomputable def veX : Option Out := gR n hs rf fr (gMi mf (rf fr) mo (gR n hs rf (w64 (fr + 1)) (gMi mf (rf (w64 (fr + 1))) mo (gR n hs rf (w64 (fr + 2)) (gMi mf (rf (w64 (fr + 2))) mo (some (Out.of (V (mf (rf fr) mo) (mf (rf (w64 (fr + 1))) mo) (mf (rf (w64 (fr + 2))) mo)))))))))
theorem ve_ev : ev Tryz.prog R4 [rwK rf, kS Tryz.prog 26 (miG' mf)] noL Tryz.f29 [sI n hs, iA fr, iA mo] ret = veX n hs rf mf fr mo := by kernel_rfl
end
def mve (n : Nat) (hs : Nat → Int) (fr mo : Int) (i : Nat) : Nat := mmi mpk mth (mrw n hs (w64 (fr + (i : Nat)))) mo
theorem gR_pos {n : Nat} {hs : Nat → Int} {k : Int} {o : Option Out} (h : 0 ≤ k) : gR n hs (mrw n hs) k o = o := gate_pos (mraw h)
theorem gMi_pos {c mo : Int} {o : Option Out} (h : moOk mo) : gMi (mmi mpk mth) c mo o = o := gate_pos (mmilli h c)
theorem mvec {n : Nat} {hs : Nat → Int} {fr mo : Int} (h0 : 0 ≤ fr) (h1 : fr ≤ 1000) (hm : moOk mo) : FSpec Tryz.prog 29 [sI n hs, iA fr, iA mo] (V (mve n hs fr mo 0) (mve n hs fr mo 1) (mve n hs fr mo 2)) := by
  refine gspec R4_ok (k_cons kS_ok (k_cons kS_ok k_nil)) Tryz.func29 (by kernel_rfl) (by kernel_rfl) noL_ok rfl ((ve_ev n hs (mrw n hs) (mmi mpk mth) fr mo).trans ?_)
  have e0 : w64 (fr + ((0 : Nat) : Int)) = fr := by rw [w64_id (by omega) (by omega)]; omega
  have a1 : 0 ≤ w64 (fr + 1) := by rw [w64_id (by omega) (by omega)]; omega
  have a2 : 0 ≤ w64 (fr + 2) := by rw [w64_id (by omega) (by omega)]; omega
  unfold veX mve
  rw [gR_pos h0, gMi_pos hm, gR_pos a1, gMi_pos hm, gR_pos a2, gMi_pos hm, e0]
  rfl
section
variable (n : Nat) (hs : Nat → Int) (pf : Int → Int → Int) (tf : Int → Nat) (rf : Int → Int) (vf : Int → Int → Nat → Nat)
def vcG (vf : Int → Int → Nat → Nat) : List AV → AV
  | [_, .x (.int .i64 fr), .x (.int .i64 mo)] => V (vf fr mo 0) (vf fr mo 1) (vf fr mo 2)
  | _ => .any
noncomputable def vcK : KEntry := kS Tryz.prog 29 (vcG vf)
noncomputable def gV (fr mo : Int) (o : Option Out) : Option Out := gate (FSpec Tryz.prog 29 [sI n hs, iA fr, iA mo] (V (vf fr mo 0) (vf fr mo 1) (vf fr mo 2))) o
end
theorem gV_pos {n : Nat} {hs : Nat → Int} {fr mo : Int} {o : Option Out} (h0 : 0 ≤ fr) (h1 : fr ≤ 1000) (hm : moOk mo) : gV n hs (mve n hs) fr mo o = o := gate_pos (mvec h0 h1 hm)
section
variable (n : Nat) (hs : Nat → Int) (pf : Int → Int → Int) (tf : Int → Nat) (rf : Int → Int) (vf : Int → Int → Nat → Nat) (x y w : Nat)
def z3 : Nat → Nat := fun _ => 0
def M1 (pf : Int → Int → Int) (tf : Int → Nat) : List Entry := ⟨13, ePk pf⟩ :: ⟨28, eI fun n => .f (tf n)⟩ :: ⟨81, eV fun a b c => bA (noughtB a b c)⟩ :: R3
theorem M1_ok : ∀ e, e ∈ M1 mpk mth → EOk Tryz.prog e := e_cons ePk_ok <| e_cons (eI_ok mthou) <| e_cons (eV_ok rnought) R3_ok
end
theorem mpk_range {c m : Int} (hc : -9223372036854775808 ≤ c) (hc' : c ≤ 9223372036854775807) (hm : 0 < m) : 0 ≤ mpk c m ∧ mpk c m < m := by
  have h0 : 0 ≤ mpk0 c := by
    unfold mpk0
    by_cases h : c < 0
    · rw [decide_eq_true h, cond_true, w64_id (n := c + 1) (by omega) (by omega), w64_id (by omega) (by omega)]
      omega
    · rw [decide_eq_false h]; show 0 ≤ c; omega
  unfold mpk
  rw [Int.tmod_eq_emod_of_nonneg h0]
  exact ⟨Int.emod_nonneg _ (by omega), Int.emod_lt_of_pos _ hm⟩
theorem mrw_range {n : Nat} {hs : Nat → Int} (h : ∀ i, i < n → -9223372036854775808 ≤ hs i ∧ hs i ≤ 9223372036854775807) {k : Int} (hk : 0 ≤ k) : -9223372036854775808 ≤ mrw n hs k ∧ mrw n hs k ≤ 9223372036854775807 := by
  unfold mrw
  cases hn : ((n : Int) == 0)
  · have h0 : (n : Int) ≠ 0 := fun e => by rw [e] at hn; cases hn
    rw [cond_false, Int.tmod_eq_emod_of_nonneg hk]
    have a := Int.emod_nonneg k h0
    have b := Int.emod_lt_of_pos k (show (0 : Int) < n by omega)
    exact h _ (by omega)
  · show -9223372036854775808 ≤ (0 : Int) ∧ (0 : Int) ≤ 9223372036854775807; omega
end Go.Proofs.YtngjiggplabfkaaGreat.Hs

namespace Go.Proofs.YtngjiggplabfkaaGreat.Hs
open Go.Gv
open Go.Ev (cn fadd fsub fmul fdiv fsqrt fneg feq flt fle fgt fge fabs isNan)

abbrev shC (k : Int) (a : Nat → Nat) (sk : Int) : List AV := [iA k, .f (a 0), .f (a 1), .f (a 2), .f (a 3), .f (a 4), .f (a 5), .f (a 6), .f (a 7), .f (a 8), .f (a 9), .f (a 10), iA sk]
def MayOk (c : List AV) (m : Int) : Prop := FSpec Tryz.prog 62 [.agg c] (iA m) ∧ FSpec Tryz.prog 49 [.agg c] (iA m)
theorem may_all (k : Int) (a : Nat → Nat) (sk : Int) : ∃ m, MayOk (shC k a sk) m := by
  by_cases h1 : k = 1
  · subst h1
    have sm := sm1 a sk
    by_cases h : e1 a sk = 0
    · rw [h] at sm; exact ⟨0, may_g (kn1_good a sk h), sm⟩
    · exact ⟨_, may_b (kn1_bad a sk h), sm⟩
  by_cases h2 : k = 2
  · subst h2
    have sm := sm2 a sk
    by_cases h : e2 a sk = 0
    · rw [h] at sm; exact ⟨0, may_g (kn2_good a sk h), sm⟩
    · exact ⟨_, may_b (kn2_bad a sk h), sm⟩
  by_cases h3 : k = 3
  · subst h3
    have sm := sm3 a sk
    by_cases h : e3 a sk = 0
    · rw [h] at sm; exact ⟨0, may_g (kn3_good a sk h), sm⟩
    · exact ⟨_, may_b (kn3_bad a sk h), sm⟩
  by_cases h4 : k = 4
  · subst h4
    have sm := sm4 a sk
    by_cases h : e4 a sk = 0
    · rw [h] at sm; exact ⟨0, may_g (kn4_good a sk h), sm⟩
    · exact ⟨_, may_b (kn4_bad a sk h), sm⟩
  by_cases h5 : k = 5
  · subst h5
    have sm := sm5 a sk
    by_cases h : e5 a sk = 0
    · rw [h] at sm; exact ⟨0, may_g (kn5_good a sk h), sm⟩
    · exact ⟨_, may_b (kn5_bad a sk h), sm⟩
  by_cases h6 : k = 6
  · subst h6
    have sm := sm6 a sk
    by_cases h : e6 a sk = 0
    · rw [h] at sm; exact ⟨0, may_g (kn6_good a sk h), sm⟩
    · exact ⟨_, may_b (kn6_bad a sk h), sm⟩
  exact ⟨_, may_b (kn0_bad ⟨h1, h2, h3, h4, h5, h6⟩ a sk), sm0 a sk ⟨h1, h2, h3, h4, h5, h6⟩⟩
open Classical in
/-- What May says of the cells of a shape. -/
noncomputable def mayC (c : List AV) : Int := if h : ∃ m, MayOk c m then h.choose else 0
theorem mayC_spec (k : Int) (a : Nat → Nat) (sk : Int) : FSpec Tryz.prog 62 [SH k a sk] (iA (mayC (shC k a sk))) ∧ FSpec Tryz.prog 49 [SH k a sk] (iA (mayC (shC k a sk))) := by
  unfold mayC
  rw [dif_pos (may_all k a sk)]
  exact (may_all k a sk).choose_spec
end Go.Proofs.YtngjiggplabfkaaGreat.Hs

namespace Go.Proofs.YtngjiggplabfkaaGreat.Hs.So
open Go.Gv
open Go.Ev (cn fadd fsub fmul fdiv fsqrt fneg feq flt fle fgt fge fabs isNan)

structure Prt where
  op : Int
  l : Int
  r : Int
  k : Int
  a : Nat → Nat
  sk : Int
def Prt.s (p : Prt) : List AV := shC p.k p.a p.sk
def Prt.c (p : Prt) : List AV := [iA p.op, iA p.l, iA p.r, iA p.k, .f (p.a 0), .f (p.a 1), .f (p.a 2), .f (p.a 3), .f (p.a 4), .f (p.a 5), .f (p.a 6), .f (p.a 7), .f (p.a 8), .f (p.a 9), .f (p.a 10), iA p.sk]
def prS (n : Nat) (P : Nat → Prt) : AV := .sl 16 n fun i => (P i).c
def soC (n : Nat) (P : Nat → Prt) (sn : Int) : List AV := [prS n P, iA sn]
/-- An entry that takes the cells of a shape. -/
def eSc (g : List AV → AV) : List AV → Option AV
  | [.agg [.x (.int .i64 k), .f a0, .f a1, .f a2, .f a3, .f a4, .f a5, .f a6, .f a7, .f a8, .f a9, .f a10, .x (.int .i64 sk)]] => some (g [.x (.int .i64 k), .f a0, .f a1, .f a2, .f a3, .f a4, .f a5, .f a6, .f a7, .f a8, .f a9, .f a10, .x (.int .i64 sk)])
  | _ => none
theorem eSc_ok {f : Nat} {g : List AV → AV} (h : ∀ k a sk, FSpec Tryz.prog f [SH k a sk] (g (shC k a sk))) : EOk Tryz.prog ⟨f, eSc g⟩ := fun args r hr => by
  simp only [eSc] at hr
  split at hr
  · cases hr; exact Or.inl (h _ (ls [_, _, _, _, _, _, _, _, _, _, _]) _)
  · cases hr
def kin (k : Int) : Bool := (k == 1) || ((k == 2) || (k == 5))
def ktT {α : Type} (k : Int) (z t : α) : α := cond (k == 1) (cond (k == 1) z t) (cond (k == 2) (cond (k == 2) z t) (cond (k == 5) z t))
theorem ktT_eq {α : Type} (k : Int) (z t : α) : ktT k z t = cond (kin k) z t := by
  unfold ktT kin
  cases k == 1 <;> cases k == 2 <;> cases k == 5 <;> rfl
section
variable (mf : List AV → Int) (k : Int) (a : Nat → Nat) (sk : Int)
def mlE (m k : Int) : Int := cond (!(m == 0)) m (cond (kin k) 0 3)
theorem ml_ev : ev Tryz.prog [⟨62, eSc fun c => iA (mf c)⟩] [] noL Tryz.f100 [SH k a sk] ret = cond (!(mf (shC k a sk) == 0)) (aiR (mf (shC k a sk))) (ktT k (aiR 0) (aiR 3)) := by kernel_rfl
end
theorem eMay_ok : EOk Tryz.prog ⟨62, eSc fun c => iA (mayC c)⟩ := eSc_ok fun k a sk => (mayC_spec k a sk).1
theorem eMayR_ok : EOk Tryz.prog ⟨49, eSc fun c => iA (mayC c)⟩ := eSc_ok fun k a sk => (mayC_spec k a sk).2
theorem sml (k : Int) (a : Nat → Nat) (sk : Int) : FSpec Tryz.prog 100 [SH k a sk] (iA (mlE (mayC (shC k a sk)) k)) := by
  refine sp (e_cons eMay_ok e_nil) Tryz.func100 (by kernel_rfl) (by kernel_rfl) rfl ((ml_ev mayC k a sk).trans ?_)
  rw [ktT_eq]
  unfold mlE aiR
  cases (mayC (shC k a sk) == 0) <;> cases kin k <;> rfl
/-- Which kind the cells of a shape are of. -/
def kOfC : List AV → Int
  | .x (.int .i64 k) :: _ => k
  | _ => 0
theorem eMl_ok : EOk Tryz.prog ⟨100, eSc fun c => iA (mlE (mayC c) (kOfC c))⟩ := eSc_ok fun k a sk => sml k a sk
def nmB (l r i : Int) : Bool := cond (cond (cond (decide (l < 0)) true (decide (l ≥ i))) true (decide (r < 0))) true (decide (r ≥ i))
def opT {α : Type} (o : Int) (z t : α) : α := cond (o == 1) (cond (o == 1) z t) (cond (o == 2) (cond (o == 2) z t) (cond (o == 3) z t))
def opB (o : Int) : Bool := (o == 1) || ((o == 2) || (o == 3))
theorem opT_eq {α : Type} (o : Int) (z t : α) : opT o z t = cond (opB o) z t := by
  unfold opT opB
  cases o == 1 <;> cases o == 2 <;> cases o == 3 <;> rfl
/-- The errno of a part with so many ahead of it. -/
noncomputable def ppE (p : Prt) (i : Int) : Int := cond (p.op == 0) (mlE (mayC p.s) p.k) (cond (opB p.op) (cond (nmB p.l p.r i) 9 0) 11)
theorem mp_ev (g : List AV → Int) (p : Prt) (i : Int) : ev Tryz.prog [⟨100, eSc fun c => iA (g c)⟩] [] noL Tryz.f85 [.agg p.c, iA i] ret = cond (p.op == 0) (aiR (g p.s)) (opT p.op (cond (nmB p.l p.r i) (aiR 9) (aiR 0)) (aiR 11)) := by kernel_rfl
theorem smp (p : Prt) (i : Int) : FSpec Tryz.prog 85 [.agg p.c, iA i] (iA (ppE p i)) := by
  refine sp (e_cons eMl_ok e_nil) Tryz.func85 (by kernel_rfl) (by kernel_rfl) rfl ((mp_ev (fun c => mlE (mayC c) (kOfC c)) p i).trans ?_)
  rw [opT_eq]
  unfold ppE aiR
  show cond (p.op == 0) (some (Out.of (iA (mlE (mayC p.s) p.k)))) _ = _
  cases p.op == 0 <;> cases opB p.op <;> cases nmB p.l p.r i <;> rfl
def seqE (fb : Nat → Int) : Nat → Int
  | 0 => 0
  | i + 1 => cond (seqE fb i == 0) (fb i) (seqE fb i)
theorem seq_all {fb : Nat → Int} : ∀ n, (∀ i, i < n → fb i = 0) → seqE fb n = 0
  | 0, _ => rfl
  | n + 1, h => by
    show cond (seqE fb n == 0) (fb n) (seqE fb n) = 0
    rw [seq_all n fun i hi => h i (by omega), h n (by omega)]
    rfl
theorem seq_first {fb : Nat → Int} {K : Nat} (hK : fb K ≠ 0) (h : ∀ i, i < K → fb i = 0) : ∀ n, K < n → seqE fb n = fb K
  | 0, hn => absurd hn (Nat.not_lt_zero _)
  | n + 1, hn => by
    show cond (seqE fb n == 0) (fb n) (seqE fb n) = _
    by_cases e : K = n
    · subst e; rw [seq_all K h]; rfl
    · rw [seq_first hK h n (by omega), beq_false_of_ne hK]; rfl
theorem seq_zero {fb : Nat → Int} : ∀ n, seqE fb n = 0 → ∀ i, i < n → fb i = 0
  | 0, _, i, hi => absurd hi (Nat.not_lt_zero i)
  | n + 1, h, i, hi => by
    have h : cond (seqE fb n == 0) (fb n) (seqE fb n) = 0 := h
    by_cases h0 : seqE fb n = 0
    · rw [h0] at h
      have h : fb n = 0 := h
      by_cases e : i = n
      · subst e; exact h
      · exact seq_zero n h0 i (by omega)
    · rw [beq_false_of_ne h0] at h; exact absurd h h0
noncomputable def paE (P : Nat → Prt) (i : Nat) : Int := ppE (P i) (i : Nat)
def soX (n : Nat) (sn : Int) (R : Option Out) : Option Out := cond (cond (decide ((n : Int) < 1)) true (decide ((n : Int) > 16))) (aiR 5) (cond (skB sn) (aiR 4) R)
/-- The errno of a solid. -/
noncomputable def soE (n : Nat) (P : Nat → Prt) (sn : Int) : Int := cond (cond (decide ((n : Int) < 1)) true (decide ((n : Int) > 16))) 5 (cond (skB sn) 4 (seqE (paE P) n))
theorem soX_eq {n : Nat} {P : Nat → Prt} {sn : Int} {R : Option Out} (h : 1 ≤ n → n ≤ 16 → R = aiR (seqE (paE P) n)) : soX n sn R = some (Out.of (iA (soE n P sn))) := by
  unfold soX soE
  by_cases h1 : n < 1
  · rw [decide_eq_true (show (n : Int) < 1 by omega)]; rfl
  · by_cases h2 : 16 < n
    · rw [decide_eq_false (show ¬ (n : Int) < 1 by omega), decide_eq_true (show (n : Int) > 16 by omega)]; rfl
    · rw [decide_eq_false (show ¬ (n : Int) < 1 by omega), decide_eq_false (show ¬ (n : Int) > 16 by omega), h (by omega) (by omega)]
      unfold aiR
      cases skB sn <;> rfl
def smS (n : Nat) (P : Nat → Prt) (i : Int) : St := mkS 39 [(25, prS n P), (26, iA n), (27, iA i)] []
def smE' (e : Int) : St := mkS 39 [(2, iA e)] []
def eMp (g : List AV → Int → Int) : List AV → Option AV
  | [.agg [.x (.int .i64 o), .x (.int .i64 l), .x (.int .i64 r), .x (.int .i64 k), .f a0, .f a1, .f a2, .f a3, .f a4, .f a5, .f a6, .f a7, .f a8, .f a9, .f a10, .x (.int .i64 sk)], .x (.int .i64 i)] => some (iA (g [.x (.int .i64 o), .x (.int .i64 l), .x (.int .i64 r), .x (.int .i64 k), .f a0, .f a1, .f a2, .f a3, .f a4, .f a5, .f a6, .f a7, .f a8, .f a9, .f a10, .x (.int .i64 sk)] i))
  | _ => none
def decP : List AV → Prt
  | [.x (.int .i64 o), .x (.int .i64 l), .x (.int .i64 r), .x (.int .i64 k), .f a0, .f a1, .f a2, .f a3, .f a4, .f a5, .f a6, .f a7, .f a8, .f a9, .f a10, .x (.int .i64 sk)] => ⟨o, l, r, k, ls [a0, a1, a2, a3, a4, a5, a6, a7, a8, a9, a10], sk⟩
  | _ => ⟨0, 0, 0, 0, fun _ => 0, 0⟩
noncomputable def mpG (c : List AV) (i : Int) : Int := ppE (decP c) i
theorem mpG_eq (p : Prt) (i : Int) : mpG p.c i = ppE p i := rfl
theorem eMp_ok : EOk Tryz.prog ⟨85, eMp mpG⟩ := fun args r hr => by
  simp only [eMp] at hr
  split at hr
  · cases hr; exact Or.inl (smp ⟨_, _, _, _, ls [_, _, _, _, _, _, _, _, _, _, _], _⟩ _)
  · cases hr
section
variable (g : List AV → Int → Int) (n : Nat) (P : Nat → Prt) (i : Int) (sn : Int)
def smC (o ob oe : Option Out) : Option Out := cond (decide (i < n)) (cond (ixB i n || false) (cond (!(g (P i.toNat).c i == 0)) ob o) none) oe
theorem sm_step : evC Tryz.prog [⟨85, eMp g⟩] [] noL (loopAt Tryz.f63 0) (smS n P i) (finN [25, 26, 27] []) = smC g n P i (some ⟨.normal, smS n P (w64 (i + 1)), .any⟩) none none := by kernel_rfl
theorem sm_ret : evC Tryz.prog [⟨85, eMp g⟩] [] noL (loopAt Tryz.f63 0) (smS n P i) (finR [2] []) = smC g n P i none (some ⟨.ret, smE' (g (P i.toNat).c i), .any⟩) none := by kernel_rfl
theorem sm_end : evC Tryz.prog [⟨85, eMp g⟩] [] noL (loopAt Tryz.f63 0) (smS n P i) (finE [25, 26, 27] []) = smC g n P i none none (some ⟨.exit 0, smS n P i, .any⟩) := by kernel_rfl
theorem sm_evG (j : Int) : ev Tryz.prog [⟨85, eMp g⟩] [] (oneL 6 (toldF [25, 26, 27] [] (smS n P 0) (.exit 0) (smS n P j))) Tryz.f63 [.agg (soC n P sn)] ret = soX n sn (gate (Sub (smS n P 0) (smS n P 0)) (aiR 0)) := by kernel_rfl
theorem sm_evR (e : Int) : ev Tryz.prog [⟨85, eMp g⟩] [] (oneL 6 (toldF [25, 26, 27] [] (smS n P 0) .ret (smE' e))) Tryz.f63 [.agg (soC n P sn)] ret = soX n sn (gate (Sub (smS n P 0) (smS n P 0)) (aiR e)) := by kernel_rfl
theorem sm_ev0 : ev Tryz.prog [⟨85, eMp g⟩] [] (oneL 6 fun _ _ => none) Tryz.f63 [.agg (soC n P sn)] ret = soX n sn none := by kernel_rfl
end
theorem smay_spec (n : Nat) (P : Nat → Prt) (sn : Int) : FSpec Tryz.prog 63 [.agg (soC n P sn)] (iA (soE n P sn)) := by
  have en := e_cons eMp_ok e_nil
  by_cases hc : n < 1 ∨ 16 < n
  · exact gspec en k_nil Tryz.func63 (by kernel_rfl) (by kernel_rfl) (lok_none 6) rfl ((sm_ev0 mpG n P sn).trans (soX_eq fun h1 h2 => absurd hc (by omega)))
  · have go : ∀ k, k < n → paE P k = 0 → Leads Tryz.prog (loopAt Tryz.f63 0) (smS n P (k : Nat)) .normal (smS n P ((k + 1 : Nat) : Int)) := fun k hk hb => by
      refine leads_ev (finN_sub _ _) en k_nil noL_ok ((sm_step mpG n P (k : Nat)).trans ?_)
      unfold smC
      rw [dec_lt hk, ixB_t hk, Int.toNat_natCast, mpG_eq, show ppE (P k) (k : Nat) = 0 from hb, w64_next (by omega)]
      rfl
    rcases all_or_first (fun i => paE P i == 0) n with hl | ⟨K, hK, hp, hq⟩
    · have hl' : ∀ i, i < n → paE P i = 0 := fun i hi => by simpa using hl i hi
      have lead : Leads Tryz.prog (.loop (loopAt Tryz.f63 0)) (smS n P 0) (.exit 0) (smS n P (n : Nat)) := by
        refine loop_rule (fun k => smS n P (k : Nat)) n (.exit 0) _ (by simp) (fun k hk => go k hk (hl' k hk)) ?_
        refine leads_ev (finE_sub _ _) en k_nil noL_ok ((sm_end mpG n P (n : Nat)).trans ?_)
        unfold smC
        rw [dec_self, cond_false]
      refine gspec en k_nil Tryz.func63 (by kernel_rfl) (by kernel_rfl) (lok_at (i := 6) 0 1 (by kernel_rfl) (by kernel_rfl) (toldF_sound (keep := [25, 26, 27]) (τ := []) lead)) rfl ((sm_evG mpG n P sn (n : Nat)).trans (soX_eq fun _ _ => ?_))
      rw [gate_pos (Sub.refl _), seq_all n hl']
    · have hb : paE P K ≠ 0 := by simpa using hp
      have hq' : ∀ i, i < K → paE P i = 0 := fun i hi => by simpa using hq i hi
      have lead : Leads Tryz.prog (.loop (loopAt Tryz.f63 0)) (smS n P 0) .ret (smE' (paE P K)) := by
        refine loop_rule (fun k => smS n P (k : Nat)) K .ret _ (by simp) (fun k hk => go k (by omega) (hq' k hk)) ?_
        refine leads_ev (finR_sub _ _) en k_nil noL_ok ((sm_ret mpG n P (K : Nat)).trans ?_)
        unfold smC
        rw [dec_lt hK, ixB_t hK, Int.toNat_natCast, mpG_eq, beq_false_of_ne (show ppE (P K) (K : Nat) ≠ 0 from hb)]
        rfl
      refine gspec en k_nil Tryz.func63 (by kernel_rfl) (by kernel_rfl) (lok_at (i := 6) 0 1 (by kernel_rfl) (by kernel_rfl) (toldF_sound (keep := [25, 26, 27]) (τ := []) lead)) rfl ((sm_evR mpG n P sn (paE P K)).trans (soX_eq fun _ _ => ?_))
      rw [gate_pos (Sub.refl _), seq_first hb hq' n hK]
def amS (n : Nat) (P : Nat → Prt) (sn : Int) (i : Int) : St := mkS 89 [(1, .own 0 0), (3, iA i)] [.c (soC n P sn)]
def amE (e : Int) : St := mkS 89 [(2, iA e)] []
section
variable (mf : List AV → Int) (n : Nat) (P : Nat → Prt) (sn : Int) (i : Int)
def knB (k : Int) : Bool := cond (cond (!(k == 1)) (!(k == 2)) false) (!(k == 5)) false
def amC (p : Prt) (r : Int → Option Out) (o : Option Out) : Option Out := cond (cond (decide (p.op < 0)) true (decide (p.op > 3))) (r 11) (cond (decide (p.op > 0)) (cond (nmB p.l p.r i) (r 9) o) (cond (!(mf p.s == 0)) (r (mf p.s)) (cond (knB p.k) (r 3) o)))
def amX (r : Int → Option Out) (o oe : Option Out) : Option Out := cond (decide (i < n)) (cond (ixB i n || false) (amC mf i (P i.toNat) r o) none) oe
theorem am_step : evC Tryz.prog [⟨49, eSc fun c => iA (mf c)⟩] [] noL (loopAt Tryz.f50 0) (amS n P sn i) (finN [1, 3] [some 0]) = amX mf n P i (fun _ => none) (some ⟨.normal, amS n P sn (w64 (i + 1)), .any⟩) none := by kernel_rfl
theorem am_ret : evC Tryz.prog [⟨49, eSc fun c => iA (mf c)⟩] [] noL (loopAt Tryz.f50 0) (amS n P sn i) (finR [2] []) = amX mf n P i (fun e => some ⟨.ret, amE e, .any⟩) none none := by kernel_rfl
theorem am_end : evC Tryz.prog [⟨49, eSc fun c => iA (mf c)⟩] [] noL (loopAt Tryz.f50 0) (amS n P sn i) (finE [1, 3] [some 0]) = amX mf n P i (fun _ => none) none (some ⟨.exit 0, amS n P sn i, .any⟩) := by kernel_rfl
theorem am_evG (j : Int) : ev Tryz.prog [⟨49, eSc fun c => iA (mf c)⟩] [] (oneL 6 (toldF [1, 3] [some 0] (amS n P sn 0) (.exit 0) (amS n P sn j))) Tryz.f50 [.agg (soC n P sn)] ret = soX n sn (gate (Sub (amS n P sn 0) (amS n P sn 0)) (aiR 0)) := by kernel_rfl
theorem am_evR (e : Int) : ev Tryz.prog [⟨49, eSc fun c => iA (mf c)⟩] [] (oneL 6 (toldF [1, 3] [some 0] (amS n P sn 0) .ret (amE e))) Tryz.f50 [.agg (soC n P sn)] ret = soX n sn (gate (Sub (amS n P sn 0) (amS n P sn 0)) (aiR e)) := by kernel_rfl
theorem am_ev0 : ev Tryz.prog [⟨49, eSc fun c => iA (mf c)⟩] [] (oneL 6 fun _ _ => none) Tryz.f50 [.agg (soC n P sn)] ret = soX n sn none := by kernel_rfl
end
theorem knB_eq (k : Int) : knB k = !kin k := by
  unfold knB kin
  cases k == 1 <;> cases k == 2 <;> cases k == 5 <;> rfl
theorem amC_eq (p : Prt) (i : Int) (r : Int → Option Out) (o : Option Out) : amC mayC i p r o = cond (ppE p i == 0) o (r (ppE p i)) := by
  unfold amC ppE mlE
  rw [knB_eq]
  by_cases h0 : p.op = 0
  · rw [h0]
    cases hm : (mayC p.s == 0)
    · have : mayC p.s ≠ 0 := fun e => by rw [e] at hm; cases hm
      show r (mayC p.s) = cond (mayC p.s == 0) o (r (mayC p.s))
      rw [hm]; rfl
    · cases kin p.k <;> rfl
  · have hb : (p.op == 0) = false := beq_false_of_ne h0
    rw [hb]
    by_cases h1 : p.op = 1 ∨ p.op = 2 ∨ p.op = 3
    · rw [decide_eq_false (show ¬ p.op < 0 by omega), decide_eq_false (show ¬ p.op > 3 by omega), decide_eq_true (show p.op > 0 by omega)]
      have : opB p.op = true := by rcases h1 with h | h | h <;> rw [h] <;> rfl
      rw [this]
      cases nmB p.l p.r i <;> rfl
    · have h2 : opB p.op = false := by
        unfold opB
        rw [beq_false_of_ne (show p.op ≠ 1 by omega), beq_false_of_ne (show p.op ≠ 2 by omega), beq_false_of_ne (show p.op ≠ 3 by omega)]; rfl
      rw [h2]
      by_cases h3 : p.op < 0
      · rw [decide_eq_true h3]; rfl
      · rw [decide_eq_false h3, decide_eq_true (show p.op > 3 by omega)]; rfl
theorem rsmay_spec (n : Nat) (P : Nat → Prt) (sn : Int) : FSpec Tryz.prog 50 [.agg (soC n P sn)] (iA (soE n P sn)) := by
  have en := e_cons eMayR_ok e_nil
  by_cases hc : n < 1 ∨ 16 < n
  · exact gspec en k_nil Tryz.func50 (by kernel_rfl) (by kernel_rfl) (lok_none 6) rfl ((am_ev0 mayC n P sn).trans (soX_eq fun h1 h2 => absurd hc (by omega)))
  · have go : ∀ k, k < n → paE P k = 0 → Leads Tryz.prog (loopAt Tryz.f50 0) (amS n P sn (k : Nat)) .normal (amS n P sn ((k + 1 : Nat) : Int)) := fun k hk hb => by
      refine leads_ev (finN_sub _ _) en k_nil noL_ok ((am_step mayC n P sn (k : Nat)).trans ?_)
      unfold amX
      rw [dec_lt hk, ixB_t hk, Int.toNat_natCast, amC_eq, show ppE (P k) (k : Nat) = 0 from hb, w64_next (by omega)]
      rfl
    rcases all_or_first (fun i => paE P i == 0) n with hl | ⟨K, hK, hp, hq⟩
    · have hl' : ∀ i, i < n → paE P i = 0 := fun i hi => by simpa using hl i hi
      have lead : Leads Tryz.prog (.loop (loopAt Tryz.f50 0)) (amS n P sn 0) (.exit 0) (amS n P sn (n : Nat)) := by
        refine loop_rule (fun k => amS n P sn (k : Nat)) n (.exit 0) _ (by simp) (fun k hk => go k hk (hl' k hk)) ?_
        refine leads_ev (finE_sub _ _) en k_nil noL_ok ((am_end mayC n P sn (n : Nat)).trans ?_)
        unfold amX
        rw [dec_self, cond_false]
      refine gspec en k_nil Tryz.func50 (by kernel_rfl) (by kernel_rfl) (lok_at (i := 6) 0 1 (by kernel_rfl) (by kernel_rfl) (toldF_sound (keep := [1, 3]) (τ := [some 0]) lead)) rfl ((am_evG mayC n P sn (n : Nat)).trans (soX_eq fun _ _ => ?_))
      rw [gate_pos (Sub.refl _), seq_all n hl']
    · have hb : paE P K ≠ 0 := by simpa using hp
      have hq' : ∀ i, i < K → paE P i = 0 := fun i hi => by simpa using hq i hi
      have lead : Leads Tryz.prog (.loop (loopAt Tryz.f50 0)) (amS n P sn 0) .ret (amE (paE P K)) := by
        refine loop_rule (fun k => amS n P sn (k : Nat)) K .ret _ (by simp) (fun k hk => go k (by omega) (hq' k hk)) ?_
        refine leads_ev (finR_sub _ _) en k_nil noL_ok ((am_ret mayC n P sn (K : Nat)).trans ?_)
        unfold amX
        rw [dec_lt hK, ixB_t hK, Int.toNat_natCast, amC_eq, beq_false_of_ne (show ppE (P K) (K : Nat) ≠ 0 from hb)]
        rfl
      refine gspec en k_nil Tryz.func50 (by kernel_rfl) (by kernel_rfl) (lok_at (i := 6) 0 1 (by kernel_rfl) (by kernel_rfl) (toldF_sound (keep := [1, 3]) (τ := [some 0]) lead)) rfl ((am_evR mayC n P sn (paE P K)).trans (soX_eq fun _ _ => ?_))
      rw [gate_pos (Sub.refl _), seq_first hb hq' n hK]
end Go.Proofs.YtngjiggplabfkaaGreat.Hs.So

namespace Go.Proofs.YtngjiggplabfkaaGreat.Hs.So
open Go.Gv
open Go.Ev (cn fadd fsub fmul fdiv fsqrt fneg feq flt fle fgt fge fabs isNan)

def bl' (i : Int) (n : Nat) : Bool := Nat.blt (0 + i.toNat) n || false
def ow' (i : Int) (n : Nat) (o : Option Out) : Option Out := cond (ixB i n || false) (cond (bl' i n) o none) none
theorem ow_t {i n : Nat} (h : i < n) (o : Option Out) : ow' (i : Nat) n o = o := by
  unfold ow' bl'
  rw [ixB_t h, Int.toNat_natCast, Nat.zero_add, blt_t h]
  rfl
def xE (p : Option Addr) (c : Nat) : AV := .x (.slice p 0 c)
theorem FSpec.of_arg {f : Nat} {args args' : List AV} {r : AV} (h : ∀ E : Env, ∀ us : List Value, rels E args us → ∃ args'', rels E args'' us ∧ FSpec Tryz.prog f args'' r) (hE : Entered Tryz.prog f) (_ : args' = args) : FSpec Tryz.prog f args r :=
  ⟨hE, fun A w cargs hA hr hg => by
    obtain ⟨args'', h1, h2⟩ := h _ _ hr
    exact h2.2 A w cargs hA h1 hg⟩
theorem rel_empty {E : Env} {sz : Nat} {el : Nat → List AV} {u : Value} (h : rel E (.sl sz 0 el) u) : ∃ p c, rel E (xE p c) u := by
  obtain ⟨a, c, e, _⟩ := rel_sl.1 h
  exact ⟨a, c, rel_x.2 e⟩
end Go.Proofs.YtngjiggplabfkaaGreat.Hs.So

namespace Go.Proofs.YtngjiggplabfkaaGreat.Hs.So
open Go.Gv
open Go.Ev (cn fadd fsub fmul fdiv fsqrt fneg feq flt fle fgt fge fabs)

section
variable (n : Nat) (hs : Nat → Int) (pf : Int → Int → Int) (tf : Int → Nat) (rf : Int → Int) (vf : Int → Int → Nat → Nat) (x y w : Nat) (fr : Int)
def xK : Int := w64 (1 + pf (rf fr) 6)
def xR : Nat := tf (w64 (1 + pf (rf (w64 (fr + 8))) 2500))
def xA (B C : Nat → Nat) (R Q : Nat) : List AV := [iA (xK pf rf fr), .f (vf (w64 (fr + 1)) 4000 0), .f (vf (w64 (fr + 1)) 4000 1), .f (vf (w64 (fr + 1)) 4000 2), .f (B 0), .f (B 1), .f (B 2), .f (C 0), .f (C 1), .f (C 2), .f R, .f Q, iA (pf (rf (w64 (fr + 7))) 1)]
def xO (B C : Nat → Nat) (R Q : Nat) : Option Out := some (Out.of (.agg (xA pf rf vf fr B C R Q)))
def xB2 : Nat → Nat := ls [fadd (vf (w64 (fr + 1)) 4000 0) (xR pf tf rf fr), fadd (vf (w64 (fr + 1)) 4000 1) (tf (pf (rf (w64 (fr + 5))) 2000)), fadd (vf (w64 (fr + 1)) 4000 2) (tf (pf (rf (w64 (fr + 6))) 2000))]
def xB3 : Nat → Nat := ls [fadd (vf (w64 (fr + 1)) 4000 0) (vf (w64 (fr + 4)) 3000 0), fadd (vf (w64 (fr + 1)) 4000 1) (vf (w64 (fr + 4)) 3000 1), fadd (vf (w64 (fr + 1)) 4000 2) (vf (w64 (fr + 4)) 3000 2)]
def xD : Int := w64 (1 + pf (rf (w64 (fr + 4))) 3)
def xQ : Nat := tf (w64 (1 + w64 ((pf (rf (w64 (fr + 8))) 2500).tdiv (xD pf rf fr))))
noncomputable def xPu (o : Option Out) : Option Out := gate (FSpec Tryz.prog 80 [V 0 0 0, iA (pf (rf (w64 (fr + 6))) 3), .f (tf (w64 (1 + pf (rf (w64 (fr + 5))) 3000)))] (V x y w)) o
noncomputable def x56 : Option Out := gR n hs rf (w64 (fr + 6)) (gR n hs rf (w64 (fr + 5)) (xPu pf tf rf x y w fr (cond (xK pf rf fr == 6) (gR n hs rf (w64 (fr + 8)) (gR n hs rf (w64 (fr + 4)) (cond ((!(xD pf rf fr == 0)) && true) (xO pf rf vf fr (ls [x, y, w]) z3 (xR pf tf rf fr) (xQ pf tf rf fr)) none))) (xO pf rf vf fr (ls [x, y, w]) z3 (xR pf tf rf fr) 0))))
def x4 : Option Out := cond (noughtB (vf (w64 (fr + 4)) 3000 0) (vf (w64 (fr + 4)) 3000 1) (vf (w64 (fr + 4)) 3000 2)) (xO pf rf vf fr (ls [0, one, 0]) z3 (xR pf tf rf fr) 0) (xO pf rf vf fr (vf (w64 (fr + 4)) 3000) z3 (xR pf tf rf fr) 0)
noncomputable def xX : Option Out := gR n hs rf fr (gV n hs vf (w64 (fr + 1)) 4000 (gR n hs rf (w64 (fr + 7)) (gV n hs vf (w64 (fr + 4)) 3000 (gR n hs rf (w64 (fr + 8))
  (cond (xK pf rf fr == 1) (xO pf rf vf fr z3 z3 (xR pf tf rf fr) 0) (cond (xK pf rf fr == 2) (gR n hs rf (w64 (fr + 5)) (gR n hs rf (w64 (fr + 6)) (xO pf rf vf fr (xB2 pf tf rf vf fr) z3 0 0))) (cond (xK pf rf fr == 3) (gV n hs vf (w64 (fr + 9)) 4000 (xO pf rf vf fr (xB3 vf fr) (ls [vf (w64 (fr + 9)) 4000 0, vf (w64 (fr + 9)) 4000 1, vf (w64 (fr + 9)) 4000 2]) 0 0))
    (cond (xK pf rf fr == 5) (cond (xK pf rf fr == 5) (x56 n hs pf tf rf vf x y w fr) (x4 pf tf rf vf fr)) (cond (xK pf rf fr == 6) (x56 n hs pf tf rf vf x y w fr) (x4 pf tf rf vf fr))))))))))
theorem xs_ev : ev Tryz.prog (M1 pf tf) [rwK rf, vcK vf, kS Tryz.prog 80 fun _ => V x y w] noL Tryz.f57 [sI n hs, iA fr, iA 1] ret = xX n hs pf tf rf vf x y w fr := by kernel_rfl
end
def rdP (x : Nat) : Nat := fadd (fmul x k1000) 4602678819172646912
def rdB (x : Nat) : Bool := fitI .i64 (rdP (cond (flt x 0) (fneg x) x))
def rdI (x : Nat) : Int := cond (flt x 0) (w64 (0 - f2i .i64 (rdP (fneg x)))) (f2i .i64 (rdP x))
theorem rd_ev (tf : Int → Nat) (x : Nat) : ev Tryz.prog [⟨28, eI fun n => .f (tf n)⟩] [] noL Tryz.f83 [.f x] ret = cond (flt x 0) (cond (fitI .i64 (rdP (fneg x)) || false) (some (Out.of (.f (tf (w64 (0 - f2i .i64 (rdP (fneg x)))))))) none) (cond (fitI .i64 (rdP x) || false) (some (Out.of (.f (tf (f2i .i64 (rdP x)))))) none) := by kernel_rfl
theorem rd_spec {x : Nat} (h : rdB x = true) : FSpec Tryz.prog 83 [.f x] (.f (mth (rdI x))) := by
  refine sp (e_cons (eI_ok mthou) e_nil) Tryz.func83 (by kernel_rfl) (by kernel_rfl) rfl ((rd_ev mth x).trans ?_)
  unfold rdB at h
  unfold rdI
  cases hf : flt x 0 <;> rw [hf] at h
  · rw [show fitI .i64 (rdP x) = true from h]; rfl
  · rw [show fitI .i64 (rdP (fneg x)) = true from h]; rfl
end Go.Proofs.YtngjiggplabfkaaGreat.Hs.So
