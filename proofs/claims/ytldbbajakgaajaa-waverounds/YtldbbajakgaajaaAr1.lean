/-
  A law's arguments: three whole numbers, bytes, films, pictures.
-/
import Derived.Test.YtldbbajakgaajaaM4
import Derived.Test.YtldbbajakgaajaaGy
namespace Go.Proofs.Ytldbbajakgaajaa
open Go.Gv Go.RowKit Go.ChangeShapes Go.WideShapes Go.ChangeAt

def u8Of (el : Nat → List AV) (i : Nat) : Int := match el i with
  | [.x (.int .u8 h)] => h
  | _ => 0
theorem u8_wf {n : Int} (h : (Lit.int .u8 n).wf = true) : 0 ≤ n ∧ n ≤ 255 := by
  simp [Lit.wf, IntKind.min, IntKind.max, IntKind.signed, IntKind.bits] at h
  omega
theorem fit_iw {a : AV} {k : IntKind} (h : fitA (.i k) a) : ∃ n, a = .x (.int k n) ∧ (Lit.int k n).wf = true := by rw [fitA] at h; exact h
/-- A row of whole numbers within something. -/
theorem fit_ints {E : Env} {a : AV} {v : Value} (h : fitA (.l 1 [.i .i64]) a) (hr : rel E a v) : ∃ n g, n ≤ maxLen ∧ (∀ i, i < n → (Lit.int .i64 (g i)).wf = true) ∧ rel E (sI n g) v := by
  rw [fitA] at h
  obtain ⟨n, el, rfl, hn, hel⟩ := h
  have key : ∀ i, i < n → el i = [iA (numOf el i)] ∧ (Lit.int .i64 (numOf el i)).wf = true := fun i hi => by
    obtain ⟨a, ha, hf⟩ := fitL_single (hel i hi)
    obtain ⟨m, rfl, hw⟩ := fit_iw hf
    have e : numOf el i = m := by unfold numOf; rw [ha]
    rw [e]
    exact ⟨ha, hw⟩
  exact ⟨n, numOf el, hn, fun i hi => (key i hi).2, sl_like hr fun i hi => (key i hi).1.symm⟩
/-- A row of bytes within something. -/
theorem fit_bytes {E : Env} {a : AV} {v : Value} (h : fitA (.l 1 [.i .u8]) a) (hr : rel E a v) : ∃ n g, n ≤ maxLen ∧ (∀ i, i < n → 0 ≤ g i ∧ g i ≤ 255) ∧ rel E (sB n g) v := by
  rw [fitA] at h
  obtain ⟨n, el, rfl, hn, hel⟩ := h
  have key : ∀ i, i < n → el i = [yA (u8Of el i)] ∧ (Lit.int .u8 (u8Of el i)).wf = true := fun i hi => by
    obtain ⟨a, ha, hf⟩ := fitL_single (hel i hi)
    obtain ⟨m, rfl, hw⟩ := fit_iw hf
    have e : u8Of el i = m := by unfold u8Of; rw [ha]
    rw [e]
    exact ⟨ha, hw⟩
  exact ⟨n, u8Of el, hn, fun i hi => u8_wf (key i hi).2, sl_like hr fun i hi => (key i hi).1.symm⟩
/-- A row of bytes that came in. -/
theorem open_bytes {H : Type} {enc : TypeId × Value → H} {P : Program} {w : World} {r : Reach} {b0 : Nat} {t e : TypeId} {v : Value} {d : DataW H} {p : List MemPlace} (hu : P.underlying t = some (.slice e)) (hk : kds P 2 t = some [.l 1 [.i .u8]]) (hv : Value.okWide P w r b0 t v)
    (h : DataW.Trod enc P w 0 (fun _ => true) true t v d p) : ∃ n g, n ≤ maxLen ∧ (∀ i, i < n → 0 ≤ g i ∧ g i ≤ 255) ∧ rel (Env.all w) (sB n g) v := by
  have hone : v.cells = #[v] := by
    obtain ⟨a, len, cap, rfl⟩ := okWide_slice hu hv
    rfl
  obtain ⟨fuel, hf⟩ := h
  obtain ⟨a, h1, h2⟩ := open_arg hf hk hone
  exact fit_bytes h1 h2
/-- Four cells, one behind the other. -/
theorem fitL_n3 {k0 k1 k2 : Kd} {zs : List AV} (h : fitL [k0, k1, k2] zs) : ∃ x y z, zs = [x, y, z] ∧ fitA k0 x ∧ fitA k1 y ∧ fitA k2 z := by
  match zs, h with
  | [x, y, z], h =>
    simp only [fitL_cons] at h
    exact ⟨x, y, z, rfl, h.1, h.2.1, h.2.2.1⟩
  | [], h => have := fitL_length h; simp at this
  | [_], h => have := fitL_length h; simp at this
  | [_, _], h => have := fitL_length h; simp at this
  | _ :: _ :: _ :: _ :: _, h => have := fitL_length h; simp at this
theorem fitL_n4 {k0 k1 k2 k3 : Kd} {zs : List AV} (h : fitL [k0, k1, k2, k3] zs) : ∃ x y z u, zs = [x, y, z, u] ∧ fitA k0 x ∧ fitA k1 y ∧ fitA k2 z ∧ fitA k3 u := by
  match zs, h with
  | [x, y, z, u], h =>
    simp only [fitL_cons] at h
    exact ⟨x, y, z, u, rfl, h.1, h.2.1, h.2.2.1, h.2.2.2.1⟩
  | [], h => have := fitL_length h; simp at this
  | [_], h => have := fitL_length h; simp at this
  | [_, _], h => have := fitL_length h; simp at this
  | [_, _, _], h => have := fitL_length h; simp at this
  | _ :: _ :: _ :: _ :: _ :: _, h => have := fitL_length h; simp at this
def l3A (l : Nat → Int) : List AV := [iA (l 0), iA (l 1), iA (l 2)]
/-- Three whole numbers. -/
theorem three_arg {E : Env} {zs : List AV} {v : Value} (h : fitL [.i .i64, .i .i64, .i .i64] zs) (hr : rel E (.agg zs) v) : ∃ l : Nat → Int, (∀ i, i < 3 → (Lit.int .i64 (l i)).wf = true) ∧ rel E (.agg (l3A l)) v := by
  obtain ⟨x, y, z, rfl, h0, h1, h2⟩ := fitL_n3 h
  obtain ⟨a, rfl, wa⟩ := fit_iw h0
  obtain ⟨b, rfl, wb⟩ := fit_iw h1
  obtain ⟨c, rfl, wc⟩ := fit_iw h2
  refine ⟨fun i => [a, b, c].getD i 0, fun i hi => ?_, hr⟩
  match i, hi with
  | 0, _ => exact wa
  | 1, _ => exact wb
  | 2, _ => exact wc
end Go.Proofs.Ytldbbajakgaajaa
