/-
  No coordinate of a field that may be is a NaN.
-/
import Derived.Test.YtiagpcjonaahlaaGreatGr5
namespace Go.Proofs.YtiagpcjonaahlaaGreat
open Go.Gv Ieee
open Go.Ev (cn fadd fsub fmul fdiv feq flt fle fgt fge isNan)

def Fn (x : Nat) : Prop := ∃ s m i, double.read x = .number s m i
theorem fn_near {x : Nat} (h : nearS x = true) : Fn x := by
  obtain ⟨m, i, h1, _⟩ := Ev.read_fin (nr_of h).fin
  exact ⟨_, m, i, h1⟩
theorem fn_whole {n : Int} (h1 : -9007199254740992 < n) (h2 : n < 9007199254740992) : Fn (itof n) := by
  have hn : isNan (FloatKind.f64.nearest n) = false := Ev.isNan_nearest (decide (n < 0)) n.natAbs 0
  unfold itof
  rw [Ev.cn_of_not hn]
  show Fn (double.nearest (decide (n < 0)) n.natAbs 0)
  by_cases h0 : n = 0
  · subst h0
    exact ⟨_, _, _, rfl⟩
  · have hm : n.natAbs < 9007199254740992 := by omega
    have hl : n.natAbs.log2 < 53 := (Nat.log2_lt (by omega)).2 hm
    obtain ⟨k, hk⟩ := Ev.read_nearest (decide (n < 0)) (m := n.natAbs) (p := 0) (by omega) hm (by omega) (by omega)
    exact ⟨_, _, _, hk⟩
theorem mul_nan {x y : Nat} (hx : Fn x) (hy : Fn y) : isNan (fmul x y) = false := by
  obtain ⟨s, m, i, hx⟩ := hx
  obtain ⟨t, n, j, hy⟩ := hy
  unfold fmul
  cases h : double.mul x y with
  | some r => exact Ev.isNan_mul h
  | none =>
    exfalso
    have h : ((double.read x).product (double.read y)).map double.write = none := h
    rw [hx, hy] at h
    simp [Datum.product] at h
theorem add_nan {x y : Nat} (hx : Fn x) (hy : isNan y = false) : isNan (fadd x y) = false := by
  obtain ⟨s, m, i, hx⟩ := hx
  unfold fadd
  cases h : double.add x y with
  | some r => exact Ev.isNan_add h
  | none =>
    exfalso
    have h : ((double.read x).sum (double.read y)).map double.write = none := h
    have hy : (double.read y).isNaN = false := hy
    rw [hx] at h
    cases hr : double.read y with
    | number t n j => rw [hr] at h; simp [Datum.sum] at h
    | infinity t => rw [hr] at h; simp [Datum.sum] at h
    | nan t f => rw [hr] at hy; simp [Datum.isNaN] at hy
theorem div_nan {x : Nat} (hx : Fn x) : isNan (fdiv x 4652007308841189376) = false := by
  obtain ⟨s, m, i, hx⟩ := hx
  unfold fdiv
  cases h : double.div x 4652007308841189376 with
  | some r => exact Ev.isNan_div h
  | none =>
    exfalso
    have h : ((double.read x).quotient _ (double.read 4652007308841189376)).map double.write = none := h
    have hc : ∃ m i, double.read 4652007308841189376 = .number false (m + 1) i := ⟨_, _, rfl⟩
    obtain ⟨n, j, hc⟩ := hc
    rw [hx, hc] at h
    simp [Datum.quotient] at h
/-! ### A field that may be -/
structure Facts (F : Fd) : Prop where
  dims : F.dims = false
  n : ((F.n : Int) == w64 (F.W * F.H)) = true
  far : F.far = false
  all : F.okAll = true
theorem may_facts {F : Fd} (he : F.mayN = 0) : Facts F := by
  unfold Fd.mayN at he
  cases h1 : F.dims
  · cases h2 : ((F.n : Int) == w64 (F.W * F.H))
    · rw [h1, h2] at he; cases he
    · cases h3 : skBad F.sk
      · cases h4 : F.far
        · cases h5 : fgt F.sd 0
          · rw [h1, h2, h3, h4, h5] at he; cases he
          · cases h6 : F.okAll
            · rw [h1, h2, h3, h4, h5, h6] at he; cases he
            · exact ⟨h1, h2, h4, h6⟩
        · rw [h1, h2, h3, h4] at he; cases he
      · rw [h1, h2, h3] at he; cases he
  · rw [h1] at he; cases he
theorem dim_of {F : Fd} (f : Facts F) : Dim F F.W.toNat F.H.toNat := by
  have hd := f.dims
  unfold Fd.dims at hd
  have a1 : ¬ F.W < 2 := fun h => by rw [decide_eq_true h] at hd; cases hd
  have a2 : ¬ F.W > 8 := fun h => by rw [decide_eq_false a1, decide_eq_true h] at hd; cases hd
  have a3 : ¬ F.H < 2 := fun h => by rw [decide_eq_false a1, decide_eq_false a2, decide_eq_true h] at hd; cases hd
  have a4 : ¬ F.H > 8 := fun h => by rw [decide_eq_false a1, decide_eq_false a2, decide_eq_false a3, decide_eq_true h] at hd; cases hd
  have hn := eq_of_beq f.n
  have hW : F.W = (F.W.toNat : Int) := by omega
  have hH : F.H = (F.H.toNat : Int) := by omega
  refine ⟨hW, hH, ?_, by omega, by omega, by omega, by omega⟩
  have hle : F.W.toNat * F.H.toNat ≤ 8 * 8 := Nat.mul_le_mul (by omega) (by omega)
  rw [hW, hH, ← Int.natCast_mul, w64_id (by omega) (by omega)] at hn
  omega
theorem pt_nan {F : Fd} (f : Facts F) {q : Nat} (hq : q < F.n) : isNan (pt F q 0) = false ∧ isNan (pt F q 1) = false ∧ isNan (pt F q 2) = false := by
  have d := dim_of f
  have hf := f.far
  unfold Fd.far at hf
  have hfine : fineS (F.at_ 0) (F.at_ 1) (F.at_ 2) = true := by
    cases h : fineS (F.at_ 0) (F.at_ 1) (F.at_ 2)
    · rw [h] at hf; cases hf
    · rfl
  have hnear : nearS F.sd = true := by
    rw [hfine] at hf
    cases h : nearS F.sd
    · rw [h] at hf; cases hf
    · rfl
  have h0 : nearS (F.at_ 0) = true ∧ nearS (F.at_ 1) = true ∧ nearS (F.at_ 2) = true := by
    unfold fineS at hfine
    revert hfine
    cases nearS (F.at_ 0) <;> cases nearS (F.at_ 1) <;> cases nearS (F.at_ 2) <;> intro h <;> first | exact ⟨rfl, rfl, rfl⟩ | cases h
  have hb : hBad (F.hs q) = false := by
    have := f.all
    unfold Fd.okAll at this
    have h1 := List.all_eq_true.1 this q (List.mem_range.2 hq)
    simpa using h1
  have hh : -1000000 ≤ F.hs q ∧ F.hs q ≤ 1000000 := by
    unfold hBad at hb
    constructor
    · apply Int.not_lt.1
      intro h
      rw [decide_eq_true h] at hb
      cases hb
    · apply Int.not_lt.1
      intro h
      have h2 : ¬ F.hs q < -1000000 := by omega
      rw [decide_eq_false h2, decide_eq_true (show F.hs q > 1000000 from h)] at hb
      cases hb
  have hw := d.w1
  have hx : q % F.W.toNat < 8 := Nat.lt_of_lt_of_le (Nat.mod_lt _ (by omega)) d.w8
  have hy : q / F.W.toNat < 8 := by
    have h8 := d.h8
    have hn := d.n
    have : q / F.W.toNat < F.H.toNat := Nat.div_lt_of_lt_mul (by omega)
    omega
  have fsd := fn_near hnear
  have whole : ∀ k : Nat, k < 8 → Fn (itof (k : Int)) := fun k hk => fn_whole (by omega) (by omega)
  exact ⟨add_nan (fn_near h0.1) (mul_nan (whole _ hx) fsd), add_nan (fn_near h0.2.1) (div_nan (fn_whole (by omega) (by omega))), add_nan (fn_near h0.2.2) (mul_nan (whole _ hy) fsd)⟩
theorem tri_eq {a b c : Nat → Nat} (sk : Int) (ha : isNan (a 0) = false ∧ isNan (a 1) = false ∧ isNan (a 2) = false) (hb : isNan (b 0) = false ∧ isNan (b 1) = false ∧ isNan (b 2) = false) (hc : isNan (c 0) = false ∧ isNan (c 1) = false ∧ isNan (c 2) = false) : eqS (tri a b c) sk = true := by
  have e : ∀ {x}, isNan x = false → feq x x = true := fun h => by rw [Ev.feq_self, h]; rfl
  have z : feq 0 0 = true := by decide +kernel
  show ((feq (a 0) (a 0) && (feq (a 1) (a 1) && (feq (a 2) (a 2) && true))) && ((feq (b 0) (b 0) && (feq (b 1) (b 1) && (feq (b 2) (b 2) && true))) && ((feq (c 0) (c 0) && (feq (c 1) (c 1) && (feq (c 2) (c 2) && true))) && (feq 0 0 && (feq 0 0 && ((sk == sk) && true)))))) = true
  rw [e ha.1, e ha.2.1, e ha.2.2, e hb.1, e hb.2.1, e hb.2.2, e hc.1, e hc.2.1, e hc.2.2, z]
  simp
theorem pc_eq {F : Fd} (f : Facts F) {q : Nat} (hq : q < npc F.W.toNat F.H.toNat) : eqS (pc F F.W.toNat q) F.sk = true := by
  have d := dim_of f
  have hw := d.w1
  have hh := d.h1
  have hn := d.n
  generalize F.W.toNat = w at *
  generalize F.H.toNat = h at *
  unfold npc at hq
  have h1 : q / 2 < (h - 1) * (w - 1) := by omega
  have hy : q / 2 / (w - 1) < h - 1 := Nat.div_lt_of_lt_mul (by rw [Nat.mul_comm]; exact h1)
  have hx : q / 2 % (w - 1) < w - 1 := Nat.mod_lt _ (by omega)
  have hb : crn w q + w + 1 < F.n := by
    unfold crn
    have h3 := d.row (y := q / 2 / (w - 1) + 1) (by omega)
    rw [Nat.succ_mul] at h3
    omega
  unfold pc
  cases q % 2 == 0
  · exact tri_eq _ (pt_nan f (by omega)) (pt_nan f (by omega)) (pt_nan f (by omega))
  · exact tri_eq _ (pt_nan f (by omega)) (pt_nan f (by omega)) (pt_nan f (by omega))

/-! ### The law -/
theorem law_bad {F : Fd} {e : Int} (r : Nat → Nat) (c : BadC F e r) (a : BadR F e r) : FSpec Tryz.prog 3 [.agg F.c, .agg (rC r)] (bA true) := by
  refine gspec (ks := LK1 F r e) D2_ok (k_cons (kfix_ok c.bounds) <| k_cons (kfix_ok a.bounds) <| k_cons (kfix_ok c.may) <| k_cons (kfix_ok a.may) <| k_cons (kfix_ok c.pieces) <| k_cons (kfix_ok a.pieces) <| k_cons (kfix_ok c.strike) <| k_cons (kfix_ok a.strike) k_nil) Tryz.func3 (by kernel_rfl) (by kernel_rfl) noL_ok rfl ?_
  rw [law_ev1]
  simp only [w1_eq, w2_eq, BEq.rfl, Bool.not_true, cond_false]
  cases decide ((F.n : Int) > 80) <;> rfl
theorem law_good {F : Fd} (r : Nat → Nat) (f : Facts F) (c : GoodC F F.W.toNat F.H.toNat r) (a : GoodR F F.W.toNat F.H.toNat r) : FSpec Tryz.prog 3 [.agg F.c, .agg (rC r)] (bA true) := by
  have d := dim_of f
  have hnpc : npc F.W.toNat F.H.toNat < 4611686018427387904 := by
    have h1 : (F.H.toNat - 1) * (F.W.toNat - 1) ≤ 8 * 8 := Nat.mul_le_mul (by have := d.h8; omega) (by have := d.w8; omega)
    unfold npc
    omega
  refine gspec (ks := LK2 F r (bx F) (npc F.W.toNat F.H.toNat) (pc F F.W.toNat) (sX F F.W.toNat F.H.toNat r) (sE r)) D2_ok (k_cons (kfix_ok c.bounds) <| k_cons (kfix_ok a.bounds) <| k_cons (kfix_ok c.may) <| k_cons (kfix_ok a.may) <| k_cons (kfix_ok c.pieces) <| k_cons (kfix_ok a.pieces) <| k_cons (kfix_ok c.strike) <| k_cons (kfix_ok a.strike) k_nil)
    Tryz.func3 (by kernel_rfl) (by kernel_rfl) (lwL_ok (F := F) r (pc F F.W.toNat) hnpc fun q hq => pc_eq f hq) rfl ?_
  rw [law_ev2, gate_pos (Sub.refl _), sameB_all, sameS_self]
  simp only [w1_eq, w2_eq, BEq.rfl, Bool.not_true, cond_false, cond_true]
  cases decide ((F.n : Int) > 80) <;> rfl
theorem law_spec (F : Fd) (r : Nat → Nat) (hn : F.n < 4611686018427387904) : FSpec Tryz.prog 3 [.agg F.c, .agg (rC r)] (bA true) := by
  by_cases he : F.mayN = 0
  · have f := may_facts he
    have d := dim_of f
    have hk := known_ok d he
    have hm := rmay_good d he
    cases hb : mayS (bx F) == 0
    · rw [hb] at hk hm
      exact law_bad r (badC r ⟨by decide, hk⟩) (badR r (by decide) hm)
    · rw [hb] at hk hm
      exact law_good r f (goodC r ⟨d, hk⟩) (goodR r d hm)
  · exact law_bad r (badC r ⟨he, known_bad hn he⟩) (badR r he (rmay_bad hn he))
end Go.Proofs.YtiagpcjonaahlaaGreat
