/-
  The law: two pictures are the same.
-/
import Derived.Test.YtkibceiellnggaaSk18
namespace Go.Proofs.Ytkibceiellnggaa
open Go.Gv

def zP : Pic := ⟨0, 0, 0, fun _ => 0⟩
theorem nil_like {E : Env} {sz : Nat} {el : Nat → List AV} {v : Value} (h : rel E (.x (.slice none 0 0)) v) : rel E (.sl sz 0 el) v := by
  have := rel_x.1 h
  subst this
  exact rel_sl.2 ⟨none, 0, rfl, Nat.le_refl _, Or.inl rfl⟩
theorem tup2_like {E : Env} {a a' b : AV} {v : Value} (h : rel E (.tup [a, b]) v) (ha : ∀ u, rel E a u → rel E a' u) : rel E (.tup [a', b]) v := by
  obtain ⟨vs, h1, h2⟩ := rel_tup.1 h
  refine rel_tup.2 ⟨vs, h1, ?_⟩
  obtain ⟨u0, t0, e0, r0, h2⟩ := rels_cons.1 h2
  exact rels_cons.2 ⟨u0, t0, e0, ha _ r0, h2⟩
theorem zP_like {E : Env} {v : Value} (h : rel E (.agg picZ) v) : rel E (.agg zP.c) v := by
  obtain ⟨vs, h1, h2⟩ := rel_agg.1 h
  refine rel_agg.2 ⟨vs, h1, ?_⟩
  obtain ⟨u0, t0, e0, r0, h2⟩ := rels_cons.1 h2
  obtain ⟨u1, t1, e1, r1, h2⟩ := rels_cons.1 h2
  obtain ⟨u2, t2, e2, r2, h2⟩ := rels_cons.1 h2
  exact rels_cons.2 ⟨u0, t0, e0, r0, rels_cons.2 ⟨u1, t1, e1, r1, rels_cons.2 ⟨u2, t2, e2, nil_like r2, h2⟩⟩⟩
theorem half_bad' {p : Pic} (h : mayS p.W p.H p.n ≠ 0) : FSpec Try.prog 11 [.agg p.c] (.tup [.agg zP.c, iA (mayS p.W p.H p.n)]) := FSpec.of_res (half_bad h) fun _ _ hr => tup2_like hr fun _ => zP_like
theorem halfR_bad' {p : Pic} (h : mayS p.W p.H p.n ≠ 0) : FSpec Try.prog 12 [.agg p.c] (.tup [.agg zP.c, iA (mayS p.W p.H p.n)]) := FSpec.of_res (halfR_bad h) fun _ _ hr => tup2_like hr fun _ => zP_like
theorem halves_bad' {p : Pic} (f : Nat → Pic) (h : mayS p.W p.H p.n ≠ 0) : FSpec Try.prog 14 [.agg p.c] (.tup [.sl 3 0 fun j => (f j).c, iA (mayS p.W p.H p.n)]) := FSpec.of_res (halves_bad h) fun _ _ hr => tup2_like hr fun _ => nil_like
theorem atR_bad' {p : Pic} {w u v : Int} (h : matS p.W p.H p.n w u v ≠ 0) : FSpec Try.prog 8 [.agg p.c, iA w, iA u, iA v] (.tup [sB 0 fun _ => 0, iA (matS p.W p.H p.n w u v)]) := FSpec.of_res (atR_bad h) fun _ _ hr => tup2_like hr fun _ => nil_like
theorem strF_congr {n : Nat} {f g : Nat → Int} (h : ∀ i, i < n → f i = g i) : strF n f = strF n g := by
  rw [strF_eq]
  unfold strR
  rw [List.map_congr_left fun i hi => h i (List.mem_range.1 hi)]
theorem sm_ev (p q : Pic) : ev Try.prog [] [] noL Try.f13 [.agg p.c, .agg q.c] ret =
    cond (allB p.n (fun _ => true) || !(decide ((cond (p.W == q.W) (p.H == q.H) false) = true) && true)) (cond (allB q.n (fun _ => true) || !(decide ((cond (p.W == q.W) (p.H == q.H) false) = true) && true))
      (some (Out.of (.x (.bool (cond (cond (p.W == q.W) (p.H == q.H) false) ((strF p.n p.px).toList == (strF q.n q.px).toList) false))))) none) none := by kernel_rfl
theorem same_spec (p : Pic) : FSpec Try.prog 13 [.agg p.c, .agg p.c] (.x (.bool true)) := by
  refine gspec e_nil k_nil Try.func13 (by kernel_rfl) (by kernel_rfl) noL_ok rfl ((sm_ev p p).trans ?_)
  rw [allB_true fun _ _ => rfl, BEq.rfl, BEq.rfl, BEq.rfl]
  rfl
theorem hv_ev (p : Pic) : ev Try.prog [] [] noL Try.f6 [.agg p.c] ret = some (Out.of (.x (.bool (decide ((p.n : Int) > 1600))))) := by kernel_rfl
theorem hv_spec (p : Pic) : FSpec Try.prog 6 [.agg p.c] (.x (.bool (decide ((p.n : Int) > 1600)))) :=
  gspec e_nil k_nil Try.func6 (by kernel_rfl) (by kernel_rfl) noL_ok rfl (hv_ev p)
/-! ### The law's loop -/
def lwS (q : Pic) (M : Nat) (f : Nat → Pic) (k : Int) : St := mkS 136 [(8, .x (.bool false)), (10, iA 0), (15, .sl 3 M fun j => (f j).c), (16, .own 0 0), (17, iA k)] [.c q.c]
def lwE (M : Nat) (f : Nat → Pic) (k : Int) (b : Bool) : St := mkS 136 [(8, .x (.bool b)), (10, iA 0), (15, .sl 3 M fun j => (f j).c), (17, iA k)] []
section
variable (q h : Pic) (M : Nat) (f : Nat → Pic) (k : Int)
theorem lw_step : evC Try.prog [] [kfix 13 [.agg (f k.toNat).c, .agg q.c] (.x (.bool true)), kfix 12 [.agg q.c] (.tup [.agg h.c, iA 0])] noL (loopAt Try.f3 0) (lwS q M f k) (finN [8, 10, 15, 16, 17] [some 0]) =
    cond (decide (k < M)) (gate ([AV.agg (f k.toNat).c, .agg q.c] = [AV.agg (f k.toNat).c, .agg q.c]) (cond (((decide (0 ≤ k) && decide (k < M)) || false) && true) (cond (cond (q.W == 1) (q.H == 1) false) none (gate ([AV.agg q.c] = [AV.agg q.c]) (some ⟨.normal, lwS h M f (w64 (k + 1)), .any⟩))) none)) none := by kernel_rfl
theorem lw_end : evC Try.prog [] [kfix 13 [.agg (f k.toNat).c, .agg q.c] (.x (.bool true)), ⟨12, fun _ _ => none⟩] noL (loopAt Try.f3 0) (lwS q M f k) (finX [8, 10, 15, 17] []) =
    cond (decide (k < M)) (gate ([AV.agg (f k.toNat).c, .agg q.c] = [AV.agg (f k.toNat).c, .agg q.c]) (cond (((decide (0 ≤ k) && decide (k < M)) || false) && true) (cond (cond (q.W == 1) (q.H == 1) false) (some ⟨.ret, lwE M f k (k == w64 ((M : Int) - 1)), .any⟩) none) none)) (some ⟨.exit 0, lwE M f k false, .any⟩) := by kernel_rfl
end
end Go.Proofs.Ytkibceiellnggaa
