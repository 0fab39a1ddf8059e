/-
  A quarter turn of a box and a ray that may be: what is met is met. Of no particular program.
-/
import Derived.Test.YtfdfnnmgpjamdaiGreatQuad2
namespace Go.Proofs.YtfdfnnmgpjamdaiGreat
open Go.Ev

/-! ### Rays that may be -/
structure RayOk (r : Nat → Nat) : Prop where
  o : ∀ i, i < 3 → Nr (r i)
  d : ∀ i, i < 3 → Nr (r (3 + i))
  far : ∀ i, i < 3 → key (r (3 + i)) = 0 ∨ 4562254508917369340 ≤ key (r (3 + i)) ∨ key (r (3 + i)) ≤ -4562254508917369340
  nz : key (r 3) ≠ 0 ∨ key (r 4) ≠ 0 ∨ key (r 5) ≠ 0
  l : Nr (r 6)
  lp : 0 ≤ key (r 6)
theorem clean_same {x : Nat} (h : Nr x) (hf : key x = 0 ∨ 4562254508917369340 ≤ key x ∨ key x ≤ -4562254508917369340) : feq x (cleanS x) = true := by
  unfold cleanS
  have n1 : isNan 13740701229962882445 = false := by decide +kernel
  have n2 : isNan 4517329193108106637 = false := by decide +kernel
  have k1 : key 13740701229962882445 = -4517329193108106637 := by decide +kernel
  have k2 : key 4517329193108106637 = 4517329193108106637 := by decide +kernel
  rw [fgt_key h.nan n1, flt_key h.nan n2, k1, k2]
  rcases hf with e | e | e
  · rw [decide_eq_true (show -4517329193108106637 < key x by omega), decide_eq_true (show key x < 4517329193108106637 by omega), cond_true, cond_true, feq_key h.nan nan_z, key_z]
    simp [e]
  · rw [decide_eq_false (show ¬ key x < 4517329193108106637 by omega)]
    have : (cond (decide (-4517329193108106637 < key x)) false false) = false := by cases decide (-4517329193108106637 < key x) <;> rfl
    rw [this, cond_false, feq_self, h.nan]; rfl
  · rw [decide_eq_false (show ¬ -4517329193108106637 < key x by omega), cond_false, cond_false, feq_self, h.nan]; rfl
theorem ray_fine {r : Nat → Nat} (h : RayOk r) : rayS r = 0 := by
  have d0 := h.d 0 (by decide)
  have d1 := h.d 1 (by decide)
  have d2 := h.d 2 (by decide)
  simp only [Nat.add_zero] at d0 d1 d2
  have hF : rayF r = false := by
    unfold rayF
    rw [fine_mk (h.o 0 (by decide)) (h.o 1 (by decide)) (h.o 2 (by decide)), fine_mk d0 d1 d2, near_of h.l]; rfl
  have hZ : rayZ r = false := by
    unfold rayZ
    rw [feq_key d0.nan nan_z, feq_key d1.nan nan_z, feq_key d2.nan nan_z, key_z]
    rcases h.nz with e | e | e
    · rw [decide_eq_false e]; rfl
    · rw [decide_eq_false e]; simp
    · rw [decide_eq_false e]; simp
  have hC : rayC r = true := by
    unfold rayC
    rw [clean_same d0 (h.far 0 (by decide)), clean_same d1 (h.far 1 (by decide)), clean_same d2 (h.far 2 (by decide))]; rfl
  have hL : flt (r 6) 0 = false := by
    rw [flt_key h.l.nan nan_z, key_z, decide_eq_false (by have := h.lp; omega)]
  unfold rayS
  rw [hF, hZ, hC, hL]; rfl

/-! ### Boxes that may be -/
structure BoxOk (b : Nat → Nat) : Prop where
  lo : ∀ i, i < 3 → Nr (b i)
  hi : ∀ i, i < 3 → Nr (b (3 + i))
  le : ∀ i, i < 3 → key (b i) ≤ key (b (3 + i))
theorem box_fine {b : Nat → Nat} (h : BoxOk b) : mayS b = 0 :=
  bx_mk ⟨h.lo 0 (by decide), h.lo 1 (by decide), h.lo 2 (by decide), h.hi 0 (by decide), h.hi 1 (by decide), h.hi 2 (by decide), h.le 0 (by decide), h.le 1 (by decide), h.le 2 (by decide)⟩
theorem km_of {b r : Nat → Nat} (hb : BoxOk b) (hr : RayOk r) : KM b r (fun i => key (b i)) (fun i => key (b (3 + i))) (fun i => key (r i)) (fun i => key (r (3 + i))) (key (r 6)) where
  ax := fun i hi => ⟨⟨(hb.lo i hi).fin, rfl⟩, ⟨(hb.hi i hi).fin, rfl⟩, ⟨(hr.o i hi).fin, rfl⟩, ⟨(hr.d i hi).fin, rfl⟩, ⟨(hb.lo i hi).lo, (hb.lo i hi).hi⟩, ⟨(hb.hi i hi).lo, (hb.hi i hi).hi⟩, ⟨(hr.o i hi).lo, (hr.o i hi).hi⟩⟩
  n := hr.l.nan
  kn := rfl
  ok := by unfold badS; rw [box_fine hb, ray_fine hr]; rfl

/-! ### Turned -/
theorem kv_nr {x : Nat} {n : Int} (h : KV x n) (hn : NB n) : Nr x := ⟨h.fin, by rw [h.key]; exact hn.1, by rw [h.key]; exact hn.2⟩
theorem nr_kv {x : Nat} (h : Nr x) : KV x (key x) := ⟨h.fin, rfl⟩
theorem nr_nb {x : Nat} (h : Nr x) : NB (key x) := ⟨h.lo, h.hi⟩
theorem nb_neg {n : Int} (h : NB n) : NB (-n) := by obtain ⟨a, b⟩ := h; exact ⟨by omega, by omega⟩
theorem nb_sgn {s : Bool} {n : Int} (h : NB n) : NB (sgnI s n) := by cases s; exact h; exact nb_neg h
theorem sel_at (j : Nat) (hj : j < 3) (f : Nat → Int) : sel3 j (f 0) (f 1) (f 2) = f j := by
  have h3 : j = 0 ∨ j = 1 ∨ j = 2 := by omega
  rcases h3 with rfl | rfl | rfl <;> rfl
theorem box_at {t b : Nat → Nat} {i : Nat} (hi : i < 3) : boxS' t b i = (loS' fun c => cornS t b c i) ∧ boxS' t b (3 + i) = (hiS' fun c => cornS t b c i) := by
  have h3 : i = 0 ∨ i = 1 ∨ i = 2 := by omega
  rcases h3 with rfl | rfl | rfl <;> exact ⟨rfl, rfl⟩
theorem ray_at {t r : Nat → Nat} {i : Nat} (hi : i < 3) : rayT t r i = pointS t i (r 0) (r 1) (r 2) ∧ rayT t r (3 + i) = dirS t i (r 3) (r 4) (r 5) := by
  have h3 : i = 0 ∨ i = 1 ∨ i = 2 := by omega
  rcases h3 with rfl | rfl | rfl <;> exact ⟨rfl, rfl⟩
theorem sgn_zero (s : Bool) (n : Int) : sgnI s n ≠ 0 ↔ n ≠ 0 := by cases s <;> simp only [sgnI, cond_true, cond_false] <;> omega
section
variable {ax k : Nat} {b r : Nat → Nat} (hax : ax < 3) (hk : k < 4) (hb : BoxOk b) (hr : RayOk r)
include hax hk
include hb in
theorem tbox {i : Nat} (hi : i < 3) : KV (boxS' (qt ax k) b i) (cond (rowQ ax k i).2 (-(key (b (3 + (rowQ ax k i).1)))) (key (b (rowQ ax k i).1))) ∧ KV (boxS' (qt ax k) b (3 + i)) (cond (rowQ ax k i).2 (-(key (b (rowQ ax k i).1))) (key (b (3 + (rowQ ax k i).1)))) := by
  have kb : KB b (fun i => key (b i)) (fun i => key (b (3 + i))) := ⟨fun i hi => nr_kv (hb.lo i hi), fun i hi => nr_kv (hb.hi i hi), hb.le⟩
  rw [(box_at hi).1, (box_at hi).2]
  exact ⟨box_lo kb hax hk hi, box_hi kb hax hk hi⟩
include hr in
theorem tray {i : Nat} (hi : i < 3) : KV (rayT (qt ax k) r i) (sgnI (rowQ ax k i).2 (key (r (rowQ ax k i).1))) ∧ KV (rayT (qt ax k) r (3 + i)) (sgnI (rowQ ax k i).2 (key (r (3 + (rowQ ax k i).1)))) := by
  rw [(ray_at hi).1, (ray_at hi).2]
  have p := point_key hax hk hi (nr_kv (hr.o 0 (by decide))) (nr_kv (hr.o 1 (by decide))) (nr_kv (hr.o 2 (by decide)))
  have d := row_key hax hk hi (nr_kv (hr.d 0 (by decide))) (nr_kv (hr.d 1 (by decide))) (nr_kv (hr.d 2 (by decide)))
  rw [sel_at _ (row_lt ax k i) (fun i => key (r i))] at p
  rw [sel_at _ (row_lt ax k i) (fun i => key (r (3 + i)))] at d
  exact ⟨p, d⟩
include hb in
theorem tboxOk : BoxOk (boxS' (qt ax k) b) where
  lo := fun i hi => by
    have hj := row_lt ax k i
    refine kv_nr (tbox hax hk hb hi).1 ?_
    cases (rowQ ax k i).2
    · exact nr_nb (hb.lo _ hj)
    · exact nb_neg (nr_nb (hb.hi _ hj))
  hi := fun i hi => by
    have hj := row_lt ax k i
    refine kv_nr (tbox hax hk hb hi).2 ?_
    cases (rowQ ax k i).2
    · exact nr_nb (hb.hi _ hj)
    · exact nb_neg (nr_nb (hb.lo _ hj))
  le := fun i hi => by
    have hj := row_lt ax k i
    rw [(tbox hax hk hb hi).1.key, (tbox hax hk hb hi).2.key]
    have := hb.le _ hj
    cases (rowQ ax k i).2
    · exact this
    · simp only [cond_true]; omega
theorem perm_nz {n : Nat → Int} (h : n 0 ≠ 0 ∨ n 1 ≠ 0 ∨ n 2 ≠ 0) : n (rowQ ax k 0).1 ≠ 0 ∨ n (rowQ ax k 1).1 ≠ 0 ∨ n (rowQ ax k 2).1 ≠ 0 := by
  have h1 : ax = 0 ∨ ax = 1 ∨ ax = 2 := by omega
  have h2 : k = 0 ∨ k = 1 ∨ k = 2 ∨ k = 3 := by omega
  rcases h1 with rfl | rfl | rfl <;> rcases h2 with rfl | rfl | rfl | rfl <;> simp only [rowQ] <;> omega
include hr in
theorem trayOk : RayOk (rayT (qt ax k) r) where
  o := fun i hi => kv_nr (tray hax hk hr hi).1 (nb_sgn (nr_nb (hr.o _ (row_lt ax k i))))
  d := fun i hi => kv_nr (tray hax hk hr hi).2 (nb_sgn (nr_nb (hr.d _ (row_lt ax k i))))
  far := fun i hi => by
    rw [(tray hax hk hr hi).2.key]
    have := hr.far _ (row_lt ax k i)
    cases (rowQ ax k i).2 <;> simp only [sgnI, cond_true, cond_false] <;> omega
  nz := by
    have e0 := (tray hax hk hr (i := 0) (by decide)).2.key
    have e1 := (tray hax hk hr (i := 1) (by decide)).2.key
    have e2 := (tray hax hk hr (i := 2) (by decide)).2.key
    have h := perm_nz hax hk (n := fun i => key (r (3 + i))) hr.nz
    rw [show rayT (qt ax k) r 3 = rayT (qt ax k) r (3 + 0) from rfl, show rayT (qt ax k) r 4 = rayT (qt ax k) r (3 + 1) from rfl, show rayT (qt ax k) r 5 = rayT (qt ax k) r (3 + 2) from rfl, e0, e1, e2, sgn_zero, sgn_zero, sgn_zero]
    exact h
  l := hr.l
  lp := hr.lp
end
theorem flipK (s : Bool) (l h o d : Int) : aK (cond s (-h) l) (cond s (-l) h) (sgnI s o) (sgnI s d) = aK l h o d := by
  cases s
  · rfl
  · exact aK_flip l h o d
theorem flipN (c : Nat) (s : Bool) (l h o d n : Int) : aN c (cond s (-h) l) (cond s (-l) h) (sgnI s o) (sgnI s d) n = aN c l h o d n := by
  cases s
  · simp only [cond_false, sgnI]
  · exact aN_flip c l h o d n
theorem flipF (c : Nat) (s : Bool) (l h o d n : Int) : aF c (cond s (-h) l) (cond s (-l) h) (sgnI s o) (sgnI s d) n = aF c l h o d n := by
  cases s
  · simp only [cond_false, sgnI]
  · exact aF_flip c l h o d n
theorem swapB (x y z : Bool) : (x && (z && y)) = (x && (y && z)) ∧ (z && (y && x)) = (x && (y && z)) ∧ (y && (x && z)) = (x && (y && z)) := by cases x <;> cases y <;> cases z <;> decide
/-- TURNED BY QUARTERS, WHATEVER IS MET IS MET. -/
theorem quarter_meet {ax k : Nat} {b r : Nat → Nat} (hax : ax < 3) (hk : k < 4) (hb : BoxOk b) (hr : RayOk r) :
    meetK b r = meetK (boxS' (qt ax k) b) (rayT (qt ax k) r) ∧ feq (meetN b r) (meetN (boxS' (qt ax k) b) (rayT (qt ax k) r)) = true ∧ feq (meetF b r) (meetF (boxS' (qt ax k) b) (rayT (qt ax k) r)) = true := by
  obtain ⟨c, hc⟩ : ∃ c, c = 1074 := ⟨_, rfl⟩
  have h0 := km_of hb hr
  have h1 := km_of (tboxOk hax hk hb) (trayOk hax hk hr)
  have el : ∀ i, i < 3 → key (boxS' (qt ax k) b i) = cond (rowQ ax k i).2 (-(key (b (3 + (rowQ ax k i).1)))) (key (b (rowQ ax k i).1)) := fun i hi => (tbox hax hk hb hi).1.key
  have eh : ∀ i, i < 3 → key (boxS' (qt ax k) b (3 + i)) = cond (rowQ ax k i).2 (-(key (b (rowQ ax k i).1))) (key (b (3 + (rowQ ax k i).1))) := fun i hi => (tbox hax hk hb hi).2.key
  have eo : ∀ i, i < 3 → key (rayT (qt ax k) r i) = sgnI (rowQ ax k i).2 (key (r (rowQ ax k i).1)) := fun i hi => (tray hax hk hr hi).1.key
  have ed : ∀ i, i < 3 → key (rayT (qt ax k) r (3 + i)) = sgnI (rowQ ax k i).2 (key (r (3 + (rowQ ax k i).1))) := fun i hi => (tray hax hk hr hi).2.key
  have g1 : ax = 0 ∨ ax = 1 ∨ ax = 2 := by omega
  have g2 : k = 0 ∨ k = 1 ∨ k = 2 ∨ k = 3 := by omega
  have cm := fun (i j : Nat) (n : Int) => aN_comm c (key (b i)) (key (b (3 + i))) (key (r i)) (key (r (3 + i))) (key (b j)) (key (b (3 + j))) (key (r j)) (key (r (3 + j))) n
  have cf := fun (i j : Nat) (n : Int) => aF_comm c (key (b i)) (key (b (3 + i))) (key (r i)) (key (r (3 + i))) (key (b j)) (key (b (3 + j))) (key (r j)) (key (r (3 + j))) n
  refine meet_same hc h0 h1 ?_ (fun n => ?_) (fun n => ?_)
  · unfold kOk
    simp only [el 0 (by decide), el 1 (by decide), el 2 (by decide), eh 0 (by decide), eh 1 (by decide), eh 2 (by decide), eo 0 (by decide), eo 1 (by decide), eo 2 (by decide), ed 0 (by decide), ed 1 (by decide), ed 2 (by decide), flipK]
    rcases g1 with rfl | rfl | rfl <;> rcases g2 with rfl | rfl | rfl | rfl <;> simp only [rowQ]
    · exact (swapB _ _ _).1
    · exact (swapB _ _ _).1
    · exact (swapB _ _ _).2.1
    · exact (swapB _ _ _).2.1
    · exact (swapB _ _ _).2.2
    · exact (swapB _ _ _).2.2
  · unfold kNear
    simp only [el 0 (by decide), el 1 (by decide), el 2 (by decide), eh 0 (by decide), eh 1 (by decide), eh 2 (by decide), eo 0 (by decide), eo 1 (by decide), eo 2 (by decide), ed 0 (by decide), ed 1 (by decide), ed 2 (by decide), flipN]
    rcases g1 with rfl | rfl | rfl <;> rcases g2 with rfl | rfl | rfl | rfl <;> simp only [rowQ]
    · exact cm 1 2 _
    · exact cm 1 2 _
    · rw [cm 1 2, cm 0 2, cm 0 1]
    · rw [cm 1 2, cm 0 2, cm 0 1]
    · rw [cm 0 1]
    · rw [cm 0 1]
  · unfold kFar
    simp only [el 0 (by decide), el 1 (by decide), el 2 (by decide), eh 0 (by decide), eh 1 (by decide), eh 2 (by decide), eo 0 (by decide), eo 1 (by decide), eo 2 (by decide), ed 0 (by decide), ed 1 (by decide), ed 2 (by decide), flipF]
    rcases g1 with rfl | rfl | rfl <;> rcases g2 with rfl | rfl | rfl | rfl <;> simp only [rowQ]
    · exact cf 1 2 _
    · exact cf 1 2 _
    · rw [cf 1 2, cf 0 2, cf 0 1]
    · rw [cf 1 2, cf 0 2, cf 0 1]
    · rw [cf 0 1]
    · rw [cf 0 1]
end Go.Proofs.YtfdfnnmgpjamdaiGreat
