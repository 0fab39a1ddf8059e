/-
  Where a ray meets a box, told by keys; and that a quarter turn leaves it as it is. Of no particular program.
-/
import Derived.Test.YtfdfnnmgpjamdaiGreatQuad
namespace Go.Proofs.YtfdfnnmgpjamdaiGreat
open Go.Ev

/-! ### Corners -/
theorem lo_key {g : Nat → Nat} {n : Nat → Int} (h : ∀ c, c < 8 → KV (g c) (n c)) : KV (loS' g) (min (min (min (min (min (min (min (min (n 0) (n 0)) (n 1)) (n 2)) (n 3)) (n 4)) (n 5)) (n 6)) (n 7)) :=
  less_key (less_key (less_key (less_key (less_key (less_key (less_key (less_key (h 0 (by decide)) (h 0 (by decide))) (h 1 (by decide))) (h 2 (by decide))) (h 3 (by decide))) (h 4 (by decide))) (h 5 (by decide))) (h 6 (by decide))) (h 7 (by decide))
theorem hi_key {g : Nat → Nat} {n : Nat → Int} (h : ∀ c, c < 8 → KV (g c) (n c)) : KV (hiS' g) (max (max (max (max (max (max (max (max (n 0) (n 0)) (n 1)) (n 2)) (n 3)) (n 4)) (n 5)) (n 6)) (n 7)) :=
  more_key (more_key (more_key (more_key (more_key (more_key (more_key (more_key (h 0 (by decide)) (h 0 (by decide))) (h 1 (by decide))) (h 2 (by decide))) (h 3 (by decide))) (h 4 (by decide))) (h 5 (by decide))) (h 6 (by decide))) (h 7 (by decide))
theorem kv_cond {b : Bool} {x y : Nat} {p q : Int} (hx : KV x p) (hy : KV y q) : KV (cond b x y) (cond b p q) := by cases b <;> assumption
/-- The numbers of a box, by their keys. -/
structure KB (b : Nat → Nat) (l h : Nat → Int) : Prop where
  lo : ∀ i, i < 3 → KV (b i) (l i)
  hi : ∀ i, i < 3 → KV (b (3 + i)) (h i)
  le : ∀ i, i < 3 → l i ≤ h i
theorem corn_key {ax k i c : Nat} {b : Nat → Nat} {l h : Nat → Int} (hb : KB b l h) (hax : ax < 3) (hk : k < 4) (hi : i < 3) :
    KV (cornS (qt ax k) b c i) (sgnI (rowQ ax k i).2 (sel3 (rowQ ax k i).1 (cond (Nat.testBit c 0) (h 0) (l 0)) (cond (Nat.testBit c 1) (h 1) (l 1)) (cond (Nat.testBit c 2) (h 2) (l 2)))) :=
  point_key hax hk hi (kv_cond (hb.hi 0 (by decide)) (hb.lo 0 (by decide))) (kv_cond (hb.hi 1 (by decide)) (hb.lo 1 (by decide))) (kv_cond (hb.hi 2 (by decide)) (hb.lo 2 (by decide)))
theorem kv_eq {x : Nat} {p q : Int} (h : KV x p) (e : p = q) : KV x q := e ▸ h
theorem row_lt (ax k i : Nat) : (rowQ ax k i).1 < 3 := by
  unfold rowQ; split <;> decide
theorem box_lo {ax k i : Nat} {b : Nat → Nat} {l h : Nat → Int} (hb : KB b l h) (hax : ax < 3) (hk : k < 4) (hi : i < 3) :
    KV (loS' fun c => cornS (qt ax k) b c i) (cond (rowQ ax k i).2 (-(h (rowQ ax k i).1)) (l (rowQ ax k i).1)) := by
  refine kv_eq (lo_key fun c _ => corn_key (c := c) hb hax hk hi) ?_
  have hj := row_lt ax k i
  generalize (rowQ ax k i).1 = j at hj
  generalize (rowQ ax k i).2 = s
  have l0 := hb.le 0 (by decide)
  have l1 := hb.le 1 (by decide)
  have l2 := hb.le 2 (by decide)
  have h3 : j = 0 ∨ j = 1 ∨ j = 2 := by omega
  rcases h3 with rfl | rfl | rfl <;> cases s <;> simp [sgnI, sel3, Nat.testBit] <;> omega
theorem box_hi {ax k i : Nat} {b : Nat → Nat} {l h : Nat → Int} (hb : KB b l h) (hax : ax < 3) (hk : k < 4) (hi : i < 3) :
    KV (hiS' fun c => cornS (qt ax k) b c i) (cond (rowQ ax k i).2 (-(l (rowQ ax k i).1)) (h (rowQ ax k i).1)) := by
  refine kv_eq (hi_key fun c _ => corn_key (c := c) hb hax hk hi) ?_
  have hj := row_lt ax k i
  generalize (rowQ ax k i).1 = j at hj
  generalize (rowQ ax k i).2 = s
  have l0 := hb.le 0 (by decide)
  have l1 := hb.le 1 (by decide)
  have l2 := hb.le 2 (by decide)
  have h3 : j = 0 ∨ j = 1 ∨ j = 2 := by omega
  rcases h3 with rfl | rfl | rfl <;> cases s <;> simp [sgnI, sel3, Nat.testBit] <;> omega

/-! ### Operations, by keys -/
def valK (n : Int) : Int := cond (decide (n < 0)) (-(rv 52 n.natAbs : Int)) (rv 52 n.natAbs)
theorem val_K (x : Nat) : val x = valK (key x) := by
  have h := key_abs x
  have hz := val_zero (x := x)
  have p := val_pos (x := x)
  have q := val_negative (x := x)
  have a := val_abs x
  unfold valK
  rw [h]
  by_cases g : key x < 0
  · rw [decide_eq_true g, cond_true]; omega
  · rw [decide_eq_false g, cond_false]; omega
theorem valK_neg (n : Int) : valK (-n) = - valK n := by
  unfold valK
  rw [Int.natAbs_neg]
  rcases Int.lt_trichotomy n 0 with h | h | h
  · rw [decide_eq_true h, decide_eq_false (show ¬ -n < 0 by omega), cond_true, cond_false, Int.neg_neg]
  · subst h; simp [rv_zero]
  · rw [decide_eq_false (show ¬ n < 0 by omega), decide_eq_true (show -n < 0 by omega), cond_true, cond_false]
theorem valK_zero {n : Int} (h : n ≠ 0) : valK n ≠ 0 := by
  unfold valK
  have : 0 < n.natAbs := by omega
  have := rv_lt 52 this
  rw [rv_zero] at this
  cases decide (n < 0) <;> simp only [cond_true, cond_false] <;> omega
def subK (a b : Int) : Int := KR (valK a - valK b) 1
theorem subK_neg (a b : Int) : subK (-a) (-b) = - subK a b := by
  unfold subK
  rw [valK_neg, valK_neg, ← KR_neg _ (by decide)]
  congr 1; omega
def divK (c : Nat) (a d : Int) : Int := KR (valK a * sg (valK d) * ((2 ^ c : Nat) : Int)) (valK d).natAbs
theorem sg_neg {v : Int} (h : v ≠ 0) : sg (-v) = - sg v := by
  unfold sg
  by_cases g : v < 0
  · rw [decide_eq_true g, decide_eq_false (show ¬ -v < 0 by omega)]; rfl
  · rw [decide_eq_false g, decide_eq_true (show -v < 0 by omega)]; rfl
theorem divK_neg (c : Nat) (a : Int) {d : Int} (h : d ≠ 0) : divK c (-a) (-d) = divK c a d := by
  unfold divK
  rw [valK_neg, valK_neg, sg_neg (valK_zero h), Int.natAbs_neg, Int.neg_mul_neg]
/-- The bound of what is near. -/
abbrev NB (n : Int) : Prop := -4696837146684686336 ≤ n ∧ n ≤ 4696837146684686336
theorem quot_key {c x o d : Nat} {a b e : Int} (hc : c = 1074) (hx : KV x a) (ho : KV o b) (hd : KV d e) (na : NB a) (nb : NB b) (he : e ≠ 0) : key (fdiv (fsub x o) d) = divK c (subK a b) e ∧ isNan (fdiv (fsub x o) d) = false := by
  have hf : isFin (fsub x o) = true := sub_fin hx.fin ho.fin (by rw [hx.key]; exact na.1) (by rw [hx.key]; exact na.2) (by rw [ho.key]; exact nb.1) (by rw [ho.key]; exact nb.2)
  have hs := (key_sub hx.fin ho.fin).1
  have hv : val d ≠ 0 := by rw [val_K, hd.key]; exact valK_zero he
  obtain ⟨k1, k2⟩ := key_div hc hf hd.fin hv
  refine ⟨?_, k2⟩
  rw [k1, val_K (fsub x o), hs, val_K d, hd.key, val_K x, hx.key, val_K o, ho.key]
  rfl

/-! ### One axis -/
def aK (L H O D : Int) : Bool := cond (decide (D = 0)) (decide (L ≤ O) && decide (O ≤ H)) true
def aA (c : Nat) (L H O D : Int) : Int := cond (decide (D < 0)) (divK c (subK H O) D) (divK c (subK L O) D)
def aB (c : Nat) (L H O D : Int) : Int := cond (decide (D < 0)) (divK c (subK L O) D) (divK c (subK H O) D)
def aN (c : Nat) (L H O D n : Int) : Int := cond (decide (D = 0)) n (max (aA c L H O D) n)
def aF (c : Nat) (L H O D f : Int) : Int := cond (decide (D = 0)) f (min (aB c L H O D) f)
theorem aK_flip (L H O D : Int) : aK (-H) (-L) (-O) (-D) = aK L H O D := by
  unfold aK
  by_cases h : D = 0
  · rw [decide_eq_true h, decide_eq_true (show -D = 0 by omega), cond_true, cond_true, Bool.and_comm]
    congr 1
    · exact decide_eq_decide.2 (by omega)
    · exact decide_eq_decide.2 (by omega)
  · rw [decide_eq_false h, decide_eq_false (show ¬ -D = 0 by omega)]; rfl
theorem aA_flip (c : Nat) (L H O : Int) {D : Int} (h : D ≠ 0) : aA c (-H) (-L) (-O) (-D) = aA c L H O D := by
  unfold aA
  rw [subK_neg, subK_neg, divK_neg c _ h, divK_neg c _ h]
  by_cases g : D < 0
  · rw [decide_eq_true g, decide_eq_false (show ¬ -D < 0 by omega), cond_true, cond_false]
  · rw [decide_eq_false g, decide_eq_true (show -D < 0 by omega), cond_true, cond_false]
theorem aB_flip (c : Nat) (L H O : Int) {D : Int} (h : D ≠ 0) : aB c (-H) (-L) (-O) (-D) = aB c L H O D := by
  unfold aB
  rw [subK_neg, subK_neg, divK_neg c _ h, divK_neg c _ h]
  by_cases g : D < 0
  · rw [decide_eq_true g, decide_eq_false (show ¬ -D < 0 by omega), cond_true, cond_false]
  · rw [decide_eq_false g, decide_eq_true (show -D < 0 by omega), cond_true, cond_false]
theorem aN_flip (c : Nat) (L H O D n : Int) : aN c (-H) (-L) (-O) (-D) n = aN c L H O D n := by
  unfold aN
  by_cases h : D = 0
  · rw [decide_eq_true h, decide_eq_true (show -D = 0 by omega), cond_true, cond_true]
  · rw [decide_eq_false h, decide_eq_false (show ¬ -D = 0 by omega), cond_false, cond_false, aA_flip c L H O h]
theorem aF_flip (c : Nat) (L H O D n : Int) : aF c (-H) (-L) (-O) (-D) n = aF c L H O D n := by
  unfold aF
  by_cases h : D = 0
  · rw [decide_eq_true h, decide_eq_true (show -D = 0 by omega), cond_true, cond_true]
  · rw [decide_eq_false h, decide_eq_false (show ¬ -D = 0 by omega), cond_false, cond_false, aB_flip c L H O h]
theorem aN_comm (c : Nat) (L H O D L' H' O' D' n : Int) : aN c L H O D (aN c L' H' O' D' n) = aN c L' H' O' D' (aN c L H O D n) := by
  unfold aN
  generalize aA c L H O D = x
  generalize aA c L' H' O' D' = y
  generalize decide (D = 0) = u
  generalize decide (D' = 0) = v
  cases u <;> cases v <;> simp only [cond_true, cond_false] <;> omega
theorem aF_comm (c : Nat) (L H O D L' H' O' D' n : Int) : aF c L H O D (aF c L' H' O' D' n) = aF c L' H' O' D' (aF c L H O D n) := by
  unfold aF
  generalize aB c L H O D = x
  generalize aB c L' H' O' D' = y
  generalize decide (D = 0) = u
  generalize decide (D' = 0) = v
  cases u <;> cases v <;> simp only [cond_true, cond_false] <;> omega
structure Axd (lo hi o d : Nat) (L H O D : Int) : Prop where
  lo : KV lo L
  hi : KV hi H
  o : KV o O
  d : KV d D
  nl : NB L
  nh : NB H
  no : NB O
theorem key_z : key 0 = 0 := by decide +kernel
theorem nan_z : isNan 0 = false := by decide +kernel
theorem cutOk_key {lo hi o d : Nat} {L H O D : Int} (h : Axd lo hi o d L H O D) : cutOk lo hi o d = aK L H O D := by
  unfold cutOk aK
  rw [feq_key (fin_not_nan h.d.fin) nan_z, fge_key (fin_not_nan h.o.fin) (fin_not_nan h.lo.fin), fle_key (fin_not_nan h.o.fin) (fin_not_nan h.hi.fin), h.d.key, h.o.key, h.lo.key, h.hi.key, key_z]
  cases decide (D = 0) <;> cases decide (L ≤ O) <;> rfl
theorem cut_n {c lo hi o d n : Nat} {L H O D N : Int} (hc : c = 1074) (h : Axd lo hi o d L H O D) (hn : isNan n = false) (kn : key n = N) : isNan (cutN lo hi o d n) = false ∧ key (cutN lo hi o d n) = aN c L H O D N := by
  unfold cutN cutA aN aA
  rw [feq_key (fin_not_nan h.d.fin) nan_z, flt_key (fin_not_nan h.d.fin) nan_z, h.d.key, key_z]
  by_cases hD : D = 0
  · rw [decide_eq_true hD]; exact ⟨hn, kn⟩
  · rw [decide_eq_false hD, cond_false, cond_false]
    obtain ⟨q1, q2⟩ := quot_key hc h.hi h.o h.d h.nh h.no hD
    obtain ⟨q3, q4⟩ := quot_key hc h.lo h.o h.d h.nl h.no hD
    have pick : ∀ {x : Nat} {a : Int}, key x = a → isNan x = false → isNan (cond (fgt x n) x n) = false ∧ key (cond (fgt x n) x n) = max a N := by
      intro x a hx nx
      rw [fgt_key nx hn, hx, kn]
      by_cases g : N < a
      · rw [decide_eq_true g, cond_true]; exact ⟨nx, by omega⟩
      · rw [decide_eq_false g, cond_false]; exact ⟨hn, by omega⟩
    cases decide (D < 0)
    · exact pick q3 q4
    · exact pick q1 q2
theorem cut_f {c lo hi o d n : Nat} {L H O D N : Int} (hc : c = 1074) (h : Axd lo hi o d L H O D) (hn : isNan n = false) (kn : key n = N) : isNan (cutF lo hi o d n) = false ∧ key (cutF lo hi o d n) = aF c L H O D N := by
  unfold cutF cutB aF aB
  rw [feq_key (fin_not_nan h.d.fin) nan_z, flt_key (fin_not_nan h.d.fin) nan_z, h.d.key, key_z]
  by_cases hD : D = 0
  · rw [decide_eq_true hD]; exact ⟨hn, kn⟩
  · rw [decide_eq_false hD, cond_false, cond_false]
    obtain ⟨q1, q2⟩ := quot_key hc h.hi h.o h.d h.nh h.no hD
    obtain ⟨q3, q4⟩ := quot_key hc h.lo h.o h.d h.nl h.no hD
    have pick : ∀ {x : Nat} {a : Int}, key x = a → isNan x = false → isNan (cond (flt x n) x n) = false ∧ key (cond (flt x n) x n) = min a N := by
      intro x a hx nx
      rw [flt_key nx hn, hx, kn]
      by_cases g : a < N
      · rw [decide_eq_true g, cond_true]; exact ⟨nx, by omega⟩
      · rw [decide_eq_false g, cond_false]; exact ⟨hn, by omega⟩
    cases decide (D < 0)
    · exact pick q1 q2
    · exact pick q3 q4

/-! ### Three axes -/
/-- A box and a ray, by their keys. -/
structure KM (b r : Nat → Nat) (L H O D : Nat → Int) (N : Int) : Prop where
  ax : ∀ i, i < 3 → Axd (b i) (b (3 + i)) (r i) (r (3 + i)) (L i) (H i) (O i) (D i)
  n : isNan (r 6) = false
  kn : key (r 6) = N
  ok : badS b r = false
def kOk (L H O D : Nat → Int) : Bool := aK (L 0) (H 0) (O 0) (D 0) && (aK (L 1) (H 1) (O 1) (D 1) && aK (L 2) (H 2) (O 2) (D 2))
def kNear (c : Nat) (L H O D : Nat → Int) (n : Int) : Int := aN c (L 2) (H 2) (O 2) (D 2) (aN c (L 1) (H 1) (O 1) (D 1) (aN c (L 0) (H 0) (O 0) (D 0) n))
def kFar (c : Nat) (L H O D : Nat → Int) (n : Int) : Int := aF c (L 2) (H 2) (O 2) (D 2) (aF c (L 1) (H 1) (O 1) (D 1) (aF c (L 0) (H 0) (O 0) (D 0) n))
theorem meet_keys {c : Nat} {b r : Nat → Nat} {L H O D : Nat → Int} {N : Int} (hc : c = 1074) (h : KM b r L H O D N) :
    meetK b r = (kOk L H O D && decide (kNear c L H O D N ≤ kFar c L H O D (key maxFar))) ∧ (meetK b r = true → isNan (meetN b r) = false ∧ key (meetN b r) = kNear c L H O D N ∧ isNan (meetF b r) = false ∧ key (meetF b r) = kFar c L H O D (key maxFar)) := by
  have hx := h.ax 0 (by decide)
  have hy := h.ax 1 (by decide)
  have hz := h.ax 2 (by decide)
  have hm : isNan maxFar = false := by decide +kernel
  obtain ⟨n1, k1⟩ := cut_n hc hx h.n h.kn
  obtain ⟨n2, k2⟩ := cut_n hc hy n1 k1
  obtain ⟨n3, k3⟩ := cut_n hc hz n2 k2
  obtain ⟨f1, g1⟩ := cut_f hc hx hm rfl
  obtain ⟨f2, g2⟩ := cut_f hc hy f1 g1
  obtain ⟨f3, g3⟩ := cut_f hc hz f2 g2
  have c1 := cutOk_key hx
  have c2 := cutOk_key hy
  have c3 := cutOk_key hz
  simp only [Nat.add_zero] at n1 k1 n2 k2 n3 k3 f1 g1 f2 g2 f3 g3 c1 c2 c3
  have key3 : meetK b r = (kOk L H O D && decide (kNear c L H O D N ≤ kFar c L H O D (key maxFar))) ∧ (meetK b r = true → m3N b r = cutN (b 2) (b (3 + 2)) (r 2) (r (3 + 2)) (cutN (b 1) (b (3 + 1)) (r 1) (r (3 + 1)) (cutN (b 0) (b 3) (r 0) (r 3) (r 6))) ∧ m3F b r = cutF (b 2) (b (3 + 2)) (r 2) (r (3 + 2)) (cutF (b 1) (b (3 + 1)) (r 1) (r (3 + 1)) (cutF (b 0) (b 3) (r 0) (r 3) maxFar))) := by
    unfold meetK kOk
    rw [h.ok, cond_false]
    unfold missS m3K m3N m3F m2K m2N m2F m1K m1N m1F
    rw [c1]
    cases aK (L 0) (H 0) (O 0) (D 0)
    · exact ⟨rfl, fun e => by cases e⟩
    · simp only [cond_true, Bool.true_and]
      rw [show cutOk (b 1) (b 4) (r 1) (r 4) = aK (L 1) (H 1) (O 1) (D 1) from c2]
      cases aK (L 1) (H 1) (O 1) (D 1)
      · exact ⟨rfl, fun e => by cases e⟩
      · simp only [cond_true, Bool.true_and]
        rw [show cutOk (b 2) (b 5) (r 2) (r 5) = aK (L 2) (H 2) (O 2) (D 2) from c3]
        cases aK (L 2) (H 2) (O 2) (D 2)
        · exact ⟨rfl, fun e => by cases e⟩
        · refine ⟨?_, fun _ => by constructor <;> first | trivial | rfl⟩
          simp only [Bool.true_and, Bool.not_true, cond_false]
          have e := fgt_key n3 f3
          rw [k3, g3] at e
          rw [show fgt (cutN (b 2) (b 5) (r 2) (r 5) (cutN (b 1) (b 4) (r 1) (r 4) (cutN (b 0) (b 3) (r 0) (r 3) (r 6)))) (cutF (b 2) (b 5) (r 2) (r 5) (cutF (b 1) (b 4) (r 1) (r 4) (cutF (b 0) (b 3) (r 0) (r 3) maxFar))) = _ from e]
          show (!decide (kFar c L H O D (key maxFar) < kNear c L H O D N)) = _
          by_cases q : kFar c L H O D (key maxFar) < kNear c L H O D N
          · rw [decide_eq_true q, decide_eq_false (by omega)]; rfl
          · rw [decide_eq_false q, decide_eq_true (by omega)]; rfl
  refine ⟨key3.1, fun hk => ?_⟩
  obtain ⟨e1, e2⟩ := key3.2 hk
  unfold meetN meetF
  rw [hk, cond_true, cond_true, e1, e2]
  exact ⟨n3, k3, f3, g3⟩

/-- What is the same by keys is met the same. -/
theorem meet_same {c : Nat} {b r b' r' : Nat → Nat} {L H O D L' H' O' D' : Nat → Int} {N : Int} (hc : c = 1074) (h : KM b r L H O D N) (h' : KM b' r' L' H' O' D' N)
    (e1 : kOk L' H' O' D' = kOk L H O D) (e2 : ∀ n, kNear c L' H' O' D' n = kNear c L H O D n) (e3 : ∀ n, kFar c L' H' O' D' n = kFar c L H O D n) :
    meetK b r = meetK b' r' ∧ feq (meetN b r) (meetN b' r') = true ∧ feq (meetF b r) (meetF b' r') = true := by
  obtain ⟨a1, a2⟩ := meet_keys hc h
  obtain ⟨b1, b2⟩ := meet_keys hc h'
  rw [e1, e2, e3] at b1
  have hk : meetK b r = meetK b' r' := by rw [a1, b1]
  refine ⟨hk, ?_⟩
  cases hm : meetK b r
  · have hm' : meetK b' r' = false := by rw [← hk]; exact hm
    unfold meetN meetF
    rw [hm, hm', cond_false, cond_false]
    have : feq 0 0 = true := by decide +kernel
    exact ⟨this, this⟩
  · obtain ⟨p1, p2, p3, p4⟩ := a2 hm
    obtain ⟨q1, q2, q3, q4⟩ := b2 (by rw [← hk]; exact hm)
    rw [feq_key p1 q1, feq_key p3 q3, p2, p4, q2, q4, e2, e3]
    simp
end Go.Proofs.YtfdfnnmgpjamdaiGreat
