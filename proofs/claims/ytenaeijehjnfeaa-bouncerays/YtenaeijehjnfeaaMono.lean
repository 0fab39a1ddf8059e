/-
  What meets a box meets each box around it: of the plain functions of floats, of no particular program.
-/
import Derived.Test.YtenaeijehjnfeaaSh
import Derived.Test.YtenaeijehjnfeaaFl8
namespace Go.Proofs.Ytenaeijehjnfeaa
open Go.Ev

/-- A float that is near: a number, within reach. -/
structure Nr (x : Nat) : Prop where
  fin : isFin x = true
  lo : -4696837146684686336 ≤ key x
  hi : key x ≤ 4696837146684686336
theorem Nr.nan {x : Nat} (h : Nr x) : isNan x = false := fin_not_nan h.fin

theorem nr_of {x : Nat} (h : nearS x = true) : Nr x := by
  unfold nearS at h
  cases h1 : fge x 13920209183539462144
  · rw [h1] at h; cases h
  · rw [h1] at h
    obtain ⟨a, b, c⟩ := near_fin h1 h
    exact ⟨a, b, c⟩
theorem near_of {x : Nat} (h : Nr x) : nearS x = true := by
  unfold nearS
  have e1 : isNan 13920209183539462144 = false := by decide +kernel
  have e2 : isNan 4696837146684686336 = false := by decide +kernel
  have k1 : key 13920209183539462144 = -4696837146684686336 := by decide +kernel
  have k2 : key 4696837146684686336 = 4696837146684686336 := by decide +kernel
  rw [fge_key h.nan e1, fle_key h.nan e2, k1, k2]
  have := h.lo; have := h.hi
  simp [*]
theorem fine_of {a b c : Nat} (h : fineS a b c = true) : Nr a ∧ Nr b ∧ Nr c := by
  unfold fineS at h
  cases h1 : nearS a <;> cases h2 : nearS b <;> cases h3 : nearS c <;> rw [h1, h2, h3] at h <;> simp at h
  exact ⟨nr_of h1, nr_of h2, nr_of h3⟩
theorem fine_mk {a b c : Nat} (ha : Nr a) (hb : Nr b) (hc : Nr c) : fineS a b c = true := by
  unfold fineS; rw [near_of ha, near_of hb, near_of hc]; rfl

/-- A box that may be. -/
structure Bx (b : Nat → Nat) : Prop where
  n0 : Nr (b 0)
  n1 : Nr (b 1)
  n2 : Nr (b 2)
  n3 : Nr (b 3)
  n4 : Nr (b 4)
  n5 : Nr (b 5)
  x : key (b 0) ≤ key (b 3)
  y : key (b 1) ≤ key (b 4)
  z : key (b 2) ≤ key (b 5)
theorem fgt_false {x y : Nat} (hx : Nr x) (hy : Nr y) (h : fgt x y = false) : key x ≤ key y := by
  rw [fgt_key hx.nan hy.nan] at h; simp at h; exact h
theorem bx_of {b : Nat → Nat} (h : mayS b = 0) : Bx b := by
  unfold mayS at h
  cases h1 : fineS (b 0) (b 1) (b 2) <;> cases h2 : fineS (b 3) (b 4) (b 5) <;> rw [h1, h2] at h <;> simp at h
  obtain ⟨a0, a1, a2⟩ := fine_of h1
  obtain ⟨a3, a4, a5⟩ := fine_of h2
  cases h3 : fgt (b 0) (b 3) <;> cases h4 : fgt (b 1) (b 4) <;> cases h5 : fgt (b 2) (b 5) <;> rw [h3, h4, h5] at h <;> simp at h
  exact ⟨a0, a1, a2, a3, a4, a5, fgt_false a0 a3 h3, fgt_false a1 a4 h4, fgt_false a2 a5 h5⟩
theorem fgt_mk {x y : Nat} (hx : Nr x) (hy : Nr y) (h : key x ≤ key y) : fgt x y = false := by
  rw [fgt_key hx.nan hy.nan]; simp; exact h
theorem bx_mk {b : Nat → Nat} (h : Bx b) : mayS b = 0 := by
  unfold mayS
  rw [fine_mk h.n0 h.n1 h.n2, fine_mk h.n3 h.n4 h.n5, fgt_mk h.n0 h.n3 h.x, fgt_mk h.n1 h.n4 h.y, fgt_mk h.n2 h.n5 h.z]
  rfl

theorem less_ok {a b : Nat} (ha : Nr a) (hb : Nr b) : Nr (lessS a b) ∧ key (lessS a b) ≤ key a ∧ key (lessS a b) ≤ key b := by
  unfold lessS
  rw [flt_key hb.nan ha.nan]
  by_cases h : key b < key a
  · simp only [h, decide_true, cond_true]; exact ⟨hb, by omega, by omega⟩
  · simp only [h, decide_false, cond_false]; exact ⟨ha, by omega, by omega⟩
theorem more_ok {a b : Nat} (ha : Nr a) (hb : Nr b) : Nr (moreS a b) ∧ key a ≤ key (moreS a b) ∧ key b ≤ key (moreS a b) := by
  unfold moreS
  rw [fgt_key hb.nan ha.nan]
  by_cases h : key a < key b
  · simp only [h, decide_true, cond_true]; exact ⟨hb, by omega, by omega⟩
  · simp only [h, decide_false, cond_false]; exact ⟨ha, by omega, by omega⟩

/-- The one box lies within the other. -/
structure Wi (b d : Nat → Nat) : Prop where
  a0 : key (d 0) ≤ key (b 0)
  a1 : key (d 1) ≤ key (b 1)
  a2 : key (d 2) ≤ key (b 2)
  a3 : key (b 3) ≤ key (d 3)
  a4 : key (b 4) ≤ key (d 4)
  a5 : key (b 5) ≤ key (d 5)
theorem join_ok {b c : Nat → Nat} (hb : Bx b) (hc : Bx c) : Bx (joinS b c) ∧ Wi b (joinS b c) ∧ Wi c (joinS b c) := by
  obtain ⟨p0, q0, r0⟩ := less_ok hb.n0 hc.n0
  obtain ⟨p1, q1, r1⟩ := less_ok hb.n1 hc.n1
  obtain ⟨p2, q2, r2⟩ := less_ok hb.n2 hc.n2
  obtain ⟨p3, q3, r3⟩ := more_ok hb.n3 hc.n3
  obtain ⟨p4, q4, r4⟩ := more_ok hb.n4 hc.n4
  obtain ⟨p5, q5, r5⟩ := more_ok hb.n5 hc.n5
  have hx := hb.x; have hy := hb.y; have hz := hb.z
  exact ⟨⟨p0, p1, p2, p3, p4, p5, Int.le_trans q0 (Int.le_trans hx q3), Int.le_trans q1 (Int.le_trans hy q4), Int.le_trans q2 (Int.le_trans hz q5)⟩, ⟨q0, q1, q2, q3, q4, q5⟩, ⟨r0, r1, r2, r3, r4, r5⟩⟩
theorem flt_mk {x y : Nat} (hx : Nr x) (hy : Nr y) (h : key y ≤ key x) : flt x y = false := by
  rw [flt_key hx.nan hy.nan]; simp; exact h
theorem inside_ok {b d : Nat → Nat} (hb : Bx b) (hd : Bx d) (h : Wi b d) : insideS b d = true := by
  unfold insideS
  rw [flt_mk hb.n0 hd.n0 h.a0, flt_mk hb.n1 hd.n1 h.a1, flt_mk hb.n2 hd.n2 h.a2, fgt_mk hb.n3 hd.n3 h.a3, fgt_mk hb.n4 hd.n4 h.a4, fgt_mk hb.n5 hd.n5 h.a5]
  rfl

theorem quot_nan {a o d : Nat} (ha : Nr a) (ho : Nr o) (hd : Nr d) (h : key d ≠ 0) : isNan (fdiv (fsub a o) d) = false := by
  have hf := sub_fin ha.fin ho.fin ha.lo ha.hi ho.lo ho.hi
  refine (key_div rfl hf hd.fin ?_).2
  intro e
  have h1 := (val_pos (x := d)); have h2 := (val_negative (x := d))
  omega

/-- One axis. -/
theorem cut_mono {lo hi lo' hi' o d n n' f f' : Nat} (hlo : Nr lo) (hhi : Nr hi) (hlo' : Nr lo') (hhi' : Nr hi') (ho : Nr o) (hd : Nr d) (hn : isNan n = false) (hn' : isNan n' = false) (hf : isNan f = false) (hf' : isNan f' = false)
    (h1 : key lo' ≤ key lo) (h2 : key hi ≤ key hi') (h3 : key n' ≤ key n) (h4 : key f ≤ key f') :
    isNan (cutN lo hi o d n) = false ∧ isNan (cutN lo' hi' o d n') = false ∧ isNan (cutF lo hi o d f) = false ∧ isNan (cutF lo' hi' o d f') = false ∧
    key (cutN lo' hi' o d n') ≤ key (cutN lo hi o d n) ∧ key n ≤ key (cutN lo hi o d n) ∧ key (cutF lo hi o d f) ≤ key (cutF lo' hi' o d f') ∧ (cutOk lo hi o d = true → cutOk lo' hi' o d = true) := by
  have e0 : isNan 0 = false := by decide +kernel
  have k0 : key 0 = 0 := by decide +kernel
  by_cases hz : key d = 0
  · have hz' : feq d 0 = true := by rw [feq_key hd.nan e0, k0, hz]; rfl
    unfold cutN cutF cutOk
    rw [hz']
    simp only [cond_true]
    refine ⟨hn, hn', hf, hf', h3, Int.le_refl _, h4, ?_⟩
    rw [fge_key ho.nan hlo.nan, fle_key ho.nan hhi.nan, fge_key ho.nan hlo'.nan, fle_key ho.nan hhi'.nan]
    by_cases g1 : key lo ≤ key o <;> by_cases g2 : key o ≤ key hi <;> simp [g1, g2]
    exact ⟨by omega, by omega⟩
  · have hz' : feq d 0 = false := by rw [feq_key hd.nan e0, k0]; simpa using hz
    have sl := sub_fin hlo.fin ho.fin hlo.lo hlo.hi ho.lo ho.hi
    have sl' := sub_fin hlo'.fin ho.fin hlo'.lo hlo'.hi ho.lo ho.hi
    have sh := sub_fin hhi.fin ho.fin hhi.lo hhi.hi ho.lo ho.hi
    have sh' := sub_fin hhi'.fin ho.fin hhi'.lo hhi'.hi ho.lo ho.hi
    have ml := fsub_mono hlo'.fin hlo.fin ho.fin h1
    have mh := fsub_mono hhi.fin hhi'.fin ho.fin h2
    have nl := quot_nan hlo ho hd hz
    have nl' := quot_nan hlo' ho hd hz
    have nh := quot_nan hhi ho hd hz
    have nh' := quot_nan hhi' ho hd hz
    have hA : isNan (cutA lo hi o d) = false ∧ isNan (cutA lo' hi' o d) = false ∧ isNan (cutB lo hi o d) = false ∧ isNan (cutB lo' hi' o d) = false ∧ key (cutA lo' hi' o d) ≤ key (cutA lo hi o d) ∧ key (cutB lo hi o d) ≤ key (cutB lo' hi' o d) := by
      unfold cutA cutB
      rw [flt_key hd.nan e0, k0]
      by_cases hneg : key d < 0
      · simp only [hneg, decide_true, cond_true]
        exact ⟨nh, nh', nl, nl', fdiv_anti sh sh' hd.fin hneg mh, fdiv_anti sl' sl hd.fin hneg ml⟩
      · simp only [hneg, decide_false, cond_false]
        have hpos : 0 < key d := by omega
        exact ⟨nl, nl', nh, nh', fdiv_mono sl' sl hd.fin hpos ml, fdiv_mono sh sh' hd.fin hpos mh⟩
    obtain ⟨a1, a2, a3, a4, a5, a6⟩ := hA
    unfold cutN cutF cutOk
    rw [hz']
    simp only [cond_false]
    rw [fgt_key a1 hn, fgt_key a2 hn', flt_key a3 hf, flt_key a4 hf']
    by_cases g1 : key n < key (cutA lo hi o d) <;> by_cases g2 : key n' < key (cutA lo' hi' o d) <;> by_cases g3 : key (cutB lo hi o d) < key f <;> by_cases g4 : key (cutB lo' hi' o d) < key f' <;>
      simp only [g1, g2, g3, g4, decide_true, decide_false, cond_true, cond_false, a1, a2, a3, a4, hn, hn', hf, hf', true_and, implies_true, and_true] <;> (refine ⟨?_, ?_, ?_⟩ <;> omega)

/-- A ray that may be. -/
structure Ry (r : Nat → Nat) : Prop where
  n0 : Nr (r 0)
  n1 : Nr (r 1)
  n2 : Nr (r 2)
  n3 : Nr (r 3)
  n4 : Nr (r 4)
  n5 : Nr (r 5)
  n6 : Nr (r 6)
theorem ry_of {r : Nat → Nat} (h : rayS r = 0) : Ry r := by
  unfold rayS at h
  cases hf : rayF r
  · unfold rayF at hf
    cases h1 : fineS (r 0) (r 1) (r 2) <;> cases h2 : fineS (r 3) (r 4) (r 5) <;> cases h3 : nearS (r 6) <;> rw [h1, h2, h3] at hf <;> simp at hf
    obtain ⟨a0, a1, a2⟩ := fine_of h1
    obtain ⟨a3, a4, a5⟩ := fine_of h2
    exact ⟨a0, a1, a2, a3, a4, a5, nr_of h3⟩
  · rw [hf] at h; simp at h

theorem meet_mono {b d r : Nat → Nat} (hb : Bx b) (hd : Bx d) (h : Wi b d) (hk : meetK b r = true) :
    meetK d r = true ∧ fle (meetN d r) (meetN b r) = true ∧ fle (meetF b r) (meetF d r) = true ∧ fle (meetN b r) (meetF b r) = true ∧ fge (meetN b r) (r 6) = true := by
  have hbad : badS b r = false := by
    cases e : badS b r
    · rfl
    · unfold meetK at hk; rw [e] at hk; cases hk
  have hmiss : missS b r = false := by
    unfold meetK at hk; rw [hbad] at hk; simpa using hk
  have hr0 : rayS r = 0 := by
    unfold badS at hbad
    rw [bx_mk hb] at hbad
    simpa using hbad
  have hr := ry_of hr0
  have hbd : badS d r = false := by
    unfold badS; rw [bx_mk hd, hr0]; rfl
  have hk3 : m3K b r = true := by
    cases e : m3K b r
    · unfold missS at hmiss; rw [e] at hmiss; cases hmiss
    · rfl
  have hle : fgt (m3N b r) (m3F b r) = false := by
    unfold missS at hmiss; rw [hk3] at hmiss; exact hmiss
  have hk2 : m2K b r = true := by
    cases e : m2K b r
    · unfold m3K at hk3; rw [e] at hk3; cases hk3
    · rfl
  have hk1 : m1K b r = true := by
    cases e : m1K b r
    · unfold m2K at hk2; rw [e] at hk2; cases hk2
    · rfl
  have c2 : cutOk (b 1) (b 4) (r 1) (r 4) = true := by unfold m2K at hk2; rw [hk1] at hk2; exact hk2
  have c3 : cutOk (b 2) (b 5) (r 2) (r 5) = true := by unfold m3K at hk3; rw [hk2] at hk3; exact hk3
  have eF : isNan maxFar = false := by decide +kernel
  obtain ⟨x1, x2, x3, x4, x5, x6, x7, x8⟩ := cut_mono (n := r 6) (n' := r 6) (f := maxFar) (f' := maxFar) hb.n0 hb.n3 hd.n0 hd.n3 hr.n0 hr.n3 hr.n6.nan hr.n6.nan eF eF h.a0 h.a3 (Int.le_refl _) (Int.le_refl _)
  obtain ⟨y1, y2, y3, y4, y5, y6, y7, y8⟩ := cut_mono hb.n1 hb.n4 hd.n1 hd.n4 hr.n1 hr.n4 x1 x2 x3 x4 h.a1 h.a4 x5 x7
  obtain ⟨z1, z2, z3, z4, z5, z6, z7, z8⟩ := cut_mono hb.n2 hb.n5 hd.n2 hd.n5 hr.n2 hr.n5 y1 y2 y3 y4 h.a2 h.a5 y5 y7
  have d1 : m1K d r = true := x8 hk1
  have d2 : m2K d r = true := by unfold m2K; rw [d1]; exact y8 c2
  have d3 : m3K d r = true := by unfold m3K; rw [d2]; exact z8 c3
  have eb : m3N b r = cutN (b 2) (b 5) (r 2) (r 5) (cutN (b 1) (b 4) (r 1) (r 4) (cutN (b 0) (b 3) (r 0) (r 3) (r 6))) := by unfold m3N m2N m1N; rw [hk2, hk1]; rfl
  have ed : m3N d r = cutN (d 2) (d 5) (r 2) (r 5) (cutN (d 1) (d 4) (r 1) (r 4) (cutN (d 0) (d 3) (r 0) (r 3) (r 6))) := by unfold m3N m2N m1N; rw [d2, d1]; rfl
  have fb : m3F b r = cutF (b 2) (b 5) (r 2) (r 5) (cutF (b 1) (b 4) (r 1) (r 4) (cutF (b 0) (b 3) (r 0) (r 3) maxFar)) := by unfold m3F m2F m1F; rw [hk2, hk1]; rfl
  have fd : m3F d r = cutF (d 2) (d 5) (r 2) (r 5) (cutF (d 1) (d 4) (r 1) (r 4) (cutF (d 0) (d 3) (r 0) (r 3) maxFar)) := by unfold m3F m2F m1F; rw [d2, d1]; rfl
  rw [← eb, ← ed] at z5
  rw [← fb, ← fd] at z7
  rw [← eb] at z1 z6
  rw [← ed] at z2
  rw [← fb] at z3
  rw [← fd] at z4
  rw [fgt_key z1 z3] at hle
  simp only [decide_eq_false_iff_not] at hle
  have hmd : missS d r = false := by
    unfold missS; rw [d3, fgt_key z2 z4]; simp; omega
  have hkd : meetK d r = true := by unfold meetK; rw [hbd, hmd]; rfl
  have nb : meetN b r = m3N b r := by unfold meetN; rw [hk]; rfl
  have nd : meetN d r = m3N d r := by unfold meetN; rw [hkd]; rfl
  have gb : meetF b r = m3F b r := by unfold meetF; rw [hk]; rfl
  have gd : meetF d r = m3F d r := by unfold meetF; rw [hkd]; rfl
  refine ⟨hkd, ?_, ?_, ?_, ?_⟩
  · rw [nb, nd, fle_key z2 z1]; simp; omega
  · rw [gb, gd, fle_key z3 z4]; simp; omega
  · rw [nb, gb, fle_key z1 z3]; simp; omega
  · rw [nb, fge_key z1 hr.n6.nan]; simp; omega

end Go.Proofs.Ytenaeijehjnfeaa
