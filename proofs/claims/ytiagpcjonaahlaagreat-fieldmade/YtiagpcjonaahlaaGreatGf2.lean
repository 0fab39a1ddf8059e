/-
  Package field: numbers that may be; the points of a grid.
-/
import Derived.Test.YtiagpcjonaahlaaGreatGf1
namespace Go.Proofs.YtiagpcjonaahlaaGreat
open Go.Gv
open Go.Ev (cn fadd fsub fmul fdiv feq flt fle fgt fge)

/-! ### mayNumbers -/
def hBad (h : Int) : Bool := cond (decide (h < -1000000)) true (decide (h > 1000000))
theorem mayL_step (F : Fd) (q : Int) : evC Tryz.prog D1 [] noL (loopAt Tryz.f36 0) (mayLS F 0 q) (finN keepM [some 0]) =
    cond (decide (q < (F.n : Int))) (cond ((decide (0 ≤ q) && decide (q < (F.n : Int))) && true) (cond (hBad (F.hs q.toNat)) none (some ⟨.normal, mayLS F 0 (w64 (q + 1)), .any⟩)) none) none := by kernel_rfl
theorem mayL_end (F : Fd) (q : Int) : evC Tryz.prog D1 [] noL (loopAt Tryz.f36 0) (mayLS F 0 q) (finX keepM [some 0]) =
    cond (decide (q < (F.n : Int))) (cond ((decide (0 ≤ q) && decide (q < (F.n : Int))) && true) (cond (hBad (F.hs q.toNat)) (some ⟨.ret, mayLS F 6 q, .any⟩) none) none) (some ⟨.exit 0, mayLS F 0 q, .any⟩) := by kernel_rfl
theorem mayL_round {F : Fd} {q : Nat} (hn : F.n < 4611686018427387904) (hq : q < F.n) (hb : hBad (F.hs q) = false) : Leads Tryz.prog (loopAt Tryz.f36 0) (mayLS F 0 (q : Nat)) .normal (mayLS F 0 ((q + 1 : Nat) : Int)) := by
  refine leads_ev (finN_sub keepM [some 0]) D1_ok k_nil noL_ok ?_
  rw [mayL_step, dec_lt hq, dec_nonneg, w64_next (by omega)]
  simp only [Int.toNat_natCast, hb]
  rfl
theorem mayL_ok {F : Fd} (hn : F.n < 4611686018427387904) (h : ∀ q, q < F.n → hBad (F.hs q) = false) : Leads Tryz.prog (.loop (loopAt Tryz.f36 0)) (mayLS F 0 0) (.exit 0) (mayLS F 0 F.n) := by
  refine loop_rule (fun q => mayLS F 0 (q : Nat)) F.n (.exit 0) _ (by simp) (fun q hq => mayL_round hn hq (h q hq)) ?_
  refine leads_ev (finX_sub keepM [some 0]) D1_ok k_nil noL_ok ?_
  rw [mayL_end, dec_self]
  rfl
theorem mayL_bad {F : Fd} (hn : F.n < 4611686018427387904) {j : Nat} (hj : j < F.n) (hb : hBad (F.hs j) = true) (h : ∀ q, q < j → hBad (F.hs q) = false) : Leads Tryz.prog (.loop (loopAt Tryz.f36 0)) (mayLS F 0 0) .ret (mayLS F 6 (j : Nat)) := by
  refine loop_rule (fun q => mayLS F 0 (q : Nat)) j .ret _ (by simp) (fun q hq => mayL_round hn (by omega) (h q hq)) ?_
  refine leads_ev (finX_sub keepM [some 0]) D1_ok k_nil noL_ok ?_
  rw [mayL_end, dec_lt hj, dec_nonneg]
  simp only [Int.toNat_natCast, hb]
  rfl
noncomputable def mayL (F : Fd) (ex : Exit) (sf : St) : Nat → Option LFun := oneL 12 (toldF keepM [some 0] (mayLS F 0 0) ex sf)
theorem mayL_lok {F : Fd} {ex : Exit} {sf : St} (h : Leads Tryz.prog (.loop (loopAt Tryz.f36 0)) (mayLS F 0 0) ex sf) : LOk Tryz.prog (mayL F ex sf) (bodyOf Tryz.f36) :=
  lok_one (i := 12) 1 (by kernel_rfl) fun j hj _ => by
    have : j = 0 := by omega
    subst this
    exact toldF_sound h
def Fd.dims (F : Fd) : Bool := cond (cond (cond (decide (F.W < 2)) true (decide (F.W > 8))) true (decide (F.H < 2))) true (decide (F.H > 8))
def Fd.far (F : Fd) : Bool := cond (!fineS (F.at_ 0) (F.at_ 1) (F.at_ 2)) true (!nearS F.sd)
/-- What is asked ahead of the heights. -/
def Fd.first (F : Fd) (X : Option Out) : Option Out := cond F.dims (some (Out.of (iA 4))) (cond (!((F.n : Int) == w64 (F.W * F.H))) (some (Out.of (iA 5))) (cond (skBad F.sk) (some (Out.of (iA 4))) (cond F.far (some (Out.of (iA 1))) (cond (!fgt F.sd 0) (some (Out.of (iA 6))) X))))
theorem may_ev_ok (F : Fd) : ev Tryz.prog D1 [] (mayL F (.exit 0) (mayLS F 0 F.n)) Tryz.f36 [.agg F.c] ret = F.first (gate (Sub (mayLS F 0 0) (mayLS F 0 0)) (some (Out.of (iA 0)))) := by kernel_rfl
theorem may_ev_bad (F : Fd) (j : Int) : ev Tryz.prog D1 [] (mayL F .ret (mayLS F 6 j)) Tryz.f36 [.agg F.c] ret = F.first (gate (Sub (mayLS F 0 0) (mayLS F 0 0)) (some (Out.of (iA 6)))) := by kernel_rfl
/-- Which is the first height that may not be? -/
theorem first_bad (hs : Nat → Int) : ∀ n, (∀ q, q < n → hBad (hs q) = false) ∨ ∃ j, j < n ∧ hBad (hs j) = true ∧ ∀ q, q < j → hBad (hs q) = false
  | 0 => Or.inl fun q hq => by omega
  | n + 1 => by
    rcases first_bad hs n with h | ⟨j, h1, h2, h3⟩
    · cases hb : hBad (hs n)
      · exact Or.inl fun q hq => by
          by_cases e : q = n
          · rw [e]; exact hb
          · exact h q (by omega)
      · exact Or.inr ⟨n, by omega, hb, h⟩
    · exact Or.inr ⟨j, by omega, h2, h3⟩
def Fd.okAll (F : Fd) : Bool := (List.range F.n).all fun q => !hBad (F.hs q)
def Fd.mayN (F : Fd) : Int := cond F.dims 4 (cond (!((F.n : Int) == w64 (F.W * F.H))) 5 (cond (skBad F.sk) 4 (cond F.far 1 (cond (!fgt F.sd 0) 6 (cond F.okAll 0 6)))))
theorem may_spec (F : Fd) (hn : F.n < 4611686018427387904) : FSpec Tryz.prog 36 [.agg F.c] (iA F.mayN) := by
  have fin : ∀ e : Int, F.okAll = (e == 0) → (e = 0 ∨ e = 6) → F.first (some (Out.of (iA e))) = some (Out.of (iA F.mayN)) := fun e h1 h2 => by
    unfold Fd.first Fd.mayN
    rw [h1]
    cases F.dims <;> simp only [cond_true, cond_false]
    cases (!((F.n : Int) == w64 (F.W * F.H))) <;> simp only [cond_true, cond_false]
    cases skBad F.sk <;> simp only [cond_true, cond_false]
    cases F.far <;> simp only [cond_true, cond_false]
    cases (!fgt F.sd 0) <;> simp only [cond_true, cond_false]
    rcases h2 with rfl | rfl <;> rfl
  rcases first_bad F.hs F.n with h | ⟨j, h1, h2, h3⟩
  · refine gspec D1_ok k_nil Tryz.func36 (by kernel_rfl) (by kernel_rfl) (mayL_lok (mayL_ok hn h)) rfl ?_
    rw [may_ev_ok, gate_pos (Sub.refl _)]
    refine fin 0 ?_ (Or.inl rfl)
    unfold Fd.okAll
    rw [List.all_eq_true.2]
    · rfl
    · intro q hq
      rw [h q (List.mem_range.1 hq)]
      rfl
  · refine gspec D1_ok k_nil Tryz.func36 (by kernel_rfl) (by kernel_rfl) (mayL_lok (mayL_bad hn h1 h2 h3)) rfl ?_
    rw [may_ev_bad, gate_pos (Sub.refl _)]
    refine fin 6 ?_ (Or.inr rfl)
    unfold Fd.okAll
    rw [List.all_eq_false.2 ⟨j, List.mem_range.2 h1, by rw [h2]; simp⟩]
    rfl

/-! ### points -/
def ptXY (F : Fd) (h x y : Int) : Nat → Nat := ls [fadd (F.at_ 0) (fmul (itof x) F.sd), fadd (F.at_ 1) (fdiv (itof h) 4652007308841189376), fadd (F.at_ 2) (fmul (itof y) F.sd)]
def pt (F : Fd) (q : Nat) : Nat → Nat := ptXY F (F.hs q) ((q % F.W.toNat : Nat) : Int) ((q / F.W.toNat : Nat) : Int)
def pts (F : Fd) : Nat → List AV := fun q => c3 (pt F q)
def innerS (F : Fd) (y x : Int) (m : Nat) (ps : Nat → List AV) : St := mkS 63 [(1, .own 0 0), (3, .osl 1 3 0 m), (4, iA y), (13, iA F.H), (14, iA y), (18, iA F.W), (19, iA x)] [.c F.c, .a 24 3 m ps]
def keepI : List Nat := [1, 3, 4, 13, 14, 18, 19]
def ix (W y x : Int) : Int := w64 (w64 (y * W) + x)
theorem inner_step (F : Fd) (y x : Int) (m : Nat) (ps : Nat → List AV) : evC Tryz.prog [] [] noL (loopAt Tryz.f37 1) (innerS F y x m ps) (finN keepI [some 0, some 3]) =
      cond (decide (x < F.W)) (cond (((decide (0 ≤ ix F.W y x) && decide (ix F.W y x < (F.n : Int))) || false) && ((((m == m) && Nat.ble ((m + 1) * 24) 140737488355328) || false) && true))
        (some ⟨.normal, innerS F y (w64 (x + 1)) (m + 1) (fun q => mixL (Nat.blt q m) (ps q) (c3 (ptXY F (F.hs (ix F.W y x).toNat) x y))), .any⟩) none) none := by kernel_rfl
theorem inner_end (F : Fd) (y x : Int) (m : Nat) (ps : Nat → List AV) : evC Tryz.prog [] [] noL (loopAt Tryz.f37 1) (innerS F y x m ps) (finX keepI [some 0, some 1]) =
      cond (decide (x < F.W)) (cond (((decide (0 ≤ ix F.W y x) && decide (ix F.W y x < (F.n : Int))) || false) && ((((m == m) && Nat.ble ((m + 1) * 24) 140737488355328) || false) && true)) none none)
        (some ⟨.exit 2, innerS F y x m ps, .any⟩) := by kernel_rfl
/-- A field whose numbers say how many points there are. -/
structure Dim (F : Fd) (w h : Nat) : Prop where
  W : F.W = (w : Int)
  H : F.H = (h : Int)
  n : F.n = w * h
  w1 : 2 ≤ w
  h1 : 2 ≤ h
  w8 : w ≤ 8
  h8 : h ≤ 8
theorem Dim.le {F : Fd} {w h : Nat} (d : Dim F w h) : w * h ≤ 64 := Nat.mul_le_mul d.w8 d.h8
theorem Dim.row {F : Fd} {w h y : Nat} (_ : Dim F w h) (hy : y < h) : y * w + w ≤ w * h := by
  have : (y + 1) * w ≤ h * w := Nat.mul_le_mul_right _ hy
  rw [Nat.add_mul, Nat.mul_comm h w] at this
  omega
theorem Dim.ix {F : Fd} {w h y x : Nat} (d : Dim F w h) (hy : y < h) (hx : x < w) : ix F.W (y : Nat) (x : Nat) = ((y * w + x : Nat) : Int) := by
  have h1 := d.row hy
  have h2 := d.le
  unfold Go.Proofs.YtiagpcjonaahlaaGreat.ix
  rw [d.W]
  have hp : ((y : Int) * (w : Int)) = ((y * w : Nat) : Int) := by simp
  rw [hp, w64_id (n := ((y * w : Nat) : Int)) (by omega) (by omega), w64_id (by omega) (by omega)]
  omega
theorem pt_at {F : Fd} {w h y x : Nat} (d : Dim F w h) (hx : x < w) : pt F (y * w + x) = ptXY F (F.hs (y * w + x)) (x : Nat) (y : Nat) := by
  have hm : (y * w + x) % w = x := by rw [Nat.mul_comm, Nat.mul_add_mod]; exact Nat.mod_eq_of_lt hx
  have hd : (y * w + x) / w = y := by
    rw [Nat.mul_comm, Nat.mul_add_div (by omega), Nat.div_eq_of_lt hx]; omega
  unfold pt
  rw [d.W, Int.toNat_natCast, hm, hd]
theorem not_blt {q m : Nat} (h : Nat.blt q m = false) : m ≤ q := Nat.le_of_not_lt fun hc => by
  have : Nat.blt q m = true := Nat.ble_eq_true_of_le hc
  rw [this] at h; cases h
theorem inner_leads {F : Fd} {w h y : Nat} (d : Dim F w h) (hy : y < h) :
    Leads Tryz.prog (.loop (loopAt Tryz.f37 1)) (innerS F (y : Nat) 0 (y * w) (pts F)) (.exit 2) (innerS F (y : Nat) (w : Nat) (y * w + w) (pts F)) := by
  have hle := d.le
  have hyW := d.row hy
  refine loop_rule (fun j => innerS F (y : Nat) (j : Nat) (y * w + j) (pts F)) w (.exit 2) _ (by simp) (fun j hj => ?_) ?_
  · have hix := d.ix hy hj
    refine Leads.sub (leads_ev (finN_sub keepI [some 0, some 3]) e_nil k_nil noL_ok (s' := innerS F (y : Nat) (w64 ((j : Int) + 1)) (y * w + j + 1) (fun q => mixL (Nat.blt q (y * w + j)) (pts F q) (c3 (ptXY F (F.hs (ix F.W (y : Nat) (j : Nat)).toNat) (j : Nat) (y : Nat))))) ?_) (Sub.refl _) ?_
    · rw [inner_step]
      have c1 : decide (((j : Nat) : Int) < F.W) = true := by rw [d.W]; exact dec_lt hj
      have c2 : decide (0 ≤ ix F.W (y : Nat) (j : Nat)) = true := by rw [hix]; exact dec_nonneg _
      have c3 : decide (ix F.W (y : Nat) (j : Nat) < (F.n : Int)) = true := by rw [hix, d.n]; exact dec_lt (by omega)
      have c4 : Nat.ble ((y * w + j + 1) * 24) 140737488355328 = true := Nat.ble_eq_true_of_le (by omega)
      rw [c1, c2, c3, c4]
      simp only [cond_true, Bool.and_self, Bool.or_false, BEq.rfl]
    · rw [w64_next (by omega), hix, Int.toNat_natCast]
      refine sub_same ⟨Or.inl rfl, Or.inr ⟨24, 3, y * w + j + 1, _, _, rfl, rfl, fun q hq => ?_⟩, trivial⟩
      cases hlt : Nat.blt q (y * w + j)
      · have hq2 : q = y * w + j := by have := not_blt hlt; omega
        subst hq2
        unfold pts
        rw [pt_at d hj]
        unfold c3
        simp only [mixL, mixA, cond_false]
      · unfold pts c3
        simp only [mixL, mixA, cond_true]
  · refine leads_ev (finX_sub keepI [some 0, some 1]) e_nil k_nil noL_ok ?_
    rw [inner_end]
    have c1 : decide (((w : Nat) : Int) < F.W) = false := by rw [d.W]; exact dec_self w
    rw [c1]
    rfl
def outerS (F : Fd) (y : Int) (m : Nat) (ps : Nat → List AV) : St := mkS 63 [(1, .own 0 0), (3, .osl 1 3 0 m), (13, iA F.H), (14, iA y)] [.c F.c, .a 24 3 m ps]
def keepO : List Nat := [1, 3, 13, 14]
noncomputable def innerL (F : Fd) (w y : Nat) : Nat → Option LFun := oneL 6 (toldF keepI [some 0, some 1] (innerS F (y : Nat) 0 (y * w) (pts F)) (.exit 2) (innerS F (y : Nat) (w : Nat) (y * w + w) (pts F)))
end Go.Proofs.YtiagpcjonaahlaaGreat
