/-
  Er12 Tr2 Rd4 Fsi Rd5 Tr3 Wx1 Wx2 Wx3 Wx4, one behind the other.
-/
import Derived.Test.YtldbbajakgaajaaM4
import Derived.Test.YtldbbajakgaajaaM5
import Derived.Test.YtldbbajakgaajaaM2
import Derived.Test.YtldbbajakgaajaaGy
import Derived.Test.YtldbbajakgaajaaM3
namespace Go.Proofs.Ytldbbajakgaajaa
open Go.Gv
open Go.Ev (fadd fdiv cn CX cmul wv flr Wh wh_int wh_zero fin_not_nan cn_of_not conv si wave_sum half_near flr_wh f2i_wh)

theorem conv_size {n : Nat} (hn : n ≤ 64) {a b : Nat → Int} (ha : ∀ i, i < n → 0 ≤ a i ∧ a i ≤ 255) (hb : ∀ i, i < n → 0 ≤ b i ∧ b i ≤ 255) (q : Nat) : 0 ≤ conv n a b q ∧ conv n a b q ≤ 266342400 := by
  have key : ∀ (f : Nat → Int) (B : Nat) (k : Nat), (∀ i, i < k → 0 ≤ f i ∧ f i ≤ (B : Int)) → 0 ≤ si k f ∧ si k f ≤ ((k * B : Nat) : Int) := fun f B k => by
    induction k with
    | zero => intro _; rw [Nat.zero_mul]; exact ⟨Int.le_refl _, Int.le_refl _⟩
    | succ k ih =>
      intro h
      obtain ⟨h1, h2⟩ := ih fun i hi => h i (by omega)
      obtain ⟨h3, h4⟩ := h k (by omega)
      show 0 ≤ si k f + f k ∧ si k f + f k ≤ _
      rw [Nat.add_mul]
      omega
  unfold conv
  have h2 := key (fun s => si n fun t => cond ((s + t + 63 * q) % n == 0) (a s * b t) 0) (64 * 65025) n fun s hs => by
    have h1 := key (fun t => cond ((s + t + 63 * q) % n == 0) (a s * b t) 0) 65025 n fun t ht => by
      obtain ⟨a0, a1⟩ := ha s hs
      obtain ⟨b0, b1⟩ := hb t ht
      have hm := mulB a0 a1 b0 b1
      cases (s + t + 63 * q) % n == 0
      · exact ⟨Int.le_refl _, Int.natCast_nonneg _⟩
      · exact hm
    exact ⟨h1.1, Int.le_trans h1.2 (Int.ofNat_le.2 (Nat.mul_le_mul_right 65025 hn))⟩
  exact ⟨h2.1, Int.le_trans h2.2 (Int.le_trans (Int.ofNat_le.2 (Nat.mul_le_mul_right (64 * 65025) hn)) (by decide))⟩
/-- WAVES ARE EXACT ENOUGH. -/
theorem rdV_conv {m : Nat} (hm : m ≤ 6) {g h : Nat → Int} (hg : ∀ i, i < 2 ^ m → 0 ≤ g i ∧ g i ≤ 255) (hh : ∀ i, i < 2 ^ m → 0 ≤ h i ∧ h i ≤ 255) {q : Nat} (hq : q < 2 ^ m) : rdV m g h q = conv (2 ^ m) g h q := by
  obtain ⟨c, hc⟩ : ∃ c, c = 1074 := ⟨_, rfl⟩
  have hp : 2 ^ m ≤ 64 := Nat.le_trans (Nat.pow_le_pow_right (by decide) hm) (by decide)
  have hw : ∀ (f : Nat → Int), (∀ i, i < 2 ^ m → 0 ≤ f i ∧ f i ≤ 255) → ∀ i, i < 2 ^ m → Wh c (rdA f i).1 (f i) ∧ Wh c (rdA f i).2 0 := fun f hf i hi => by
    obtain ⟨h1, h2⟩ := hf i hi
    have hx := wh_int hc (n := f i) (by omega)
    refine ⟨?_, wh_zero hc⟩
    show Wh c (cn (FloatKind.f64.nearest (f i))) (f i)
    rw [cn_of_not (fin_not_nan hx.fin)]
    exact hx
  obtain ⟨w1, w2⟩ := wave_sum hc hm hg hh (hw g hg) (hw h hh) hq
  obtain ⟨v0, v1⟩ := conv_size hp hg hh q
  have hn := wh_int hc (n := ((2 ^ m : Nat) : Int)) (by omega)
  obtain ⟨x1, x2, x3⟩ := half_near hc hm w1 v0 (by omega) hn w2
  obtain ⟨M, hM⟩ : ∃ M : Nat, conv (2 ^ m) g h q = M := ⟨(conv (2 ^ m) g h q).toNat, by omega⟩
  rw [hM] at x2 x3 ⊢
  have hpos : 0 ≤ Go.Ev.dD c * (M : Int) := Int.mul_nonneg (Int.le_of_lt (Go.Ev.dD_pos c)) (by omega)
  have hf := flr_wh hc x1 (by omega) (Int.le_of_lt x2) x3 (by omega)
  unfold rdV rdX
  rw [cn_of_not (fin_not_nan hn.fin)]
  exact f2i_wh hc hf (by omega)
end Go.Proofs.Ytldbbajakgaajaa

namespace Go.Proofs.Ytldbbajakgaajaa
open Go.Gv
open Go.Ev (si conv si_congr)

noncomputable def trL (l l' : Nat) (hs hs' : Nat → Int) (N : Nat) (A B Z : Nat → Int) : Nat → Option LFun := twoL 7 (toldN keepTr [(8, 0, 1), (9, 1, 1)] (.a 3 1 0 fun q => [iA (A q)]) [none, none] (trS l l' hs hs' (N : Nat) 0 0 A A) (.exit 0) (trZ l l' hs hs' (N : Nat) N A B)) 15 (toldF keepTo [] (toS (N : Nat) N A B Z 0) (.exit 2) (toS (N : Nat) N A B Z (N : Nat)))
section
variable (l l' : Nat) (hs hs' : Nat → Int) (k : Int) (A B Z : Nat → Int)
noncomputable def trR (N : Nat) (j : Int) : Option Out := cond (decide (w64 ((l : Int) + (l' : Int)) > 200)) (some (Out.of (bA true))) (gate (FSpec Try.prog 8 [iA k, iA 7] (iA j)) (gate (Sub (trS l l' hs hs' (N : Nat) 0 0 A A) (trS l l' hs hs' (N : Nat) 0 0 A A))
  (gate (FSpec Try.prog 5 [sI N A, sI N B] (.tup [sI N Z, iA 0])) (gate (Sub (toS (N : Nat) N A B Z 0) (toS (N : Nat) N A B Z 0)) (some (Out.of (bA true)))))))
theorem tr_ev0 : ev Try.prog [] [kS Try.prog 8 (fun _ => iA 0), kS Try.prog 5 (fun _ => .tup [sI 1 Z, iA 0])] (trL l l' hs hs' 1 A B Z) Try.f4 [rsl l hs, rsl l' hs', iA k] ret = trR l l' hs hs' k A B Z 1 0 := by kernel_rfl
theorem tr_ev1 : ev Try.prog [] [kS Try.prog 8 (fun _ => iA 1), kS Try.prog 5 (fun _ => .tup [sI 2 Z, iA 0])] (trL l l' hs hs' 2 A B Z) Try.f4 [rsl l hs, rsl l' hs', iA k] ret = trR l l' hs hs' k A B Z 2 1 := by kernel_rfl
theorem tr_ev2 : ev Try.prog [] [kS Try.prog 8 (fun _ => iA 2), kS Try.prog 5 (fun _ => .tup [sI 4 Z, iA 0])] (trL l l' hs hs' 4 A B Z) Try.f4 [rsl l hs, rsl l' hs', iA k] ret = trR l l' hs hs' k A B Z 4 2 := by kernel_rfl
theorem tr_ev3 : ev Try.prog [] [kS Try.prog 8 (fun _ => iA 3), kS Try.prog 5 (fun _ => .tup [sI 8 Z, iA 0])] (trL l l' hs hs' 8 A B Z) Try.f4 [rsl l hs, rsl l' hs', iA k] ret = trR l l' hs hs' k A B Z 8 3 := by kernel_rfl
theorem tr_ev4 : ev Try.prog [] [kS Try.prog 8 (fun _ => iA 4), kS Try.prog 5 (fun _ => .tup [sI 16 Z, iA 0])] (trL l l' hs hs' 16 A B Z) Try.f4 [rsl l hs, rsl l' hs', iA k] ret = trR l l' hs hs' k A B Z 16 4 := by kernel_rfl
theorem tr_ev5 : ev Try.prog [] [kS Try.prog 8 (fun _ => iA 5), kS Try.prog 5 (fun _ => .tup [sI 32 Z, iA 0])] (trL l l' hs hs' 32 A B Z) Try.f4 [rsl l hs, rsl l' hs', iA k] ret = trR l l' hs hs' k A B Z 32 5 := by kernel_rfl
theorem tr_ev6 : ev Try.prog [] [kS Try.prog 8 (fun _ => iA 6), kS Try.prog 5 (fun _ => .tup [sI 64 Z, iA 0])] (trL l l' hs hs' 64 A B Z) Try.f4 [rsl l hs, rsl l' hs', iA k] ret = trR l l' hs hs' k A B Z 64 6 := by kernel_rfl
end
/-! ### Numbers -/
def rwF : RF := fun n el k => rawV n (numOf el) k
theorem rw_ok (l : Nat) (hs : Nat → Int) (k : Nat) : RWok rwF l hs (k : Nat) := raw_spec (n := l) (hs := hs) (by omega)
def rowI (l : Nat) (hs : Nat → Int) (q : Nat) : Int := pk (rawV l hs (q : Nat)) 256
theorem rawV_wf {l : Nat} {hs : Nat → Int} (hb : ∀ i, i < l → (Lit.int .i64 (hs i)).wf = true) {k : Nat} : (Lit.int .i64 (rawV l hs (k : Nat))).wf = true := by
  unfold rawV
  by_cases h : l = 0
  · subst h; rfl
  · rw [beq_false_of_ne (show (l : Int) ≠ 0 by omega), cond_false, ← Int.ofNat_tmod]
    exact hb _ (by rw [Int.toNat_natCast]; exact Nat.mod_lt _ (by omega))
theorem rowI_ok {l : Nat} {hs : Nat → Int} (hb : ∀ i, i < l → (Lit.int .i64 (hs i)).wf = true) (q : Nat) : 0 ≤ rowI l hs q ∧ rowI l hs q ≤ 255 := by
  obtain ⟨j, h1, h2⟩ := pk_nat (n := 256) (rawV_wf hb (k := q)) (by decide)
  have h1 : rowI l hs q = j := h1
  omega
theorem tr_leads (l l' : Nat) (hs hs' : Nat → Int) {N : Nat} (hN : N ≤ 64) : Leads Try.prog (.loop (loopAt Try.f4 0)) (trS l l' hs hs' (N : Nat) 0 0 (rowI l hs) (rowI l hs)) (.exit 0) (trZ l l' hs hs' (N : Nat) N (rowI l hs) (rowI l' hs')) := by
  have h1 : Leads Try.prog (.loop (loopAt Try.f4 0)) (trS l l' hs hs' (N : Nat) 0 0 (rowI l hs) (rowI l' hs')) (.exit 0) (trS l l' hs hs' (N : Nat) (N : Nat) N (rowI l hs) (rowI l' hs')) := by
    refine loop_rule (fun i => trS l l' hs hs' (N : Nat) (i : Nat) i (rowI l hs) (rowI l' hs')) N (.exit 0) _ (by simp) (fun i hi => ?_) ?_
    · have st := tr_step rwF pk l l' hs hs' (N : Nat) (i : Nat) i (rowI l hs) (rowI l' hs')
      rw [dec_lt hi, apB_t (by omega), gate_pos (rw_ok l hs i), gate_pos (rw_ok l' hs' i)] at st
      simp only [Bool.true_or, cond_true] at st
      unfold trN at st
      rw [w64_next (by omega)] at st
      refine (leads_ev (finN_sub keepTr [some 3, some 5]) e_nil (k_cons kS_ok (k_cons kPick_ok k_nil)) noL_ok st).sub (Sub.refl _) ?_
      refine sub_same ⟨Or.inr ⟨3, 1, i + 1, _, _, rfl, rfl, fun q hq => ?_⟩, Or.inr ⟨3, 1, i + 1, _, _, rfl, rfl, fun q hq => ?_⟩, trivial⟩
      · rw [mixI]
        cases hb : Nat.blt q i with
        | true => rfl
        | false =>
          have hge := not_blt hb
          obtain rfl : q = i := by omega
          rfl
      · rw [mixI]
        cases hb : Nat.blt q i with
        | true => rfl
        | false =>
          have hge := not_blt hb
          obtain rfl : q = i := by omega
          rfl
    · refine leads_ev (finE_sub keepTr [some 0, some 1]) e_nil (k_cons (kno_ok _) (k_cons kPick_ok k_nil)) noL_ok ((tr_end pk l l' hs hs' (N : Nat) (N : Nat) N _ _).trans ?_)
      rw [dec_self, cond_false]
  refine h1.sub (sub_same ⟨Or.inl rfl, Or.inr ⟨3, 1, 0, _, _, rfl, rfl, fun q hq => absurd hq (Nat.not_lt_zero q)⟩, trivial⟩) ?_
  have f1 : Sub (trS l l' hs hs' (N : Nat) (N : Nat) N (rowI l hs) (rowI l' hs')) (mkS 91 [(0, rsl l hs), (1, rsl l' hs'), (7, iA (N : Nat)), (8, sI N (rowI l hs)), (9, .osl 1 1 0 N), (10, iA (N : Nat))] [.dead, .a 3 1 N fun q => [iA (rowI l' hs' q)]]) := by
    refine sub_freezeM (k := 0) (e := 3) (sz := 1) (n := N) (el := fun q => [iA (rowI l hs q)]) rfl (fun j row hj => ?_) ⟨rfl, Or.inl rfl, rfl, Or.inl rfl, rfl, Or.inl rfl, rfl, Or.inr ⟨rfl, rfl⟩, rfl, Or.inl rfl, rfl, Or.inl rfl, trivial⟩
    match j, hj with
    | 0, hj => exact ⟨.dead, rfl, Or.inl ⟨rfl, rfl⟩⟩
    | 1, hj => exact ⟨_, rfl, Or.inr ⟨by decide, Or.inl (by cases hj; rfl)⟩⟩
    | j + 2, hj => cases hj
  refine f1.trans ?_
  refine sub_freezeM (k := 1) (e := 3) (sz := 1) (n := N) (el := fun q => [iA (rowI l' hs' q)]) rfl (fun j row hj => ?_) ⟨rfl, Or.inl rfl, rfl, Or.inl rfl, rfl, Or.inl rfl, rfl, Or.inl rfl, rfl, Or.inr ⟨rfl, rfl⟩, rfl, Or.inl rfl, trivial⟩
  match j, hj with
  | 0, hj => exact ⟨_, rfl, Or.inr ⟨by decide, Or.inl (by cases hj; rfl)⟩⟩
  | 1, hj => exact ⟨.dead, rfl, Or.inl ⟨rfl, rfl⟩⟩
  | j + 2, hj => cases hj
/-! ### The sum that the law takes -/
def sumT (n : Nat) (A B : Nat → Int) (i : Nat) (k : Nat) : Int := si k fun j => A j * B ((i + n - j) % n)
theorem tiR_nat {n i j : Nat} (hn : n ≤ 64) (hi : i < n) (hj : j < n) : tiR (n : Nat) (i : Nat) (j : Nat) = (((i + n - j) % n : Nat) : Int) := by
  unfold tiR
  rw [w64_id (n := (i : Int) - (j : Int)) (by omega) (by omega), w64_id (by omega) (by omega), show (i : Int) - (j : Int) + (n : Int) = ((i + n - j : Nat) : Int) by omega, ← Int.ofNat_tmod]
section
variable {n : Nat} (hn : n ≤ 64) {A B : Nat → Int} (hA : ∀ q, 0 ≤ A q ∧ A q ≤ 255) (hB : ∀ q, 0 ≤ B q ∧ B q ≤ 255)
include hn hA hB
omit hn in
theorem sumT_size (i : Nat) : ∀ k, 0 ≤ sumT n A B i k ∧ sumT n A B i k ≤ (k : Int) * 65025
  | 0 => ⟨Int.le_refl _, by show (0 : Int) ≤ _; omega⟩
  | k + 1 => by
    obtain ⟨h1, h2⟩ := sumT_size i k
    have hm := mulB (hA k).1 (hA k).2 (hB ((i + n - k) % n)).1 (hB ((i + n - k) % n)).2
    show 0 ≤ sumT n A B i k + A k * B ((i + n - k) % n) ∧ sumT n A B i k + A k * B ((i + n - k) % n) ≤ _
    generalize A k * B ((i + n - k) % n) = x at *
    omega
theorem ti_leads (Z : Nat → Int) {i : Nat} (hi : i < n) : Leads Try.prog (.loop (loopAt Try.f4 2)) (tiS (n : Nat) n A B Z (i : Nat) 0 0) (.exit 4) (tiS (n : Nat) n A B Z (i : Nat) (sumT n A B i n) (n : Nat)) := by
  refine loop_rule (fun j => tiS (n : Nat) n A B Z (i : Nat) (sumT n A B i j) (j : Nat)) n (.exit 4) _ (by simp) (fun j hj => ?_) ?_
  · refine leads_ev (finN_sub keepTi []) e_nil k_nil noL_ok ((ti_step (n : Nat) n A B Z (i : Nat) (sumT n A B i j) (j : Nat)).trans ?_)
    have hlt : (i + n - j) % n < n := Nat.mod_lt _ (by omega)
    have hm := mulB (hA j).1 (hA j).2 (hB ((i + n - j) % n)).1 (hB ((i + n - j) % n)).2
    obtain ⟨s1, s2⟩ := sumT_size (n := n) hA hB i j
    unfold tiB
    rw [tiR_nat hn hi hj, dec_lt hj, ixB_t hj, ixB_t hlt, beq_false_of_ne (show (n : Int) ≠ 0 by omega), Int.toNat_natCast, Int.toNat_natCast, w64_id (n := A j * B ((i + n - j) % n)) (by omega) (by omega), w64_id (n := sumT n A B i j + A j * B ((i + n - j) % n)) (by omega) (by omega), w64_next (by omega)]
    rfl
  · refine leads_ev (finE_sub keepTi []) e_nil k_nil noL_ok ((ti_end (n : Nat) n A B Z (i : Nat) _ (n : Nat)).trans ?_)
    rw [dec_self, cond_false]
theorem to_leads {Z : Nat → Int} (hZ : ∀ i, i < n → Z i = sumT n A B i n) : Leads Try.prog (.loop (loopAt Try.f4 1)) (toS (n : Nat) n A B Z 0) (.exit 2) (toS (n : Nat) n A B Z (n : Nat)) := by
  refine loop_rule (fun i => toS (n : Nat) n A B Z (i : Nat)) n (.exit 2) _ (by simp) (fun i hi => ?_) ?_
  · have hl := toldF_sound (keep := keepTi) (τ := []) (ti_leads hn hA hB Z hi)
    refine leads_ev (finN_sub keepTo []) e_nil k_nil (lok_at (c := loopAt Try.f4 1) (i := 19) 0 1 (by kernel_rfl) (by kernel_rfl) hl) ((to_step (n : Nat) n A B Z (i : Nat) (sumT n A B i n)).trans ?_)
    rw [dec_lt hi, gate_pos (Sub.refl _), ixB_t hi, Int.toNat_natCast, hZ i hi, BEq.rfl, w64_next (by omega)]
    rfl
  · refine leads_ev (finE_sub keepTo []) e_nil k_nil (lok_none 19) ((to_end (n : Nat) n A B Z (n : Nat)).trans ?_)
    rw [dec_self, cond_false]
end
end Go.Proofs.Ytldbbajakgaajaa

namespace Go.Proofs.Ytldbbajakgaajaa
open Go.Gv
open Go.Ev (CX cmul wv flr)

def rdE0 (n n' : Nat) (g h : Nat → Int) : Int := cond (rdCnt n n') 5 (cond (allI n fun i => !vB (g i) (h i)) 0 6)
def rdOut (n n' : Nat) (g h : Nat → Int) : AV := .tup [sI (cond (rdE0 n n' g h == 0) n 0) (rdV n.log2 g h), iA (rdE0 n n' g h)]
theorem cntB_false {n : Nat} (h : cntB (n : Int) = false) : ∃ m, m ≤ 6 ∧ n = 2 ^ m := by
  unfold cntB at h
  by_cases h1 : (n : Int) = 1
  · exact ⟨0, by decide, by omega⟩
  by_cases h2 : (n : Int) = 2
  · exact ⟨1, by decide, by omega⟩
  by_cases h3 : (n : Int) = 4
  · exact ⟨2, by decide, by omega⟩
  by_cases h4 : (n : Int) = 8
  · exact ⟨3, by decide, by omega⟩
  by_cases h5 : (n : Int) = 16
  · exact ⟨4, by decide, by omega⟩
  by_cases h6 : (n : Int) = 32
  · exact ⟨5, by decide, by omega⟩
  by_cases h7 : (n : Int) = 64
  · exact ⟨6, by decide, by omega⟩
  rw [beq_false_of_ne h1, beq_false_of_ne h2, beq_false_of_ne h3, beq_false_of_ne h4, beq_false_of_ne h5, beq_false_of_ne h6, beq_false_of_ne h7] at h
  cases h
theorem rdCnt_false {n n' : Nat} (h : rdCnt n n' = false) : n' = n ∧ ∃ m, m ≤ 6 ∧ n = 2 ^ m := by
  unfold rdCnt at h
  cases he : (n : Int) == (n' : Int)
  · rw [he] at h; cases h
  · rw [he] at h
    have := eq_of_beq he
    exact ⟨by omega, cntB_false h⟩
def cxOf (el : Nat → List AV) (q : Nat) : CX := match el q with
  | [.cx a b] => (a, b)
  | _ => (0, 0)
def rdW (m : Nat) : WB := fun b el => wv b m (cxOf el)
theorem rdW_ok {m : Nat} (hm : m ≤ 6) (b : Bool) (A : Nat → CX) : WRok (rdW m) b (2 ^ m) A := by
  have hp : 2 ^ m ≤ 64 := Nat.le_trans (Nat.pow_le_pow_right (by decide) hm) (by decide)
  have := waves_spec b (N := 2 ^ m) (by omega) A m 1 0 (by omega) (by decide) (by rw [Nat.one_mul]) (by decide)
  have e : (fun i => A (0 + 1 * i)) = A := funext fun i => by rw [Nat.one_mul, Nat.zero_add]
  rw [e] at this
  exact this
theorem lok_thr {P : Program} {c : Code} {i i' i'' : Nat} {g g' g'' : LFun} (hg : LOk P (oneL i g) c) (hg' : LOk P (twoL i' g' i'' g'') c) : LOk P (thrL i g i' g' i'' g'') c := by
  intro c' hc j f hj hf
  unfold thrL at hf
  cases hb : Nat.beq j i
  · rw [hb] at hf
    exact hg' c' hc j f hj hf
  · rw [hb] at hf
    refine hg c' hc j f hj ?_
    unfold oneL
    rw [hb]
    exact hf
theorem rd_nil {f : Nat} {args : List AV} {e : Int} {Z : Nat → Int} (h : FSpec Try.prog f args (.tup [.x (.slice none 0 0), iA e])) : FSpec Try.prog f args (.tup [sI 0 Z, iA e]) := FSpec.of_res h fun _ _ hr => tup2_like hr fun _ => nil_like
theorem round_spec (n n' : Nat) (g h : Nat → Int) : FSpec Try.prog 6 [sI n g, sI n' h] (rdOut n n' g h) := by
  unfold rdOut rdE0
  cases hc : rdCnt n n'
  · obtain ⟨rfl, m, hm, rfl⟩ := rdCnt_false hc
    have hp : 2 ^ m ≤ 64 := Nat.le_trans (Nat.pow_le_pow_right (by decide) hm) (by decide)
    rw [cond_false]
    rcases all_or_first (fun i => !vB (g i) (h i)) (2 ^ m) with hl | ⟨K, hK, hq, hr⟩
    · have hv : ∀ i, i < 2 ^ m → vB (g i) (h i) = false := fun i hi => by simpa using hl i hi
      have l1 := lok_at (c := bodyOf Try.f6) (i := 7) 0 3 (by kernel_rfl) (by kernel_rfl) (toldN_sound (keep := keepRd) (nils := [(7, 0, 1), (8, 1, 1)]) (nr := .a 36 1 0 fun q => [cA (rdA g q)]) (τ := [none, none]) (rd_good (by omega) hv))
      have l2 := lok_at (c := bodyOf Try.f6) (i := 17) 1 3 (by kernel_rfl) (by kernel_rfl) (toldN_sound (keep := keepR2) (nils := [(10, 0, 1)]) (nr := .a 36 1 0 fun q => [cA (rdP m g h q)]) (τ := [none]) (r2_leads (n := 2 ^ m) (by omega) (wv false m (rdA g)) (wv false m (rdA h))))
      have l3 := lok_at (c := bodyOf Try.f6) (i := 23) 2 3 (by kernel_rfl) (by kernel_rfl) (toldN_sound (keep := keepR3) (nils := [(12, 0, 1)]) (nr := .a 3 1 0 fun q => [iA (rdV m g h q)]) (τ := [none]) (r3_leads (n := 2 ^ m) (by omega) (wv true m (rdP m g h)) fun i hi => rd_fit hm hv hi))
      have hlog : (2 ^ m).log2 = m := Nat.log2_two_pow
      refine gspec e_nil (k_cons kS_ok k_nil) Try.func6 (by kernel_rfl) (by kernel_rfl) (lok_thr l1 (lok_two l2 l3)) rfl ((rd_evG (rdW m) (2 ^ m) g h (rdA g) (rdA h) (rdP m g h) (rdV m g h)).trans ?_)
      rw [hc, cond_false, gate_pos (Sub.refl _), gate_pos (rdW_ok hm false _), gate_pos (rdW_ok hm false _), gate_pos (Sub.refl _), gate_pos (rdW_ok hm true _), gate_pos (Sub.refl _), allI_t hl, hlog]
      have e : (fun i => [iA (rdV m g h (0 + i))]) = fun i => [iA (rdV m g h i)] := funext fun i => by rw [Nat.zero_add]
      rw [e]
      rfl
    · have l1 := lok_at (c := bodyOf Try.f6) (i := 7) 0 3 (by kernel_rfl) (by kernel_rfl) (toldN_sound (keep := keepRd) (nils := [(7, 0, 1), (8, 1, 1)]) (nr := .a 36 1 0 fun q => [cA (rdA g q)]) (τ := [none, none]) (rd_bad (by omega) hK (by simpa using hq) fun i hi => by simpa using hr i hi))
      rw [allI_f hK hq]
      refine rd_nil (gspec e_nil (k_cons (kno_ok _) k_nil) Try.func6 (by kernel_rfl) (by kernel_rfl) l1 rfl ((rd_evR (2 ^ m) g h (rdA g)).trans ?_))
      rw [hc, cond_false, gate_pos (Sub.refl _)]
      rfl
  · refine rd_nil (gspec e_nil (k_cons (kno_ok _) k_nil) Try.func6 (by kernel_rfl) (by kernel_rfl) (lok_none 7) rfl ((rd_ev0 n n' g h).trans ?_))
    rw [hc]
    rfl
end Go.Proofs.Ytldbbajakgaajaa

namespace Go.Proofs.Ytldbbajakgaajaa
open Go.Gv

/-! ### Rows that are the same -/
def siS (n m : Nat) (a b : Nat → Int) (i : Int) : St := mkS 26 [(0, sI n a), (1, sI m b), (5, iA i)] []
section
variable (n m : Nat) (a b : Nat → Int) (i : Int)
def siT : Option Out := cond (decide (i < n)) (cond ((ixB i n || false) && ((ixB i m || false) && true)) (cond (!(a i.toNat == b i.toNat)) none (some ⟨.normal, siS n m a b (w64 (i + 1)), .any⟩)) none) none
def siU : Option Out := cond (decide (i < n)) (cond ((ixB i n || false) && ((ixB i m || false) && true)) (cond (!(a i.toNat == b i.toNat)) none none) none) (some ⟨.exit 0, siS n m a b i, .any⟩)
theorem si_step : evC Try.prog [] [] noL (loopAt Try.f7 0) (siS n m a b i) (finN [0, 1, 5] []) = siT n m a b i := by kernel_rfl
theorem si_end : evC Try.prog [] [] noL (loopAt Try.f7 0) (siS n m a b i) (finE [0, 1, 5] []) = siU n m a b i := by kernel_rfl
end
theorem si_leads {n : Nat} (hn : n ≤ 4611686018427387904) {a b : Nat → Int} (h : ∀ i, i < n → a i = b i) : Leads Try.prog (.loop (loopAt Try.f7 0)) (siS n n a b 0) (.exit 0) (siS n n a b (n : Nat)) := by
  refine loop_rule (fun k => siS n n a b (k : Nat)) n (.exit 0) _ (by simp) (fun k hk => ?_) ?_
  · refine leads_ev (finN_sub _ _) e_nil k_nil noL_ok ((si_step n n a b (k : Nat)).trans ?_)
    unfold siT
    rw [dec_lt hk, ixB_t hk, Int.toNat_natCast, h k hk, BEq.rfl, w64_next (by omega)]
    rfl
  · refine leads_ev (finE_sub _ _) e_nil k_nil noL_ok ((si_end n n a b (n : Nat)).trans ?_)
    unfold siU
    rw [dec_self, cond_false]
noncomputable def siL (n : Nat) (a b : Nat → Int) : Nat → Option LFun := oneL 4 (toldF [0, 1, 5] [] (siS n n a b 0) (.exit 0) (siS n n a b (n : Nat)))
theorem si_ev (n : Nat) (a b : Nat → Int) : ev Try.prog [] [] (siL n a b) Try.f7 [sI n a, sI n b] ret = cond (!((n : Int) == (n : Int))) (some (Out.of (bA false))) (gate (Sub (siS n n a b 0) (siS n n a b 0)) (some (Out.of (bA true)))) := by kernel_rfl
theorem same_ints {n : Nat} (hn : n ≤ 4611686018427387904) {a b : Nat → Int} (h : ∀ i, i < n → a i = b i) : FSpec Try.prog 7 [sI n a, sI n b] (bA true) := by
  have hL := lok_hd (c := bodyOf Try.f7) (i := 4) 0 (by kernel_rfl) (by kernel_rfl) (toldF_sound (keep := [0, 1, 5]) (τ := []) (si_leads hn h))
  refine gspec e_nil k_nil Try.func7 (by kernel_rfl) (by kernel_rfl) hL rfl ((si_ev n a b).trans ?_)
  rw [BEq.rfl, gate_pos (Sub.refl _)]
  rfl
end Go.Proofs.Ytldbbajakgaajaa

namespace Go.Proofs.Ytldbbajakgaajaa
open Go.Gv

/-- What the code's own Round must give. -/
abbrev RoundOk : Prop := ∀ (n n' : Nat) (g h : Nat → Int), n ≤ maxLen → n' ≤ maxLen → FSpec Try.prog 5 [sI n g, sI n' h] (rdOut n n' g h)
section
variable (n n' : Nat) (g h : Nat → Int) (N : Nat) (Z : Nat → Int) (e : Int)
theorem wr_ev : ev Try.prog [] [kS Try.prog 5 (fun _ => .tup [sI N Z, iA e]), kS Try.prog 6 (fun _ => .tup [sI N Z, iA e]), kS Try.prog 7 (fun _ => bA true)] noL Try.f3 [sI n g, sI n' h] ret =
    cond (decide (w64 ((n : Int) + (n' : Int)) > 150)) (some (Out.of (bA true))) (gate (FSpec Try.prog 5 [sI n g, sI n' h] (.tup [sI N Z, iA e])) (gate (FSpec Try.prog 6 [sI n g, sI n' h] (.tup [sI N Z, iA e]))
      (gate (FSpec Try.prog 7 [sI N Z, sI N Z] (bA true)) (some (Out.of (bA (cond (e == e) true false))))))) := by kernel_rfl
theorem wr_ev0 : ev Try.prog [] [⟨5, fun _ _ => none⟩] noL Try.f3 [sI n g, sI n' h] ret = cond (decide (w64 ((n : Int) + (n' : Int)) > 150)) (some (Out.of (bA true))) none := by kernel_rfl
end
theorem rounds_law (ok : RoundOk) {n n' : Nat} (hn : n ≤ maxLen) (hn' : n' ≤ maxLen) (g h : Nat → Int) : FSpec Try.prog 3 [sI n g, sI n' h] (bA true) := by
  cases hb : decide (w64 ((n : Int) + (n' : Int)) > 150)
  · refine gspec e_nil (k_cons kS_ok (k_cons kS_ok (k_cons kS_ok k_nil))) Try.func3 (by kernel_rfl) (by kernel_rfl) noL_ok rfl ((wr_ev n n' g h (cond (rdE0 n n' g h == 0) n 0) (rdV n.log2 g h) (rdE0 n n' g h)).trans ?_)
    have hN : cond (rdE0 n n' g h == 0) n 0 ≤ 4611686018427387904 := by
      cases h0 : rdE0 n n' g h == 0
      · exact Nat.zero_le _
      · rw [cond_true]
        unfold rdE0 at h0
        cases hc : rdCnt n n'
        · obtain ⟨_, m, hm, rfl⟩ := rdCnt_false hc
          exact Nat.le_trans (Nat.pow_le_pow_right (by decide) hm) (by decide)
        · rw [hc] at h0; cases h0
    rw [hb, cond_false, gate_pos (show FSpec Try.prog 5 [sI n g, sI n' h] (.tup [sI (cond (rdE0 n n' g h == 0) n 0) (rdV n.log2 g h), iA (rdE0 n n' g h)]) from ok n n' g h hn hn'), gate_pos (show FSpec Try.prog 6 [sI n g, sI n' h] (.tup [sI (cond (rdE0 n n' g h == 0) n 0) (rdV n.log2 g h), iA (rdE0 n n' g h)]) from round_spec n n' g h), gate_pos (same_ints hN fun _ _ => rfl), BEq.rfl]
    rfl
  · refine gspec e_nil (k_cons (kno_ok _) k_nil) Try.func3 (by kernel_rfl) (by kernel_rfl) noL_ok rfl ((wr_ev0 n n' g h).trans ?_)
    rw [hb, cond_true]
end Go.Proofs.Ytldbbajakgaajaa

namespace Go.Proofs.Ytldbbajakgaajaa
open Go.Gv
open Go.Ev (si conv si_congr)

theorem si_one {f : Nat → Int} {t0 : Nat} : ∀ {n : Nat}, t0 < n → (∀ t, t < n → t ≠ t0 → f t = 0) → si n f = f t0
  | 0, h, _ => absurd h (Nat.not_lt_zero _)
  | n + 1, h, hz => by
    show si n f + f n = f t0
    by_cases e : t0 = n
    · subst e
      have : si t0 f = si t0 fun _ => 0 := si_congr fun t ht => hz t (by omega) (by omega)
      rw [this, Go.Ev.si_zero]; omega
    · rw [si_one (by omega) fun t ht hne => hz t (by omega) hne, hz n (by omega) (fun h' => e h'.symm)]; omega
theorem mod_place {n d s t q : Nat} (hd : n * d = 64) (hs : s < n) (ht : t < n) (hq : q < n) : ((s + t + 63 * q) % n = 0) ↔ t = (q + n - s) % n := by
  have e1 : s + t + 63 * q + n * 1 = (s + t + n - q) + n * (d * q) := by
    have : n * (d * q) = 64 * q := by rw [← Nat.mul_assoc, hd]
    omega
  have e2 : (s + t + 63 * q) % n = (s + t + n - q) % n := by
    rw [← Nat.add_mul_mod_self_left (s + t + 63 * q) n 1, e1, Nat.add_mul_mod_self_left]
  rw [e2]
  have m1 : (q + n - s) % n = cond (decide (s ≤ q)) (q - s) (q + n - s) := by
    by_cases h : s ≤ q
    · rw [decide_eq_true h, cond_true, show q + n - s = (q - s) + n by omega, Nat.add_mod_right, Nat.mod_eq_of_lt (by omega)]
    · rw [decide_eq_false h, cond_false, Nat.mod_eq_of_lt (by omega)]
  rw [m1]
  by_cases h0 : s + t < q
  · rw [Nat.mod_eq_of_lt (by omega), decide_eq_true (show s ≤ q by omega), cond_true]; omega
  · by_cases h1 : s + t < q + n
    · rw [show s + t + n - q = (s + t - q) + n by omega, Nat.add_mod_right, Nat.mod_eq_of_lt (by omega)]
      by_cases h : s ≤ q
      · rw [decide_eq_true h, cond_true]; omega
      · rw [decide_eq_false h, cond_false]; omega
    · rw [show s + t + n - q = (s + t - q - n) + n * 2 by omega, Nat.add_mul_mod_self_left, Nat.mod_eq_of_lt (by omega)]
      by_cases h : s ≤ q
      · rw [decide_eq_true h, cond_true]; omega
      · rw [decide_eq_false h, cond_false]; omega
theorem conv_sum {m : Nat} (hm : m ≤ 6) (A B : Nat → Int) {q : Nat} (hq : q < 2 ^ m) : conv (2 ^ m) A B q = sumT (2 ^ m) A B q (2 ^ m) := by
  have hd : 2 ^ m * 2 ^ (6 - m) = 64 := by rw [← Nat.pow_add, show m + (6 - m) = 6 by omega]
  unfold conv sumT
  refine si_congr fun s hs => ?_
  have hp : 0 < 2 ^ m := Nat.two_pow_pos m
  have ht0 : (q + 2 ^ m - s) % 2 ^ m < 2 ^ m := Nat.mod_lt _ hp
  rw [si_one (t0 := (q + 2 ^ m - s) % 2 ^ m) ht0 fun t ht hne => by
    rw [beq_false_of_ne fun h => hne ((mod_place hd hs ht hq).1 h)]; rfl]
  rw [(mod_place hd hs ht0 hq).2 rfl]
  rfl
theorem tr_go (ok : RoundOk) {l l' : Nat} {hs hs' : Nat → Int} (hb : ∀ i, i < l → (Lit.int .i64 (hs i)).wf = true) (hb' : ∀ i, i < l' → (Lit.int .i64 (hs' i)).wf = true) {k j : Int} {m : Nat} (hm : m ≤ 6) (hp : pk k 7 = j)
    (hev : ∀ A B Z : Nat → Int, ev Try.prog [] [kS Try.prog 8 (fun _ => iA j), kS Try.prog 5 (fun _ => .tup [sI (2 ^ m) Z, iA 0])] (trL l l' hs hs' (2 ^ m) A B Z) Try.f4 [rsl l hs, rsl l' hs', iA k] ret = trR l l' hs hs' k A B Z (2 ^ m) j) :
    FSpec Try.prog 4 [rsl l hs, rsl l' hs', iA k] (bA true) := by
  have h64 : 2 ^ m ≤ 64 := Nat.le_trans (Nat.pow_le_pow_right (by decide) hm) (by decide)
  have hA := rowI_ok hb
  have hB := rowI_ok hb'
  have hpk : FSpec Try.prog 8 [iA k, iA 7] (iA j) := hp ▸ pick_spec rfl
  have l1 := tr_leads l l' hs hs' h64
  have l2 := to_leads h64 hA hB (Z := rdV m (rowI l hs) (rowI l' hs')) fun i hi => (rdV_conv hm (fun q _ => hA q) (fun q _ => hB q) hi).trans (conv_sum hm _ _ hi)
  have hL : LOk Try.prog (trL l l' hs hs' (2 ^ m) (rowI l hs) (rowI l' hs') (rdV m (rowI l hs) (rowI l' hs'))) (bodyOf Try.f4) :=
    lok_two (lok_at 0 3 (by kernel_rfl) (by kernel_rfl) (toldN_sound l1)) (lok_at 1 3 (by kernel_rfl) (by kernel_rfl) (toldF_sound l2))
  have hR : FSpec Try.prog 5 [sI (2 ^ m) (rowI l hs), sI (2 ^ m) (rowI l' hs')] (.tup [sI (2 ^ m) (rdV m (rowI l hs) (rowI l' hs')), iA 0]) := by
    have h := ok (2 ^ m) (2 ^ m) (rowI l hs) (rowI l' hs') (Nat.le_trans h64 (by decide)) (Nat.le_trans h64 (by decide))
    have hcnt : rdCnt (2 ^ m) (2 ^ m) = false := by
      unfold rdCnt
      rw [BEq.rfl]
      have : ∀ m, m ≤ 6 → cntB ((2 ^ m : Nat) : Int) = false := by decide
      exact this m hm
    have hall : allI (2 ^ m) (fun i => !vB (rowI l hs i) (rowI l' hs' i)) = true := allI_t fun i _ => by
      obtain ⟨a0, a1⟩ := hA i
      obtain ⟨b0, b1⟩ := hB i
      unfold vB
      rw [decide_eq_false (by omega), decide_eq_false (by omega), decide_eq_false (by omega), decide_eq_false (by omega)]
      rfl
    unfold rdOut rdE0 at h
    rw [hcnt, hall, Nat.log2_two_pow] at h
    exact h
  refine gspec e_nil (k_cons kS_ok (k_cons kS_ok k_nil)) Try.func4 (by kernel_rfl) (by kernel_rfl) hL rfl ((hev _ _ _).trans ?_)
  unfold trR
  rw [gate_pos hpk, gate_pos (Sub.refl _), gate_pos hR, gate_pos (Sub.refl _)]
  cases decide (w64 ((l : Int) + (l' : Int)) > 200) <;> rfl
theorem toprnd_law (ok : RoundOk) {l l' : Nat} {hs hs' : Nat → Int} (hb : ∀ i, i < l → (Lit.int .i64 (hs i)).wf = true) (hb' : ∀ i, i < l' → (Lit.int .i64 (hs' i)).wf = true) {k : Int} (hk : (Lit.int .i64 k).wf = true) : FSpec Try.prog 4 [rsl l hs, rsl l' hs', iA k] (bA true) := by
  obtain ⟨j, h1, h2⟩ := pk_nat (n := 7) hk (by decide)
  have h1 : pk k 7 = j := h1
  rcases (by omega : j = 0 ∨ j = 1 ∨ j = 2 ∨ j = 3 ∨ j = 4 ∨ j = 5 ∨ j = 6) with rfl | rfl | rfl | rfl | rfl | rfl | rfl
  · exact tr_go ok hb hb' (m := 0) (by decide) h1 fun A B Z => tr_ev0 l l' hs hs' k A B Z
  · exact tr_go ok hb hb' (m := 1) (by decide) h1 fun A B Z => tr_ev1 l l' hs hs' k A B Z
  · exact tr_go ok hb hb' (m := 2) (by decide) h1 fun A B Z => tr_ev2 l l' hs hs' k A B Z
  · exact tr_go ok hb hb' (m := 3) (by decide) h1 fun A B Z => tr_ev3 l l' hs hs' k A B Z
  · exact tr_go ok hb hb' (m := 4) (by decide) h1 fun A B Z => tr_ev4 l l' hs hs' k A B Z
  · exact tr_go ok hb hb' (m := 5) (by decide) h1 fun A B Z => tr_ev5 l l' hs hs' k A B Z
  · exact tr_go ok hb hb' (m := 6) (by decide) h1 fun A B Z => tr_ev6 l l' hs hs' k A B Z
end Go.Proofs.Ytldbbajakgaajaa

namespace Go.Proofs.Ytldbbajakgaajaa
open Go.Gv
open Go.Ev (fadd fsub fmul fdiv fneg fsqrt cn CX cmul cadd csub one64 two64 mone rt rtB pws wv)

theorem xpr_ev (x y : CX) : ev Try.prog [] [] noL Try.f15 [cA x, cA y] ret = some (Out.of (.cx (fsub (fmul x.1 y.1) (fmul x.2 y.2)) (fadd (fmul x.1 y.2) (fmul x.2 y.1)))) := by kernel_rfl
theorem xpr_spec (x y : CX) : FSpec Try.prog 15 [cA x, cA y] (cA (cmul x y)) := gspec e_nil k_nil Try.func15 (by kernel_rfl) (by kernel_rfl) noL_ok rfl (xpr_ev x y)
theorem xPr_ok : EOk Try.prog ⟨15, gC2 cmul⟩ := fun args r hr => by
  simp only [gC2] at hr
  split at hr
  · cases hr; exact Or.inl (xpr_spec (_, _) (_, _))
  · cases hr
/-! ### Roots -/
theorem xrt_ev (s : Nat → Nat) (h : Int → CX) (n : Int) : ev Try.prog [⟨21, gF1 s⟩] [kS Try.prog 14 (gRt h)] noL Try.f14 [iA n] ret =
    cond (n == 2) (some (Out.of (.cx mone 0))) (cond (n == 4) (some (Out.of (.cx 0 mone)))
      (gate (FSpec Try.prog 14 [iA (w64 (n.tdiv 2))] (cA (h (w64 (n.tdiv 2))))) (some (Out.of (.cx (s (fdiv (fadd one64 (h (w64 (n.tdiv 2))).1) two64)) (fneg (s (fdiv (fsub one64 (h (w64 (n.tdiv 2))).1) two64)))))))) := by kernel_rfl
theorem xrt_spec : ∀ m, 1 ≤ m → m ≤ 30 → FSpec Try.prog 14 [iA ((2 ^ m : Nat) : Int)] (cA (rt m))
  | 0, h, _ => absurd h (by omega)
  | 1, _, _ => gspec (e_cons gSq_ok e_nil) (k_cons (kS_ok (P := Try.prog) (f := 14) (g := gRt fun _ => (0, 0))) k_nil) Try.func14 (by kernel_rfl) (by kernel_rfl) noL_ok rfl (xrt_ev fsqrt (fun _ => (0, 0)) 2)
  | 2, _, _ => gspec (e_cons gSq_ok e_nil) (k_cons (kS_ok (P := Try.prog) (f := 14) (g := gRt fun _ => (0, 0))) k_nil) Try.func14 (by kernel_rfl) (by kernel_rfl) noL_ok rfl (xrt_ev fsqrt (fun _ => (0, 0)) 4)
  | m + 3, _, hm => by
    have ih := xrt_spec (m + 2) (by omega) (by omega)
    have hp : 4 ≤ 2 ^ (m + 2) := by
      have := Nat.pow_le_pow_right (n := 2) (by omega) (show 2 ≤ m + 2 by omega)
      exact this
    have hq : 2 ^ (m + 2) ≤ 2 ^ 30 := Nat.pow_le_pow_right (by omega) (by omega)
    have e2 : 2 ^ (m + 3) = 2 * 2 ^ (m + 2) := by rw [Nat.pow_succ]; omega
    have e30 : (2 : Nat) ^ 30 = 1073741824 := by decide
    have eh : w64 ((((2 ^ (m + 3) : Nat)) : Int).tdiv 2) = ((2 ^ (m + 2) : Nat) : Int) := by
      rw [e2, Int.tdiv_eq_ediv_of_nonneg (by omega), w64_id (by omega) (by omega)]
      omega
    refine gspec (e_cons gSq_ok e_nil) (k_cons (kS_ok (P := Try.prog) (f := 14) (g := gRt fun _ => rt (m + 2))) k_nil) Try.func14 (by kernel_rfl) (by kernel_rfl) noL_ok rfl ((xrt_ev fsqrt (fun _ => rt (m + 2)) ((2 ^ (m + 3) : Nat) : Int)).trans ?_)
    rw [eh, gate_pos ih, beq_false_of_ne (show ((2 ^ (m + 3) : Nat) : Int) ≠ 2 by omega), beq_false_of_ne (show ((2 ^ (m + 3) : Nat) : Int) ≠ 4 by omega)]
    rfl
theorem xrb_ev (h : Int → CX) (n : Int) : ev Try.prog [] [kS Try.prog 14 (gRt h)] noL Try.f16 [iA n] ret =
    gate (FSpec Try.prog 14 [iA n] (cA (h n))) (some (Out.of (.cx (h n).1 (fneg (h n).2)))) := by kernel_rfl
theorem xrb_spec (m : Nat) (h1 : 1 ≤ m) (h2 : m ≤ 30) : FSpec Try.prog 16 [iA ((2 ^ m : Nat) : Int)] (cA (rtB true m)) := by
  refine gspec e_nil (k_cons (kS_ok (P := Try.prog) (f := 14) (g := gRt fun _ => rt m)) k_nil) Try.func16 (by kernel_rfl) (by kernel_rfl) noL_ok rfl ((xrb_ev (fun _ => rt m) ((2 ^ m : Nat) : Int)).trans ?_)
  rw [gate_pos (xrt_spec m h1 h2)]
  rfl
/-! ### Every second one -/
def esS (N : Nat) (g : Nat → CX) (a : Int) (h : Nat) (i : Int) (Y : Nat → CX) : St := mkS 28 [(0, sC N g), (1, iA a), (5, .osl 0 1 0 h), (12, iA (h : Nat)), (13, iA i)] [.a 36 1 h fun q => [cA (Y q)]]
def keepEs : List Nat := [0, 1, 5, 12, 13]
def stB (i : Nat) (n : Nat) : Bool := Nat.blt (0 + i) n || false
section
variable (N : Nat) (g : Nat → CX) (a : Int) (h : Nat) (i : Int) (Y : Nat → CX)
def esK (a i : Int) : Int := w64 (w64 (2 * i) + a)
def esN : St := mkS 28 [(0, sC N g), (1, iA a), (5, .osl 0 1 0 h), (12, iA (h : Nat)), (13, iA (w64 (i + 1)))] [.a 36 1 h fun q => mixL (q == 0 + i.toNat) [cA (g (esK a i).toNat)] [cA (Y q)]]
theorem es_step : evC Try.prog [] [] noL (loopAt Try.f20 0) (esS N g a h i Y) (finN keepEs [some 0]) =
    cond (decide (i < (h : Int))) (cond (ixB (esK a i) N || false) (cond (ixB i h || false) (cond (stB i.toNat h) (some ⟨.normal, esN N g a h i Y, .any⟩) none) none) none) none := by kernel_rfl
theorem es_end : evC Try.prog [] [] noL (loopAt Try.f20 0) (esS N g a h i Y) (finE keepEs [some 0]) =
    cond (decide (i < (h : Int))) (cond (ixB (esK a i) N || false) (cond (ixB i h || false) (cond (stB i.toNat h) none none) none) none) (some ⟨.exit 0, esS N g a h i Y, .any⟩) := by kernel_rfl
end
end Go.Proofs.Ytldbbajakgaajaa

namespace Go.Proofs.Ytldbbajakgaajaa
open Go.Gv
open Go.Ev (fadd fsub fmul fdiv fneg fsqrt cn CX cmul cadd csub one64 two64 mone rt rtB pws wv)

def mkX (n : Int) : Bool := decide (0 ≤ n) && (decide (n ≤ n) && decide (((16 : Nat) : Int) * n ≤ 281474976710656))
theorem mkX_t {n : Nat} (h1 : n ≤ 1048576) : mkX (n : Nat) = true := by
  unfold mkX
  rw [decide_eq_true (show (0 : Int) ≤ (n : Int) by omega), decide_eq_true (Int.le_refl _), decide_eq_true (show ((16 : Nat) : Int) * (n : Int) ≤ 281474976710656 by omega)]
  rfl
theorem stB_t {i n : Nat} (h : i < n) : stB i n = true := by unfold stB; rw [Nat.zero_add, blt_t h]; rfl
def hfI (N : Nat) : Int := w64 ((N : Int).tdiv 2)
theorem hfI_eq {h : Nat} (hh : h ≤ 1048576) : hfI (2 * h) = (h : Int) := by
  unfold hfI
  rw [Int.tdiv_eq_ediv_of_nonneg (by omega), w64_id (by omega) (by omega)]
  omega
noncomputable def esL (N : Nat) (g : Nat → CX) (a : Int) (h : Nat) (Y : Nat → CX) : Nat → Option LFun := oneL 3 (toldF keepEs [some 0] (esS N g a h 0 fun _ => (0, 0)) (.exit 0) (esS N g a h (h : Nat) Y))
theorem es_ev (N : Nat) (g : Nat → CX) (a : Int) (Y : Nat → CX) : ev Try.prog [] [] (esL N g a (hfI N).toNat Y) Try.f20 [sC N g, iA a] ret =
    cond (mkX (hfI N) || false) (gate (Sub (esS N g a (hfI N).toNat 0 fun _ => (0, 0)) (esS N g a (hfI N).toNat 0 fun _ => (0, 0))) (some (Out.of (.sl 1 (hfI N).toNat fun i => [cA (Y (0 + i))])))) none := by kernel_rfl
def esV (g : Nat → CX) (a k q : Nat) : CX := cond (Nat.blt q k) (g (2 * q + a)) (0, 0)
theorem es_leads {h : Nat} (hh : h ≤ 1048576) (g : Nat → CX) {a : Nat} (ha : a < 2) : Leads Try.prog (.loop (loopAt Try.f20 0)) (esS (2 * h) g (a : Nat) h 0 fun _ => (0, 0)) (.exit 0) (esS (2 * h) g (a : Nat) h (h : Nat) (esV g a h)) := by
  refine Leads.sub (s1 := esS (2 * h) g (a : Nat) h 0 (esV g a 0)) ?_ (Sub.refl _) (Sub.refl _)
  refine loop_rule (fun i => esS (2 * h) g (a : Nat) h (i : Nat) (esV g a i)) h (.exit 0) _ (by simp) (fun i hi => ?_) ?_
  · have st := es_step (2 * h) g (a : Nat) h (i : Nat) (esV g a i)
    have ek : esK (a : Nat) (i : Nat) = ((2 * i + a : Nat) : Int) := by
      unfold esK
      rw [w64_id (n := 2 * (i : Int)) (by omega) (by omega), w64_id (by omega) (by omega)]
      omega
    unfold esN at st
    rw [ek, dec_lt hi, ixB_t (show 2 * i + a < 2 * h by omega), ixB_t hi, Int.toNat_natCast, stB_t hi, w64_next (by omega), Int.toNat_natCast] at st
    refine (leads_ev (finN_sub keepEs [some 0]) e_nil k_nil noL_ok st).sub (Sub.refl _) ?_
    refine sub_same ⟨Or.inr ⟨36, 1, h, _, _, rfl, rfl, fun q hq => ?_⟩, trivial⟩
    rw [mixC]
    unfold esV
    by_cases e : q = i
    · subst e; rw [Nat.zero_add, BEq.rfl, blt_t (show q < q + 1 by omega)]; rfl
    · rw [Nat.zero_add, beq_false_of_ne e, cond_false]
      by_cases hl : q < i
      · rw [blt_t hl, blt_t (show q < i + 1 by omega)]
      · rw [bltF hl, bltF (show ¬ q < i + 1 by omega)]
  · refine leads_ev (finE_sub keepEs [some 0]) e_nil k_nil noL_ok ((es_end (2 * h) g (a : Nat) h (h : Nat) (esV g a h)).trans ?_)
    rw [dec_self, cond_false]
theorem es_spec {h : Nat} (hh : h ≤ 1048576) (g : Nat → CX) {a : Nat} (ha : a < 2) : FSpec Try.prog 20 [sC (2 * h) g, iA (a : Nat)] (sC h fun i => g (2 * i + a)) := by
  have e1 := hfI_eq hh
  have e2 : (hfI (2 * h)).toNat = h := by rw [e1]; rfl
  have hev := es_ev (2 * h) g (a : Nat) (esV g a h)
  rw [e2, e1, mkX_t hh, gate_pos (Sub.refl _)] at hev
  have h1 := gspec e_nil k_nil Try.func20 (by kernel_rfl) (by kernel_rfl) (lok_at 0 1 (by kernel_rfl) (by kernel_rfl) (toldF_sound (es_leads hh g ha))) rfl hev
  refine FSpec.of_res h1 fun E v hv => sl_like hv fun i hi => ?_
  unfold esV
  rw [Nat.zero_add, blt_t hi]
  rfl
/-! ### Waves -/
def fA (f : Nat) : AV := .fn (.func f) [] []
def wxS (hi : Int) (N h : Nat) (E O : Nat → CX) (w p : CX) (k : Int) (A : Nat → CX) : St := mkS 72 [(6, iA hi), (7, sC h E), (8, sC h O), (9, .osl 0 1 0 N), (10, cA w), (11, cA p), (37, iA hi), (38, iA k)] [.a 36 1 N fun q => [cA (A q)]]
def keepWx : List Nat := [6, 7, 8, 9, 10, 11, 37, 38]
section
variable (pf : CX → CX → CX) (hi : Int) (N h : Nat) (E O : Nat → CX) (w p : CX) (k : Int) (A : Nat → CX)
def wxK (k hi : Int) : Int := w64 (k + hi)
def wxB : Bool := (ixB k h || false) && ((ixB k h || false) && ((ixB k N || false) && (stB k.toNat N && ((ixB (wxK k hi) N || false) && (stB (wxK k hi).toNat N && true)))))
def wxN : St := mkS 72 [(6, iA hi), (7, sC h E), (8, sC h O), (9, .osl 0 1 0 N), (10, cA w), (11, cA (pf p w)), (37, iA hi), (38, iA (w64 (k + 1)))]
  [.a 36 1 N fun q => mixL (q == 0 + (wxK k hi).toNat) [cA (csub (E k.toNat) (pf p (O k.toNat)))] (mixL (q == 0 + k.toNat) [cA (cadd (E k.toNat) (pf p (O k.toNat)))] [cA (A q)])]
theorem wx_step : evC Try.prog [⟨15, gC2 pf⟩] [] noL (loopAt Try.f12 0) (wxS hi N h E O w p k A) (finN keepWx [some 0]) =
    cond (decide (k < hi)) (cond (ixB k h || false) (cond (wxB hi N h k) (some ⟨.normal, wxN pf hi N h E O w p k A, .any⟩) none) none) none := by kernel_rfl
theorem wx_end : evC Try.prog [⟨15, gC2 pf⟩] [] noL (loopAt Try.f12 0) (wxS hi N h E O w p k A) (finE keepWx [some 0]) =
    cond (decide (k < hi)) (cond (ixB k h || false) (cond (wxB hi N h k) none none) none) (some ⟨.exit 0, wxS hi N h E O w p k A, .any⟩) := by kernel_rfl
end
end Go.Proofs.Ytldbbajakgaajaa

namespace Go.Proofs.Ytldbbajakgaajaa
open Go.Gv
open Go.Ev (fadd fsub fmul fdiv fneg fsqrt cn CX cmul cadd csub one64 two64 mone rt rtB pws wv)

abbrev WE : Type := (Nat → List AV) → Nat → CX
def gWe (W : WE) : List AV → AV
  | [.sl _ n el, _] => sC n (W el)
  | _ => .any
def gEs (h : Nat) (G : Int → Nat → CX) : List AV → AV
  | [_, .x (.int .i64 a)] => sC h (G a)
  | _ => .any
section
variable (W : WE) (G : Int → Nat → CX) (rf : Int → CX) (N : Nat) (g : Nat → CX) (h : Nat) (p : CX) (A : Nat → CX)
def eoW (a : Int) : Nat → CX := W fun i => [cA (G a i)]
noncomputable def wxL : Nat → Option LFun := oneL 10 (toldF keepWx [some 0] (wxS (hfI N) N h (eoW W G 0) (eoW W G 1) (rf (N : Nat)) (one64, 0) 0 fun _ => (0, 0)) (.exit 0) (wxS (hfI N) N h (eoW W G 0) (eoW W G 1) (rf (N : Nat)) p (h : Nat) A))
abbrev ESok (a : Int) : Prop := FSpec Try.prog 20 [sC N g, iA a] (sC h (G a))
abbrev WEok (f : Nat) (a : Int) : Prop := FSpec Try.prog 12 [sC h (G a), fA f] (sC h (eoW W G a))
noncomputable def wx3 (f : Nat) : Option Out := cond ((N : Int) == 1) (cond (ixB 0 N || false) (gout (.osl 0 1 0 1) [.a 36 1 1 (chunk [cA (g 0)] 1)]) none)
  (gate (ESok G N g h 0) (gate (WEok W G h f 0) (gate (ESok G N g h 1) (gate (WEok W G h f 1) (cond (mkX (N : Int) || false) (gate (FSpec Try.prog f [iA (N : Int)] (cA (rf (N : Int))))
    (gate (Sub (wxS (hfI N) N h (eoW W G 0) (eoW W G 1) (rf (N : Nat)) (one64, 0) 0 fun _ => (0, 0)) (wxS (hfI N) N h (eoW W G 0) (eoW W G 1) (rf (N : Nat)) (one64, 0) 0 fun _ => (0, 0)))
      (gout (.osl 0 1 0 N) [.a 36 1 N fun q => [cA (A q)]]))) none)))))
theorem wx_evF : evG Try.prog [] [kS Try.prog 12 (gWe W), kS Try.prog 20 (gEs h G), kS Try.prog 14 (gRt rf)] [] (wxL W G rf N h p A) Try.f12 [sC N g, fA 14] [] [some 0] = wx3 W G rf N g h A 14 := by kernel_rfl
theorem wx_evB : evG Try.prog [] [kS Try.prog 12 (gWe W), kS Try.prog 20 (gEs h G), kS Try.prog 16 (gRt rf)] [] (wxL W G rf N h p A) Try.f12 [sC N g, fA 16] [] [some 0] = wx3 W G rf N g h A 16 := by kernel_rfl
theorem wx_ev1 (f : Nat) : evG Try.prog [] [⟨20, fun _ _ => none⟩] [] noL Try.f12 [sC N g, fA f] [] [some 0] = cond ((N : Int) == 1) (cond (ixB 0 N || false) (gout (.osl 0 1 0 1) [.a 36 1 1 (chunk [cA (g 0)] 1)]) none) none := by kernel_rfl
end
end Go.Proofs.Ytldbbajakgaajaa

namespace Go.Proofs.Ytldbbajakgaajaa
open Go.Gv
open Go.Ev (fadd fsub fmul fdiv fneg fsqrt cn CX cmul cadd csub one64 two64 mone rt rtB pws wv)

/-- What has been filled in. -/
def wxA (w : CX) (E O : Nat → CX) (h k q : Nat) : CX := cond (Nat.blt q k) (loW w E O q) (cond (Nat.ble h q && Nat.blt q (h + k)) (hiW w E O (q - h)) (0, 0))
theorem bleF {a b : Nat} (h : ¬ a ≤ b) : Nat.ble a b = false := by
  cases e : Nat.ble a b with
  | false => rfl
  | true => exact absurd (Nat.le_of_ble_eq_true e) h
theorem wxB_t {k h : Nat} (hk : k < h) (hh : h ≤ 1048576) : wxB (h : Nat) (2 * h) h (k : Nat) = true := by
  have e : wxK (k : Nat) (h : Nat) = ((k + h : Nat) : Int) := by unfold wxK; rw [w64_id (by omega) (by omega)]; omega
  unfold wxB
  rw [e, ixB_t hk, ixB_t (show k < 2 * h by omega), ixB_t (show k + h < 2 * h by omega), Int.toNat_natCast, Int.toNat_natCast, stB_t (show k < 2 * h by omega), stB_t (show k + h < 2 * h by omega)]
  rfl
theorem wx_leads {h : Nat} (hh : h ≤ 1048576) (E O : Nat → CX) (w : CX) : Leads Try.prog (.loop (loopAt Try.f12 0)) (wxS (h : Nat) (2 * h) h E O w (one64, 0) 0 fun _ => (0, 0)) (.exit 0) (wxS (h : Nat) (2 * h) h E O w (pws w h) (h : Nat) (wxA w E O h h)) := by
  refine Leads.sub (s1 := wxS (h : Nat) (2 * h) h E O w (one64, 0) 0 (wxA w E O h 0)) (s2 := wxS (h : Nat) (2 * h) h E O w (pws w h) (h : Nat) (wxA w E O h h)) ?_ (sub_same ⟨Or.inr ⟨36, 1, 2 * h, _, _, rfl, rfl, fun q hq => ?_⟩, trivial⟩) (Sub.refl _)
  rotate_left
  · unfold wxA
    rw [bltF (show ¬ q < 0 by omega), cond_false]
    by_cases h1 : h ≤ q
    · rw [bltF (show ¬ q < h + 0 by omega), Bool.and_false]; rfl
    · rw [bleF h1]; rfl
  refine loop_rule (fun k => wxS (h : Nat) (2 * h) h E O w (pws w k) (k : Nat) (wxA w E O h k)) h (.exit 0) _ (by simp) (fun k hk => ?_) ?_
  · have st := wx_step cmul (h : Nat) (2 * h) h E O w (pws w k) (k : Nat) (wxA w E O h k)
    have e : wxK (k : Nat) (h : Nat) = ((k + h : Nat) : Int) := by unfold wxK; rw [w64_id (by omega) (by omega)]; omega
    unfold wxN at st
    rw [dec_lt hk, ixB_t hk, wxB_t hk hh, w64_next (by omega), e, Int.toNat_natCast, Int.toNat_natCast] at st
    refine (leads_ev (finN_sub keepWx [some 0]) (e_cons xPr_ok e_nil) k_nil noL_ok st).sub (Sub.refl _) ?_
    refine sub_same ⟨Or.inr ⟨36, 1, 2 * h, _, _, rfl, rfl, fun q hq => ?_⟩, trivial⟩
    rw [mixC, mixC, Nat.zero_add, Nat.zero_add]
    unfold wxA
    by_cases e1 : q = k + h
    · subst e1
      rw [BEq.rfl, cond_true, bltF (show ¬ k + h < k + 1 by omega), cond_false, ble_t (show h ≤ k + h by omega), blt_t (show k + h < h + (k + 1) by omega), Nat.add_sub_cancel]
      rfl
    · rw [beq_false_of_ne e1, cond_false]
      by_cases e2 : q = k
      · subst e2
        rw [BEq.rfl, cond_true, blt_t (show q < q + 1 by omega), cond_true]
        rfl
      · rw [beq_false_of_ne e2, cond_false]
        by_cases h1 : q < k
        · rw [blt_t h1, blt_t (show q < k + 1 by omega)]; rfl
        · rw [bltF h1, bltF (show ¬ q < k + 1 by omega), cond_false, cond_false]
          by_cases h2 : q < h + k
          · rw [blt_t h2, blt_t (show q < h + (k + 1) by omega)]
          · rw [bltF h2, bltF (show ¬ q < h + (k + 1) by omega)]
  · refine leads_ev (finE_sub keepWx [some 0]) (e_cons xPr_ok e_nil) k_nil noL_ok ((wx_end cmul (h : Nat) (2 * h) h E O w (pws w h) (h : Nat) (wxA w E O h h)).trans ?_)
    rw [dec_self, cond_false]
/-- The row that waves hands back. -/
def wxR (N : Nat) (Y : Nat → CX) : List Row := [.a 36 1 N fun q => [cA (Y q)]]
abbrev WavesG (f N : Nat) (g Y : Nat → CX) : Prop := GSpec Try.prog 12 [sC N g, fA f] [] (.osl 0 1 0 N) (wxR N Y)
theorem plainX (N : Nat) (Y : Nat → CX) : PlainRows (wxR N Y) := by
  intro k e sz c el hk i hi
  match k, hk with
  | 0, hk => cases hk; rfl
  | k + 1, hk => simp [wxR] at hk
theorem waves_F {f N : Nat} {g Y : Nat → CX} (h : WavesG f N g Y) : FSpec Try.prog 12 [sC N g, fA f] (sC N Y) := by
  have h1 := (fresh_rows h (by show (Nat.beq 1 1 && Nat.ble (0 + N) N) = true; rw [Nat.zero_add, ble_t (Nat.le_refl N)]; rfl) (plainX N Y)).spec rfl rfl
  refine FSpec.of_res h1 fun E v hv => ?_
  have hv' : rel E (.sl 1 N fun i => [cA (Y (0 + i))]) v := hv
  refine sl_like hv' fun i hi => ?_
  rw [Nat.zero_add]
def rtN (b : Bool) : Nat := cond b 16 14
theorem rtN_spec (b : Bool) (m : Nat) (h1 : 1 ≤ m) (h2 : m ≤ 30) : FSpec Try.prog (rtN b) [iA ((2 ^ m : Nat) : Int)] (cA (rtB b m)) := by
  cases b
  · exact xrt_spec m h1 h2
  · exact xrb_spec m h1 h2
/-- THE WAVES. -/
theorem waves_G (b : Bool) : ∀ (m : Nat), m ≤ 20 → ∀ g : Nat → CX, WavesG (rtN b) (2 ^ m) g (wv b m g)
  | 0, _, g => by
    have h1 : GSpec Try.prog 12 [sC 1 g, fA (rtN b)] [] (.osl 0 1 0 1) [.a 36 1 1 (chunk [cA (g 0)] 1)] := by
      refine gspecG (mem := []) e_nil (k_cons (kno_ok _) k_nil) m_nil Try.func12 (by kernel_rfl) (by kernel_rfl) noL_ok rfl (by kernel_rfl) ((wx_ev1 1 g (rtN b)).trans ?_)
      rfl
    refine GSpec.of_rows h1 ⟨Or.inr ⟨36, 1, 1, _, _, rfl, rfl, fun i hi => ?_⟩, trivial⟩
    obtain rfl : i = 0 := by omega
    rfl
  | m + 1, hm, g => by
    have e2 : 2 ^ (m + 1) = 2 * 2 ^ m := by rw [Nat.pow_succ]; omega
    have hp0 : 0 < 2 ^ m := Nat.two_pow_pos m
    have hh : 2 ^ m ≤ 1048576 := Nat.le_trans (Nat.pow_le_pow_right (by decide) (show m ≤ 20 by omega)) (by decide)
    have c1 := waves_F (waves_G b m (by omega) fun i => g (2 * i + 0))
    have c2 := waves_F (waves_G b m (by omega) fun i => g (2 * i + 1))
    have s1 := es_spec hh g (a := 0) (by omega)
    have s2 := es_spec hh g (a := 1) (by omega)
    have cr := rtN_spec b (m + 1) (by omega) (by omega)
    let G : Int → Nat → CX := fun a i => g (2 * i + a.toNat)
    let W : WE := fun el => wv b m fun i => (match el i with | [.cx x y] => (x, y) | _ => (0, 0))
    let E : Nat → CX := wv b m fun i => g (2 * i)
    let O : Nat → CX := wv b m fun i => g (2 * i + 1)
    have eE : eoW W G 0 = E := rfl
    have eO : eoW W G 1 = O := rfl
    have hl := wx_leads (h := 2 ^ m) hh E O (rtB b (m + 1))
    rw [e2] at cr ⊢
    have eh := hfI_eq hh
    have hL : LOk Try.prog (wxL W G (fun _ => rtB b (m + 1)) (2 * 2 ^ m) (2 ^ m) (pws (rtB b (m + 1)) (2 ^ m)) (wxA (rtB b (m + 1)) E O (2 ^ m) (2 ^ m))) (bodyOf Try.f12) := by
      unfold wxL
      rw [eh]
      exact lok_at 0 1 (by kernel_rfl) (by kernel_rfl) (toldF_sound hl)
    have fin : wx3 W G (fun _ => rtB b (m + 1)) (2 * 2 ^ m) g (2 ^ m) (wxA (rtB b (m + 1)) E O (2 ^ m) (2 ^ m)) (rtN b) = gout (.osl 0 1 0 (2 * 2 ^ m)) (wxR (2 * 2 ^ m) (wxA (rtB b (m + 1)) E O (2 ^ m) (2 ^ m))) := by
      unfold wx3
      rw [beq_false_of_ne (show ((2 * 2 ^ m : Nat) : Int) ≠ 1 by omega), cond_false, gate_pos (show ESok G (2 * 2 ^ m) g (2 ^ m) 0 from s1), gate_pos (show WEok W G (2 ^ m) (rtN b) 0 from c1), gate_pos (show ESok G (2 * 2 ^ m) g (2 ^ m) 1 from s2), gate_pos (show WEok W G (2 ^ m) (rtN b) 1 from c2), mkX_t (n := 2 * 2 ^ m) (by
        have : 2 * 2 ^ m = 2 ^ (m + 1) := e2.symm
        rw [this]
        exact Nat.le_trans (Nat.pow_le_pow_right (by decide) hm) (by decide)), gate_pos cr, gate_pos (Sub.refl _)]
      rfl
    have h1 : GSpec Try.prog 12 [sC (2 * 2 ^ m) g, fA (rtN b)] [] (.osl 0 1 0 (2 * 2 ^ m)) (wxR (2 * 2 ^ m) (wxA (rtB b (m + 1)) E O (2 ^ m) (2 ^ m))) := by
      cases b
      · exact gspecG (mem := []) e_nil (k_cons kS_ok (k_cons kS_ok (k_cons kS_ok k_nil))) m_nil Try.func12 (by kernel_rfl) (by kernel_rfl) hL rfl (by kernel_rfl) ((wx_evF W G (fun _ => rtB false (m + 1)) (2 * 2 ^ m) g (2 ^ m) _ _).trans fin)
      · exact gspecG (mem := []) e_nil (k_cons kS_ok (k_cons kS_ok (k_cons kS_ok k_nil))) m_nil Try.func12 (by kernel_rfl) (by kernel_rfl) hL rfl (by kernel_rfl) ((wx_evB W G (fun _ => rtB true (m + 1)) (2 * 2 ^ m) g (2 ^ m) _ _).trans fin)
    refine GSpec.of_rows h1 ⟨Or.inr ⟨36, 1, 2 * 2 ^ m, _, _, rfl, rfl, fun q hq => ?_⟩, trivial⟩
    unfold wxA
    by_cases hq1 : q < 2 ^ m
    · rw [blt_t hq1, cond_true]
      show [cA (cond (Nat.blt q (2 ^ m)) _ _)] = _
      rw [blt_t hq1, cond_true]
      rfl
    · rw [bltF hq1, cond_false, ble_t (show 2 ^ m ≤ q by omega), blt_t (show q < 2 ^ m + 2 ^ m by omega)]
      show [cA (cond (Nat.blt q (2 ^ m)) _ _)] = _
      rw [bltF hq1, cond_false]
      rfl
end Go.Proofs.Ytldbbajakgaajaa
