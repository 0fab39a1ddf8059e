/-
  The law VecLaws returns true for all floats, the numbers that are none among them, and leaves its arguments as they were.
-/
import Derived.Test.YtnlfeocapnefeaaBends
import Derived.Test.YtnlfeocapnefeaaFl2
namespace Go.Proofs.Ytnlfeocapnefeaa
open Go.Ev Go.RowKit Go.ChangeShapes Go.WideShapes Go.ChangeAt

def fourN : Nat := 4616189618054758400
def twoN : Nat := 4611686018427387904
def halfN : Nat := 4602678819172646912

/-- What the law says behind its tests, with the power of two that it takes. -/
def restS (a b c d e f k : Nat) : Option Value :=
  cond (cond (!sameVS (fadd a d) (fadd b e) (fadd c f) (fadd d a) (fadd e b) (fadd f c)) true (!sameS (dotS a b c d e f) (dotS d e f a b c))) (some (B false))
  (cond (cond (cond (!feq (fsub (fmul b f) (fmul c e)) (fneg (fsub (fmul e c) (fmul f b)))) true (!feq (fsub (fmul c d) (fmul a f)) (fneg (fsub (fmul f a) (fmul d c))))) true
    (!feq (fsub (fmul a e) (fmul b d)) (fneg (fsub (fmul d b) (fmul e a))))) (some (B false))
  (some (B (cond (cond (sameVS (fmul (fmul a fourN) k) (fmul (fmul b fourN) k) (fmul (fmul c fourN) k) (fmul a (fmul fourN k)) (fmul b (fmul fourN k)) (fmul c (fmul fourN k)))
    (sameVS (fdiv a k) (fdiv b k) (fdiv c k) (fmul a (fdiv one k)) (fmul b (fdiv one k)) (fmul c (fdiv one k))) false)
    (feq (cleanS (cleanS a)) (cleanS a) && (feq (cleanS (cleanS b)) (cleanS b) && (feq (cleanS (cleanS c)) (cleanS c) && true))) false))))

theorem near_of {x : Nat} (h : nearS x = true) : ∃ s m i, Ieee.double.read x = .number s m i ∧ m < 9007199254740992 ∧ -1074 ≤ i ∧ (m ≠ 0 → i + m.log2 ≤ 19) := by
  unfold nearS at h
  cases h1 : fge x 13920209183539462144
  · rw [h1] at h; cases h
  · rw [h1] at h; exact near_read h1 h

theorem read_four : Ieee.double.read fourN = .number false 4503599627370496 (-50) := by decide +kernel
theorem read_two : Ieee.double.read twoN = .number false 4503599627370496 (-51) := by decide +kernel
theorem read_half : Ieee.double.read halfN = .number false 4503599627370496 (-53) := by decide +kernel
theorem read_eight : Ieee.double.read 4620693217682128896 = .number false 4503599627370496 (-49) := by decide +kernel
theorem pow52 : (4503599627370496 : Nat) = 2 ^ 52 := by decide
theorem four_two : fmul fourN twoN = 4620693217682128896 := by decide +kernel
theorem four_half : fmul fourN halfN = twoN := by decide +kernel
theorem one_two : fdiv one twoN = halfN := by decide +kernel
theorem one_half : fdiv one halfN = twoN := by decide +kernel

theorem scale_two {x : Nat} (h : nearS x = true) : fmul (fmul x fourN) twoN = fmul x (fmul fourN twoN) := by
  obtain ⟨s, m, i, hr, h53, hi, hb⟩ := near_of h
  rw [four_two, fmul_fmul_pow hr read_four read_two pow52 h53 (by omega) (fun hm => by have := hb hm; omega), fmul_pow hr read_eight pow52]
  congr 1
  omega
theorem scale_half {x : Nat} (h : nearS x = true) : fmul (fmul x fourN) halfN = fmul x (fmul fourN halfN) := by
  obtain ⟨s, m, i, hr, h53, hi, hb⟩ := near_of h
  rw [four_half, fmul_fmul_pow hr read_four read_half pow52 h53 (by omega) (fun hm => by have := hb hm; omega), fmul_pow hr read_two pow52]
  congr 1
  omega
theorem over_two {x : Nat} (h : nearS x = true) : fdiv x twoN = fmul x (fdiv one twoN) := by
  obtain ⟨s, m, i, hr, h53, hi, hb⟩ := near_of h
  rw [one_two, fdiv_pow hr read_two pow52 h53, fmul_pow hr read_half pow52]
  congr 1
  omega
theorem over_half {x : Nat} (h : nearS x = true) : fdiv x halfN = fmul x (fdiv one halfN) := by
  obtain ⟨s, m, i, hr, h53, hi, hb⟩ := near_of h
  rw [one_half, fdiv_pow hr read_half pow52 h53, fmul_pow hr read_two pow52]
  congr 1
  omega

theorem near_notNan {x : Nat} (h : nearS x = true) : isNan x = false := by
  obtain ⟨s, m, i, hr, _⟩ := near_of h
  unfold isNan; rw [hr]; rfl

theorem clean_clean {x : Nat} (h : nearS x = true) : feq (cleanS (cleanS x)) (cleanS x) = true := by
  have h0 : cleanS 0 = 0 := by decide +kernel
  have h00 : feq 0 0 = true := by decide +kernel
  have hc : cleanS x = 0 ∨ cleanS x = x := by
    unfold cleanS
    cases (cond (fgt x 13740701229962882445) (flt x 4517329193108106637) false)
    · exact Or.inr rfl
    · exact Or.inl rfl
  rcases hc with e | e
  · rw [e, h0]; exact h00
  · rw [e, e, feq_self, near_notNan h]; rfl

/-- Crosswise products, the other way about. -/
theorem cross_turn {a b c d : Nat} (ha : nearS a = true) (hb : nearS b = true) (hc : nearS c = true) (hd : nearS d = true) : feq (fsub (fmul a b) (fmul c d)) (fneg (fsub (fmul d c) (fmul b a))) = true := by
  rw [fmul_comm d c, fmul_comm b a]
  obtain ⟨_, _, _, r1, _, _, b1⟩ := near_of ha
  obtain ⟨_, _, _, r2, _, _, b2⟩ := near_of hb
  obtain ⟨_, _, _, r3, _, _, b3⟩ := near_of hc
  obtain ⟨_, _, _, r4, _, _, b4⟩ := near_of hd
  obtain ⟨_, _, _, h1⟩ := fmul_near r1 r2 b1 b2
  obtain ⟨_, _, _, h2⟩ := fmul_near r3 r4 b3 b4
  exact fsub_turn h1 h2

theorem fine_parts {a b c : Nat} (h : fineS a b c = true) : nearS a = true ∧ nearS b = true ∧ nearS c = true := by
  unfold fineS at h
  cases h1 : nearS a <;> cases h2 : nearS b <;> cases h3 : nearS c <;> simp_all

theorem rest_true {a b c d e f k : Nat} (h1 : fineS a b c = true) (h2 : fineS d e f = true) (hk : ∀ x, nearS x = true → fmul (fmul x fourN) k = fmul x (fmul fourN k)) (ho : ∀ x, nearS x = true → fdiv x k = fmul x (fdiv one k)) :
    restS a b c d e f k = some (B true) := by
  obtain ⟨ha, hb, hc⟩ := fine_parts h1
  obtain ⟨hd, he, hf⟩ := fine_parts h2
  have hdot : dotS d e f a b c = dotS a b c d e f := by unfold dotS; rw [fmul_comm d a, fmul_comm e b, fmul_comm f c]
  unfold restS
  rw [fadd_comm d a, fadd_comm e b, fadd_comm f c, hdot, hk a ha, hk b hb, hk c hc, ho a ha, ho b hb, ho c hc, clean_clean ha, clean_clean hb, clean_clean hc,
    cross_turn hb hf hc he, cross_turn hc hd ha hf, cross_turn ha he hb hd]
  simp only [sameVS_self, sameS_self]
  rfl

theorem laws_ev (a b c d e f : Nat) (up : Bool) : ev Try.prog L4 Try.f5 [V a b c, V d e f, B up] = some (B true) := by
  have h : ev Try.prog L4 Try.f5 [V a b c, V d e f, B up] =
      cond (cond (!feq (dotS one twoN 4613937818241073152 fourN 4617315517961601024 4618441417868443648) 4629700416936869888) true (!fineS one 0 0)) (some (B false))
      (cond (cond (!fineS a b c) true (!fineS d e f)) (some (B true)) (cond up (restS a b c d e f twoN) (restS a b c d e f halfN))) := by kernel_rfl
  have hc : cond (!feq (dotS one twoN 4613937818241073152 fourN 4617315517961601024 4618441417868443648) 4629700416936869888) true (!fineS one 0 0) = false := by decide +kernel
  rw [h, hc, cond_false]
  cases h1 : fineS a b c
  · rfl
  · cases h2 : fineS d e f
    · rfl
    · rw [rest_true h1 h2 (fun x => scale_two) (fun x => over_two), rest_true h1 h2 (fun x => scale_half) (fun x => over_half)]
      cases up <;> rfl
theorem laws5 (a b c d e f : Nat) (up : Bool) : FSpec Try.prog 5 [] [V a b c, V d e f, B up] (B true) := sp L4_ok Try.func5 (by kernel_rfl) rfl (laws_ev a b c d e f up)

set_option maxRecDepth 100000 in
theorem laws_lifted (os : Os) (started : os.Started) (H : Type) (enc : TypeId × Value → H) :
    ReturnsInHanded {} Try.checked os 5 .any (Rows.vecLawsSpec.pre6 enc Try.prog Try.f5 Rows.vecLawsRow.domain false) (Rows.vecLawsSpec.post enc Try.prog Try.f5 false true false false) := by
  refine returnsInHanded_of_change (C := Try.checked) Try.own started (by kernel_rfl) Try.func5
    (ChangeSpec.witness6 (enc := enc) (C := Try.checked) false ⟨#[], #[.agg #[.float .f64 0, .float .f64 0, .float .f64 0], .agg #[.float .f64 0, .float .f64 0, .float .f64 0], .bool false], []⟩ 8 (by kernel_rfl) (by kernel_rfl) (by kernel_rfl) (by kernel_rfl)) ?_
  intro W base args ds gs before hval0 hW hcnd _
  have hval : ∀ (j : Nat) t v, Try.f5.params[j]? = some t → args[j]? = some v → Value.okWide Try.prog W .any base t v := hval0
  have hW' := hW
  obtain ⟨p, q, hA0, hV, rfl, hfz, hnd⟩ := hW
  have hA : DataW.TrodAll enc Try.prog W 0 (fun _ => true) true Try.f5.params.toList args.toList ds p := hA0
  rw [Try.params5] at hA hval
  obtain ⟨v0, v1, v2, d0, d1, d2, p0, p1, p2, rfl, rfl, rfl, h0, h1, h2⟩ := trodAll_three hA
  obtain ⟨rfl, rfl⟩ := trodVars_none hV
  obtain ⟨a, b, c, rfl⟩ := vec_arg (hval 0 24 v0 rfl rfl) h0
  obtain ⟨d, e, f, rfl⟩ := vec_arg (hval 1 24 v1 rfl rfl) h1
  obtain ⟨up, rfl, rfl, rfl⟩ := open_bool Try.underlying4 (hval 2 4 v2 rfl rfl) h2
  refine ((laws5 (cn a) (cn b) (cn c) (cn d) (cn e) (cn f) up).2 [] W #[.agg #[.float .f64 a, .float .f64 b, .float .f64 c], .agg #[.float .f64 d, .float .f64 e, .float .f64 f], .bool up] ⟨rfl, fun i b cells hb => by simp at hb⟩ ⟨vec_rel _ a b c, vec_rel _ d e f, rfl, trivial⟩).mono ?_
  rintro e' W' ⟨v, rfl, hv, hb⟩
  have hvt : v = .bool true := vrel_bool hv
  subst hvt
  exact ⟨_, rfl, law_post Try.laidOut (by kernel_rfl) rfl (by kernel_rfl) Try.underlying4 rfl hW' hb⟩

/-- THE STATEMENT. -/
theorem vecLaws_holds : Rows.VecLawsSaid :=
  OpenClaim.holds_of_wide 5 Try.f5 rfl rfl rfl rfl rfl rfl rfl ⟨rfl, rfl, rfl, rfl, rfl⟩ rfl rfl rfl rfl rfl (by kernel_rfl) Try.func5 (by kernel_rfl)
    (of_decide_eq_true (by kernel_rfl)) (by unfold Func.isWrapper; first | (rw [if_pos (by decide +kernel)]; kernel_rfl) | (rw [if_neg (by decide +kernel)]; exact ⟨rfl, rfl⟩))
    (fun os started H enc _ => laws_lifted os started H enc)
#print axioms vecLaws_holds
end Go.Proofs.Ytnlfeocapnefeaa
