/-
  What the law TopQuarters gives, of raw numbers in a slice of any length.
-/
import Derived.Test.YtfiihlgnbhcpeaiGreatQc
namespace Go.Proofs.YtfiihlgnbhcpeaiGreat
open Go.Ev

theorem spH [Tok] {hd : List (List Value)} {L : List Entry} (hL : ∀ e, e ∈ L → EOkH Tryz.prog hd e) {f : Nat} {fn : Func} (hf : Tryz.prog.funcs[f]? = some fn) (hnm : (fn.name == "runtime.NumGoroutine") = false) {args : List Value} (hlen : Nat.ble args.length fn.ntmps = true) {r : Value}
    (h : evH Tryz.prog hd L fn args = some r) : FSpec Tryz.prog f hd args r := spec_of_evH (by kernel_rfl) hL hf hnm hlen h
theorem allH_nil [Tok] {P : Program} {hd : List (List Value)} : ∀ e, e ∈ ([] : List Entry) → EOkH P hd e := fun e h => by cases h
theorem allH_cons [Tok] {P : Program} {hd : List (List Value)} {x : Entry} {l : List Entry} (hx : EOkH P hd x) (hl : ∀ e, e ∈ l → EOkH P hd e) : ∀ e, e ∈ x :: l → EOkH P hd e := fun e h => by
  rcases List.mem_cons.1 h with rfl | h
  · exact hx
  · exact hl e h

theorem pick9 [Tok] (c : Int) (m : Nat) : FSpec Tryz.prog 9 [] [I c, I (.ofNat (m + 1))] (I (pickS c (.ofNat (m + 1)))) := by
  refine sp all_nil Tryz.func9 (by kernel_rfl) rfl ?_
  have h : ev Tryz.prog [] Tryz.f9 [I c, I (.ofNat (m + 1))] = cond (decide (c < 0)) (some (I (Int.tmod (w64 (0 - w64 (c + 1))) (.ofNat (m + 1))))) (some (I (Int.tmod c (.ofNat (m + 1))))) := by kernel_rfl
  rw [h]; unfold pickS; cases decide (c < 0) <;> rfl
theorem thou30 [Tok] (n : Int) : FSpec Tryz.prog 30 [] [I n] (F (thouS n)) := sp all_nil Tryz.func30 (by kernel_rfl) rfl (by kernel_rfl)
theorem nought33 [Tok] (a b c : Nat) : FSpec Tryz.prog 33 [] [V a b c] (B (noughtS a b c)) := sp all_nil Tryz.func33 (by kernel_rfl) rfl (by kernel_rfl)
theorem less37 [Tok] (a b : Nat) : FSpec Tryz.prog 37 [] [F a, F b] (F (lessS a b)) := by
  refine sp all_nil Tryz.func37 (by kernel_rfl) rfl ?_
  have h : ev Tryz.prog [] Tryz.f37 [F a, F b] = cond (flt b a) (some (F b)) (some (F a)) := by kernel_rfl
  rw [h]; unfold lessS; cases flt b a <;> rfl
theorem more38 [Tok] (a b : Nat) : FSpec Tryz.prog 38 [] [F a, F b] (F (moreS a b)) := by
  refine sp all_nil Tryz.func38 (by kernel_rfl) rfl ?_
  have h : ev Tryz.prog [] Tryz.f38 [F a, F b] = cond (fgt b a) (some (F b)) (some (F a)) := by kernel_rfl
  rw [h]; unfold moreS; cases fgt b a <;> rfl
def M0 [Tok] : List Entry := (9, pe ePick0) :: (30, pe (eI0 fun n => F (thouS n))) :: (33, eV fun a b c => B (noughtS a b c)) :: (37, eFF fun a b => F (lessS a b)) :: (38, eFF fun a b => F (moreS a b)) :: T4
theorem M0_ok [Tok] : ∀ e, e ∈ M0 → EOk Tryz.prog e := all_cons (ePick_ok pick9) <| all_cons (eI_ok thou30) <| all_cons (eV_ok nought33) <| all_cons (eFF_ok less37) <| all_cons (eFF_ok more38) T4_ok
theorem low17 [Tok] (a b c d e f : Nat) : FSpec Tryz.prog 17 [] [V a b c, V d e f] (lowV a b c d e f) := sp M0_ok Tryz.func17 (by kernel_rfl) rfl (by kernel_rfl)
theorem high18 [Tok] (a b c d e f : Nat) : FSpec Tryz.prog 18 [] [V a b c, V d e f] (highV a b c d e f) := sp M0_ok Tryz.func18 (by kernel_rfl) rfl (by kernel_rfl)
def M2 [Tok] (P : Program) (f36 : Func) : List Entry := (17, eVV lowV) :: (18, eVV highV) :: (36, inl P M0 f36) :: M0
theorem M2_ok [Tok] : ∀ e, e ∈ M2 Tryz.prog Tryz.f36 → EOk Tryz.prog e := all_cons (eVV_ok low17) <| all_cons (eVV_ok high18) <| all_cons (inl_ok (by kernel_rfl) M0_ok Tryz.func36 (by kernel_rfl)) M0_ok

/-! ### The raw numbers -/
theorem rw_get [Tok] (l : List Int) {i : Nat} (h : i < l.length) : (RW l).getD (Tok.o 0 + i * 1) junk = I (l.getD i 0) := by
  unfold RW
  rw [List.getD_eq_getElem?_getD, List.getElem?_append_right (by simp), List.length_replicate, Nat.mul_one, Nat.add_sub_cancel_left, List.getElem?_map, List.getElem?_eq_getElem h]
  simp [h]
theorem rw_length [Tok] (l : List Int) : (RW l).length = Tok.o 0 + l.length := by unfold RW; simp
theorem raw_evA [Tok] (l : List Int) (m : Nat) (hm : l.length = m + 1) (k : Int) (hk : 0 ≤ k) : evH Tryz.prog [RW l] [] Tryz.f29 [.slice (some ⟨0, Tok.o 0, none⟩) (m + 1) 0, I k] = some (I (rawS l k)) := by
  have h : ∀ row : List Value, evH Tryz.prog [row] [] Tryz.f29 [.slice (some ⟨0, Tok.o 0, none⟩) (m + 1) 0, I k] =
      cond (decide (0 ≤ Int.tmod k (.ofNat (m + 1))) && decide (Int.tmod k (.ofNat (m + 1)) < ((m + 1 : Nat) : Int))) (cond (Nat.blt (Tok.o 0 + (Int.tmod k (.ofNat (m + 1))).toNat * 1) row.length)
        (cond (noPtr (row.getD (Tok.o 0 + (Int.tmod k (.ofNat (m + 1))).toNat * 1) junk) && okArg (row.getD (Tok.o 0 + (Int.tmod k (.ofNat (m + 1))).toNat * 1) junk)) (some (row.getD (Tok.o 0 + (Int.tmod k (.ofNat (m + 1))).toNat * 1) junk)) none) none) none := fun row => by kernel_rfl
  rw [h]
  have e1 : 0 ≤ Int.tmod k (.ofNat (m + 1)) := Int.tmod_nonneg _ hk
  have e2 : Int.tmod k (.ofNat (m + 1)) < ((m + 1 : Nat) : Int) := Int.tmod_lt_of_pos _ (show (0 : Int) < ((m + 1 : Nat) : Int) by omega)
  have e3 : (Int.tmod k (.ofNat (m + 1))).toNat < l.length := by omega
  have e4 : Nat.blt (Tok.o 0 + (Int.tmod k (.ofNat (m + 1))).toNat * 1) (RW l).length = true := by rw [rw_length]; exact Nat.ble_eq_true_of_le (by omega)
  rw [rw_get l e3, e4]
  simp only [e1, e2, decide_true, Bool.and_self, cond_true]
  unfold rawS
  rw [hm]
  rfl
theorem raw29A [Tok] (l : List Int) (hn : Tok.n 0 = l.length) (hl : l ≠ []) (k : Int) (hk : 0 ≤ k) {x y a b : Nat} : FSpec Tryz.prog 29 [RW l] [.slice (some ⟨0, x, some y⟩) a b, I k] (I (rawS l k)) := by
  obtain ⟨m, hm⟩ : ∃ m, l.length = m + 1 := ⟨l.length - 1, by have := List.length_pos_iff.2 hl; omega⟩
  refine FSpec.named (c := 0) ?_
  rw [hn, hm]
  exact spH allH_nil Tryz.func29 (by kernel_rfl) rfl (raw_evA l m hm k hk)
theorem raw29B [Tok] (k : Int) : FSpec Tryz.prog 29 [] [NIL, I k] (I 0) := sp all_nil Tryz.func29 (by kernel_rfl) rfl (by kernel_rfl)
def eRawA (l : List Int) : List (List Value) → List Value → Option Value := fun _ args => match args with
  | [.slice (some ⟨0, _, some _⟩) _ _, .int .i64 k] => cond (decide (0 ≤ k)) (some (I (rawS l k))) none
  | _ => none
theorem eRawA_ok [Tok] (l : List Int) (hn : Tok.n 0 = l.length) (hl : l ≠ []) : EOkH Tryz.prog [RW l] (29, eRawA l) := by
  intro mem args r hp hr
  simp only [eRawA] at hr
  split at hr
  · rename_i x y a b k
    by_cases hk : 0 ≤ k
    · simp only [hk, decide_true, cond_true, Option.some.injEq] at hr
      subst hr
      exact Or.inl ((raw29A l hn hl k hk).weak (by simp [RW_noPtr]) rfl hp)
    · simp [hk] at hr
  · cases hr
def eRawB : List (List Value) → List Value → Option Value := fun _ args => match args with
  | [.slice none 0 0, .int .i64 _] => some (I 0)
  | _ => none
theorem eRawB_ok [Tok] : EOkH Tryz.prog [] (29, eRawB) := by
  intro mem args r hp hr
  simp only [eRawB] at hr
  split at hr
  · cases hr
    exact Or.inl ((raw29B _).weak rfl rfl hp)
  · cases hr

/-! ### Vectors and rays -/
def vecS (q : Int → Int) (fr most : Int) : Value := V (milS (q fr) most) (milS (q (fr + 1)) most) (milS (q (fr + 2)) most)
def okPair (fr most : Int) : Bool := (fr == 0 && most == 5000) || ((fr == 3 && most == 5000) || ((fr == 9 && most == 6000) || (fr == 12 && most == 1500)))
theorem okPair_cases {fr most : Int} (h : okPair fr most = true) : (fr = 0 ∧ most = 5000) ∨ (fr = 3 ∧ most = 5000) ∨ (fr = 9 ∧ most = 6000) ∨ (fr = 12 ∧ most = 1500) := by
  simpa [okPair] using h
def rayX (q : Int → Int) : Nat := cond (pickS (q 16) 3 == 0) 0 (milS (q 12) 1500)
def rayY (q : Int → Int) : Nat := cond (pickS (q 17) 4 == 0) 0 (milS (q 13) 1500)
def rayZz (q : Int → Int) : Nat := cond (noughtS (rayX q) (rayY q) (milS (q 14) 1500)) 4607182418800017408 (milS (q 14) 1500)
def rayOfS (q : Int → Int) : Nat → Nat := ls [milS (q 9) 6000, milS (q 10) 6000, milS (q 11) 6000, rayX q, rayY q, rayZz q, thouS (pickS (q 15) 3)]
def ray3 (x y z : Nat) (q : Int → Int) : Option Value := cond (noughtS x y z) (some (RY (ls [milS (q 9) 6000, milS (q 10) 6000, milS (q 11) 6000, x, y, 4607182418800017408, thouS (pickS (q 15) 3)])))
  (some (RY (ls [milS (q 9) 6000, milS (q 10) 6000, milS (q 11) 6000, x, y, z, thouS (pickS (q 15) 3)])))
def ray2 (x y y' z : Nat) (q : Int → Int) : Option Value := cond (pickS (q 17) 4 == 0) (ray3 x y' z q) (ray3 x y z q)
def ray1 (q : Int → Int) : Option Value := cond (pickS (q 16) 3 == 0) (ray2 0 (milS (q 13) 1500) 0 (milS (q 14) 1500) q) (ray2 (milS (q 12) 1500) (milS (q 13) 1500) 0 (milS (q 14) 1500) q)
theorem ray1_eq (q : Int → Int) : ray1 q = some (RY (rayOfS q)) := by
  unfold ray1 ray2 ray3 rayOfS rayZz rayX rayY
  cases pickS (q 16) 3 == 0 <;> cases pickS (q 17) 4 == 0 <;> simp only [cond_true, cond_false] <;> (generalize noughtS _ _ _ = z; cases z <;> rfl)
def boxA (q : Int → Int) : Nat → Nat := ls [lessS (milS (q 0) 5000) (milS (q 3) 5000), lessS (milS (q 1) 5000) (milS (q 4) 5000), lessS (milS (q 2) 5000) (milS (q 5) 5000),
  moreS (milS (q 0) 5000) (milS (q 3) 5000), moreS (milS (q 1) 5000) (milS (q 4) 5000), moreS (milS (q 2) 5000) (milS (q 5) 5000)]

/-! ### They may be -/
theorem boxA_ok {q : Int → Int} (hq : ∀ n, I64 (q n)) : BoxOk (boxA q) := by
  have m : ∀ n, Nr (milS (q n) 5000) := fun n => mil_nr (hq n) (by decide) (by decide)
  have lo : ∀ a b, Nr (lessS (milS (q a) 5000) (milS (q b) 5000)) := fun a b => (less_ok (m a) (m b)).1
  have hi : ∀ a b, Nr (moreS (milS (q a) 5000) (milS (q b) 5000)) := fun a b => (more_ok (m a) (m b)).1
  have le : ∀ a b, key (lessS (milS (q a) 5000) (milS (q b) 5000)) ≤ key (moreS (milS (q a) 5000) (milS (q b) 5000)) := fun a b => Int.le_trans (less_ok (m a) (m b)).2.1 (more_ok (m a) (m b)).2.1
  exact ⟨three (lo _ _) (lo _ _) (lo _ _), three (hi _ _) (hi _ _) (hi _ _), three (le _ _) (le _ _) (le _ _)⟩
theorem nr_zero : Nr 0 := ⟨by decide +kernel, by decide +kernel, by decide +kernel⟩
theorem nr_one : Nr 4607182418800017408 := ⟨by decide +kernel, by decide +kernel, by decide +kernel⟩
theorem key_one : key 4607182418800017408 = 4607182418800017408 := by decide +kernel
abbrev FarK (x : Nat) : Prop := key x = 0 ∨ 4562254508917369340 ≤ key x ∨ key x ≤ -4562254508917369340
theorem far_k {x : Nat} (h : Far0 x) : FarK x := by
  rcases h with e | e | e
  · exact Or.inl (by rw [e]; exact key_z)
  · exact Or.inr (Or.inl e)
  · exact Or.inr (Or.inr e)
theorem rayOf_ok {q : Int → Int} (hq : ∀ n, I64 (q n)) : RayOk (rayOfS q) := by
  have m6 : ∀ n, Nr (milS (q n) 6000) := fun n => mil_nr (hq n) (by decide) (by decide)
  have m1 : ∀ n, Nr (milS (q n) 1500) := fun n => mil_nr (hq n) (by decide) (by decide)
  have f1 : ∀ n, FarK (milS (q n) 1500) := fun n => far_k (mil_far (hq n) (by decide) (by decide))
  have hx : Nr (rayX q) ∧ FarK (rayX q) := by
    unfold rayX
    cases pickS (q 16) 3 == 0
    · exact ⟨m1 _, f1 _⟩
    · exact ⟨nr_zero, Or.inl key_z⟩
  have hy : Nr (rayY q) ∧ FarK (rayY q) := by
    unfold rayY
    cases pickS (q 17) 4 == 0
    · exact ⟨m1 _, f1 _⟩
    · exact ⟨nr_zero, Or.inl key_z⟩
  have hz : (Nr (rayZz q) ∧ FarK (rayZz q)) ∧ (key (rayX q) ≠ 0 ∨ key (rayY q) ≠ 0 ∨ key (rayZz q) ≠ 0) := by
    unfold rayZz
    cases hn : noughtS (rayX q) (rayY q) (milS (q 14) 1500)
    · refine ⟨⟨m1 _, f1 _⟩, ?_⟩
      unfold noughtS at hn
      rw [feq_key hx.1.nan nan_z, feq_key hy.1.nan nan_z, feq_key (m1 14).nan nan_z, key_z] at hn
      by_cases a : key (rayX q) = 0
      · by_cases b : key (rayY q) = 0
        · refine Or.inr (Or.inr fun c => ?_)
          have c' : key (milS (q 14) 1500) = 0 := c
          rw [decide_eq_true a, decide_eq_true b, decide_eq_true c'] at hn; cases hn
        · exact Or.inr (Or.inl b)
      · exact Or.inl a
    · refine ⟨⟨nr_one, Or.inr (Or.inl (by rw [cond_true, key_one]; decide))⟩, Or.inr (Or.inr (by rw [cond_true, key_one]; decide))⟩
  have hl : Nr (thouS (pickS (q 15) 3)) ∧ 0 ≤ key (thouS (pickS (q 15) 3)) := by
    obtain ⟨a, b⟩ := pick_range (hq 15) (show (0 : Int) < 3 by decide)
    refine ⟨thou_fin (by omega) (by omega), ?_⟩
    have := thou_mono (m := 0) a (by decide) (by omega)
    rw [thou_zero, key_z] at this
    exact this
  exact ⟨three (m6 _) (m6 _) (m6 _), three hx.1 hy.1 hz.1.1, three hx.2 hy.2 hz.1.2, hz.2, hl.1, hl.2⟩

/-! ### What comes out -/
def quadB (q : Int → Int) (T : Nat → Nat) : Bool := cond (cond (meetK (boxA q) (rayOfS q) == meetK (boxS' T (boxA q)) (rayT T (rayOfS q))) (feq (meetN (boxA q) (rayOfS q)) (meetN (boxS' T (boxA q)) (rayT T (rayOfS q)))) false) (feq (meetF (boxA q) (rayOfS q)) (meetF (boxS' T (boxA q)) (rayT T (rayOfS q)))) false
theorem quad_true {q : Int → Int} (hq : ∀ n, I64 (q n)) {axis times : Int} (ha : I64 axis) : qE (pickS axis 3) = 0 ∧ quadB q (qS (pickS axis 3) times) = true := by
  obtain ⟨a, b⟩ := pick_range ha (show (0 : Int) < 3 by decide)
  generalize pickS axis 3 = x at a b
  have ho : axOk x = true := by
    have : x = 0 ∨ x = 1 ∨ x = 2 := by omega
    rcases this with rfl | rfl | rfl <;> rfl
  have e : qS x times = qt x.toNat (times.emod 4).toNat := by funext i; unfold qS; rw [ho]; rfl
  refine ⟨by unfold qE; rw [ho]; rfl, ?_⟩
  rw [e]
  have h4 : (times.emod 4).toNat < 4 := by
    have h3 : 0 ≤ times.emod 4 := Int.emod_nonneg _ (by decide)
    have h4 : times.emod 4 < 4 := Int.emod_lt_of_pos _ (by decide)
    omega
  obtain ⟨g1, g2, g3⟩ := quarter_meet (ax := x.toNat) (k := (times.emod 4).toNat) (by omega) h4 (boxA_ok hq) (rayOf_ok hq)
  unfold quadB
  rw [g2, g3, g1]
  simp

/-! ### CASE A -/
def Q1A [Tok] (l : List Int) (P : Program) (f36 : Func) : List Entry := (29, eRawA l) :: M2 P f36
theorem Q1A_ok [Tok] (l : List Int) (hn : Tok.n 0 = l.length) (hl : l ≠ []) : ∀ e, e ∈ Q1A l Tryz.prog Tryz.f36 → EOkH Tryz.prog [RW l] e := allH_cons (eRawA_ok l hn hl) fun e he => (M2_ok e he).over _
theorem vecA [Tok] (l : List Int) (hn : Tok.n 0 = l.length) (hl : l ≠ []) {x y a b : Nat} {fr most : Int} (h : okPair fr most = true) : FSpec Tryz.prog 16 [RW l] [.slice (some ⟨0, x, some y⟩) a b, I fr, I most] (vecS (rawS l) fr most) := by
  rcases okPair_cases h with ⟨rfl, rfl⟩ | ⟨rfl, rfl⟩ | ⟨rfl, rfl⟩ | ⟨rfl, rfl⟩ <;> exact spH (Q1A_ok l hn hl) Tryz.func16 (by kernel_rfl) rfl (by kernel_rfl)
def eVecA (l : List Int) : List (List Value) → List Value → Option Value := fun _ args => match args with
  | [.slice (some ⟨0, _, some _⟩) _ _, .int .i64 fr, .int .i64 most] => cond (okPair fr most) (some (vecS (rawS l) fr most)) none
  | _ => none
theorem eVecA_ok [Tok] (l : List Int) (hn : Tok.n 0 = l.length) (hl : l ≠ []) : EOkH Tryz.prog [RW l] (16, eVecA l) := by
  intro mem args r hp hr
  simp only [eVecA] at hr
  split at hr
  · obtain ⟨h1, h2⟩ := cond_some hr
    subst h2
    exact Or.inl ((vecA l hn hl h1).weak (by simp [RW_noPtr]) rfl hp)
  · cases hr
def Q2A [Tok] (l : List Int) (P : Program) (f36 : Func) : List Entry := (16, eVecA l) :: Q1A l P f36
theorem Q2A_ok [Tok] (l : List Int) (hn : Tok.n 0 = l.length) (hl : l ≠ []) : ∀ e, e ∈ Q2A l Tryz.prog Tryz.f36 → EOkH Tryz.prog [RW l] e := allH_cons (eVecA_ok l hn hl) (Q1A_ok l hn hl)
theorem rayA [Tok] (l : List Int) (hn : Tok.n 0 = l.length) (hl : l ≠ []) {x y a b : Nat} : FSpec Tryz.prog 11 [RW l] [.slice (some ⟨0, x, some y⟩) a b, I 9] (RY (rayOfS (rawS l))) := by
  refine spH (Q2A_ok l hn hl) Tryz.func11 (by kernel_rfl) rfl ?_
  have h : evH Tryz.prog [RW l] (Q2A l Tryz.prog Tryz.f36) Tryz.f11 [.slice (some ⟨0, x, some y⟩) a b, I 9] = ray1 (rawS l) := by kernel_rfl
  rw [h]; exact ray1_eq _
def eRayA (l : List Int) : List (List Value) → List Value → Option Value := fun _ args => match args with
  | [.slice (some ⟨0, _, some _⟩) _ _, .int .i64 fr] => cond (fr == 9) (some (RY (rayOfS (rawS l)))) none
  | _ => none
theorem eRayA_ok [Tok] (l : List Int) (hn : Tok.n 0 = l.length) (hl : l ≠ []) : EOkH Tryz.prog [RW l] (11, eRayA l) := by
  intro mem args r hp hr
  simp only [eRayA] at hr
  split at hr
  · obtain ⟨h1, h2⟩ := cond_some hr
    subst h2
    have h3 := eq_of_beq h1
    subst h3
    exact Or.inl ((rayA l hn hl).weak (by simp [RW_noPtr]) rfl hp)
  · cases hr
def Q3A [Tok] (l : List Int) (P : Program) (f36 : Func) : List Entry := (11, eRayA l) :: Q2A l P f36
theorem Q3A_ok [Tok] (l : List Int) (hn : Tok.n 0 = l.length) (hl : l ≠ []) : ∀ e, e ∈ Q3A l Tryz.prog Tryz.f36 → EOkH Tryz.prog [RW l] e := allH_cons (eRayA_ok l hn hl) (Q2A_ok l hn hl)
theorem quadA [Tok] (l : List Int) (hn : Tok.n 0 = l.length) (hl : l ≠ []) (hi : ∀ n, n ∈ l → I64 n) {x y a b : Nat} (axis times : Int) (ha : I64 axis) : FSpec Tryz.prog 5 [RW l] [.slice (some ⟨0, x, some y⟩) a b, I axis, I times] (B true) := by
  refine spH (Q3A_ok l hn hl) Tryz.func5 (by kernel_rfl) rfl ?_
  have h : evH Tryz.prog [RW l] (Q3A l Tryz.prog Tryz.f36) Tryz.f5 [.slice (some ⟨0, x, some y⟩) a b, I axis, I times] = cond (decide (((Tok.n 0 : Nat) : Int) > 256)) (some (B true)) (cond (!(qE (pickS axis 3) == 0)) (some (B false)) (some (B (quadB (rawS l) (qS (pickS axis 3) times))))) := by kernel_rfl
  have hq : ∀ n, I64 (rawS l n) := fun n => by
    unfold rawS
    rw [List.getD_eq_getElem?_getD]
    cases hx : l[(Int.tmod n l.length).toNat]? with
    | none => exact ⟨by decide, by decide⟩
    | some z => exact hi z (List.mem_of_getElem? hx)
  obtain ⟨e1, e2⟩ := quad_true (times := times) hq ha
  rw [h, e1, e2]
  cases decide (((Tok.n 0 : Nat) : Int) > 256) <;> rfl

/-! ### CASE B -/
def Q1B [Tok] (P : Program) (f36 : Func) : List Entry := (29, eRawB) :: M2 P f36
theorem Q1B_ok [Tok] : ∀ e, e ∈ Q1B Tryz.prog Tryz.f36 → EOkH Tryz.prog [] e := allH_cons eRawB_ok fun e he => (M2_ok e he).over _
theorem vecB [Tok] {fr most : Int} (h : okPair fr most = true) : FSpec Tryz.prog 16 [] [NIL, I fr, I most] (vecS (fun _ => 0) fr most) := by
  rcases okPair_cases h with ⟨rfl, rfl⟩ | ⟨rfl, rfl⟩ | ⟨rfl, rfl⟩ | ⟨rfl, rfl⟩ <;> exact spH Q1B_ok Tryz.func16 (by kernel_rfl) rfl (by kernel_rfl)
def eVecB : List (List Value) → List Value → Option Value := fun _ args => match args with
  | [.slice none 0 0, .int .i64 fr, .int .i64 most] => cond (okPair fr most) (some (vecS (fun _ => 0) fr most)) none
  | _ => none
theorem eVecB_ok [Tok] : EOkH Tryz.prog [] (16, eVecB) := by
  intro mem args r hp hr
  simp only [eVecB] at hr
  split at hr
  · obtain ⟨h1, h2⟩ := cond_some hr
    subst h2
    exact Or.inl ((vecB h1).weak rfl rfl hp)
  · cases hr
def Q2B [Tok] (P : Program) (f36 : Func) : List Entry := (16, eVecB) :: Q1B P f36
theorem Q2B_ok [Tok] : ∀ e, e ∈ Q2B Tryz.prog Tryz.f36 → EOkH Tryz.prog [] e := allH_cons eVecB_ok Q1B_ok
theorem rayB [Tok] : FSpec Tryz.prog 11 [] [NIL, I 9] (RY (rayOfS (fun _ => 0))) := by
  refine spH Q2B_ok Tryz.func11 (by kernel_rfl) rfl ?_
  have h : evH Tryz.prog [] (Q2B Tryz.prog Tryz.f36) Tryz.f11 [NIL, I 9] = ray1 (fun _ => 0) := by kernel_rfl
  rw [h]; exact ray1_eq _
def eRayB : List (List Value) → List Value → Option Value := fun _ args => match args with
  | [.slice none 0 0, .int .i64 fr] => cond (fr == 9) (some (RY (rayOfS (fun _ => 0)))) none
  | _ => none
theorem eRayB_ok [Tok] : EOkH Tryz.prog [] (11, eRayB) := by
  intro mem args r hp hr
  simp only [eRayB] at hr
  split at hr
  · obtain ⟨h1, h2⟩ := cond_some hr
    subst h2
    have h3 := eq_of_beq h1
    subst h3
    exact Or.inl (rayB.weak rfl rfl hp)
  · cases hr
def Q3B [Tok] (P : Program) (f36 : Func) : List Entry := (11, eRayB) :: Q2B P f36
theorem Q3B_ok [Tok] : ∀ e, e ∈ Q3B Tryz.prog Tryz.f36 → EOkH Tryz.prog [] e := allH_cons eRayB_ok Q2B_ok
theorem quadBB [Tok] (axis times : Int) (ha : I64 axis) : FSpec Tryz.prog 5 [] [NIL, I axis, I times] (B true) := by
  refine spH Q3B_ok Tryz.func5 (by kernel_rfl) rfl ?_
  have h : evH Tryz.prog [] (Q3B Tryz.prog Tryz.f36) Tryz.f5 [NIL, I axis, I times] = cond (!(qE (pickS axis 3) == 0)) (some (B false)) (some (B (quadB (fun _ => 0) (qS (pickS axis 3) times)))) := by kernel_rfl
  obtain ⟨e1, e2⟩ := quad_true (q := fun _ => 0) (times := times) (fun _ => ⟨by decide, by decide⟩) ha
  rw [h, e1, e2]
  rfl
end Go.Proofs.YtfiihlgnbhcpeaiGreat
