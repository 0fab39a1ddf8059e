/-
  The makers of the document's answer: what they hand back.
-/
import Derived.Test.YtnlfeocapnefeabMk
import Derived.Test.YtnlfeocapnefeabRef
namespace Go.Proofs.Ytnlfeocapnefeab
open Go.Ev

theorem spH [Tok] {hd : List (List Value)} {L : List Entry} (hL : ∀ e, e ∈ L → EOkH Try.prog hd e) {f : Nat} {fn : Func} (hf : Try.prog.funcs[f]? = some fn) (hnm : (fn.name == "runtime.NumGoroutine") = false) {args : List Value} (hlen : Nat.ble args.length fn.ntmps = true) {r : Value}
    (h : evH Try.prog hd L fn args = some r) : FSpec Try.prog f hd args r := spec_of_evH (by kernel_rfl) hL hf hnm hlen h
theorem allH_nil [Tok] {P : Program} {hd : List (List Value)} : ∀ e, e ∈ ([] : List Entry) → EOkH P hd e := fun e h => by cases h
theorem allH_cons [Tok] {P : Program} {hd : List (List Value)} {x : Entry} {l : List Entry} (hx : EOkH P hd x) (hl : ∀ e, e ∈ l → EOkH P hd e) : ∀ e, e ∈ x :: l → EOkH P hd e := fun e h => by
  rcases List.mem_cons.1 h with rfl | h
  · exact hx
  · exact hl e h

def e9 (g : (Nat → Nat) → (Nat → Nat) → (Nat → Nat) → Value) : List Value → Option Value
  | [x, y, z] => match asY x, asB y, asB z with
    | some a, some b, some c => some (g a b c)
    | _, _, _ => none
  | _ => none
theorem e9_ok [Tok] {P : Program} {f : Nat} {g : (Nat → Nat) → (Nat → Nat) → (Nat → Nat) → Value} (h : ∀ a b c, FSpec P f [] [RY a, BX b, BX c] (g a b c)) : EOk P (f, pe (e9 g)) := by
  refine pe_ok fun args r hr => ?_
  simp only [e9] at hr
  split at hr
  · split at hr
    · rename_i a b c ha hb hc; cases hr; rw [asY_some ha, asB_some hb, asB_some hc]; exact Or.inl (h a b c)
    · cases hr
  · cases hr

theorem pick33 [Tok] (c : Int) (m : Nat) : FSpec Try.prog 33 [] [I c, I (.ofNat (m + 1))] (I (pickS c (.ofNat (m + 1)))) := by
  refine sp all_nil Try.func33 (by kernel_rfl) rfl ?_
  have h : ev Try.prog [] Try.f33 [I c, I (.ofNat (m + 1))] = cond (decide (c < 0)) (some (I (Int.tmod (w64 (0 - w64 (c + 1))) (.ofNat (m + 1))))) (some (I (Int.tmod c (.ofNat (m + 1))))) := by kernel_rfl
  rw [h]; unfold pickS; cases decide (c < 0) <;> rfl
theorem thou32 [Tok] (n : Int) : FSpec Try.prog 32 [] [I n] (F (thouS n)) := sp all_nil Try.func32 (by kernel_rfl) rfl (by kernel_rfl)
theorem nought34 [Tok] (a b c : Nat) : FSpec Try.prog 34 [] [V a b c] (B (noughtS a b c)) := sp all_nil Try.func34 (by kernel_rfl) rfl (by kernel_rfl)
def M1 [Tok] (P : Program) (f53 : Func) : List Entry := (33, pe ePick0) :: (32, pe (eI0 fun n => F (thouS n))) :: (34, eV fun a b c => B (noughtS a b c)) :: (9, pe (e9 fun _ b c => B (insideS b c == insideR b c))) :: R4 P f53
theorem M1_ok [Tok] : ∀ e, e ∈ M1 Try.prog Try.f53 → EOk Try.prog e := all_cons (ePick_ok pick33) <| all_cons (eI_ok thou32) <| all_cons (eV_ok nought34) <| all_cons (e9_ok slabSays9) R4_ok
def M2 [Tok] (P : Program) (f53 f17 : Func) : List Entry := (17, inl P (M1 P f53) f17) :: M1 P f53
theorem M2_ok [Tok] : ∀ e, e ∈ M2 Try.prog Try.f53 Try.f17 → EOk Try.prog e := all_cons (inl_ok (by kernel_rfl) M1_ok Try.func17 (by kernel_rfl)) M1_ok

/-! ### The raw numbers -/
theorem rw_get [Tok] (l : List Int) {i : Nat} (h : i < l.length) : (RW l).getD (Tok.o 0 + i * 1) junk = I (l.getD i 0) := by
  unfold RW
  rw [List.getD_eq_getElem?_getD, List.getElem?_append_right (by simp), List.length_replicate, Nat.mul_one, Nat.add_sub_cancel_left, List.getElem?_map, List.getElem?_eq_getElem h]
  simp [h]
theorem rw_length [Tok] (l : List Int) : (RW l).length = Tok.o 0 + l.length := by unfold RW; simp
theorem raw_evA [Tok] (l : List Int) (m : Nat) (hm : l.length = m + 1) (k : Int) (hk : 0 ≤ k) : evH Try.prog [RW l] [] Try.f18 [.slice (some ⟨0, Tok.o 0, none⟩) (m + 1) 0, I k] = some (I (rawS l k)) := by
  have h : ∀ row : List Value, evH Try.prog [row] [] Try.f18 [.slice (some ⟨0, Tok.o 0, none⟩) (m + 1) 0, I k] =
      cond (decide (0 ≤ Int.tmod k (.ofNat (m + 1))) && decide (Int.tmod k (.ofNat (m + 1)) < ((m + 1 : Nat) : Int))) (cond (Nat.blt (Tok.o 0 + (Int.tmod k (.ofNat (m + 1))).toNat * 1) row.length)
        (cond (noPtr (row.getD (Tok.o 0 + (Int.tmod k (.ofNat (m + 1))).toNat * 1) junk) && okPart (row.getD (Tok.o 0 + (Int.tmod k (.ofNat (m + 1))).toNat * 1) junk)) (some (row.getD (Tok.o 0 + (Int.tmod k (.ofNat (m + 1))).toNat * 1) junk)) none) none) none := fun row => by kernel_rfl
  rw [h]
  have e1 : 0 ≤ Int.tmod k (.ofNat (m + 1)) := Int.tmod_nonneg _ hk
  have e2 : Int.tmod k (.ofNat (m + 1)) < ((m + 1 : Nat) : Int) := Int.tmod_lt_of_pos _ (show (0 : Int) < ((m + 1 : Nat) : Int) by omega)
  have e3 : (Int.tmod k (.ofNat (m + 1))).toNat < l.length := by omega
  have e4 : Nat.blt (Tok.o 0 + (Int.tmod k (.ofNat (m + 1))).toNat * 1) (RW l).length = true := by rw [rw_length]; exact Nat.ble_eq_true_of_le (by omega)
  rw [rw_get l e3, e4]
  simp only [e1, e2, decide_true, Bool.and_self, cond_true]
  unfold rawS
  rw [hm]
  rfl
theorem raw18A [Tok] (l : List Int) (hn : Tok.n 0 = l.length) (hl : l ≠ []) (k : Int) (hk : 0 ≤ k) {x y a b : Nat} : FSpec Try.prog 18 [RW l] [.slice (some ⟨0, x, some y⟩) a b, I k] (I (rawS l k)) := by
  obtain ⟨m, hm⟩ : ∃ m, l.length = m + 1 := ⟨l.length - 1, by have := List.length_pos_iff.2 hl; omega⟩
  refine FSpec.named (c := 0) ?_
  rw [hn, hm]
  exact spH allH_nil Try.func18 (by kernel_rfl) rfl (raw_evA l m hm k hk)
theorem raw18B [Tok] (k : Int) : FSpec Try.prog 18 [] [NIL, I k] (I 0) := sp all_nil Try.func18 (by kernel_rfl) rfl (by kernel_rfl)

def eRawA (l : List Int) : List (List Value) → List Value → Option Value := fun _ args => match args with
  | [.slice (some ⟨0, _, some _⟩) _ _, .int .i64 k] => cond (decide (0 ≤ k)) (some (I (rawS l k))) none
  | _ => none
theorem eRawA_ok [Tok] (l : List Int) (hn : Tok.n 0 = l.length) (hl : l ≠ []) : EOkH Try.prog [RW l] (18, eRawA l) := by
  intro mem args r hp hr
  simp only [eRawA] at hr
  split at hr
  · rename_i x y a b k
    by_cases hk : 0 ≤ k
    · simp only [hk, decide_true, cond_true, Option.some.injEq] at hr
      subst hr
      exact Or.inl ((raw18A l hn hl k hk).weak (by simp [RW_noPtr]) rfl hp)
    · simp [hk] at hr
  · cases hr
def eRawB : List (List Value) → List Value → Option Value := fun _ args => match args with
  | [.slice none 0 0, .int .i64 _] => some (I 0)
  | _ => none
theorem eRawB_ok [Tok] : EOkH Try.prog [] (18, eRawB) := by
  intro mem args r hp hr
  simp only [eRawB] at hr
  split at hr
  · cases hr
    exact Or.inl ((raw18B _).weak rfl rfl hp)
  · cases hr

/-! ### Vectors and rays -/
def vecS (q : Int → Int) (fr most : Int) : Value := V (milS (q fr) most) (milS (q (fr + 1)) most) (milS (q (fr + 2)) most)
def okPair (fr most : Int) : Bool := (fr == 0 && most == 5000) || ((fr == 3 && most == 5000) || ((fr == 6 && most == 5000) || ((fr == 9 && most == 6000) || (fr == 12 && most == 1500))))
theorem okPair_cases {fr most : Int} (h : okPair fr most = true) : (fr = 0 ∧ most = 5000) ∨ (fr = 3 ∧ most = 5000) ∨ (fr = 6 ∧ most = 5000) ∨ (fr = 9 ∧ most = 6000) ∨ (fr = 12 ∧ most = 1500) := by
  simpa [okPair] using h
def rayX (q : Int → Int) : Nat := cond (pickS (q 16) 3 == 0) 0 (milS (q 12) 1500)
def rayY (q : Int → Int) : Nat := cond (pickS (q 17) 4 == 0) 0 (milS (q 13) 1500)
def rayZz (q : Int → Int) : Nat := cond (noughtS (rayX q) (rayY q) (milS (q 14) 1500)) 4607182418800017408 (milS (q 14) 1500)
def rayOfS (q : Int → Int) : Nat → Nat := ls [milS (q 9) 6000, milS (q 10) 6000, milS (q 11) 6000, rayX q, rayY q, rayZz q, thouS (pickS (q 15) 3)]
def ray3 (x y z : Nat) (q : Int → Int) : Option Value := cond (noughtS x y z) (some (RY (ls [milS (q 9) 6000, milS (q 10) 6000, milS (q 11) 6000, x, y, 4607182418800017408, thouS (pickS (q 15) 3)])))
  (some (RY (ls [milS (q 9) 6000, milS (q 10) 6000, milS (q 11) 6000, x, y, z, thouS (pickS (q 15) 3)])))
def ray2 (x y y' z : Nat) (q : Int → Int) : Option Value := cond (pickS (q 17) 4 == 0) (ray3 x y' z q) (ray3 x y z q)
def ray1 (q : Int → Int) : Option Value := cond (pickS (q 16) 3 == 0) (ray2 0 (milS (q 13) 1500) 0 (milS (q 14) 1500) q) (ray2 (milS (q 12) 1500) (milS (q 13) 1500) 0 (milS (q 14) 1500) q)
theorem ray1_eq (q : Int → Int) : ray1 q = some (RY (rayOfS q)) := by
  unfold ray1 ray2 ray3 rayOfS rayZz rayX rayY
  cases pickS (q 16) 3 == 0 <;> cases pickS (q 17) 4 == 0 <;> simp only [cond_true, cond_false] <;> (generalize noughtS _ _ _ = z; cases z <;> rfl)

def boxA (q : Int → Int) : Nat → Nat := ls [lessS (milS (q 0) 5000) (milS (q 3) 5000), lessS (milS (q 1) 5000) (milS (q 4) 5000), lessS (milS (q 2) 5000) (milS (q 5) 5000),
  moreS (milS (q 0) 5000) (milS (q 3) 5000), moreS (milS (q 1) 5000) (milS (q 4) 5000), moreS (milS (q 2) 5000) (milS (q 5) 5000)]
def boxC (q : Int → Int) : Nat → Nat := ls [milS (q 6) 5000, milS (q 7) 5000, milS (q 8) 5000, milS (q 6) 5000, milS (q 7) 5000, milS (q 8) 5000]
theorem boxA_nan (q : Int → Int) : ∀ i, i < 6 → isNan (boxA q i) = false := by
  intro i hi
  match i, hi with
  | 0, _ => exact less_nan (mil_nan _ _) (mil_nan _ _)
  | 1, _ => exact less_nan (mil_nan _ _) (mil_nan _ _)
  | 2, _ => exact less_nan (mil_nan _ _) (mil_nan _ _)
  | 3, _ => exact more_nan (mil_nan _ _) (mil_nan _ _)
  | 4, _ => exact more_nan (mil_nan _ _) (mil_nan _ _)
  | 5, _ => exact more_nan (mil_nan _ _) (mil_nan _ _)
theorem boxC_nan (q : Int → Int) : ∀ i, i < 6 → isNan (boxC q i) = false := by
  intro i hi
  match i, hi with
  | 0, _ | 1, _ | 2, _ | 3, _ | 4, _ | 5, _ => exact mil_nan _ _
theorem join_nan {a b : Nat → Nat} (ha : ∀ i, i < 6 → isNan (a i) = false) (hb : ∀ i, i < 6 → isNan (b i) = false) : ∀ i, i < 6 → isNan (joinS a b i) = false := by
  intro i hi
  match i, hi with
  | 0, h | 1, h | 2, h => exact less_nan (ha _ h) (hb _ h)
  | 3, h | 4, h | 5, h => exact more_nan (ha _ h) (hb _ h)
theorem made_true (q : Int → Int) : (insideS (boxA q) (joinS (boxA q) (boxC q)) == insideR (boxA q) (joinS (boxA q) (boxC q))) = true := by
  rw [inside_same (boxA_nan q) (join_nan (boxA_nan q) (boxC_nan q))]; simp

/-! ### CASE A -/
def T1A [Tok] (l : List Int) (P : Program) (f53 f17 : Func) : List Entry := (18, eRawA l) :: M2 P f53 f17
theorem T1A_ok [Tok] (l : List Int) (hn : Tok.n 0 = l.length) (hl : l ≠ []) : ∀ e, e ∈ T1A l Try.prog Try.f53 Try.f17 → EOkH Try.prog [RW l] e := allH_cons (eRawA_ok l hn hl) fun e he => (M2_ok e he).over _
theorem vecA [Tok] (l : List Int) (hn : Tok.n 0 = l.length) (hl : l ≠ []) {x y a b : Nat} {fr most : Int} (h : okPair fr most = true) : FSpec Try.prog 6 [RW l] [.slice (some ⟨0, x, some y⟩) a b, I fr, I most] (vecS (rawS l) fr most) := by
  rcases okPair_cases h with ⟨rfl, rfl⟩ | ⟨rfl, rfl⟩ | ⟨rfl, rfl⟩ | ⟨rfl, rfl⟩ | ⟨rfl, rfl⟩ <;> exact spH (T1A_ok l hn hl) Try.func6 (by kernel_rfl) rfl (by kernel_rfl)
def eVecA (l : List Int) : List (List Value) → List Value → Option Value := fun _ args => match args with
  | [.slice (some ⟨0, _, some _⟩) _ _, .int .i64 fr, .int .i64 most] => cond (okPair fr most) (some (vecS (rawS l) fr most)) none
  | _ => none
theorem eVecA_ok [Tok] (l : List Int) (hn : Tok.n 0 = l.length) (hl : l ≠ []) : EOkH Try.prog [RW l] (6, eVecA l) := by
  intro mem args r hp hr
  simp only [eVecA] at hr
  split at hr
  · obtain ⟨h1, h2⟩ := cond_some hr
    subst h2
    exact Or.inl ((vecA l hn hl h1).weak (by simp [RW_noPtr]) rfl hp)
  · cases hr
def T2A [Tok] (l : List Int) (P : Program) (f53 f17 : Func) : List Entry := (6, eVecA l) :: T1A l P f53 f17
theorem T2A_ok [Tok] (l : List Int) (hn : Tok.n 0 = l.length) (hl : l ≠ []) : ∀ e, e ∈ T2A l Try.prog Try.f53 Try.f17 → EOkH Try.prog [RW l] e := allH_cons (eVecA_ok l hn hl) (T1A_ok l hn hl)
theorem rayA [Tok] (l : List Int) (hn : Tok.n 0 = l.length) (hl : l ≠ []) {x y a b : Nat} : FSpec Try.prog 10 [RW l] [.slice (some ⟨0, x, some y⟩) a b, I 9] (RY (rayOfS (rawS l))) := by
  refine spH (T2A_ok l hn hl) Try.func10 (by kernel_rfl) rfl ?_
  have h : evH Try.prog [RW l] (T2A l Try.prog Try.f53 Try.f17) Try.f10 [.slice (some ⟨0, x, some y⟩) a b, I 9] = ray1 (rawS l) := by kernel_rfl
  rw [h]; exact ray1_eq _
def eRayA (l : List Int) : List (List Value) → List Value → Option Value := fun _ args => match args with
  | [.slice (some ⟨0, _, some _⟩) _ _, .int .i64 fr] => cond (fr == 9) (some (RY (rayOfS (rawS l)))) none
  | _ => none
theorem eRayA_ok [Tok] (l : List Int) (hn : Tok.n 0 = l.length) (hl : l ≠ []) : EOkH Try.prog [RW l] (10, eRayA l) := by
  intro mem args r hp hr
  simp only [eRayA] at hr
  split at hr
  · obtain ⟨h1, h2⟩ := cond_some hr
    subst h2
    have h3 := eq_of_beq h1
    subst h3
    exact Or.inl ((rayA l hn hl).weak (by simp [RW_noPtr]) rfl hp)
  · cases hr
def T3A [Tok] (l : List Int) (P : Program) (f53 f17 : Func) : List Entry := (10, eRayA l) :: T2A l P f53 f17
theorem T3A_ok [Tok] (l : List Int) (hn : Tok.n 0 = l.length) (hl : l ≠ []) : ∀ e, e ∈ T3A l Try.prog Try.f53 Try.f17 → EOkH Try.prog [RW l] e := allH_cons (eRayA_ok l hn hl) (T2A_ok l hn hl)
theorem madeA [Tok] (l : List Int) (hn : Tok.n 0 = l.length) (hl : l ≠ []) {x y a b : Nat} : FSpec Try.prog 3 [RW l] [.slice (some ⟨0, x, some y⟩) a b] (B true) := by
  refine spH (T3A_ok l hn hl) Try.func3 (by kernel_rfl) rfl ?_
  have h : evH Try.prog [RW l] (T3A l Try.prog Try.f53 Try.f17) Try.f3 [.slice (some ⟨0, x, some y⟩) a b] = cond (decide (((Tok.n 0 : Nat) : Int) > 256)) (some (B true)) (some (B (insideS (boxA (rawS l)) (joinS (boxA (rawS l)) (boxC (rawS l))) == insideR (boxA (rawS l)) (joinS (boxA (rawS l)) (boxC (rawS l)))))) := by kernel_rfl
  rw [h, made_true]
  cases decide (((Tok.n 0 : Nat) : Int) > 256) <;> rfl

/-! ### CASE B -/
def T1B [Tok] (P : Program) (f53 f17 : Func) : List Entry := (18, eRawB) :: M2 P f53 f17
theorem T1B_ok  [Tok] : ∀ e, e ∈ T1B Try.prog Try.f53 Try.f17 → EOkH Try.prog [] e := allH_cons eRawB_ok fun e he => (M2_ok e he).over _
theorem vecB [Tok] {fr most : Int} (h : okPair fr most = true) : FSpec Try.prog 6 [] [NIL, I fr, I most] (vecS (fun _ => 0) fr most) := by
  rcases okPair_cases h with ⟨rfl, rfl⟩ | ⟨rfl, rfl⟩ | ⟨rfl, rfl⟩ | ⟨rfl, rfl⟩ | ⟨rfl, rfl⟩ <;> exact spH (T1B_ok) Try.func6 (by kernel_rfl) rfl (by kernel_rfl)
def eVecB : List (List Value) → List Value → Option Value := fun _ args => match args with
  | [.slice none 0 0, .int .i64 fr, .int .i64 most] => cond (okPair fr most) (some (vecS (fun _ => 0) fr most)) none
  | _ => none
theorem eVecB_ok  [Tok] : EOkH Try.prog [] (6, eVecB) := by
  intro mem args r hp hr
  simp only [eVecB] at hr
  split at hr
  · obtain ⟨h1, h2⟩ := cond_some hr
    subst h2
    exact Or.inl ((vecB h1).weak rfl rfl hp)
  · cases hr
def T2B [Tok] (P : Program) (f53 f17 : Func) : List Entry := (6, eVecB) :: T1B P f53 f17
theorem T2B_ok  [Tok] : ∀ e, e ∈ T2B Try.prog Try.f53 Try.f17 → EOkH Try.prog [] e := allH_cons (eVecB_ok) (T1B_ok)
theorem rayB  [Tok] : FSpec Try.prog 10 [] [NIL, I 9] (RY (rayOfS (fun _ => 0))) := by
  refine spH (T2B_ok) Try.func10 (by kernel_rfl) rfl ?_
  have h : evH Try.prog [] (T2B Try.prog Try.f53 Try.f17) Try.f10 [NIL, I 9] = ray1 (fun _ => 0) := by kernel_rfl
  rw [h]; exact ray1_eq _
def eRayB : List (List Value) → List Value → Option Value := fun _ args => match args with
  | [.slice none 0 0, .int .i64 fr] => cond (fr == 9) (some (RY (rayOfS (fun _ => 0)))) none
  | _ => none
theorem eRayB_ok  [Tok] : EOkH Try.prog [] (10, eRayB) := by
  intro mem args r hp hr
  simp only [eRayB] at hr
  split at hr
  · obtain ⟨h1, h2⟩ := cond_some hr
    subst h2
    have h3 := eq_of_beq h1
    subst h3
    exact Or.inl ((rayB).weak rfl rfl hp)
  · cases hr
def T3B [Tok] (P : Program) (f53 f17 : Func) : List Entry := (10, eRayB) :: T2B P f53 f17
theorem T3B_ok  [Tok] : ∀ e, e ∈ T3B Try.prog Try.f53 Try.f17 → EOkH Try.prog [] e := allH_cons (eRayB_ok) (T2B_ok)
theorem madeB  [Tok] : FSpec Try.prog 3 [] [NIL] (B true) := by
  refine spH (T3B_ok) Try.func3 (by kernel_rfl) rfl ?_
  have h : evH Try.prog [] (T3B Try.prog Try.f53 Try.f17) Try.f3 [NIL] = (some (B (insideS (boxA (fun _ => 0)) (joinS (boxA (fun _ => 0)) (boxC (fun _ => 0))) == insideR (boxA (fun _ => 0)) (joinS (boxA (fun _ => 0)) (boxC (fun _ => 0)))))) := by kernel_rfl
  rw [h, made_true]
  

end Go.Proofs.Ytnlfeocapnefeab
