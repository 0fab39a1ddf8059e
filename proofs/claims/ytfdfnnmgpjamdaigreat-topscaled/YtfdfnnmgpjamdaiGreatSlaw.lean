/-
  What the law TopScaled gives, of raw numbers in a slice of any length.
-/
import Derived.Test.YtfdfnnmgpjamdaiGreatStkC
import Derived.Test.YtfdfnnmgpjamdaiGreatScl5
namespace Go.Proofs.YtfdfnnmgpjamdaiGreat
open Go.Ev

theorem spH3 [Tok] {hd : List (List Value)} {L : List Entry} {K : List KEntry} (hL : ∀ e, e ∈ L → EOkH Tryz.prog hd e) (hK : ∀ e, e ∈ K → KOk Tryz.prog e) {f : Nat} {fn : Func} (hf : Tryz.prog.funcs[f]? = some fn) (hnm : (fn.name == "runtime.NumGoroutine") = false) {args : List Value} (hlen : Nat.ble args.length fn.ntmps = true) {r : Value}
    (h : ev3 Tryz.prog hd L [] K fn args = some r) : FSpec Tryz.prog f hd args r := spec_of_ev3 (by kernel_rfl) hL mall_nil hK hf hnm hlen h
theorem spH [Tok] {hd : List (List Value)} {L : List Entry} (hL : ∀ e, e ∈ L → EOkH Tryz.prog hd e) {f : Nat} {fn : Func} (hf : Tryz.prog.funcs[f]? = some fn) (hnm : (fn.name == "runtime.NumGoroutine") = false) {args : List Value} (hlen : Nat.ble args.length fn.ntmps = true) {r : Value}
    (h : evH Tryz.prog hd L fn args = some r) : FSpec Tryz.prog f hd args r := spec_of_evH (by kernel_rfl) hL hf hnm hlen h
theorem allH_nil [Tok] {P : Program} {hd : List (List Value)} : ∀ e, e ∈ ([] : List Entry) → EOkH P hd e := fun e h => by cases h
theorem allH_cons [Tok] {P : Program} {hd : List (List Value)} {x : Entry} {l : List Entry} (hx : EOkH P hd x) (hl : ∀ e, e ∈ l → EOkH P hd e) : ∀ e, e ∈ x :: l → EOkH P hd e := fun e h => by
  rcases List.mem_cons.1 h with rfl | h
  · exact hx
  · exact hl e h

/-! ### Small contracts -/
theorem rpick [Tok] (c : Int) (m : Nat) : FSpec Tryz.prog 9 [] [I c, I (.ofNat (m + 1))] (I (pickS c (.ofNat (m + 1)))) := by
  refine sp all_nil Tryz.func9 (by kernel_rfl) rfl ?_
  have h : ev Tryz.prog [] Tryz.f9 [I c, I (.ofNat (m + 1))] = cond (decide (c < 0)) (some (I (Int.tmod (w64 (0 - w64 (c + 1))) (.ofNat (m + 1))))) (some (I (Int.tmod c (.ofNat (m + 1))))) := by kernel_rfl
  rw [h]; unfold pickS; cases decide (c < 0) <;> rfl
theorem rthou [Tok] (n : Int) : FSpec Tryz.prog 31 [] [I n] (F (thouS n)) := sp all_nil Tryz.func31 (by kernel_rfl) rfl (by kernel_rfl)
theorem rnought [Tok] (a b c : Nat) : FSpec Tryz.prog 32 [] [V a b c] (B (noughtS a b c)) := sp all_nil Tryz.func32 (by kernel_rfl) rfl (by kernel_rfl)
theorem radd [Tok] (a b c d e f : Nat) : FSpec Tryz.prog 39 [] [V a b c, V d e f] (V (fadd a d) (fadd b e) (fadd c f)) := sp all_nil Tryz.func39 (by kernel_rfl) rfl (by kernel_rfl)
theorem rsame [Tok] (a b : Nat) : FSpec Tryz.prog 18 [] [F a, F b] (B (sameS a b)) := by
  refine sp all_nil Tryz.func18 (by kernel_rfl) rfl ?_
  have h : ev Tryz.prog [] Tryz.f18 [F a, F b] = cond (cond (!feq a a) true (!feq b b)) (some (B (cond (!feq a a) (!feq b b) false))) (some (B (cond (feq a b) (cond (!feq a 0) true (feq (fdiv one a) (fdiv one b))) false))) := by kernel_rfl
  rw [h, cond_some', cond_B]; rfl
def R0 : List Entry := (9, pe ePick0) :: (31, pe (eI0 fun n => F (thouS n))) :: (32, eV fun a b c => B (noughtS a b c)) :: (39, eVV fun a b c d e f => V (fadd a d) (fadd b e) (fadd c f)) :: (18, eFF fun a b => B (sameS a b)) :: []
theorem R0_ok [Tok] : ∀ e, e ∈ R0 → EOk Tryz.prog e := all_cons (ePick_ok rpick) <| all_cons (eI_ok rthou) <| all_cons (eV_ok rnought) <| all_cons (eVV_ok radd) <| all_cons (eFF_ok rsame) all_nil
def R1 [Tok] (P : Program) (fm fo : Func) : List Entry := (43, inl P R0 fm) :: (66, inl P R0 fo) :: R0
theorem R1_ok [Tok] : ∀ e, e ∈ R1 Tryz.prog Tryz.f43 Tryz.f66 → EOk Tryz.prog e := all_cons (inl_ok (by kernel_rfl) R0_ok Tryz.func43 (by kernel_rfl)) <| all_cons (inl_ok (by kernel_rfl) R0_ok Tryz.func66 (by kernel_rfl)) R0_ok
theorem rput0 [Tok] (a b c x : Nat) : FSpec Tryz.prog 40 [] [V a b c, I 0, F x] (V x b c) := sp R1_ok Tryz.func40 (by kernel_rfl) rfl (by kernel_rfl)
theorem rput1 [Tok] (a b c x : Nat) : FSpec Tryz.prog 40 [] [V a b c, I 1, F x] (V a x c) := sp R1_ok Tryz.func40 (by kernel_rfl) rfl (by kernel_rfl)
theorem rput2 [Tok] (a b c x : Nat) : FSpec Tryz.prog 40 [] [V a b c, I 2, F x] (V a b x) := sp R1_ok Tryz.func40 (by kernel_rfl) rfl (by kernel_rfl)

/-! ### Entries that ask for one case -/
def putV (z a b c x : Nat) : Value := V (cond (0 == z) x a) (cond (1 == z) x b) (cond (2 == z) x c)
def ePut0 (z : Nat) : List Value → Option Value
  | [x, .int .i64 k, y] => match asV x, asF y with
    | some (a, b, c), some l => cond (k == (z : Int)) (some (putV z a b c l)) none
    | _, _ => none
  | _ => none
def kPut (z : Nat) : List (List Value) → List Value → (Value → Option Value) → Option Value := fun _ args k => cond (noPtrs args) (match args with
  | [x, .int .i64 n, y] => match asV x, asF y with
    | some (a, b, c), some l => cond (n == (z : Int)) (k (putV z a b c l)) none
    | _, _ => none
  | _ => none) none
theorem kPut_ok [Tok] {z : Nat} (hz : z < 3) : KOk Tryz.prog (40, kPut z) := by
  have h2 : EOk Tryz.prog (40, pe (ePut0 z)) := by
    refine pe_ok fun args r hr => ?_
    simp only [ePut0] at hr
    split at hr
    · rename_i x k y
      split at hr
      · rename_i a b c l ha hl
        cases hc : k == (z : Int)
        · rw [hc] at hr; cases hr
        · rw [hc] at hr; cases hr
          rw [asV_some ha, asF_some hl, eq_of_beq hc]
          have h3 : z = 0 ∨ z = 1 ∨ z = 2 := by omega
          rcases h3 with rfl | rfl | rfl
          · exact Or.inl (rput0 a b c l)
          · exact Or.inl (rput1 a b c l)
          · exact Or.inl (rput2 a b c l)
      · cases hr
    · cases hr
  refine kOf h2 fun mem args k => ?_
  unfold kPut pe
  cases noPtrs args
  · rfl
  · simp only [cond_true]
    split
    · rename_i x n y
      simp only [ePut0]
      cases asV x with
      | none => rfl
      | some m =>
        cases asF y with
        | none => rfl
        | some l => simp only; cases n == (z : Int) <;> rfl
    · rename_i h
      have e : ePut0 z args = none := by
        unfold ePut0
        split
        · exact (h _ _ _ rfl).elim
        · rfl
      rw [e]
/-- Of six: one. -/
def ePickI (kk : Int) : List Value → Option Value
  | [.int .i64 c, .int .i64 (.ofNat (m + 1))] => cond ((m + 1) == 6) (cond (pickS c (.ofNat (m + 1)) == kk) (some (I kk)) none) (some (I (pickS c (.ofNat (m + 1)))))
  | _ => none
def kPickI (kk : Int) : List (List Value) → List Value → (Value → Option Value) → Option Value := fun _ args k => cond (noPtrs args) (match args with
  | [.int .i64 c, .int .i64 (.ofNat (m + 1))] => cond ((m + 1) == 6) (cond (pickS c (.ofNat (m + 1)) == kk) (k (I kk)) none) (k (I (pickS c (.ofNat (m + 1)))))
  | _ => none) none
theorem kPickI_ok [Tok] (kk : Int) : KOk Tryz.prog (9, kPickI kk) := by
  have h2 : EOk Tryz.prog (9, pe (ePickI kk)) := by
    refine pe_ok fun args r hr => ?_
    unfold ePickI at hr
    split at hr
    · rename_i c m
      cases h6 : (m + 1) == 6
      · rw [h6] at hr; cases hr; exact Or.inl (rpick c m)
      · rw [h6] at hr
        simp only [cond_true] at hr
        cases hc : pickS c (.ofNat (m + 1)) == kk
        · rw [hc] at hr; cases hr
        · rw [hc] at hr; cases hr
          rw [← eq_of_beq hc]; exact Or.inl (rpick c m)
    · cases hr
  refine kOf h2 fun mem args k => ?_
  unfold kPickI pe
  cases noPtrs args
  · rfl
  · simp only [cond_true]
    split
    · rename_i c m
      simp only [ePickI]
      cases (m + 1) == 6
      · rfl
      · simp only [cond_true]
        cases pickS c (.ofNat (m + 1)) == kk <;> rfl
    · rename_i h
      have e : ePickI kk args = none := by
        unfold ePickI
        split
        · exact (h _ _ rfl).elim
        · rfl
      rw [e]
/-- Of six: each. -/
def by6 (p : Int) (g : Nat → Option Value) : Option Value := cond (p == 0) (g 0) (cond (p == 1) (g 1) (cond (p == 2) (g 2) (cond (p == 3) (g 3) (cond (p == 4) (g 4) (cond (p == 5) (g 5) none)))))
def ePick6 : List Value → Option Value
  | [.int .i64 c, .int .i64 (.ofNat (m + 1))] => cond ((m + 1) == 6) (by6 (pickS c 6) fun n => some (I ((n : Nat) : Int))) none
  | _ => none
def kPick6 : List (List Value) → List Value → (Value → Option Value) → Option Value := fun _ args k => cond (noPtrs args) (match args with
  | [.int .i64 c, .int .i64 (.ofNat (m + 1))] => cond ((m + 1) == 6) (by6 (pickS c 6) fun n => k (I ((n : Nat) : Int))) none
  | _ => none) none
theorem by6_some {p : Int} {g : Nat → Option Value} {r : Value} (h : by6 p g = some r) : ∃ n : Nat, p = (n : Int) ∧ g n = some r ∧ ∀ g', by6 p g' = g' n := by
  unfold by6 at h ⊢
  cases h0 : p == 0
  · rw [h0] at h
    cases h1 : p == 1
    · rw [h1] at h
      cases h2 : p == 2
      · rw [h2] at h
        cases h3 : p == 3
        · rw [h3] at h
          cases h4 : p == 4
          · rw [h4] at h
            cases h5 : p == 5
            · rw [h5] at h; cases h
            · rw [h5] at h; exact ⟨5, eq_of_beq h5, h, fun _ => rfl⟩
          · rw [h4] at h; exact ⟨4, eq_of_beq h4, h, fun _ => rfl⟩
        · rw [h3] at h; exact ⟨3, eq_of_beq h3, h, fun _ => rfl⟩
      · rw [h2] at h; exact ⟨2, eq_of_beq h2, h, fun _ => rfl⟩
    · rw [h1] at h; exact ⟨1, eq_of_beq h1, h, fun _ => rfl⟩
  · rw [h0] at h; exact ⟨0, eq_of_beq h0, h, fun _ => rfl⟩
theorem by6_match (p : Int) (g : Nat → Value) (k : Value → Option Value) : (by6 p fun n => k (g n)) = match (by6 p fun n => some (g n)) with | some v => k v | none => none := by
  unfold by6
  cases p == 0
  · cases p == 1
    · cases p == 2
      · cases p == 3
        · cases p == 4
          · cases p == 5 <;> rfl
          · rfl
        · rfl
      · rfl
    · rfl
  · rfl
theorem kPick6_ok [Tok] : KOk Tryz.prog (9, kPick6) := by
  have h2 : EOk Tryz.prog (9, pe ePick6) := by
    refine pe_ok fun args r hr => ?_
    unfold ePick6 at hr
    split at hr
    · rename_i c m
      cases h6 : (m + 1) == 6
      · rw [h6] at hr; cases hr
      · rw [h6] at hr
        simp only [cond_true] at hr
        have hm : m = 5 := by have := eq_of_beq h6; omega
        subst hm
        obtain ⟨n, e, hg, _⟩ := by6_some hr
        cases hg
        rw [← e]
        exact Or.inl (rpick c 5)
    · cases hr
  refine kOf h2 fun mem args k => ?_
  unfold kPick6 pe
  cases noPtrs args
  · rfl
  · simp only [cond_true]
    split
    · rename_i c m
      simp only [ePick6]
      cases (m + 1) == 6
      · rfl
      · simp only [cond_true]; exact by6_match _ _ _
    · rename_i h
      have e : ePick6 args = none := by
        unfold ePick6
        split
        · exact (h _ _ rfl).elim
        · rfl
      rw [e]
def asS : Value → Option (Int × (Nat → Nat) × Int)
  | .agg ⟨[.int .i64 k, .float .f64 a0, .float .f64 a1, .float .f64 a2, .float .f64 a3, .float .f64 a4, .float .f64 a5, .float .f64 a6, .float .f64 a7, .float .f64 a8, .float .f64 a9, .float .f64 a10, .int .i64 sk]⟩ => some (k, ls [a0, a1, a2, a3, a4, a5, a6, a7, a8, a9, a10], sk)
  | _ => none
theorem asS_some {v : Value} {k sk : Int} {s : Nat → Nat} (h : asS v = some (k, s, sk)) : v = SH k s sk := by
  unfold asS at h; split at h
  · cases h; rfl
  · cases h
def eHit (kd z : Nat) : List Value → Option Value
  | [x, y] => match asS x, asY y with
    | some (k, s, sk), some r => cond (k == (kd : Int)) (cond (okS kd z sk s r) (some (hitV kd z s r)) none) none
    | _, _ => none
  | _ => none
def kHit (kd z : Nat) : List (List Value) → List Value → (Value → Option Value) → Option Value := fun _ args k => cond (noPtrs args) (match args with
  | [x, y] => match asS x, asY y with
    | some (n, s, sk), some r => cond (n == (kd : Int)) (cond (okS kd z sk s r) (k (hitV kd z s r)) none) none
    | _, _ => none
  | _ => none) none
theorem kHit_ok [Tok] {kd z : Nat} (h : ∀ sk s r, okS kd z sk s r = true → FSpec Tryz.prog 17 [] [SH kd s sk, RY r] (hitV kd z s r)) : KOk Tryz.prog (17, kHit kd z) := by
  have h2 : EOk Tryz.prog (17, pe (eHit kd z)) := by
    refine pe_ok fun args r hr => ?_
    unfold eHit at hr
    split at hr
    · split at hr
      · rename_i n s sk y ha hb
        cases hc : n == (kd : Int)
        · rw [hc] at hr; cases hr
        · rw [hc] at hr
          simp only [cond_true] at hr
          cases ho : okS kd z sk s y
          · rw [ho] at hr; cases hr
          · rw [ho] at hr; cases hr
            rw [asS_some ha, asY_some hb, eq_of_beq hc]
            exact Or.inl (h sk s y ho)
      · cases hr
    · cases hr
  refine kOf h2 fun mem args k => ?_
  unfold kHit pe
  cases noPtrs args
  · rfl
  · simp only [cond_true]
    match args with
    | [] => rfl
    | [_] => rfl
    | [x, y] =>
      simp only [eHit]
      cases asS x with
      | none => rfl
      | some m =>
        cases asY y with
        | none => rfl
        | some r =>
          simp only
          cases m.1 == (kd : Int)
          · rfl
          · simp only [cond_true]; cases okS kd z m.2.2 m.2.1 r <;> rfl
    | _ :: _ :: _ :: _ => rfl

/-! ### What comes out -/
def projF : Value → Nat
  | .tuple ⟨[.float _ x, _, _]⟩ => x
  | _ => 0
def projB : Value → Bool
  | .tuple ⟨[_, .bool b, _]⟩ => b
  | _ => false
def wOf (n : Nat) : Nat := match n with
  | 0 => 4593671619917905920
  | 1 => 4598175219545276416
  | 2 => 4602678819172646912
  | 3 => 4611686018427387904
  | 4 => 4616189618054758400
  | _ => 4620693217682128896
def hitT (k z : Nat) (s r : Nat → Nat) : Nat := cond (meetK (boxK k z s) r) (cond (okK k z s r) (cond (fge (tK k z s r) (r 6)) (cond (flt (tK k z s r) (meetN (boxK k z s) r)) (meetN (boxK k z s) r) (cond (fgt (tK k z s r) (meetF (boxK k z s) r)) (meetF (boxK k z s) r) (tK k z s r))) 0) 0) 0
def hitB (k z : Nat) (s r : Nat → Nat) : Bool := cond (meetK (boxK k z s) r) (cond (okK k z s r) (fge (tK k z s r) (r 6)) false) false
def leafV (kd z : Nat) (sk : Int) (s r : Nat → Nat) (w : Nat) : Option Value := cond (okS kd z sk s r) (cond (okS kd z sk (scS kd w s) (scR w r)) (some (B (cond (hitB kd z s r == hitB kd z (scS kd w s) (scR w r)) (sameS (hitT kd z s r) (hitT kd z (scS kd w s) (scR w r))) false))) none) none
theorem leaf_true {kd z : Nat} {sk : Int} {s r : Nat → Nat} (h : Plain kd z s r) (hsk : skOk sk = true) {n : Nat} (hn : n < 6) : leafV kd z sk s r (wOf n) = some (B true) := by
  have key1 : ∃ (up : Bool) (j : Nat), j ≤ 3 ∧ wOf n = byW up j := by
    have : n = 0 ∨ n = 1 ∨ n = 2 ∨ n = 3 ∨ n = 4 ∨ n = 5 := by omega
    rcases this with rfl | rfl | rfl | rfl | rfl | rfl
    · exact ⟨false, 3, by decide, by decide⟩
    · exact ⟨false, 2, by decide, by decide⟩
    · exact ⟨false, 1, by decide, by decide⟩
    · exact ⟨true, 1, by decide, by decide⟩
    · exact ⟨true, 2, by decide, by decide⟩
    · exact ⟨true, 3, by decide, by decide⟩
  obtain ⟨up, j, hj, e⟩ := key1
  obtain ⟨a, b, c⟩ := plain_hit h hsk up hj
  rw [← e] at b c
  have e1 : hitT kd z s r = hitT kd z (scS kd (wOf n) s) (scR (wOf n) r) := congrArg projF c
  have e2 : hitB kd z s r = hitB kd z (scS kd (wOf n) s) (scR (wOf n) r) := congrArg projB c
  unfold leafV
  rw [a, b, ← e1, ← e2, sameS_self]
  simp
def lawV (kd z : Nat) (sk : Int) (s r : Nat → Nat) (p : Int) : Option Value := by6 p fun n => leafV kd z sk s r (wOf n)
theorem law_true {kd z : Nat} {sk : Int} {s r : Nat → Nat} (h : Plain kd z s r) (hsk : skOk sk = true) {p : Int} (h0 : 0 ≤ p) (h6 : p < 6) : lawV kd z sk s r p = some (B true) := by
  have l := fun n (hn : n < 6) => leaf_true h hsk hn
  unfold lawV by6
  have : p = 0 ∨ p = 1 ∨ p = 2 ∨ p = 3 ∨ p = 4 ∨ p = 5 := by omega
  rcases this with rfl | rfl | rfl | rfl | rfl | rfl
  · exact l 0 (by decide)
  · exact l 1 (by decide)
  · exact l 2 (by decide)
  · exact l 3 (by decide)
  · exact l 4 (by decide)
  · exact l 5 (by decide)

/-! ### The raw numbers -/
theorem rw_get [Tok] (l : List Int) {i : Nat} (h : i < l.length) : (RW l).getD (Tok.o 0 + i * 1) junk = I (l.getD i 0) := by
  unfold RW
  rw [List.getD_eq_getElem?_getD, List.getElem?_append_right (by simp), List.length_replicate, Nat.mul_one, Nat.add_sub_cancel_left, List.getElem?_map, List.getElem?_eq_getElem h]
  simp [h]
theorem rw_length [Tok] (l : List Int) : (RW l).length = Tok.o 0 + l.length := by unfold RW; simp
theorem raw_evA [Tok] (l : List Int) (m : Nat) (hm : l.length = m + 1) (k : Int) (hk : 0 ≤ k) : evH Tryz.prog [RW l] [] Tryz.f29 [.slice (some ⟨0, Tok.o 0, none⟩) (m + 1) 0, I k] = some (I (rawS l k)) := by
  have h : ∀ row : List Value, evH Tryz.prog [row] [] Tryz.f29 [.slice (some ⟨0, Tok.o 0, none⟩) (m + 1) 0, I k] =
      cond (decide (0 ≤ Int.tmod k (.ofNat (m + 1))) && decide (Int.tmod k (.ofNat (m + 1)) < ((m + 1 : Nat) : Int))) (cond (Nat.blt (Tok.o 0 + (Int.tmod k (.ofNat (m + 1))).toNat * 1) row.length)
        (cond (noPtr (row.getD (Tok.o 0 + (Int.tmod k (.ofNat (m + 1))).toNat * 1) junk) && okArg (row.getD (Tok.o 0 + (Int.tmod k (.ofNat (m + 1))).toNat * 1) junk)) (some (row.getD (Tok.o 0 + (Int.tmod k (.ofNat (m + 1))).toNat * 1) junk)) none) none) none := fun row => by kernel_rfl
  rw [h]
  have e1 : 0 ≤ Int.tmod k (.ofNat (m + 1)) := Int.tmod_nonneg _ hk
  have e2 : Int.tmod k (.ofNat (m + 1)) < ((m + 1 : Nat) : Int) := Int.tmod_lt_of_pos _ (show (0 : Int) < ((m + 1 : Nat) : Int) by omega)
  have e3 : (Int.tmod k (.ofNat (m + 1))).toNat < l.length := by omega
  have e4 : Nat.blt (Tok.o 0 + (Int.tmod k (.ofNat (m + 1))).toNat * 1) (RW l).length = true := by rw [rw_length]; exact Nat.ble_eq_true_of_le (by omega)
  rw [rw_get l e3, e4]
  simp only [e1, e2, decide_true, Bool.and_self, cond_true]
  unfold rawS
  rw [hm]
  rfl
theorem rawA [Tok] (l : List Int) (hn : Tok.n 0 = l.length) (hl : l ≠ []) (k : Int) (hk : 0 ≤ k) {x y a b : Nat} : FSpec Tryz.prog 29 [RW l] [.slice (some ⟨0, x, some y⟩) a b, I k] (I (rawS l k)) := by
  obtain ⟨m, hm⟩ : ∃ m, l.length = m + 1 := ⟨l.length - 1, by have := List.length_pos_iff.2 hl; omega⟩
  refine FSpec.named (c := 0) ?_
  rw [hn, hm]
  exact spH allH_nil Tryz.func29 (by kernel_rfl) rfl (raw_evA l m hm k hk)
theorem rawB [Tok] (k : Int) : FSpec Tryz.prog 29 [] [NIL, I k] (I 0) := sp all_nil Tryz.func29 (by kernel_rfl) rfl (by kernel_rfl)
def eRawA (l : List Int) : List (List Value) → List Value → Option Value := fun _ args => match args with
  | [.slice (some ⟨0, _, some _⟩) _ _, .int .i64 k] => cond (decide (0 ≤ k)) (some (I (rawS l k))) none
  | _ => none
theorem eRawA_ok [Tok] (l : List Int) (hn : Tok.n 0 = l.length) (hl : l ≠ []) : EOkH Tryz.prog [RW l] (29, eRawA l) := by
  intro mem args r hp hr
  simp only [eRawA] at hr
  split at hr
  · rename_i x y a b k
    by_cases hk : 0 ≤ k
    · simp only [hk, decide_true, cond_true, Option.some.injEq] at hr
      subst hr
      exact Or.inl ((rawA l hn hl k hk).weak (by simp [RW_noPtr]) rfl hp)
    · simp [hk] at hr
  · cases hr
def eRawB : List (List Value) → List Value → Option Value := fun _ args => match args with
  | [.slice none 0 0, .int .i64 _] => some (I 0)
  | _ => none
theorem eRawB_ok [Tok] : EOkH Tryz.prog [] (29, eRawB) := by
  intro mem args r hp hr
  simp only [eRawB] at hr
  split at hr
  · cases hr
    exact Or.inl ((rawB _).weak rfl rfl hp)
  · cases hr
def vecS (q : Int → Int) (fr most : Int) : Value := V (milS (q fr) most) (milS (q (fr + 1)) most) (milS (q (fr + 2)) most)
def okPair (fr most : Int) : Bool := (fr == 1 && most == 4000) || ((fr == 4 && most == 3000) || ((fr == 9 && most == 4000) || ((fr == 14 && most == 6000) || (fr == 17 && most == 1500))))
theorem okPair_cases {fr most : Int} (h : okPair fr most = true) : (fr = 1 ∧ most = 4000) ∨ (fr = 4 ∧ most = 3000) ∨ (fr = 9 ∧ most = 4000) ∨ (fr = 14 ∧ most = 6000) ∨ (fr = 17 ∧ most = 1500) := by
  simpa [okPair] using h
theorem fw {α : Type} {b : Bool} {x y : α} (h : cond b (some x) none = some y) : b = true ∧ x = y := cond_some h

/-! ### CASE A: there are raw numbers -/
def QA1 [Tok] (l : List Int) (P : Program) (fm fo : Func) : List Entry := (29, eRawA l) :: R1 P fm fo
theorem QA1_ok [Tok] (l : List Int) (hn : Tok.n 0 = l.length) (hl : l ≠ []) : ∀ e, e ∈ QA1 l Tryz.prog Tryz.f43 Tryz.f66 → EOkH Tryz.prog [RW l] e := allH_cons (eRawA_ok l hn hl) fun e he => (R1_ok e he).over _
theorem vecA [Tok] (l : List Int) (hn : Tok.n 0 = l.length) (hl : l ≠ []) {x y a b : Nat} {fr most : Int} (h : okPair fr most = true) : FSpec Tryz.prog 20 [RW l] [.slice (some ⟨0, x, some y⟩) a b, I fr, I most] (vecS (rawS l) fr most) := by
  rcases okPair_cases h with ⟨rfl, rfl⟩ | ⟨rfl, rfl⟩ | ⟨rfl, rfl⟩ | ⟨rfl, rfl⟩ | ⟨rfl, rfl⟩ <;> exact spH (QA1_ok l hn hl) Tryz.func20 (by kernel_rfl) rfl (by kernel_rfl)
def eVecA (l : List Int) : List (List Value) → List Value → Option Value := fun _ args => match args with
  | [.slice (some ⟨0, _, some _⟩) _ _, .int .i64 fr, .int .i64 most] => cond (okPair fr most) (some (vecS (rawS l) fr most)) none
  | _ => none
theorem eVecA_ok [Tok] (l : List Int) (hn : Tok.n 0 = l.length) (hl : l ≠ []) : EOkH Tryz.prog [RW l] (20, eVecA l) := by
  intro mem args r hp hr
  simp only [eVecA] at hr
  split at hr
  · obtain ⟨h1, h2⟩ := fw hr
    subst h2
    exact Or.inl ((vecA l hn hl h1).weak (by simp [RW_noPtr]) rfl hp)
  · cases hr
def QA2 [Tok] (l : List Int) (P : Program) (fm fo : Func) : List Entry := (20, eVecA l) :: QA1 l P fm fo
theorem QA2_ok [Tok] (l : List Int) (hn : Tok.n 0 = l.length) (hl : l ≠ []) : ∀ e, e ∈ QA2 l Tryz.prog Tryz.f43 Tryz.f66 → EOkH Tryz.prog [RW l] e := allH_cons (eVecA_ok l hn hl) (QA1_ok l hn hl)
theorem rayA [Tok] (l : List Int) (hn : Tok.n 0 = l.length) (hl : l ≠ []) {x y a b : Nat} : FSpec Tryz.prog 10 [RW l] [.slice (some ⟨0, x, some y⟩) a b, I 14] (RY (rayOfS (rawS l))) := by
  refine spH (QA2_ok l hn hl) Tryz.func10 (by kernel_rfl) rfl ?_
  have h : evH Tryz.prog [RW l] (QA2 l Tryz.prog Tryz.f43 Tryz.f66) Tryz.f10 [.slice (some ⟨0, x, some y⟩) a b, I 14] = ray1 (rawS l) := by kernel_rfl
  rw [h]; exact ray1_eq _
/-! The shapes, by kind. -/
def KS (kk : Int) (z : Nat) : List KEntry := (9, kPickI kk) :: (40, kPut z) :: []
theorem KS_ok [Tok] (kk : Int) {z : Nat} (hz : z < 3) : ∀ e, e ∈ KS kk z → KOk Tryz.prog e := kall_cons (kPickI_ok kk) <| kall_cons (kPut_ok hz) kall_nil
def sk3 (q : Int → Int) : Int := pickS (q 7) 3
def mQ (q : Int → Int) : Nat := thouS (w64 (1 + w64 (Int.tdiv (pickS (q 8) 2500) (w64 (1 + pickS (q 4) 3)))))
def mk6 (z : Nat) (q : Int → Int) : Nat → Nat := ls [mA q 1, mA q 2, mA q 3, cond (0 == z) (mL q) 0, cond (1 == z) (mL q) 0, cond (2 == z) (mL q) 0, 0, 0, 0, mR q, mQ q]
def sh4a (q : Int → Int) : Nat → Nat := ls [mA q 1, mA q 2, mA q 3, 0, 4607182418800017408, 0, 0, 0, 0, mR q, 0]
def sh4b (q : Int → Int) : Nat → Nat := ls [mA q 1, mA q 2, mA q 3, mB q 4, mB q 5, mB q 6, 0, 0, 0, mR q, 0]
/-- What ShapeOf gives, of the kind that the first raw number speaks of. -/
def shTree (kk z : Nat) (q : Int → Int) : Option Value := match kk with
  | 0 => cond (pickS (q 0) 6 == 0) (some (SH 1 (mk1 q) (sk3 q))) none
  | 1 => cond (pickS (q 0) 6 == 1) (some (SH 2 (mk2 q) (sk3 q))) none
  | 2 => cond (pickS (q 0) 6 == 2) (some (SH 3 (mk3 q) (sk3 q))) none
  | 3 => cond (pickS (q 0) 6 == 3) (cond (mN q) (some (SH 4 (sh4a q) (sk3 q))) (some (SH 4 (sh4b q) (sk3 q)))) none
  | 4 => cond (pickS (q 0) 6 == 4) (cond (pickS (q 6) 3 == (z : Int)) (some (SH 5 (mk5 z q) (sk3 q))) none) none
  | _ => cond (pickS (q 0) 6 == 5) (cond (pickS (q 6) 3 == (z : Int)) (cond (!(w64 (1 + pickS (q 4) 3) == 0)) (some (SH 6 (mk6 z q) (sk3 q))) none) none) none
def shV (kk z : Nat) (q : Int → Int) : Value := match kk with
  | 0 => SH 1 (mk1 q) (sk3 q)
  | 1 => SH 2 (mk2 q) (sk3 q)
  | 2 => SH 3 (mk3 q) (sk3 q)
  | 3 => SH 4 (mk4 q) (sk3 q)
  | 4 => SH 5 (mk5 z q) (sk3 q)
  | _ => SH 6 (mk6 z q) (sk3 q)
theorem shTree_eq {kk z : Nat} {q : Int → Int} (hq : ∀ n, I64 (q n)) (h6 : kk < 6) (hk : pickS (q 0) 6 = (kk : Int)) (hz : kk = 4 ∨ kk = 5 → pickS (q 6) 3 = (z : Int)) : shTree kk z q = some (shV kk z q) := by
  have : kk = 0 ∨ kk = 1 ∨ kk = 2 ∨ kk = 3 ∨ kk = 4 ∨ kk = 5 := by omega
  rcases this with rfl | rfl | rfl | rfl | rfl | rfl
  · unfold shTree shV; simp only [hk]; rfl
  · unfold shTree shV; simp only [hk]; rfl
  · unfold shTree shV; simp only [hk]; rfl
  · unfold shTree shV mk4; simp only [hk]; cases mN q <;> rfl
  · have e := hz (Or.inl rfl)
    unfold shTree shV; simp only [hk, e, BEq.rfl, cond_true]; rfl
  · have e := hz (Or.inr rfl)
    obtain ⟨a, b⟩ := pick_range (hq 4) (show (0 : Int) < 3 by decide)
    have e2 : (w64 (1 + pickS (q 4) 3) == 0) = false := by
      rw [w64_small (by omega) (by omega)]
      cases h : (1 + pickS (q 4) 3 == 0)
      · rfl
      · have := eq_of_beq h; omega
    unfold shTree shV; simp only [hk, e, e2, BEq.rfl, cond_true]; rfl
end Go.Proofs.YtfdfnnmgpjamdaiGreat
