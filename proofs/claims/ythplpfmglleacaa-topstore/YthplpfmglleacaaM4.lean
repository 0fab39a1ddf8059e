/-
  Wca Arg0 Ar1 Raw0 Fo1 Fo1b St1 St2 St3 St4, one behind the other.
-/
import Derived.Test.YthplpfmglleacaaM3
import Derived.Test.YthplpfmglleacaaGi
import Derived.Test.YthplpfmglleacaaM2
namespace Go.Proofs.Ythplpfmglleacaa
open Go.Gv

def ffL : FLf := fun el S j => cnV (fun c => u8Of' (el (S * j + c))) S
section
variable {n : Nat} {g : Nat → Int}
theorem cl_of_bad {e : Int} (he : e ≠ 0) (h : BBad n g e) : FreshSpec Try.prog 20 [sB n g] (fOut zF e) := by
  have h0 : FSpec Try.prog 20 [sB n g] (.tup [.agg flmZ, iA e]) := by
    refine gspec e_nil (k_cons (kS_ok (P := Try.prog) (f := 23) (g := fun _ => .tup [.agg flmZ, iA e])) (k_cons (kno_ok _) k_nil)) Try.func20 (by kernel_rfl) (by kernel_rfl) noL_ok rfl ((cl_bad n g e).trans ?_)
    rw [gate_pos h, beq_false_of_ne he]
    rfl
  exact (fresh_plain h0 rfl).of_res fun _ _ hr => tup2_like hr fun _ => zF_like
theorem plainL2 (ff : FLf) (N M : Nat) : PlainRows (lR ff g N M) := by
  intro k e sz c el hk i hi
  match k, hk with
  | 0, hk => cases hk; rfl
  | 1, hk => cases hk; rfl
  | k + 2, hk => simp [lR] at hk
theorem cload_fresh (hg : ∀ i, i < n → 0 ≤ g i ∧ g i ≤ 255) : FreshSpec Try.prog 20 [sB n g] (fOut (ldO n g) (ldE n g)) := by
  have bad : ∀ {e : Int}, e ≠ 0 → ldE n g = e → BBad n g e → FreshSpec Try.prog 20 [sB n g] (fOut (ldO n g) (ldE n g)) := fun {e} he h1 h2 => by
    have hf : ldO n g = zF := by unfold ldO; rw [if_neg (by rw [h1]; exact he)]
    rw [hf, h1]
    exact cl_of_bad he h2
  by_cases h6 : n < 6
  · exact bad (by decide) (by unfold ldE; rw [decide_eq_true h6]; rfl) (bk_short h6)
  have hn6 : 6 ≤ n := by omega
  cases hm : mg3 g
  case true => exact bad (by decide) (by unfold ldE; rw [decide_eq_false h6, hm]; rfl) (bk_form hn6 hg hm)
  cases hb : fbad (g 4) (g 5)
  case true => exact bad (by decide) (by unfold ldE; rw [decide_eq_false h6, hm, hb]; rfl) (bk_sides hn6 hg hm hb)
  obtain ⟨r1, r2, r3⟩ := bk_rest hn6 hg hm hb
  by_cases hlt : n < 21 * ldP g + 10
  · exact bad (by decide) (by unfold ldE; rw [decide_eq_false h6, hm, hb, decide_eq_true hlt]; rfl) (r1 hlt)
  by_cases hgt : n > 21 * ldP g + 10
  · exact bad (by decide) (by unfold ldE; rw [decide_eq_false h6, hm, hb, decide_eq_false hlt, decide_eq_true hgt]; rfl) (r2 hgt)
  have hn : n = 21 * ldP g + 10 := by omega
  have hG := r3 hn
  have hE : ldE n g = cond (!ldS n g) 12 (fmay (ldF g)) := by unfold ldE; rw [decide_eq_false h6, hm, hb, decide_eq_false hlt, decide_eq_false hgt]; rfl
  obtain ⟨w1, w2, w3, w4⟩ := nw_eq hb
  have hP : ldP g ≤ 4096 := by unfold ldP; omega
  have hP0 : 0 < ldP g := by unfold ldP; omega
  have es : s4 n = ((n - 4 : Nat) : Int) := by unfold s4; rw [w64_id (by omega) (by omega)]; omega
  obtain ⟨b1, b2, b3, b4, b5⟩ := sbT (n - 4) n (by omega)
  have eN : sbE g (some ((n - 4 : Nat) : Int)) = fun i => [yA (g (n - 4 + i))] := funext fun i => by unfold sbE; rw [b5]
  have eC : sbE g none = fun i => [yA (g i)] := funext fun i => by
    unfold sbE
    have : sbL none = 0 := rfl
    rw [this, Nat.zero_add]
  have k1 : NBc cfE g (some (s4 n)) none n := by
    show FSpec Try.prog 19 [.sl 1 (sbN (some (s4 n)) none n) (sbE g (some (s4 n)))] (iA (cfE (sbN (some (s4 n)) none n) (sbE g (some (s4 n)))))
    rw [es, b4, eN]
    exact cn_spec (by omega) fun i => g (n - 4 + i)
  have k2 : CKc suE g none (some (s4 n)) n := by
    show FSpec Try.prog 18 [.sl 1 (sbN none (some (s4 n)) n) (sbE g none)] (iA (suE (sbN none (some (s4 n)) n) (sbE g none)))
    rw [es, b3, eC]
    exact ck_spec (by omega) g
  have eS : (cfE (sbN (some (s4 n)) none n) (sbE g (some (s4 n))) == suE (sbN none (some (s4 n)) n) (sbE g none)) = ldS n g := by
    rw [es, b4, b3, eN, eC, show n - (n - 4) = 4 by omega]
    show (cnV (fun i => g (n - 4 + i)) 4 == w64 (suV g (n - 4))) = _
    rw [(cn_nb (g := fun i => g (n - 4 + i)) (k := 4) (by omega) fun i hi => hg _ (by omega)).1]
    rfl
  obtain ⟨c1, c2, c3, c4, c5⟩ := sbT 6 n hn6
  have c2' : sbB (some 6) none none n = true := c2
  have c5' : sbL (some 6) = 6 := c5
  have eL : L6 n = n - 6 := c4
  have f1 : FLo ffL (3 * ldP g) (L6 n) 6 (e6 g) := fi_ok (N := 3 * ldP g) (L := L6 n) (S := 6) (by omega) (by omega) (by rw [eL]; omega) (fun i => g (sbL (some 6) + i)) fun _ => 0
  have f2 : FLo ffL (ldP g) (L6 n - 6 * (3 * ldP g)) 3 (e7 g (3 * ldP g)) := fi_ok (N := ldP g) (L := L6 n - 6 * (3 * ldP g)) (S := 3) (by omega) (by omega) (by rw [eL]; omega) (fun i => g (sbL (some 6) + (6 * (3 * ldP g) + i))) fun _ => 0
  have q1 : flQ (FLo ffL (3 * ldP g) (L6 n) 6 (e6 g)) (3 * ldP g) = true := by unfold flQ; rw [propB_t f1, blt_t (by omega)]; rfl
  have q2 : flQ (FLo ffL (ldP g) (L6 n - 6 * (3 * ldP g)) 3 (e7 g (3 * ldP g))) (ldP g) = true := by unfold flQ; rw [propB_t f2, blt_t (by omega)]; rfl
  have hl : lnF (3 * ldP g) (ldP g) = true := by unfold lnF; rw [ble_t (by omega), ble_t (by omega)]; rfl
  have ok := FMok_of cmay_spec
  let F : Flm := ⟨g 4, g 5, 3 * ldP g, fun i => ffL (e6 g) 6 i, ldP g, fun i => ffL (e7 g (3 * ldP g)) 3 i⟩
  have eF : lC ffL g (g 4) (g 5) (3 * ldP g) (ldP g) = F.c := by
    show ([iA (g 4), iA (g 5), .sl 1 (3 * ldP g) fun i => [iA (ffL (e6 g) 6 (0 + i))], .sl 1 (ldP g) fun i => [iA (ffL (e7 g (3 * ldP g)) 3 (0 + i))]] : List AV) = [iA (g 4), iA (g 5), .sl 1 (3 * ldP g) fun i => [iA (ffL (e6 g) 6 i)], .sl 1 (ldP g) fun i => [iA (ffL (e7 g (3 * ldP g)) 3 i)]]
    simp only [Nat.zero_add]
  have eM : lM fmE' ffL g (g 4) (g 5) (3 * ldP g) (ldP g) = fmay F := by
    show fmay ⟨g 4, g 5, 3 * ldP g, fun i => ffL (e6 g) 6 (0 + i), ldP g, fun i => ffL (e7 g (3 * ldP g)) 3 (0 + i)⟩ = fmay F
    simp only [Nat.zero_add]
    rfl
  have hlt1 : ∀ i, i < F.n → F.lt i = (ldF g).lt i := fun i hi => by
    have hi : i < 3 * ldP g := hi
    show cnV (fun c => g (sbL (some 6) + (6 * i + c))) 6 = nbV (fun c => g (6 + 6 * i + c)) 6
    have e : (fun c => g (sbL (some 6) + (6 * i + c))) = fun c => g (6 + 6 * i + c) := funext fun c => by rw [c5', Nat.add_assoc]
    rw [e]
    exact (cn_nb (g := fun c => g (6 + 6 * i + c)) (k := 6) (by omega) fun c hc => hg _ (by omega)).1
  have hsh1 : ∀ i, i < F.m → F.sh i = (ldF g).sh i := fun i hi => by
    have hi : i < ldP g := hi
    show cnV (fun c => g (sbL (some 6) + (6 * (3 * ldP g) + (3 * i + c)))) 3 = nbV (fun c => g (6 + 18 * ldP g + 3 * i + c)) 3
    have e : (fun c => g (sbL (some 6) + (6 * (3 * ldP g) + (3 * i + c)))) = fun c => g (6 + 18 * ldP g + 3 * i + c) := funext fun c => by rw [c5']; congr 1; omega
    rw [e]
    exact (cn_nb (g := fun c => g (6 + 18 * ldP g + 3 * i + c)) (k := 3) (by omega) fun c hc => hg _ (by omega)).1
  have eM2 : fmay F = fmay (ldF g) := fmay_congr rfl rfl rfl rfl hlt1 hsh1
  have ks := k_cons (kS_ok (P := Try.prog) (f := 19) (g := nbG cfE)) (k_cons (kS_ok (P := Try.prog) (f := 18) (g := suG suE)) (k_cons (kS_ok (P := Try.prog) (f := 16) (g := fmG fmE')) k_nil))
  have ms := m_cons (mR_ok (P := Try.prog) (f := 23) (g := fun _ => bkV (g 4) (g 5) (3 * ldP g) (ldP g)) (m := fun _ => bkRows (3 * ldP g) (ldP g))) (m_cons (mFi_ok (ff := ffL)) m_nil)
  have hev := cl_ev cfE suE fmE' ffL n g (g 4) (g 5) (3 * ldP g) (ldP g)
  unfold ldZ at hev
  rw [propB_t hG, gate_pos k1, gate_pos k2, eS, es, b1, b2, c2', q1, q2, hl, eF, gate_pos (ok F), eM, eM2] at hev
  have G : ∀ {v : AV} {mem : List Row}, evG Try.prog [] [kS Try.prog 19 (nbG cfE), kS Try.prog 18 (suG suE), kS Try.prog 16 (fmG fmE')] [mR Try.prog 23 (fun _ => bkV (g 4) (g 5) (3 * ldP g) (ldP g)) (fun _ => bkRows (3 * ldP g) (ldP g)), mFi ffL] noL Try.f20 [sB n g] [] [some 1, some 2] = gout v mem → GSpec Try.prog 20 [sB n g] [] v mem := fun h =>
    gspecG (mem := []) e_nil ks ms Try.func20 (by kernel_rfl) (by kernel_rfl) noL_okN rfl (by kernel_rfl) h
  cases hs : ldS n g
  · rw [hs] at hE hev
    have hE : ldE n g = 12 := hE
    have hf : ldO n g = zF := by unfold ldO; rw [if_neg (by rw [hE]; decide)]
    rw [hf, hE]
    exact (fresh_rows (G (v := .tup [.agg flmZ, iA 12]) hev) (by rfl) (plainB _ _)).of_res fun _ _ hr => tup2_like hr fun _ => zF_like
  · rw [hs] at hE hev
    have hE : ldE n g = fmay (ldF g) := hE
    by_cases h4 : fmay (ldF g) = 0
    · rw [h4] at hE hev
      have hf : ldO n g = ldF g := by unfold ldO; rw [if_pos hE]
      rw [hf, hE]
      have hF := fresh_rows (G (v := bkV (g 4) (g 5) (3 * ldP g) (ldP g)) hev) (by
        show ownB (lR ffL g (3 * ldP g) (ldP g)) (bkV _ _ _ _) = true
        simp only [bkV, ownB, ownBL, lR, List.getElem?_cons_zero, List.getElem?_cons_succ, iA]
        rw [ble_t (show 0 + 3 * ldP g ≤ 3 * ldP g by omega), ble_t (show 0 + ldP g ≤ ldP g by omega)]
        rfl) (plainL2 _ _ _)
      have e : frzT (lR ffL g (3 * ldP g) (ldP g)) (bkV (g 4) (g 5) (3 * ldP g) (ldP g)) = fOut F 0 := by
        show AV.tup [.agg (lC ffL g (g 4) (g 5) (3 * ldP g) (ldP g)), iA 0] = AV.tup [.agg F.c, iA 0]
        rw [eF]
      rw [e] at hF
      exact hF.of_res fun _ _ hr => tup2_like hr fun _ hu => flm_like (f := F) (g := ldF g) rfl rfl rfl rfl hlt1 hsh1 hu
    · rw [beq_false_of_ne h4] at hev
      have hf : ldO n g = zF := by unfold ldO; rw [if_neg (by rw [hE]; exact h4)]
      rw [hf, hE]
      exact (fresh_rows (G (v := .tup [.agg flmZ, iA (fmay (ldF g))]) hev) (by rfl) (plainL2 _ _ _)).of_res fun _ _ hr => tup2_like hr fun _ => zF_like
theorem cload_spec (hg : ∀ i, i < n → 0 ≤ g i ∧ g i ≤ 255) : FSpec Try.prog 20 [sB n g] (fOut (ldO n g) (ldE n g)) := (cload_fresh hg).spec rfl rfl
end
end Go.Proofs.Ythplpfmglleacaa

namespace Go.Proofs.Ythplpfmglleacaa
open Go.Gv Go.RowKit Go.ChangeShapes Go.WideShapes Go.ChangeAt

def rsl (n : Nat) (hs : Nat → Int) : AV := .sl 1 n fun i => [iA (hs i)]
theorem open_num {H : Type} {enc : TypeId × Value → H} {P : Program} {w : World} {r : Reach} {b0 : Nat} {t : TypeId} {v : Value} {d : DataW H} {p : List MemPlace} {k : IntKind} (hu : P.underlying t = some (.int k)) (hk : kds P 1 t = some [.i k]) (hv : Value.okWide P w r b0 t v)
    (h : DataW.Trod enc P w 0 (fun _ => true) true t v d p) : ∃ n, rel (Env.all w) (.x (.int k n)) v ∧ (Lit.int k n).wf = true := by
  have hone : v.cells = #[v] := by
    obtain ⟨n, rfl, _⟩ := okWide_int hu hv
    rfl
  obtain ⟨fuel, hf⟩ := h
  obtain ⟨a, h1, h2⟩ := open_arg hf hk hone
  rw [fitA] at h1
  obtain ⟨n, rfl, hw⟩ := h1
  exact ⟨n, h2, hw⟩
def numOf (el : Nat → List AV) (i : Nat) : Int := match el i with
  | [.x (.int .i64 h)] => h
  | _ => 0
theorem sl_same {E : Env} {sz n : Nat} {el el' : Nat → List AV} {v : Value} (h : rel E (.sl sz n el) v) (he : ∀ i, i < n → el' i = el i) : rel E (.sl sz n el') v := by
  have h : relA _ _ _ := h
  show relA _ _ _
  rw [relA] at h ⊢
  obtain ⟨a, c, h1, h2, h3⟩ := h
  refine ⟨a, c, h1, h2, ?_⟩
  rcases h3 with h3 | ⟨b, o, cs, e, fz, h4, h5, h6, h7⟩
  · exact Or.inl h3
  · exact Or.inr ⟨b, o, cs, e, fz, h4, h5, h6, fun i hi => by rw [he i hi]; exact h7 i hi⟩
theorem fitL_single {k : Kd} {zs : List AV} (h : fitL [k] zs) : ∃ a, zs = [a] ∧ fitA k a := by
  match zs, h with
  | [a], h => exact ⟨a, rfl, (fitL_cons.1 h).1⟩
  | [], h => have := fitL_length h; simp at this
  | _ :: _ :: _, h => have := fitL_length h; simp at this
/-- A row of whole numbers that came in: as many, each a number of 64 bits. -/
theorem open_raw {H : Type} {enc : TypeId × Value → H} {P : Program} {w : World} {r : Reach} {b0 : Nat} {t e : TypeId} {v : Value} {d : DataW H} {p : List MemPlace} (hu : P.underlying t = some (.slice e)) (hk : kds P 2 t = some [.l 1 [.i .i64]]) (hv : Value.okWide P w r b0 t v)
    (h : DataW.Trod enc P w 0 (fun _ => true) true t v d p) : ∃ n hs, rel (Env.all w) (rsl n hs) v ∧ ∀ i, i < n → (Lit.int .i64 (hs i)).wf = true := by
  have hone : v.cells = #[v] := by
    obtain ⟨a, len, cap, rfl⟩ := okWide_slice hu hv
    rfl
  obtain ⟨fuel, hf⟩ := h
  obtain ⟨a, h1, h2⟩ := open_arg hf hk hone
  rw [fitA] at h1
  obtain ⟨n, el, rfl, _, hel⟩ := h1
  have key : ∀ i, i < n → el i = [iA (numOf el i)] ∧ (Lit.int .i64 (numOf el i)).wf = true := fun i hi => by
    obtain ⟨a, ha, hf⟩ := fitL_single (hel i hi)
    rw [fitA] at hf
    obtain ⟨m, rfl, hw⟩ := hf
    have e : numOf el i = m := by unfold numOf; rw [ha]
    rw [e]
    exact ⟨ha, hw⟩
  exact ⟨n, numOf el, sl_same h2 fun i hi => (key i hi).1.symm, fun i hi => (key i hi).2⟩
end Go.Proofs.Ythplpfmglleacaa

namespace Go.Proofs.Ythplpfmglleacaa
open Go.Gv Go.RowKit Go.ChangeShapes Go.WideShapes Go.ChangeAt

def u8Of (el : Nat → List AV) (i : Nat) : Int := match el i with
  | [.x (.int .u8 h)] => h
  | _ => 0
theorem u8_wf {n : Int} (h : (Lit.int .u8 n).wf = true) : 0 ≤ n ∧ n ≤ 255 := by
  simp [Lit.wf, IntKind.min, IntKind.max, IntKind.signed, IntKind.bits] at h
  omega
theorem fit_iw {a : AV} {k : IntKind} (h : fitA (.i k) a) : ∃ n, a = .x (.int k n) ∧ (Lit.int k n).wf = true := by rw [fitA] at h; exact h
/-- A row of whole numbers within something. -/
theorem fit_ints {E : Env} {a : AV} {v : Value} (h : fitA (.l 1 [.i .i64]) a) (hr : rel E a v) : ∃ n g, n ≤ maxLen ∧ (∀ i, i < n → (Lit.int .i64 (g i)).wf = true) ∧ rel E (sI n g) v := by
  rw [fitA] at h
  obtain ⟨n, el, rfl, hn, hel⟩ := h
  have key : ∀ i, i < n → el i = [iA (numOf el i)] ∧ (Lit.int .i64 (numOf el i)).wf = true := fun i hi => by
    obtain ⟨a, ha, hf⟩ := fitL_single (hel i hi)
    obtain ⟨m, rfl, hw⟩ := fit_iw hf
    have e : numOf el i = m := by unfold numOf; rw [ha]
    rw [e]
    exact ⟨ha, hw⟩
  exact ⟨n, numOf el, hn, fun i hi => (key i hi).2, sl_like hr fun i hi => (key i hi).1.symm⟩
/-- A row of bytes within something. -/
theorem fit_bytes {E : Env} {a : AV} {v : Value} (h : fitA (.l 1 [.i .u8]) a) (hr : rel E a v) : ∃ n g, n ≤ maxLen ∧ (∀ i, i < n → 0 ≤ g i ∧ g i ≤ 255) ∧ rel E (sB n g) v := by
  rw [fitA] at h
  obtain ⟨n, el, rfl, hn, hel⟩ := h
  have key : ∀ i, i < n → el i = [yA (u8Of el i)] ∧ (Lit.int .u8 (u8Of el i)).wf = true := fun i hi => by
    obtain ⟨a, ha, hf⟩ := fitL_single (hel i hi)
    obtain ⟨m, rfl, hw⟩ := fit_iw hf
    have e : u8Of el i = m := by unfold u8Of; rw [ha]
    rw [e]
    exact ⟨ha, hw⟩
  exact ⟨n, u8Of el, hn, fun i hi => u8_wf (key i hi).2, sl_like hr fun i hi => (key i hi).1.symm⟩
/-- A row of bytes that came in. -/
theorem open_bytes {H : Type} {enc : TypeId × Value → H} {P : Program} {w : World} {r : Reach} {b0 : Nat} {t e : TypeId} {v : Value} {d : DataW H} {p : List MemPlace} (hu : P.underlying t = some (.slice e)) (hk : kds P 2 t = some [.l 1 [.i .u8]]) (hv : Value.okWide P w r b0 t v)
    (h : DataW.Trod enc P w 0 (fun _ => true) true t v d p) : ∃ n g, n ≤ maxLen ∧ (∀ i, i < n → 0 ≤ g i ∧ g i ≤ 255) ∧ rel (Env.all w) (sB n g) v := by
  have hone : v.cells = #[v] := by
    obtain ⟨a, len, cap, rfl⟩ := okWide_slice hu hv
    rfl
  obtain ⟨fuel, hf⟩ := h
  obtain ⟨a, h1, h2⟩ := open_arg hf hk hone
  exact fit_bytes h1 h2
/-- Four cells, one behind the other. -/
theorem fitL_n3 {k0 k1 k2 : Kd} {zs : List AV} (h : fitL [k0, k1, k2] zs) : ∃ x y z, zs = [x, y, z] ∧ fitA k0 x ∧ fitA k1 y ∧ fitA k2 z := by
  match zs, h with
  | [x, y, z], h =>
    simp only [fitL_cons] at h
    exact ⟨x, y, z, rfl, h.1, h.2.1, h.2.2.1⟩
  | [], h => have := fitL_length h; simp at this
  | [_], h => have := fitL_length h; simp at this
  | [_, _], h => have := fitL_length h; simp at this
  | _ :: _ :: _ :: _ :: _, h => have := fitL_length h; simp at this
theorem fitL_n4 {k0 k1 k2 k3 : Kd} {zs : List AV} (h : fitL [k0, k1, k2, k3] zs) : ∃ x y z u, zs = [x, y, z, u] ∧ fitA k0 x ∧ fitA k1 y ∧ fitA k2 z ∧ fitA k3 u := by
  match zs, h with
  | [x, y, z, u], h =>
    simp only [fitL_cons] at h
    exact ⟨x, y, z, u, rfl, h.1, h.2.1, h.2.2.1, h.2.2.2.1⟩
  | [], h => have := fitL_length h; simp at this
  | [_], h => have := fitL_length h; simp at this
  | [_, _], h => have := fitL_length h; simp at this
  | [_, _, _], h => have := fitL_length h; simp at this
  | _ :: _ :: _ :: _ :: _ :: _, h => have := fitL_length h; simp at this
def l3A (l : Nat → Int) : List AV := [iA (l 0), iA (l 1), iA (l 2)]
/-- Three whole numbers. -/
theorem three_arg {E : Env} {zs : List AV} {v : Value} (h : fitL [.i .i64, .i .i64, .i .i64] zs) (hr : rel E (.agg zs) v) : ∃ l : Nat → Int, (∀ i, i < 3 → (Lit.int .i64 (l i)).wf = true) ∧ rel E (.agg (l3A l)) v := by
  obtain ⟨x, y, z, rfl, h0, h1, h2⟩ := fitL_n3 h
  obtain ⟨a, rfl, wa⟩ := fit_iw h0
  obtain ⟨b, rfl, wb⟩ := fit_iw h1
  obtain ⟨c, rfl, wc⟩ := fit_iw h2
  refine ⟨fun i => [a, b, c].getD i 0, fun i hi => ?_, hr⟩
  match i, hi with
  | 0, _ => exact wa
  | 1, _ => exact wb
  | 2, _ => exact wc
end Go.Proofs.Ythplpfmglleacaa

namespace Go.Proofs.Ythplpfmglleacaa
open Go.Gv

/-! ### Pick -/
def pk0 (c : Int) : Int := cond (decide (c < 0)) (w64 (0 - w64 (c + 1))) c
def pk (c n : Int) : Int := (pk0 c).tmod n
theorem pick_ev (c n : Int) : ev Try.prog [] [] noL Try.f4 [iA c, iA n] ret = cond (decide (c < 0)) (cond ((!(n == 0)) && true) (some (Out.of (iA ((w64 (0 - w64 (c + 1))).tmod n)))) none) (cond ((!(n == 0)) && true) (some (Out.of (iA (c.tmod n)))) none) := by kernel_rfl
theorem pick_spec {c n : Int} (hn : (!(n == 0)) = true) : FSpec Try.prog 4 [iA c, iA n] (iA (pk c n)) := by
  refine gspec e_nil k_nil Try.func4 (by kernel_rfl) (by kernel_rfl) noL_ok rfl ?_
  rw [pick_ev, hn]
  unfold pk pk0
  cases decide (c < 0) <;> rfl
def pkC : List AV → Bool
  | [.x (.int .i64 _), .x (.int .i64 n)] => !(n == 0)
  | _ => false
def pkG (pf : Int → Int → Int) : List AV → AV
  | [.x (.int .i64 c), .x (.int .i64 n)] => iA (pf c n)
  | _ => .any
def kPick (pf : Int → Int → Int) : KEntry := kIf 4 pkC (pkG pf)
theorem kPick_ok : KOk Try.prog (kPick pk) := kIf_ok fun args h => by
  unfold pkC at h
  split at h
  · exact pick_spec h
  · cases h
theorem pk_nat {c : Int} {n : Nat} (hc : (Lit.int .i64 c).wf = true) (hn : 0 < n) : ∃ k : Nat, pk c n = k ∧ k < n := by
  have h0 : ∃ m : Nat, pk0 c = m := by
    have hr : -9223372036854775808 ≤ c ∧ c ≤ 9223372036854775807 := by
      simp [Lit.wf, IntKind.min, IntKind.max, IntKind.signed, IntKind.bits] at hc
      omega
    unfold pk0
    by_cases h : c < 0
    · rw [decide_eq_true h]
      simp only [cond_true]
      rw [w64_id (n := c + 1) (by omega) (by omega), w64_id (by omega) (by omega)]
      exact ⟨(0 - (c + 1)).toNat, by omega⟩
    · rw [decide_eq_false h]
      exact ⟨c.toNat, by simp only [cond_false]; omega⟩
  obtain ⟨m, hm⟩ := h0
  refine ⟨m % n, ?_, Nat.mod_lt _ hn⟩
  unfold pk
  rw [hm, ← Int.ofNat_tmod]
/-! ### Raw -/
def rawV (n : Nat) (hs : Nat → Int) (k : Int) : Int := cond ((n : Int) == 0) 0 (hs (k.tmod n).toNat)
theorem raw_ev (n : Nat) (hs : Nat → Int) (k : Int) : ev Try.prog [] [] noL Try.f6 [rsl n hs, iA k] ret =
    cond ((n : Int) == 0) (some (Out.of (iA 0))) (cond ((!((n : Int) == 0)) && true) (cond ((decide (0 ≤ k.tmod n) && decide (k.tmod n < (n : Int))) && true) (some (Out.of (iA (hs (k.tmod n).toNat)))) none) none) := by kernel_rfl
theorem raw_spec {n : Nat} {hs : Nat → Int} {k : Int} (hk : 0 ≤ k) : FSpec Try.prog 6 [rsl n hs, iA k] (iA (rawV n hs k)) := by
  refine gspec e_nil k_nil Try.func6 (by kernel_rfl) (by kernel_rfl) noL_ok rfl ((raw_ev n hs k).trans ?_)
  unfold rawV
  by_cases h : n = 0
  · subst h; rfl
  · have e1 : ((n : Int) == 0) = false := beq_false_of_ne (by omega)
    obtain ⟨m, rfl⟩ : ∃ m : Nat, k = m := ⟨k.toNat, by omega⟩
    have e2 : Int.tmod (m : Int) (n : Int) = ((m % n : Nat) : Int) := (Int.ofNat_tmod m n).symm
    have hlt : m % n < n := Nat.mod_lt _ (by omega)
    rw [e1, e2, dec_nonneg, dec_lt hlt]
    rfl
def rawC : List AV → Bool
  | [_, .x (.int .i64 k)] => decide (0 ≤ k)
  | _ => false
def rawG (rv : Int → Int) : List AV → AV
  | [_, .x (.int .i64 k)] => iA (rv k)
  | _ => .any
noncomputable def kRaw (n : Nat) (hs : Nat → Int) (rv : Int → Int) : KEntry := kIfP 6 (fun args => args.head? = some (rsl n hs)) rawC (rawG rv)
theorem kRaw_ok (n : Nat) (hs : Nat → Int) : KOk Try.prog (kRaw n hs (rawV n hs)) := kIfP_ok fun args hp h => by
  unfold rawC at h
  split at h
  · simp only [List.head?_cons, Option.some.injEq] at hp
    subst hp
    exact raw_spec (of_decide_eq_true h)
  · cases h
end Go.Proofs.Ythplpfmglleacaa

namespace Go.Proofs.Ythplpfmglleacaa
open Go.Gv

def foS (n : Nat) (hs : Nat → Int) (w h i : Int) (m k : Nat) (el el' : Nat → List AV) : St := mkS 49 [(0, rsl n hs), (1, iA w), (2, iA h), (6, .own 0 0), (7, .own 1 0), (8, iA i)] [.c flmZ, .c [iA w, iA h, .osl 2 1 0 m, .osl 3 1 0 k], .a 3 1 m el, .a 3 1 k el']
def keepFo : List Nat := [0, 1, 2, 6, 7, 8]
def foT : List (Option Nat) := [some 0, some 1, some 2, some 3]
def foTn : List (Option Nat) := [some 0, some 1, some 9, some 11]
def apI (el : Nat → List AV) (m : Nat) (v : Int) : Nat → List AV := fun q => mixL (Nat.blt q m) (el q) [iA v]
def poK (i c : Int) : Int := w64 (w64 (4 * i) + c)
section
variable (n : Nat) (hs : Nat → Int) (pf : Int → Int → Int) (rv : Int → Int) (w h i : Int) (m k : Nat) (el el' : Nat → List AV)
def foN (c : Int) : Int := pf (w64 (rv (poK i c) * 4099)) 300000
def foC : Int := pf (rv (poK i 3)) 6
noncomputable def poG (c : Int) (o : Option Out) : Option Out := gate (some (rsl n hs) = some (rsl n hs)) (cond (decide (0 ≤ poK i c)) o none)
def aCi (m : Nat) : Bool := (apB m 8 || false) && true
theorem fo_step : evC Try.prog [] [kRaw n hs rv, kPick pf] noL (loopAt Try.f5 0) (foS n hs w h i m k el el') (finN keepFo foTn) =
    cond (decide (i < w64 (w * h))) (poG n hs i 0 (cond (aCi m) (poG n hs i 1 (cond (aCi (m + 1)) (poG n hs i 2 (cond (aCi (m + 2)) (poG n hs i 3 (cond (aCi k)
      (some ⟨.normal, foS n hs w h (w64 (i + 1)) (m + 3) (k + 1) (apI (apI (apI el m (foN pf rv i 0)) (m + 1) (foN pf rv i 1)) (m + 2) (foN pf rv i 2)) (apI el' k (foC pf rv i)), .any⟩) none)) none)) none)) none)) none := by kernel_rfl
theorem fo_end : evC Try.prog [] [⟨6, fun _ _ => none⟩, kPick pf] noL (loopAt Try.f5 0) (foS n hs w h i m k el el') (finE keepFo foT) =
    cond (decide (i < w64 (w * h))) none (some ⟨.exit 0, foS n hs w h i m k el el', .any⟩) := by kernel_rfl
end
def flt (n : Nat) (hs : Nat → Int) (q : Nat) : Int := foN pk (rawV n hs) (q / 3 : Nat) (q % 3 : Nat)
def fsh (n : Nat) (hs : Nat → Int) (q : Nat) : Int := foC pk (rawV n hs) (q : Nat)
theorem flt_c (n : Nat) (hs : Nat → Int) {i c : Nat} (h : c < 3) : flt n hs (3 * i + c) = foN pk (rawV n hs) (i : Nat) (c : Nat) := by
  unfold flt
  rw [show (3 * i + c) % 3 = c by omega, show (3 * i + c) / 3 = i by omega]
theorem poK_ok {i c : Nat} (hi : i ≤ 100000) (hc : c < 4) : decide (0 ≤ poK (i : Nat) (c : Nat)) = true := by
  unfold poK
  rw [w64_id (n := 4 * _) (by omega) (by omega), w64_id (by omega) (by omega)]
  exact decide_eq_true (by omega)
theorem aCi_ok {m : Nat} (h : m ≤ 1000000) : aCi m = true := by
  unfold aCi
  rw [apB_t (by omega)]
  rfl
theorem poG_pos {n : Nat} {hs : Nat → Int} {i c : Nat} {o : Option Out} (hi : i ≤ 100000) (hc : c < 4) : poG n hs (i : Nat) (c : Nat) o = o := by
  unfold poG
  rw [gate_pos rfl, poK_ok hi hc, cond_true]
theorem apI_at {el : Nat → List AV} {m : Nat} {v : Int} {g : Nat → Int} (he : ∃ G : Nat → Int, (∀ q, el q = [iA (G q)]) ∧ ∀ q, q < m → G q = g q) (hg : g m = v) : ∃ G : Nat → Int, (∀ q, apI el m v q = [iA (G q)]) ∧ ∀ q, q < m + 1 → G q = g q := by
  obtain ⟨G, h1, h2⟩ := he
  refine ⟨fun q => cond (Nat.blt q m) (G q) v, fun q => ?_, fun q hq => ?_⟩
  · unfold apI
    rw [h1, mixI]
  · show cond (Nat.blt q m) (G q) v = g q
    cases hlt : Nat.blt q m
    · have hge := not_blt hlt
      have : q = m := by omega
      subst this
      exact hg.symm
    · exact h2 q (lt_of_blt hlt)
theorem fo_leads (n : Nat) (hs : Nat → Int) {wd ht : Nat} (hw : wd ≤ 64) (hh : ht ≤ 64) :
    Leads Try.prog (.loop (loopAt Try.f5 0)) (foS n hs (wd : Nat) (ht : Nat) 0 0 0 (fun q => [iA (flt n hs q)]) fun q => [iA (fsh n hs q)]) (.exit 0) (foS n hs (wd : Nat) (ht : Nat) (wd * ht : Nat) (3 * (wd * ht)) (wd * ht) (fun q => [iA (flt n hs q)]) fun q => [iA (fsh n hs q)]) := by
  have hn : wd * ht ≤ 64 * 64 := Nat.mul_le_mul hw hh
  have em : w64 ((wd : Int) * (ht : Int)) = ((wd * ht : Nat) : Int) := by rw [← Int.natCast_mul, w64_id (by omega) (by omega)]
  refine loop_rule (fun i => foS n hs (wd : Nat) (ht : Nat) (i : Nat) (3 * i) i (fun q => [iA (flt n hs q)]) fun q => [iA (fsh n hs q)]) (wd * ht) (.exit 0) _ (by simp) (fun i hi => ?_) ?_
  · have st := fo_step n hs pk (rawV n hs) (wd : Nat) (ht : Nat) (i : Nat) (3 * i) i (fun q => [iA (flt n hs q)]) fun q => [iA (fsh n hs q)]
    rw [em, dec_lt hi, aCi_ok (by omega), aCi_ok (by omega), aCi_ok (by omega), aCi_ok (by omega)] at st
    simp only [cond_true] at st
    have g3 : ∀ o, poG n hs (i : Nat) 3 o = o := fun o => poG_pos (c := 3) (by omega) (by omega)
    have g0 : ∀ o, poG n hs (i : Nat) 0 o = o := fun o => poG_pos (c := 0) (by omega) (by omega)
    have g1 : ∀ o, poG n hs (i : Nat) 1 o = o := fun o => poG_pos (c := 1) (by omega) (by omega)
    have g2 : ∀ o, poG n hs (i : Nat) 2 o = o := fun o => poG_pos (c := 2) (by omega) (by omega)
    rw [g3, g0, g1, g2, w64_next (by omega)] at st
    refine (leads_ev (finN_sub keepFo foTn) e_nil (k_cons (kRaw_ok n hs) (k_cons kPick_ok k_nil)) noL_ok st).sub (Sub.refl _) ?_
    refine sub_same ⟨Or.inl rfl, Or.inl rfl, Or.inr ⟨3, 1, 3 * i + 3, _, _, rfl, rfl, fun q hq => ?_⟩, Or.inr ⟨3, 1, i + 1, _, _, rfl, rfl, fun q hq => ?_⟩, trivial⟩
    · have p0 := apI_at (el := fun q => [iA (flt n hs q)]) (m := 3 * i) (v := foN pk (rawV n hs) (i : Nat) 0) (g := flt n hs) ⟨flt n hs, fun _ => rfl, fun _ _ => rfl⟩ (flt_c n hs (c := 0) (by omega))
      have p1 := apI_at p0 (v := foN pk (rawV n hs) (i : Nat) 1) (flt_c n hs (c := 1) (by omega))
      have p2 := apI_at p1 (v := foN pk (rawV n hs) (i : Nat) 2) (flt_c n hs (c := 2) (by omega))
      obtain ⟨G, h1, h2⟩ := p2
      rw [h1 q, h2 q hq]
    · have p0 := apI_at (el := fun q => [iA (fsh n hs q)]) (m := i) (v := foC pk (rawV n hs) (i : Nat)) (g := fsh n hs) ⟨fsh n hs, fun _ => rfl, fun _ _ => rfl⟩ rfl
      obtain ⟨G, h1, h2⟩ := p0
      rw [h1 q, h2 q hq]
  · refine leads_ev (finE_sub keepFo foT) e_nil (k_cons (kno_ok _) (k_cons kPick_ok k_nil)) noL_ok ((fo_end n hs pk _ _ _ _ _ _ _).trans ?_)
    rw [em, dec_self, cond_false]
noncomputable def foL (n : Nat) (hs : Nat → Int) (w h i' : Int) (m k : Nat) (g g' : Nat → Int) : Nat → Option LFun := oneL 3 (toldC keepFo 1 [(2, 2, 1), (3, 3, 1)] (.a 3 1 0 fun q => [iA (g q)]) [some 0, some 1, none, none] (foS n hs w h 0 0 0 (fun q => [iA (g q)]) fun q => [iA (g q)]) (.exit 0) (foS n hs w h i' m k (fun q => [iA (g q)]) fun q => [iA (g' q)]))
theorem fo_ev (n : Nat) (hs : Nat → Int) (w h i' : Int) (m k : Nat) (g g' : Nat → Int) : ev Try.prog [] [] (foL n hs w h i' m k g g') Try.f5 [rsl n hs, iA w, iA h] ret =
    gate (Sub (foS n hs w h 0 0 0 (fun q => [iA (g q)]) fun q => [iA (g q)]) (foS n hs w h 0 0 0 (fun q => [iA (g q)]) fun q => [iA (g q)])) (some (Out.of (.agg [iA w, iA h, .sl 1 m (fun i => [iA (g (0 + i))]), .sl 1 k fun i => [iA (g' (0 + i))]]))) := by kernel_rfl
def mflm (n : Nat) (hs : Nat → Int) (wd ht : Nat) : Flm := ⟨wd, ht, 3 * (wd * ht), flt n hs, wd * ht, fsh n hs⟩
theorem mflm_spec (n : Nat) (hs : Nat → Int) {wd ht : Nat} (hw : wd ≤ 64) (hh : ht ≤ 64) : FSpec Try.prog 5 [rsl n hs, iA (wd : Nat), iA (ht : Nat)] (.agg (mflm n hs wd ht).c) := by
  have h1 : Leads Try.prog (.loop (loopAt Try.f5 0)) (foS n hs (wd : Nat) (ht : Nat) 0 0 0 (fun q => [iA (flt n hs q)]) fun q => [iA (flt n hs q)]) (.exit 0) (foS n hs (wd : Nat) (ht : Nat) (wd * ht : Nat) (3 * (wd * ht)) (wd * ht) (fun q => [iA (flt n hs q)]) fun q => [iA (fsh n hs q)]) := by
    refine LeadsN.sub (fo_leads n hs hw hh) ?_ (Sub.refl _)
    exact sub_same ⟨Or.inl rfl, Or.inl rfl, Or.inl rfl, Or.inr ⟨3, 1, 0, _, _, rfl, rfl, fun q hq => absurd hq (Nat.not_lt_zero q)⟩, trivial⟩
  have hL := lok_hd (c := bodyOf Try.f5) (i := 3) 1 (by kernel_rfl) (by kernel_rfl) (toldC_sound (keep := keepFo) (r0 := 1) (nils := [(2, 2, 1), (3, 3, 1)]) (nr := .a 3 1 0 fun q => [iA (flt n hs q)]) (τ := [some 0, some 1, none, none]) h1)
  refine gspec e_nil k_nil Try.func5 (by kernel_rfl) (by kernel_rfl) hL rfl ((fo_ev n hs (wd : Nat) (ht : Nat) (wd * ht : Nat) (3 * (wd * ht)) (wd * ht) (flt n hs) (fsh n hs)).trans ?_)
  have e5 : (fun i => [iA (flt n hs (0 + i))]) = fun i => [iA (flt n hs i)] := funext fun i => by rw [Nat.zero_add]
  have e6 : (fun i => [iA (fsh n hs (0 + i))]) = fun i => [iA (fsh n hs i)] := funext fun i => by rw [Nat.zero_add]
  rw [gate_pos (Sub.refl _), e5, e6]
  rfl
end Go.Proofs.Ythplpfmglleacaa

namespace Go.Proofs.Ythplpfmglleacaa
open Go.Gv

abbrev FF : Type := Nat → (Nat → List AV) → Int → Int → Flm
def ffG (ff : FF) : List AV → AV
  | [.sl _ n el, .x (.int .i64 w), .x (.int .i64 h)] => .agg (ff n el w h).c
  | _ => .any
def ffE : FF := fun n el w h => mflm n (fun i => intOf (el i)) w.toNat h.toNat
def rEl (hs : Nat → Int) : Nat → List AV := fun i => [iA (hs i)]
abbrev FOok (ff : FF) (n : Nat) (hs : Nat → Int) (w h : Int) : Prop := FSpec Try.prog 5 [rsl n hs, iA w, iA h] (.agg (ff n (rEl hs) w h).c)
theorem FOok_of (n : Nat) (hs : Nat → Int) {w h : Nat} (hw : w ≤ 64) (hh : h ≤ 64) : FOok ffE n hs (w : Nat) (h : Nat) := mflm_spec n hs hw hh
def w1 (pf : Int → Int → Int) (w : Int) (k : Int) : Int := w64 (1 + pf w k)
end Go.Proofs.Ythplpfmglleacaa

namespace Go.Proofs.Ythplpfmglleacaa
open Go.Gv

/-! ### Copies -/
def cpE (g : Nat → Int) : Nat → List AV := fun q => mixL (Nat.blt q 0) [] [yA (g (q - 0))]
def cpB (n : Nat) : Bool := ((0 == 0) && (Nat.blt 0 n && (allB n (fun _ => true) && Nat.ble ((0 + n) * 1) 140737488355328))) || false
theorem cl_evN (n : Nat) (g : Nat → Int) : evG Try.prog [] [] [] noL Try.f13 [sB n g] [] [some 1] =
    cond (Nat.blt 0 n || false) (cond (cpB n) (gout (.osl 0 1 0 (0 + n)) [.a 5 1 (0 + n) (cpE g)]) none) none := by kernel_rfl
theorem cl_ev1 (c : Nat) : evG Try.prog [] [] [] noL Try.f13 [.x (.slice none 0 c)] [] [] = gout (.x (.slice none 0 0)) [] := by kernel_rfl
theorem cl_ev2 (ad : Addr) (c : Nat) : evG Try.prog [] [] [] noL Try.f13 [.x (.slice (some ad) 0 c)] [] [some 0] = gout (.osl 0 1 0 0) [.a 5 1 0 fun _ => []] := by kernel_rfl
def byR (n : Nat) (g : Nat → Int) : List Row := [.a 5 1 n fun q => [yA (g q)]]
abbrev CPok (n : Nat) (g : Nat → Int) : Prop := GSpec Try.prog 13 [sB n g] [] (.osl 0 1 0 n) (byR n g)
theorem wd_any {A0 R : Nat → Prop} {w0 E : Env} (h : Wd A0 R w0 E []) (mem : List Row) : Wd A0 R w0 E mem := by
  have no : ∀ k p, E.O k = some p → False := fun k p hp => by have := h.dom k p.1 p.2 hp; exact Nat.not_lt_zero _ this
  exact ⟨fun k b c hb => (no k _ hb).elim, h.small, h.old, fun k b c hb => (no k _ hb).elim, fun k _ b c _ hb => (no k _ hb).elim, h.below, h.le0⟩
theorem clone_G {n : Nat} (hn : n ≤ 140737488355328) (g : Nat → Int) : CPok n g := by
  by_cases h0 : n = 0
  · subst h0
    have g1 : ∀ c, GSpec Try.prog 13 [.x (.slice none 0 c)] [] (.x (.slice none 0 0)) [] := fun c => gspecG (mem := []) e_nil k_nil m_nil Try.func13 (by kernel_rfl) (by kernel_rfl) noL_ok rfl (by kernel_rfl) (cl_ev1 c)
    have g2 : ∀ ad c, GSpec Try.prog 13 [.x (.slice (some ad) 0 c)] [] (.osl 0 1 0 0) [.a 5 1 0 fun _ => []] := fun ad c => gspecG (mem := []) e_nil k_nil m_nil Try.func13 (by kernel_rfl) (by kernel_rfl) noL_ok rfl (by kernel_rfl) (cl_ev2 ad c)
    refine ⟨(g1 0).1, fun R E cargs hp hW hg hr => ?_⟩
    obtain ⟨u, us, e1, r1, r2⟩ := rels_cons.1 hr
    obtain ⟨a, c, rfl, _, _⟩ := rel_sl.1 r1
    cases a with
    | none =>
      refine ((g1 c).2 R E cargs hp hW hg (rels_cons.2 ⟨_, us, e1, rel_x.2 rfl, r2⟩)).mono ?_
      rintro e w' ⟨v, E', he, hw, hW', hv⟩
      exact ⟨v, E', he, hw, wd_any hW' _, rel_osl.2 (Or.inl ⟨rfl, rfl, rel_x.1 hv⟩)⟩
    | some ad =>
      have g3 := (g2 ad c).of_rows (mem2 := byR 0 g) ⟨Or.inr ⟨5, 1, 0, _, _, rfl, rfl, fun q hq => absurd hq (Nat.not_lt_zero q)⟩, trivial⟩
      exact g3.2 R E cargs hp hW hg (rels_cons.2 ⟨_, us, e1, rel_x.2 rfl, r2⟩)
  · have hev := cl_evN n g
    have hb : cpB n = true := by unfold cpB; rw [blt_t (by omega), allB_true fun _ _ => rfl, ble_t (by omega)]; rfl
    rw [blt_t (by omega), hb, Nat.zero_add] at hev
    refine (gspecG (mem := []) e_nil k_nil m_nil Try.func13 (by kernel_rfl) (by kernel_rfl) noL_ok rfl (by kernel_rfl) hev).of_rows ⟨Or.inr ⟨5, 1, n, _, _, rfl, rfl, fun q hq => ?_⟩, trivial⟩
    rfl
/-! ### What is on a disk -/
theorem by_ev (n : Nat) (g : Nat → Int) : evG Try.prog [] [] [mR Try.prog 13 (fun _ => .osl 0 1 0 n) (fun _ => byR n g)] noL Try.f8 [.ref [sB n g] 0] [] [some 0] =
    cond (propB (CPok n g)) (gout (.osl 0 1 0 n) (byR n g)) none := by kernel_rfl
theorem plainY (n : Nat) (g : Nat → Int) : PlainRows (byR n g) := by
  intro k e sz c el hk i hi
  match k, hk with
  | 0, hk => cases hk; rfl
  | k + 1, hk => simp [byR] at hk
theorem bytes_fresh {n : Nat} (hn : n ≤ 140737488355328) (g : Nat → Int) : FreshSpec Try.prog 8 [.ref [sB n g] 0] (sB n g) := by
  have hev := by_ev n g
  rw [propB_t (clone_G hn g)] at hev
  have hG : GSpec Try.prog 8 [.ref [sB n g] 0] [] (.osl 0 1 0 n) (byR n g) := gspecG (mem := []) e_nil k_nil (m_cons mR_ok m_nil) Try.func8 (by kernel_rfl) (by kernel_rfl) noL_ok rfl (by kernel_rfl) hev
  have hF := fresh_rows hG (by show (Nat.beq 1 1 && Nat.ble (0 + n) n) = true; rw [Nat.zero_add, ble_t (Nat.le_refl n)]; rfl) (plainY n g)
  refine hF.of_res fun E v hv => ?_
  have hv' : rel E (.sl 1 n fun i => [yA (g (0 + i))]) v := hv
  exact sl_like hv' fun i hi => by rw [Nat.zero_add]
/-! ### Films, with their rows -/
def foV (w h : Int) (m k : Nat) : AV := .agg [iA w, iA h, .osl 0 1 0 m, .osl 1 1 0 k]
def foR (m k : Nat) (g g' : Nat → Int) : List Row := [.a 3 1 m fun q => [iA (g q)], .a 3 1 k fun q => [iA (g' q)]]
theorem fo_evG (n : Nat) (hs : Nat → Int) (w h i' : Int) (m k : Nat) (g g' : Nat → Int) : evG Try.prog [] [] [] (foL n hs w h i' m k g g') Try.f5 [rsl n hs, iA w, iA h] [] [some 2, some 3] =
    gate (Sub (foS n hs w h 0 0 0 (fun q => [iA (g q)]) fun q => [iA (g q)]) (foS n hs w h 0 0 0 (fun q => [iA (g q)]) fun q => [iA (g q)])) (gout (foV w h m k) (foR m k g g')) := by kernel_rfl
theorem mflm_G (n : Nat) (hs : Nat → Int) {wd ht : Nat} (hw : wd ≤ 64) (hh : ht ≤ 64) : GSpec Try.prog 5 [rsl n hs, iA (wd : Nat), iA (ht : Nat)] [] (foV (wd : Nat) (ht : Nat) (3 * (wd * ht)) (wd * ht)) (foR (3 * (wd * ht)) (wd * ht) (flt n hs) (fsh n hs)) := by
  have h1 : Leads Try.prog (.loop (loopAt Try.f5 0)) (foS n hs (wd : Nat) (ht : Nat) 0 0 0 (fun q => [iA (flt n hs q)]) fun q => [iA (flt n hs q)]) (.exit 0) (foS n hs (wd : Nat) (ht : Nat) (wd * ht : Nat) (3 * (wd * ht)) (wd * ht) (fun q => [iA (flt n hs q)]) fun q => [iA (fsh n hs q)]) := by
    refine LeadsN.sub (fo_leads n hs hw hh) ?_ (Sub.refl _)
    exact sub_same ⟨Or.inl rfl, Or.inl rfl, Or.inl rfl, Or.inr ⟨3, 1, 0, _, _, rfl, rfl, fun q hq => absurd hq (Nat.not_lt_zero q)⟩, trivial⟩
  have hL := lok_hd (c := bodyOf Try.f5) (i := 3) 1 (by kernel_rfl) (by kernel_rfl) (toldC_sound (keep := keepFo) (r0 := 1) (nils := [(2, 2, 1), (3, 3, 1)]) (nr := .a 3 1 0 fun q => [iA (flt n hs q)]) (τ := [some 0, some 1, none, none]) h1)
  have hev := fo_evG n hs (wd : Nat) (ht : Nat) (wd * ht : Nat) (3 * (wd * ht)) (wd * ht) (flt n hs) (fsh n hs)
  rw [gate_pos (Sub.refl _)] at hev
  exact gspecG (mem := []) e_nil k_nil m_nil Try.func5 (by kernel_rfl) (by kernel_rfl) hL rfl (by kernel_rfl) hev
end Go.Proofs.Ythplpfmglleacaa

namespace Go.Proofs.Ythplpfmglleacaa
open Go.Gv

abbrev EL : Type := Nat → List AV
def yR (c : Nat) (D : Nat → Int) : Row := .a 5 1 c fun q => [yA (D q)]
def iR (k : Nat) (S : Nat → Int) : Row := .a 3 1 k fun q => [iA (S q)]
def fR (k : Nat) (F : EL) : Row := .a 29 4 k F
/-- Rows, as they are when a film is kept in the first loop. -/
def memA (i c : Nat) (d : Row) (k : Nat) (S : Nat → Int) (F : EL) (f : Flm) (r : List Row) : List Row := [.c [.osl i 1 0 c], d, iR k S, fR k F, .dead, .dead, .c f.c] ++ r
/-- Rows, as they are when a film is kept at the end. -/
def memB (i c : Nat) (d : Row) (c0 j0 : Nat) (d0 : Row) (l f : Flm) (r : List Row) : List Row := [.c [.osl j0 1 0 c0], d0, .dead, .dead, .c [.osl i 1 0 c], d, .c l.c, .c f.c] ++ r
def f4E (n : Int) (c : Nat) (el : EL) : EL := apE (apE (apE (apE el c (bS n 24)) (c + 1) (bS n 16)) (c + 2) (bS n 8)) (c + 3) (bS n 0)
def aY4 (c : Nat) (o : Option Out) : Option Out := cond (aY c) (cond (aY (c + 1)) (cond (aY (c + 2)) (cond (aY (c + 3)) o none) none) none) none
section
variable (c k : Nat) (D : Nat → Int) (S : Nat → Int) (F : EL) (f : Flm) (n : Int) (c0 : Nat) (D0 : Nat → Int) (l : Flm)
theorem anA_ev : evG Try.prog [] [] [] noL Try.f12 [.osl 1 1 0 c, iA n, iA 4] (memA 1 c (yR c D) k S F f [.c f.c]) [some 0, some 1, some 2, some 3, some 4, some 5, some 6, some 7, some 15] =
    aY4 c (gout (.osl 8 1 0 (c + 4)) (memA 1 c .dead k S F f [.c f.c, .a 5 1 (c + 4) (f4E n c fun q => [yA (D q)])])) := by kernel_rfl
theorem anB_ev : evG Try.prog [] [] [] noL Try.f12 [.osl 5 1 0 c, iA n, iA 4] (memB 5 c (yR c D) c0 1 (yR c0 D0) l f [.c f.c]) [some 0, some 1, some 2, some 3, some 4, some 5, some 6, some 7, some 8, some 16] =
    aY4 c (gout (.osl 9 1 0 (c + 4)) (memB 5 c .dead c0 1 (yR c0 D0) l f [.c f.c, .a 5 1 (c + 4) (f4E n c fun q => [yA (D q)])])) := by kernel_rfl
variable (N : Nat) (B A : Nat → Int)
abbrev SVok (f : Flm) (N : Nat) (B : Nat → Int) : Prop := FSpec Try.prog 11 [.agg f.c] (bOut N B 0)
abbrev AAok : Prop := GSpec Try.prog 12 [.osl 1 1 0 c, iA (N : Int), iA 4] (memA 1 c (yR c D) k S F f [.c f.c]) (.osl 8 1 0 (c + 4)) (memA 1 c .dead k S F f [.c f.c, yR (c + 4) A])
abbrev ABok : Prop := GSpec Try.prog 12 [.osl 5 1 0 c, iA (N : Int), iA 4] (memB 5 c (yR c D) c0 1 (yR c0 D0) l f [.c f.c]) (.osl 9 1 0 (c + 4)) (memB 5 c .dead c0 1 (yR c0 D0) l f [.c f.c, yR (c + 4) A])
def kpB (c N : Nat) : Bool := ((c + 4 == c + 4) && (Nat.blt 0 N && (allB N (fun _ => true) && Nat.ble ((c + 4 + N) * 1) 140737488355328))) || false
def kpE (c : Nat) (A B : Nat → Int) : EL := fun q => mixL (Nat.blt q (c + 4)) [yA (A q)] [yA (B (q - (c + 4)))]
theorem kA_ev : evGW Try.prog [] [kS Try.prog 11 (fun _ => bOut N B 0)] [] [wS Try.prog 12 (fun _ _ => .osl 8 1 0 (c + 4)) (fun _ _ => memA 1 c .dead k S F f [.c f.c, yR (c + 4) A])] [] noL Try.f7 [.own 0 0, .agg f.c] (memA 1 c (yR c D) k S F f []) [some 0, some 1, some 2, some 3, some 4, some 5, some 6, some 9] =
    gate (SVok f N B) (cond (propB (AAok c k D S F f N A)) (cond (kpB c N) (gout (iA 0) (memA 7 (c + 4 + N) .dead k S F f [.a 5 1 (c + 4 + N) (kpE c A B)])) none) none) := by kernel_rfl
theorem kB_ev : evGW Try.prog [] [kS Try.prog 11 (fun _ => bOut N B 0)] [] [wS Try.prog 12 (fun _ _ => .osl 9 1 0 (c + 4)) (fun _ _ => memB 5 c .dead c0 1 (yR c0 D0) l f [.c f.c, yR (c + 4) A])] [] noL Try.f7 [.own 4 0, .agg f.c] (memB 5 c (yR c D) c0 1 (yR c0 D0) l f []) [some 0, some 1, some 2, some 3, some 4, some 5, some 6, some 7, some 10] =
    gate (SVok f N B) (cond (propB (ABok c D f c0 D0 l N A)) (cond (kpB c N) (gout (iA 0) (memB 8 (c + 4 + N) .dead c0 1 (yR c0 D0) l f [.a 5 1 (c + 4 + N) (kpE c A B)])) none) none) := by kernel_rfl
end
end Go.Proofs.Ythplpfmglleacaa

namespace Go.Proofs.Ythplpfmglleacaa
open Go.Gv

/-- A film on a disk: its length, and its bytes. -/
def frm (f : Flm) (q : Nat) : Int := if q < 4 then f4 ((svN f + 4 : Nat) : Int) q else svF f (q - 4)
def frN (f : Flm) : Nat := 4 + (svN f + 4)
/-- Bytes behind others. -/
def onD (c : Nat) (D : Nat → Int) (f : Flm) (q : Nat) : Int := if q < c then D q else frm f (q - c)
theorem f4E_eq (n : Int) (c : Nat) (D : Nat → Int) {q : Nat} (hq : q < c + 4) : f4E n c (fun q => [yA (D q)]) q = [yA (cond (Nat.blt q c) (D q) (an4 n (q - c)))] := by
  unfold f4E
  rw [apE_fun, apE_fun, apE_fun, apE_fun]
  dsimp only
  by_cases h : q < c
  · rw [blt_t h, blt_t (show q < c + 1 by omega), blt_t (show q < c + 2 by omega), blt_t (show q < c + 3 by omega)]; rfl
  · obtain ⟨j, rfl⟩ : ∃ j, q = c + j := ⟨q - c, by omega⟩
    rw [blt_no (show c ≤ c + j by omega), Nat.add_sub_cancel_left]
    have : j = 0 ∨ j = 1 ∨ j = 2 ∨ j = 3 := by omega
    rcases this with rfl | rfl | rfl | rfl
    · rw [blt_t (show c + 0 < c + 1 by omega), blt_t (show c + 0 < c + 2 by omega), blt_t (show c + 0 < c + 3 by omega)]; rfl
    · rw [blt_no (show c + 1 ≤ c + 1 by omega), blt_t (show c + 1 < c + 2 by omega), blt_t (show c + 1 < c + 3 by omega)]; rfl
    · rw [blt_no (show c + 2 ≤ c + 2 by omega), blt_t (show c + 2 < c + 3 by omega)]; rfl
    · rw [blt_no (show c + 3 ≤ c + 3 by omega)]; rfl
theorem svN_le {f : Flm} (h : fmay f = 0) : svN f ≤ 1000000 ∧ 0 < svN f := by
  have mg := mg_of h
  obtain ⟨a, b, c, d⟩ := fbad_false mg.b
  have hM2 := mulB (x := f.W) (y := f.H) (X := 64) (Y := 64) (by omega) b (by omega) d
  have hn := mg.n; have hm := mg.m
  unfold svN
  omega
/-- The bytes of what was kept. -/
def anX (n : Int) (c : Nat) (D : Nat → Int) (q : Nat) : Int := cond (Nat.blt q c) (D q) (an4 n (q - c))
theorem kp_row {f : Flm} (h : fmay f = 0) (c : Nat) (D : Nat → Int) (q : Nat) : kpE c (anX ((svN f + 4 : Nat) : Int) c D) (svF f) q = [yA (onD c D f q)] := by
  obtain ⟨h1, h2⟩ := svN_le h
  unfold kpE onD
  rw [mixY]
  by_cases hc : q < c
  · rw [blt_t (show q < c + 4 by omega), if_pos hc]
    unfold anX
    rw [blt_t hc]
    rfl
  · rw [if_neg hc]
    by_cases h4 : q < c + 4
    · rw [blt_t h4]
      unfold anX frm
      rw [blt_no (by omega), if_pos (by omega)]
      show [yA (an4 ((svN f + 4 : Nat) : Int) (q - c))] = _
      rw [an4_eq (by omega) (by omega) (by omega)]
    · rw [blt_no (by omega)]
      unfold frm
      rw [if_neg (by omega), show q - c - 4 = q - (c + 4) by omega]
      rfl
section
variable {c k : Nat} {D : Nat → Int} {S : Nat → Int} {F : EL} {f : Flm} {c0 : Nat} {D0 : Nat → Int} {l : Flm}
theorem aY4_t (hc : c + 6 ≤ 140737488355328) (o : Option Out) : aY4 c o = o := by
  unfold aY4
  rw [aY_t (by omega), aY_t (by omega), aY_t (by omega), aY_t (by omega)]
  rfl
theorem kpB_t {c N : Nat} (hN : 0 < N) (h : c + 4 + N ≤ 140737488355328) : kpB c N = true := by
  unfold kpB
  rw [BEq.rfl, blt_t hN, allB_true fun _ _ => rfl, ble_t (by omega)]
  rfl
theorem keepA (h : fmay f = 0) (hc : c ≤ 100000000) : GSpec Try.prog 7 [.own 0 0, .agg f.c] (memA 1 c (yR c D) k S F f []) (iA 0) (memA 7 (c + frN f) .dead k S F f [yR (c + frN f) (onD c D f)]) := by
  obtain ⟨h1, h2⟩ := svN_le h
  have hs : SVok f (svN f + 4) (svF f) := by
    have := csave_spec f
    rw [show savL f = svN f + 4 by unfold savL; rw [if_pos h], h] at this
    exact this
  have ha : AAok c k D S F f (svN f + 4) (anX ((svN f + 4 : Nat) : Int) c D) := by
    have hev := anA_ev c k D S F f ((svN f + 4 : Nat) : Int)
    rw [aY4_t (by omega)] at hev
    refine (gspecG (mem := memA 1 c (yR c D) k S F f [.c f.c]) e_nil k_nil m_nil Try.func12 (by kernel_rfl) (by kernel_rfl) noL_okN rfl (by kernel_rfl) hev).of_rows ⟨Or.inl rfl, Or.inl rfl, Or.inl rfl, Or.inl rfl, Or.inl rfl, Or.inl rfl, Or.inl rfl, Or.inl rfl, Or.inr ⟨5, 1, c + 4, _, _, rfl, rfl, fun q hq => ?_⟩, trivial⟩
    rw [f4E_eq _ _ _ hq]
    rfl
  have hev := kA_ev c k D S F f (svN f + 4) (svF f) (anX ((svN f + 4 : Nat) : Int) c D)
  rw [gate_pos hs, propB_t ha, kpB_t (by omega) (by omega)] at hev
  have e : c + frN f = c + 4 + (svN f + 4) := by unfold frN; omega
  rw [e]
  refine (gspecGW (mem := memA 1 c (yR c D) k S F f []) e_nil (k_cons kS_ok k_nil) m_nil (w_cons wS_ok w_nil) r_nil Try.func7 (by kernel_rfl) (by kernel_rfl) noL_okN rfl (by kernel_rfl) hev).of_rows ⟨Or.inl rfl, Or.inl rfl, Or.inl rfl, Or.inl rfl, Or.inl rfl, Or.inl rfl, Or.inl rfl, Or.inr ⟨5, 1, c + 4 + (svN f + 4), _, _, rfl, rfl, fun q hq => ?_⟩, trivial⟩
  exact (kp_row h c D q).symm
theorem keepB (h : fmay f = 0) (hc : c ≤ 100000000) : GSpec Try.prog 7 [.own 4 0, .agg f.c] (memB 5 c (yR c D) c0 1 (yR c0 D0) l f []) (iA 0) (memB 8 (c + frN f) .dead c0 1 (yR c0 D0) l f [yR (c + frN f) (onD c D f)]) := by
  obtain ⟨h1, h2⟩ := svN_le h
  have hs : SVok f (svN f + 4) (svF f) := by
    have := csave_spec f
    rw [show savL f = svN f + 4 by unfold savL; rw [if_pos h], h] at this
    exact this
  have ha : ABok c D f c0 D0 l (svN f + 4) (anX ((svN f + 4 : Nat) : Int) c D) := by
    have hev := anB_ev c D f ((svN f + 4 : Nat) : Int) c0 D0 l
    rw [aY4_t (by omega)] at hev
    refine (gspecG (mem := memB 5 c (yR c D) c0 1 (yR c0 D0) l f [.c f.c]) e_nil k_nil m_nil Try.func12 (by kernel_rfl) (by kernel_rfl) noL_okN rfl (by kernel_rfl) hev).of_rows ⟨Or.inl rfl, Or.inl rfl, Or.inl rfl, Or.inl rfl, Or.inl rfl, Or.inl rfl, Or.inl rfl, Or.inl rfl, Or.inl rfl, Or.inr ⟨5, 1, c + 4, _, _, rfl, rfl, fun q hq => ?_⟩, trivial⟩
    rw [f4E_eq _ _ _ hq]
    rfl
  have hev := kB_ev c D f c0 D0 l (svN f + 4) (svF f) (anX ((svN f + 4 : Nat) : Int) c D)
  rw [gate_pos hs, propB_t ha, kpB_t (by omega) (by omega)] at hev
  have e : c + frN f = c + 4 + (svN f + 4) := by unfold frN; omega
  rw [e]
  refine (gspecGW (mem := memB 5 c (yR c D) c0 1 (yR c0 D0) l f []) e_nil (k_cons kS_ok k_nil) m_nil (w_cons wS_ok w_nil) r_nil Try.func7 (by kernel_rfl) (by kernel_rfl) noL_okN rfl (by kernel_rfl) hev).of_rows ⟨Or.inl rfl, Or.inl rfl, Or.inl rfl, Or.inl rfl, Or.inl rfl, Or.inl rfl, Or.inl rfl, Or.inl rfl, Or.inr ⟨5, 1, c + 4 + (svN f + 4), _, _, rfl, rfl, fun q hq => ?_⟩, trivial⟩
  exact (kp_row h c D q).symm
end
/-! ### The film with which a disk begins -/
abbrev NFn : Type := Nat → EL → Int
def lnG (lf : Nat → EL → Flm) (le : NFn) : List AV → AV
  | [.sl _ n el] => fOut (lf n el) (le n el)
  | _ => .any
section
variable (nf : NFn) (lf : Nat → EL → Flm) (le : NFn) (n : Nat) (g : Nat → Int)
def fstBad : Option Out := some (Out.of (.tup [.agg flmZ, iA 0, bA false]))
def fstL (n : Nat) : Nat := sbN (some 4) none n
def fstN (n : Nat) (g : Nat → Int) : Int := nf (sbN none (some 4) n) (sbE g none)
def fstM : Nat := sbN none (some (fstN nf n g)) (fstL n)
def fstE : EL := fun i => sbE g (some 4) (sbL none + i)
abbrev NUMok : Prop := FSpec Try.prog 19 [.sl 1 (sbN none (some 4) n) (sbE g none)] (iA (fstN nf n g))
abbrev LDok (m : Nat) (el : EL) : Prop := FSpec Try.prog 20 [.sl 1 m el] (fOut (lf m el) (le m el))
theorem ff_ev : ev Try.prog [] [kS Try.prog 19 (nbG nf), kS Try.prog 20 (lnG lf le)] noL Try.f14 [sB n g] ret =
    cond (decide ((n : Int) < 4)) fstBad (cond (sbB none (some 4) none n || false) (gate (NUMok nf n g) (cond (sbB (some 4) none none n || false) (cond (decide (fstN nf n g > (fstL n : Int))) fstBad (cond (sbB none (some (fstN nf n g)) none (fstL n) || false) (gate (LDok lf le (fstM nf n g) (fstE g))
      (cond (!(le (fstM nf n g) (fstE g) == 0)) fstBad (some (Out.of (.tup [.agg (lf (fstM nf n g) (fstE g)).c, iA (w64 (4 + fstN nf n g)), bA true]))))) none)) none)) none) := by kernel_rfl
end
end Go.Proofs.Ythplpfmglleacaa

namespace Go.Proofs.Ythplpfmglleacaa
open Go.Gv

theorem load_sv {f : Flm} (h : fmay f = 0) : FSpec Try.prog 20 [sB (svN f + 4) (svF f)] (fOut f 0) := by
  obtain ⟨e0, hW, hH, hn, hm, hl, hs⟩ := saved_back h
  have h1 := cload_spec (n := svN f + 4) (g := svF f) fun i _ => svF_rng i
  have eO : ldO (svN f + 4) (svF f) = ldF (svF f) := by unfold ldO; rw [if_pos e0]
  rw [eO, e0] at h1
  exact FSpec.of_res h1 fun E v hv => tup2_like hv fun u hu => flm_like hW hH hn hm (fun i hi => hl i (by rw [← hn]; exact hi)) (fun i hi => hs i (by rw [← hm]; exact hi)) hu
theorem arg_like {f n : Nat} {el el' : EL} {r : AV} (h : FSpec Try.prog f [.sl 1 n el] r) (he : ∀ i, i < n → el i = el' i) : FSpec Try.prog f [.sl 1 n el'] r := FSpec.of_args h fun E vs hr => by
  obtain ⟨u0, t0, e0, r0, hr⟩ := rels_cons.1 hr
  exact rels_cons.2 ⟨u0, t0, e0, sl_like r0 he, hr⟩
theorem frN_eq (f : Flm) : frN f = svN f + 8 := by unfold frN; omega
section
variable {f : Flm} {n : Nat} {g : Nat → Int}
theorem sb_to {k n : Nat} (h : k ≤ n) : sbB none (some (k : Int)) none n = true ∧ sbN none (some (k : Int)) n = k := by
  refine ⟨?_, ?_⟩
  · unfold sbB
    simp only [Option.getD_some, Option.getD_none]
    rw [decide_eq_true (Int.le_refl _), decide_eq_true (show (0 : Int) ≤ (k : Int) by omega), decide_eq_true (show (k : Int) ≤ (n : Int) by omega), decide_eq_true (Int.le_refl _)]
    rfl
  · unfold sbN
    simp only [Option.getD_some, Option.getD_none]
    omega
theorem sb_from {k n : Nat} (h : k ≤ n) : sbB (some (k : Int)) none none n = true ∧ sbN (some (k : Int)) none n = n - k ∧ sbL (some (k : Int)) = k := by
  refine ⟨?_, ?_, ?_⟩
  · unfold sbB
    simp only [Option.getD_some, Option.getD_none]
    rw [decide_eq_true (show (0 : Int) ≤ (k : Int) by omega), decide_eq_true (show (k : Int) ≤ (n : Int) by omega), decide_eq_true (Int.le_refl _)]
    rfl
  · unfold sbN
    simp only [Option.getD_some, Option.getD_none]
    omega
  · unfold sbL
    simp only [Option.getD_some]
    omega
theorem num_of (h : fmay f = 0) (hn : 4 ≤ n) (hg : ∀ q, q < 4 → g q = frm f q) : NUMok (fun _ _ => ((svN f + 4 : Nat) : Int)) n g := by
  obtain ⟨h1, h2⟩ := svN_le h
  obtain ⟨s1, s2⟩ := sb_to (k := 4) hn
  have e4 : ∀ c, c < 4 → g c = f4 ((svN f + 4 : Nat) : Int) c := fun c hc => by rw [hg c hc]; unfold frm; rw [if_pos hc]
  have hr : ∀ i, i < 4 → 0 ≤ g i ∧ g i ≤ 255 := fun i hi => by rw [e4 i hi]; exact byF_rng _ _ _
  have hv : cnV g 4 = ((svN f + 4 : Nat) : Int) := by rw [(cn_nb (g := g) (k := 4) (by omega) hr).1]; exact nb4 (by omega) (by omega) e4
  have h3 := cn_spec (n := 4) (by omega) g
  rw [hv] at h3
  show FSpec Try.prog 19 [.sl 1 (sbN none (some ((4 : Nat) : Int)) n) (sbE g none)] (iA ((svN f + 4 : Nat) : Int))
  rw [s2]
  refine arg_like h3 fun i hi => ?_
  show [yA (g i)] = [yA (g (0 + i))]
  rw [Nat.zero_add]
/-- A film that is whole. -/
theorem ff_whole (h : fmay f = 0) (hn : frN f ≤ n) (hn2 : n ≤ 1000000000) (hg : ∀ q, q < frN f → g q = frm f q) : FSpec Try.prog 14 [sB n g] (.tup [.agg f.c, iA ((frN f : Nat) : Int), bA true]) := by
  obtain ⟨h1, h2⟩ := svN_le h
  rw [frN_eq] at hn hg
  obtain ⟨s1, s2⟩ := sb_to (k := 4) (n := n) (by omega)
  obtain ⟨t1, t2, t3⟩ := sb_from (k := 4) (n := n) (by omega)
  have eL : fstL n = n - 4 := t2
  obtain ⟨u1, u2⟩ := sb_to (k := svN f + 4) (n := n - 4) (by omega)
  have hnum := num_of (n := n) (g := g) h (by omega) (fun q hq => hg q (by omega))
  have hl : LDok (fun _ _ => f) (fun _ _ => 0) (fstM (fun _ _ => ((svN f + 4 : Nat) : Int)) n g) (fstE g) := by
    have eM : fstM (fun _ _ => ((svN f + 4 : Nat) : Int)) n g = svN f + 4 := by unfold fstM fstN; rw [eL]; exact u2
    show FSpec Try.prog 20 [.sl 1 (fstM (fun _ _ => ((svN f + 4 : Nat) : Int)) n g) (fstE g)] (fOut f 0)
    rw [eM]
    refine arg_like (load_sv h) fun i hi => ?_
    show [yA (svF f i)] = [yA (g (sbL (some ((4 : Nat) : Int)) + (0 + i)))]
    rw [t3, Nat.zero_add, hg (4 + i) (by omega)]
    unfold frm
    rw [if_neg (by omega), show 4 + i - 4 = i by omega]
  refine gspec e_nil (k_cons kS_ok (k_cons kS_ok k_nil)) Try.func14 (by kernel_rfl) (by kernel_rfl) noL_ok rfl ((ff_ev (fun _ _ => ((svN f + 4 : Nat) : Int)) (fun _ _ => f) (fun _ _ => 0) n g).trans ?_)
  have eN : fstN (fun _ _ => ((svN f + 4 : Nat) : Int)) n g = ((svN f + 4 : Nat) : Int) := rfl
  rw [gate_pos hnum, gate_pos hl, eN, eL, decide_eq_false (show ¬ (n : Int) < 4 by omega), show sbB none (some 4) none n = true from s1, show sbB (some 4) none none n = true from t1, u1, decide_eq_false (show ¬ ((svN f + 4 : Nat) : Int) > ((n - 4 : Nat) : Int) by omega), w64_id (by omega) (by omega), frN_eq]
  show some (Out.of (.tup [.agg f.c, iA (4 + ((svN f + 4 : Nat) : Int)), bA true])) = some (Out.of (.tup [.agg f.c, iA ((svN f + 8 : Nat) : Int), bA true]))
  rw [show (4 : Int) + ((svN f + 4 : Nat) : Int) = ((svN f + 8 : Nat) : Int) by omega]
/-- None that is whole. -/
def fstZ : AV := .tup [.agg flmZ, iA 0, bA false]
theorem ff_cut (hc : n < 4 ∨ ∃ f, fmay f = 0 ∧ 4 ≤ n ∧ n < frN f ∧ ∀ q, q < 4 → g q = frm f q) : FSpec Try.prog 14 [sB n g] fstZ := by
  rcases hc with hn | ⟨f, h, hn, hn2, hg⟩
  · refine gspec e_nil (k_cons kS_ok (k_cons kS_ok k_nil)) Try.func14 (by kernel_rfl) (by kernel_rfl) noL_ok rfl ((ff_ev (fun _ _ => 0) (fun _ _ => zF) (fun _ _ => 0) n g).trans ?_)
    rw [decide_eq_true (show (n : Int) < 4 by omega)]
    rfl
  · obtain ⟨h1, h2⟩ := svN_le h
    rw [frN_eq] at hn2
    obtain ⟨s1, s2⟩ := sb_to (k := 4) (n := n) (by omega)
    obtain ⟨t1, t2, t3⟩ := sb_from (k := 4) (n := n) (by omega)
    have eL : fstL n = n - 4 := t2
    have hnum := num_of (n := n) (g := g) h hn hg
    have eN : fstN (fun _ _ => ((svN f + 4 : Nat) : Int)) n g = ((svN f + 4 : Nat) : Int) := rfl
    refine gspec e_nil (k_cons kS_ok (k_cons kS_ok k_nil)) Try.func14 (by kernel_rfl) (by kernel_rfl) noL_ok rfl ((ff_ev (fun _ _ => ((svN f + 4 : Nat) : Int)) (fun _ _ => f) (fun _ _ => 0) n g).trans ?_)
    rw [gate_pos hnum, eN, eL, decide_eq_false (show ¬ (n : Int) < 4 by omega), show sbB none (some 4) none n = true from s1, show sbB (some 4) none none n = true from t1, decide_eq_true (show ((svN f + 4 : Nat) : Int) > ((n - 4 : Nat) : Int) by omega)]
    rfl
end
/-! ### What is left of a disk -/
def wkS (n : Nat) (g : Nat → Int) (cl : List AV) (ok : Bool) (e : Int) : St := mkS 31 [(0, sB n g), (3, .own 0 0), (4, bA ok), (5, iA e)] [.c cl]
def keepWk : List Nat := [0, 3, 4, 5]
section
variable (n : Nat) (g : Nat → Int) (l : Flm) (ok : Bool) (e : Int) (f : Flm) (z : Int) (m : Nat) (G : Nat → Int)
abbrev FFok (e : Int) (r : AV) : Prop := FSpec Try.prog 14 [.sl 1 (sbN (some e) none n) (sbE g (some e))] r
theorem wk_stepZ : evC Try.prog [] [kS Try.prog 14 (fun _ => .tup [.agg f.c, iA z, bA true])] noL (loopAt Try.f9 0) (wkS n g flmZ ok e) (finN keepWk [some 0]) =
    cond (sbB (some e) none none n || false) (gate (FFok n g e (.tup [.agg f.c, iA z, bA true])) (some ⟨.normal, wkS n g f.c true (w64 (e + z)), .any⟩)) none := by kernel_rfl
theorem wk_stepF : evC Try.prog [] [kS Try.prog 14 (fun _ => .tup [.agg f.c, iA z, bA true])] noL (loopAt Try.f9 0) (wkS n g l.c ok e) (finN keepWk [some 0]) =
    cond (sbB (some e) none none n || false) (gate (FFok n g e (.tup [.agg f.c, iA z, bA true])) (some ⟨.normal, wkS n g f.c true (w64 (e + z)), .any⟩)) none := by kernel_rfl
theorem wk_endZ : evC Try.prog [] [kS Try.prog 14 (fun _ => fstZ)] noL (loopAt Try.f9 0) (wkS n g flmZ ok e) (finE keepWk [some 0]) =
    cond (sbB (some e) none none n || false) (gate (FFok n g e fstZ) (some ⟨.exit 0, wkS n g flmZ ok e, .any⟩)) none := by kernel_rfl
theorem wk_endF : evC Try.prog [] [kS Try.prog 14 (fun _ => fstZ)] noL (loopAt Try.f9 0) (wkS n g l.c ok e) (finE keepWk [some 0]) =
    cond (sbB (some e) none none n || false) (gate (FFok n g e fstZ) (some ⟨.exit 0, wkS n g l.c ok e, .any⟩)) none := by kernel_rfl
abbrev CPe (m : Nat) (G : Nat → Int) : Prop := GSpec Try.prog 13 [.sl 1 (sbN none (some e) n) (sbE g none)] [] (.osl 0 1 0 m) (byR m G)
noncomputable def wakeO (cl : List AV) : Option Out := gate (Sub (wkS n g flmZ false 0) (wkS n g flmZ false 0)) (cond ((sbB none (some e) none n || false) && ((propB (CPe n g e m G) || false) && true)) (gout (.tup [.own 0 0, .agg cl, bA ok]) [.c [.osl 1 1 0 m], yR m G]) none)
theorem wake_evZ : evG Try.prog [] [] [mR Try.prog 13 (fun _ => .osl 0 1 0 m) (fun _ => byR m G)] (oneL 2 (toldF keepWk [some 0] (wkS n g flmZ false 0) (.exit 0) (wkS n g flmZ ok e))) Try.f9 [sB n g] [] [some 2, some 1] = wakeO n g ok e m G flmZ := by kernel_rfl
theorem wake_evF : evG Try.prog [] [] [mR Try.prog 13 (fun _ => .osl 0 1 0 m) (fun _ => byR m G)] (oneL 2 (toldF keepWk [some 0] (wkS n g flmZ false 0) (.exit 0) (wkS n g l.c ok e))) Try.f9 [sB n g] [] [some 2, some 1] = wakeO n g ok e m G l.c := by kernel_rfl
end
end Go.Proofs.Ythplpfmglleacaa
