/-
  Wc3 Wc4 Wc5 Wc6 Cf3 Wc7 Fnd Wc8 Wc9 Fcd, one behind the other.
-/
import Derived.Test.YthplpfmglleacaaM2
import Derived.Test.YthplpfmglleacaaM1
import Derived.Laws.Closers25
import Derived.Test.YthplpfmglleacaaGu
namespace Go.Proofs.Ythplpfmglleacaa
open Go.Gv

theorem blt_no {a b : Nat} (h : b ≤ a) : Nat.blt a b = false := by
  cases hb : Nat.blt a b
  · rfl
  · have : a < b := Nat.le_of_ble_eq_true hb
    omega
def anB (n s : Int) (j : Nat) : Int := cond (s == 6) (an6 n j) (cond (s == 3) (an3 n j) (an4 n j))
def anF (n s : Int) (g : Nat → Int) (c q : Nat) : Int := cond (Nat.blt q c) (g q) (anB n s (q - c))
theorem aY_t {c : Nat} (h : c < 140737488355328) : aY c = true := by unfold aY; rw [apB_t (by omega)]; rfl
abbrev ANok (n s : Int) (k : Nat) (c : Nat) (g : Nat → Int) : Prop := GSpec Try.prog 12 [.osl 0 1 0 c, iA n, iA s] [.a 5 1 c fun q => [yA (g q)]] (.osl 1 1 0 (c + k)) [.dead, .a 5 1 (c + k) fun q => [yA (anF n s g c q)]]
theorem an3_ok {c : Nat} (hc : c + 6 ≤ 140737488355328) (n : Int) (g : Nat → Int) : ANok n 3 3 c g := by
  have hev := an3_ev n c fun q => [yA (g q)]
  rw [aY_t (by omega), aY_t (by omega), aY_t (by omega), apE_fun, apE_fun, apE_fun] at hev
  refine (gspecG (mem := arR c fun q => [yA (g q)]) e_nil k_nil m_nil Try.func12 (by kernel_rfl) (by kernel_rfl) (fun _ _ _ _ _ h => by cases h) rfl (by kernel_rfl) hev).of_rows ⟨Or.inl rfl, Or.inr ⟨5, 1, c + 3, _, _, rfl, rfl, fun q hq => ?_⟩, trivial⟩
  unfold anF
  by_cases h : q < c
  · rw [blt_t h, blt_t (show q < c + 1 by omega), blt_t (show q < c + 2 by omega)]; rfl
  · obtain ⟨j, rfl⟩ : ∃ j, q = c + j := ⟨q - c, by omega⟩
    rw [blt_no (show c ≤ c + j by omega), Nat.add_sub_cancel_left]
    have : j = 0 ∨ j = 1 ∨ j = 2 := by omega
    rcases this with rfl | rfl | rfl
    · rw [blt_t (show c + 0 < c + 1 by omega), blt_t (show c + 0 < c + 2 by omega)]; rfl
    · rw [blt_no (show c + 1 ≤ c + 1 by omega), blt_t (show c + 1 < c + 2 by omega)]; rfl
    · rw [blt_no (show c + 2 ≤ c + 2 by omega)]; rfl
theorem an4_ok {c : Nat} (hc : c + 6 ≤ 140737488355328) (n : Int) (g : Nat → Int) : ANok n 4 4 c g := by
  have hev := an4_ev n c fun q => [yA (g q)]
  rw [aY_t (by omega), aY_t (by omega), aY_t (by omega), aY_t (by omega), apE_fun, apE_fun, apE_fun, apE_fun] at hev
  refine (gspecG (mem := arR c fun q => [yA (g q)]) e_nil k_nil m_nil Try.func12 (by kernel_rfl) (by kernel_rfl) (fun _ _ _ _ _ h => by cases h) rfl (by kernel_rfl) hev).of_rows ⟨Or.inl rfl, Or.inr ⟨5, 1, c + 4, _, _, rfl, rfl, fun q hq => ?_⟩, trivial⟩
  unfold anF
  by_cases h : q < c
  · rw [blt_t h, blt_t (show q < c + 1 by omega), blt_t (show q < c + 2 by omega), blt_t (show q < c + 3 by omega)]; rfl
  · obtain ⟨j, rfl⟩ : ∃ j, q = c + j := ⟨q - c, by omega⟩
    rw [blt_no (show c ≤ c + j by omega), Nat.add_sub_cancel_left]
    have : j = 0 ∨ j = 1 ∨ j = 2 ∨ j = 3 := by omega
    rcases this with rfl | rfl | rfl | rfl
    · rw [blt_t (show c + 0 < c + 1 by omega), blt_t (show c + 0 < c + 2 by omega), blt_t (show c + 0 < c + 3 by omega)]; rfl
    · rw [blt_no (show c + 1 ≤ c + 1 by omega), blt_t (show c + 1 < c + 2 by omega), blt_t (show c + 1 < c + 3 by omega)]; rfl
    · rw [blt_no (show c + 2 ≤ c + 2 by omega), blt_t (show c + 2 < c + 3 by omega)]; rfl
    · rw [blt_no (show c + 3 ≤ c + 3 by omega)]; rfl
theorem an6_ok {c : Nat} (hc : c + 6 ≤ 140737488355328) (n : Int) (g : Nat → Int) : ANok n 6 6 c g := by
  have hev := an6_ev n c fun q => [yA (g q)]
  rw [aY_t (by omega), aY_t (by omega), aY_t (by omega), aY_t (by omega), aY_t (by omega), aY_t (by omega), apE_fun, apE_fun, apE_fun, apE_fun, apE_fun, apE_fun] at hev
  refine (gspecG (mem := arR c fun q => [yA (g q)]) e_nil k_nil m_nil Try.func12 (by kernel_rfl) (by kernel_rfl) (fun _ _ _ _ _ h => by cases h) rfl (by kernel_rfl) hev).of_rows ⟨Or.inl rfl, Or.inr ⟨5, 1, c + 6, _, _, rfl, rfl, fun q hq => ?_⟩, trivial⟩
  unfold anF
  by_cases h : q < c
  · rw [blt_t h, blt_t (show q < c + 1 by omega), blt_t (show q < c + 2 by omega), blt_t (show q < c + 3 by omega), blt_t (show q < c + 4 by omega), blt_t (show q < c + 5 by omega)]; rfl
  · obtain ⟨j, rfl⟩ : ∃ j, q = c + j := ⟨q - c, by omega⟩
    rw [blt_no (show c ≤ c + j by omega), Nat.add_sub_cancel_left]
    have : j = 0 ∨ j = 1 ∨ j = 2 ∨ j = 3 ∨ j = 4 ∨ j = 5 := by omega
    rcases this with rfl | rfl | rfl | rfl | rfl | rfl
    · rw [blt_t (show c + 0 < c + 1 by omega), blt_t (show c + 0 < c + 2 by omega), blt_t (show c + 0 < c + 3 by omega), blt_t (show c + 0 < c + 4 by omega), blt_t (show c + 0 < c + 5 by omega)]; rfl
    · rw [blt_no (show c + 1 ≤ c + 1 by omega), blt_t (show c + 1 < c + 2 by omega), blt_t (show c + 1 < c + 3 by omega), blt_t (show c + 1 < c + 4 by omega), blt_t (show c + 1 < c + 5 by omega)]; rfl
    · rw [blt_no (show c + 2 ≤ c + 2 by omega), blt_t (show c + 2 < c + 3 by omega), blt_t (show c + 2 < c + 4 by omega), blt_t (show c + 2 < c + 5 by omega)]; rfl
    · rw [blt_no (show c + 3 ≤ c + 3 by omega), blt_t (show c + 3 < c + 4 by omega), blt_t (show c + 3 < c + 5 by omega)]; rfl
    · rw [blt_no (show c + 4 ≤ c + 4 by omega), blt_t (show c + 4 < c + 5 by omega)]; rfl
    · rw [blt_no (show c + 5 ≤ c + 5 by omega)]; rfl
abbrev AF : Type := Int → Int → (Nat → Int) → Nat → Nat → Int
noncomputable def anC (af : AF) : List AV → List Row → Option (Bool × AV × List Row)
  | [.osl 0 1 0 c, .x (.int .i64 n), .x (.int .i64 s)], [.a e sz m el] => some (propB (GSpec Try.prog 12 [.osl 0 1 0 c, iA n, iA s] [.a e sz m el] (.osl 1 1 0 (c + s.toNat)) [.dead, .a 5 1 (c + s.toNat) fun q => [yA (af n s (fun q => u8Of' (el q)) c q)]]), .osl 1 1 0 (c + s.toNat), [.dead, .a 5 1 (c + s.toNat) fun q => [yA (af n s (fun q => u8Of' (el q)) c q)]])
  | _, _ => none
noncomputable def mA (af : AF) : MEntry := ⟨12, liftM (some 0) (anC af), none⟩
theorem mA_ok {af : AF} : MEOk Try.prog (mA af) := by
  refine ⟨liftM_ok fun args rs v mem1 hc => ?_, fun _ h => by cases h⟩
  unfold anC at hc
  split at hc
  · simp only [Option.some.injEq, Prod.mk.injEq] at hc
    obtain ⟨h1, rfl, rfl⟩ := hc
    refine ⟨propB_of h1, fun i hi hw => ?_⟩
    have : i = 0 := by simpa using hi
    subst this
    exact absurd rfl hw
  · cases hc
/-! ### Save -/
def wsS (f : Flm) (c : Nat) (g : Nat → Int) (i : Int) : St := mkS 55 [(1, .own 0 0), (5, .osl 1 1 0 c), (30, sI f.n f.lt), (31, iA f.n), (32, iA i)] [.c f.c, .a 5 1 c fun q => [yA (g q)]]
def wtS (f : Flm) (c : Nat) (g : Nat → Int) (i : Int) : St := mkS 55 [(1, .own 0 0), (5, .osl 1 1 0 c), (41, sI f.m f.sh), (42, iA f.m), (43, iA i)] [.c f.c, .a 5 1 c fun q => [yA (g q)]]
def keepWs : List Nat := [1, 5, 30, 31, 32]
def keepWt : List Nat := [1, 5, 41, 42, 43]
abbrev ANa (af : AF) (n s : Int) (k c : Nat) (g : Nat → Int) : Prop := GSpec Try.prog 12 [.osl 0 1 0 c, iA n, iA s] [.a 5 1 c fun q => [yA (g q)]] (.osl 1 1 0 (c + k)) [.dead, .a 5 1 (c + k) fun q => [yA (af n s g c q)]]
noncomputable def anQ (p : Prop) (c : Nat) : Bool := (propB p && (Nat.blt 0 (0 + c) && true)) || false
section
variable (af : AF) (f : Flm) (c : Nat) (g : Nat → Int) (i : Int)
theorem ws_step : evCM Try.prog [] [] [mA af] noL (loopAt Try.f11 0) (wsS f c g i) (finN keepWs [some 0, some 2]) =
    cond (decide (i < f.n)) (cond (ixB i f.n || false) (cond (anQ (ANa af (f.lt i.toNat) 6 6 c g) c) (some ⟨.normal, wsS f (c + 6) (af (f.lt i.toNat) 6 g c) (w64 (i + 1)), .any⟩) none) none) none := by kernel_rfl
theorem ws_end : evCM Try.prog [] [] [mA af] noL (loopAt Try.f11 0) (wsS f c g i) (finE keepWs [some 0, some 1]) =
    cond (decide (i < f.n)) (cond (ixB i f.n || false) (cond (anQ (ANa af (f.lt i.toNat) 6 6 c g) c) none none) none) (some ⟨.exit 0, wsS f c g i, .any⟩) := by kernel_rfl
theorem wt_step : evCM Try.prog [] [] [mA af] noL (loopAt Try.f11 1) (wtS f c g i) (finN keepWt [some 0, some 2]) =
    cond (decide (i < f.m)) (cond (ixB i f.m || false) (cond (anQ (ANa af (f.sh i.toNat) 3 3 c g) c) (some ⟨.normal, wtS f (c + 3) (af (f.sh i.toNat) 3 g c) (w64 (i + 1)), .any⟩) none) none) none := by kernel_rfl
theorem wt_end : evCM Try.prog [] [] [mA af] noL (loopAt Try.f11 1) (wtS f c g i) (finE keepWt [some 0, some 1]) =
    cond (decide (i < f.m)) (cond (ixB i f.m || false) (cond (anQ (ANa af (f.sh i.toNat) 3 3 c g) c) none none) none) (some ⟨.exit 2, wtS f c g i, .any⟩) := by kernel_rfl
end
def mkT : ByteArray := { data := #[82, 72, 70, 49] }
def hdE (f : Flm) : Nat → List AV := fun q => mixL (Nat.blt q 4) (mixL (Nat.blt q 0) [yA 0] [yA (byAt mkT (q - 0))]) (spread 4 [[yA (IntKind.u8.wrap f.W)], [yA (IntKind.u8.wrap f.H)]] q)
def wsH (f : Flm) : St := mkS 55 [(1, .own 0 0), (5, .osl 1 1 0 6), (30, sI f.n f.lt), (31, iA f.n), (32, iA 0)] [.c f.c, .a 5 1 6 (hdE f)]
noncomputable def wsL (f : Flm) (N M : Nat) (g : Nat → Int) : Nat → Option LFun := twoL 8 (toldF keepWs [some 0, some 4] (wsS f 6 g 0) (.exit 0) (wsS f N g (f.n : Nat))) 13 (toldF keepWt [some 0, some 1] (wtS f N g 0) (.exit 2) (wtS f M g (f.m : Nat)))
abbrev CKok (sf : Nat → (Nat → List AV) → Int) (n : Nat) (el : Nat → List AV) : Prop := FSpec Try.prog 18 [.sl 1 n el] (iA (sf n el))
abbrev SBok (bf : Nat → Nat → Int) (f : Flm) : Prop := FSpec Try.prog 17 [.agg f.c] (iA (bf f.n f.m))
def mkY (k : Int) : Bool := (decide ((0 : Int) ≤ k) && decide (((1 : Nat) : Int) * k ≤ 281474976710656)) || false
theorem wz_ev (af : AF) (mf : MF) (bf : Nat → Nat → Int) (sf : Nat → (Nat → List AV) → Int) (f : Flm) (N M : Nat) (g : Nat → Int) : evG Try.prog [] [kS Try.prog 16 (fmG mf), kS Try.prog 17 (sbtG bf)] [mA af, mS Try.prog 18 (suG sf)] (wsL f N M g) Try.f11 [.agg f.c] [] [some 2] =
    gate (FMok 16 mf f) (cond (!(mf.of f == 0)) none (gate (SBok bf f) (cond (mkY (bf f.n f.m)) (gate (Sub (wsH f) (wsS f 6 g 0)) (gate (Sub (wtS f N g 0) (wtS f N g 0))
      (cond (ssB (CKok sf M fun i => [yA (g (0 + i))]) M) (cond (anQ (ANa af (sf M fun i => [yA (g (0 + i))]) 4 4 M g) M)
        (gout (.tup [.osl 0 1 0 (M + 4), iA 0]) [.a 5 1 (M + 4) fun q => [yA (af (sf M fun i => [yA (g (0 + i))]) 4 g M q)]]) none) none))) none))) := by kernel_rfl
theorem wz_ev0 (mf : MF) (f : Flm) : ev Try.prog [] [kS Try.prog 16 (fmG mf), ⟨17, fun _ _ => none⟩] noL Try.f11 [.agg f.c] ret =
    gate (FMok 16 mf f) (cond (!(mf.of f == 0)) (bBad (mf.of f)) none) := by kernel_rfl
end Go.Proofs.Ythplpfmglleacaa

namespace Go.Proofs.Ythplpfmglleacaa
open Go.Gv

theorem bS_eq {x d : Int} {s : Nat} (h0 : 0 ≤ x) (h1 : x ≤ 281474976710655) (hd : (2 : Int) ^ s = d) (hp : 0 < d) : bS x s = byD x d := by
  rw [byD_eq h0 h1 hp]
  unfold bS
  rw [hd, Int.fdiv_eq_ediv_of_nonneg _ (by omega), wrap_u8]
theorem an6_eq {x : Int} (h0 : 0 ≤ x) (h1 : x ≤ 281474976710655) {j : Nat} (hj : j < 6) : an6 x j = f6 x j := by
  have : j = 0 ∨ j = 1 ∨ j = 2 ∨ j = 3 ∨ j = 4 ∨ j = 5 := by omega
  rcases this with rfl | rfl | rfl | rfl | rfl | rfl
  · exact bS_eq (d := 1099511627776) h0 h1 (by decide) (by decide)
  · exact bS_eq (d := 4294967296) h0 h1 (by decide) (by decide)
  · exact bS_eq (d := 16777216) h0 h1 (by decide) (by decide)
  · exact bS_eq (d := 65536) h0 h1 (by decide) (by decide)
  · exact bS_eq (d := 256) h0 h1 (by decide) (by decide)
  · exact bS_eq (d := 1) h0 h1 (by decide) (by decide)
theorem an4_eq {x : Int} (h0 : 0 ≤ x) (h1 : x ≤ 281474976710655) {j : Nat} (hj : j < 4) : an4 x j = f4 x j := by
  have : j = 0 ∨ j = 1 ∨ j = 2 ∨ j = 3 := by omega
  rcases this with rfl | rfl | rfl | rfl
  · exact bS_eq (d := 16777216) h0 h1 (by decide) (by decide)
  · exact bS_eq (d := 65536) h0 h1 (by decide) (by decide)
  · exact bS_eq (d := 256) h0 h1 (by decide) (by decide)
  · exact bS_eq (d := 1) h0 h1 (by decide) (by decide)
theorem an3_eq {x : Int} (h0 : 0 ≤ x) (h1 : x ≤ 281474976710655) {j : Nat} (hj : j < 3) : an3 x j = f3 x j := by
  have : j = 0 ∨ j = 1 ∨ j = 2 := by omega
  rcases this with rfl | rfl | rfl
  · exact bS_eq (d := 65536) h0 h1 (by decide) (by decide)
  · exact bS_eq (d := 256) h0 h1 (by decide) (by decide)
  · exact bS_eq (d := 1) h0 h1 (by decide) (by decide)
theorem anF_same {n s : Int} {g : Nat → Int} {c k q : Nat} (hq : q < c + k) (h : ∀ j, j < k → anB n s j = g (c + j)) : anF n s g c q = g q := by
  unfold anF
  cases hb : Nat.blt q c
  · have hge := not_blt hb
    rw [cond_false, h (q - c) (by omega), show c + (q - c) = q by omega]
  · rfl
theorem anQ_t {p : Prop} {c : Nat} (h : p) (hc : 0 < c) : anQ p c = true := by unfold anQ; rw [propB_t h, blt_t (by omega)]; rfl
theorem ws_leads {f : Flm} (hn : f.n ≤ 1000000) (hl : ∀ i, i < f.n → 0 ≤ f.lt i ∧ f.lt i ≤ 1099511627776) : Leads Try.prog (.loop (loopAt Try.f11 0)) (wsS f 6 (sv0 f) 0) (.exit 0) (wsS f (6 + 6 * f.n) (sv0 f) (f.n : Nat)) := by
  refine loop_rule (fun k => wsS f (6 + 6 * k) (sv0 f) (k : Nat)) f.n (.exit 0) _ (by simp) (fun k hk => ?_) ?_
  · have st := ws_step anF f (6 + 6 * k) (sv0 f) (k : Nat)
    rw [dec_lt hk, ixB_t hk, Int.toNat_natCast, anQ_t (an6_ok (by omega) _ _) (by omega), w64_next (by omega)] at st
    obtain ⟨x0, x1⟩ := hl k hk
    refine (leads_evM (finN_sub _ _) e_nil k_nil (m_cons mA_ok m_nil) noL_ok st).sub (Sub.refl _) ?_
    exact sub_same ⟨Or.inl rfl, Or.inr ⟨5, 1, 6 + 6 * k + 6, _, _, rfl, rfl, fun q hq => by rw [anF_same (n := f.lt k) (s := 6) (g := sv0 f) (k := 6) hq fun j hj => (show an6 (f.lt k) j = _ from (an6_eq x0 (by omega) hj).trans (sv0_l hk hj).symm)]⟩, trivial⟩
  · refine leads_evM (finE_sub _ _) e_nil k_nil (m_cons mA_ok m_nil) noL_ok ((ws_end anF f _ _ (f.n : Nat)).trans ?_)
    rw [dec_self, cond_false]
theorem wt_leads {f : Flm} (hn : f.n ≤ 1000000) (hm : f.m ≤ 1000000) (hs : ∀ i, i < f.m → 0 ≤ f.sh i ∧ f.sh i ≤ 1048576) : Leads Try.prog (.loop (loopAt Try.f11 1)) (wtS f (6 + 6 * f.n) (sv0 f) 0) (.exit 2) (wtS f (svN f) (sv0 f) (f.m : Nat)) := by
  refine loop_rule (fun k => wtS f (6 + 6 * f.n + 3 * k) (sv0 f) (k : Nat)) f.m (.exit 2) _ (by simp) (fun k hk => ?_) ?_
  · have st := wt_step anF f (6 + 6 * f.n + 3 * k) (sv0 f) (k : Nat)
    rw [dec_lt hk, ixB_t hk, Int.toNat_natCast, anQ_t (an3_ok (by omega) _ _) (by omega), w64_next (by omega)] at st
    obtain ⟨x0, x1⟩ := hs k hk
    refine (leads_evM (finN_sub _ _) e_nil k_nil (m_cons mA_ok m_nil) noL_ok st).sub (Sub.refl _) ?_
    exact sub_same ⟨Or.inl rfl, Or.inr ⟨5, 1, 6 + 6 * f.n + 3 * k + 3, _, _, rfl, rfl, fun q hq => by rw [anF_same (n := f.sh k) (s := 3) (g := sv0 f) (k := 3) hq fun j hj => (show an3 (f.sh k) j = _ from (an3_eq x0 (by omega) hj).trans (sv0_s hj).symm)]⟩, trivial⟩
  · refine leads_evM (finE_sub _ _) e_nil k_nil (m_cons mA_ok m_nil) noL_ok ((wt_end anF f _ _ (f.m : Nat)).trans ?_)
    rw [dec_self, cond_false]
    rfl
theorem wsH_sub (f : Flm) : Sub (wsH f) (wsS f 6 (sv0 f) 0) := by
  refine sub_same ⟨Or.inl rfl, Or.inr ⟨5, 1, 6, _, _, rfl, rfl, fun q hq => ?_⟩, trivial⟩
  have : q = 0 ∨ q = 1 ∨ q = 2 ∨ q = 3 ∨ q = 4 ∨ q = 5 := by omega
  rcases this with rfl | rfl | rfl | rfl | rfl | rfl <;> rfl
theorem csave_G {f : Flm} (h : fmay f = 0) : GSpec Try.prog 11 [.agg f.c] [] (.tup [.osl 0 1 0 (svN f + 4), iA 0]) [.a 5 1 (svN f + 4) fun q => [yA (svF f q)]] := by
  have ok := FMok_of cmay_spec
  have mg := mg_of h
  obtain ⟨n1, m1, c1, d1⟩ := fmay_n h
  obtain ⟨a, b, c, d⟩ := fbad_false mg.b
  have hM2 := mulB (x := f.W) (y := f.H) (X := 64) (Y := 64) (by omega) b (by omega) d
  have hL : LOk Try.prog (wsL f (6 + 6 * f.n) (svN f) (sv0 f)) (bodyOf Try.f11) := lok_two (lok_at (c := bodyOf Try.f11) (i := 8) 0 2 (by kernel_rfl) (by kernel_rfl) (toldF_sound (keep := keepWs) (τ := [some 0, some 4]) (ws_leads (f := f) n1 mg.lt))) (lok_at (c := bodyOf Try.f11) (i := 13) 1 2 (by kernel_rfl) (by kernel_rfl) (toldF_sound (keep := keepWt) (τ := [some 0, some 1]) (wt_leads (f := f) n1 m1 mg.sh)))
  have hN : svN f ≤ 1000000 := by unfold svN; omega
  have hN0 : 0 < svN f := by unfold svN; omega
  have e0 : (fun i => [yA (sv0 f (0 + i))]) = fun i => [yA (sv0 f i)] := funext fun i => by rw [Nat.zero_add]
  have e1 : (suE (svN f) fun i => [yA (sv0 f (0 + i))]) = svC f := by rw [e0]; rfl
  have hs : CKok suE (svN f) fun i => [yA (sv0 f (0 + i))] := by
    show FSpec Try.prog 18 [.sl 1 (svN f) fun i => [yA (sv0 f (0 + i))]] (iA (suE (svN f) fun i => [yA (sv0 f (0 + i))]))
    rw [e0]; exact ck_spec hN (sv0 f)
  have hsb : ssB (CKok suE (svN f) fun i => [yA (sv0 f (0 + i))]) (svN f) = true := by unfold ssB; rw [propB_t hs, ble_t (by omega), blt_t (by omega)]; rfl
  have hk : mkY (sbtI f.n f.m) = true := by
    unfold mkY sbtI
    rw [w64_id (n := 6 * (f.n : Int)) (by omega) (by omega), w64_id (n := 6 + 6 * (f.n : Int)) (by omega) (by omega), w64_id (n := 3 * (f.m : Int)) (by omega) (by omega), w64_id (n := 6 + 6 * (f.n : Int) + 3 * (f.m : Int)) (by omega) (by omega), w64_id (by omega) (by omega), decide_eq_true (show (0 : Int) ≤ 6 + 6 * (f.n : Int) + 3 * (f.m : Int) + 4 by omega), decide_eq_true (show ((1 : Nat) : Int) * (6 + 6 * (f.n : Int) + 3 * (f.m : Int) + 4) ≤ 281474976710656 by omega)]
    rfl
  have hev := wz_ev anF fmE' sbtI suE f (6 + 6 * f.n) (svN f) (sv0 f)
  rw [gate_pos (ok f), fmE_of, h, gate_pos (sbt_spec f), hk, gate_pos (wsH_sub f), gate_pos (Sub.refl _), hsb, e1, anQ_t (an4_ok (by omega) _ _) hN0] at hev
  have ks := k_cons (kS_ok (P := Try.prog) (f := 16) (g := fmG fmE')) (k_cons (kS_ok (P := Try.prog) (f := 17) (g := sbtG sbtI)) k_nil)
  refine (gspecG (mem := []) e_nil ks (m_cons mA_ok (m_cons (mS_ok (P := Try.prog) (f := 18) (g := suG suE)) m_nil)) Try.func11 (by kernel_rfl) (by kernel_rfl) hL rfl (by kernel_rfl) hev).of_rows ⟨Or.inr ⟨5, 1, svN f + 4, _, _, rfl, rfl, fun q hq => ?_⟩, trivial⟩
  obtain ⟨r0, r1⟩ := suV_rng (sv0 f) (svN f)
  have hC := svC_eq f
  congr 2
  unfold svF anF
  by_cases hlt : q < svN f
  · rw [if_pos hlt, blt_t hlt]; rfl
  · rw [if_neg hlt, blt_no (by omega), cond_false]
    exact (an4_eq (by omega) (by omega) (by omega)).symm
theorem csave_fresh {f : Flm} (h : fmay f = 0) : FreshSpec Try.prog 11 [.agg f.c] (bOut (svN f + 4) (svF f) 0) := by
  have hF := fresh_rows (csave_G h) (by
    simp only [ownB, ownBL, List.getElem?_cons_zero, iA]
    rw [ble_t (show 0 + (svN f + 4) ≤ svN f + 4 by omega)]
    rfl) (fun k e sz n el hk i hi => by
      match k, hk with
      | 0, hk => cases hk; rfl
      | k + 1, hk => simp at hk)
  have e : frzT [.a 5 1 (svN f + 4) fun q => [yA (svF f q)]] (.tup [.osl 0 1 0 (svN f + 4), iA 0]) = bOut (svN f + 4) (svF f) 0 := by
    show AV.tup [.sl 1 (svN f + 4) fun i => [yA (svF f (0 + i))], iA 0] = AV.tup [.sl 1 (svN f + 4) fun i => [yA (svF f i)], iA 0]
    simp only [Nat.zero_add]
  rw [e] at hF
  exact hF
theorem csave_bad {f : Flm} (h : fmay f ≠ 0) : FSpec Try.prog 11 [.agg f.c] (.tup [.x (.slice none 0 0), iA (fmay f)]) := by
  refine gspec e_nil (k_cons (kS_ok (P := Try.prog) (f := 16) (g := fmG fmE')) (k_cons (kno_ok _) k_nil)) Try.func11 (by kernel_rfl) (by kernel_rfl) noL_ok rfl ((wz_ev0 fmE' f).trans ?_)
  rw [gate_pos (FMok_of cmay_spec f), fmE_of, beq_false_of_ne h]
  rfl
theorem csave_spec (f : Flm) : FSpec Try.prog 11 [.agg f.c] (bOut (savL f) (svF f) (fmay f)) := by
  by_cases h : fmay f = 0
  · have el : savL f = svN f + 4 := by unfold savL; rw [if_pos h]
    rw [el, h]
    exact (csave_fresh h).spec rfl rfl
  · have el : savL f = 0 := by unfold savL; rw [if_neg h]
    rw [el]
    exact bspec_bad (csave_bad h)
end Go.Proofs.Ythplpfmglleacaa

namespace Go.Proofs.Ythplpfmglleacaa
open Go.Gv

theorem leads_evMN {np : Nat} {l : List Entry} {ks : List KEntry} {ms : List MEntry} {L : Nat → Option LFun} {c : Code} {s s' : St} {e : Exit} {k : Kont} (hk : KSubN np k) (hl : ∀ e, e ∈ l → EOk Try.prog e) (hks : ∀ e, e ∈ ks → KOk Try.prog e) (hms : ∀ e, e ∈ ms → MEOk Try.prog e) (hL : LOkN np Try.prog L c) (h : evCM Try.prog l ks ms L c s k = some ⟨e, s', .any⟩) : LeadsN np Try.prog c s e s' :=
  leads_ofKN hk (tabM_ok hl hks hms) (drawnK_ok (tabM_ok hl hks hms) (by kernel_rfl)) hL h
noncomputable def eqI (n : Nat) (g : Nat → Int) (m : Nat) (h : Nat → Int) : Bool := (strF n g).toList == (strF m h).toList
theorem eq_ev (n m : Nat) (g h : Nat → Int) : ev Try.prog [] [] noL Try.f27 [sB n g, sB m h] ret = cond (allB n (fun _ => true) || false) (cond (allB m (fun _ => true) || false) (some (Out.of (bA ((strF n g).toList == (strF m h).toList)))) none) none := by kernel_rfl
abbrev EF4 : Type := Nat → (Nat → List AV) → Nat → (Nat → List AV) → Bool
def eqG (ef : EF4) : List AV → AV
  | [.sl _ n el, .sl _ m el'] => bA (ef n el m el')
  | _ => .any
def hpB (n m : Nat) : Bool := sbB none (some (m : Int)) none n || !(decide (decide ((n : Int) ≥ (m : Int)) = true) && true)
theorem hp_ev (ef : EF4) (n m : Nat) (g h : Nat → Int) : ev Try.prog [] [kS Try.prog 27 (eqG ef)] noL Try.f25 [sB n g, sB m h] ret =
    cond (hpB n m) (gate (FSpec Try.prog 27 [.sl 1 (sbN none (some (m : Int)) n) (fun i => [yA (g (sbL none + i))]), sB m h] (bA (ef (sbN none (some (m : Int)) n) (fun i => [yA (g (sbL none + i))]) m fun i => [yA (h i)])))
      (some (Out.of (bA (cond (decide ((n : Int) ≥ (m : Int))) (ef (sbN none (some (m : Int)) n) (fun i => [yA (g (sbL none + i))]) m fun i => [yA (h i)]) false))))) none := by kernel_rfl
/-! ### Numbers out of bytes -/
def fiS (N L : Nat) (g : Nat → Int) (s i : Int) (q : Nat → Int) : St := mkS 25 [(0, .osl 0 1 0 N), (1, sB L g), (2, iA s), (9, iA N), (10, iA i)] [.a 3 1 N fun j => [iA (q j)]]
def keepFi : List Nat := [0, 1, 2, 9, 10]
def fiE (g : Nat → Int) : Nat → List AV := fun i => [yA (g (sbL none + i))]
abbrev NBk (nf : Nat → (Nat → List AV) → Int) (g : Nat → Int) (s : Int) (L : Nat) : Prop := FSpec Try.prog 19 [.sl 1 (sbN none (some s) L) (fiE g)] (iA (nf (sbN none (some s) L) (fiE g)))
section
variable (nf : Nat → (Nat → List AV) → Int) (N L : Nat) (g : Nat → Int) (s i : Int) (q : Nat → Int)
def fiN (x : Int) (k : Nat) : St := mkS 25 [(0, .osl 0 1 0 N), (1, sB (sbN (some s) none L) fun j => g (sbL (some s) + j)), (2, iA s), (9, iA N), (10, iA (w64 (i + 1)))] [.a 3 1 N fun j => mixL (j == k) [iA x] [iA (q j)]]
theorem fi_step : evCM Try.prog [] [kS Try.prog 19 (nbG nf)] [] noL (loopAt Try.f24 0) (fiS N L g s i q) (finN keepFi [some 0]) =
    cond (decide (i < N)) (cond (sbB none (some s) none L || false) (gate (NBk nf g s L) (cond (ixB i N || false) (cond (Nat.blt (0 + i.toNat) N || false) (cond (sbB (some s) none none L || false) (some ⟨.normal, fiN N L g s i q (nf (sbN none (some s) L) (fiE g)) (0 + i.toNat), .any⟩) none) none) none)) none) none := by kernel_rfl
theorem fi_end : evCM Try.prog [] [⟨19, fun _ _ => none⟩] [] noL (loopAt Try.f24 0) (fiS N L g s i q) (finE keepFi [some 0]) =
    cond (decide (i < N)) (cond (sbB none (some s) none L || false) none none) (some ⟨.exit 0, fiS N L g s i q, .any⟩) := by kernel_rfl
end
noncomputable def fiL (N L : Nat) (g : Nat → Int) (s : Int) (q : Nat → Int) (L' : Nat) (g' q' : Nat → Int) : Nat → Option LFun := oneL 2 (toldP 1 keepFi [some 0] (fiS N L g s 0 q) (.exit 0) (fiS N L' g' s (N : Nat) q'))
theorem fi_ev (N L : Nat) (g : Nat → Int) (s : Int) (q : Nat → Int) (L' : Nat) (g' q' : Nat → Int) : evG Try.prog [] [⟨19, fun _ _ => none⟩] [] (fiL N L g s q L' g' q') Try.f24 [.osl 0 1 0 N, sB L g, iA s] [.a 3 1 N fun j => [iA (q j)]] [some 0] =
    gate (SubN 1 (fiS N L g s 0 q) (fiS N L g s 0 q)) (gout (sB L' g') [.a 3 1 N fun j => [iA (q' j)]]) := by kernel_rfl
end Go.Proofs.Ythplpfmglleacaa

namespace Go.Proofs.Ythplpfmglleacaa
open Go.Gv

theorem push_all : ∀ (l : List Int) (acc : ByteArray), (l.foldl (fun r n => r.push (UInt8.ofNat n.toNat)) acc).data.toList = acc.data.toList ++ l.map fun n => UInt8.ofNat n.toNat
  | [], acc => by simp
  | x :: l, acc => by
    rw [List.foldl_cons, push_all l]
    simp [ByteArray.push]
theorem strF_data (n : Nat) (g : Nat → Int) : (strF n g).toList = (List.range n).map fun i => UInt8.ofNat (g i).toNat := by
  rw [ByteArray.toList_eq, strF_eq]
  unfold strR
  rw [push_all, List.map_map]
  rfl
theorem u8_inj {a b : Int} (a0 : 0 ≤ a) (a1 : a ≤ 255) (b0 : 0 ≤ b) (b1 : b ≤ 255) (h : UInt8.ofNat a.toNat = UInt8.ofNat b.toNat) : a = b := by
  have := congrArg UInt8.toNat h
  rw [UInt8.toNat_ofNat', UInt8.toNat_ofNat'] at this
  omega
theorem eqI_t {n : Nat} {g h : Nat → Int} (he : ∀ i, i < n → g i = h i) : eqI n g n h = true := by
  unfold eqI
  rw [strF_data, strF_data, beq_iff_eq]
  exact List.map_congr_left fun i hi => by rw [he i (List.mem_range.1 hi)]
theorem eqI_f {n : Nat} {g h : Nat → Int} (hg : ∀ i, i < n → 0 ≤ g i ∧ g i ≤ 255) (hh : ∀ i, i < n → 0 ≤ h i ∧ h i ≤ 255) {k : Nat} (hk : k < n) (hne : g k ≠ h k) : eqI n g n h = false := by
  cases hb : eqI n g n h
  · rfl
  · exfalso
    unfold eqI at hb
    rw [strF_data, strF_data, beq_iff_eq] at hb
    have := congrArg (fun l : List UInt8 => l[k]?) hb
    simp only [List.getElem?_map, List.getElem?_range hk, Option.map_some, Option.some.injEq] at this
    exact hne (u8_inj (hg k hk).1 (hg k hk).2 (hh k hk).1 (hh k hk).2 this)
noncomputable def eqE : EF4 := fun n el m el' => eqI n (fun i => u8Of' (el i)) m fun i => u8Of' (el' i)
theorem eq_spec (n m : Nat) (g h : Nat → Int) : FSpec Try.prog 27 [sB n g, sB m h] (bA (eqI n g m h)) := by
  refine gspec e_nil k_nil Try.func27 (by kernel_rfl) (by kernel_rfl) noL_ok rfl ((eq_ev n m g h).trans ?_)
  rw [allB_true fun _ _ => rfl, allB_true fun _ _ => rfl]
  rfl
theorem hp_spec {n m : Nat} (hnm : m ≤ n) (g h : Nat → Int) : FSpec Try.prog 25 [sB n g, sB m h] (bA (eqI m g m h)) := by
  refine gspec e_nil (k_cons (kS_ok (P := Try.prog) (f := 27) (g := eqG eqE)) k_nil) Try.func25 (by kernel_rfl) (by kernel_rfl) noL_ok rfl ((hp_ev eqE n m g h).trans ?_)
  have hB : hpB n m = true := by
    unfold hpB sbB
    simp only [Option.getD_some, Option.getD_none]
    rw [decide_eq_true (Int.le_refl 0), decide_eq_true (show (0 : Int) ≤ (m : Int) by omega), decide_eq_true (show (m : Int) ≤ (n : Int) by omega), decide_eq_true (Int.le_refl (n : Int))]
    rfl
  have e1 : sbN none (some (m : Int)) n = m := by unfold sbN; simp only [Option.getD_some, Option.getD_none]; omega
  have e2 : (fun i => [yA (g (sbL none + i))]) = fun i => [yA (g i)] := funext fun i => by
    have : sbL none = 0 := rfl
    rw [this, Nat.zero_add]
  have hq : FSpec Try.prog 27 [.sl 1 m fun i => [yA (g i)], sB m h] (bA (eqE m (fun i => [yA (g i)]) m fun i => [yA (h i)])) := eq_spec m m g h
  rw [hB, e1, e2, gate_pos hq, decide_eq_true (show (n : Int) ≥ (m : Int) by omega)]
  rfl
/-! ### Numbers out of bytes -/
def cfE (n : Nat) (el : Nat → List AV) : Int := cnV (fun i => u8Of' (el i)) n
def fiQ (q : Nat → Int) (g : Nat → Int) (S k j : Nat) : Int := if j < k then cnV (fun c => g (S * j + c)) S else q j
theorem sbT (S L : Nat) (h : S ≤ L) : sbB none (some (S : Int)) none L = true ∧ sbB (some (S : Int)) none none L = true ∧ sbN none (some (S : Int)) L = S ∧ sbN (some (S : Int)) none L = L - S ∧ sbL (some (S : Int)) = S := by
  refine ⟨?_, ?_, ?_, ?_, sbL_eq⟩
  · unfold sbB
    simp only [Option.getD_some, Option.getD_none]
    rw [decide_eq_true (Int.le_refl 0), decide_eq_true (show (0 : Int) ≤ (S : Int) by omega), decide_eq_true (show (S : Int) ≤ (L : Int) by omega), decide_eq_true (Int.le_refl (L : Int))]
    rfl
  · unfold sbB
    simp only [Option.getD_some, Option.getD_none]
    rw [decide_eq_true (show (0 : Int) ≤ (S : Int) by omega), decide_eq_true (show (S : Int) ≤ (L : Int) by omega), decide_eq_true (Int.le_refl (L : Int))]
    rfl
  · unfold sbN; simp only [Option.getD_some, Option.getD_none]; omega
  · unfold sbN; simp only [Option.getD_some, Option.getD_none]; omega
theorem fi_leads {N L S : Nat} (hN : N ≤ 1000000) (hS : S ≤ 6) (hL : S * N ≤ L) (g q : Nat → Int) : LeadsN 1 Try.prog (.loop (loopAt Try.f24 0)) (fiS N L g (S : Nat) 0 q) (.exit 0) (fiS N (L - S * N) (fun j => g (S * N + j)) (S : Nat) (N : Nat) (fiQ q g S N)) := by
  have h0 : LeadsN 1 Try.prog (.loop (loopAt Try.f24 0)) (fiS N (L - S * 0) (fun j => g (S * 0 + j)) (S : Nat) (0 : Nat) (fiQ q g S 0)) (.exit 0) (fiS N (L - S * N) (fun j => g (S * N + j)) (S : Nat) (N : Nat) (fiQ q g S N)) := by
    refine loop_rule (fun k => fiS N (L - S * k) (fun j => g (S * k + j)) (S : Nat) (k : Nat) (fiQ q g S k)) N (.exit 0) _ (by simp) (fun k hk => ?_) ?_
    · have hk1 : S * (k + 1) ≤ S * N := Nat.mul_le_mul_left _ hk
      rw [Nat.mul_succ] at hk1
      obtain ⟨b1, b2, b3, b4, b5⟩ := sbT S (L - S * k) (by omega)
      have st := fi_step cfE N (L - S * k) (fun j => g (S * k + j)) (S : Nat) (k : Nat) (fiQ q g S k)
      have e0 : (fiE fun j => g (S * k + j)) = fun i => [yA (g (S * k + i))] := funext fun i => by
        unfold fiE
        have : sbL none = 0 := rfl
        rw [this, Nat.zero_add]
      have hnb : NBk cfE (fun j => g (S * k + j)) (S : Nat) (L - S * k) := by
        show FSpec Try.prog 19 [.sl 1 (sbN none (some ((S : Nat) : Int)) (L - S * k)) (fiE fun j => g (S * k + j))] (iA (cfE (sbN none (some ((S : Nat) : Int)) (L - S * k)) (fiE fun j => g (S * k + j))))
        rw [b3, e0]
        exact cn_spec (by omega) fun i => g (S * k + i)
      rw [dec_lt hk, b1, gate_pos hnb, ixB_t hk, Int.toNat_natCast, Nat.zero_add, blt_t hk, b2, b3, e0] at st
      refine (leads_evMN (finN_subN _ (by rfl)) e_nil (k_cons kS_ok k_nil) m_nil noL_okN st).sub (SubN.refl _) ?_
      have hst : fiN N (L - S * k) (fun j => g (S * k + j)) (S : Nat) (k : Nat) (fiQ q g S k) (cfE S fun i => [yA (g (S * k + i))]) k = mkS 25 [(0, .osl 0 1 0 N), (1, sB (L - S * (k + 1)) fun j => g (S * (k + 1) + j)), (2, iA (S : Nat)), (9, iA N), (10, iA ((k + 1 : Nat) : Int))] [.a 3 1 N fun j => mixL (j == k) [iA (cfE S fun i => [yA (g (S * k + i))])] [iA (fiQ q g S k j)]] := by
        unfold fiN
        have e6 : (fun j => g (S * k + (S + j))) = fun j => g (S * (k + 1) + j) := funext fun j => by rw [Nat.mul_succ, Nat.add_assoc]
        rw [b4, b5, w64_next (by omega), show L - S * k - S = L - S * (k + 1) by rw [Nat.mul_succ]; omega, e6]
      rw [hst]
      refine sub_same ⟨Or.inr ⟨3, 1, N, _, _, rfl, rfl, fun j hj => ?_⟩, trivial⟩
      rw [mixI]
      unfold fiQ
      by_cases hjk : j = k
      · subst hjk
        rw [BEq.rfl, cond_true, if_pos (by omega)]
        rfl
      · rw [beq_false_of_ne hjk, cond_false]
        by_cases hlt : j < k
        · rw [if_pos hlt, if_pos (by omega)]
        · rw [if_neg hlt, if_neg (by omega)]
    · refine leads_evMN (finE_subN _ (by rfl)) e_nil (k_cons (kno_ok _) k_nil) m_nil noL_okN ((fi_end N _ _ _ _ _).trans ?_)
      rw [dec_self, cond_false]
  have e1 : (fun j => g (S * 0 + j)) = g := funext fun j => by rw [Nat.mul_zero, Nat.zero_add]
  have e2 : fiQ q g S 0 = q := funext fun j => by unfold fiQ; rw [if_neg (by omega)]
  rw [e1, e2, Nat.mul_zero, Nat.sub_zero] at h0
  exact h0
abbrev FIok (N L S : Nat) (g q : Nat → Int) : Prop := GSpec Try.prog 24 [.osl 0 1 0 N, sB L g, iA (S : Nat)] [.a 3 1 N fun j => [iA (q j)]] (sB (L - S * N) fun j => g (S * N + j)) [.a 3 1 N fun j => [iA (cnV (fun c => g (S * j + c)) S)]]
theorem fi_ok {N L S : Nat} (hN : N ≤ 1000000) (hS : S ≤ 6) (hL : S * N ≤ L) (g q : Nat → Int) : FIok N L S g q := by
  have hl : LOkN 1 Try.prog (fiL N L g (S : Nat) q (L - S * N) (fun j => g (S * N + j)) (fiQ q g S N)) (bodyOf Try.f24) := lokN_one 1 (by kernel_rfl) fun j hj hid => by
    have : j = 0 := by omega
    subst this
    exact toldP_sound (keep := keepFi) (τ := [some 0]) (by rfl) (fi_leads hN hS hL g q)
  have hev := fi_ev N L g (S : Nat) q (L - S * N) (fun j => g (S * N + j)) (fiQ q g S N)
  rw [gate_pos (SubN.refl _)] at hev
  refine (gspecG (mem := [.a 3 1 N fun j => [iA (q j)]]) e_nil (k_cons (kno_ok _) k_nil) m_nil Try.func24 (by kernel_rfl) (by kernel_rfl) hl rfl (by kernel_rfl) hev).of_rows ⟨Or.inr ⟨3, 1, N, _, _, rfl, rfl, fun j hj => ?_⟩, trivial⟩
  unfold fiQ
  rw [if_pos hj]
end Go.Proofs.Ythplpfmglleacaa

namespace Go.Proofs.Ythplpfmglleacaa
open Go.Gv

def mkC (n : Int) : Bool := decide (0 ≤ n) && (decide (n ≤ n) && decide (((8 : Nat) : Int) * n ≤ 281474976710656))
theorem mkC_t {n : Int} (h0 : 0 ≤ n) (h1 : n ≤ 100000) : mkC n = true := by
  unfold mkC
  rw [decide_eq_true h0, decide_eq_true (Int.le_refl n), decide_eq_true (show ((8 : Nat) : Int) * n ≤ 281474976710656 by omega)]
  rfl
def nwN (w h : Int) : Nat := (w64 (w64 (3 * w) * h)).toNat
def nwM (w h : Int) : Nat := (w64 (w * h)).toNat
def nwC (w h : Int) : Bool := (mkC (w64 (w64 (3 * w) * h)) || false) && ((mkC (w64 (w * h)) || false) && true)
def nwA (w h : Int) : AV := .tup [.agg [iA w, iA h, .osl 0 1 0 (nwN w h), .osl 1 1 0 (nwM w h)], iA 0]
def nwR (w h : Int) : List Row := [.a 3 1 (nwN w h) (fun _ => [iA 0]), .a 3 1 (nwM w h) (fun _ => [iA 0])]
theorem nw_ev (sd : Int → Bool) (w h : Int) : evG Try.prog [⟨21, gSd sd⟩] [] [] noL Try.f26 [iA w, iA h] [] [some 1, some 2] = cond (cSd sd w h) none (cond (nwC w h) (gout (nwA w h) (nwR w h)) none) := by kernel_rfl
theorem nw_ev0 (sd : Int → Bool) (w h : Int) : ev Try.prog [⟨21, gSd sd⟩] [] noL Try.f26 [iA w, iA h] ret = cond (cSd sd w h) (fBad 4) (cond (nwC w h) (some (Out.of (.tup [.agg [iA w, iA h, sI (nwN w h) fun _ => 0, sI (nwM w h) fun _ => 0], iA 0]))) none) := by kernel_rfl
theorem nw_eq {w h : Int} (hb : fbad w h = false) : w64 (w64 (3 * w) * h) = 3 * (w * h) ∧ w64 (w * h) = w * h ∧ 1 ≤ w * h ∧ w * h ≤ 4096 := by
  obtain ⟨h1, h2, h3, h4⟩ := fbad_false hb
  have hM := mulB (x := w) (y := h) (X := 64) (Y := 64) (by omega) h2 (by omega) h4
  have hM1 := mulB (x := 1) (y := h) (X := w) (Y := h) (by omega) (by omega) (by omega) (by omega)
  refine ⟨?_, w64_id (by omega) (by omega), by omega, by omega⟩
  rw [w64_id (n := 3 * w) (by omega) (by omega), Int.mul_assoc, w64_id (by omega) (by omega)]
theorem nwC_t {w h : Int} (hb : fbad w h = false) : nwC w h = true := by
  obtain ⟨h1, h2, h3, h4⟩ := nw_eq hb
  unfold nwC
  rw [mkC_t (n := w64 (w64 (3 * w) * h)) (by omega) (by omega), mkC_t (n := w64 (w * h)) (by omega) (by omega)]
  rfl
theorem nw_G {w h : Int} (hb : fbad w h = false) : GSpec Try.prog 26 [iA w, iA h] [] (nwA w h) (nwR w h) := by
  refine gspecG (e_cons gSd_ok e_nil) k_nil m_nil Try.func26 (by kernel_rfl) (by kernel_rfl) (fun _ _ _ _ _ h => by cases h) rfl (by kernel_rfl) ((nw_ev isd w h).trans ?_)
  rw [cSd_eq, hb, nwC_t hb]
  rfl
end Go.Proofs.Ythplpfmglleacaa

namespace Go.Proofs.Ythplpfmglleacaa
open Go.Gv

abbrev NFu : Type := Int → Int → Nat
def nwU (nN nM : NFu) : List AV → AV
  | [.x (.int .i64 w), .x (.int .i64 h)] => .tup [.agg [iA w, iA h, .osl 0 1 0 (nN w h), .osl 1 1 0 (nM w h)], iA 0]
  | _ => .any
def nwT (nN nM : NFu) : List AV → List Row
  | [.x (.int .i64 w), .x (.int .i64 h)] => [.a 3 1 (nN w h) (fun _ => [iA 0]), .a 3 1 (nM w h) (fun _ => [iA 0])]
  | _ => []
abbrev NUok (nN nM : NFu) (w h : Int) : Prop := GSpec Try.prog 26 [iA w, iA h] [] (nwU nN nM [iA w, iA h]) (nwT nN nM [iA w, iA h])
/-- What bytes begin with. -/
def mkL (i : Nat) : List AV := chunk [yA 82, yA 72, yA 70, yA 49] 1 (0 + i)
abbrev HPok (hf : EF4) (n : Nat) (g : Nat → Int) : Prop := FSpec Try.prog 25 [sB n g, .sl 1 4 mkL] (bA (hf n (fun i => [yA (g i)]) 4 mkL))
def gW (g : Nat → Int) : Int := w64 (g 4)
def gH (g : Nat → Int) : Int := w64 (g 5)
def g45 (n : Nat) (b : Bool) : Bool := (ixB 4 n || false) && ((ixB 5 n || false) && ((b || false) && true))
def lnF (n m : Nat) : Bool := (Nat.ble (0 + n) n && (Nat.ble (0 + m) m && true)) && true
def wnF (n m : Nat) : Bool := (Nat.blt 0 (0 + n) && (Nat.blt 0 (0 + m) && true)) && true
def bkC (W H : Int) (n m : Nat) : List AV := [iA W, iA H, .sl 1 n fun _ => [iA 0], .sl 1 m fun _ => [iA 0]]
abbrev SBb (bf : Nat → Nat → Int) (W H : Int) (n m : Nat) : Prop := FSpec Try.prog 17 [.agg (bkC W H n m)] (iA (bf n m))
noncomputable def bkX (hf : EF4) (n : Nat) (g : Nat → Int) (bad : Int → Option Out) (R : Option Out) : Option Out := cond (decide ((n : Int) < 6)) (bad 8) (gate (HPok hf n g) (cond (!(hf n (fun i => [yA (g i)]) 4 mkL)) (bad 11) R))
noncomputable def bkR (bf : Nat → Nat → Int) (nN nM : NFu) (n : Nat) (g : Nat → Int) (bad : Int → Option Out) (good : Option Out) : Option Out :=
  cond (g45 n (propB (NUok nN nM (gW g) (gH g)))) (cond (lnF (nN (gW g) (gH g)) (nM (gW g) (gH g))) (gate (SBb bf (gW g) (gH g) (nN (gW g) (gH g)) (nM (gW g) (gH g)))
    (cond (decide ((n : Int) < bf (nN (gW g) (gH g)) (nM (gW g) (gH g)))) (bad 8) (cond (lnF (nN (gW g) (gH g)) (nM (gW g) (gH g))) (gate (SBb bf (gW g) (gH g) (nN (gW g) (gH g)) (nM (gW g) (gH g)))
      (cond (decide ((n : Int) > bf (nN (gW g) (gH g)) (nM (gW g) (gH g)))) (bad 5) good)) none))) none) none
def bkG (nN nM : NFu) (g : Nat → Int) : Option Out := gout (.tup [.agg [iA (gW g), iA (gH g), .osl 0 1 0 (nN (gW g) (gH g)), .osl 1 1 0 (nM (gW g) (gH g))], iA 0]) [.a 3 1 (nN (gW g) (gH g)) (fun _ => [iA 0]), .a 3 1 (nM (gW g) (gH g)) (fun _ => [iA 0])]
section
variable (hf : EF4) (bf : Nat → Nat → Int) (nN nM : NFu) (n : Nat) (g : Nat → Int)
def bkB (nN nM : NFu) (g : Nat → Int) (e : Int) : Option Out := gout (.tup [.agg flmZ, iA e]) [.a 3 1 (nN (gW g) (gH g)) (fun _ => [iA 0]), .a 3 1 (nM (gW g) (gH g)) (fun _ => [iA 0])]
/-- All of it, with the rows that are made. -/
theorem bk_ev : evG Try.prog [] [kS Try.prog 25 (eqG hf), kS Try.prog 17 (sbtG bf)] [mR Try.prog 26 (nwU nN nM) (nwT nN nM)] noL Try.f23 [sB n g] [] [some 2, some 3] =
    bkX hf n g (fun _ => none) (bkR bf nN nM n g (bkB nN nM g) (bkG nN nM g)) := by kernel_rfl
/-- What ends ahead of the rows. -/
theorem bk_ev0 : evG Try.prog [] [kS Try.prog 25 (eqG hf), ⟨26, fun _ _ => none⟩] [] noL Try.f23 [sB n g] [] [] =
    bkX hf n g (fun e => gout (.tup [.agg flmZ, iA e]) []) none := by kernel_rfl
/-- Sides that may not be. -/
theorem bk_ev4 (e : Int) : evG Try.prog [] [kS Try.prog 25 (eqG hf), kS Try.prog 26 (fun _ => .tup [.agg flmZ, iA e]), ⟨17, fun _ _ => none⟩] [] noL Try.f23 [sB n g] [] [] =
    bkX hf n g (fun e => gout (.tup [.agg flmZ, iA e]) []) (gate (FSpec Try.prog 26 [iA (gW g), iA (gH g)] (.tup [.agg flmZ, iA e])) (cond ((ixB 4 n || false) && ((ixB 5 n || false) && true)) (cond (!(e == 0)) (gout (.tup [.agg flmZ, iA e]) []) none) none)) := by kernel_rfl
end
end Go.Proofs.Ythplpfmglleacaa

namespace Go.Proofs.Ythplpfmglleacaa
open Go.Gv

/-! ### A new film -/
noncomputable def newE (w h : Int) : Int := cond (fbad w h) 4 0
def newG (w h : Int) : Flm := ⟨w, h, (w64 (w64 (3 * w) * h)).toNat, fun _ => 0, (w64 (w * h)).toNat, fun _ => 0⟩
def newF (w h : Int) : Flm := if fbad w h = true then zF else newG w h
end Go.Proofs.Ythplpfmglleacaa

namespace Go.Proofs.Ythplpfmglleacaa
open Go.Gv

theorem hp_mk {n : Nat} {g : Nat → Int} (hn : 6 ≤ n) (hg : ∀ i, i < n → 0 ≤ g i ∧ g i ≤ 255) : HPok (fun _ _ _ _ => !mg3 g) n g := by
  have h0 : FSpec Try.prog 25 [sB n g, .sl 1 4 mkL] (bA (eqI 4 g 4 fun i => u8Of' (mkL i))) := by
    refine FSpec.of_args (hp_spec (n := n) (m := 4) (by omega) g fun i => u8Of' (mkL i)) fun E vs h => ?_
    obtain ⟨u0, t0, e0, r0, h⟩ := rels_cons.1 h
    obtain ⟨u1, t1, e1, r1, h⟩ := rels_cons.1 h
    refine rels_cons.2 ⟨u0, t0, e0, r0, rels_cons.2 ⟨u1, t1, e1, sl_like r1 fun i hi => ?_, h⟩⟩
    match i, hi with
    | 0, _ => rfl
    | 1, _ => rfl
    | 2, _ => rfl
    | 3, _ => rfl
  have hb : ∀ i, i < 4 → 0 ≤ u8Of' (mkL i) ∧ u8Of' (mkL i) ≤ 255 := fun i hi => by
    match i, hi with
    | 0, _ => exact ⟨show (0 : Int) ≤ 82 by decide, show (82 : Int) ≤ 255 by decide⟩
    | 1, _ => exact ⟨show (0 : Int) ≤ 72 by decide, show (72 : Int) ≤ 255 by decide⟩
    | 2, _ => exact ⟨show (0 : Int) ≤ 70 by decide, show (70 : Int) ≤ 255 by decide⟩
    | 3, _ => exact ⟨show (0 : Int) ≤ 49 by decide, show (49 : Int) ≤ 255 by decide⟩
  have e : eqI 4 g 4 (fun i => u8Of' (mkL i)) = !mg3 g := by
    have hg4 : ∀ i, i < 4 → 0 ≤ g i ∧ g i ≤ 255 := fun i hi => hg i (by omega)
    by_cases h0 : g 0 = 82
    · by_cases h1 : g 1 = 72
      · by_cases h2 : g 2 = 70
        · by_cases h3 : g 3 = 49
          · rw [eqI_t fun i hi => ?_]
            · unfold mg3 mg2 mg1 mg0; rw [h0, h1, h2, h3]; rfl
            · match i, hi with
              | 0, _ => exact h0
              | 1, _ => exact h1
              | 2, _ => exact h2
              | 3, _ => exact h3
          · rw [eqI_f hg4 hb (k := 3) (by omega) h3]
            unfold mg3 mg2 mg1 mg0; rw [h0, h1, h2, beq_false_of_ne h3]; rfl
        · rw [eqI_f hg4 hb (k := 2) (by omega) h2]
          unfold mg3 mg2 mg1 mg0; rw [h0, h1, beq_false_of_ne h2]; rfl
      · rw [eqI_f hg4 hb (k := 1) (by omega) h1]
        unfold mg3 mg2 mg1 mg0; rw [h0, beq_false_of_ne h1]; rfl
    · rw [eqI_f hg4 hb (k := 0) (by omega) h0]
      unfold mg3 mg2 mg1 mg0; rw [beq_false_of_ne h0]; rfl
  rw [e] at h0
  exact h0
/-- What is made ahead of all else. -/
def bkV (W H : Int) (n m : Nat) : AV := .tup [.agg [iA W, iA H, .osl 0 1 0 n, .osl 1 1 0 m], iA 0]
def bkRows (n m : Nat) : List Row := [.a 3 1 n (fun _ => [iA 0]), .a 3 1 m (fun _ => [iA 0])]
theorem plainB (n m : Nat) : PlainRows (bkRows n m) := by
  intro k e sz c el hk i hi
  match k, hk with
  | 0, hk => cases hk; rfl
  | 1, hk => cases hk; rfl
  | k + 2, hk => simp [bkRows] at hk
abbrev BBad (n : Nat) (g : Nat → Int) (e : Int) : Prop := FSpec Try.prog 23 [sB n g] (.tup [.agg flmZ, iA e])
section
variable {n : Nat} {g : Nat → Int}
theorem bbad_of {e : Int} {mem : List Row} (h : GSpec Try.prog 23 [sB n g] [] (.tup [.agg flmZ, iA e]) mem) (hp : PlainRows mem) : BBad n g e :=
  (fresh_rows h (by rfl) hp).spec rfl rfl
theorem plain0 : PlainRows [] := fun k e sz c el hk => by simp at hk
theorem bk_short (h : n < 6) : BBad n g 8 := by
  refine bbad_of (gspecG (mem := []) e_nil (k_cons (kS_ok (P := Try.prog) (f := 25) (g := eqG fun _ _ _ _ => true)) (k_cons (kno_ok _) k_nil)) m_nil Try.func23 (by kernel_rfl) (by kernel_rfl) noL_okN rfl (by kernel_rfl) ((bk_ev0 (fun _ _ _ _ => true) n g).trans ?_)) plain0
  unfold bkX
  rw [decide_eq_true (show (n : Int) < 6 by omega)]
  rfl
theorem bk_form (hn : 6 ≤ n) (hg : ∀ i, i < n → 0 ≤ g i ∧ g i ≤ 255) (hm : mg3 g = true) : BBad n g 11 := by
  refine bbad_of (gspecG (mem := []) e_nil (k_cons (kS_ok (P := Try.prog) (f := 25) (g := eqG fun _ _ _ _ => !mg3 g)) (k_cons (kno_ok _) k_nil)) m_nil Try.func23 (by kernel_rfl) (by kernel_rfl) noL_okN rfl (by kernel_rfl) ((bk_ev0 (fun _ _ _ _ => !mg3 g) n g).trans ?_)) plain0
  unfold bkX
  rw [decide_eq_false (show ¬ (n : Int) < 6 by omega), gate_pos (hp_mk hn hg), hm]
  rfl
theorem gW_eq (hn : 6 ≤ n) (hg : ∀ i, i < n → 0 ≤ g i ∧ g i ≤ 255) : gW g = g 4 ∧ gH g = g 5 := by
  obtain ⟨a, b⟩ := hg 4 (by omega)
  obtain ⟨c, d⟩ := hg 5 (by omega)
  exact ⟨w64_id (by omega) (by omega), w64_id (by omega) (by omega)⟩
theorem ix45 (hn : 6 ≤ n) : ixB 4 n = true ∧ ixB 5 n = true := ⟨ixB_t (i := 4) (by omega), ixB_t (i := 5) (by omega)⟩
theorem bk_sides (hn : 6 ≤ n) (hg : ∀ i, i < n → 0 ≤ g i ∧ g i ≤ 255) (hm : mg3 g = false) (hb : fbad (g 4) (g 5) = true) : BBad n g 4 := by
  have hnew : FSpec Try.prog 26 [iA (g 4), iA (g 5)] (.tup [.agg flmZ, iA 4]) := by
    have hev := nw_ev0 isd (g 4) (g 5)
    rw [cSd_eq, hb] at hev
    exact gspec (e_cons gSd_ok e_nil) k_nil Try.func26 (by kernel_rfl) (by kernel_rfl) noL_ok rfl hev
  refine bbad_of (gspecG (mem := []) e_nil (k_cons (kS_ok (P := Try.prog) (f := 25) (g := eqG fun _ _ _ _ => !mg3 g)) (k_cons (kS_ok (P := Try.prog) (f := 26) (g := fun _ => .tup [.agg flmZ, iA 4])) (k_cons (kno_ok _) k_nil))) m_nil Try.func23 (by kernel_rfl) (by kernel_rfl) noL_okN rfl (by kernel_rfl) ((bk_ev4 (fun _ _ _ _ => !mg3 g) n g 4).trans ?_)) plain0
  obtain ⟨i4, i5⟩ := ix45 hn
  obtain ⟨w4, w5⟩ := gW_eq hn hg
  unfold bkX
  rw [decide_eq_false (show ¬ (n : Int) < 6 by omega), gate_pos (hp_mk hn hg), hm, w4, w5, gate_pos hnew, i4, i5]
  rfl
theorem bk_rest (hn : 6 ≤ n) (hg : ∀ i, i < n → 0 ≤ g i ∧ g i ≤ 255) (hm : mg3 g = false) (hb : fbad (g 4) (g 5) = false) :
    (n < 21 * ldP g + 10 → BBad n g 8) ∧ (n > 21 * ldP g + 10 → BBad n g 5) ∧ (n = 21 * ldP g + 10 → GSpec Try.prog 23 [sB n g] [] (bkV (g 4) (g 5) (3 * ldP g) (ldP g)) (bkRows (3 * ldP g) (ldP g))) := by
  obtain ⟨i4, i5⟩ := ix45 hn
  obtain ⟨w4, w5⟩ := gW_eq hn hg
  obtain ⟨w1, w2, w3, w4'⟩ := nw_eq hb
  have en : nwN (g 4) (g 5) = 3 * ldP g := by unfold nwN ldP; rw [w1]; omega
  have em : nwM (g 4) (g 5) = ldP g := by unfold nwM ldP; rw [w2]
  have hP : ldP g ≤ 4096 := by unfold ldP; omega
  have hN : NUok nwN nwM (g 4) (g 5) := nw_G hb
  have hs : SBb sbtI (g 4) (g 5) (3 * ldP g) (ldP g) := sbt_spec ⟨g 4, g 5, 3 * ldP g, fun _ => 0, ldP g, fun _ => 0⟩
  have hl : lnF (3 * ldP g) (ldP g) = true := by unfold lnF; rw [ble_t (by omega), ble_t (by omega)]; rfl
  have hS : sbtI (3 * ldP g) (ldP g) = ((21 * ldP g + 10 : Nat) : Int) := by
    unfold sbtI
    rw [w64_id (n := 6 * ((3 * ldP g : Nat) : Int)) (by omega) (by omega), w64_id (n := 6 + 6 * ((3 * ldP g : Nat) : Int)) (by omega) (by omega), w64_id (n := 3 * ((ldP g : Nat) : Int)) (by omega) (by omega), w64_id (n := 6 + 6 * ((3 * ldP g : Nat) : Int) + 3 * ((ldP g : Nat) : Int)) (by omega) (by omega), w64_id (by omega) (by omega)]
    omega
  have ks := k_cons (kS_ok (P := Try.prog) (f := 25) (g := eqG fun _ _ _ _ => !mg3 g)) (k_cons (kS_ok (P := Try.prog) (f := 17) (g := sbtG sbtI)) k_nil)
  have ms := m_cons (mR_ok (P := Try.prog) (f := 26) (g := nwU nwN nwM) (m := nwT nwN nwM)) m_nil
  have hev := bk_ev (fun _ _ _ _ => !mg3 g) sbtI nwN nwM n g
  have e3 : (!(!mg3 g)) = false := by rw [hm]; rfl
  unfold bkX bkR bkB bkG g45 at hev
  simp only [e3] at hev
  rw [decide_eq_false (show ¬ (n : Int) < 6 by omega), gate_pos (hp_mk hn hg), w4, w5, i4, i5, propB_t hN, en, em, hl, gate_pos hs, gate_pos hs, hS] at hev
  have G : ∀ {v : AV}, evG Try.prog [] [kS Try.prog 25 (eqG fun _ _ _ _ => !mg3 g), kS Try.prog 17 (sbtG sbtI)] [mR Try.prog 26 (nwU nwN nwM) (nwT nwN nwM)] noL Try.f23 [sB n g] [] [some 2, some 3] = gout v (bkRows (3 * ldP g) (ldP g)) → GSpec Try.prog 23 [sB n g] [] v (bkRows (3 * ldP g) (ldP g)) := fun h =>
    gspecG (mem := []) e_nil ks ms Try.func23 (by kernel_rfl) (by kernel_rfl) noL_okN rfl (by kernel_rfl) h
  refine ⟨fun h => bbad_of (G (hev.trans ?_)) (plainB _ _), fun h => bbad_of (G (hev.trans ?_)) (plainB _ _), fun h => G (hev.trans ?_)⟩
  · rw [decide_eq_true (show (n : Int) < ((21 * ldP g + 10 : Nat) : Int) by omega)]; rfl
  · rw [decide_eq_false (show ¬ (n : Int) < ((21 * ldP g + 10 : Nat) : Int) by omega), decide_eq_true (show (n : Int) > ((21 * ldP g + 10 : Nat) : Int) by omega)]; rfl
  · rw [decide_eq_false (show ¬ (n : Int) < ((21 * ldP g + 10 : Nat) : Int) by omega), decide_eq_false (show ¬ (n : Int) > ((21 * ldP g + 10 : Nat) : Int) by omega)]; rfl
end
end Go.Proofs.Ythplpfmglleacaa

namespace Go.Proofs.Ythplpfmglleacaa
open Go.Gv

abbrev FLf : Type := (Nat → List AV) → Nat → Nat → Int
noncomputable def fiC (ff : FLf) : List AV → List Row → Option (Bool × AV × List Row)
  | [.osl 0 1 0 N, .sl 1 L el, .x (.int .i64 s)], [.a e sz m el0] => some (propB (GSpec Try.prog 24 [.osl 0 1 0 N, .sl 1 L el, iA s] [.a e sz m el0] (.sl 1 (L - s.toNat * N) fun j => el (s.toNat * N + j)) [.a 3 1 N fun j => [iA (ff el s.toNat j)]]), .sl 1 (L - s.toNat * N) fun j => el (s.toNat * N + j), [.a 3 1 N fun j => [iA (ff el s.toNat j)]])
  | _, _ => none
noncomputable def mFi (ff : FLf) : MEntry := ⟨24, liftM (some 0) (fiC ff), none⟩
theorem mFi_ok {ff : FLf} : MEOk Try.prog (mFi ff) := by
  refine ⟨liftM_ok fun args rs v mem1 hc => ?_, fun _ h => by cases h⟩
  unfold fiC at hc
  split at hc
  · simp only [Option.some.injEq, Prod.mk.injEq] at hc
    obtain ⟨h1, rfl, rfl⟩ := hc
    refine ⟨propB_of h1, fun i hi hw => ?_⟩
    have : i = 0 := by simpa using hi
    subst this
    exact absurd rfl hw
  · cases hc
abbrev NBc (nf : Nat → (Nat → List AV) → Int) (g : Nat → Int) (lo hi : Option Int) (n : Nat) : Prop := FSpec Try.prog 19 [.sl 1 (sbN lo hi n) (sbE g lo)] (iA (nf (sbN lo hi n) (sbE g lo)))
abbrev CKc (sf : Nat → (Nat → List AV) → Int) (g : Nat → Int) (lo hi : Option Int) (n : Nat) : Prop := FSpec Try.prog 18 [.sl 1 (sbN lo hi n) (sbE g lo)] (iA (sf (sbN lo hi n) (sbE g lo)))
def s4 (n : Nat) : Int := w64 ((n : Int) - 4)
abbrev FLo (ff : FLf) (N L : Nat) (S : Nat) (el : Nat → List AV) : Prop := GSpec Try.prog 24 [.osl 0 1 0 N, .sl 1 L el, iA (S : Int)] [.a 3 1 N fun _ => [iA 0]] (.sl 1 (L - S * N) fun j => el (S * N + j)) [.a 3 1 N fun j => [iA (ff el S j)]]
noncomputable def flQ (p : Prop) (N : Nat) : Bool := (propB p && (Nat.blt 0 (0 + N) && true)) || false
section
variable (nf sf : Nat → (Nat → List AV) → Int) (mf : MF) (ff : FLf) (n : Nat) (g : Nat → Int) (W H : Int) (N M : Nat)
def e6 (g : Nat → Int) : Nat → List AV := sbE g (some 6)
def L6 (n : Nat) : Nat := sbN (some 6) none n
def e7 (g : Nat → Int) (N : Nat) : Nat → List AV := fun j => e6 g (6 * N + j)
def lC : List AV := [iA W, iA H, .sl 1 N fun i => [iA (ff (e6 g) 6 (0 + i))], .sl 1 M fun i => [iA (ff (e7 g N) 3 (0 + i))]]
def lM : Int := mf W H N (fun i => [iA (ff (e6 g) 6 (0 + i))]) M (fun i => [iA (ff (e7 g N) 3 (0 + i))])
def lR : List Row := [.a 3 1 N fun j => [iA (ff (e6 g) 6 j)], .a 3 1 M fun j => [iA (ff (e7 g N) 3 j)]]
noncomputable def ldZ : Option Out :=
  cond (flQ (FLo ff M (L6 n - 6 * N) 3 (e7 g N)) M) (cond (lnF N M) (gate (FSpec Try.prog 16 [.agg (lC ff g W H N M)] (fmG mf [.agg (lC ff g W H N M)]))
    (cond (!(lM mf ff g W H N M == 0)) (gout (.tup [.agg flmZ, iA (lM mf ff g W H N M)]) (lR ff g N M)) (gout (bkV W H N M) (lR ff g N M)))) none) none
theorem cl_ev : evG Try.prog [] [kS Try.prog 19 (nbG nf), kS Try.prog 18 (suG sf), kS Try.prog 16 (fmG mf)] [mR Try.prog 23 (fun _ => bkV W H N M) (fun _ => bkRows N M), mFi ff] noL Try.f20 [sB n g] [] [some 1, some 2] =
    cond (propB (GSpec Try.prog 23 [sB n g] [] (bkV W H N M) (bkRows N M))) (gate (NBc nf g (some (s4 n)) none n) (gate (CKc sf g none (some (s4 n)) n) (cond ((sbB (some (s4 n)) none none n || false) && ((sbB none (some (s4 n)) none n || false) && true))
      (cond (!(nf (sbN (some (s4 n)) none n) (sbE g (some (s4 n))) == sf (sbN none (some (s4 n)) n) (sbE g none))) (gout (.tup [.agg flmZ, iA 12]) (bkRows N M))
        (cond ((sbB (some 6) none none n || false) && (flQ (FLo ff N (L6 n) 6 (e6 g)) N && true)) (ldZ mf ff n g W H N M) none)) none))) none := by kernel_rfl
theorem cl_bad (e : Int) : ev Try.prog [] [kS Try.prog 23 (fun _ => .tup [.agg flmZ, iA e]), ⟨19, fun _ _ => none⟩] noL Try.f20 [sB n g] ret =
    gate (BBad n g e) (cond (!(e == 0)) (fBad e) none) := by kernel_rfl
end
end Go.Proofs.Ythplpfmglleacaa

namespace Go.Proofs.Ythplpfmglleacaa
open Go.Gv

/-! ### Films that are the same as far as they go -/
theorem allI_congr {n : Nat} {p q : Nat → Bool} (h : ∀ i, i < n → p i = q i) : allI n p = allI n q := by
  rcases all_or_first p n with hp | ⟨K, hK, hf, _⟩
  · rw [allI_t hp, allI_t fun i hi => (h i hi).symm.trans (hp i hi)]
  · rw [allI_f hK hf, allI_f hK ((h K hK).symm.trans hf)]
theorem fmay_congr {f g : Flm} (hW : f.W = g.W) (hH : f.H = g.H) (en : f.n = g.n) (em : f.m = g.m) (hl : ∀ i, i < f.n → f.lt i = g.lt i) (hs : ∀ i, i < f.m → f.sh i = g.sh i) : fmay f = fmay g := by
  have e1 : fcnt f = fcnt g := by unfold fcnt; rw [hW, hH, en, em]
  have e2 : fval f = fval g := by
    unfold fval
    rw [allI_congr (p := fun i => !ofB (f.lt i) 1099511627776) (q := fun i => !ofB (g.lt i) 1099511627776) fun i hi => by rw [hl i hi], allI_congr (p := fun i => !ofB (f.sh i) 1048576) (q := fun i => !ofB (g.sh i) 1048576) fun i hi => by rw [hs i hi], en, em]
  unfold fmay
  rw [hW, hH, e1, e2]
theorem flm_like {E : Env} {f g : Flm} {v : Value} (hW : f.W = g.W) (hH : f.H = g.H) (en : f.n = g.n) (em : f.m = g.m) (hl : ∀ i, i < f.n → f.lt i = g.lt i) (hs : ∀ i, i < f.m → f.sh i = g.sh i) (h : rel E (.agg f.c) v) : rel E (.agg g.c) v := by
  obtain ⟨W, H, n, lt, m, sh⟩ := f
  obtain ⟨W', H', n', lt', m', sh'⟩ := g
  simp only at hW hH en em hl hs
  subst hW
  subst hH
  subst en
  subst em
  obtain ⟨vs, h1, h2⟩ := rel_agg.1 h
  refine rel_agg.2 ⟨vs, h1, ?_⟩
  obtain ⟨u0, t0, e0, r0, h2⟩ := rels_cons.1 h2
  obtain ⟨u1, t1, e1, r1, h2⟩ := rels_cons.1 h2
  obtain ⟨u2, t2, e2, r2, h2⟩ := rels_cons.1 h2
  obtain ⟨u3, t3, e3, r3, h2⟩ := rels_cons.1 h2
  exact rels_cons.2 ⟨u0, t0, e0, r0, rels_cons.2 ⟨u1, t1, e1, r1, rels_cons.2 ⟨u2, t2, e2, sl_like r2 (fun i hi => congrArg (fun z => [iA z]) (hl i hi).symm), rels_cons.2 ⟨u3, t3, e3, sl_like r3 (fun i hi => congrArg (fun z => [iA z]) (hs i hi).symm), h2⟩⟩⟩⟩
theorem ofB_false {x M : Int} (h : ofB x M = false) : 0 ≤ x ∧ x ≤ M := by
  unfold ofB at h
  by_cases h1 : x < 0 <;> by_cases h2 : x > M <;> simp [h1, h2] at h
  omega
theorem fval_all {f : Flm} (h : fval f = true) : (∀ i, i < f.n → 0 ≤ f.lt i ∧ f.lt i ≤ 1099511627776) ∧ ∀ i, i < f.m → 0 ≤ f.sh i ∧ f.sh i ≤ 1048576 := by
  unfold fval at h
  simp only [Bool.and_eq_true] at h
  exact ⟨fun i hi => ofB_false (by simpa using allI_all h.1 i hi), fun i hi => ofB_false (by simpa using allI_all h.2 i hi)⟩
end Go.Proofs.Ythplpfmglleacaa
