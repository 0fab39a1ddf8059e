/-
  Gyr Roq Ror Ros Rot Gya Rou Rov Row Rsz, one behind the other.
-/
import Derived.Test.YtgijfbcfajhmlaaM5
namespace Go.Gv
open Go.RowKit Go.Ev
noncomputable section

/-- A contract over all of our rows, asked for where it is used. -/
def wQ (P : Program) (f : Nat) (g : List AV → List Row → AV) (m : List AV → List Row → List Row) : WEntry := ⟨f, fun args mem => some (propB (WSpec P f args mem (g args mem) (m args mem)), g args mem, m args mem)⟩
theorem wQ_ok {P : Program} {f : Nat} {g : List AV → List Row → AV} {m : List AV → List Row → List Row} : WEOk P (wQ P f g m) := fun args mem v mem1 h => by
  have h : some (propB (WSpec P f args mem (g args mem) (m args mem)), g args mem, m args mem) = some (true, v, mem1) := h
  simp only [Option.some.injEq, Prod.mk.injEq] at h
  obtain ⟨h1, rfl, rfl⟩ := h
  exact propB_of h1
/-- A struct of ours, of two cells, looked at. -/
def rS2 (P : Program) (f : Nat) (g : List AV → AV) : REntry := ⟨f, fun args look => match args with
  | .own k 0 :: rest => match look k with
    | some (.c [x, y]) => match lookC look y with
      | some (b, y', rd) => cond (noOwn x && noOwns rest) (some (propB (FreshSpec P f (.ref [x, y'] 0 :: rest) (g (.ref [x, y'] 0 :: rest)) ∧ noOwn (g (.ref [x, y'] 0 :: rest)) = true) && b, g (.ref [x, y'] 0 :: rest), k :: rd)) none
      | none => none
    | _ => none
  | _ => none⟩
theorem rS2_ok {P : Program} {f : Nat} {g : List AV → AV} : REOk P (rS2 P f g) := by
  refine ⟨fun args look look' b v rd h hl => ?_, fun args look v rd h => ?_⟩
  · simp only [rS2] at h ⊢
    split at h
    · rename_i k rest
      split at h
      · rename_i x y hk
        split at h
        · rename_i b' y' rd' hx
          cases hn : (noOwn x && noOwns rest)
          · rw [hn] at h; cases h
          · rw [hn] at h
            have h' := h
            simp only [cond_true, Option.some.injEq, Prod.mk.injEq] at h'
            obtain ⟨_, _, rfl⟩ := h'
            rw [← hl k (by simp), hk]
            simp only
            rw [lookC_par hx fun j hj => hl j (by simp [hj])]
            simp only
            rw [hn]
            exact h
        · cases h
      · cases h
    · cases h
  · simp only [rS2] at h
    split at h
    · rename_i k rest
      split at h
      · rename_i x y hk
        split at h
        · rename_i b' y' rd' hx
          cases hn : (noOwn x && noOwns rest)
          · rw [hn] at h; cases h
          · rw [hn] at h
            simp only [cond_true, Option.some.injEq, Prod.mk.injEq, Bool.and_eq_true] at h hn
            obtain ⟨⟨h1, rfl⟩, rfl, rfl⟩ := h
            obtain ⟨hF, hno⟩ := propB_of h1
            refine ⟨hF.1, fun A0 R w0 E mem cargs hW hl hg hr => ?_⟩
            have hg' : glob (Env.shut E) := glob_O (glob_le (E := E) (E' := ⟨E.w, fun _ => False, E.O⟩) ⟨fun _ _ _ hob => ⟨id, hob⟩, fun _ _ h => h⟩ hg) _
            obtain ⟨u, us, e1, r1, r2⟩ := rels_cons.1 hr
            obtain ⟨b, c, hO, rfl⟩ := rel_own.1 r1
            obtain ⟨row, g1, g2⟩ := hW.rows k b c hO
            rw [hl k (by simp), hk] at g1
            cases g1
            obtain ⟨cs, e, k1, k2⟩ := g2
            obtain ⟨u0, us0, e3, p0, k2⟩ := pre_cons.1 k2
            obtain ⟨u1, us1, e4, p1, _⟩ := pre_cons.1 k2
            have hsh : ∀ b, ¬ E.A b → ∀ ob, E.w.heap[b]? = some ob → ¬ E.shut.A b ∧ E.shut.w.heap[b]? = some ob := fun _ _ _ hob => ⟨fun h => h, hob⟩
            have q0 : rel E.shut x u0 := relA_noOwn x hsh hn.1 u0 p0
            have q1 := lookC_good hW.rows hx (fun j hj => hl j (by simp [hj])) p1
            have hr' : rels E.shut (.ref [x, y'] 0 :: rest) cargs.toList := by
              rw [e1]
              refine rels_cons.2 ⟨_, _, rfl, rel_ref.2 ⟨b, 0, cs, e, (0, 0), rfl, fun h => h, k1, ?_⟩, rels_noOwn r2 hn.2 hsh⟩
              rw [List.drop_zero, e3, e4]
              exact pre_cons.2 ⟨u0, _, rfl, q0, pre_cons.2 ⟨u1, us1, rfl, q1, pre_nil⟩⟩
            refine (hF.2 E.w cargs hr' hg').mono ?_
            rintro e' w' ⟨v', rfl, hv, hbel⟩
            exact ⟨v', rfl, relA_noOwn (g (.ref [x, y'] 0 :: rest)) (E := ⟨w', fun b => b < E.w.heap.size, fun _ => none⟩) (E' := { E with w := w' }) (fun b hnb ob hob => ⟨fun hA => hnb (hW.small b hA), hob⟩) hno v' hv, hbel⟩
        · cases h
      · cases h
    · cases h
/-- The second row gets the third number. -/
theorem gspec_move {P : Program} {f : Nat} {args : List AV} {mem : List Row} {v X : AV} {T : TypeId} {sz m : Nat} {u : Nat → List AV} (hlen : mem.length = 2) (h : GSpec P f args mem v [.c [X, .osl 1 sz 0 m], .a T sz m u]) : GSpec P f args mem v [.c [X, .osl 2 sz 0 m], .dead, .a T sz m u] := by
  refine ⟨h.1, fun R E cargs hp hW hg hr => (h.2 R E cargs hp hW hg hr).mono ?_⟩
  rintro e w' ⟨x, E', rfl, rfl, hW2, hx⟩
  have h2 : E.O 2 = none := hp.1 2 (by omega)
  have dom : ∀ k p, E'.O k = some p → k = 0 ∨ k = 1 := fun k p hk => by
    obtain ⟨row, h1, _⟩ := hW2.rows k p.1 p.2 hk
    have := (List.getElem?_eq_some_iff.1 h1).1
    simp only [List.length_cons, List.length_nil] at this
    omega
  let O2 : Nat → Option (Nat × Nat × Nat) := fun k => if k = 2 then E'.O 1 else E'.O k
  let E2 : Env := { E' with O := O2 }
  have hle : E'.le E2 := ⟨fun b hb ob hob => ⟨hb, hob⟩, fun k p hk => by
    have hne : k ≠ 2 := by rcases dom k p hk with h | h <;> omega
    show (if k = 2 then E'.O 1 else E'.O k) = some p
    rw [if_neg hne]; exact hk⟩
  have cases3 : ∀ k p, E2.O k = some p → (k = 0 ∧ E'.O 0 = some p) ∨ (k = 1 ∧ E'.O 1 = some p) ∨ (k = 2 ∧ E'.O 1 = some p) := fun k p hk => by
    have hk : (if k = 2 then E'.O 1 else E'.O k) = some p := hk
    by_cases h : k = 2
    · rw [if_pos h] at hk; exact Or.inr (Or.inr ⟨h, hk⟩)
    · rw [if_neg h] at hk
      rcases dom k p hk with rfl | rfl
      · exact Or.inl ⟨rfl, hk⟩
      · exact Or.inr (Or.inl ⟨rfl, hk⟩)
  refine ⟨x, E2, rfl, rfl, ⟨?_, hW2.small, hW2.old, ?_, ?_, hW2.below, hW2.le0.trans hle⟩, rel_le hle hx⟩
  · intro k b c hb
    rcases cases3 k _ hb with ⟨rfl, h1⟩ | ⟨rfl, h1⟩ | ⟨rfl, h1⟩
    · obtain ⟨row, g1, g2⟩ := hW2.rows 0 b c h1
      cases g1
      obtain ⟨cs, e, k1, k2⟩ := g2
      obtain ⟨u0, us0, e3, p0, k2⟩ := pre_cons.1 k2
      obtain ⟨u1, us1, e4, p1, k3⟩ := pre_cons.1 k2
      refine ⟨_, rfl, cs, e, k1, ?_⟩
      rw [e3, e4]
      refine pre_cons.2 ⟨u0, _, rfl, rel_le hle p0, pre_cons.2 ⟨u1, us1, rfl, ?_, pre_nil⟩⟩
      rcases rel_osl.1 p1 with g | ⟨b', c', n', g1, g2⟩
      · exact rel_osl.2 (Or.inl g)
      · exact rel_osl.2 (Or.inr ⟨b', c', n', by show (if 2 = 2 then E'.O 1 else E'.O 2) = _; rw [if_pos rfl]; exact g1, g2⟩)
    · exact ⟨.dead, rfl, trivial⟩
    · obtain ⟨row, g1, g2⟩ := hW2.rows 1 b c h1
      cases g1
      exact ⟨_, rfl, g2⟩
  · intro k b c hb hlv
    rcases cases3 k _ hb with ⟨rfl, h1⟩ | ⟨rfl, h1⟩ | ⟨rfl, h1⟩
    · exact hW2.own 0 b c h1 rfl
    · cases hlv
    · exact hW2.own 1 b c h1 rfl
  · intro k k' b c c' hb hb' hlv hlv'
    rcases cases3 k _ hb with ⟨rfl, h1⟩ | ⟨rfl, h1⟩ | ⟨rfl, h1⟩
    · rcases cases3 k' _ hb' with ⟨rfl, h1'⟩ | ⟨rfl, h1'⟩ | ⟨rfl, h1'⟩
      · rfl
      · cases hlv'
      · have := hW2.one 0 1 b c c' h1 h1' rfl rfl
        cases this
    · cases hlv
    · rcases cases3 k' _ hb' with ⟨rfl, h1'⟩ | ⟨rfl, h1'⟩ | ⟨rfl, h1'⟩
      · have := hW2.one 1 0 b c c' h1 h1' rfl rfl
        cases this
      · cases hlv'
      · rfl
end
end Go.Gv

namespace Go.Proofs.Ytgijfbcfajhmlaa
open Go.Gv

def skM (k : Nat) (C : Nat → Ply) (m : Nat) (u : Nat → Int) : List Row := [.c [chA k C, .osl 1 1 0 m], .a 3 1 m fun q => [iA (u q)]]
def skR (k : Nat) (C : Nat → Ply) (m : Nat) (el : Nat → List AV) : List Row := [.c [chA k C, .osl 2 1 0 m], .dead, .a 3 1 m el]
section
variable (k : Nat) (C : Nat → Ply) (m : Nat) (u : Nat → Int) (la lb ls ha hb hs : Int)
def skG : List AV := [.own 0 0, cutA la lb ls, cutA ha hb hs]
def skB : Bool := cond (w64 (lb - hb) == 1) (!(ls == hs)) false
def skT (a b c d : Option Out) : Option Out := cond (w64 (lb - hb) == 0) a (cond (w64 (ha - la) == 1) b (cond (skB lb ls hb hs) c d))
theorem skA_ev : evGW Try.prog [] [] [] [] [] (oneL 5 fun _ _ => none) Try.f35 (skG la lb ls ha hb hs) (skM k C m u) [some 0, some 1] = skT la lb ls ha hb hs (gout (.tup []) (skM k C m u)) none none none := by kernel_rfl
/-! one root, told by its sign -/
abbrev SIok (r : Int) : Prop := FreshSpec Try.prog 55 [skA k C m u, cutA la lb ls, cutA ha hb hs] (iA r) ∧ noOwn (iA r) = true
noncomputable def skCb (r : Int) : Bool := ((propB (SIok k C m u la lb ls ha hb hs r) && (Nat.beq 1 1 && Nat.ble m m)) || false) && ((apB m 8 || false) && true)
theorem skC_ev (r : Int) : evGW Try.prog [] [] [] [] [rS2 Try.prog 55 (fun _ => iA r)] (oneL 5 fun _ _ => none) Try.f35 (skG la lb ls ha hb hs) (skM k C m u) [some 0, some 1, some 5] = skT la lb ls ha hb hs none none (cond (skCb k C m u la lb ls ha hb hs r) (gout (.tup []) (skR k C (m + 1) fun q => mixL (Nat.blt q m) [iA (u q)] [iA r])) none) none := by kernel_rfl
/-! in halves -/
def skMid : Int := w64 (la + w64 ((w64 (ha - la)).tdiv 2))
def sk4 (X : AV) (F : AV) (r1 : Row) (mb ms : Int) (rs : List Row) : List Row := [.c [X, F], r1, .c [iA la, iA lb, iA ls], .c [iA ha, iA hb, iA hs], .c [iA (skMid la ha), iA mb, iA ms]] ++ rs
abbrev AHok (mb ms : Int) : Prop := FreshSpec Try.prog 34 [skA k C m u, iA (skMid la ha)] (cutA (skMid la ha) mb ms) ∧ noOwn (cutA (skMid la ha) mb ms) = true
variable (mb ms : Int) (m1 : Nat) (u1 : Nat → Int) (m2 : Nat) (u2 : Nat → Int)
def skm0 : List Row := sk4 la lb ls ha hb hs (chA k C) (.osl 1 1 0 m) (.a 3 1 m fun q => [iA (u q)]) mb ms []
def skm1 : List Row := sk4 la lb ls ha hb hs (chA k C) (.osl 5 1 0 m1) .dead mb ms [.a 3 1 m1 fun q => [iA (u1 q)]]
def skm2 : List Row := sk4 la lb ls ha hb hs (chA k C) (.osl 6 1 0 m2) .dead mb ms [.dead, .a 3 1 m2 fun q => [iA (u2 q)]]
abbrev SK1 : Prop := WSpec Try.prog 35 [.own 0 0, cutA la lb ls, cutA (skMid la ha) mb ms] (skm0 k C m u la lb ls ha hb hs mb ms) (.tup []) (skm1 k C la lb ls ha hb hs mb ms m1 u1)
abbrev SK2 : Prop := WSpec Try.prog 35 [.own 0 0, cutA (skMid la ha) mb ms, cutA ha hb hs] (skm1 k C la lb ls ha hb hs mb ms m1 u1) (.tup []) (skm2 k C la lb ls ha hb hs mb ms m2 u2)
def skmF (mem : List Row) : List Row := cond (Nat.beq mem.length 5) (skm1 k C la lb ls ha hb hs mb ms m1 u1) (skm2 k C la lb ls ha hb hs mb ms m2 u2)
noncomputable def skD : Option Out := cond ((propB (AHok k C m u la ha mb ms) && (Nat.beq 1 1 && Nat.ble m m)) || false) (cond (propB (SK1 k C m u la lb ls ha hb hs mb ms m1 u1)) (cond (propB (SK2 k C la lb ls ha hb hs mb ms m1 u1 m2 u2)) (gout (.tup []) (skR k C m2 fun q => [iA (u2 q)])) none) none) none
theorem skD_ev : evGW Try.prog [] [] [] [wQ Try.prog 35 (fun _ _ => .tup []) (fun _ mem => skmF k C la lb ls ha hb hs mb ms m1 u1 m2 u2 mem)] [rS2 Try.prog 34 (fun _ => cutA (skMid la ha) mb ms)] (oneL 5 fun _ _ => none) Try.f35 (skG la lb ls ha hb hs) (skM k C m u) [some 0, some 1, some 6] = skT la lb ls ha hb hs none none none (skD k C m u la lb ls ha hb hs mb ms m1 u1 m2 u2) := by kernel_rfl
end
/-! several roots at one place -/
section
variable (k : Nat) (C : Nat → Ply) (m : Nat) (u : Nat → Int) (la lb ls ha hb hs i n : Int)
def sp0 : St := mkS 77 [(0, .own 0 0), (4, .own 2 0), (5, .own 3 0), (21, iA n), (22, iA i)] [.c [chA k C, .osl 1 1 0 m], .a 3 1 m fun q => [iA (u q)], .c [iA la, iA lb, iA ls], .c [iA ha, iA hb, iA hs]]
def sp1 (el : Nat → List AV) : St := mkS 77 [(0, .own 0 0), (4, .own 2 0), (5, .own 3 0), (21, iA n), (22, iA i)] [.c [chA k C, .osl 4 1 0 m], .dead, .c [iA la, iA lb, iA ls], .c [iA ha, iA hb, iA hs], .a 3 1 m el]
def keepSp : List Nat := [0, 4, 5, 21, 22]
def spB : Bool := (apB m 8 || false) && true
theorem sp_step0 : evCM Try.prog [] [] [] noL (loopAt Try.f35 0) (sp0 k C m u la lb ls ha hb hs i n) (finN keepSp [some 0, some 1, some 2, some 3, some 5]) = cond (decide (i < n)) (cond (spB m) (some ⟨.normal, sp1 k C (m + 1) la lb ls ha hb hs (w64 (i + 1)) n fun q => mixL (Nat.blt q m) [iA (u q)] [iA la], .any⟩) none) none := by kernel_rfl
theorem sp_step1 : evCM Try.prog [] [] [] noL (loopAt Try.f35 0) (sp1 k C m la lb ls ha hb hs i n fun q => [iA (u q)]) (finN keepSp [some 0, some 1, some 2, some 3, some 6]) = cond (decide (i < n)) (cond (spB m) (some ⟨.normal, sp1 k C (m + 1) la lb ls ha hb hs (w64 (i + 1)) n fun q => mixL (Nat.blt q m) [iA (u q)] [iA la], .any⟩) none) none := by kernel_rfl
theorem sp_end1 : evCM Try.prog [] [] [] noL (loopAt Try.f35 0) (sp1 k C m la lb ls ha hb hs i n fun q => [iA (u q)]) (finE keepSp [some 0, some 1, some 2, some 3, some 4]) = cond (decide (i < n)) (cond (spB m) none none) (some ⟨.exit 0, sp1 k C m la lb ls ha hb hs i n fun q => [iA (u q)], .any⟩) := by kernel_rfl
theorem skB_ev (m1 : Nat) (u1 : Nat → Int) (n' : Int) : evGW Try.prog [] [] [] [] [] (oneL 5 (toldP 2 keepSp [some 0, some 1, some 2, some 3] (sp0 k C m u la lb ls ha hb hs 0 n) (.exit 0) (sp1 k C m1 la lb ls ha hb hs n' n fun q => [iA (u1 q)]))) Try.f35 (skG la lb ls ha hb hs) (skM k C m u) [some 0, some 1, some 4] = skT la lb ls ha hb hs none (gate (SubN 2 (sp0 k C m u la lb ls ha hb hs 0 (w64 (lb - hb))) (sp0 k C m u la lb ls ha hb hs 0 n)) (gout (.tup []) (skR k C m1 fun q => [iA (u1 q)]))) none none := by kernel_rfl
end
end Go.Proofs.Ytgijfbcfajhmlaa

namespace Go.Proofs.Ytgijfbcfajhmlaa
open Go.Gv

/-! ### In the middle -/
def mdI (a b : Int) : Int := a + (b - a) / 2
theorem mid_eq {a b : Int} (h : a < b) (h1 : -2000000000000000 ≤ a) (h2 : b ≤ 2000000000000000) : skMid a b = mdI a b := by
  unfold skMid mdI
  rw [w64_id (n := b - a) (by omega) (by omega), Int.tdiv_eq_ediv_of_nonneg (by omega), w64_id (n := (b - a) / 2) (by omega) (by omega), w64_id (by omega) (by omega)]
theorem siM_eq {a b : Int} (h : a < b) (h1 : -2000000000000000 ≤ a) (h2 : b ≤ 2000000000000000) : siM a b = mdI a b := mid_eq h h1 h2
/-! ### single -/
def sgs (S : Int → Int) (s : Int) (p : Int × Int) : Int × Int := if S (mdI p.1 p.2) = s then (mdI p.1 p.2, p.2) else (p.1, mdI p.1 p.2)
def sgi (S : Int → Int) (s : Int) : Nat → Int × Int → Int × Int
  | 0, p => p
  | j + 1, p => sgi S s j (sgs S s p)
theorem sgi_succ (S : Int → Int) (s : Int) : ∀ j p, sgi S s (j + 1) p = sgs S s (sgi S s j p)
  | 0, _ => rfl
  | j + 1, p => sgi_succ S s j (sgs S s p)
def sgn (S : Int → Int) (s : Int) : Nat → Int × Int → Nat
  | 0, _ => 0
  | k + 1, p => if p.2 - p.1 > 1 then sgn S s k (sgs S s p) + 1 else 0
theorem sgs_in {S : Int → Int} {s : Int} {p : Int × Int} (h : p.2 - p.1 > 1) : p.1 ≤ (sgs S s p).1 ∧ (sgs S s p).2 ≤ p.2 ∧ (sgs S s p).1 < (sgs S s p).2 ∧ (sgs S s p).2 - (sgs S s p).1 < p.2 - p.1 := by
  unfold sgs mdI
  split
  · refine ⟨?_, Int.le_refl _, ?_, ?_⟩
    · show p.1 ≤ p.1 + (p.2 - p.1) / 2; omega
    · show p.1 + (p.2 - p.1) / 2 < p.2; omega
    · show p.2 - (p.1 + (p.2 - p.1) / 2) < p.2 - p.1; omega
  · refine ⟨Int.le_refl _, ?_, ?_, ?_⟩
    · show p.1 + (p.2 - p.1) / 2 ≤ p.2; omega
    · show p.1 < p.1 + (p.2 - p.1) / 2; omega
    · show p.1 + (p.2 - p.1) / 2 - p.1 < p.2 - p.1; omega
theorem sgn_ok (S : Int → Int) (s : Int) : ∀ (k : Nat) (p : Int × Int), p.1 < p.2 → (p.2 - p.1).toNat ≤ k → (∀ j, j < sgn S s k p → (sgi S s j p).2 - (sgi S s j p).1 > 1) ∧ ¬ (sgi S s (sgn S s k p) p).2 - (sgi S s (sgn S s k p) p).1 > 1 ∧ ∀ j, j ≤ sgn S s k p → p.1 ≤ (sgi S s j p).1 ∧ (sgi S s j p).2 ≤ p.2 ∧ (sgi S s j p).1 < (sgi S s j p).2
  | 0, p, h, hk => by omega
  | k + 1, p, h, hk => by
    unfold sgn
    by_cases hp : p.2 - p.1 > 1
    · rw [if_pos hp]
      obtain ⟨i1, i2, i3, i4⟩ := sgs_in (S := S) (s := s) hp
      obtain ⟨h1, h2, h3⟩ := sgn_ok S s k (sgs S s p) i3 (by omega)
      refine ⟨fun j hj => ?_, h2, fun j hj => ?_⟩
      · cases j with
        | zero => exact hp
        | succ j => exact h1 j (by omega)
      · cases j with
        | zero => exact ⟨Int.le_refl _, Int.le_refl _, h⟩
        | succ j =>
          obtain ⟨a1, a2, a3⟩ := h3 j (by omega)
          exact ⟨Int.le_trans i1 a1, Int.le_trans a2 i2, a3⟩
    · rw [if_neg hp]
      exact ⟨fun j hj => by omega, hp, fun j hj => by
        have : j = 0 := by omega
        subst this
        exact ⟨Int.le_refl _, Int.le_refl _, h⟩⟩
def sgl (S : Int → Int) (s a b : Int) : Int := (sgi S s (sgn S s (b - a).toNat (a, b)) (a, b)).1
/-- What is known of the chain: its signs just ahead of places. -/
structure SgOk (k : Nat) (C : Nat → Ply) (N S : Int → Int) (lo hi : Int) : Prop where
  k0 : 0 < k
  l : -2000000000000000 ≤ lo
  h : hi ≤ 2000000000000000
  sg : ∀ a, lo ≤ a → a ≤ hi → FSpec Try.prog 54 [PlyA (C 0), wA a] (iA (S a))
  nn : ∀ a, lo ≤ a → a ≤ hi → 0 ≤ N a ∧ N a ≤ 1000
  mono : ∀ a b, lo ≤ a → a ≤ b → b ≤ hi → N b ≤ N a
  ah : ∀ a, lo ≤ a → a ≤ hi → ∀ (m : Nat) (u : Nat → Int), FSpec Try.prog 34 [skA k C m u, iA a] (cutA a (N a) (S a))
theorem si_spec {k : Nat} {C : Nat → Ply} {N S : Int → Int} {lo hi : Int} (H : SgOk k C N S lo hi) {a b : Int} (hab : a < b) (ha : lo ≤ a) (hb : b ≤ hi) (m : Nat) (u : Nat → Int) (lb ls hb' hs : Int) : FSpec Try.prog 55 [skA k C m u, cutA a lb ls, cutA b hb' hs] (iA (sgl S ls a b)) := by
  have ks : ∀ s : Int, ∀ e, e ∈ [kS Try.prog 38 woG, kS Try.prog 54 (fun _ => iA s)] → KOk Try.prog e := fun _ => k_cons kS_ok (k_cons kS_ok k_nil)
  have hl := H.l
  have hh := H.h
  obtain ⟨h1, h2, h3⟩ := sgn_ok S ls (b - a).toNat (a, b) hab (Nat.le_refl _)
  have lead : Leads Try.prog (.loop (loopAt Try.f55 0)) (siS k C m u a lb ls b hb' hs a b) (.exit 0) (siS k C m u a lb ls b hb' hs (sgl S ls a b) (sgi S ls (sgn S ls (b - a).toNat (a, b)) (a, b)).2) := by
    refine loop_rule (fun j => siS k C m u a lb ls b hb' hs (sgi S ls j (a, b)).1 (sgi S ls j (a, b)).2) (sgn S ls (b - a).toNat (a, b)) (.exit 0) _ (by simp) (fun j hj => ?_) ?_
    · have hgt := h1 j hj
      obtain ⟨i1, i2, i3⟩ := h3 j (by omega)
      have i1 : a ≤ (sgi S ls j (a, b)).1 := i1
      have i2 : (sgi S ls j (a, b)).2 ≤ b := i2
      show Leads Try.prog _ _ .normal (siS k C m u a lb ls b hb' hs (sgi S ls (j + 1) (a, b)).1 (sgi S ls (j + 1) (a, b)).2)
      rw [sgi_succ]
      generalize sgi S ls j (a, b) = p at *
      have em := siM_eq i3 (show -2000000000000000 ≤ p.1 by omega) (show p.2 ≤ 2000000000000000 by omega)
      have hmid : p.1 ≤ mdI p.1 p.2 ∧ mdI p.1 p.2 ≤ p.2 := by unfold mdI; omega
      have st := si_step k C m u a lb ls b hb' hs p.1 p.2 (S (mdI p.1 p.2))
      unfold siT at st
      rw [em, w64_id (n := p.2 - p.1) (by omega) (by omega), decide_eq_true hgt, gate_pos (wo_spec (x := mdI p.1 p.2) (by omega) (by omega)), gate_pos (H.sg _ (by omega) (by omega)), show ixB 0 k = true from ixB_t (i := 0) H.k0] at st
      unfold sgs
      by_cases hc : S (mdI p.1 p.2) = ls
      · rw [if_pos hc]
        rw [hc, BEq.rfl] at st
        exact leads_ev (finN_sub _ _) e_nil (ks _) noL_ok st
      · rw [if_neg hc]
        rw [beq_false_of_ne hc] at st
        exact leads_ev (finN_sub _ _) e_nil (ks _) noL_ok st
    · obtain ⟨i1, i2, i3⟩ := h3 _ (Nat.le_refl _)
      have i1 : a ≤ (sgi S ls (sgn S ls (b - a).toNat (a, b)) (a, b)).1 := i1
      have i2 : (sgi S ls (sgn S ls (b - a).toNat (a, b)) (a, b)).2 ≤ b := i2
      refine leads_ev (finE_sub _ _) e_nil (ks 0) noL_ok ((si_end k C m u a lb ls b hb' hs _ _ 0).trans ?_)
      unfold siT
      rw [w64_id (by omega) (by omega), decide_eq_false h2]
      rfl
  refine gspec e_nil k_nil Try.func55 (by kernel_rfl) (by kernel_rfl) (lok_at (i := 2) 0 1 (by kernel_rfl) (by kernel_rfl) (toldF_sound (keep := keepSi) (τ := [some 0, some 1]) lead)) rfl ((si_ev k C m u a lb ls b hb' hs _ _).trans ?_)
  rw [gate_pos (Sub.refl _)]
/-! ### seek, in plain words -/
def skL (N S : Int → Int) : Nat → Int → Int → List Int
  | 0, _, _ => []
  | d + 1, a, b => if N a = N b then [] else if b - a = 1 then List.replicate (N a - N b).toNat a else if N a - N b = 1 ∧ S a ≠ S b then [sgl S (S a) a b] else skL N S d a (mdI a b) ++ skL N S d (mdI a b) b
/-- Numbers, and more behind them. -/
def apL (m : Nat) (u : Nat → Int) (L : List Int) (q : Nat) : Int := if q < m then u q else L.getD (q - m) 0
theorem apL_app (m : Nat) (u : Nat → Int) (L L' : List Int) : apL (m + L.length) (apL m u L) L' = apL m u (L ++ L') := funext fun q => by
  unfold apL
  by_cases h : q < m
  · rw [if_pos h, if_pos (show q < m + L.length by omega), if_pos h]
  · by_cases h2 : q < m + L.length
    · rw [if_pos h2, if_neg h, if_neg h, List.getD_eq_getElem?_getD, List.getD_eq_getElem?_getD, List.getElem?_append_left (by omega)]
    · rw [if_neg h2, if_neg h, List.getD_eq_getElem?_getD, List.getD_eq_getElem?_getD, List.getElem?_append_right (by omega), show q - m - L.length = q - (m + L.length) by omega]
theorem apL_one (m : Nat) (u : Nat → Int) (x : Int) {q : Nat} (hq : q < m + 1) : mixL (Nat.blt q m) [iA (u q)] [iA x] = [iA (apL m u [x] q)] := by
  rw [mixI]
  unfold apL
  cases hlt : Nat.blt q m
  · have := not_blt hlt
    have e : q = m := by omega
    subst e
    rw [if_neg (Nat.lt_irrefl _), Nat.sub_self]
    rfl
  · rw [if_pos (show q < m from Nat.le_of_ble_eq_true hlt)]
    rfl
end Go.Proofs.Ytgijfbcfajhmlaa

namespace Go.Proofs.Ytgijfbcfajhmlaa
open Go.Gv

theorem rep_next (j : Nat) (a : Int) : List.replicate (j + 1) a = List.replicate j a ++ [a] := List.replicate_succ'
theorem spB_t {m : Nat} (h : m ≤ 1000000) : spB m = true := by unfold spB; rw [apB_t (by omega)]; rfl
def spS (k : Nat) (C : Nat → Ply) (m : Nat) (u : Nat → Int) (la lb ls ha hb hs n : Int) : Nat → St
  | 0 => sp0 k C m u la lb ls ha hb hs 0 n
  | j + 1 => sp1 k C (m + (j + 1)) la lb ls ha hb hs ((j + 1 : Nat) : Int) n fun q => [iA (apL m u (List.replicate (j + 1) la) q)]
theorem sp_leads (k : Nat) (C : Nat → Ply) {m : Nat} (u : Nat → Int) (la lb ls ha hb hs : Int) {r : Nat} (hr : r ≤ 1000) (hm : m ≤ 100000) : LeadsN 2 Try.prog (.loop (loopAt Try.f35 0)) (sp0 k C m u la lb ls ha hb hs 0 ((r + 1 : Nat) : Int)) (.exit 0) (sp1 k C (m + (r + 1)) la lb ls ha hb hs ((r + 1 : Nat) : Int) ((r + 1 : Nat) : Int) fun q => [iA (apL m u (List.replicate (r + 1) la) q)]) := by
  refine loop_rule (spS k C m u la lb ls ha hb hs ((r + 1 : Nat) : Int)) (r + 1) (.exit 0) _ (by simp) (fun j hj => ?_) ?_
  · cases j with
    | zero =>
      have st := sp_step0 k C m u la lb ls ha hb hs 0 ((r + 1 : Nat) : Int)
      rw [decide_eq_true (show (0 : Int) < ((r + 1 : Nat) : Int) by omega), spB_t (by omega)] at st
      refine (leads_evMN (finN_subN _ (by rfl)) e_nil k_nil m_nil noL_okN st).sub (SubN.refl _) ?_
      refine sub_same ⟨Or.inl rfl, Or.inl rfl, Or.inl rfl, Or.inl rfl, Or.inr ⟨3, 1, m + 1, _, _, rfl, rfl, fun q hq => ?_⟩, trivial⟩
      exact (apL_one m u la hq).symm
    | succ j =>
      have st := sp_step1 k C (m + (j + 1)) (apL m u (List.replicate (j + 1) la)) la lb ls ha hb hs ((j + 1 : Nat) : Int) ((r + 1 : Nat) : Int)
      rw [dec_lt (by omega), spB_t (by omega), w64_next (by omega)] at st
      refine (leads_evMN (finN_subN _ (by rfl)) e_nil k_nil m_nil noL_okN st).sub (SubN.refl _) ?_
      refine sub_same ⟨Or.inl rfl, Or.inl rfl, Or.inl rfl, Or.inl rfl, Or.inr ⟨3, 1, m + (j + 1) + 1, _, _, rfl, rfl, fun q hq => ?_⟩, trivial⟩
      have e := apL_app m u (List.replicate (j + 1) la) [la]
      rw [List.length_replicate] at e
      rw [apL_one _ _ la hq, e, rep_next (j + 1)]
  · refine leads_evMN (finE_subN _ (by rfl)) e_nil k_nil m_nil noL_okN ((sp_end1 k C (m + (r + 1)) (apL m u (List.replicate (r + 1) la)) la lb ls ha hb hs ((r + 1 : Nat) : Int) ((r + 1 : Nat) : Int)).trans ?_)
    rw [dec_self, cond_false]
theorem skL_len {N S : Int → Int} {lo hi : Int} (mono : ∀ a b, lo ≤ a → a ≤ b → b ≤ hi → N b ≤ N a) : ∀ (d : Nat) (a b : Int), lo ≤ a → a ≤ b → b ≤ hi → ((skL N S d a b).length : Int) ≤ N a - N b
  | 0, a, b, h1, h2, h3 => by have := mono a b h1 h2 h3; show (0 : Int) ≤ _; omega
  | d + 1, a, b, h1, h2, h3 => by
    have h := mono a b h1 h2 h3
    unfold skL
    split
    · show (0 : Int) ≤ _; omega
    · split
      · rw [List.length_replicate]; omega
      · split
        · rename_i hs
          show (1 : Int) ≤ _
          omega
        · have hm : a ≤ mdI a b ∧ mdI a b ≤ b := by unfold mdI; omega
          have e1 := skL_len (S := S) mono d a (mdI a b) h1 hm.1 (by omega)
          have e2 := skL_len (S := S) mono d (mdI a b) b (by omega) hm.2 h3
          rw [List.length_append]
          omega
theorem lok_noneN {np : Nat} {P : Program} {c : Code} (i : Nat) : LOkN np P (oneL i fun _ _ => none) c := by
  intro c' _ i' g' _ hg
  unfold oneL at hg
  cases hb : Nat.beq i' i
  · rw [hb] at hg; cases hg
  · rw [hb] at hg
    cases hg
    constructor
    · intro s k r hr; cases hr
    · intro s s' e' hk
      have := hk fun e s => some ⟨e, s, .any⟩
      cases this
theorem len2 {l : List Nat} {i k : Nat} {a b : Nat} (hl : l = [a, b]) (h : l[i]? = some k) : (i = 0 ∧ k = a) ∨ (i = 1 ∧ k = b) := by
  subst hl
  match i, h with
  | 0, h => simp at h; exact Or.inl ⟨rfl, h.symm⟩
  | 1, h => simp at h; exact Or.inr ⟨rfl, h.symm⟩
  | n + 2, h => simp at h
section
variable {k : Nat} {C : Nat → Ply} {N S : Int → Int} {lo hi : Int}
abbrev SeekOk (k : Nat) (C : Nat → Ply) (N S : Int → Int) (a b : Int) (m : Nat) (u : Nat → Int) (L : List Int) : Prop := GSpec Try.prog 35 (skG a (N a) (S a) b (N b) (S b)) (skM k C m u) (.tup []) (skR k C (m + L.length) fun q => [iA (apL m u L q)])
theorem sk1_of {la ha : Int} {a b : Int} {m : Nat} {u : Nat → Int} {L : List Int} {mb ms : Int} (hb hs : Int) (ea : la = a) (eb : skMid la ha = b) (em : mb = N b) (es : ms = S b) (h : SeekOk k C N S a b m u L) : SK1 k C m u la (N a) (S a) ha hb hs mb ms (m + L.length) (apL m u L) := by
  subst ea eb em es
  refine wframe h [0, 1] rfl rfl rfl (fun i j hi => ?_) ⟨fun j hj hl => ?_, fun i j r hi hr => ?_, fun i r hi hr => ?_⟩
  · rcases len2 rfl hi with ⟨rfl, rfl⟩ | ⟨rfl, rfl⟩
    · exact ⟨_, rfl, rfl, rfl⟩
    · exact ⟨_, rfl, rfl, rfl⟩
  · match j, hj, hl with
    | 0, hj, _ => exact absurd (by simp) hj
    | 1, hj, _ => exact absurd (by simp) hj
    | 2, _, _ => rfl
    | 3, _, _ => rfl
    | 4, _, _ => rfl
    | n + 5, _, hl => exact absurd hl (by show ¬ n + 5 < 5; omega)
  · rcases len2 rfl hi with ⟨rfl, rfl⟩ | ⟨rfl, rfl⟩
    · cases hr; rfl
    · cases hr; rfl
  · match i, hi, hr with
    | 0, hi, _ => exact absurd hi (by show ¬ 2 ≤ 0; omega)
    | 1, hi, _ => exact absurd hi (by show ¬ 2 ≤ 1; omega)
    | 2, _, hr => cases hr; rfl
    | n + 3, _, hr => cases hr
theorem sk2_of {la ha lb ls : Int} {a b : Int} {m : Nat} {u : Nat → Int} {L : List Int} {mb ms : Int} (ea : skMid la ha = a) (eb : ha = b) (em : mb = N a) (es : ms = S a) (h : SeekOk k C N S a b m u L) : SK2 k C la lb ls ha (N b) (S b) mb ms m u (m + L.length) (apL m u L) := by
  subst ea eb em es
  refine wframe h [0, 5] rfl rfl rfl (fun i j hi => ?_) ⟨fun j hj hl => ?_, fun i j r hi hr => ?_, fun i r hi hr => ?_⟩
  · rcases len2 rfl hi with ⟨rfl, rfl⟩ | ⟨rfl, rfl⟩
    · exact ⟨_, rfl, rfl, rfl⟩
    · exact ⟨_, rfl, rfl, rfl⟩
  · match j, hj, hl with
    | 0, hj, _ => exact absurd (by simp) hj
    | 1, _, _ => rfl
    | 2, _, _ => rfl
    | 3, _, _ => rfl
    | 4, _, _ => rfl
    | 5, hj, _ => exact absurd (by simp) hj
    | n + 6, _, hl => exact absurd hl (by show ¬ n + 6 < 6; omega)
  · rcases len2 rfl hi with ⟨rfl, rfl⟩ | ⟨rfl, rfl⟩
    · cases hr; rfl
    · cases hr; rfl
  · match i, hi, hr with
    | 0, hi, _ => exact absurd hi (by show ¬ 2 ≤ 0; omega)
    | 1, hi, _ => exact absurd hi (by show ¬ 2 ≤ 1; omega)
    | 2, _, hr => cases hr; rfl
    | n + 3, _, hr => cases hr
theorem seek_spec (H : SgOk k C N S lo hi) : ∀ (d : Nat) (a b : Int), lo ≤ a → a ≤ b → b ≤ hi → b - a ≤ d → ∀ (m : Nat) (u : Nat → Int), (m : Int) + (N a - N b) ≤ 2000 → SeekOk k C N S a b m u (skL N S (d + 1) a b)
  | d, a, b, h1, h2, h3, hd, m, u, hm => by
    have hl := H.l
    have hh := H.h
    have na := H.nn a h1 (by omega)
    have nb := H.nn b (by omega) h3
    have mo := H.mono a b h1 h2 h3
    have ew : w64 (N a - N b) = N a - N b := w64_id (by omega) (by omega)
    have ew2 : w64 (b - a) = b - a := w64_id (by omega) (by omega)
    by_cases hA : N a = N b
    · have eL : skL N S (d + 1) a b = [] := by unfold skL; rw [if_pos hA]
      rw [eL]
      have g := gspecGW e_nil k_nil m_nil w_nil r_nil Try.func35 (by kernel_rfl) (by kernel_rfl) (mem := skM k C m u) (lok_noneN 5) rfl (τ := [some 0, some 1]) (by rfl) (v := .tup []) (mem1 := skM k C m u) ((skA_ev k C m u a (N a) (S a) b (N b) (S b)).trans (by
        unfold skT
        rw [ew, show N a - N b = 0 by omega]
        rfl))
      refine GSpec.of_rows (gspec_move rfl g) ⟨Or.inl rfl, Or.inl rfl, Or.inr ⟨3, 1, m, _, _, rfl, rfl, fun q hq => ?_⟩, trivial⟩
      show [iA (apL m u [] q)] = [iA (u q)]
      unfold apL
      rw [if_pos hq]
    · have e0 : (w64 (N a - N b) == 0) = false := by rw [ew]; exact beq_false_of_ne (by omega)
      by_cases hB : b - a = 1
      · obtain ⟨r, hr⟩ : ∃ r : Nat, N a - N b = ((r + 1 : Nat) : Int) := ⟨(N a - N b).toNat - 1, by omega⟩
        have eL : skL N S (d + 1) a b = List.replicate (r + 1) a := by unfold skL; rw [if_neg hA, if_pos hB, hr, Int.toNat_natCast]
        rw [eL]
        unfold SeekOk
        rw [List.length_replicate]
        refine gspecGW e_nil k_nil m_nil w_nil r_nil Try.func35 (by kernel_rfl) (by kernel_rfl) (mem := skM k C m u) (lokN_one (g := toldP 2 keepSp [some 0, some 1, some 2, some 3] (sp0 k C m u a (N a) (S a) b (N b) (S b) 0 ((r + 1 : Nat) : Int)) (.exit 0) (sp1 k C (m + (r + 1)) a (N a) (S a) b (N b) (S b) ((r + 1 : Nat) : Int) ((r + 1 : Nat) : Int) fun q => [iA (apL m u (List.replicate (r + 1) a) q)])) (i := 5) 1 (by kernel_rfl) fun j hj _ => ?_) rfl (τ := [some 0, some 1, some 4]) (by rfl) ((skB_ev k C m u a (N a) (S a) b (N b) (S b) ((r + 1 : Nat) : Int) (m + (r + 1)) (apL m u (List.replicate (r + 1) a)) ((r + 1 : Nat) : Int)).trans ?_)
        · have : j = 0 := by omega
          subst this
          exact toldP_sound (by rfl) (sp_leads k C u a (N a) (S a) b (N b) (S b) (by omega) (by omega))
        · unfold skT
          rw [e0, ew2, hB, ew, hr, gate_pos (SubN.refl _)]
          rfl
      · have e1 : (w64 (b - a) == 1) = false := by rw [ew2]; exact beq_false_of_ne hB
        by_cases hC : N a - N b = 1 ∧ S a ≠ S b
        · have hlt : a < b := by rcases Int.lt_or_eq_of_le h2 with h | h; · exact h
                                 · subst h; exact absurd rfl hA
          have eL : skL N S (d + 1) a b = [sgl S (S a) a b] := by unfold skL; rw [if_neg hA, if_neg hB, if_pos hC]
          rw [eL]
          have hs : SIok k C m u a (N a) (S a) b (N b) (S b) (sgl S (S a) a b) := ⟨fresh_plain (si_spec H hlt h1 h3 m u _ _ _ _) rfl, rfl⟩
          refine GSpec.of_rows (mem1 := skR k C (m + 1) fun q => mixL (Nat.blt q m) [iA (u q)] [iA (sgl S (S a) a b)]) (gspecGW e_nil k_nil m_nil w_nil (r_cons rS2_ok r_nil) Try.func35 (by kernel_rfl) (by kernel_rfl) (mem := skM k C m u) (lok_noneN 5) rfl (τ := [some 0, some 1, some 5]) (by rfl) ((skC_ev k C m u a (N a) (S a) b (N b) (S b) (sgl S (S a) a b)).trans ?_)) ⟨Or.inl rfl, Or.inl rfl, Or.inr ⟨3, 1, m + 1, _, _, rfl, rfl, fun q hq => (apL_one m u _ hq).symm⟩, trivial⟩
          unfold skT skB skCb
          rw [e0, e1, ew, hC.1, beq_false_of_ne hC.2, propB_t hs, apB_t (by omega), Nat.ble_eq_true_of_le (Nat.le_refl m)]
          rfl
        · have hlt : a < b := by rcases Int.lt_or_eq_of_le h2 with h | h; · exact h
                                 · subst h; exact absurd rfl hA
          have em := mid_eq hlt (by omega) (by omega)
          have hmid : a < mdI a b ∧ mdI a b < b := by unfold mdI; omega
          obtain ⟨d', rfl⟩ : ∃ d', d = d' + 1 := ⟨d - 1, by omega⟩
          have nm := H.nn (mdI a b) (by omega) (by omega)
          have m1 := H.mono a (mdI a b) h1 (by omega) (by omega)
          have m2 := H.mono (mdI a b) b (by omega) (by omega) h3
          have len1 := skL_len (S := S) H.mono (d' + 1) a (mdI a b) h1 (by omega) (by omega)
          have i1 := seek_spec H d' a (mdI a b) h1 (by omega) (by omega) (by omega) m u (by omega)
          have i2 := seek_spec H d' (mdI a b) b (by omega) (by omega) h3 (by omega) (m + (skL N S (d' + 1) a (mdI a b)).length) (apL m u (skL N S (d' + 1) a (mdI a b))) (by omega)
          have eL : skL N S (d' + 1 + 1) a b = skL N S (d' + 1) a (mdI a b) ++ skL N S (d' + 1) (mdI a b) b := by
            show (if N a = N b then [] else if b - a = 1 then List.replicate (N a - N b).toNat a else if N a - N b = 1 ∧ S a ≠ S b then [sgl S (S a) a b] else skL N S (d' + 1) a (mdI a b) ++ skL N S (d' + 1) (mdI a b) b) = _
            rw [if_neg hA, if_neg hB, if_neg hC]
          rw [eL]
          unfold SeekOk
          rw [List.length_append, ← apL_app, ← Nat.add_assoc]
          have k1 := sk1_of (la := a) (ha := b) (N b) (S b) rfl em rfl rfl i1
          have k2 := sk2_of (la := a) (ha := b) (lb := N a) (ls := S a) em rfl rfl rfl i2
          have hAH : AHok k C m u a b (N (mdI a b)) (S (mdI a b)) := by
            unfold AHok
            rw [em]
            exact ⟨fresh_plain (H.ah (mdI a b) (by omega) (by omega) m u) rfl, rfl⟩
          refine gspecGW e_nil k_nil m_nil (w_cons wQ_ok w_nil) (r_cons rS2_ok r_nil) Try.func35 (by kernel_rfl) (by kernel_rfl) (mem := skM k C m u) (lok_noneN 5) rfl (τ := [some 0, some 1, some 6]) (by rfl) ((skD_ev k C m u a (N a) (S a) b (N b) (S b) (N (mdI a b)) (S (mdI a b)) (m + (skL N S (d' + 1) a (mdI a b)).length) (apL m u (skL N S (d' + 1) a (mdI a b))) (m + (skL N S (d' + 1) a (mdI a b)).length + (skL N S (d' + 1) (mdI a b) b).length) (apL (m + (skL N S (d' + 1) a (mdI a b)).length) (apL m u (skL N S (d' + 1) a (mdI a b))) (skL N S (d' + 1) (mdI a b) b))).trans ?_)
          have eb : skB (N a) (S a) (N b) (S b) = false := by
            unfold skB
            rw [ew]
            by_cases hn : N a - N b = 1
            · have hs : S a = S b := Decidable.byContradiction fun h => hC ⟨hn, h⟩
              rw [hn, hs, show (S b == S b) = true from BEq.rfl]
              rfl
            · rw [beq_false_of_ne hn]; rfl
          unfold skT skD
          rw [e0, e1, eb, propB_t hAH, propB_t k1, propB_t k2, Nat.ble_eq_true_of_le (Nat.le_refl m)]
          rfl
  termination_by d => d
end
end Go.Proofs.Ytgijfbcfajhmlaa

namespace Go.Proofs.Ytgijfbcfajhmlaa
open Go.Gv

theorem ahd_spec {k : Nat} {C : Nat → Ply} {at' : Int} {sg : Nat → Int} (hk0 : 0 < k) (hk : k ≤ 1000) (ha : -9223372036854775808 ≤ at') (hb : at' ≤ 9223372036854775807) (h1 : ∀ q, q < k → sg q = 1 ∨ sg q = -1) (hs : ∀ q, q < k → FSpec Try.prog 54 [PlyA (C q), wA at'] (iA (sg q))) (m : Nat) (u : Nat → Int) : FSpec Try.prog 34 [skA k C m u, iA at'] (cutA at' (cgC sg k) (sg 0)) := by
  refine gspec e_nil (k_cons kS_ok (k_cons kS_ok (k_cons kS_ok k_nil))) Try.func34 (by kernel_rfl) (by kernel_rfl) noL_ok rfl ((ahd_ev k C m u at' (cgC sg k) (sg 0)).trans ?_)
  rw [gate_pos (cg_specA hk ha hb h1 hs), gate_pos (wo_spec ha hb), gate_pos (hs 0 hk0), show ixB 0 k = true from ixB_t (i := 0) hk0]
  rfl
/-! ### signs beside a place -/
theorem ah_spec {n : Nat} {f : Nat → Int} {x : Int} {K : Nat} (hb : ∀ j, j ≤ K → HB (n - j) (dit f j) x) (h0 : ∀ j, j < K → hv f n x j = 0) (hK : hv f n x K ≠ 0) : FSpec Try.prog 54 [pA n f, wA x] (iA ((hv f n x K).sign * pw1 (-1) K)) := by
  refine gspec e_nil (k_cons kS_ok k_nil) Try.func54 (by kernel_rfl) (by kernel_rfl) noL_ok rfl ((ah_ev n f x ((hv f n x K).sign * pw1 (-1) K)).trans ?_)
  rw [gate_pos (sb_spec (Or.inr rfl) hb h0 hK)]
theorem bh_spec {n : Nat} {f : Nat → Int} {x : Int} {K : Nat} (hb : ∀ j, j ≤ K → HB (n - j) (dit f j) x) (h0 : ∀ j, j < K → hv f n x j = 0) (hK : hv f n x K ≠ 0) : FSpec Try.prog 37 [pA n f, wA x] (iA ((hv f n x K).sign * pw1 1 K)) := by
  refine gspec e_nil (k_cons kS_ok k_nil) Try.func37 (by kernel_rfl) (by kernel_rfl) noL_ok rfl ((bh_ev n f x ((hv f n x K).sign * pw1 1 K)).trans ?_)
  rw [gate_pos (sb_spec (Or.inl rfl) hb h0 hK)]
/-! ### mayBe, maySeek -/
def mbB (x : Int) : Bool := cond (decide (x < -2147483648)) true (decide (x > 2147483648))
def mbS (n : Nat) (u : Nat → Int) (i : Int) : St := mkS 18 [(5, sJ n u), (6, iA (n : Nat)), (7, iA i)] []
def mbE : St := mkS 18 [(2, bA false)] []
section
variable (n : Nat) (u : Nat → Int) (i : Int)
theorem mb_step : evC Try.prog [] [] noL (loopAt Try.f14 0) (mbS n u i) (finN [5, 6, 7] []) =
    cond (decide (i < n)) (cond (ixB i n || false) (cond (mbB (u i.toNat)) none (some ⟨.normal, mbS n u (w64 (i + 1)), .any⟩)) none) none := by kernel_rfl
theorem mb_ret : evC Try.prog [] [] noL (loopAt Try.f14 0) (mbS n u i) (finR [2] []) =
    cond (decide (i < n)) (cond (ixB i n || false) (cond (mbB (u i.toNat)) (some ⟨.ret, mbE, .any⟩) none) none) none := by kernel_rfl
theorem mb_end : evC Try.prog [] [] noL (loopAt Try.f14 0) (mbS n u i) (finE [5, 6, 7] []) =
    cond (decide (i < n)) (cond (ixB i n || false) (cond (mbB (u i.toNat)) none none) none) (some ⟨.exit 0, mbS n u i, .any⟩) := by kernel_rfl
theorem mb_evG (j : Int) : ev Try.prog [] [] (oneL 2 (toldF [5, 6, 7] [] (mbS n u 0) (.exit 0) (mbS n u j))) Try.f14 [sJ n u] ret = gate (Sub (mbS n u 0) (mbS n u 0)) (some (Out.of (bA true))) := by kernel_rfl
theorem mb_evR : ev Try.prog [] [] (oneL 2 (toldF [5, 6, 7] [] (mbS n u 0) .ret mbE)) Try.f14 [sJ n u] ret = gate (Sub (mbS n u 0) (mbS n u 0)) (some (Out.of (bA false))) := by kernel_rfl
end
noncomputable def mbI (n : Nat) (u : Nat → Int) : Bool := allI n fun i => !mbB (u i)
theorem mb_spec {n : Nat} (u : Nat → Int) (hn : n ≤ 4611686018427387904) : FSpec Try.prog 14 [sJ n u] (bA (mbI n u)) := by
  have go : ∀ k, k < n → mbB (u k) = false → Leads Try.prog (loopAt Try.f14 0) (mbS n u (k : Nat)) .normal (mbS n u ((k + 1 : Nat) : Int)) := fun k hk hb => by
    have st := mb_step n u (k : Nat)
    rw [dec_lt hk, ixB_t hk, Int.toNat_natCast, hb, w64_next (by omega)] at st
    exact leads_ev (finN_sub _ _) e_nil k_nil noL_ok st
  unfold mbI
  rcases all_or_first (fun i => !mbB (u i)) n with hl | ⟨K, hK, hp, hq⟩
  · have lead : Leads Try.prog (.loop (loopAt Try.f14 0)) (mbS n u 0) (.exit 0) (mbS n u (n : Nat)) := by
      refine loop_rule (fun k => mbS n u (k : Nat)) n (.exit 0) _ (by simp) (fun k hk => go k hk (by simpa using hl k hk)) ?_
      refine leads_ev (finE_sub _ _) e_nil k_nil noL_ok ((mb_end n u (n : Nat)).trans ?_)
      rw [dec_self, cond_false]
    refine gspec e_nil k_nil Try.func14 (by kernel_rfl) (by kernel_rfl) (lok_at (i := 2) 0 1 (by kernel_rfl) (by kernel_rfl) (toldF_sound (keep := [5, 6, 7]) (τ := []) lead)) rfl ((mb_evG n u _).trans ?_)
    rw [gate_pos (Sub.refl _), allI_t hl]
  · have lead : Leads Try.prog (.loop (loopAt Try.f14 0)) (mbS n u 0) .ret mbE := by
      refine loop_rule (fun k => mbS n u (k : Nat)) K .ret _ (by simp) (fun k hk => go k (by omega) (by simpa using hq k hk)) ?_
      refine leads_ev (finR_sub _ _) e_nil k_nil noL_ok ((mb_ret n u (K : Nat)).trans ?_)
      rw [dec_lt hK, ixB_t hK, Int.toNat_natCast, show mbB (u K) = true by simpa using hp]
      rfl
    refine gspec e_nil k_nil Try.func14 (by kernel_rfl) (by kernel_rfl) (lok_at (i := 2) 0 1 (by kernel_rfl) (by kernel_rfl) (toldF_sound (keep := [5, 6, 7]) (τ := []) lead)) rfl ((mb_evR n u).trans ?_)
    rw [gate_pos (Sub.refl _), allI_f hK hp]
def msI (a b : Int) : Bool := cond (decide (a ≥ -1125899906842624)) (decide (b ≤ 1125899906842624)) false
theorem ms_ev (a b : Int) : ev Try.prog [] [] noL Try.f15 [iA a, iA b] ret = some (Out.of (bA (msI a b))) := by kernel_rfl
theorem ms_spec (a b : Int) : FSpec Try.prog 15 [iA a, iA b] (bA (msI a b)) := gspec e_nil k_nil Try.func15 (by kernel_rfl) (by kernel_rfl) noL_ok rfl (ms_ev a b)
def gMs (f : Int → Int → Bool) : List AV → Option AV
  | [.x (.int .i64 a), .x (.int .i64 b)] => some (bA (f a b))
  | _ => none
theorem gMs_ok : EOk Try.prog ⟨15, gMs msI⟩ := fun args r hr => by
  simp only [gMs] at hr
  split at hr
  · cases hr; exact Or.inl (ms_spec _ _)
  · cases hr
/-! ### Roots -/
def rtBad (e : Int) : Option Out := some (Out.of (.tup [.x (.slice none 0 0), iA e]))
theorem ro_ev (sf : Int → Int → Bool) (n : Nat) (p : Nat → Int) (lo hi : Int) (b : Bool) (m : Nat) (r : Nat) (v : Nat → Int) : ev Try.prog [⟨15, gMs sf⟩] [kS Try.prog 14 (fun _ => bA b), kS Try.prog 18 (fun _ => pA n p), kS Try.prog 17 (fun _ => pA m p), kS Try.prog 16 (fun _ => sJ r v)] noL Try.f7 [sJ n p, iA lo, iA hi] ret =
    cond (decide ((n : Int) > 5)) (rtBad 4) (gate (FSpec Try.prog 14 [sJ n p] (bA b)) (cond (cond (!b) true (!sf lo hi)) (rtBad 1) (gate (FSpec Try.prog 18 [sJ n p] (pA n p)) (gate (FSpec Try.prog 17 [pA n p] (pA m p)) (gate (FSpec Try.prog 16 [pA m p, iA lo, iA hi] (sJ r v)) (some (Out.of (.tup [sJ r v, iA 0])))))))) := by kernel_rfl
end Go.Proofs.Ytgijfbcfajhmlaa

namespace Go.Gv
open Go.RowKit Go.Ev
noncomputable section

/-- In whatever order the operations are taken, what is known in the end is told by K. -/
def AnyS (P : Program) (T : Tab) (ops : Array Oper) (K : St → Prop) : Nat → Array Bool → St → Prop
  | 0, listed, s => Region.ready .any ops listed = [] ∧ K s
  | fuel + 1, listed, s => (Region.ready .any ops listed = [] → K s) ∧ ∀ i, i ∈ Region.ready .any ops listed → ∃ o s1, ops[i]? = some o ∧ AStep P T ops.toList s o s1 ∧ AnyS P T ops K fuel (listed.setIfInBounds i true) s1
theorem anyS_more {P : Program} {T : Tab} {ops : Array Oper} {K : St → Prop} {fuel : Nat} {listed : Array Bool} {s : St} (l : List Nat) (hl : Region.ready .any ops listed = l) (hne : l ≠ []) (h : ∀ i, i ∈ l → ∃ o s1, ops[i]? = some o ∧ AStep P T ops.toList s o s1 ∧ AnyS P T ops K fuel (listed.setIfInBounds i true) s1) : AnyS P T ops K (fuel + 1) listed s := by
  refine ⟨fun h0 => ?_, fun i hi => h i (by rw [← hl]; exact hi)⟩
  rw [hl] at h0
  exact absurd h0 hne
section
variable {P : Program} {T : Tab} {ops : Array Oper} {Q : Exit → Act → World → Prop} {A0 R : Nat → Prop} {w0 : Env}
theorem any_wp (hT : TOk P T) {K : St → Prop} (hQ : ∀ (E : Env) (a : Act) (s' : St), K s' → Inv A0 R w0 E s' a → Q .normal a E.w) : ∀ (fuel : Nat) (listed : Array Bool) (E : Env) (s : St) (a : Act), Inv A0 R w0 E s a → AnyS P T ops K fuel listed s → wpAny P .any ops Q fuel listed a E.w
  | 0, listed, E, s, a, hI, h => ⟨h.1, hQ E a s h.2 hI⟩
  | fuel + 1, listed, E, s, a, hI, h => by
    refine ⟨fun h0 => hQ E a s (h.1 h0) hI, fun i hi => ?_⟩
    obtain ⟨o, s1, ho, hs, h4⟩ := h.2 i hi
    have go : ∀ K' : Act → World → Prop, (∀ E' a', Inv A0 R w0 E' s1 a' → K' a' E'.w) → if Region.wanted o (yielded ops a.tmps) then o.wp P a E.w K' Q else K' (a.put o.dst undef) E.w := fun K' hK => by
      rcases hs with ⟨v, mem1, h1, h2, rfl⟩ | ⟨v, rows, h1, h2, rfl⟩ | ⟨g, c, v, h1, h2, h3, h5, rfl⟩ | ⟨b, c, eff, h1, h2, h3, rfl⟩
      · exact wstep_wp hT hI h1 h2 K' hK
      · exact nstep_wp hT hI h1 h2 K' hK
      · exact lstep_wp hT hI h1 h2 h3 h5 K' hK
      · exact astep_wp hT.flat hI h1 h2 h3 K' hK
    have g := go (wpAny P .any ops Q fuel (listed.setIfInBounds i true)) fun E' a' hI' => any_wp hT hQ fuel _ E' s1 a' hI' h4
    unfold wpOp
    rw [ho]
    simp only
    split
    · rename_i hw
      rw [if_pos hw] at g
      exact Or.inl g
    · rename_i hw
      rw [if_neg hw] at g
      exact g
end
theorem Inv.drew {A0 R : Nat → Prop} {w0 : Env} {E : Env} {s : St} {a : Act} (hI : Inv A0 R w0 E s a) : Inv A0 R w0 { E with w := E.w.drew } s a := by
  obtain ⟨hwd, hle⟩ := hI.wd.on (w' := E.w.drew) (Below.refl _ _).drew
  exact ⟨hI.defers, frel_le hle hI.frame, hwd⟩
/-- A region that draws its order leads from what is known to what is known. -/
def RegOk (P : Program) (ops : Array Oper) (s0 s1 : St) : Prop := ∀ (A0 R : Nat → Prop) (w0 : Env) (E : Env) (a : Act) (id : Nat) (Q : Exit → Act → World → Prop), Inv A0 R w0 E s0 a → (∀ E' a', Inv A0 R w0 E' (clr s1) a' → Q .normal a' E'.w) → (Code.region id ops true).wp P Q a E.w
theorem reg_any {P : Program} {T : Tab} {ops : Array Oper} {s s1 : St} (hT : TOk P T) (hm : P.follows .mixedOrders = true) (h : AnyS P T ops (fun s' => clr s' = clr s1) ops.size (Array.replicate ops.size false) s) : RegOk P ops s s1 := fun A0 R w0 E a id Q hI hQ => by
  refine wp_region_any hm ?_
  refine any_wp (w0 := w0) (A0 := A0) (R := R) hT (fun E' a' s' hs hI' => ?_) ops.size _ { E with w := E.w.drew } s a hI.drew h
  refine hQ E' a' ?_
  rw [← hs]
  exact hI'.clear
/-- One step, out of an evaluation. -/
theorem astep_of {P : Program} {T : Tab} {ops : List Oper} {o : Oper} {s s1 : St} (hT : TPar T) (h : aopsK P T ops [o] s (fun s' => some ⟨.normal, s', .any⟩) = some ⟨.normal, s1, .any⟩) : AStep P T ops s o s1 := by
  obtain ⟨s', ⟨s2, h1, h2⟩, h3, _⟩ := aopsK_some hT h
  have e : s2 = s' := h2
  subst e
  simp only [Option.some.injEq, Out.mk.injEq, and_true, true_and] at h3
  subst h3
  exact h1
/-! ### A region that is told -/
def fstD (ops : List Oper) : Option Nat := match ops with
  | o :: _ => o.dst
  | [] => none
def toldD (d : Nat) (ops0 : List Oper) (s0 s1 : St) (D : List Oper → St → SK → Option Out) : List Oper → St → SK → Option Out := fun ops s k => match fstD ops with
  | some d' => cond (Nat.beq d' d) (gate (ops = ops0 ∧ s = s0) (k s1)) (D ops s k)
  | none => D ops s k
theorem toldD_ok {P : Program} {d : Nat} {ops0 : Array Oper} {s0 s1 : St} {D : List Oper → St → SK → Option Out} (hD : DOk P D) (h : RegOk P ops0 s0 s1) : DOk P (toldD d ops0.toList s0 s1 D) := by
  have get : ∀ {ops s k r}, toldD d ops0.toList s0 s1 D ops s k = some r → (D ops s k = some r ∧ ∀ k', toldD d ops0.toList s0 s1 D ops s k' = D ops s k') ∨ (ops = ops0.toList ∧ s = s0 ∧ k s1 = some r ∧ ∀ k', toldD d ops0.toList s0 s1 D ops s k' = k' s1) := fun {ops s k r} hr => by
    unfold toldD at hr ⊢
    split at hr
    · rename_i d' hd
      cases hb : Nat.beq d' d
      · rw [hb] at hr
        exact Or.inl ⟨hr, fun k' => by simp only [cond_false]⟩
      · rw [hb] at hr
        obtain ⟨⟨g1, g2⟩, g3⟩ := gate_some hr
        exact Or.inr ⟨g1, g2, g3, fun k' => by simp only [cond_true]; rw [gate_pos ⟨g1, g2⟩]⟩
    · exact Or.inl ⟨hr, fun k' => rfl⟩
  constructor
  · intro ops s k r hr
    rcases get hr with ⟨g1, g2⟩ | ⟨_, _, g3, g4⟩
    · obtain ⟨s', h1, h2⟩ := hD.1 ops s k r g1
      exact ⟨s', h1, fun k' => by rw [g2]; exact h2 k'⟩
    · exact ⟨s1, g3, g4⟩
  · intro A0 R w0 E s s' a id ops Q hI hk hQ
    have h0 := hk fun s => some ⟨.normal, s, .any⟩
    rcases get h0 with ⟨_, g2⟩ | ⟨g1, g2, g3, _⟩
    · exact hD.2 A0 R w0 E s s' a id ops Q hI (fun k' => by rw [← g2]; exact hk k') hQ
    · simp only [Option.some.injEq, Out.mk.injEq, and_true, true_and] at g3
      subst g3
      have e : ops = ops0 := Array.toList_inj.1 g1
      subst e g2
      exact h A0 R w0 E a id Q hI hQ
end
end Go.Gv

namespace Go.Proofs.Ytgijfbcfajhmlaa
open Go.Gv

def nilA : AV := .x (.slice none 0 0)
/-- The operations of a region. -/
def opsAt : Code → Nat → Option (Array Oper)
  | .region id ops _, i => cond (Nat.beq id i) (some ops) none
  | .seq x y, i => (opsAt x i).or (opsAt y i)
  | .cond _ x y, i => (opsAt x i).or (opsAt y i)
  | .block _ c, i => opsAt c i
  | .loop c, i => opsAt c i
  | _, _ => none
noncomputable def plOps : Array Oper := ((opsAt (bodyOf Try.f16) 5).getD #[])
theorem plOps_size : plOps.size = 4 := by kernel_rfl
theorem plR0 : Region.ready .any plOps #[false, false, false, false] = [0, 2] := by kernel_rfl
theorem plR1 : Region.ready .any plOps #[true, false, false, false] = [1, 2] := by kernel_rfl
theorem plR2 : Region.ready .any plOps #[false, false, true, false] = [0] := by kernel_rfl
theorem plR3 : Region.ready .any plOps #[true, true, false, false] = [2] := by kernel_rfl
theorem plR4 : Region.ready .any plOps #[true, false, true, false] = [1] := by kernel_rfl
theorem plR5 : Region.ready .any plOps #[true, true, true, false] = [3] := by kernel_rfl
theorem plR6 : Region.ready .any plOps #[true, true, true, true] = [] := by kernel_rfl
/-- A state by all of its slots. -/
def mkV (n : Nat) (l : List (Nat × AV)) (mem : List Row) : St := ⟨(List.range n).map fun i => (match l.find? (fun p => Nat.beq p.1 i) with
  | some p => p.2
  | none => .x undef, []), mem⟩
section
variable (n : Nat) (f f1 : Nat → Int) (lo hi : Int) (k : Nat) (C : Nat → Ply) (bh sh bl sl : Int)
def plB : Bool := cond (decide ((n : Int) < 2)) true (decide (lo > hi))
def plS (r : List (Nat × AV)) (mem : List Row) : St := mkV 40 ([(0, pA n f), (1, iA lo), (2, iA hi), (6, nilA), (7, .own 0 0), (8, .own 1 0), (9, pA n f), (10, iA (n : Nat)), (11, bA (decide ((n : Int) < 2))), (12, bA (decide ((n : Int) < 2))), (13, .any), (14, .any), (15, .any), (16, bA (plB n lo hi)), (17, pA n f), (18, pA n f1), (19, chA k C), (20, .agg [chA k C, nilA]), (21, iA hi), (22, cutA hi bh sh)] ++ r) mem
def plM : List Row := [.c [chA k C, nilA], .c [iA hi, iA bh, iA sh]]
abbrev PAok (at' b s : Int) : Prop := FreshSpec Try.prog 34 [.ref [chA k C, nilA] 0, iA at'] (cutA at' b s) ∧ noOwn (cutA at' b s) = true
noncomputable def plAh (at' b s : Int) : Bool := (propB (PAok k C at' b s) && true) || false
variable (m : Nat) (u : Nat → Int)
def plM1 : List Row := [.c [chA k C, .osl 2 1 0 m], .c [iA hi, iA bh, iA sh], .a 3 1 m fun q => [iA (u q)]]
abbrev PSok : Prop := WSpec Try.prog 35 [.own 0 0, cutA lo bl sl, cutA hi bh sh] (plM hi k C bh sh) (.tup []) (plM1 hi k C bh sh m u)
noncomputable def plTb : Tab := tabW [] [] [] [wQ Try.prog 35 (fun _ _ => .tup []) (fun _ _ => plM1 hi k C bh sh m u)] [rS2 Try.prog 34 (fun _ => cutA lo bl sl)]
noncomputable def opI (i : Nat) : Oper := match plOps[i]? with
  | some o => o
  | none => ⟨none, .move (.const undef), 0, "", #[], none⟩
def stK : SK := fun s' => some ⟨.normal, s', .any⟩
def p3 : Nat × AV := (23, iA lo)
def p4 : Nat × AV := (24, cutA lo bl sl)
def p5 : Nat × AV := (25, cutA hi bh sh)
noncomputable abbrev plX (i : Nat) (r : List (Nat × AV)) : Option Out := aopsK Try.prog (plTb lo hi k C bh sh bl sl m u) plOps.toList [opI i] (plS n f f1 lo hi k C bh sh r (plM hi k C bh sh)) stK
abbrev plY (r : List (Nat × AV)) : Option Out := some ⟨.normal, plS n f f1 lo hi k C bh sh r (plM hi k C bh sh), .any⟩
theorem plx0 : plX n f f1 lo hi k C bh sh bl sl m u 0 [] = plY n f f1 lo hi k C bh sh [p3 lo] := by kernel_rfl
theorem plx2 : plX n f f1 lo hi k C bh sh bl sl m u 2 [] = plY n f f1 lo hi k C bh sh [p5 hi bh sh] := by kernel_rfl
theorem plx01 : plX n f f1 lo hi k C bh sh bl sl m u 1 [p3 lo] = cond (plAh k C lo bl sl) (plY n f f1 lo hi k C bh sh [p3 lo, p4 lo bl sl]) none := by kernel_rfl
theorem plx02 : plX n f f1 lo hi k C bh sh bl sl m u 2 [p3 lo] = plY n f f1 lo hi k C bh sh [p3 lo, p5 hi bh sh] := by kernel_rfl
theorem plx20 : plX n f f1 lo hi k C bh sh bl sl m u 0 [p5 hi bh sh] = plY n f f1 lo hi k C bh sh [p3 lo, p5 hi bh sh] := by kernel_rfl
theorem plx012 : plX n f f1 lo hi k C bh sh bl sl m u 2 [p3 lo, p4 lo bl sl] = plY n f f1 lo hi k C bh sh [p3 lo, p4 lo bl sl, p5 hi bh sh] := by kernel_rfl
theorem plx021 : plX n f f1 lo hi k C bh sh bl sl m u 1 [p3 lo, p5 hi bh sh] = cond (plAh k C lo bl sl) (plY n f f1 lo hi k C bh sh [p3 lo, p4 lo bl sl, p5 hi bh sh]) none := by kernel_rfl
theorem plx3 : plX n f f1 lo hi k C bh sh bl sl m u 3 [p3 lo, p4 lo bl sl, p5 hi bh sh] = cond (propB (PSok lo hi k C bh sh bl sl m u)) (some ⟨.normal, plS n f f1 lo hi k C bh sh [p3 lo, p4 lo bl sl, p5 hi bh sh, (26, .tup [])] (plM1 hi k C bh sh m u), .any⟩) none := by kernel_rfl
end
end Go.Proofs.Ytgijfbcfajhmlaa

namespace Go.Gv
open Go.RowKit Go.Ev
/-- A contract over a struct and a row that is there, where there is none yet. -/
theorem gspec_nil {P : Program} {f : Nat} {args : List AV} {X v : AV} {T : TypeId} {sz m : Nat} {u u' : Nat → List AV} (hX : noOwn X = true) (hv : noOwn v = true) (h : GSpec P f args [.c [X, .osl 1 sz 0 0], .a T sz 0 u] v [.c [X, .osl 2 sz 0 m], .dead, .a T sz m u']) : GSpec P f args [.c [X, .x (.slice none 0 0)]] v [.c [X, .osl 1 sz 0 m], .a T sz m u'] := by
  refine ⟨h.1, fun R E cargs hp hW hg hr => ?_⟩
  have only0 : ∀ k p, E.O k = some p → k = 0 := fun k p hk => by
    have := hW.dom k p.1 p.2 hk
    simp only [List.length_cons, List.length_nil] at this
    omega
  have hW1 : Wd E.A R E E [.c [X, .osl 1 sz 0 0], .a T sz 0 u] := by
    refine ⟨fun k b c hb => ?_, hW.small, hW.old, fun k b c hb _ => ?_, fun k k' b c c' hb hb' _ _ => ?_, hW.below, hW.le0⟩
    · have := only0 k _ hb
      subst this
      obtain ⟨row, g1, g2⟩ := hW.rows 0 b c hb
      cases g1
      obtain ⟨cs, e, k1, k2⟩ := g2
      obtain ⟨u0, us0, e3, p0, k2⟩ := pre_cons.1 k2
      obtain ⟨u1, us1, e4, p1, k3⟩ := pre_cons.1 k2
      refine ⟨_, rfl, cs, e, k1, ?_⟩
      rw [e3, e4]
      exact pre_cons.2 ⟨u0, _, rfl, p0, pre_cons.2 ⟨u1, us1, rfl, rel_osl.2 (Or.inl ⟨rfl, rfl, rel_x.1 p1⟩), pre_nil⟩⟩
    · have := only0 k _ hb
      subst this
      exact hW.own 0 b c hb rfl
    · rw [only0 k _ hb, only0 k' _ hb']
  have hp1 : Pins ([.c [X, .osl 1 sz 0 0], .a T sz 0 u] : List Row).length E.A R E := ⟨fun k hk => hp.1 k (Nat.le_trans (show 1 ≤ 2 by decide) hk), fun h0 => by cases h0⟩
  refine (h.2 R E cargs hp1 hW1 hg hr).mono ?_
  rintro e w' ⟨x, E', rfl, rfl, hW2, hx⟩
  let O2 : Nat → Option (Nat × Nat × Nat) := fun k => if k = 0 then E'.O 0 else if k = 1 then E'.O 2 else none
  let E2 : Env := { E' with O := O2 }
  have hsame : ∀ b, ¬ E'.A b → ∀ ob, E'.w.heap[b]? = some ob → ¬ E2.A b ∧ E2.w.heap[b]? = some ob := fun _ hb _ hob => ⟨hb, hob⟩
  have cases2 : ∀ k p, E2.O k = some p → (k = 0 ∧ E'.O 0 = some p) ∨ (k = 1 ∧ E'.O 2 = some p) := fun k p hk => by
    have hk : (if k = 0 then E'.O 0 else if k = 1 then E'.O 2 else none) = some p := hk
    by_cases h0 : k = 0
    · rw [if_pos h0] at hk; exact Or.inl ⟨h0, hk⟩
    · rw [if_neg h0] at hk
      by_cases h1 : k = 1
      · rw [if_pos h1] at hk; exact Or.inr ⟨h1, hk⟩
      · rw [if_neg h1] at hk; cases hk
  refine ⟨x, E2, rfl, rfl, ⟨?_, hW2.small, hW2.old, ?_, ?_, hW2.below, ⟨hW2.le0.keep, fun k p hk => ?_⟩⟩, relA_noOwn v hsame hv x hx⟩
  · intro k b c hb
    rcases cases2 k _ hb with ⟨rfl, h1⟩ | ⟨rfl, h1⟩
    · obtain ⟨row, g1, g2⟩ := hW2.rows 0 b c h1
      cases g1
      obtain ⟨cs, e, k1, k2⟩ := g2
      obtain ⟨u0, us0, e3, p0, k2⟩ := pre_cons.1 k2
      obtain ⟨u1, us1, e4, p1, k3⟩ := pre_cons.1 k2
      refine ⟨_, rfl, cs, e, k1, ?_⟩
      rw [e3, e4]
      refine pre_cons.2 ⟨u0, _, rfl, relA_noOwn X hsame hX u0 p0, pre_cons.2 ⟨u1, us1, rfl, ?_, pre_nil⟩⟩
      rcases rel_osl.1 p1 with g | ⟨b', c', n', g1, g2⟩
      · exact rel_osl.2 (Or.inl g)
      · exact rel_osl.2 (Or.inr ⟨b', c', n', g1, g2⟩)
    · obtain ⟨row, g1, g2⟩ := hW2.rows 2 b c h1
      cases g1
      exact ⟨_, rfl, g2⟩
  · intro k b c hb hlv
    rcases cases2 k _ hb with ⟨rfl, h1⟩ | ⟨rfl, h1⟩
    · exact hW2.own 0 b c h1 rfl
    · exact hW2.own 2 b c h1 rfl
  · intro k k' b c c' hb hb' hlv hlv'
    rcases cases2 k _ hb with ⟨rfl, h1⟩ | ⟨rfl, h1⟩
    · rcases cases2 k' _ hb' with ⟨rfl, h1'⟩ | ⟨rfl, h1'⟩
      · rfl
      · have := hW2.one 0 2 b c c' h1 h1' rfl rfl
        cases this
    · rcases cases2 k' _ hb' with ⟨rfl, h1'⟩ | ⟨rfl, h1'⟩
      · have := hW2.one 2 0 b c c' h1 h1' rfl rfl
        cases this
      · rfl
  · have := only0 k p hk
    subst this
    exact hW2.le0.own 0 p hk
end Go.Gv
namespace Go.Proofs.Ytgijfbcfajhmlaa
open Go.Gv
theorem plO0 : plOps[0]? = some (opI 0) := by kernel_rfl
theorem plO1 : plOps[1]? = some (opI 1) := by kernel_rfl
theorem plO2 : plOps[2]? = some (opI 2) := by kernel_rfl
theorem plO3 : plOps[3]? = some (opI 3) := by kernel_rfl
theorem len1 {l : List Nat} {i k a : Nat} (hl : l = [a]) (h : l[i]? = some k) : i = 0 ∧ k = a := by
  subst hl
  match i, h with
  | 0, h => simp at h; exact ⟨rfl, h.symm⟩
  | n + 1, h => simp at h
theorem ps_of {k : Nat} {C : Nat → Ply} {N S : Int → Int} {lo hi : Int} {L : List Int} (h : SeekOk k C N S lo hi 0 (fun _ => 0) L) : PSok lo hi k C (N hi) (S hi) (N lo) (S lo) (0 + L.length) (apL 0 (fun _ => 0) L) := by
  have g := gspec_nil (X := chA k C) rfl rfl h
  refine wframe g [0] rfl rfl rfl (fun i j hi => ?_) ⟨fun j hj hl => ?_, fun i j r hi hr => ?_, fun i r hi hr => ?_⟩
  · obtain ⟨rfl, rfl⟩ := len1 rfl hi
    exact ⟨_, rfl, rfl, rfl⟩
  · match j, hj, hl with
    | 0, hj, _ => exact absurd (by simp) hj
    | 1, _, _ => rfl
    | n + 2, _, hl => exact absurd hl (by show ¬ n + 2 < 2; omega)
  · obtain ⟨rfl, rfl⟩ := len1 rfl hi
    cases hr; rfl
  · match i, hi, hr with
    | 0, hi, _ => exact absurd hi (by show ¬ 1 ≤ 0; omega)
    | 1, _, hr => cases hr; rfl
    | n + 2, _, hr => cases hr
section
variable {n : Nat} {f f1 : Nat → Int} {lo hi : Int} {k : Nat} {C : Nat → Ply} {bh sh bl sl : Int} {m : Nat} {u : Nat → Int}
theorem pl_reg (hm : Try.prog.follows .mixedOrders = true) (hA : PAok k C lo bl sl) (hS : PSok lo hi k C bh sh bl sl m u) : RegOk Try.prog plOps (plS n f f1 lo hi k C bh sh [] (plM hi k C bh sh)) (plS n f f1 lo hi k C bh sh [p3 lo, p4 lo bl sl, p5 hi bh sh, (26, .tup [])] (plM1 hi k C bh sh m u)) := by
  have hT : TOk Try.prog (plTb lo hi k C bh sh bl sl m u) := tabW_ok e_nil k_nil m_nil (w_cons wQ_ok w_nil) (r_cons rS2_ok r_nil)
  have hb : plAh k C lo bl sl = true := by unfold plAh; rw [propB_t hA]; rfl
  have st : ∀ {i : Nat} {r : List (Nat × AV)} {s1 : St}, plX n f f1 lo hi k C bh sh bl sl m u i r = some ⟨.normal, s1, .any⟩ → AStep Try.prog (plTb lo hi k C bh sh bl sl m u) plOps.toList (plS n f f1 lo hi k C bh sh r (plM hi k C bh sh)) (opI i) s1 := fun h => astep_of hT.par h
  have y1 := plx01 n f f1 lo hi k C bh sh bl sl m u
  have y2 := plx021 n f f1 lo hi k C bh sh bl sl m u
  have y3 := plx3 n f f1 lo hi k C bh sh bl sl m u
  rw [hb, cond_true] at y1 y2
  rw [propB_t hS, cond_true] at y3
  refine reg_any hT hm ?_
  rw [plOps_size]
  have o : ∀ i, i < 4 → plOps[i]? = some (opI i) := fun i hi => by
    match i, hi with
    | 0, _ => exact plO0
    | 1, _ => exact plO1
    | 2, _ => exact plO2
    | 3, _ => exact plO3
    | n + 4, h => omega
  have last : AnyS Try.prog (plTb lo hi k C bh sh bl sl m u) plOps (fun s' => clr s' = clr (plS n f f1 lo hi k C bh sh [p3 lo, p4 lo bl sl, p5 hi bh sh, (26, .tup [])] (plM1 hi k C bh sh m u))) 1 #[true, true, true, false] (plS n f f1 lo hi k C bh sh [p3 lo, p4 lo bl sl, p5 hi bh sh] (plM hi k C bh sh)) :=
    anyS_more [3] plR5 (by simp) fun i hi => by
      rw [List.mem_singleton] at hi
      subst hi
      exact ⟨_, _, o 3 (by decide), st y3, plR6, rfl⟩
  have a1 : AnyS Try.prog (plTb lo hi k C bh sh bl sl m u) plOps _ 2 #[true, true, false, false] (plS n f f1 lo hi k C bh sh [p3 lo, p4 lo bl sl] (plM hi k C bh sh)) :=
    anyS_more [2] plR3 (by simp) fun i hi => by
      rw [List.mem_singleton] at hi
      subst hi
      exact ⟨_, _, o 2 (by decide), st (plx012 n f f1 lo hi k C bh sh bl sl m u), last⟩
  have a2 : AnyS Try.prog (plTb lo hi k C bh sh bl sl m u) plOps _ 2 #[true, false, true, false] (plS n f f1 lo hi k C bh sh [p3 lo, p5 hi bh sh] (plM hi k C bh sh)) :=
    anyS_more [1] plR4 (by simp) fun i hi => by
      rw [List.mem_singleton] at hi
      subst hi
      exact ⟨_, _, o 1 (by decide), st y2, last⟩
  refine anyS_more [0, 2] plR0 (by simp) fun i hi => ?_
  simp only [List.mem_cons, List.not_mem_nil, or_false] at hi
  rcases hi with rfl | rfl
  · refine ⟨_, _, o 0 (by decide), st (plx0 n f f1 lo hi k C bh sh bl sl m u), anyS_more [1, 2] plR1 (by simp) fun i hi => ?_⟩
    simp only [List.mem_cons, List.not_mem_nil, or_false] at hi
    rcases hi with rfl | rfl
    · exact ⟨_, _, o 1 (by decide), st y1, a1⟩
    · exact ⟨_, _, o 2 (by decide), st (plx02 n f f1 lo hi k C bh sh bl sl m u), a2⟩
  · refine ⟨_, _, o 2 (by decide), st (plx2 n f f1 lo hi k C bh sh bl sl m u), anyS_more [0] plR2 (by simp) fun i hi => ?_⟩
    rw [List.mem_singleton] at hi
    subst hi
    exact ⟨_, _, o 0 (by decide), st (plx20 n f f1 lo hi k C bh sh bl sl m u), a2⟩
end
end Go.Proofs.Ytgijfbcfajhmlaa

namespace Go.Proofs.Ytgijfbcfajhmlaa
open Go.Gv

noncomputable def evD (P : Program) (l : List Entry) (ks : List KEntry) (ms : List MEntry) (ws : List WEntry) (rs : List REntry) (d : Nat) (ops0 : List Oper) (s0 s1 : St) (L : Nat → Option LFun) (fn : Func) (args : List AV) (k : AV → Option Out) : Option Out := abody P (tabW l ks ms ws rs) (toldD d ops0 s0 s1 (drawnK P (tabW l ks ms ws rs))) L 40 fn args k
theorem gspecD {l : List Entry} {ks : List KEntry} {ms : List MEntry} {ws : List WEntry} {rs : List REntry} {L : Nat → Option LFun} (hl : ∀ e, e ∈ l → EOk Try.prog e) (hks : ∀ e, e ∈ ks → KOk Try.prog e) (hms : ∀ e, e ∈ ms → MEOk Try.prog e) (hws : ∀ e, e ∈ ws → WEOk Try.prog e) (hrs : ∀ e, e ∈ rs → REOk Try.prog e) {d : Nat} {ops0 : Array Oper} {s0 s1 : St} (hreg : RegOk Try.prog ops0 s0 s1) {f : Nat} {fn : Func} (hf : Try.prog.funcs[f]? = some fn) (hnm : (fn.name == "runtime.NumGoroutine") = false) (hb : fn.body = some (bodyOf fn)) (hL : LOk Try.prog L (bodyOf fn))
    {args : List AV} (hlen : Nat.ble args.length fn.ntmps = true) {r : AV} (h : evD Try.prog l ks ms ws rs d ops0.toList s0 s1 L fn args ret = some (Out.of r)) : FSpec Try.prog f args r :=
  spec_of_body (tabW_ok hl hks hms hws hrs) (toldD_ok (drawnK_ok (tabW_ok hl hks hms hws hrs) (by kernel_rfl)) hreg) 40 hf hnm hb hL hlen h
section
variable (n : Nat) (f f1 : Nat → Int) (lo hi : Int) (k : Nat) (C : Nat → Ply) (bh sh bl sl : Int) (m : Nat) (u : Nat → Int) (c : Int)
abbrev PCok : Prop := FreshSpec Try.prog 36 [skA k C m u, iA hi, .fn (.func 37) [] []] (iA c) ∧ noOwn (iA c) = true
noncomputable def plCb : Bool := ((propB (PCok hi k C m u c) && (Nat.beq 1 1 && Nat.ble m m)) || false) && true
noncomputable def plE : Option Out := cond (plCb hi k C m u c) (cond (decide (bh > c)) (cond (apB m 8 || false) (some (Out.of (.sl 1 (m + 1) fun j => mixL (Nat.blt (0 + j) m) [iA (u (0 + j))] [iA hi]))) none) (some (Out.of (.sl 1 m fun j => [iA (u (0 + j))])))) none
noncomputable abbrev plS0 : St := plS n f f1 lo hi k C bh sh [] (plM hi k C bh sh)
noncomputable abbrev plS1 : St := plS n f f1 lo hi k C bh sh [p3 lo, p4 lo bl sl, p5 hi bh sh, (26, .tup [])] (plM1 hi k C bh sh m u)
noncomputable def pGm : Prop := plOps.toList = plOps.toList ∧ plS0 n f f1 lo hi k C bh sh = plS0 n f f1 lo hi k C bh sh
theorem pl_evD : evD Try.prog [] [kS Try.prog 33 (fun _ => pA n f1), kS Try.prog 32 (fun _ => chA k C)] [] [] [rS2 Try.prog 34 (fun _ => cutA hi bh sh), rS2 Try.prog 36 (fun _ => iA c)] 23 plOps.toList (plS0 n f f1 lo hi k C bh sh) (plS1 n f f1 lo hi k C bh sh bl sl m u) noL Try.f16 [pA n f, iA lo, iA hi] ret =
    cond (plB n lo hi) (some (Out.of nilA)) (gate (FSpec Try.prog 33 [pA n f] (pA n f1)) (gate (FSpec Try.prog 32 [pA n f1] (chA k C)) (cond (plAh k C hi bh sh) (gate (pGm n f f1 lo hi k C bh sh) (plE hi k C bh m u c)) none))) := by kernel_rfl
end
theorem nil_ref {E : Env} {X : AV} {u : Nat → Int} {v : Value} (h : rel E (.ref [X, nilA] 0) v) : rel E (.ref [X, sJ 0 u] 0) v := by
  obtain ⟨b, o, cs, e, fz, h1, h2, h3, h4⟩ := rel_ref.1 h
  refine rel_ref.2 ⟨b, o, cs, e, fz, h1, h2, h3, ?_⟩
  obtain ⟨u0, us0, e3, p0, k2⟩ := pre_cons.1 h4
  obtain ⟨u1, us1, e4, p1, k3⟩ := pre_cons.1 k2
  exact pre_cons.2 ⟨u0, us0, e3, p0, pre_cons.2 ⟨u1, us1, e4, nil_like p1, k3⟩⟩
theorem pa_of {k : Nat} {C : Nat → Ply} {a b s : Int} (h : FSpec Try.prog 34 [skA k C 0 fun _ => 0, iA a] (cutA a b s)) : PAok k C a b s :=
  ⟨fresh_plain (FSpec.of_args h fun E vs hr => by
    obtain ⟨u0, t0, e0, r0, hr⟩ := rels_cons.1 hr
    exact rels_cons.2 ⟨u0, t0, e0, nil_ref r0, hr⟩) rfl, rfl⟩
/-- The places that are found. -/
def plcs (N S : Int → Int) (c lo hi : Int) : List Int := skL N S ((hi - lo).toNat + 1) lo hi ++ if N hi > c then [hi] else []
def lsJ (L : List Int) : AV := sJ L.length fun q => L.getD q 0
theorem pls_spec {n : Nat} {f f1 : Nat → Int} {k : Nat} {C : Nat → Ply} {N S : Int → Int} {lo hi c : Int} (hn : 2 ≤ n) (hlh : lo ≤ hi) (H : SgOk k C N S lo hi) (hfi : FSpec Try.prog 33 [pA n f] (pA n f1)) (hch : FSpec Try.prog 32 [pA n f1] (chA k C)) (hcg : ∀ (m : Nat) (u : Nat → Int), FSpec Try.prog 36 [skA k C m u, iA hi, .fn (.func 37) [] []] (iA c)) : FSpec Try.prog 16 [pA n f, iA lo, iA hi] (lsJ (plcs N S c lo hi)) := by
  have na := H.nn lo (Int.le_refl _) hlh
  have nb := H.nn hi hlh (Int.le_refl _)
  have hsk := seek_spec H (hi - lo).toNat lo hi (Int.le_refl _) hlh (Int.le_refl _) (by omega) 0 (fun _ => 0) (by omega)
  have hlen := skL_len (S := S) H.mono ((hi - lo).toNat + 1) lo hi (Int.le_refl _) hlh (Int.le_refl _)
  have hreg := pl_reg (n := n) (f := f) (f1 := f1) (by kernel_rfl) (pa_of (H.ah lo (Int.le_refl _) hlh 0 _)) (ps_of hsk)
  have hA : plAh k C hi (N hi) (S hi) = true := by unfold plAh; rw [propB_t (pa_of (H.ah hi hlh (Int.le_refl _) 0 _))]; rfl
  have hB : plB n lo hi = false := by unfold plB; rw [decide_eq_false (show ¬ ((n : Nat) : Int) < 2 by omega), decide_eq_false (show ¬ lo > hi by omega)]; rfl
  unfold plcs
  generalize skL N S ((hi - lo).toNat + 1) lo hi = L at *
  have hC : plCb hi k C (0 + L.length) (apL 0 (fun _ => 0) L) c = true := by
    unfold plCb
    rw [propB_t (show PCok hi k C (0 + L.length) (apL 0 (fun _ => 0) L) c from ⟨fresh_plain (hcg _ _) rfl, rfl⟩), Nat.ble_eq_true_of_le (Nat.le_refl _)]
    rfl
  have ev := pl_evD n f f1 lo hi k C (N hi) (S hi) (N lo) (S lo) (0 + L.length) (apL 0 (fun _ => 0) L) c
  rw [hB, gate_pos hfi, gate_pos hch, hA, gate_pos (show pGm n f f1 lo hi k C (N hi) (S hi) from ⟨rfl, rfl⟩), cond_false, cond_true] at ev
  unfold plE at ev
  rw [hC, cond_true] at ev
  have ks : ∀ e, e ∈ [kS Try.prog 33 (fun _ => pA n f1), kS Try.prog 32 (fun _ => chA k C)] → KOk Try.prog e := k_cons kS_ok (k_cons kS_ok k_nil)
  have rs : ∀ e, e ∈ [rS2 Try.prog 34 (fun _ => cutA hi (N hi) (S hi)), rS2 Try.prog 36 (fun _ => iA c)] → REOk Try.prog e := r_cons rS2_ok (r_cons rS2_ok r_nil)
  by_cases hc : N hi > c
  · rw [decide_eq_true hc, apB_t (by omega)] at ev
    rw [if_pos hc]
    refine FSpec.of_res (gspecD e_nil ks m_nil w_nil rs hreg Try.func16 (by kernel_rfl) (by kernel_rfl) noL_ok rfl (r := .sl 1 (0 + L.length + 1) fun j => mixL (Nat.blt (0 + j) (0 + L.length)) [iA (apL 0 (fun _ => 0) L (0 + j))] [iA hi]) ev) fun E v h => ?_
    unfold lsJ
    rw [List.length_append, show L.length + [hi].length = 0 + L.length + 1 by simp]
    refine sl_like h fun q hq => ?_
    rw [Nat.zero_add q, apL_one _ _ hi hq, apL_app]
    show [iA ((L ++ [hi]).getD q 0)] = [iA (apL 0 (fun _ => 0) (L ++ [hi]) q)]
    unfold apL
    rw [if_neg (Nat.not_lt_zero q), Nat.sub_zero]
  · rw [decide_eq_false hc, cond_false] at ev
    rw [if_neg hc, List.append_nil]
    refine FSpec.of_res (gspecD e_nil ks m_nil w_nil rs hreg Try.func16 (by kernel_rfl) (by kernel_rfl) noL_ok rfl (r := .sl 1 (0 + L.length) fun j => [iA (apL 0 (fun _ => 0) L (0 + j))]) ev) fun E v h => ?_
    unfold lsJ
    rw [show L.length = 0 + L.length by omega]
    refine sl_like h fun q hq => ?_
    show [iA (L.getD q 0)] = [iA (apL 0 (fun _ => 0) L (0 + q))]
    unfold apL
    rw [Nat.zero_add, if_neg (Nat.not_lt_zero q), Nat.sub_zero]
end Go.Proofs.Ytgijfbcfajhmlaa

namespace Go.Proofs.Ytgijfbcfajhmlaa
open Go.Gv
open Go.Ev (wB wB_pos wB_eq dg dg_lt vl nw nw_lt nw_le nw_ge nw_zero pw_pos)

/-- The words of a number. -/
def Zw (x : Int) : Nat := nw x.natAbs
theorem Zw_neg (x : Int) : Zw (-x) = Zw x := by unfold Zw; rw [Int.natAbs_neg]
theorem Zw_mul (x y : Int) : Zw (x * y) ≤ Zw x + Zw y := by
  unfold Zw
  rw [Int.natAbs_mul]
  refine nw_le ?_
  rw [Nat.pow_add]
  have h1 := nw_lt x.natAbs
  have h2 := nw_lt y.natAbs
  rcases Nat.eq_zero_or_pos y.natAbs with h | h
  · rw [h, Nat.mul_zero]
    exact Nat.mul_pos (pw_pos _) (pw_pos _)
  · exact Nat.lt_of_lt_of_le ((Nat.mul_lt_mul_right h).2 h1) (Nat.mul_le_mul_left _ (Nat.le_of_lt h2))
theorem Zw_add {x y : Int} {B : Nat} (hx : Zw x ≤ B) (hy : Zw y ≤ B) : Zw (x + y) ≤ B + 1 := by
  unfold Zw at *
  refine nw_le ?_
  have h1 : x.natAbs < wB ^ B := Nat.lt_of_lt_of_le (nw_lt _) (Nat.pow_le_pow_right wB_pos hx)
  have h2 : y.natAbs < wB ^ B := Nat.lt_of_lt_of_le (nw_lt _) (Nat.pow_le_pow_right wB_pos hy)
  have h3 : wB ^ B * 2 ≤ wB ^ B * wB := Nat.mul_le_mul_left _ (by decide)
  rw [Nat.pow_succ]
  have := Int.natAbs_add_le x y
  omega
theorem Zw_one {x : Int} (h : x.natAbs < 18446744073709551616) : Zw x ≤ 1 := nw_le (by rw [Nat.pow_one]; exact h)
theorem Sm_of {x : Int} (h : Zw x ≤ 1000000) : Sm x := by unfold Sm; unfold Zw at h; omega
theorem Zw_zero : Zw 0 = 0 := rfl
theorem Zw_hor {f : Nat → Int} {x : Int} {B X : Nat} (hf : ∀ i, Zw (f i) ≤ B) (hx : Zw x ≤ X) : ∀ d i, Zw (hor f x i d) ≤ B + d * (X + 1)
  | 0, _ => by show Zw 0 ≤ _; rw [Zw_zero]; exact Nat.zero_le _
  | d + 1, i => by
    have h := Zw_hor hf hx d (i + 1)
    have h1 : Zw (hor f x (i + 1) d * x) ≤ B + d * (X + 1) + X := Nat.le_trans (Zw_mul _ _) (Nat.add_le_add h hx)
    have h2 := hf i
    show Zw (hor f x (i + 1) d * x + f i) ≤ _
    refine Nat.le_trans (Zw_add (B := B + d * (X + 1) + X) h1 (by omega)) ?_
    rw [Nat.add_mul]
    omega
theorem Zw_dsl {f : Nat → Int} {n B : Nat} (hc : Cn n f) (hn : n ≤ 1000000) (hf : ∀ i, Zw (f i) ≤ B) (q : Nat) : Zw (dsl f q) ≤ B + 1 := by
  unfold dsl
  by_cases h : n ≤ q + 1
  · rw [hc (q + 1) h, Int.zero_mul, Zw_zero]; exact Nat.zero_le _
  · exact Nat.le_trans (Zw_mul _ _) (Nat.add_le_add (hf _) (Zw_one (by omega)))
theorem dit_Cn {n : Nat} {f : Nat → Int} (hc : Cn n f) : ∀ j, Cn (n - j) (dit f j)
  | 0 => hc
  | j + 1 => by
    have := dsl_Cn (dit_Cn hc j)
    rw [Nat.sub_sub] at this
    exact this
theorem Zw_dit {f : Nat → Int} {n B : Nat} (hc : Cn n f) (hn : n ≤ 1000000) (hf : ∀ i, Zw (f i) ≤ B) : ∀ j q, Zw (dit f j q) ≤ B + j
  | 0, q => hf q
  | j + 1, q => by
    have := Zw_dsl (dit_Cn hc j) (by omega) (Zw_dit hc hn hf j) q
    show Zw (dsl (dit f j) q) ≤ _
    omega
/-- Signs beside a place can be worked out. -/
theorem HB_of {n B : Nat} {f : Nat → Int} {x : Int} (hc : Cn n f) (hn : n ≤ 1000) (hB : B ≤ 100000) (hf : ∀ i, Zw (f i) ≤ B) (hx : Zw x ≤ 1) (j : Nat) (hj : j ≤ n) : HB (n - j) (dit f j) x := by
  have hd := Zw_dit hc (by omega) hf j
  refine ⟨by omega, Sm_of (by omega), fun i => Sm_of (Nat.le_trans (hd i) (by omega)), fun t ht => ?_⟩
  have h1 := Zw_hor hd hx t (n - j - t)
  exact ⟨Sm_of (by omega), Sm_of (Nat.le_trans (Zw_mul _ _) (by omega))⟩
theorem Zw_rst {f g : Nat → Int} {n m B G : Nat} (hf : ∀ i, Zw (f i) ≤ B) (hg : ∀ i, Zw (g i) ≤ G) (q : Nat) : Zw (rst f n g m q) ≤ B + G + 1 := by
  unfold rst
  have ht : Zw (tpA g m) ≤ G := by unfold tpA Zw; exact hg (m - 1)
  have hl : Zw (ldA f n g m) ≤ B := by
    unfold ldA
    split
    · rw [Zw_neg]; exact hf _
    · exact hf _
  refine Zw_add (Nat.le_trans (Zw_mul _ _) (Nat.add_le_add (hf q) ht)) ?_
  split
  · exact Nat.le_trans (Zw_mul _ _) (Nat.add_le_add hl (hg _))
  · rw [Zw_zero]; exact Nat.zero_le _
theorem Zw_rit {g : Nat → Int} {m B G : Nat} (hg : ∀ i, Zw (g i) ≤ G) {p : Ply} (hf : ∀ i, Zw (p.2 i) ≤ B) : ∀ t i, Zw ((rit m g t p).2 i) ≤ B + t * (G + 1)
  | 0, i => by rw [Nat.zero_mul]; exact hf i
  | t + 1, i => by
    rw [rit_succ]
    have := Zw_rst (n := (rit m g t p).1) (m := m) (Zw_rit (m := m) hg hf t) hg i
    show Zw (rst (rit m g t p).2 (rit m g t p).1 g m i) ≤ _
    rw [Nat.add_mul]
    omega
/-! ### The chain -/
theorem cq_len {p : Ply} {k : Nat} (hk : ∀ j, j < k → 0 < (cq p (j + 1)).1) : ∀ j, j ≤ k → (cq p (j + 1)).1 + j + 1 ≤ p.1 ∨ (cq p (j + 1)).1 = 0
  | 0, _ => by show p.1 - 1 + 0 + 1 ≤ p.1 ∨ p.1 - 1 = 0; omega
  | j + 1, hj => by
    have h1 := hk j (by omega)
    have ih := cq_len hk j (by omega)
    obtain ⟨_, h2⟩ := rcn_ok (m := (cq p (j + 1)).1) h1 (cq p (j + 1)).2 (cq p j).1 (cq p j) (Nat.le_refl _)
    have h2 : (cq p (j + 2)).1 < (cq p (j + 1)).1 := h2
    show (cq p (j + 2)).1 + (j + 1) + 1 ≤ p.1 ∨ (cq p (j + 2)).1 = 0
    omega
/-- How many words at most, from member to member. -/
def bz (B : Nat) : Nat → Nat
  | 0 => B
  | 1 => B + 1
  | j + 2 => bz B j + 5 * (bz B (j + 1) + 1)
theorem Zw_cq {p : Ply} {k B : Nat} (hn : p.1 ≤ 5) (hc : Cn p.1 p.2) (hB : ∀ i, Zw (p.2 i) ≤ B) (hk : ∀ j, j < k → 0 < (cq p (j + 1)).1) : ∀ j, j ≤ k → (∀ i, Zw ((cq p j).2 i) ≤ bz B j) ∧ ∀ i, Zw ((cq p (j + 1)).2 i) ≤ bz B (j + 1)
  | 0, _ => ⟨hB, fun i => Zw_dsl hc (by omega) hB i⟩
  | j + 1, hj => by
    obtain ⟨h1, h2⟩ := Zw_cq hn hc hB hk j (by omega)
    refine ⟨h2, fun i => ?_⟩
    have hl : (cq p j).1 ≤ 5 := by
      cases j with
      | zero => exact hn
      | succ j => rcases cq_len hk j (by omega) with h | h <;> omega
    have hr := rcn_le (cq p (j + 1)).1 (cq p (j + 1)).2 (cq p j).1 (cq p j)
    have := Zw_rit (m := (cq p (j + 1)).1) h2 h1 (rcn (cq p (j + 1)).1 (cq p (j + 1)).2 (cq p j).1 (cq p j)) i
    show Zw (-(rrem (cq p (j + 1)).1 (cq p (j + 1)).2 (cq p j)).2 i) ≤ _
    rw [Zw_neg]
    refine Nat.le_trans this ?_
    show _ ≤ bz B j + 5 * (bz B (j + 1) + 1)
    exact Nat.add_le_add_left (Nat.mul_le_mul_right _ (by omega)) _
theorem bz_le {B : Nat} (hB : B ≤ 50) : ∀ j, j ≤ 5 → bz B j ≤ 50000
  | 0, _ => by show B ≤ _; omega
  | 1, _ => by show B + 1 ≤ _; omega
  | 2, _ => by simp only [bz]; omega
  | 3, _ => by simp only [bz]; omega
  | 4, _ => by simp only [bz]; omega
  | 5, _ => by simp only [bz]; omega
  | j + 6, h => by omega
theorem CB_of {p : Ply} {k B : Nat} (hn : p.1 ≤ 5) (hc : Cn p.1 p.2) (hb : B ≤ 50) (hB : ∀ i, Zw (p.2 i) ≤ B) (hk : ∀ j, j < k → 0 < (cq p (j + 1)).1) (hk4 : k ≤ 4) : CB p k := by
  have z := Zw_cq hn hc hB hk
  have b : ∀ j, j ≤ 5 → bz B j ≤ 50000 := bz_le hb
  have len : ∀ j, j ≤ k → (cq p j).1 ≤ 5 := fun j hj => by
    cases j with
    | zero => exact hn
    | succ j => rcases cq_len hk j (by omega) with h | h <;> omega
  have rt : ∀ j, j < k → ∀ t, t ≤ (cq p j).1 → ∀ i, Zw ((rit (cq p (j + 1)).1 (cq p (j + 1)).2 t (cq p j)).2 i) ≤ 400000 := fun j hj t ht i => by
    have h := Zw_rit (m := (cq p (j + 1)).1) (z j (by omega)).2 (z j (by omega)).1 t i
    have hl := len j (by omega)
    have b1 := b j (by omega)
    have b2 := b (j + 1) (by omega)
    have : t * (bz B (j + 1) + 1) ≤ 5 * (50000 + 1) := Nat.mul_le_mul (by omega) (by omega)
    omega
  refine ⟨by omega, hc, fun i => Sm_of (Nat.le_trans (hB i) (by omega)), fun j hj i => ?_, fun j hj t ht i => Sm_of (Nat.le_trans (rt j hj t ht i) (by decide)), fun j hj t ht i l => ?_⟩
  · have := (z j (by omega)).2 i
    have b2 := b (j + 1) (by omega)
    exact Sm_of (by omega)
  · have h1 := rt j hj t ht i
    have h2 := (z j (by omega)).2 l
    have b2 := b (j + 1) (by omega)
    exact Sm_of (Nat.le_trans (Zw_mul _ _) (by omega))
end Go.Proofs.Ytgijfbcfajhmlaa
