/-
  The second evaluator, part Ge.
-/
import Derived.Test.YtefphimaggjihaaGreatDoorC7
namespace Go.Gv
open Go.RowKit Go.Ev
noncomputable section

theorem aeval_congr {s1 s2 : St} {y : Operand} (h : ∀ t, y = .tmp t → s1.slots.getD t dflt = s2.slots.getD t dflt) : aeval s1 y = aeval s2 y := by
  cases y <;> first | rfl | (simp only [aeval]; rw [h _ rfl])
theorem opdOk_congr {s1 s2 : St} {c : Chain} {y : Operand} (h : ∀ t, y = .tmp t → s1.slots.getD t dflt = s2.slots.getD t dflt) : opdOk s1.slots c y = opdOk s2.slots c y := by
  cases y <;> first | rfl | (simp only [opdOk]; rw [h _ rfl])
def tmpsOf (xs : List Operand) : List Nat := xs.filterMap fun | .tmp t => some t | _ => none
def looks (ops : List Oper) (o : Oper) : List Nat := tmpsOf o.op.operands.toList ++ testsOf ops o
theorem mem_tmpsOf {xs : List Operand} {y : Operand} {t : Nat} (hy : y ∈ xs) (ht : y = .tmp t) : t ∈ tmpsOf xs := by
  unfold tmpsOf
  exact List.mem_filterMap.2 ⟨y, hy, by rw [ht]⟩
theorem opChain_congr {ops : List Oper} {s1 s2 : St} {o : Oper} (h : ∀ t, t ∈ testsOf ops o → s1.slots.getD t dflt = s2.slots.getD t dflt) : opChain ops s1.slots o = opChain ops s2.slots o := by
  unfold opChain
  cases hg : o.guard with
  | none => rfl
  | some gw =>
    obtain ⟨j, want⟩ := gw
    simp only
    cases hj : ops[j]? with
    | none => rfl
    | some oj =>
      simp only
      cases hd : oj.dst with
      | none => rfl
      | some d => simp only; rw [h d (by simp [testsOf, hg, hj, hd])]
theorem aat_congr {m1 m2 : List Row} {x : AV} (h : ∀ k, k ∈ rowsOf x → m1[k]? = m2[k]?) : aat m1 x = aat m2 x := by
  cases x <;> simp only [aat] <;> first | rfl | (rw [h _ (by simp [rowsOf])])
theorem acallee_congr {P : Program} {s1 s2 : St} {c : Call} (h : ∀ y, y ∈ (Op.call c).operands.toList → aeval s1 y = aeval s2 y) : acallee P s1 c = acallee P s2 c := by
  have hr : ∀ r m, c.callee = .invoke r m → aeval s1 r = aeval s2 r := fun r m e => h r (by simp [Op.operands, Call.operands, e])
  have hargs : c.args.toList.map (aeval s1) = c.args.toList.map (aeval s2) := List.map_congr_left fun y hy => h y (by simp [Op.operands, Call.operands]; exact Or.inr (by simpa using hy))
  unfold acallee
  rw [hargs]
  cases hcal : c.callee with
  | invoke r m => simp only; rw [hr r m hcal]
  | value f => simp only; rw [h f (by simp [Op.operands, Call.operands, hcal])]
  | builtin b => rfl
theorem aval_congr {P : Program} {T : Tab} {s1 s2 : St} {o : Oper} (h : ∀ y, y ∈ o.op.operands.toList → aeval s1 y = aeval s2 y) (hm : ∀ k, k ∈ rdOf s1 o → s1.mem[k]? = s2.mem[k]?) : aval P T s1 o = aval P T s2 o := by
  obtain ⟨dst, op, type, pos, after, guard⟩ := o
  cases op <;> simp only [aval] <;> first | rfl | skip
  case move y => rw [h y (by simp [Op.operands])]
  case assign y => rw [h y (by simp [Op.operands])]
  case load t y =>
    rw [← h y (by simp [Op.operands])]
    rw [aat_congr (m1 := s1.mem) (m2 := s2.mem) hm]
  case fieldAddr t y f => rw [h y (by simp [Op.operands])]
  case nilCheck y => rw [h y (by simp [Op.operands])]
  case indexAddr t y z => rw [h y (by simp [Op.operands]), h z (by simp [Op.operands])]
  case index t y z => rw [h y (by simp [Op.operands]), h z (by simp [Op.operands])]
  case field t y f => rw [h y (by simp [Op.operands])]
  case binOp op t y z t2 => rw [h y (by simp [Op.operands]), h z (by simp [Op.operands])]
  case unOp op t y => rw [h y (by simp [Op.operands])]
  case convert a b y =>
    rw [← h y (by simp [Op.operands])]
    split
    · rfl
    · exact astr_congr fun k sz st sub n hk => hm k (by simp [rdOf, hk, rowsOf])
  case slice t y lo hi mx =>
    have e : ∀ z : Option Operand, (∀ q, z = some q → q ∈ (Op.slice t y lo hi mx).operands.toList) → z.map (aeval s1) = z.map (aeval s2) := fun z hz => by
      cases z with
      | none => rfl
      | some q => simp only [Option.map_some]; rw [h q (hz q rfl)]
    rw [h y (by simp [Op.operands]), e lo (fun q hq => by simp [Op.operands, hq]), e hi (fun q hq => by simp [Op.operands, hq]), e mx (fun q hq => by simp [Op.operands, hq])]
  case build t ps =>
    congr 2
    refine List.map_congr_left fun p hp => ?_
    rw [h p.2 (by simp only [Op.operands]; exact List.mem_map_of_mem hp)]
  case extract y i => rw [h y (by simp [Op.operands])]
  case makeInterface t y => rw [h y (by simp [Op.operands])]
  case typeAssert y a b ok => rw [h y (by simp [Op.operands])]
  case call c =>
    have hargs : c.args.toList.map (aeval s1) = c.args.toList.map (aeval s2) := List.map_congr_left fun y hy => h y (by simp [Op.operands, Call.operands]; exact Or.inr (by simpa using hy))
    rw [acallee_congr (s1 := s1) (s2 := s2) h, hargs]
theorem all_congr' {α : Type} {p q : α → Bool} : ∀ {l : List α}, (∀ x, x ∈ l → p x = q x) → l.all p = l.all q
  | [], _ => rfl
  | x :: l, h => by simp only [List.all_cons]; rw [h x (by simp), all_congr' (fun y hy => h y (by simp [hy]))]
theorem acalc_congr {P : Program} {T : Tab} {ops : List Oper} {s1 s2 : St} {o : Oper} (h : ∀ t, t ∈ looks ops o → s1.slots.getD t dflt = s2.slots.getD t dflt) (hm : ∀ k, k ∈ rdOf s1 o → s1.mem[k]? = s2.mem[k]?) :
    acalc P T ops s1 o = acalc P T ops s2 o := by
  have hop : ∀ y, y ∈ o.op.operands.toList → ∀ t, y = .tmp t → s1.slots.getD t dflt = s2.slots.getD t dflt := fun y hy t ht => h t (List.mem_append_left _ (mem_tmpsOf hy ht))
  have hte : ∀ t, t ∈ testsOf ops o → s1.slots.getD t dflt = s2.slots.getD t dflt := fun t ht => h t (List.mem_append_right _ ht)
  unfold acalc
  rw [opChain_congr hte]
  cases hc : opChain ops s2.slots o with
  | none => rfl
  | some c =>
    simp only
    split
    · rename_i g x y hopk
      have h1 := hop (.tmp g) (by rw [hopk]; simp [Op.operands])
      have h2 := hop x (by rw [hopk]; simp [Op.operands])
      have h3 := hop y (by rw [hopk]; simp [Op.operands])
      rw [opdOk_congr h1, opdOk_congr h2, opdOk_congr h3, aeval_congr h1, aeval_congr h2, aeval_congr h3]
    · rw [all_congr' (fun y hy => opdOk_congr (hop y hy)), aval_congr (fun y hy => aeval_congr (hop y hy)) hm]
theorem astore_congr {P : Program} {s1 s2 : St} {t : TypeId} {p x : AV} {b : Bool} {eff : Eff} (h : astore P s1 t p x = some (b, eff)) (hm : ∀ k, k ∈ eff.rd → s1.mem[k]? = s2.mem[k]?) : astore P s2 t p x = some (b, eff) := by
  unfold astore at h ⊢
  split at h
  · rename_i inf hinf
    cases hk : (okPart x && (x.cells.length == inf.size))
    · rw [hk] at h; cases h
    · rw [hk] at h
      simp only [cond_true] at h ⊢
      split at h
      · rename_i k off
        split at h
        · rename_i l hmk
          cases hl : Nat.ble (off + inf.size) l.length
          · rw [hl] at h; cases h
          · rw [hl] at h
            have h0 := h
            simp only [cond_true, Option.some.injEq, Prod.mk.injEq] at h
            have e := hm k (by rw [← h.2]; simp)
            rw [← e, hmk]
            simp only [hl]
            exact h0
        · rename_i e1 l hmk
          cases hl : Nat.ble (off + inf.size) l.length
          · rw [hl] at h; cases h
          · rw [hl] at h
            have h0 := h
            simp only [cond_true, Option.some.injEq, Prod.mk.injEq] at h
            have e := hm k (by rw [← h.2]; simp)
            rw [← e, hmk]
            simp only [hl]
            exact h0
        · cases h
      · rename_i k sz q sub
        split at h
        · rename_i e0 sz' n el hmk
          cases hl : ((sz == sz') && (noOwns x.cells && Nat.ble (sub + inf.size) (el q).length))
          · rw [hl] at h; cases h
          · rw [hl] at h
            have h0 := h
            simp only [cond_true, Option.some.injEq, Prod.mk.injEq] at h
            have e := hm k (by rw [← h.2]; simp)
            rw [← e, hmk]
            simp only [hl]
            exact h0
        · cases h
      · cases h
  · cases h
theorem aappend_congr {P : Program} {s1 s2 : St} {nk : Nat} {t : TypeId} {x y : AV} {b : Bool} {eff : Eff} (h : aappend P s1 nk t x y = some (b, eff)) (hm : ∀ k, k ∈ eff.rd → s1.mem[k]? = s2.mem[k]?) : aappend P s2 nk t x y = some (b, eff) := by
  have h0 := h
  unfold aappend at h ⊢
  split at h
  · rename_i e hun
    split at h
    · rename_i i hi
      split at h
      · rename_i z hz
        split at h
        · rename_i bb k n el j m ns hH hTl
          cases hk : ((z.cells.size == i.size) && (Nat.blt 0 i.bytes && ((ns.all fun new => new.all isCell) && ((ns.all noOwns) && !(k == some j)))))
          · rw [hk] at h; cases h
          · have h' := h
            rw [hk] at h'
            simp only [cond_true, Option.some.injEq, Prod.mk.injEq] at h'
            have hrd : eff.rd = k.toList ++ [j] := by rw [← h'.2]
            have hH2 : aHead s2.mem e i.size x = some (bb, k, n, el) := by
              rw [← hH]
              unfold aHead at hH ⊢
              split at hH
              · rfl
              · rename_i k1 sz len
                split at hH
                · rename_i e' sz' n' el' hmk
                  cases hk2 : ((e == e') && ((sz == i.size) && (sz' == i.size)))
                  · rw [hk2] at hH; cases hH
                  · rw [hk2] at hH
                    simp only [cond_true, Option.some.injEq, Prod.mk.injEq] at hH
                    have := hm k1 (by rw [hrd, ← hH.2.1]; simp)
                    rw [← this, hmk]
                    simp only [hk2]
                · cases hH
              · cases hH
            have hT2 : aTail s2.mem i.size y = some (j, m, ns) := by
              rw [← hTl]
              unfold aTail at hTl ⊢
              split at hTl
              · rename_i k1 sz m'
                split at hTl
                · rename_i e' sz' n' el' hmk
                  cases hk2 : ((sz == i.size) && ((sz' == i.size) && Nat.blt 0 m'))
                  · rw [hk2] at hTl; cases hTl
                  · rw [hk2] at hTl
                    simp only [cond_true, Option.some.injEq, Prod.mk.injEq] at hTl
                    have := hm k1 (by rw [hrd, ← hTl.1]; simp)
                    rw [← this, hmk]
                    simp only [hk2]
                · cases hTl
              · cases hTl
            simp only [hH2, hT2]
            exact h
        · cases h
      · cases h
    · cases h
  · cases h
theorem aappendZ_congr {P : Program} {s1 s2 : St} {nk : Nat} {t : TypeId} {x y : AV} {b : Bool} {eff : Eff} (h : aappendZ P s1 nk t x y = some (b, eff)) (hm : ∀ k, k ∈ eff.rd → s1.mem[k]? = s2.mem[k]?) : aappendZ P s2 nk t x y = some (b, eff) := by
  have h0 := h
  unfold aappendZ at h ⊢
  split at h
  · rename_i e hun
    split at h
    · rename_i i hi
      split at h
      · rename_i z hz
        split at h
        · rename_i k n el j m ns hH hTl
          cases hk : ((z.cells.size == i.size) && (Nat.blt 0 i.bytes && ((ns.all fun new => new.all isCell) && ((ns.all noOwns) && !(k == j)))))
          · rw [hk] at h; cases h
          · have h' := h
            rw [hk] at h'
            simp only [cond_true, Option.some.injEq, Prod.mk.injEq] at h'
            have hrd : eff.rd = [k, j] := by rw [← h'.2]
            have hH2 : zHead s2.mem e i.size x = some (k, n, el) := by
              rw [← hH]
              unfold zHead at hH ⊢
              split at hH
              · rename_i k1 sz len
                split at hH
                · rename_i e' sz' n' el' hmk
                  cases hk2 : ((e == e') && ((sz == i.size) && ((sz' == i.size) && ((len == n') && Nat.blt 0 n'))))
                  · rw [hk2] at hH; cases hH
                  · rw [hk2] at hH
                    simp only [cond_true, Option.some.injEq, Prod.mk.injEq] at hH
                    have := hm k1 (by rw [hrd, ← hH.1]; simp)
                    rw [← this, hmk]
                    simp only [hk2]
                · cases hH
              · cases hH
            have hT2 : aTail s2.mem i.size y = some (j, m, ns) := by
              rw [← hTl]
              unfold aTail at hTl ⊢
              split at hTl
              · rename_i k1 sz m'
                split at hTl
                · rename_i e' sz' n' el' hmk
                  cases hk2 : ((sz == i.size) && ((sz' == i.size) && Nat.blt 0 m'))
                  · rw [hk2] at hTl; cases hTl
                  · rw [hk2] at hTl
                    simp only [cond_true, Option.some.injEq, Prod.mk.injEq] at hTl
                    have := hm k1 (by rw [hrd, ← hTl.1]; simp)
                    rw [← this, hmk]
                    simp only [hk2]
                · cases hTl
              · cases hTl
            simp only [hH2, hT2]
            exact h
        · cases h
      · cases h
    · cases h
  · cases h
theorem aappendS_congr {P : Program} {s1 s2 : St} {nk : Nat} {t : TypeId} {x : AV} {sz m : Nat} {el2 : Nat → List AV} {b : Bool} {eff : Eff} (h : aappendS P s1 nk t x sz m el2 = some (b, eff)) (hm : ∀ k, k ∈ eff.rd → s1.mem[k]? = s2.mem[k]?) : aappendS P s2 nk t x sz m el2 = some (b, eff) := by
  have h0 := h
  unfold aappendS at h ⊢
  split at h
  · rename_i e hun
    split at h
    · rename_i i hi
      split at h
      · rename_i z hz
        split at h
        · rename_i bb k n el hH
          cases hk : ((z.cells.size == i.size) && (Nat.blt 0 i.bytes && (sz == i.size)))
          · rw [hk] at h; cases h
          · have h' := h
            rw [hk] at h'
            simp only [cond_true, Option.some.injEq, Prod.mk.injEq] at h'
            have hrd : eff.rd = k.toList := by rw [← h'.2]
            have hH2 : aHead s2.mem e i.size x = some (bb, k, n, el) := by
              rw [← hH]
              unfold aHead at hH ⊢
              split at hH
              · rfl
              · rename_i k1 sz len
                split at hH
                · rename_i e' sz' n' el' hmk
                  cases hk2 : ((e == e') && ((sz == i.size) && (sz' == i.size)))
                  · rw [hk2] at hH; cases hH
                  · rw [hk2] at hH
                    simp only [cond_true, Option.some.injEq, Prod.mk.injEq] at hH
                    have := hm k1 (by rw [hrd, ← hH.2.1]; simp)
                    rw [← this, hmk]
                    simp only [hk2]
                · cases hH
              · cases hH
            rw [hk] at h
            simp only [hH2]
            exact h
        · cases h
      · cases h
    · cases h
  · cases h
/-- Whether a row without room is appended to hangs on that row alone. -/
theorem isZ_congr {P : Program} {s1 s2 : St} {nk : Nat} {t : TypeId} {x y : AV} {b : Bool} {eff : Eff} (h : cond (isZ s1.mem x) (aappendZ P s1 nk t x y) (aappend P s1 nk t x y) = some (b, eff)) (hm : ∀ k, k ∈ eff.rd → s1.mem[k]? = s2.mem[k]?) : isZ s2.mem x = isZ s1.mem x := by
  have key : ∀ k1 sz st len, x = .osl k1 sz st len → s1.mem[k1]? = s2.mem[k1]? := fun k1 sz st len hx => by
    subst hx
    cases hz : isZ s1.mem (.osl k1 sz st len)
    · rw [hz] at h
      simp only [cond_false] at h
      unfold aappend at h
      split at h
      · split at h
        · rename_i i _
          split at h
          · rename_i z _
            split at h
            · rename_i bb k n el j m ns hH _
              cases hk : ((z.cells.size == i.size) && (Nat.blt 0 i.bytes && ((ns.all fun new => new.all isCell) && ((ns.all noOwns) && !(k == some j)))))
              · rw [hk] at h; cases h
              · rw [hk] at h
                simp only [cond_true, Option.some.injEq, Prod.mk.injEq] at h
                have hrd : eff.rd = k.toList ++ [j] := by rw [← h.2]
                unfold aHead at hH
                split at hH
                · rename_i hx; cases hx
                · rename_i k2 sz2 len2 hx
                  cases hx
                  split at hH
                  · rename_i e' sz' n' el' hmk
                    cases hk2 : ((_ == e') && ((sz == i.size) && (sz' == i.size)))
                    · rw [hk2] at hH; cases hH
                    · rw [hk2] at hH
                      simp only [cond_true, Option.some.injEq, Prod.mk.injEq] at hH
                      exact hm k1 (by rw [hrd, ← hH.2.1]; simp)
                  · cases hH
                · cases hH
            · cases h
          · cases h
        · cases h
      · cases h
    · rw [hz] at h
      simp only [cond_true] at h
      unfold aappendZ at h
      split at h
      · split at h
        · rename_i i _
          split at h
          · rename_i z _
            split at h
            · rename_i k n el j m ns hH _
              cases hk : ((z.cells.size == i.size) && (Nat.blt 0 i.bytes && ((ns.all fun new => new.all isCell) && ((ns.all noOwns) && !(k == j)))))
              · rw [hk] at h; cases h
              · rw [hk] at h
                simp only [cond_true, Option.some.injEq, Prod.mk.injEq] at h
                have hrd : eff.rd = [k, j] := by rw [← h.2]
                unfold zHead at hH
                split at hH
                · rename_i k2 sz2 len2 hx
                  cases hx
                  split at hH
                  · rename_i e' sz' n' el' hmk
                    cases hk2 : ((_ == e') && ((sz == i.size) && ((sz' == i.size) && ((len == n') && Nat.blt 0 n'))))
                    · rw [hk2] at hH; cases hH
                    · rw [hk2] at hH
                      simp only [cond_true, Option.some.injEq, Prod.mk.injEq] at hH
                      exact hm k1 (by rw [hrd, ← hH.1]; simp)
                  · cases hH
                · cases hH
            · cases h
          · cases h
        · cases h
      · cases h
  unfold isZ
  cases x <;> try rfl
  rename_i k1 sz st len
  simp only
  rw [key k1 sz st len rfl]
theorem aappendX_congr {P : Program} {s1 s2 : St} {nk : Nat} {t : TypeId} {x y : AV} {b : Bool} {eff : Eff} (h : aappendX P s1 nk t x y = some (b, eff)) (hm : ∀ k, k ∈ eff.rd → s1.mem[k]? = s2.mem[k]?) : aappendX P s2 nk t x y = some (b, eff) := by
  unfold aappendX at h ⊢
  split at h
  · exact h
  · exact aappendS_congr h hm
  · have hz2 : isZ s2.mem x = isZ s1.mem x := isZ_congr h hm
    rw [hz2]
    cases hz : isZ s1.mem x
    · rw [hz] at h
      exact aappend_congr h hm
    · rw [hz] at h
      exact aappendZ_congr h hm
theorem aappendT_congr {P : Program} {s1 s2 : St} {nk : Nat} {t t' : TypeId} {x y : AV} {b : Bool} {eff : Eff} (h : aappendT P s1 nk t t' x y = some (b, eff)) (hm : ∀ k, k ∈ eff.rd → s1.mem[k]? = s2.mem[k]?) : aappendT P s2 nk t t' x y = some (b, eff) := by
  unfold aappendT at h ⊢
  split at h
  · split at h
    · split at h
      · rename_i e hun
        split at h
        · rename_i i hi
          split at h
          · rename_i z hz
            split at h
            · rename_i bb k n el hH
              cases hk : ((z.cells.size == i.size) && (Nat.blt 0 i.bytes && (i.size == 1)))
              · rw [hk] at h; cases h
              · have h' := h
                rw [hk] at h'
                simp only [cond_true, Option.some.injEq, Prod.mk.injEq] at h'
                have hrd : eff.rd = k.toList := by rw [← h'.2]
                have hH2 : aHead s2.mem e i.size x = some (bb, k, n, el) := by
                  rw [← hH]
                  unfold aHead at hH ⊢
                  split at hH
                  · rfl
                  · rename_i k1 sz len
                    split at hH
                    · rename_i e' sz' n' el' hmk
                      cases hk2 : ((e == e') && ((sz == i.size) && (sz' == i.size)))
                      · rw [hk2] at hH; cases hH
                      · rw [hk2] at hH
                        simp only [cond_true, Option.some.injEq, Prod.mk.injEq] at hH
                        have := hm k1 (by rw [hrd, ← hH.2.1]; simp)
                        rw [← this, hmk]
                        simp only [hk2]
                    · cases hH
                  · cases hH
                rw [hk] at h
                simp only [hH2]
                exact h
            · cases h
          · cases h
        · cases h
      · cases h
    · cases h
  · cases h
theorem aappA_congr {P : Program} {s1 s2 : St} {nk : Nat} {t t' : TypeId} {x y : AV} {b : Bool} {eff : Eff} (h : aappA P s1 nk t t' x y = some (b, eff)) (hm : ∀ k, k ∈ eff.rd → s1.mem[k]? = s2.mem[k]?) : aappA P s2 nk t t' x y = some (b, eff) := by
  unfold aappA at h ⊢
  cases hk : t == t'
  · rw [hk] at h
    exact aappendT_congr h hm
  · rw [hk] at h
    exact aappendX_congr h hm
theorem acopy_congr {P : Program} {s1 s2 : St} {t : TypeId} {x y : AV} {b : Bool} {eff : Eff} (h : acopy P s1 t x y = some (b, eff)) (hm : ∀ k, k ∈ eff.rd → s1.mem[k]? = s2.mem[k]?) : acopy P s2 t x y = some (b, eff) := by
  unfold acopy at h ⊢
  split at h
  · rename_i e hun
    split at h
    · rename_i i hi
      split at h
      · rename_i k sz st sub n j sz2 st2 sub2 n2
        split at h
        · rename_i e' sz3 m el l hmk hmj
          have h0 := h
          cases hk : ((sz == i.size) && ((sz2 == i.size) && ((sz3 == i.size) && ((sub == 0) && (Nat.blt 0 n2 && (Nat.ble (st2 * sz2 + sub2 + n2 * i.size) l.length && (noOwns l && (l.all isCell && !(k == j)))))))))
          · rw [hk] at h; cases h
          · rw [hk] at h
            simp only [cond_true, Option.some.injEq, Prod.mk.injEq] at h
            have e1 : s2.mem[k]? = some (.a e' sz3 m el) := by rw [← hm k (by rw [← h.2]; simp)]; exact hmk
            have e2 : s2.mem[j]? = some (.c l) := by rw [← hm j (by rw [← h.2]; simp)]; exact hmj
            simp only [e1, e2]
            exact h0
        · cases h
      · cases h
    · cases h
  · cases h
theorem amark_congr {P : Program} {s1 s2 : St} {src dst : TypeId} {x : AV} {b : Bool} {eff : Eff} (h : amark P s1 src dst x = some (b, eff)) (hm : ∀ k, k ∈ eff.rd → s1.mem[k]? = s2.mem[k]?) : amark P s2 src dst x = some (b, eff) := by
  unfold amark at h ⊢
  split at h
  · split at h
    · cases hsd : src == dst
      · rw [hsd] at h; cases h
      · rw [hsd] at h
        simp only [cond_true] at h ⊢
        split at h
        · rename_i k sz st n
          split at h
          · rename_i e2 sz2 m el hmk
            have e : eff.rd = [k] := by simp only [Option.some.injEq, Prod.mk.injEq] at h; rw [← h.2]
            rw [← hm k (by rw [e]; simp), hmk]
            exact h
          · rename_i xx e2 sz2 m el hmk
            have e : eff.rd = [k] := by simp only [Option.some.injEq, Prod.mk.injEq] at h; rw [← h.2]
            rw [← hm k (by rw [e]; simp), hmk]
            exact h
          · cases h
        · cases h
    · cases h
  · cases h
theorem anext_congr {s1 s2 : St} {x : AV} {b : Bool} {eff : Eff} (h : anext s1 x = some (b, eff)) (hm : ∀ k, k ∈ eff.rd → s1.mem[k]? = s2.mem[k]?) : anext s2 x = some (b, eff) := by
  unfold anext at h ⊢
  split at h
  · rename_i k
    split at h
    · rename_i st p hmk
      have e : eff.rd = [k] := by simp only [Option.some.injEq, Prod.mk.injEq] at h; rw [← h.2]
      rw [← hm k (by rw [e]; simp), hmk]
      exact h
    · rename_i st p hmk
      have e : eff.rd = [k] := by simp only [Option.some.injEq, Prod.mk.injEq] at h; rw [← h.2]
      rw [← hm k (by rw [e]; simp), hmk]
      exact h
    · cases h
  · cases h
theorem awr_congr {P : Program} {T : Tab} (hR : ∀ f g, T.r f = some g → ∀ args look look' b v rd, g args look = some (b, v, rd) → (∀ k, k ∈ rd → look k = look' k) → g args look' = some (b, v, rd)) {s1 s2 : St} {nk : Nat} {o : Oper} {b : Bool} {eff : Eff} (h : ∀ y, y ∈ o.op.operands.toList → aeval s1 y = aeval s2 y) (hw : awr P T s1 nk o = some (b, eff)) (hm : ∀ k, k ∈ eff.rd → s1.mem[k]? = s2.mem[k]?) : awr P T s2 nk o = some (b, eff) := by
  obtain ⟨dst, op, type, pos, after, guard⟩ := o
  cases op <;> simp only [awr] at hw ⊢ <;> first | (cases hw; done) | skip
  case box t y => rw [← h y (by simp [Op.operands])]; exact hw
  case alloc t => exact hw
  case buildSlice t len ps =>
    have e : (ps.toList.map fun p => (p.1, aeval s1 p.2)) = ps.toList.map fun p => (p.1, aeval s2 p.2) := List.map_congr_left fun p hp => by
      rw [h p.2 (by simp only [Op.operands]; exact List.mem_map_of_mem hp)]
    rw [← e]
    exact hw
  case makeSlice t l c => rw [← h l (by simp [Op.operands]), ← h c (by simp [Op.operands])]; exact hw
  case store t p y =>
    cases hd : dst with
    | some d => rw [hd] at hw; cases hw
    | none =>
      rw [hd] at hw
      rw [← h p (by simp [Op.operands]), ← h y (by simp [Op.operands])]
      exact astore_congr hw hm
  case convert src dst y =>
    rw [← h y (by simp [Op.operands])]
    exact amark_congr hw hm
  case range t y => rw [← h y (by simp [Op.operands])]; exact hw
  case next it bb =>
    cases bb with
    | false => cases hw
    | true => rw [← h it (by simp [Op.operands])]; exact anext_congr hw hm
  case call c =>
    have hargs : c.args.toList.map (aeval s1) = c.args.toList.map (aeval s2) := List.map_congr_left fun y hy => h y (by simp [Op.operands, Call.operands]; exact Or.inr (by simpa using hy))
    rw [← hargs]
    split at hw
    · rename_i hb
      split at hw
      · rename_i x y t t' ha ht
        exact aappA_congr hw hm
      · cases hw
    · rename_i hb
      split at hw
      · rename_i x y t t' ha ht
        cases hk : t == t'
        · rw [hk] at hw; cases hw
        · rw [hk] at hw
          exact acopy_congr hw hm
      · cases hw
    · rename_i f hb
      cases hTr : T.r f with
      | some g =>
        simp only [hTr] at hw ⊢
        unfold acallR at hw ⊢
        split at hw
        · rename_i b' v rd hge
          cases hno : noOwn v
          · rw [hno] at hw; cases hw
          · rw [hno] at hw
            simp only [cond_true, Option.some.injEq, Prod.mk.injEq] at hw
            obtain ⟨rfl, rfl⟩ := hw
            rw [hR f g hTr _ _ _ _ _ _ hge hm]
            simp only [hno, cond_true]
        · cases hw
      | none =>
      simp only [hTr] at hw ⊢
      unfold acallM at hw ⊢
      split at hw
      · rename_i g hg
        split at hw
        · rename_i b' eff' hge
          cases hrd : eff'.rd == rowsL (c.args.toList.map (aeval s1))
          · rw [hrd] at hw; cases hw
          · rw [hrd] at hw
            simp only [cond_true, Option.some.injEq, Prod.mk.injEq] at hw
            obtain ⟨rfl, rfl⟩ := hw
            have e1 : ((rowsL (c.args.toList.map (aeval s1))).map fun k => s2.mem[k]?) = (rowsL (c.args.toList.map (aeval s1))).map fun k => s1.mem[k]? := List.map_congr_left fun k hk => (hm k (by rw [eq_of_beq hrd]; exact hk)).symm
            simp only [e1, hge, hrd, cond_true]
        · cases hw
      · cases hw
    · cases hw
theorem aopN_congr {T : Tab} {s1 s2 : St} {nk : Nat} {o : Oper} (h : ∀ y, y ∈ o.op.operands.toList → aeval s1 y = aeval s2 y) : aopN T s1 nk o = aopN T s2 nk o := by
  unfold aopN
  split
  · rename_i c hop
    have e : c.args.toList.map (aeval s1) = c.args.toList.map (aeval s2) := List.map_congr_left fun y hy => h y (by rw [hop]; cases hc : c.callee <;> simp [Op.operands, Call.operands, hc] <;> (try right) <;> simpa using hy)
    rw [e]
  · rfl
theorem aappA_nk {P : Program} {s : St} {nk nk' : Nat} {t t' : TypeId} {x y : AV} {b : Bool} {eff : Eff} (h : aappA P s nk t t' x y = some (b, eff)) (hn : eff.nw = none) : aappA P s nk' t t' x y = some (b, eff) := by
  unfold aappA at h
  cases hk : t == t'
  · rw [hk] at h
    simp only [cond_false] at h
    unfold aappendT at h
    split at h
    · split at h
      · split at h
        · split at h
          · rename_i i _
            split at h
            · rename_i z _
              split at h
              · rename_i b' k n el _
                cases hk : ((z.cells.size == i.size) && (Nat.blt 0 i.bytes && (i.size == 1)))
                · rw [hk] at h; cases h
                · rw [hk] at h
                  simp only [cond_true, Option.some.injEq, Prod.mk.injEq] at h
                  rw [← h.2] at hn; cases hn
              · cases h
            · cases h
          · cases h
        · cases h
      · cases h
    · cases h
  · rw [hk] at h
    simp only [cond_true] at h
    unfold aappendX at h
    split at h
    · rename_i ad cp
      have e : aappA P s nk' t t' x (.x (.slice ad 0 cp)) = aappend0 P t x := by unfold aappA; rw [hk]; rfl
      rw [e]
      exact h
    · unfold aappendS at h
      split at h
      · split at h
        · rename_i i _
          split at h
          · rename_i z _
            split at h
            · rename_i b' k n el _
              cases hk : ((z.cells.size == i.size) && (Nat.blt 0 i.bytes && (_ == i.size)))
              · rw [hk] at h; cases h
              · rw [hk] at h
                simp only [cond_true, Option.some.injEq, Prod.mk.injEq] at h
                rw [← h.2] at hn; cases hn
            · cases h
          · cases h
        · cases h
      · cases h
    · rename_i x' _ _
      cases hz : isZ s.mem x
      · rw [hz] at h
        simp only [cond_false] at h
        unfold aappend at h
        split at h
        · split at h
          · rename_i i _
            split at h
            · rename_i z _
              split at h
              · rename_i b' k n el j m ns _ _
                cases hk : ((z.cells.size == i.size) && (Nat.blt 0 i.bytes && ((ns.all fun new => new.all isCell) && ((ns.all noOwns) && !(k == some j)))))
                · rw [hk] at h; cases h
                · rw [hk] at h
                  simp only [cond_true, Option.some.injEq, Prod.mk.injEq] at h
                  rw [← h.2] at hn; cases hn
              · cases h
            · cases h
          · cases h
        · cases h
      · rw [hz] at h
        simp only [cond_true] at h
        unfold aappendZ at h
        split at h
        · split at h
          · rename_i i _
            split at h
            · rename_i z _
              split at h
              · rename_i k n el j m ns _ _
                cases hk : ((z.cells.size == i.size) && (Nat.blt 0 i.bytes && ((ns.all fun new => new.all isCell) && ((ns.all noOwns) && !(k == j)))))
                · rw [hk] at h; cases h
                · rw [hk] at h
                  simp only [cond_true, Option.some.injEq, Prod.mk.injEq] at h
                  rw [← h.2] at hn; cases hn
              · cases h
            · cases h
          · cases h
        · cases h
/-- What makes no row hangs on no number of one. -/
theorem awr_nk {P : Program} {T : Tab} (hM : ∀ f g, T.m f = some g → ∀ args rows nk nk' b eff, g args rows nk = some (b, eff) → eff.nw = none → g args rows nk' = some (b, eff)) {s : St} {nk nk' : Nat} {o : Oper} {b : Bool} {eff : Eff} (h : awr P T s nk o = some (b, eff)) (hn : eff.nw = none) : awr P T s nk' o = some (b, eff) := by
  unfold awr at h ⊢
  split at h
  · rename_i t x hop
    cases hk : okPart (aeval s x)
    · rw [hk] at h; cases h
    · rw [hk] at h
      simp only [cond_true, Option.some.injEq, Prod.mk.injEq] at h
      rw [← h.2] at hn; cases hn
  · split at h
    · split at h
      · simp only [Option.some.injEq, Prod.mk.injEq] at h
        rw [← h.2] at hn; cases hn
      · simp only [Option.some.injEq, Prod.mk.injEq] at h
        rw [← h.2] at hn; cases hn
    · cases h
  · rename_i t len ps hop
    cases hb : T.m (bornK t) with
    | some g => simp only [hb] at h ⊢; exact h
    | none =>
      simp only [hb] at h
      unfold abuildX at h
      split at h
      · unfold abuild0 at h
        split at h
        · split at h
          · simp only [Option.some.injEq, Prod.mk.injEq] at h
            rw [← h.2] at hn; cases hn
          · cases h
        · cases h
      · rename_i len _ _ _
        unfold abuildSl at h
        split at h
        · split at h
          · rename_i size z _ _
            cases hk : (Nat.blt 0 (len * size) && Nat.ble (len * size) 16777216)
            · rw [hk] at h; cases h
            · rw [hk] at h
              simp only [cond_true] at h
              split at h
              · rename_i cells _
                cases hno : noOwns cells
                · rw [hno] at h; cases h
                · rw [hno] at h
                  simp only [cond_true, Option.some.injEq, Prod.mk.injEq] at h
                  rw [← h.2] at hn; cases hn
              · cases h
          · cases h
        · cases h
  · rename_i t l c hop
    unfold amake at h
    split at h
    · split at h
      · rename_i i _
        split at h
        · rename_i z _
          cases hk : (((z.cells.size == i.size) && Nat.blt 0 i.bytes) && noOwns (z.cells.toList.map canA))
          · rw [hk] at h; cases h
          · rw [hk] at h
            simp only [cond_true, Option.some.injEq, Prod.mk.injEq] at h
            rw [← h.2] at hn; cases hn
        · cases h
      · cases h
    · cases h
  · exact h
  · exact h
  · unfold arange at h
    split at h
    · split at h
      · simp only [Option.some.injEq, Prod.mk.injEq] at h
        rw [← h.2] at hn; cases hn
      · cases h
    · cases h
  · exact h
  · rename_i c hop
    split at h
    · have : ∀ (l : List AV) (ts : List TypeId), (match l, ts with
          | [x, y], [t, t'] => aappA P s nk t t' x y
          | _, _ => none) = some (b, eff) → (match l, ts with
          | [x, y], [t, t'] => aappA P s nk' t t' x y
          | _, _ => none) = some (b, eff) := by
        intro l ts h
        split at h
        · exact aappA_nk h hn
        · cases h
      exact this _ _ h
    · exact h
    · rename_i f _
      cases hTr : T.r f with
      | some g =>
        simp only [hTr] at h ⊢
        exact h
      | none =>
      simp only [hTr] at h ⊢
      unfold acallM at h ⊢
      split at h
      · rename_i g hg
        split at h
        · rename_i b' eff' hge
          cases hrd : eff'.rd == rowsL (c.args.toList.map (aeval s))
          · rw [hrd] at h; cases h
          · rw [hrd] at h
            simp only [cond_true, Option.some.injEq, Prod.mk.injEq] at h
            obtain ⟨rfl, rfl⟩ := h
            simp only [hM f g hg _ _ _ nk' _ _ hge hn, hrd, cond_true]
        · cases h
      · cases h
    · cases h
  · cases h
end
end Go.Gv

namespace Go.Gv
open Go.RowKit Go.Ev
noncomputable section

def hasEdge (o : Oper) (i : Nat) : Bool := o.after.toList.any fun e => e.on == i && Region.binds .any e
def writes (o : Oper) (t : Nat) : Bool := o.dst == some t
/-- All that an operation waits for, as bits. -/
def maskOf (M : List Nat) (o : Oper) : Nat := o.after.toList.foldr (fun e m => cond (Region.binds .any e) (Nat.lor (Nat.lor (2 ^ e.on) (M.getD e.on 0)) m) m) 0
def masksOf : List Oper → List Nat → List Nat
  | [], M => M
  | o :: rest, M => masksOf rest (M ++ [maskOf M o])
structure Rec where
  nk : Nat
  b : Bool
  c : Chain
  eff : Eff
  /-- rows that it makes besides -/
  ex : List Row
def Rec.touch (p : Rec) (r : Nat) : Bool := p.eff.rd.contains r || (p.eff.nw.isSome && (Nat.ble p.nk r && Nat.ble r (p.nk + p.ex.length)))
def Rec.wrs (p : Rec) (r : Nat) : Bool := match p.eff.wr with
  | some (r', _) => r' == r
  | none => false
def slotsOk (ops : List Oper) (len : Nat) : Bool :=
  ops.zipIdx.all fun q =>
    (q.1.after.toList.all fun e => !Region.binds .any e || Nat.blt e.on q.2) &&
    ((match q.1.dst with | some d => Nat.blt d len && ops.zipIdx.all (fun p => !writes p.1 d || p.2 == q.2) | none => true) &&
    ((looks ops q.1).all (fun t => ops.zipIdx.all fun p => !writes p.1 t || ((Nat.blt p.2 q.2 && hasEdge q.1 p.2) || (Nat.blt q.2 p.2 && hasEdge p.1 q.2))) &&
    (testsOf ops q.1).all (fun t => ops.zipIdx.all fun p => !writes p.1 t || Nat.blt p.2 q.2)))
def masksOk (ops : List Oper) (M : List Nat) : Bool := ops.zipIdx.all fun q => M.getD q.2 0 == maskOf M q.1
def rowsOk (M : List Nat) (recs : List Rec) : Bool :=
  recs.zipIdx.all fun q => match q.1.eff.wr with
    | none => true
    | some (r, _) => q.1.eff.rd.contains r && recs.zipIdx.all fun p => p.2 == q.2 || (!p.1.touch r || ((Nat.blt p.2 q.2 && Nat.testBit (M.getD q.2 0) p.2) || (Nat.blt q.2 p.2 && Nat.testBit (M.getD p.2 0) q.2)))

/-- The state behind it. -/
def putX (s : St) (dst : Option Nat) (c : Chain) (eff : Eff) (ex : List Row) : St := ⟨putS s.slots dst (eff.v, c), eff.mem s.mem ++ ex⟩
theorem putX_nil (s : St) (dst : Option Nat) (c : Chain) (eff : Eff) : putX s dst c eff [] = putE s dst c eff := by unfold putX putE; rw [List.append_nil]
/-- What an operation is known to do. -/
def StepOk (P : Program) (T : Tab) (L : List Oper) (s : St) (o : Oper) (q : Rec) : Prop :=
  (astep P T L s s.mem.length o = some (q.b, q.c, q.eff) ∧ q.ex = []) ∨ (∃ r0, aopN T s s.mem.length o = some (q.b, q.eff.v, r0 :: q.ex) ∧ nOk s o = true ∧ q.c = [] ∧ q.eff = ⟨q.eff.v, [], none, some r0⟩)
def dops (P : Program) (T : Tab) (ops : List Oper) : List Oper → St → Option (St × List Rec)
  | [], s => some (s, [])
  | o :: rest, s => match aopN T s s.mem.length o with
    | some (b, v, r0 :: ex) => cond (nOk s o) (match dops P T ops rest (putX s o.dst [] ⟨v, [], none, some r0⟩ ex) with
      | some (s', recs) => some (s', ⟨s.mem.length, b, [], ⟨v, [], none, some r0⟩, ex⟩ :: recs)
      | none => none) none
    | some (_, _, []) => none
    | none => match astep P T ops s s.mem.length o with
    | some (b, c, eff) => cond (dstOk s.slots c o.dst && eff.rd.all (fun r => Nat.blt r s.mem.length)) (match dops P T ops rest (putE s o.dst c eff) with
      | some (s', recs) => some (s', ⟨s.mem.length, b, c, eff, []⟩ :: recs)
      | none => none) none
    | none => none
def drawn (P : Program) (T : Tab) (ops : List Oper) (s : St) : Option St :=
  cond (slotsOk ops s.slots.length && (masksOk ops (masksOf ops []) && s.slots.all (fun q => q.2.isEmpty))) (match dops P T ops ops s with
    | some (sf, recs) => cond (rowsOk (masksOf ops []) recs && recs.all (fun r => r.b || !tru sf.slots r.c)) (some sf) none
    | none => none) none

structure Lex (P : Program) (T : Tab) (L : List Oper) (s0 sf : St) (S : Nat → St) (rec : Nat → Rec) : Prop where
  ok : slotsOk L s0.slots.length = true
  masks : masksOk L (masksOf L []) = true
  first : S 0 = s0
  last : S L.length = sf
  step : ∀ k o, L[k]? = some o → StepOk P T L (S k) o (rec k) ∧ (rec k).nk = (S k).mem.length ∧ (∀ r, r ∈ (rec k).eff.rd → r < (S k).mem.length) ∧ S (k + 1) = putX (S k) o.dst (rec k).c (rec k).eff (rec k).ex
  clear : ∀ t, (s0.slots.getD t dflt).2 = []
  conds : ∀ k, k < L.length → tru sf.slots (rec k).c = true → (rec k).b = true
  rows : ∀ k, k < L.length → ∀ r row, (rec k).eff.wr = some (r, row) → r ∈ (rec k).eff.rd ∧ ∀ i, i < L.length → i ≠ k → ((rec i).touch r = true → (i < k ∧ Nat.testBit ((masksOf L []).getD k 0) i = true) ∨ (k < i ∧ Nat.testBit ((masksOf L []).getD i 0) k = true))

theorem dops_states {P : Program} {T : Tab} {L : List Oper} : ∀ {l : List Oper} {s sf : St} {recs : List Rec}, dops P T L l s = some (sf, recs) → recs.length = l.length ∧ ∃ S : Nat → St, S 0 = s ∧ S l.length = sf ∧
    ∀ k o, l[k]? = some o → ∃ q, recs[k]? = some q ∧ StepOk P T L (S k) o q ∧ q.nk = (S k).mem.length ∧ (∀ r, r ∈ q.eff.rd → r < (S k).mem.length) ∧ S (k + 1) = putX (S k) o.dst q.c q.eff q.ex
  | [], s, sf, recs, h => by
    simp only [dops, Option.some.injEq, Prod.mk.injEq] at h
    obtain ⟨rfl, rfl⟩ := h
    exact ⟨rfl, fun _ => s, rfl, rfl, fun k o hk => by simp at hk⟩
  | o :: l, s, sf, recs, h => by
    simp only [dops] at h
    have fin : ∀ (q : Rec) (s1 : St), StepOk P T L s o q → q.nk = s.mem.length → (∀ r, r ∈ q.eff.rd → r < s.mem.length) → s1 = putX s o.dst q.c q.eff q.ex → (match dops P T L l s1 with
        | some (s', recs) => some (s', q :: recs)
        | none => none) = some (sf, recs) → recs.length = (o :: l).length ∧ ∃ S : Nat → St, S 0 = s ∧ S (o :: l).length = sf ∧
    ∀ k o', (o :: l)[k]? = some o' → ∃ q, recs[k]? = some q ∧ StepOk P T L (S k) o' q ∧ q.nk = (S k).mem.length ∧ (∀ r, r ∈ q.eff.rd → r < (S k).mem.length) ∧ S (k + 1) = putX (S k) o'.dst q.c q.eff q.ex := by
      intro q s1 hq hn hrd hs1 h
      split at h
      · rename_i s' recs' h2
        simp only [Option.some.injEq, Prod.mk.injEq] at h
        obtain ⟨rfl, rfl⟩ := h
        obtain ⟨hl, S, h3, h4, h5⟩ := dops_states h2
        refine ⟨by simp [hl], fun k => match k with | 0 => s | k + 1 => S k, rfl, h4, fun k o' hk' => ?_⟩
        cases k with
        | zero =>
          simp at hk'
          subst hk'
          exact ⟨q, rfl, hq, hn, hrd, h3.trans hs1⟩
        | succ k => exact h5 k o' (by simpa using hk')
      · cases h
    split at h
    · rename_i b v r0 ex hN
      cases hk : nOk s o
      · rw [hk] at h; cases h
      · rw [hk] at h
        simp only [cond_true] at h
        exact fin ⟨s.mem.length, b, [], ⟨v, [], none, some r0⟩, ex⟩ _ (Or.inr ⟨r0, hN, hk, rfl, rfl⟩) rfl (fun r hr => by cases hr) rfl h
    · cases h
    · split at h
      · rename_i b c eff h1
        cases hk : (dstOk s.slots c o.dst && eff.rd.all (fun r => Nat.blt r s.mem.length))
        · rw [hk] at h; cases h
        · rw [hk] at h
          simp only [cond_true] at h
          simp only [Bool.and_eq_true] at hk
          exact fin ⟨s.mem.length, b, c, eff, []⟩ _ (Or.inl ⟨h1, rfl⟩) rfl (fun r hr => Nat.le_of_ble_eq_true ((List.all_eq_true.1 hk.2) r hr)) (putX_nil s o.dst c eff).symm h
      · cases h

theorem lt_of_blt {x y : Nat} (h : Nat.blt x y = true) : x < y := Nat.le_of_ble_eq_true h
theorem lex_of {P : Program} {T : Tab} {L : List Oper} {s sf : St} (h : drawn P T L s = some sf) : ∃ S rec, Lex P T L s sf S rec := by
  unfold drawn at h
  cases hk : (slotsOk L s.slots.length && (masksOk L (masksOf L []) && s.slots.all (fun q => q.2.isEmpty)))
  · rw [hk] at h; cases h
  · rw [hk] at h
    simp only [cond_true] at h
    simp only [Bool.and_eq_true] at hk
    split at h
    · rename_i sf' recs hd
      cases hr : (rowsOk (masksOf L []) recs && recs.all (fun r => r.b || !tru sf'.slots r.c))
      · rw [hr] at h; cases h
      · rw [hr] at h
        simp only [cond_true, Option.some.injEq] at h
        subst h
        simp only [Bool.and_eq_true] at hr
        obtain ⟨hl, S, h1, h2, h3⟩ := dops_states hd
        let dfl : Rec := ⟨0, false, [], ⟨.any, [], none, none⟩, []⟩
        have hget : ∀ k, k < L.length → recs[k]? = some (recs.getD k dfl) := fun k hk => by
          rw [List.getD_eq_getElem?_getD, List.getElem?_eq_getElem (by omega)]; rfl
        refine ⟨S, fun k => recs.getD k dfl, hk.1, hk.2.1, h1, h2, fun k o ho => ?_, fun t => ?_, fun k hk' ht => ?_, fun k hk' r row hw => ?_⟩
        · obtain ⟨q, g1, g2, g3, g4, g5⟩ := h3 k o ho
          have e : recs.getD k dfl = q := by rw [List.getD_eq_getElem?_getD, g1]; rfl
          rw [e]
          exact ⟨g2, g3, g4, g5⟩
        · rw [List.getD_eq_getElem?_getD]
          cases hq : s.slots[t]? with
          | none => rfl
          | some q =>
            have := (List.all_eq_true.1 hk.2.2) q (List.mem_of_getElem? hq)
            simpa using this
        · have := (List.all_eq_true.1 hr.2) _ (List.mem_of_getElem? (hget k hk'))
          have ht' : tru sf'.slots (recs.getD k dfl).c = true := ht
          rw [ht'] at this
          simpa using this
        · have hrow := hr.1
          unfold rowsOk at hrow
          have h4 := (List.all_eq_true.1 hrow) (recs.getD k dfl, k) (List.mem_zipIdx_iff_getElem?.2 (hget k hk'))
          have hw' : (recs.getD k dfl).eff.wr = some (r, row) := hw
          simp only [hw', Bool.and_eq_true] at h4
          refine ⟨by simpa using h4.1, fun i hi hne => ?_⟩
          have h5 := (List.all_eq_true.1 h4.2) (recs.getD i dfl, i) (List.mem_zipIdx_iff_getElem?.2 (hget i hi))
          have hne' : (i == k) = false := by simpa using hne
          simp only [hne', Bool.false_or, Bool.and_eq_true, Bool.not_eq_true', Bool.or_eq_true] at h5
          intro ht
          rcases h5 with h6 | h6
          · rw [h6] at ht; cases ht
          · rcases h6 with ⟨g1, g2⟩ | ⟨g1, g2⟩
            · exact Or.inl ⟨lt_of_blt g1, g2⟩
            · exact Or.inr ⟨lt_of_blt g1, g2⟩
    · cases h

theorem slotsOk_spec {L : List Oper} {len : Nat} (h : slotsOk L len = true) {j : Nat} {oj : Oper} (hj : L[j]? = some oj) :
    (∀ e, e ∈ oj.after → Region.binds .any e = true → e.on < j) ∧ (∀ d, oj.dst = some d → d < len ∧ ∀ (i : Nat) (oi : Oper), L[i]? = some oi → writes oi d = true → i = j) ∧
    (∀ t, t ∈ looks L oj → ∀ (i : Nat) (oi : Oper), L[i]? = some oi → writes oi t = true → (i < j ∧ hasEdge oj i = true) ∨ (j < i ∧ hasEdge oi j = true)) ∧
    (∀ t, t ∈ testsOf L oj → ∀ (i : Nat) (oi : Oper), L[i]? = some oi → writes oi t = true → i < j) := by
  unfold slotsOk at h
  rw [List.all_eq_true] at h
  have hq := h (oj, j) (List.mem_zipIdx_iff_getElem?.2 hj)
  simp only [Bool.and_eq_true] at hq
  obtain ⟨h2, h3, h4, h5⟩ := hq
  have mem : ∀ {i : Nat} {oi : Oper}, L[i]? = some oi → (oi, i) ∈ L.zipIdx := fun hi => List.mem_zipIdx_iff_getElem?.2 hi
  refine ⟨fun e he hb => ?_, fun d hd => ?_, fun t ht i oi hi hw => ?_, fun t ht i oi hi hw => ?_⟩
  · rw [List.all_eq_true] at h2
    have := h2 e (by simpa using he)
    rw [hb] at this
    exact lt_of_blt (by simpa using this)
  · rw [hd] at h3
    simp only [Bool.and_eq_true] at h3
    refine ⟨lt_of_blt h3.1, fun i oi hi hw => ?_⟩
    have h32 := h3.2
    rw [List.all_eq_true] at h32
    have := h32 (oi, i) (mem hi)
    simp only [hw] at this
    simpa using this
  · rw [List.all_eq_true] at h4
    have h41 := h4 t ht
    rw [List.all_eq_true] at h41
    have := h41 (oi, i) (mem hi)
    simp only [hw, Bool.not_true, Bool.false_or, Bool.or_eq_true, Bool.and_eq_true] at this
    rcases this with ⟨h, h'⟩ | ⟨h, h'⟩
    · exact Or.inl ⟨lt_of_blt h, h'⟩
    · exact Or.inr ⟨lt_of_blt h, h'⟩
  · rw [List.all_eq_true] at h5
    have h51 := h5 t ht
    rw [List.all_eq_true] at h51
    have := h51 (oi, i) (mem hi)
    simp only [hw, Bool.not_true, Bool.false_or] at this
    exact lt_of_blt this

theorem hasEdge_listed {o : Oper} {i : Nat} {listed : Array Bool} (h : hasEdge o i = true) (ha : ∀ e, e ∈ o.after → Region.binds .any e = true → listed.getD e.on false = true) : listed.getD i false = true := by
  unfold hasEdge at h
  rw [List.any_eq_true] at h
  obtain ⟨e, he, h2⟩ := h
  simp only [Bool.and_eq_true] at h2
  have : e.on = i := by simpa using h2.1
  rw [← this]
  exact ha e (by simpa using he) h2.2
theorem mask_bit {M : List Nat} {i : Nat} : ∀ (l : List Edge), Nat.testBit (l.foldr (fun e m => cond (Region.binds .any e) (Nat.lor (Nat.lor (2 ^ e.on) (M.getD e.on 0)) m) m) 0) i = true → ∃ e, e ∈ l ∧ Region.binds .any e = true ∧ (e.on = i ∨ Nat.testBit (M.getD e.on 0) i = true)
  | [], h => by simp at h
  | e :: l, h => by
    simp only [List.foldr_cons] at h
    cases hb : Region.binds .any e
    · rw [hb] at h
      obtain ⟨e', h1, h2⟩ := mask_bit l h
      exact ⟨e', by simp [h1], h2⟩
    · rw [hb] at h
      simp only [cond_true] at h
      have h' : Nat.testBit ((2 ^ e.on ||| M.getD e.on 0) ||| _) i = true := h
      rw [Nat.testBit_or, Nat.testBit_or, Nat.testBit_two_pow] at h'
      simp only [Bool.or_eq_true, decide_eq_true_eq] at h'
      rcases h' with (h' | h') | h'
      · exact ⟨e, by simp, hb, Or.inl h'⟩
      · exact ⟨e, by simp, hb, Or.inr h'⟩
      · obtain ⟨e', h1, h2⟩ := mask_bit l h'
        exact ⟨e', by simp [h1], h2⟩
theorem mask_listed {L : List Oper} {len : Nat} (hs : slotsOk L len = true) (hm : masksOk L (masksOf L []) = true) {listed : Array Bool}
    (hshut : ∀ (j : Nat) (oj : Oper), L[j]? = some oj → listed.getD j false = true → ∀ e, e ∈ oj.after → Region.binds .any e = true → listed.getD e.on false = true) :
    ∀ (k : Nat) (o : Oper), L[k]? = some o → (∀ e, e ∈ o.after → Region.binds .any e = true → listed.getD e.on false = true) → ∀ i, Nat.testBit ((masksOf L []).getD k 0) i = true → listed.getD i false = true := by
  intro k
  induction k using Nat.strongRecOn with
  | _ k ih =>
    intro o ho hready i hi
    have h1 := (List.all_eq_true.1 hm) (o, k) (List.mem_zipIdx_iff_getElem?.2 ho)
    have h2 : (masksOf L []).getD k 0 = maskOf (masksOf L []) o := by simpa using h1
    rw [h2] at hi
    obtain ⟨e, he, hb, hor⟩ := mask_bit _ hi
    have he' : e ∈ o.after := by simpa using he
    have hl := hready e he' hb
    rcases hor with rfl | hor
    · exact hl
    · have hlt := (slotsOk_spec hs ho).1 e he' hb
      have hlt2 : e.on < L.length := Nat.lt_trans hlt (List.getElem?_eq_some_iff.1 ho).1
      exact ih e.on hlt L[e.on] (List.getElem?_eq_getElem hlt2) (hshut e.on _ (List.getElem?_eq_getElem hlt2) hl) i hor

section
variable {P : Program} {T : Tab} {L : List Oper} {s0 sf : St} {S : Nat → St} {rec : Nat → Rec}
theorem Lex.puts (hx : Lex P T L s0 sf S rec) {k : Nat} {o : Oper} (hk : L[k]? = some o) : (S (k + 1)).slots = putS (S k).slots o.dst ((rec k).eff.v, (rec k).c) := by
  rw [(hx.step k o hk).2.2.2]; rfl
theorem Lex.length (hx : Lex P T L s0 sf S rec) : ∀ k, k ≤ L.length → (S k).slots.length = s0.slots.length
  | 0, _ => by rw [hx.first]
  | k + 1, hk => by
    have ih := Lex.length hx k (by omega)
    have ho : L[k]? = some L[k] := List.getElem?_eq_getElem (by omega)
    rw [hx.puts ho]; cases hd : L[k].dst <;> simp [putS, ih]
/-- A slot that nothing writes between two places stays. -/
theorem Lex.stays (hx : Lex P T L s0 sf S rec) (t i : Nat) : ∀ n, i + n ≤ L.length → (∀ (k : Nat) (o : Oper), L[k]? = some o → i ≤ k → k < i + n → writes o t = false) → (S (i + n)).slots.getD t dflt = (S i).slots.getD t dflt
  | 0, _, _ => rfl
  | n + 1, hn, hw => by
    have ih := Lex.stays hx t i n (by omega) (fun k o hk h1 h2 => hw k o hk h1 (by omega))
    have hlt : i + n < L.length := by omega
    have ho : L[i + n]? = some L[i + n] := List.getElem?_eq_getElem hlt
    have hnw := hw (i + n) _ ho (by omega) (by omega)
    rw [← ih]
    show (S (i + n + 1)).slots.getD t dflt = _
    rw [hx.puts ho]
    cases hd : L[i + n].dst with
    | none => rfl
    | some d =>
      simp only [putS]
      rw [getD_set, if_neg]
      intro ⟨e, _⟩
      rw [writes, hd, e] at hnw
      simp at hnw
theorem Lex.uniq (hx : Lex P T L s0 sf S rec) {i j t : Nat} {oi oj : Oper} (hi : L[i]? = some oi) (hj : L[j]? = some oj) (h1 : writes oi t = true) (h2 : writes oj t = true) : i = j := by
  have hd : oj.dst = some t := by simpa [writes] using h2
  exact ((slotsOk_spec hx.ok hj).2.1 t hd).2 i oi hi h1
theorem Lex.before (hx : Lex P T L s0 sf S rec) {t k : Nat} (hk : k ≤ L.length) (hw : ∀ (i : Nat) (o : Oper), L[i]? = some o → i < k → writes o t = false) : (S k).slots.getD t dflt = s0.slots.getD t dflt := by
  have := hx.stays t 0 k (by omega) (fun i o hi _ h2 => hw i o hi (by omega))
  rw [Nat.zero_add, hx.first] at this
  exact this
theorem Lex.behind (hx : Lex P T L s0 sf S rec) {t k i : Nat} {o : Oper} (hk : k ≤ L.length) (hi : L[i]? = some o) (hw : writes o t = true) (hik : i < k) : (S k).slots.getD t dflt = sf.slots.getD t dflt := by
  have := hx.stays t k (L.length - k) (by omega) (fun j oj hj h1 _ => by
    cases h : writes oj t
    · rfl
    · have := hx.uniq hi hj hw h; omega)
  rw [show k + (L.length - k) = L.length by omega, hx.last] at this
  exact this.symm
theorem Lex.never (hx : Lex P T L s0 sf S rec) {t : Nat} (hw : ∀ (i : Nat) (o : Oper), L[i]? = some o → writes o t = false) : sf.slots.getD t dflt = s0.slots.getD t dflt := by
  have := hx.before (Nat.le_refl _) (fun i o hi _ => hw i o hi) (t := t)
  rw [hx.last] at this
  exact this
theorem Lex.sfLength (hx : Lex P T L s0 sf S rec) : sf.slots.length = s0.slots.length := by
  have := hx.length L.length (Nat.le_refl _)
  rwa [hx.last] at this

theorem Lex.memLen (hx : Lex P T L s0 sf S rec) {k : Nat} (hk : k < L.length) : (S (k + 1)).mem.length = (S k).mem.length + (rec k).eff.nw.toList.length + (rec k).ex.length := by
  rw [(hx.step k L[k] (List.getElem?_eq_getElem hk)).2.2.2]
  simp only [putX, Eff.mem]
  cases (rec k).eff.wr with
  | none => simp; omega
  | some p => simp; omega
theorem Lex.memMono (hx : Lex P T L s0 sf S rec) (i : Nat) : ∀ n, i + n ≤ L.length → (S i).mem.length ≤ (S (i + n)).mem.length
  | 0, _ => Nat.le_refl _
  | n + 1, hn => by
    have ih := Lex.memMono hx i n (by omega)
    have := hx.memLen (k := i + n) (by omega)
    rw [show i + (n + 1) = i + n + 1 by omega]
    omega
/-- A row that nothing writes between two places stays. -/
theorem Lex.rowStays (hx : Lex P T L s0 sf S rec) (r i : Nat) (hr : r < (S i).mem.length) : ∀ n, i + n ≤ L.length → (∀ k, i ≤ k → k < i + n → (rec k).wrs r = false) → (S (i + n)).mem[r]? = (S i).mem[r]?
  | 0, _, _ => rfl
  | n + 1, hn, hw => by
    have ih := Lex.rowStays hx r i hr n (by omega) (fun k h1 h2 => hw k h1 (by omega))
    have hlt : i + n < L.length := by omega
    have hnw := hw (i + n) (by omega) (by omega)
    have hmono := hx.memMono i n (by omega)
    rw [← ih]
    show (S (i + n + 1)).mem[r]? = _
    rw [(hx.step (i + n) L[i + n] (List.getElem?_eq_getElem hlt)).2.2.2]
    simp only [putX, Eff.mem]
    cases he : (rec (i + n)).eff.wr with
    | none => simp only; rw [List.getElem?_append_left (by simp; omega), List.getElem?_append_left (by omega)]
    | some p =>
      obtain ⟨r', row⟩ := p
      simp only
      rw [List.getElem?_append_left (by simp; omega), List.getElem?_append_left (by simp; omega), List.getElem?_set, if_neg]
      intro e
      unfold Rec.wrs at hnw
      rw [he, e] at hnw
      simp at hnw
end
end
end Go.Gv

namespace Go.Gv
open Go.RowKit Go.Ev
noncomputable section

/-- Has an operation that writes this slot been carried out? -/
def wrB (ops : List Oper) (listed : Array Bool) (t : Nat) : Bool := ops.zipIdx.any fun p => writes p.1 t && listed.getD p.2 false
def mixL' (ops : List Oper) (s0 sf : St) (listed : Array Bool) : List (AV × Chain) := (List.range s0.slots.length).map fun t => cond (wrB ops listed t) (sf.slots.getD t dflt) (s0.slots.getD t dflt)
/-- What is known of a row in the middle of a region. -/
def rowAt (n : Nat) (sf : St) (S : Nat → St) (rec : Nat → Rec) (listed : Array Bool) (r : Nat) : Option Row := match (List.range n).find? (fun k => (rec k).wrs r && !listed.getD k false) with
  | some w => (S w).mem[r]?
  | none => sf.mem[r]?
def memD (n : Nat) (sf : St) (S : Nat → St) (rec : Nat → Rec) (listed : Array Bool) : List Row := (List.range sf.mem.length).map fun r => (rowAt n sf S rec listed r).getD .dead

theorem listed_set {listed : Array Bool} {i j : Nat} (hi : i < listed.size) : (listed.setIfInBounds i true).getD j false = (decide (i = j) || listed.getD j false) := by
  simp only [Array.getD_eq_getD_getElem?, Array.getElem?_setIfInBounds]
  by_cases h : i = j
  · subst h; simp [hi]
  · simp [h]
theorem wrB_iff {L : List Oper} {listed : Array Bool} {t : Nat} : wrB L listed t = true ↔ ∃ (i : Nat) (o : Oper), L[i]? = some o ∧ writes o t = true ∧ listed.getD i false = true := by
  unfold wrB
  rw [List.any_eq_true]
  constructor
  · rintro ⟨⟨o, i⟩, hm, h⟩
    simp only [Bool.and_eq_true] at h
    exact ⟨i, o, List.mem_zipIdx_iff_getElem?.1 hm, h⟩
  · rintro ⟨i, o, h1, h2, h3⟩
    exact ⟨(o, i), List.mem_zipIdx_iff_getElem?.2 h1, by simp only [Bool.and_eq_true]; exact ⟨h2, h3⟩⟩
theorem wrB_set {L : List Oper} {listed : Array Bool} {i t : Nat} {o : Oper} (hi : i < listed.size) (ho : L[i]? = some o) : wrB L (listed.setIfInBounds i true) t = (writes o t || wrB L listed t) := by
  rw [Bool.eq_iff_iff, Bool.or_eq_true, wrB_iff, wrB_iff]
  constructor
  · rintro ⟨j, oj, hj, hw, hl⟩
    rw [listed_set hi] at hl
    by_cases h : i = j
    · subst h; rw [ho] at hj; cases hj; exact Or.inl hw
    · exact Or.inr ⟨j, oj, hj, hw, by simpa [h] using hl⟩
  · rintro (h | ⟨j, oj, hj, hw, hl⟩)
    · exact ⟨i, o, ho, h, by rw [listed_set hi]; simp⟩
    · exact ⟨j, oj, hj, hw, by rw [listed_set hi, hl]; simp⟩
theorem getD_of_size {listed : Array Bool} {i : Nat} (h : i < listed.size) : listed.getD i true = listed.getD i false := by
  simp [Array.getD_eq_getD_getElem?, h]

section
variable {P : Program} {T : Tab} {L : List Oper} {s0 sf : St} {S : Nat → St} {rec : Nat → Rec} {listed : Array Bool}
theorem mix_getD (hl : sf.slots.length = s0.slots.length) (listed : Array Bool) (t : Nat) : (mixL' L s0 sf listed).getD t dflt = cond (wrB L listed t) (sf.slots.getD t dflt) (s0.slots.getD t dflt) := by
  simp only [mixL', List.getD_eq_getElem?_getD, List.getElem?_map]
  by_cases ht : t < s0.slots.length
  · simp [ht]
  · rw [List.getElem?_eq_none (by simpa using Nat.le_of_not_lt ht), List.getElem?_eq_none (by omega), List.getElem?_eq_none (by omega)]
    cases wrB L listed t <;> rfl
/-- What an operation that is ready looks at is as it was in the order of the text. -/
theorem Lex.agree (hx : Lex P T L s0 sf S rec) {i : Nat} {o : Oper} (hi : L[i]? = some o) (hun : listed.getD i false = false) (hready : ∀ e, e ∈ o.after → Region.binds .any e = true → listed.getD e.on false = true)
    (hshut : ∀ (j : Nat) (oj : Oper), L[j]? = some oj → listed.getD j false = true → ∀ e, e ∈ oj.after → Region.binds .any e = true → listed.getD e.on false = true) :
    ∀ t, t ∈ looks L o → (S i).slots.getD t dflt = (mixL' L s0 sf listed).getD t dflt := by
  intro t ht
  have hlt : i < L.length := (List.getElem?_eq_some_iff.1 hi).1
  rw [mix_getD hx.sfLength]
  have hsp := (slotsOk_spec hx.ok hi).2.2.1 t ht
  cases hwr : wrB L listed t
  · rw [cond_false]
    refine hx.before (Nat.le_of_lt hlt) fun j oj hj hji => ?_
    cases h : writes oj t
    · rfl
    · rcases hsp j oj hj h with ⟨_, he⟩ | ⟨hlt2, _⟩
      · have := wrB_iff.2 ⟨j, oj, hj, h, hasEdge_listed he hready⟩
        rw [hwr] at this; cases this
      · omega
  · rw [cond_true]
    obtain ⟨j, oj, hj, hw, hl⟩ := wrB_iff.1 hwr
    rcases hsp j oj hj hw with ⟨hji, _⟩ | ⟨_, he⟩
    · exact hx.behind (Nat.le_of_lt hlt) hj hw hji
    · have := hasEdge_listed he (hshut j oj hj hl)
      rw [hun] at this; cases this
theorem Lex.agreeTests (hx : Lex P T L s0 sf S rec) {i : Nat} {o : Oper} (hi : L[i]? = some o) (hready : ∀ e, e ∈ o.after → Region.binds .any e = true → listed.getD e.on false = true) :
    ∀ t, t ∈ testsOf L o → (sf.slots.getD t dflt).1 = ((mixL' L s0 sf listed).getD t dflt).1 := by
  intro t ht
  rw [mix_getD hx.sfLength]
  have hsp := (slotsOk_spec hx.ok hi).2.2.1 t (List.mem_append_right _ ht)
  have hte := (slotsOk_spec hx.ok hi).2.2.2 t ht
  cases hwr : wrB L listed t
  · rw [cond_false]
    rw [hx.never fun j oj hj => ?_]
    cases h : writes oj t
    · rfl
    · rcases hsp j oj hj h with ⟨_, he⟩ | ⟨hlt2, _⟩
      · have := wrB_iff.2 ⟨j, oj, hj, h, hasEdge_listed he hready⟩
        rw [hwr] at this; cases this
      · have := hte j oj hj h; omega
  · rw [cond_true]
theorem frel_mix (hx : Lex P T L s0 sf S rec) {E : Env} {a : Act} {i : Nat} {o : Oper} {u : Value} (hi : i < listed.size) (ho : L[i]? = some o) (hfr : frel E sf.slots (mixL' L s0 sf listed) a.tmps)
    (h1 : tru sf.slots (rec i).c = true → rel E (rec i).eff.v u) (h2 : tru sf.slots (rec i).c = false → u = undef) : frel E sf.slots (mixL' L s0 sf (listed.setIfInBounds i true)) (a.put o.dst u).tmps := by
  have hlt : i < L.length := (List.getElem?_eq_some_iff.1 ho).1
  cases hd : o.dst with
  | none =>
    have : mixL' L s0 sf (listed.setIfInBounds i true) = mixL' L s0 sf listed := by
      simp only [mixL']
      refine List.map_congr_left fun t _ => ?_
      rw [wrB_set hi ho]
      simp [writes, hd]
    rw [this]
    exact hfr
  | some d =>
    have hdl := ((slotsOk_spec hx.ok ho).2.1 d hd).1
    have hsf : sf.slots.getD d dflt = ((rec i).eff.v, (rec i).c) := by
      have hb := hx.behind (k := i + 1) (by omega) ho (show writes o d = true by simp [writes, hd]) (by omega)
      rw [← hb, hx.puts ho, hd]
      simp only [putS]
      rw [getD_set, if_pos ⟨rfl, by rw [hx.length i (by omega)]; exact hdl⟩]
    refine ⟨⟨?_, hfr.1.2⟩, fun t => ?_⟩
    · have := hfr.1.1
      simp only [Act.put, Array.size_setIfInBounds, this, mixL', List.length_map]
    · rw [mix_getD hx.sfLength, wrB_set hi ho]
      simp only [Act.put]
      rw [tmps_set]
      have hf := hfr.2 t
      rw [mix_getD hx.sfLength] at hf
      by_cases ht : d = t
      · subst ht
        have hsz : d < a.tmps.size := by rw [hfr.1.1]; simp only [mixL', List.length_map, List.length_range]; exact hdl
        rw [if_pos ⟨rfl, hsz⟩, show writes o d = true by simp [writes, hd], Bool.true_or, cond_true, hsf]
        exact ⟨h1, h2⟩
      · rw [if_neg (fun e => ht e.1), show writes o t = false by simp [writes, hd, ht], Bool.false_or]
        exact hf

theorem wrs_iff {p : Rec} {r : Nat} : p.wrs r = true ↔ ∃ row, p.eff.wr = some (r, row) := by
  unfold Rec.wrs
  cases h : p.eff.wr with
  | none => simp
  | some q =>
    obtain ⟨r', row⟩ := q
    simp
theorem find_some {n r w : Nat} (h : (List.range n).find? (fun k => (rec k).wrs r && !listed.getD k false) = some w) : w < n ∧ (rec w).wrs r = true ∧ listed.getD w false = false ∧ ∀ k, k < w → (rec k).wrs r = true → listed.getD k false = true := by
  have h1 := List.find?_some h
  simp only [Bool.and_eq_true, Bool.not_eq_true'] at h1
  refine ⟨List.mem_range.1 (List.mem_of_find?_eq_some h), h1.1, h1.2, fun k hk hw => ?_⟩
  obtain ⟨as, bs, e, hall⟩ := (List.find?_eq_some_iff_append.1 h).2
  have hlen : as.length = w := by
    have hlt : as.length < n := by
      have := congrArg List.length e
      simp at this
      omega
    have e2 : (List.range n)[as.length]? = some w := by rw [e]; simp
    rw [List.getElem?_range hlt] at e2
    simpa using e2
  have hmem : k ∈ as := by
    have e2 : (List.range n)[k]? = some k := List.getElem?_range (by
      have := congrArg List.length e
      simp at this
      omega)
    rw [e, List.getElem?_append_left (by omega)] at e2
    exact List.mem_of_getElem? e2
  have := hall k hmem
  simp only [Bool.not_eq_true', Bool.and_eq_false_iff, Bool.not_eq_false'] at this
  rcases this with h | h
  · rw [hw] at h; cases h
  · exact h
theorem find_none {n r : Nat} (h : (List.range n).find? (fun k => (rec k).wrs r && !listed.getD k false) = none) : ∀ k, k < n → (rec k).wrs r = true → listed.getD k false = true := fun k hk hw => by
  have := List.find?_eq_none.1 h k (List.mem_range.2 hk)
  simpa [hw] using this
theorem find_all {n r : Nat} (h : ∀ k, k < n → listed.getD k false = true) : (List.range n).find? (fun k => (rec k).wrs r && !listed.getD k false) = none :=
  List.find?_eq_none.2 fun k hk => by rw [h k (List.mem_range.1 hk)]; simp
theorem Lex.memLast (hx : Lex P T L s0 sf S rec) {i : Nat} (hi : i ≤ L.length) : (S i).mem.length ≤ sf.mem.length := by
  have := hx.memMono i (L.length - i) (by omega)
  rw [show i + (L.length - i) = L.length by omega, hx.last] at this
  exact this
theorem Lex.rowLast (hx : Lex P T L s0 sf S rec) {r i : Nat} (hi : i ≤ L.length) (hr : r < (S i).mem.length) (hw : ∀ k, i ≤ k → k < L.length → (rec k).wrs r = false) : sf.mem[r]? = (S i).mem[r]? := by
  have := hx.rowStays r i hr (L.length - i) (by omega) (fun k h1 h2 => hw k h1 (by omega))
  rw [show i + (L.length - i) = L.length by omega, hx.last] at this
  exact this
theorem Lex.rdLt (hx : Lex P T L s0 sf S rec) {i r : Nat} (hi : i < L.length) (hr : r ∈ (rec i).eff.rd) : r < (S i).mem.length := (hx.step i L[i] (List.getElem?_eq_getElem hi)).2.2.1 r hr
theorem Lex.wrLt (hx : Lex P T L s0 sf S rec) {w r : Nat} (hw : w < L.length) (h : (rec w).wrs r = true) : r < (S w).mem.length := by
  obtain ⟨row, hrow⟩ := wrs_iff.1 h
  exact hx.rdLt hw (hx.rows w hw r row hrow).1
theorem Lex.memD_get (hx : Lex P T L s0 sf S rec) {r : Nat} (hr : r < sf.mem.length) : (memD L.length sf S rec listed)[r]? = rowAt L.length sf S rec listed r := by
  simp only [memD, List.getElem?_map]
  rw [List.getElem?_eq_getElem (by simpa using hr)]
  simp only [List.getElem_range, Option.map_some]
  have : ∃ row, rowAt L.length sf S rec listed r = some row := by
    unfold rowAt
    split
    · rename_i w hw
      obtain ⟨h1, h2, _, _⟩ := find_some hw
      exact ⟨_, List.getElem?_eq_getElem (hx.wrLt h1 h2)⟩
    · exact ⟨_, List.getElem?_eq_getElem hr⟩
  obtain ⟨row, h⟩ := this
  rw [h]
  rfl
theorem memD_len : (memD L.length sf S rec listed).length = sf.mem.length := by simp [memD]
/-- What writes a row behind an operation that touches it and is yet to come, is yet to come. -/
theorem Lex.lateT (hx : Lex P T L s0 sf S rec) {i : Nat} (hun : listed.getD i false = false)
    (hshut : ∀ (j : Nat) (oj : Oper), L[j]? = some oj → listed.getD j false = true → ∀ e, e ∈ oj.after → Region.binds .any e = true → listed.getD e.on false = true)
    {r k : Nat} (hlt : i < L.length) (ht : (rec i).touch r = true) (hk : k < L.length) (hw : (rec k).wrs r = true) (hik : i ≤ k) : listed.getD k false = false := by
  by_cases e : i = k
  · subst e; exact hun
  · obtain ⟨row, hrow⟩ := wrs_iff.1 hw
    rcases (hx.rows k hk r row hrow).2 i hlt e ht with ⟨_, hbit⟩ | ⟨h, _⟩
    · cases h : listed.getD k false
      · rfl
      · have := mask_listed hx.ok hx.masks hshut k L[k] (List.getElem?_eq_getElem hk) (hshut k _ (List.getElem?_eq_getElem hk) h) i hbit
        rw [hun] at this; cases this
    · omega
theorem Lex.lateW (hx : Lex P T L s0 sf S rec) {i : Nat} (hun : listed.getD i false = false)
    (hshut : ∀ (j : Nat) (oj : Oper), L[j]? = some oj → listed.getD j false = true → ∀ e, e ∈ oj.after → Region.binds .any e = true → listed.getD e.on false = true)
    {r k : Nat} (hlt : i < L.length) (hr : r ∈ (rec i).eff.rd) (hk : k < L.length) (hw : (rec k).wrs r = true) (hik : i ≤ k) : listed.getD k false = false :=
  hx.lateT hun hshut hlt (by unfold Rec.touch; simp [hr]) hk hw hik
theorem Lex.agreeRows (hx : Lex P T L s0 sf S rec) {i : Nat} {o : Oper} (hi : L[i]? = some o) (hun : listed.getD i false = false) (hready : ∀ e, e ∈ o.after → Region.binds .any e = true → listed.getD e.on false = true)
    (hshut : ∀ (j : Nat) (oj : Oper), L[j]? = some oj → listed.getD j false = true → ∀ e, e ∈ oj.after → Region.binds .any e = true → listed.getD e.on false = true) :
    ∀ r, r ∈ (rec i).eff.rd → (S i).mem[r]? = (memD L.length sf S rec listed)[r]? := by
  intro r hr
  have hlt : i < L.length := (List.getElem?_eq_some_iff.1 hi).1
  have hri := hx.rdLt hlt hr
  have hrs := Nat.lt_of_lt_of_le hri (hx.memLast (Nat.le_of_lt hlt))
  rw [hx.memD_get hrs]
  unfold rowAt
  split
  · rename_i w hw
    obtain ⟨h1, h2, h3, h4⟩ := find_some hw
    obtain ⟨row, hrow⟩ := wrs_iff.1 h2
    by_cases hwi : i = w
    · subst hwi; rfl
    · have ht : (rec i).touch r = true := by unfold Rec.touch; simp [hr]
      rcases (hx.rows w h1 r row hrow).2 i hlt hwi ht with ⟨hiw, _⟩ | ⟨hwi2, hbit⟩
      · have := hx.rowStays r i hri (w - i) (by omega) (fun k g1 g2 => by
          cases hk : (rec k).wrs r
          · rfl
          · exact absurd (h4 k (by omega) hk) (by rw [hx.lateW hun hshut hlt hr (by omega) hk g1]; simp))
        rw [show i + (w - i) = w by omega] at this
        exact this.symm
      · have hlw := mask_listed hx.ok hx.masks hshut i o hi hready w hbit
        rw [h3] at hlw; cases hlw
  · rename_i hw
    refine (hx.rowLast (Nat.le_of_lt hlt) hri fun k g1 g2 => ?_).symm
    cases hk : (rec k).wrs r
    · rfl
    · exact absurd (find_none hw k g2 hk) (by rw [hx.lateW hun hshut hlt hr g2 hk g1]; simp)
/-- One more operation: what was not written by it is as it was. -/
theorem rowAt_other {i r : Nat} (hil : i < listed.size) (hw : (rec i).wrs r = false) : rowAt L.length sf S rec (listed.setIfInBounds i true) r = rowAt L.length sf S rec listed r := by
  have e : (fun k => (rec k).wrs r && !(listed.setIfInBounds i true).getD k false) = fun k => (rec k).wrs r && !listed.getD k false := funext fun k => by
    rw [listed_set hil]
    by_cases h : i = k
    · subst h; rw [hw]; rfl
    · simp [h]
  unfold rowAt
  rw [e]
/-- Behind an operation that touches a row and is the last to do so yet, the row is as it left it. -/
theorem Lex.rowNow (hx : Lex P T L s0 sf S rec) {i r : Nat} (hlt : i < L.length) (hil : i < listed.size) (hun : listed.getD i false = false)
    (hshut : ∀ (j : Nat) (oj : Oper), L[j]? = some oj → listed.getD j false = true → ∀ e, e ∈ oj.after → Region.binds .any e = true → listed.getD e.on false = true)
    (ht : (rec i).touch r = true) (hr : r < (S (i + 1)).mem.length) (hpast : ∀ k, k < i → (rec k).wrs r = true → listed.getD k false = true) : rowAt L.length sf S rec (listed.setIfInBounds i true) r = (S (i + 1)).mem[r]? := by
  unfold rowAt
  split
  · rename_i w hw
    obtain ⟨h1, h2, h3, h4⟩ := find_some hw
    rw [listed_set hil] at h3
    simp only [Bool.or_eq_false_iff, decide_eq_false_iff_not] at h3
    have hiw : i < w := by
      rcases Nat.lt_or_ge i w with h | h
      · exact h
      · have := hpast w (by omega) h2
        rw [h3.2] at this; cases this
    have := hx.rowStays r (i + 1) hr (w - (i + 1)) (by omega) (fun k g1 g2 => by
      cases hk : (rec k).wrs r
      · rfl
      · have h5 := h4 k (by omega) hk
        rw [listed_set hil, hx.lateT hun hshut hlt ht (by omega) hk (by omega)] at h5
        simp at h5
        omega)
    rw [show i + 1 + (w - (i + 1)) = w by omega] at this
    exact this
  · rename_i hw
    refine hx.rowLast (by omega) hr fun k g1 g2 => ?_
    cases hk : (rec k).wrs r
    · rfl
    · have h5 := find_none hw k g2 hk
      rw [listed_set hil, hx.lateT hun hshut hlt ht g2 hk (by omega)] at h5
      simp at h5
      omega
theorem Lex.newRow (hx : Lex P T L s0 sf S rec) {i : Nat} {o : Oper} (hi : L[i]? = some o) (hil : i < listed.size) (hun : listed.getD i false = false)
    (hshut : ∀ (j : Nat) (oj : Oper), L[j]? = some oj → listed.getD j false = true → ∀ e, e ∈ oj.after → Region.binds .any e = true → listed.getD e.on false = true)
    {k : Nat} {row : Row} (hk : k ≤ (rec i).ex.length) (hsome : (rec i).eff.nw.isSome = true) (hrow : ((rec i).eff.nw.toList ++ (rec i).ex)[k]? = some row) :
    (memD L.length sf S rec (listed.setIfInBounds i true))[(rec i).nk + k]? = some row := by
  have hlt : i < L.length := (List.getElem?_eq_some_iff.1 hi).1
  obtain ⟨_, hnke, _, hstep⟩ := hx.step i o hi
  have hone : (rec i).eff.nw.toList.length = 1 := by
    cases h : (rec i).eff.nw with
    | none => rw [h] at hsome; cases hsome
    | some r => rfl
  have hlen1 : (S (i + 1)).mem.length = (S i).mem.length + 1 + (rec i).ex.length := by have := hx.memLen hlt; omega
  have hnew : (S (i + 1)).mem[(S i).mem.length + k]? = some row := by
    rw [hstep]
    simp only [putX, Eff.mem, List.append_assoc]
    cases (rec i).eff.wr with
    | none =>
      simp only
      rw [List.getElem?_append_right (by omega), Nat.add_sub_cancel_left]; exact hrow
    | some q =>
      obtain ⟨q1, q2⟩ := q
      simp only
      rw [List.getElem?_append_right (by simp), List.length_set, Nat.add_sub_cancel_left]; exact hrow
  rw [hnke]
  have hks : (S i).mem.length + k < sf.mem.length := by have := hx.memLast (i := i + 1) (by omega); omega
  rw [hx.memD_get hks, hx.rowNow hlt hil hun hshut (by
    unfold Rec.touch
    rw [hsome, hnke, Nat.ble_eq_true_of_le (show (S i).mem.length ≤ (S i).mem.length + k by omega), Nat.ble_eq_true_of_le (show (S i).mem.length + k ≤ (S i).mem.length + (rec i).ex.length by omega)]
    simp) (by omega) fun w hw h2 => ?_]
  · exact hnew
  · have hlw := hx.wrLt (by omega) h2
    have := hx.memMono w (i - w) (by omega)
    rw [show w + (i - w) = i by omega] at this
    omega
theorem Lex.appOk (hx : Lex P T L s0 sf S rec) {E : Env} {i : Nat} {o : Oper} (hi : L[i]? = some o) (hil : i < listed.size) (hun : listed.getD i false = false) (hready : ∀ e, e ∈ o.after → Region.binds .any e = true → listed.getD e.on false = true)
    (hshut : ∀ (j : Nat) (oj : Oper), L[j]? = some oj → listed.getD j false = true → ∀ e, e ∈ oj.after → Region.binds .any e = true → listed.getD e.on false = true)
    (hdom : ∀ k b c, E.O k = some (b, c) → k < (memD L.length sf S rec listed).length) {nk : Nat} (hnk : (rec i).eff.nw = none ∨ nk = (rec i).nk) :
    AppOk E (memD L.length sf S rec listed) (memD L.length sf S rec (listed.setIfInBounds i true)) nk (rec i).eff := by
  have hlt : i < L.length := (List.getElem?_eq_some_iff.1 hi).1
  obtain ⟨_, hnke, _, hstep⟩ := hx.step i o hi
  refine ⟨fun k hk b c hb => ?_, fun row hrow => ?_⟩
  · have hks : k < sf.mem.length := by have := hdom k b c hb; rwa [memD_len] at this
    rw [hx.memD_get hks, hx.memD_get hks]
    cases hwk : (rec i).wrs k
    · rw [rowAt_other hil hwk]
      cases he : (rec i).eff.wr with
      | none => rfl
      | some q =>
        obtain ⟨k', row⟩ := q
        simp only
        rw [if_neg]
        intro e
        unfold Rec.wrs at hwk
        rw [he, e] at hwk
        simp at hwk
    · obtain ⟨row, hrow⟩ := wrs_iff.1 hwk
      rw [hrow]
      simp only [if_true]
      obtain ⟨hrd, hall⟩ := hx.rows i hlt k row hrow
      have hki := hx.rdLt hlt hrd
      have hlen1 : k < (S (i + 1)).mem.length := Nat.lt_of_lt_of_le hki (by have := hx.memLen hlt; omega)
      rw [hx.rowNow hlt hil hun hshut (by unfold Rec.touch; simp [hrd]) hlen1 fun w hw h2 => ?_, hstep]
      rotate_left
      · obtain ⟨row', hrow'⟩ := wrs_iff.1 h2
        rcases hall w (by omega) (by omega) (by unfold Rec.touch; simp [(hx.rows w (by omega) k row' hrow').1]) with ⟨_, hbit⟩ | ⟨h, _⟩
        · exact mask_listed hx.ok hx.masks hshut i o hi hready w hbit
        · omega
      simp only [putX, Eff.mem, hrow]
      rw [List.getElem?_append_left (by simp; omega), List.getElem?_append_left (by simpa using hki), List.getElem?_set]
      simp [hki]
  · have hnk' : nk = (rec i).nk := by
      rcases hnk with h | h
      · rw [h] at hrow; cases hrow
      · exact h
    have := hx.newRow hi hil hun hshut (k := 0) (row := row) (Nat.zero_le _) (by rw [hrow]; rfl) (by rw [hrow]; rfl)
    rw [hnk', ← Nat.add_zero (rec i).nk]
    exact this
/-- The same, of a call that makes several. -/
theorem Lex.nApp (hx : Lex P T L s0 sf S rec) {E : Env} {i : Nat} {o : Oper} {r0 : Row} (hi : L[i]? = some o) (hil : i < listed.size) (hun : listed.getD i false = false)
    (hshut : ∀ (j : Nat) (oj : Oper), L[j]? = some oj → listed.getD j false = true → ∀ e, e ∈ oj.after → Region.binds .any e = true → listed.getD e.on false = true)
    (hdom : ∀ k b c, E.O k = some (b, c) → k < (memD L.length sf S rec listed).length) (heff : (rec i).eff = ⟨(rec i).eff.v, [], none, some r0⟩) :
    NApp E (memD L.length sf S rec listed) (memD L.length sf S rec (listed.setIfInBounds i true)) (rec i).nk (r0 :: (rec i).ex) := by
  have hwr : (rec i).eff.wr = none := by rw [heff]
  have hnw : (rec i).eff.nw = some r0 := by rw [heff]
  refine ⟨fun k _ b c hb => ?_, fun k row hrow => ?_⟩
  · have hks : k < sf.mem.length := by have := hdom k b c hb; rwa [memD_len] at this
    rw [hx.memD_get hks, hx.memD_get hks, rowAt_other hil (by unfold Rec.wrs; rw [hwr])]
  · refine hx.newRow hi hil hun hshut (k := k) (row := row) ?_ (by rw [hnw]; rfl) (by rw [hnw]; exact hrow)
    have := (List.getElem?_eq_some_iff.1 hrow).1
    simp at this
    omega
theorem memD_same {i : Nat} (hil : i < listed.size) (hw : (rec i).eff.wr = none) : memD L.length sf S rec (listed.setIfInBounds i true) = memD L.length sf S rec listed := by
  unfold memD
  refine List.map_congr_left fun r _ => ?_
  rw [rowAt_other hil (by unfold Rec.wrs; rw [hw])]
end
end
end Go.Gv

namespace Go.Gv
open Go.RowKit Go.Ev
noncomputable section

structure JInv (A0 R : Nat → Prop) (w0 : Env) (ops : Array Oper) (s0 sf : St) (S : Nat → St) (rec : Nat → Rec) (E : Env) (listed : Array Bool) (a : Act) : Prop where
  defers : a.defers = []
  frame : frel E sf.slots (mixL' ops.toList s0 sf listed) a.tmps
  wd : Wd A0 R w0 E (memD ops.toList.length sf S rec listed)
  made : ∀ r p, E.O r = some p → s0.mem.length ≤ r → ∃ j, j < ops.toList.length ∧ listed.getD j false = true ∧ ((rec j).nk ≤ r ∧ r ≤ (rec j).nk + (rec j).ex.length) ∧ (rec j).eff.nw.isSome = true
  size : listed.size = ops.size
  shut : ∀ (i : Nat) (o : Oper), ops.toList[i]? = some o → listed.getD i false = true → ∀ e, e ∈ o.after → Region.binds .any e = true → listed.getD e.on false = true

section
variable {P : Program} {T : Tab} {A0 R : Nat → Prop} {w0 : Env} {ops : Array Oper} {s0 sf : St} {S : Nat → St} {rec : Nat → Rec} {E : Env} {listed : Array Bool} {a : Act} {Q : Exit → Act → World → Prop}
theorem Lex.nkFresh (hx : Lex P T ops.toList s0 sf S rec) (hJ : JInv A0 R w0 ops s0 sf S rec E listed a) {i : Nat} (hi : i < ops.toList.length) (hun : listed.getD i false = false) (hn : (rec i).eff.nw.isSome = true) {k : Nat} (hk : k ≤ (rec i).ex.length) : E.O ((rec i).nk + k) = none := by
  cases hO : E.O ((rec i).nk + k) with
  | none => rfl
  | some p =>
    have hnk : ∀ j, j < ops.toList.length → (rec j).nk = (S j).mem.length := fun j hj => (hx.step j _ (List.getElem?_eq_getElem hj)).2.1
    have hgrow : ∀ j, j < ops.toList.length → (rec j).eff.nw.isSome = true → (S (j + 1)).mem.length = (S j).mem.length + 1 + (rec j).ex.length := fun j hj hs => by
      have := hx.memLen hj
      cases hw : (rec j).eff.nw with
      | none => rw [hw] at hs; cases hs
      | some row => rw [hw] at this; simpa using this
    have hge : s0.mem.length ≤ (rec i).nk + k := by
      rw [hnk i hi, ← hx.first]
      have := hx.memMono 0 i (by omega)
      simp only [Nat.zero_add] at this
      omega
    obtain ⟨j, hj, hl, he, hs⟩ := hJ.made _ p hO hge
    rw [hnk j hj, hnk i hi] at he
    have hne : j ≠ i := fun e => by subst e; rw [hun] at hl; cases hl
    rcases Nat.lt_or_gt_of_ne hne with h | h
    · have h1 := hgrow j hj hs
      have h2 := hx.memMono (j + 1) (i - (j + 1)) (by omega)
      rw [show j + 1 + (i - (j + 1)) = i by omega] at h2
      omega
    · have h1 := hgrow i hi hn
      have h2 := hx.memMono (i + 1) (j - (i + 1)) (by omega)
      rw [show i + 1 + (j - (i + 1)) = j by omega] at h2
      omega
theorem shut_set {i : Nat} {o : Oper} (hi : i < listed.size) (ho : ops.toList[i]? = some o) (hready : ∀ e, e ∈ o.after → Region.binds .any e = true → listed.getD e.on false = true)
    (hshut : ∀ (j : Nat) (oj : Oper), ops.toList[j]? = some oj → listed.getD j false = true → ∀ e, e ∈ oj.after → Region.binds .any e = true → listed.getD e.on false = true) :
    ∀ (j : Nat) (oj : Oper), ops.toList[j]? = some oj → (listed.setIfInBounds i true).getD j false = true → ∀ e, e ∈ oj.after → Region.binds .any e = true → (listed.setIfInBounds i true).getD e.on false = true := by
  intro j oj hj hl e he hb
  rw [listed_set hi] at hl ⊢
  by_cases h : i = j
  · subst h
    rw [ho] at hj; cases hj
    rw [hready e he hb]; simp
  · have hl' : listed.getD j false = true := by simpa [h] using hl
    rw [hshut j oj hj hl' e he hb]; simp
theorem J_step (hT : TOk P T) (hx : Lex P T ops.toList s0 sf S rec) (hJ : JInv A0 R w0 ops s0 sf S rec E listed a) {i : Nat} (hr : i ∈ Region.ready .any ops listed)
    {K : Act → World → Prop} (hK : ∀ E' a', JInv A0 R w0 ops s0 sf S rec E' (listed.setIfInBounds i true) a' → K a' E'.w) : wpOp P ops Q i K a E.w := by
  obtain ⟨hun, o, ho, hready⟩ := mem_ready.1 hr
  have hil : i < ops.size := (Array.getElem?_eq_some_iff.1 ho).1
  have hi : i < listed.size := by rw [hJ.size]; exact hil
  have hun' : listed.getD i false = false := by rw [← getD_of_size hi]; exact hun
  have ho' : ops.toList[i]? = some o := by simpa using ho
  have hlt : i < ops.toList.length := by simpa using hil
  have hag := hx.agree ho' hun' hready hJ.shut
  have hat := hx.agreeTests (listed := listed) ho' hready
  have har := hx.agreeRows ho' hun' hready hJ.shut
  obtain ⟨hst, hnk, hrd, hnext⟩ := hx.step i o ho'
  have hcond := hx.conds i hlt
  unfold wpOp
  rw [ho]
  simp only
  let m : St := ⟨mixL' ops.toList s0 sf listed, memD ops.toList.length sf S rec listed⟩
  have hslots : ∀ t, t ∈ looks ops.toList o → (S i).slots.getD t dflt = m.slots.getD t dflt := hag
  have hlk : ∀ y, y ∈ o.op.operands.toList → ∀ t, y = .tmp t → (S i).slots.getD t dflt = m.slots.getD t dflt := fun y hy t ht => hslots t (List.mem_append_left _ (mem_tmpsOf hy ht))
  rcases hst with ⟨hst, _⟩ | ⟨r0, hN, hk, hc0, heff⟩
  case inr =>
    unfold nOk at hk
    simp only [Bool.and_eq_true] at hk
    obtain ⟨hg, hops, _⟩ := hk
    rw [List.all_eq_true] at hops
    rw [if_pos (wanted_none hg)]
    refine Or.inl ?_
    have hb : (rec i).b = true := hcond (by rw [hc0]; rfl)
    have hsome : (rec i).eff.nw.isSome = true := by rw [heff]; rfl
    have hρ : ∀ y, y ∈ o.op.operands → rel E (aeval m y) (a.eval y) := fun y hy => by
      have hy' : y ∈ o.op.operands.toList := by simpa using hy
      exact frel_opd (s := m) (c := []) hJ.frame rfl y (by rw [← opdOk_congr (hlk y hy')]; exact hops y hy')
    have hNm : aopN T m (rec i).nk o = some (true, (rec i).eff.v, r0 :: (rec i).ex) := by
      rw [hb] at hN
      rw [hnk, ← hN]
      exact (aopN_congr fun y hy => aeval_congr (hlk y hy)).symm
    refine ncall_wp (s := m) hT hJ.frame.1.2 hJ.wd (fun k hk => hx.nkFresh hJ hlt hun' hsome (by simp at hk; omega)) hρ hNm (hx.nApp ho' hi hun' hJ.shut hJ.wd.dom heff) fun E' u hle hO' hW' hrel => ?_
    refine hK E' _ ⟨by rw [put_defers]; exact hJ.defers, frel_mix hx hi ho' (frel_le hle hJ.frame) (fun _ => hrel) (fun h => by rw [hc0] at h; cases h), hW', fun r p hp hge => ?_, by simpa using hJ.size, shut_set hi ho' hready hJ.shut⟩
    rcases hO' r p hp with h | h
    · obtain ⟨j, g1, g2, g3, g4⟩ := hJ.made r p h hge
      exact ⟨j, g1, by rw [listed_set hi, g2]; simp, g3, g4⟩
    · exact ⟨i, hlt, by rw [listed_set hi]; simp, ⟨h.1, by have := h.2; simp at this; omega⟩, hsome⟩
  unfold astep at hst
  cases hc : acalc P T ops.toList (S i) o with
  | some q =>
    obtain ⟨b, c, v⟩ := q
    rw [hc] at hst
    simp only [Option.some.injEq, Prod.mk.injEq] at hst
    obtain ⟨eb, ec, eeff⟩ := hst
    have hrows : ∀ k, k ∈ rdOf (S i) o → (S i).mem[k]? = m.mem[k]? := fun k hk => har k (by rw [← eeff]; exact hk)
    have hcm : acalc P T ops.toList m o = some (b, c, v) := by rw [← acalc_congr hslots hrows]; exact hc
    obtain ⟨h1, h2⟩ := acalc_core (s := m) (F := sf.slots) hT.1 hJ.frame hJ.wd.rows hJ.wd.small hat hcm (fun ht => by rw [eb]; exact hcond (by rw [← ec]; exact ht))
    have hwr : (rec i).eff.wr = none := by rw [← eeff]
    have hv : (rec i).eff.v = v := by rw [← eeff]
    have next : ∀ (w' : World) (u : Value), Below E.w.heap.size E.w w' → (tru sf.slots c = true → rel { E with w := w' } v u) → (tru sf.slots c = false → u = undef) → K (a.put o.dst u) w' := by
      intro w' u hb h3 h4
      obtain ⟨hw1, hw2⟩ := hJ.wd.on hb
      refine hK { E with w := w' } _ ⟨by rw [put_defers]; exact hJ.defers, frel_mix hx hi ho' (frel_le hw2 hJ.frame) (by rw [← ec, hv]; exact h3) (by rw [← ec]; exact h4), by rw [memD_same hi hwr]; exact hw1, fun r p hp hge => ?_, by simpa using hJ.size, shut_set hi ho' hready hJ.shut⟩
      obtain ⟨j, g1, g2, g3, g4⟩ := hJ.made r p hp hge
      exact ⟨j, g1, by rw [listed_set hi, g2]; simp, g3, g4⟩
    rw [h1]
    cases ht : tru sf.slots c
    · rw [if_neg (by simp)]
      exact next E.w undef (Below.refl _ _) (fun h => by rw [ht] at h; cases h) (fun _ => rfl)
    · rw [if_pos rfl]
      exact Or.inl (good_wp (h2 ht) fun u w' hu hb => next w' u hb (fun _ => hu) (fun h => by rw [ht] at h; cases h))
  | none =>
    rw [hc] at hst
    simp only at hst
    cases hch : opChain ops.toList (S i).slots o with
    | none => rw [hch] at hst; cases hst
    | some c0 =>
    rw [hch] at hst
    simp only at hst
    cases hk : (shortC c0 && o.op.operands.toList.all (opdOk (S i).slots c0))
    · rw [hk] at hst; cases hst
    · rw [hk] at hst
      simp only [cond_true] at hst
      simp only [Bool.and_eq_true] at hk
      cases hw : awr P T (S i) (S i).mem.length o with
      | none => rw [hw] at hst; cases hst
      | some q =>
        obtain ⟨b, eff⟩ := q
        rw [hw] at hst
        simp only at hst
        have hts : ∀ t, t ∈ testsOf ops.toList o → (S i).slots.getD t dflt = m.slots.getD t dflt := fun t ht => hslots t (List.mem_append_right _ ht)
        cases hbare : bareB o eff
        case true =>
          rw [hbare] at hst
          simp only [cond_true, Option.some.injEq, Prod.mk.injEq] at hst
          obtain ⟨eb, ec, eeff⟩ := hst
          obtain ⟨hn, hwr0⟩ := bareB_mem hbare
          have hwr : (rec i).eff.wr = none := by rw [← eeff]; exact hwr0
          have hnw : (rec i).eff.nw = none := by rw [← eeff]; exact hn
          have hchm : opChain ops.toList m.slots o = some c0 := by rw [← opChain_congr hts]; exact hch
          rw [opChain_wanted (s := m.slots) (F := sf.slots) hJ.frame hat hchm]
          have hdom := hJ.wd.dom
          cases ht : tru sf.slots c0
          · rw [if_neg (by simp)]
            refine hK E _ ⟨by rw [put_defers]; exact hJ.defers, frel_mix hx hi ho' hJ.frame (fun h => by rw [← ec, ht] at h; cases h) (fun _ => rfl), by rw [memD_same hi hwr]; exact hJ.wd, fun r p hp hge => ?_, by simpa using hJ.size, shut_set hi ho' hready hJ.shut⟩
            obtain ⟨j, g1, g2, g3, g4⟩ := hJ.made r p hp hge
            exact ⟨j, g1, by rw [listed_set hi, g2]; simp, g3, g4⟩
          · rw [if_pos rfl]
            refine Or.inl ?_
            have hbt : b = true := by rw [eb]; exact hcond (by rw [← ec]; exact ht)
            subst hbt
            have hwm : awr P T m (S i).mem.length o = some (true, eff) := awr_congr (fun f g hg => (hT.2.2.2.2 f g hg).1) (fun y hy => aeval_congr (hlk y hy)) hw (fun k hk' => har k (by rw [← eeff]; exact hk'))
            have hops := hk.2
            rw [List.all_eq_true] at hops
            have hρ : ∀ y, y ∈ o.op.operands → rel E (aeval m y) (a.eval y) := fun y hy => by
              have hy' : y ∈ o.op.operands.toList := by simpa using hy
              exact frel_opd (s := m) hJ.frame ht y (by rw [← opdOk_congr (hlk y hy')]; exact hops y hy')
            have hfresh : E.O sf.mem.length = none := by
              cases hx' : E.O sf.mem.length with
              | none => rfl
              | some p =>
                have := hdom _ p.1 p.2 hx'
                rw [memD_len] at this
                exact absurd this (Nat.lt_irrefl _)
            refine awr_wp (s := m) hT hJ.frame.1.2 hJ.wd hfresh hρ (awr_nk (fun f g hg => (hT.2.1 f g hg).2) hwm hn) (by rw [eeff]; exact hx.appOk ho' hi hun' hready hJ.shut hdom (Or.inl hnw)) fun E' u hle hO' hW' hrel => ?_
            refine hK E' _ ⟨by rw [put_defers]; exact hJ.defers, frel_mix hx hi ho' (frel_le hle hJ.frame) (fun _ => by rw [← eeff]; exact hrel) (fun h => by rw [← ec, ht] at h; cases h), hW', fun r p hp hge => ?_, by simpa using hJ.size, shut_set hi ho' hready hJ.shut⟩
            rcases hO' r p hp with h | h
            · obtain ⟨j, g1, g2, g3, g4⟩ := hJ.made r p h hge
              exact ⟨j, g1, by rw [listed_set hi, g2]; simp, g3, g4⟩
            · have := hW'.dom r p.1 p.2 hp
              rw [memD_len, h] at this
              exact absurd this (Nat.lt_irrefl _)
        case false =>
        rw [hbare] at hst
        simp only [cond_false, Option.some.injEq, Prod.mk.injEq] at hst
        obtain ⟨eb, ec, eeff⟩ := hst
        obtain ⟨hbt, htr⟩ := guardB_true (F := sf.slots) hch hk.1 (by rw [eb]; exact hcond (by rw [← ec]; rfl)) fun t ht => by rw [hat t ht, hts t ht]
        subst hbt
        have hchm : opChain ops.toList m.slots o = some c0 := by rw [← opChain_congr hts]; exact hch
        rw [if_pos ((opChain_wanted (s := m.slots) (F := sf.slots) hJ.frame hat hchm).trans htr)]
        refine Or.inl ?_
        have hwm : awr P T m (S i).mem.length o = some (true, eff) := awr_congr (fun f g hg => (hT.2.2.2.2 f g hg).1) (fun y hy => aeval_congr (hlk y hy)) hw (fun k hk' => har k (by rw [← eeff]; exact hk'))
        have hops := hk.2
        rw [List.all_eq_true] at hops
        have hρ : ∀ y, y ∈ o.op.operands → rel E (aeval m y) (a.eval y) := fun y hy => by
          have hy' : y ∈ o.op.operands.toList := by simpa using hy
          exact frel_opd (s := m) hJ.frame htr y (by rw [← opdOk_congr (hlk y hy')]; exact hops y hy')
        have hdom := hJ.wd.dom
        have finish : ∀ (nk : Nat), E.O nk = none → awr P T m nk o = some (true, eff) → ((rec i).eff.nw = none ∨ nk = (rec i).nk) → ((rec i).eff.nw = none → nk = sf.mem.length) → o.wp P a E.w K Q := by
          intro nk hfresh haw hor hno
          refine awr_wp (s := m) hT hJ.frame.1.2 hJ.wd hfresh hρ haw (by rw [eeff]; exact hx.appOk ho' hi hun' hready hJ.shut hdom hor) fun E' u hle hO' hW' hrel => ?_
          refine hK E' _ ⟨by rw [put_defers]; exact hJ.defers, frel_mix hx hi ho' (frel_le hle hJ.frame) (fun _ => by rw [← eeff]; exact hrel) (fun h => by rw [← ec] at h; cases h), hW', fun r p hp hge => ?_, by simpa using hJ.size, shut_set hi ho' hready hJ.shut⟩
          rcases hO' r p hp with h | h
          · obtain ⟨j, g1, g2, g3, g4⟩ := hJ.made r p h hge
            exact ⟨j, g1, by rw [listed_set hi, g2]; simp, g3, g4⟩
          · cases hnw : (rec i).eff.nw with
            | none =>
              have := hW'.dom r p.1 p.2 hp
              rw [memD_len, h, hno hnw] at this
              exact absurd this (Nat.lt_irrefl _)
            | some row =>
              refine ⟨i, hlt, by rw [listed_set hi]; simp, ?_, by rw [hnw]; rfl⟩
              rcases hor with h' | h'
              · rw [hnw] at h'; cases h'
              · rw [h, h']; exact ⟨Nat.le_refl _, Nat.le_add_right _ _⟩
        cases hnw : (rec i).eff.nw with
        | none =>
          refine finish sf.mem.length ?_ (awr_nk (fun f g hg => (hT.2.1 f g hg).2) hwm (by rw [eeff]; exact hnw)) (Or.inl hnw) (fun _ => rfl)
          cases hO : E.O sf.mem.length with
          | none => rfl
          | some p =>
            have := hdom _ p.1 p.2 hO
            rw [memD_len] at this
            exact absurd this (Nat.lt_irrefl _)
        | some row => exact finish (rec i).nk (hx.nkFresh hJ hlt hun' (by rw [hnw]; rfl) (Nat.zero_le _)) (by rw [hnk]; exact hwm) (Or.inr rfl) (fun h => by rw [hnw] at h; cases h)

/-- Where nothing is ready all has been carried out. -/
theorem all_listed (hx : Lex P T ops.toList s0 sf S rec) (hsz : listed.size = ops.size) (hr : Region.ready .any ops listed = []) : ∀ i, i < ops.size → listed.getD i false = true := by
  intro i
  induction i using Nat.strongRecOn with
  | _ i ih =>
    intro hi
    cases h : listed.getD i false
    · have : i ∈ Region.ready .any ops listed := mem_ready.2 ⟨by rw [getD_of_size (by omega)]; exact h, ops[i], Array.getElem?_eq_getElem hi, fun e he hb => by
        have hlt := (slotsOk_spec hx.ok (j := i) (oj := ops[i]) (by simp [hi])).1 e he hb
        exact ih e.on hlt (by omega)⟩
      rw [hr] at this; cases this
    · rfl
theorem countP_lt {α : Type} {p q : α → Bool} : ∀ {l : List α} {x : α}, (∀ y, y ∈ l → q y = true → p y = true) → x ∈ l → p x = true → q x = false → l.countP q < l.countP p
  | [], _, _, hx, _, _ => by cases hx
  | y :: l, x, h, hx, hp, hq => by
    rw [List.countP_cons, List.countP_cons]
    have hle : l.countP q ≤ l.countP p := List.countP_mono_left fun z hz => h z (by simp [hz])
    rcases List.mem_cons.1 hx with rfl | hx
    · rw [hp, hq]; simp; omega
    · have ih := countP_lt (fun z hz => h z (by simp [hz])) hx hp hq
      have hy := h y (by simp)
      cases hqy : q y
      · simp; omega
      · rw [hy hqy]; simp; omega
theorem J_any (hT : TOk P T) (hx : Lex P T ops.toList s0 sf S rec)
    (hQ : ∀ E listed a, (∀ i, i < ops.size → listed.getD i false = true) → JInv A0 R w0 ops s0 sf S rec E listed a → Q .normal a E.w) :
    ∀ (fuel : Nat) (E : Env) (listed : Array Bool) (a : Act), JInv A0 R w0 ops s0 sf S rec E listed a → (List.range ops.size).countP (fun i => !listed.getD i false) ≤ fuel → wpAny P .any ops Q fuel listed a E.w := by
  intro fuel
  induction fuel with
  | zero =>
    intro E listed a hJ hc
    have hall : ∀ i, i < ops.size → listed.getD i false = true := fun i hi => by
      have := List.countP_eq_zero.1 (Nat.le_zero.1 hc) i (List.mem_range.2 hi)
      simpa using this
    refine ⟨?_, hQ E listed a hall hJ⟩
    cases hr : Region.ready .any ops listed with
    | nil => rfl
    | cons i l =>
      obtain ⟨hun, o, ho, _⟩ := mem_ready.1 (show i ∈ Region.ready .any ops listed by rw [hr]; simp)
      have hi : i < ops.size := (Array.getElem?_eq_some_iff.1 ho).1
      rw [getD_of_size (by rw [hJ.size]; exact hi), hall i hi] at hun
      cases hun
  | succ fuel ih =>
    intro E listed a hJ hc
    refine ⟨fun hr => hQ E listed a (all_listed hx hJ.size hr) hJ, fun i hr => J_step hT hx hJ hr fun E' a' hJ' => ih E' _ a' hJ' ?_⟩
    obtain ⟨hun, o, ho, _⟩ := mem_ready.1 hr
    have hi : i < ops.size := (Array.getElem?_eq_some_iff.1 ho).1
    have hil : i < listed.size := by rw [hJ.size]; exact hi
    have hlt := countP_lt (p := fun j => !listed.getD j false) (q := fun j => !(listed.setIfInBounds i true).getD j false) (l := List.range ops.size) (x := i)
      (fun y _ hy => by
        rw [listed_set hil] at hy
        simp only [Bool.not_eq_true', Bool.or_eq_false_iff] at hy ⊢
        exact hy.2) (List.mem_range.2 hi) (by rw [← getD_of_size hil, hun]; rfl) (by rw [listed_set hil]; simp)
    omega
/-- **A REGION THAT DRAWS ITS ORDER.** -/
theorem drawn_ok0 (hT : TOk P T) (hm : P.follows .mixedOrders = true) {s sf : St} {id : Nat} (hI : Inv A0 R w0 E s a) (hD : drawn P T ops.toList s = some sf) (hQ : ∀ E' a', Inv A0 R w0 E' (clr sf) a' → Q .normal a' E'.w) : (Code.region id ops true).wp P Q a E.w := by
  obtain ⟨S, rec, hx⟩ := lex_of hD
  have hno : ∀ i, (Array.replicate ops.size false).getD i false = false := fun i => by
    simp only [Array.getD_eq_getD_getElem?, Array.getElem?_replicate]; split <;> rfl
  have hw0 : ∀ t, wrB ops.toList (Array.replicate ops.size false) t = false := fun t => by
    cases h : wrB ops.toList (Array.replicate ops.size false) t
    · rfl
    · obtain ⟨i, o, _, _, hl⟩ := wrB_iff.1 h
      rw [hno] at hl; cases hl
  have hmlen : s.mem.length ≤ sf.mem.length := by
    have := hx.memLast (i := 0) (by omega)
    rwa [hx.first] at this
  refine wp_region_any hm ?_
  obtain ⟨hwd, hle⟩ := hI.wd.on (w' := E.w.drew) (Below.refl _ _).drew
  refine J_any (E := { E with w := E.w.drew }) (A0 := A0) (R := R) (w0 := w0) hT hx ?_ ops.size _ a ?_ ?_
  · intro E' listed a' hall hJ
    refine hQ E' a' ?_
    have hmem : memD ops.toList.length sf S rec listed = sf.mem := by
      apply List.ext_getElem?
      intro r
      by_cases hr : r < sf.mem.length
      · rw [hx.memD_get hr]
        unfold rowAt
        rw [find_all fun k hk => hall k (by simpa using hk)]
      · rw [List.getElem?_eq_none (by rw [memD_len]; omega), List.getElem?_eq_none (by omega)]
    have hfr : frel E' sf.slots sf.slots a'.tmps := by
      refine ⟨⟨by rw [hJ.frame.1.1]; simp [mixL', hx.sfLength], hJ.frame.1.2⟩, fun t => ?_⟩
      have := hJ.frame.2 t
      rw [mix_getD hx.sfLength] at this
      cases h : wrB ops.toList listed t
      · rw [h, cond_false, ← hx.never fun i o hi => ?_] at this
        · exact this
        · cases h' : writes o t
          · rfl
          · have hi2 : i < ops.size := by have := (List.getElem?_eq_some_iff.1 hi).1; simpa using this
            have := wrB_iff.2 ⟨i, o, hi, h', hall i hi2⟩
            rw [h] at this; cases this
      · rw [h, cond_true] at this; exact this
    exact ⟨hJ.defers, frel_clear hfr _, by have := hJ.wd; rw [hmem] at this; exact this⟩
  · refine ⟨hI.defers, ?_, ?_, fun r p hp hge => ?_, by simp, fun i o _ hl => by rw [hno] at hl; cases hl⟩
    · refine ⟨⟨by rw [hI.frame.1.1]; simp [mixL'], glob_le hle hI.frame.1.2⟩, fun t => ?_⟩
      rw [mix_getD hx.sfLength, hw0, cond_false]
      have := hI.frame.2 t
      rw [hx.clear t] at this ⊢
      exact ⟨fun h => rel_le hle (this.1 rfl), fun h => by cases h⟩
    · have hrow : ∀ r, r < s.mem.length → (memD ops.toList.length sf S rec (Array.replicate ops.size false))[r]? = s.mem[r]? := fun r hr => by
        have h0 : (S 0).mem = s.mem := by rw [hx.first]
        rw [hx.memD_get (by omega)]
        unfold rowAt
        split
        · rename_i w hw
          obtain ⟨h1, h2, _, h4⟩ := find_some hw
          have := hx.rowStays r 0 (by rw [h0]; exact hr) w (by omega) (fun k _ g2 => by
            cases hk : (rec k).wrs r
            · rfl
            · have := h4 k (by omega) hk
              rw [hno] at this; cases this)
          rw [Nat.zero_add, h0] at this
          exact this
        · rename_i hw
          have hnw : ∀ k, 0 ≤ k → k < ops.toList.length → (rec k).wrs r = false := fun k _ g2 => by
            cases hk : (rec k).wrs r
            · rfl
            · have := find_none hw k g2 hk
              rw [hno] at this; cases this
          rw [hx.rowLast (i := 0) (by omega) (by rw [h0]; exact hr) hnw, h0]
      have hdom := hI.wd.dom
      have hlive : ∀ k b c, E.O k = some (b, c) → liveAt (memD ops.toList.length sf S rec (Array.replicate ops.size false)) k = liveAt s.mem k := fun k b c hb => by
        unfold liveAt; rw [hrow k (hdom k b c hb)]
      refine ⟨fun k b c hb => ?_, hwd.small, hwd.old, fun k b c hb hl => ?_, fun k k' b c c' hb hb' hl hl' => ?_, hwd.below, hwd.le0⟩
      · obtain ⟨row, h1, h2⟩ := hwd.rows k b c hb
        exact ⟨row, by rw [hrow k (hdom k b c hb)]; exact h1, h2⟩
      · exact hwd.own k b c hb (by rw [← hlive k b c hb]; exact hl)
      · exact hwd.one k k' b c c' hb hb' (by rw [← hlive k b c hb]; exact hl) (by rw [← hlive k' b c' hb']; exact hl')
    · have := hI.wd.dom r p.1 p.2 hp
      omega
  · exact Nat.le_trans List.countP_le_length (by simp)
end
end
end Go.Gv

namespace Go.Gv
open Go.RowKit Go.Ev
noncomputable section

theorem aopC_step {P : Program} {T : Tab} {ops : List Oper} {s : St} {nk : Nat} {o : Oper} {g : (AV → Option Out) → Option Out} {k : AV → Option Out} {r : Out} {c : Chain} (hT : TPar T) (hC : aopC P T s o = some g) (hch : opChain ops s.slots o = some c)
    (hc : (o.op.operands.toList.all (opdOk s.slots c) && dstOk s.slots c o.dst) = true) (h : g k = some r) :
    ∃ v, k v = some r ∧ (∀ k', g k' = k' v) ∧ astep P T.flat ops s nk o = some (true, c, ⟨v, [], none, none⟩) := by
  unfold aopC at hC
  split at hC
  · rename_i cl hop
    split at hC
    · cases hC
    · rename_i hnb
      split at hC
      · rename_i f args hcal
        split at hC
        · rename_i g' hg
          cases hno : noOwns args
          · rw [hno] at hC; cases hC
          · rw [hno] at hC
            simp only [cond_true, Option.some.injEq] at hC
            subst hC
            obtain ⟨v, h1, h2⟩ := hT f g' hg args _ r h
            simp only [Bool.and_eq_true] at hc
            obtain ⟨hops, _⟩ := hc
            refine ⟨v, h1, h2, ?_⟩
            have hTf : T.flat.f f args = some v := by
              simp only [Tab.flat, hg]
              rw [h2]
              rfl
            have hval : aval P T.flat s o = some (true, v) := by
              unfold aval
              rw [hop]
              simp only
              split
              · rename_i hbi; exact absurd hbi (hnb _)
              · rename_i hbi; exact absurd hbi (hnb _)
              · rename_i hbi; exact absurd hbi (hnb _)
              · rename_i hbi; exact absurd hbi (hnb _)
              · rename_i hbi; exact absurd hbi (hnb _)
              · rename_i hbi; exact absurd hbi (hnb _)
              · rw [hcal]; simp only [hno, cond_true, hTf, Option.map_some]
            have hcalc : acalc P T.flat ops s o = some (true, c, v) := by
              unfold acalc
              simp only [hch]
              split
              · rename_i g x y hop'; rw [hop] at hop'; cases hop'
              · rw [hops, hval]; rfl
            unfold astep
            rw [hcalc]
            simp only [rdOf, hop]
        · cases hC
      · cases hC
  · cases hC
def dopsK (P : Program) (T : Tab) (ops : List Oper) : List Oper → St → List Rec → (St → List Rec → Option Out) → Option Out
  | [], s, acc, k => k s acc
  | o :: rest, s, acc, k => match aopN T s s.mem.length o with
    | some (b, v, r0 :: ex) => cond (nOk s o) (dopsK P T ops rest (putX s o.dst [] ⟨v, [], none, some r0⟩ ex) (acc ++ [⟨s.mem.length, b, [], ⟨v, [], none, some r0⟩, ex⟩]) k) none
    | some (_, _, []) => none
    | none => match aopC P T s o with
    | some g => match opChain ops s.slots o with
      | some c => cond (o.op.operands.toList.all (opdOk s.slots c) && dstOk s.slots c o.dst) (g fun v => dopsK P T ops rest { s with slots := putS s.slots o.dst (v, c) } (acc ++ [⟨s.mem.length, true, c, ⟨v, [], none, none⟩, []⟩]) k) none
      | none => none
    | none => match astep P T.flat ops s s.mem.length o with
      | some (b, c, eff) => cond (dstOk s.slots c o.dst && eff.rd.all (fun r => Nat.blt r s.mem.length)) (dopsK P T ops rest (putE s o.dst c eff) (acc ++ [⟨s.mem.length, b, c, eff, []⟩]) k) none
      | none => none
theorem dopsK_some {P : Program} {T : Tab} {ops : List Oper} {r : Out} (hT : TPar T) : ∀ {l : List Oper} {s : St} {acc : List Rec} {k : St → List Rec → Option Out}, dopsK P T ops l s acc k = some r →
    ∃ s' recs, dops P T.flat ops l s = some (s', recs) ∧ k s' (acc ++ recs) = some r ∧ ∀ k', dopsK P T ops l s acc k' = k' s' (acc ++ recs)
  | [], s, acc, k, h => ⟨s, [], rfl, by simpa [dopsK] using h, fun k' => by simp [dopsK]⟩
  | o :: rest, s, acc, k, h => by
    simp only [dopsK] at h
    have hf : aopN T.flat s s.mem.length o = aopN T s s.mem.length o := rfl
    cases hN : aopN T s s.mem.length o with
    | some q =>
      obtain ⟨b, v, rows⟩ := q
      cases rows with
      | nil => rw [hN] at h; cases h
      | cons r0 ex =>
        rw [hN] at h
        simp only at h
        cases hk : nOk s o
        · rw [hk] at h; cases h
        · rw [hk] at h
          simp only [cond_true] at h
          obtain ⟨s', recs, h1, h2, h3⟩ := dopsK_some hT h
          refine ⟨s', ⟨s.mem.length, b, [], ⟨v, [], none, some r0⟩, ex⟩ :: recs, ?_, by simpa using h2, fun k' => ?_⟩
          · simp only [dops, hf, hN, hk, cond_true, h1]
          · simp only [dopsK, hN, hk, cond_true]
            rw [h3]
            simp
    | none =>
    rw [hN] at h
    simp only at h
    cases hC : aopC P T s o with
    | none =>
      rw [hC] at h
      simp only at h
      cases hd : astep P T.flat ops s s.mem.length o with
      | none => rw [hd] at h; cases h
      | some p =>
        obtain ⟨b, c, eff⟩ := p
        rw [hd] at h
        simp only at h
        cases hk : (dstOk s.slots c o.dst && eff.rd.all (fun r => Nat.blt r s.mem.length))
        · rw [hk] at h; cases h
        · rw [hk] at h
          simp only [cond_true] at h
          obtain ⟨s', recs, h1, h2, h3⟩ := dopsK_some hT h
          refine ⟨s', ⟨s.mem.length, b, c, eff, []⟩ :: recs, ?_, by simpa using h2, fun k' => ?_⟩
          · simp only [dops, hf, hN, hd, hk, cond_true, h1]
          · simp only [dopsK, hN, hC, hd, hk, cond_true]
            rw [h3]
            simp
    | some g =>
      rw [hC] at h
      simp only at h
      cases hch : opChain ops s.slots o with
      | none => rw [hch] at h; cases h
      | some c =>
      rw [hch] at h
      simp only at h
      cases hc : (o.op.operands.toList.all (opdOk s.slots c) && dstOk s.slots c o.dst)
      · rw [hc] at h; cases h
      · rw [hc] at h
        simp only [cond_true] at h
        obtain ⟨v, h1, h2, h3⟩ := aopC_step (ops := ops) (nk := s.mem.length) hT hC hch hc h
        obtain ⟨s', recs, h4, h5, h6⟩ := dopsK_some hT h1
        have hd : dstOk s.slots c o.dst = true := by simp only [Bool.and_eq_true] at hc; exact hc.2
        refine ⟨s', ⟨s.mem.length, true, c, ⟨v, [], none, none⟩, []⟩ :: recs, ?_, by simpa using h5, fun k' => ?_⟩
        · have e : putE s o.dst c ⟨v, [], none, none⟩ = { s with slots := putS s.slots o.dst (v, c) } := by simp [putE, Eff.mem]
          simp only [dops, hf, hN, h3, hd, List.all_nil, Bool.and_self, cond_true, e, h4]
        · simp only [dopsK, hN, hC, hch]
          rw [hc]
          simp only [cond_true]
          rw [h2, h6]
          simp
def drawnK (P : Program) (T : Tab) (ops : List Oper) (s : St) (k : SK) : Option Out :=
  cond (slotsOk ops s.slots.length && (masksOk ops (masksOf ops []) && s.slots.all (fun q => q.2.isEmpty))) (dopsK P T ops ops s [] fun sf recs =>
    cond (rowsOk (masksOf ops []) recs) (cond (recs.all (fun r => r.b || !tru sf.slots r.c)) (k sf) none) none) none
theorem drawnK_some {P : Program} {T : Tab} {ops : List Oper} {s : St} {k : SK} {r : Out} (hT : TPar T) (h : drawnK P T ops s k = some r) : ∃ s', drawn P T.flat ops s = some s' ∧ k s' = some r ∧ ∀ k', drawnK P T ops s k' = k' s' := by
  unfold drawnK at h
  cases hc : (slotsOk ops s.slots.length && (masksOk ops (masksOf ops []) && s.slots.all (fun q => q.2.isEmpty)))
  · rw [hc] at h; cases h
  · rw [hc] at h
    simp only [cond_true] at h
    obtain ⟨sf, recs, h1, h2, h3⟩ := dopsK_some hT h
    simp only [List.nil_append] at h2 h3
    cases hr : rowsOk (masksOf ops []) recs
    · rw [hr] at h2; cases h2
    · rw [hr] at h2
      simp only [cond_true] at h2
      cases ha : recs.all (fun r => r.b || !tru sf.slots r.c)
      · rw [ha] at h2; cases h2
      · rw [ha] at h2
        simp only [cond_true] at h2
        refine ⟨sf, ?_, h2, fun k' => ?_⟩
        · unfold drawn; rw [hc]; simp only [cond_true, h1, hr, ha, Bool.and_self]
        · unfold drawnK; rw [hc]; simp only [cond_true]; rw [h3, hr, ha]; rfl
theorem drawnK_ok {P : Program} {T : Tab} (hT : TOk P T) (hm : P.follows .mixedOrders = true) : DOk P (drawnK P T) := by
  classical
  refine ⟨fun ops s k r h => ?_, fun A0 R w0 E s s' a id ops Q hI h hQ => ?_⟩
  · obtain ⟨s', _, h2, h3⟩ := drawnK_some hT.par h
    exact ⟨s', h2, h3⟩
  · obtain ⟨s2, h4, _, h3⟩ := drawnK_some (r := Out.of .any) (k := fun _ => some (Out.of .any)) hT.par (h _)
    have e : s2 = s' := by
      have h5 := h3 fun x => if x = s' then some (Out.of .any) else none
      rw [h] at h5
      simp only [if_true] at h5
      by_cases e : s2 = s'
      · exact e
      · rw [if_neg e] at h5; cases h5
    subst e
    exact drawn_ok0 hT.flat hm hI h4 hQ

structure Entry where
  f : Nat
  g : List AV → Option AV
structure KEntry where
  f : Nat
  g : KFun
def findE : List Entry → Nat → List AV → Option AV
  | [], _, _ => none
  | e :: l, f, args => cond (Nat.beq e.f f) (match e.g args with
    | some r => some r
    | none => findE l f args) (findE l f args)
def findK : List KEntry → Nat → Option KFun
  | [], _ => none
  | e :: l, f => cond (Nat.beq e.f f) (some e.g) (findK l f)
structure MEntry where
  f : Nat
  g : MFun
  n : Option NFun
def findM : List MEntry → Nat → Option MFun
  | [], _ => none
  | e :: l, f => cond (Nat.beq e.f f) (some e.g) (findM l f)
def findN : List MEntry → Nat → Option NFun
  | [], _ => none
  | e :: l, f => cond (Nat.beq e.f f) e.n (findN l f)
def tabM (l : List Entry) (ks : List KEntry) (ms : List MEntry) : Tab := ⟨findE l, findK ks, findM ms, findN ms, fun _ => none, fun _ => none⟩
def tab (l : List Entry) (ks : List KEntry) : Tab := ⟨findE l, findK ks, fun _ => none, fun _ => none, fun _ => none, fun _ => none⟩
def EOk (P : Program) (e : Entry) : Prop := ∀ args r, e.g args = some r → FSpec P e.f args r ∨ XSpec P e.f args r
def KOk (P : Program) (e : KEntry) : Prop := KPar e.g ∧ KSpec P e.f e.g
theorem tab_ok0 {P : Program} {l : List Entry} {ks : List KEntry} {m : Nat → Option MFun} {n : Nat → Option NFun} {w : Nat → Option WFun} {r : Nat → Option RFun} (hl : ∀ e, e ∈ l → EOk P e) (hk : ∀ e, e ∈ ks → KOk P e) : TOk0 P ⟨findE l, findK ks, m, n, w, r⟩ := by
  constructor
  · intro f args r h
    have : ∀ (l : List Entry), (∀ e, e ∈ l → EOk P e) → findE l f args = some r → FSpec P f args r ∨ XSpec P f args r := by
      intro l
      induction l with
      | nil => intro _ h; cases h
      | cons e l ih =>
        intro hl h
        simp only [findE] at h
        cases hb : Nat.beq e.f f
        · rw [hb] at h; exact ih (fun e' he' => hl e' (by simp [he'])) h
        · rw [hb] at h
          simp only [cond_true] at h
          have e1 := Nat.eq_of_beq_eq_true hb
          subst e1
          split at h
          · rename_i r' hr
            cases h
            exact hl e (by simp) args r hr
          · exact ih (fun e' he' => hl e' (by simp [he'])) h
    exact this l hl h
  · intro f g h
    have : ∀ (ks : List KEntry), (∀ e, e ∈ ks → KOk P e) → findK ks f = some g → KPar g ∧ KSpec P f g := by
      intro ks
      induction ks with
      | nil => intro _ h; cases h
      | cons e l ih =>
        intro hl h'
        simp only [findK] at h'
        cases hb : Nat.beq e.f f
        · rw [hb] at h'; exact ih (fun e' he' => hl e' (by simp [he'])) h'
        · rw [hb] at h'
          simp only [cond_true, Option.some.injEq] at h'
          have e1 := Nat.eq_of_beq_eq_true hb
          rw [← h', ← e1]
          exact hl e (by simp)
    exact this ks hk h

theorem tab_ok {P : Program} {l : List Entry} {ks : List KEntry} (hl : ∀ e, e ∈ l → EOk P e) (hk : ∀ e, e ∈ ks → KOk P e) : TOk P (tab l ks) := ⟨tab_ok0 hl hk, fun _ _ h => (by cases h), fun _ _ h => (by cases h), fun _ _ h => (by cases h), fun _ _ h => (by cases h)⟩
def MEOk (P : Program) (e : MEntry) : Prop := MOk P e.f e.g ∧ ∀ g, e.n = some g → NOk P e.f g
theorem tabM_ok {P : Program} {l : List Entry} {ks : List KEntry} {ms : List MEntry} (hl : ∀ e, e ∈ l → EOk P e) (hk : ∀ e, e ∈ ks → KOk P e) (hm : ∀ e, e ∈ ms → MEOk P e) : TOk P (tabM l ks ms) := by
  refine ⟨tab_ok0 hl hk, fun f g h => ?_, fun f g h => ?_, fun _ _ h => (by cases h), fun _ _ h => (by cases h)⟩
  · have : ∀ (ms : List MEntry), (∀ e, e ∈ ms → MEOk P e) → findM ms f = some g → MOk P f g := by
      intro ms
      induction ms with
      | nil => intro _ h; cases h
      | cons e l ih =>
        intro hm h'
        simp only [findM] at h'
        cases hb : Nat.beq e.f f
        · rw [hb] at h'; exact ih (fun e' he' => hm e' (by simp [he'])) h'
        · rw [hb] at h'
          simp only [cond_true, Option.some.injEq] at h'
          have e1 := Nat.eq_of_beq_eq_true hb
          rw [← h', ← e1]
          exact (hm e (by simp)).1
    exact this ms hm h
  · have : ∀ (ms : List MEntry), (∀ e, e ∈ ms → MEOk P e) → findN ms f = some g → NOk P f g := by
      intro ms
      induction ms with
      | nil => intro _ h; cases h
      | cons e l ih =>
        intro hm h'
        simp only [findN] at h'
        cases hb : Nat.beq e.f f
        · rw [hb] at h'; exact ih (fun e' he' => hm e' (by simp [he'])) h'
        · rw [hb] at h'
          simp only [cond_true] at h'
          have e1 := Nat.eq_of_beq_eq_true hb
          rw [← e1]
          exact (hm e (by simp)).2 g h'
    exact this ms hm h

/-- A function's text gone through. -/
def ev (P : Program) (l : List Entry) (ks : List KEntry) (L : Nat → Option LFun) (fn : Func) (args : List AV) (k : AV → Option Out) : Option Out := abody P (tab l ks) (drawnK P (tab l ks)) L 40 fn args k
def ret : AV → Option Out := fun v => some (Out.of v)
/-- No loop is told. -/
def noL : Nat → Option LFun := fun _ => none
theorem noL_ok {P : Program} {c : Code} : LOk P noL c := fun _ _ _ _ _ h => by cases h
theorem spec_of_ev {P : Program} {l : List Entry} {ks : List KEntry} {L : Nat → Option LFun} (hl : ∀ e, e ∈ l → EOk P e) (hk : ∀ e, e ∈ ks → KOk P e) (hm : P.follows .mixedOrders = true) {f : Nat} {fn : Func} (hf : P.funcs[f]? = some fn) (hnm : (fn.name == "runtime.NumGoroutine") = false) {c : Code} (hb : fn.body = some c) (hL : LOk P L c)
    {args : List AV} (hlen : Nat.ble args.length fn.ntmps = true) {r : AV} (h : ev P l ks L fn args ret = some (Out.of r)) : FSpec P f args r :=
  spec_of_body (tab_ok hl hk) (drawnK_ok (tab_ok hl hk) hm) 40 hf hnm hb hL hlen h
/-- A callee's text, gone through in place. -/
def inl (P : Program) (l : List Entry) (ks : List KEntry) (L : List AV → Nat → Option LFun) (f : Nat) (fn : Func) : KEntry := ⟨f, fun args k => cond (Nat.ble args.length fn.ntmps) (ev P l ks (L args) fn args k) none⟩
end
end Go.Gv

namespace Go.Gv
open Go.RowKit Go.Ev
noncomputable section

def keepS (keep : List Nat) (σ : Nat → Option Nat) : Nat → List (AV × Chain) → List (AV × Chain)
  | _, [] => []
  | i, q :: qs => (cond (keep.contains i) (match q.2 with
    | [] => renA σ q.1
    | _ :: _ => .any) .any, []) :: keepS keep σ (i + 1) qs
def keepR1 (σ : Nat → Option Nat) : Row → Row
  | .c l => .c (renL σ l)
  | .t e l => .t e (renL σ l)
  | .z _ _ _ _ _ => .dead
  | r => r
def keepR (τ : List (Option Nat)) (mem : List Row) : List (Option Nat) → List Row
  | [] => []
  | none :: os => .dead :: keepR τ mem os
  | some k :: os => keepR1 (renOf τ) (mem.getD k .dead) :: keepR τ mem os
def fgt (keep : List Nat) (τ : List (Option Nat)) (s : St) : St := ⟨keepS keep (renOf τ) 0 s.slots, keepR τ s.mem τ⟩
def fgtOk (τ : List (Option Nat)) (s : St) : Bool := distinct τ && τ.all fun o => match o with
  | some k => Nat.blt k s.mem.length
  | none => true
theorem keepS_sub {keep : List Nat} {σ : Nat → Option Nat} : ∀ (i : Nat) (l : List (AV × Chain)), CSubs σ l (keepS keep σ i l)
  | _, [] => trivial
  | i, q :: qs => by
    refine ⟨⟨rfl, ?_⟩, keepS_sub (i + 1) qs⟩
    simp only
    cases keep.contains i
    · exact Or.inl rfl
    · simp only [cond_true]
      cases hq : q.2 with
      | nil => exact Or.inr ⟨rfl, Or.inr (Or.inl rfl)⟩
      | cons p c => exact Or.inl rfl
theorem renL_length {σ : Nat → Option Nat} : ∀ (l : List AV), (renL σ l).length = l.length
  | [] => by rw [renL]
  | x :: xs => by rw [renL, List.length_cons, List.length_cons, renL_length xs]
theorem renL_sub {σ : Nat → Option Nat} : ∀ (l : List AV), CellSub σ l (renL σ l)
  | [] => by rw [renL]; trivial
  | x :: xs => by rw [renL]; exact ⟨Or.inr (Or.inl rfl), renL_sub xs⟩
theorem keepR_sub {τ : List (Option Nat)} {mem : List Row} : ∀ (os : List (Option Nat)), (os.all fun o => match o with | some k => Nat.blt k mem.length | none => true) = true → RowSubs τ mem os (keepR τ mem os)
  | [], _ => trivial
  | none :: os, h => ⟨trivial, keepR_sub os (by simpa using h)⟩
  | some k :: os, h => by
    simp only [List.all_cons, Bool.and_eq_true] at h
    have hk : k < mem.length := lt_of_blt h.1
    refine ⟨⟨mem[k], List.getElem?_eq_getElem hk, ?_⟩, keepR_sub os h.2⟩
    have e : mem.getD k .dead = mem[k] := by rw [List.getD_eq_getElem?_getD, List.getElem?_eq_getElem hk]; rfl
    rw [e]
    cases hr : mem[k] with
    | c l => exact Or.inr (Or.inl ⟨l, renL (renOf τ) l, rfl, rfl, renL_sub l⟩)
    | a e sz n el => exact Or.inr (Or.inr (Or.inl ⟨e, sz, n, el, el, rfl, rfl, fun _ _ => rfl⟩))
    | dead => exact Or.inl rfl
    | z x e sz n el => exact Or.inl rfl
    | t e l => exact Or.inr (Or.inr (Or.inr (Or.inl ⟨e, l, renL (renOf τ) l, rfl, rfl, renL_sub l, renL_length l⟩)))
    | i s p e => exact Or.inr (Or.inr (Or.inr (Or.inr ⟨s, p, e, rfl, rfl⟩)))
theorem fgt_sub {keep : List Nat} {τ : List (Option Nat)} {s : St} (h : fgtOk τ s = true) : Sub s (fgt keep τ s) := by
  unfold fgtOk at h
  simp only [Bool.and_eq_true] at h
  exact sub_of τ h.1 (keepS_sub 0 s.slots) (keepR_sub τ h.2)
/-- The text is left: what is kept. -/
def finF (keep : List Nat) (τ : List (Option Nat)) : Kont := fun e s => cond (fgtOk τ s) (some ⟨e, fgt keep τ s, .any⟩) none
/-- What is kept says no more than what was known. -/
def KSub (k : Kont) : Prop := ∀ e s o, k e s = some o → o.e = e ∧ Sub s o.s
theorem leads_ofK {P : Program} {T : Tab} {D : List Oper → St → SK → Option Out} {L : Nat → Option LFun} {N : Nat} {c : Code} {s s' : St} {e : Exit} {k : Kont} (hk : KSub k) (hT : TOk P T) (hD : DOk P D) (hL : LOk P L c) (h : aCode P T D L N c s k = some ⟨e, s', .any⟩) : Leads P c s e s' := fun A0 R w0 E a hp hI => by
  refine Go.Code.wp_mono ?_ (aCode_wp hp hT hD N c hL hI h)
  rintro e' a' w' ⟨E', s1, rfl, hI', he⟩
  obtain ⟨h1, h2⟩ := hk e' s1 _ he
  obtain ⟨E2, e2, h3⟩ := h2 A0 R w0 E' a' hp hI'
  exact ⟨h1.symm, E2, e2, h3⟩
theorem finF_sub (keep : List Nat) (τ : List (Option Nat)) : KSub (finF keep τ) := fun e s o h => by
  unfold finF at h
  cases hf : fgtOk τ s
  · rw [hf] at h; cases h
  · rw [hf] at h
    simp only [cond_true, Option.some.injEq] at h
    subst h
    exact ⟨rfl, fgt_sub hf⟩
/-- Where the text goes on; where it is left. -/
def finN (keep : List Nat) (τ : List (Option Nat)) : Kont := fun e s => match e with
  | .normal => finF keep τ .normal s
  | _ => none
def finX (keep : List Nat) (τ : List (Option Nat)) : Kont := fun e s => match e with
  | .normal => none
  | e => finF keep τ e s
theorem finN_sub (keep : List Nat) (τ : List (Option Nat)) : KSub (finN keep τ) := fun e s o h => by
  unfold finN at h
  cases e <;> simp only at h <;> first | (cases h; done) | exact finF_sub keep τ _ s o h
/-- Rows that hold the same, element by element. -/
def RowSame (row row' : Row) : Prop := row' = row ∨ ∃ e sz n el el', row = .a e sz n el ∧ row' = .a e sz n el' ∧ ∀ i, i < n → el' i = el i
def RowsSame : List Row → List Row → Prop
  | [], [] => True
  | r :: rs, r' :: rs' => RowSame r r' ∧ RowsSame rs rs'
  | _, _ => False
theorem RowsSame.get : ∀ {rs rs' : List Row}, RowsSame rs rs' → ∀ k : Nat, (rs[k]? = none ∧ rs'[k]? = none) ∨ ∃ r r', rs[k]? = some r ∧ rs'[k]? = some r' ∧ RowSame r r'
  | [], [], _, k => Or.inl ⟨by simp, by simp⟩
  | r :: rs, r' :: rs', h, k => by
    cases k with
    | zero => exact Or.inr ⟨r, r', rfl, rfl, h.1⟩
    | succ k => simpa using RowsSame.get h.2 k
  | [], _ :: _, h, _ => h.elim
  | _ :: _, [], h, _ => h.elim
theorem sub_same {np : Nat} {sl : List (AV × Chain)} {mem mem' : List Row} (h : RowsSame mem mem') : SubN np ⟨sl, mem⟩ ⟨sl, mem'⟩ := by
  intro A0 R w0 E a hp0 hI
  have lives : ∀ k, liveAt mem' k = liveAt mem k := fun k => by
    unfold liveAt
    rcases h.get k with ⟨h1, h2⟩ | ⟨r, r', h1, h2, h3⟩
    · rw [h1, h2]
    · rw [h1, h2]
      rcases h3 with rfl | ⟨e, sz, n, el, el', rfl, rfl, _⟩ <;> rfl
  refine ⟨E, rfl, hI.defers, hI.frame, ⟨fun k b c hb => ?_, hI.wd.small, hI.wd.old, fun k b c hb hl => hI.wd.own k b c hb (by rw [← lives]; exact hl), fun k k' b c c' hb hb' hl hl' => hI.wd.one k k' b c c' hb hb' (by rw [← lives]; exact hl) (by rw [← lives]; exact hl'), hI.wd.below, hI.wd.le0⟩⟩
  obtain ⟨row, h1, h2⟩ := hI.wd.rows k b c hb
  rcases h.get k with ⟨g1, _⟩ | ⟨r, r', g1, g2, g3⟩
  · have : mem[k]? = some row := h1
    rw [g1] at this; cases this
  · have : mem[k]? = some row := h1
    rw [g1] at this
    cases this
    refine ⟨r', g2, ?_⟩
    rcases g3 with rfl | ⟨e, sz, n, el, el', rfl, rfl, g4⟩
    · exact h2
    · obtain ⟨cs, k1, k2, k3, k4, k5, k6⟩ := h2
      exact ⟨cs, k1, k2, k3, k4, k5, fun i hi => by rw [g4 i hi]; exact k6 i hi⟩
def bodyOf (fn : Func) : Code := fn.body.getD .skip
/-- The text of a loop. -/
def loopAt (fn : Func) (i : Nat) : Code := (loopsOf (bodyOf fn)).getD i .skip
/-- A text gone through. -/
def evC (P : Program) (l : List Entry) (ks : List KEntry) (L : Nat → Option LFun) (c : Code) (s : St) (k : Kont) : Option Out := aCode P (tab l ks) (drawnK P (tab l ks)) L 40 c s k
/-- A state by the slots that are known. -/
def mkS (n : Nat) (l : List (Nat × AV)) (mem : List Row) : St := ⟨(List.range n).map fun i => (match l.find? (fun p => Nat.beq p.1 i) with
  | some p => p.2
  | none => .any, []), mem⟩
end
end Go.Gv

namespace Go.Gv
open Go.RowKit Go.Ev
noncomputable section

noncomputable def gate (p : Prop) (x : Option Out) : Option Out := open Classical in if p then x else none
theorem gate_pos {p : Prop} {x : Option Out} (h : p) : gate p x = x := by unfold gate; rw [if_pos h]
theorem gate_some {p : Prop} {x : Option Out} {r : Out} (h : gate p x = some r) : p ∧ x = some r := by
  unfold gate at h
  split at h
  · rename_i hp; exact ⟨hp, h⟩
  · cases h
/-- A loop that is told: of the state ahead of it these slots and rows are kept. -/
noncomputable def toldF (keep : List Nat) (τ : List (Option Nat)) (s0 : St) (e : Exit) (sf : St) : LFun := fun s k => cond (fgtOk τ s) (gate (Sub (fgt keep τ s) s0) (k e sf)) none
theorem toldF_sound {P : Program} {c : Code} {keep : List Nat} {τ : List (Option Nat)} {s0 sf : St} {e : Exit} (h : Leads P (.loop c) s0 e sf) : LSound P c (toldF keep τ s0 e sf) := by
  have h1 := told_sound h
  have get : ∀ {s : St} {k : Kont} {r : Out}, toldF keep τ s0 e sf s k = some r → Sub s s0 ∧ k e sf = some r := fun {s k r} hr => by
    unfold toldF at hr
    cases hf : fgtOk τ s
    · rw [hf] at hr; cases hr
    · rw [hf] at hr
      simp only [cond_true] at hr
      obtain ⟨h2, h3⟩ := gate_some hr
      exact ⟨(fgt_sub hf).trans h2, h3⟩
  have eq : ∀ {s : St} {k : Kont} {r : Out}, toldF keep τ s0 e sf s k = some r → ∀ k', toldF keep τ s0 e sf s k' = k' e sf := fun {s k r} hr k' => by
    unfold toldF at hr ⊢
    cases hf : fgtOk τ s
    · rw [hf] at hr; cases hr
    · rw [hf] at hr
      simp only [cond_true] at hr ⊢
      rw [gate_pos (gate_some hr).1]
  have eq1 : ∀ {s : St} {k : Kont} {r : Out}, toldF keep τ s0 e sf s k = some r → ∀ k', told s0 e sf s k' = k' e sf := fun {s k r} hr k' => by
    unfold told
    rw [if_pos (get hr).1]
  constructor
  · intro s k r hr
    exact ⟨e, sf, (get hr).2, eq hr⟩
  · intro s s' e' hk
    have h0 := hk (fun e s => some ⟨e, s, .any⟩)
    refine h1.2 s s' e' fun k' => ?_
    rw [eq1 h0 k', ← eq h0 k']
    exact hk k'
/-- One loop is told. -/
def oneL (i : Nat) (g : LFun) : Nat → Option LFun := fun j => cond (Nat.beq j i) (some g) none
theorem lok_one {P : Program} {c : Code} {i : Nat} {g : LFun} (m : Nat) (hlen : (loopsOf c).length = m) (h : ∀ j, j < m → firstId ((loopsOf c).getD j .skip) = some i → LSound P ((loopsOf c).getD j .skip) g) : LOk P (oneL i g) c := by
  intro c' hc i' g' hi hg
  obtain ⟨j, hj, rfl⟩ := List.mem_iff_getElem.1 hc
  unfold oneL at hg
  cases hb : Nat.beq i' i
  · rw [hb] at hg; cases hg
  · rw [hb] at hg
    cases hg
    have e1 := Nat.eq_of_beq_eq_true hb
    subst e1
    have e2 : (loopsOf c).getD j .skip = (loopsOf c)[j] := by rw [List.getD_eq_getElem?_getD, List.getElem?_eq_getElem hj]; rfl
    have := h j (by omega) (by rw [e2]; exact hi)
    rw [e2] at this
    exact this
end
end Go.Gv

namespace Go.Gv
open Go.RowKit Go.Ev
noncomputable section

/-- A nil slice, as one of a row of ours that has no element. -/
def nilR (σ : Nat → Option Nat) : Option (Nat × Nat) → AV → AV
  | some (k, sz), x => match x with
    | .x (.slice none 0 0) => .osl k sz 0 0
    | x => renA σ x
  | none, x => renA σ x
def nilAt : List (Nat × Nat × Nat) → Nat → Option (Nat × Nat)
  | [], _ => none
  | p :: l, i => cond (Nat.beq p.1 i) (some p.2) (nilAt l i)
def keepSN (keep : List Nat) (nils : List (Nat × Nat × Nat)) (σ : Nat → Option Nat) : Nat → List (AV × Chain) → List (AV × Chain)
  | _, [] => []
  | i, q :: qs => (cond (keep.contains i) (match q.2 with
    | [] => nilR σ (nilAt nils i) q.1
    | _ :: _ => .any) .any, []) :: keepSN keep nils σ (i + 1) qs
def keepRN (τ : List (Option Nat)) (mem : List Row) (nr : Row) : List (Option Nat) → List Row
  | [] => []
  | none :: os => nr :: keepRN τ mem nr os
  | some k :: os => keepR1 (renOf τ) (mem.getD k .dead) :: keepRN τ mem nr os
def fgtN (keep : List Nat) (nils : List (Nat × Nat × Nat)) (nr : Row) (τ : List (Option Nat)) (s : St) : St := ⟨keepSN keep nils (renOf τ) 0 s.slots, keepRN τ s.mem nr τ⟩
theorem nilR_sub {σ : Nat → Option Nat} (o : Option (Nat × Nat)) (x : AV) : CSub1 σ x (nilR σ o x) := by
  unfold nilR
  split
  · split
    · exact Or.inr (Or.inr ⟨rfl, _, _, rfl⟩)
    · exact Or.inr (Or.inl rfl)
  · exact Or.inr (Or.inl rfl)
theorem keepSN_sub {keep : List Nat} {nils : List (Nat × Nat × Nat)} {σ : Nat → Option Nat} : ∀ (i : Nat) (l : List (AV × Chain)), CSubs σ l (keepSN keep nils σ i l)
  | _, [] => trivial
  | i, q :: qs => by
    refine ⟨⟨rfl, ?_⟩, keepSN_sub (i + 1) qs⟩
    simp only
    cases keep.contains i
    · exact Or.inl rfl
    · simp only [cond_true]
      cases hq : q.2 with
      | nil => exact Or.inr ⟨rfl, nilR_sub _ _⟩
      | cons p c => exact Or.inl rfl
theorem keepRN_sub {τ : List (Option Nat)} {mem : List Row} {nr : Row} : ∀ (os : List (Option Nat)), (os.all fun o => match o with | some k => Nat.blt k mem.length | none => true) = true → RowSubs τ mem os (keepRN τ mem nr os)
  | [], _ => trivial
  | none :: os, h => ⟨trivial, keepRN_sub os (by simpa using h)⟩
  | some k :: os, h => by
    simp only [List.all_cons, Bool.and_eq_true] at h
    have hk : k < mem.length := lt_of_blt h.1
    refine ⟨⟨mem[k], List.getElem?_eq_getElem hk, ?_⟩, keepRN_sub os h.2⟩
    have e : mem.getD k .dead = mem[k] := by rw [List.getD_eq_getElem?_getD, List.getElem?_eq_getElem hk]; rfl
    rw [e]
    cases hr : mem[k] with
    | c l => exact Or.inr (Or.inl ⟨l, renL (renOf τ) l, rfl, rfl, renL_sub l⟩)
    | a e sz n el => exact Or.inr (Or.inr (Or.inl ⟨e, sz, n, el, el, rfl, rfl, fun _ _ => rfl⟩))
    | dead => exact Or.inl rfl
    | z x e sz n el => exact Or.inl rfl
    | t e l => exact Or.inr (Or.inr (Or.inr (Or.inl ⟨e, l, renL (renOf τ) l, rfl, rfl, renL_sub l, renL_length l⟩)))
    | i s p e => exact Or.inr (Or.inr (Or.inr (Or.inr ⟨s, p, e, rfl, rfl⟩)))
theorem fgtN_sub {keep : List Nat} {nils : List (Nat × Nat × Nat)} {nr : Row} {τ : List (Option Nat)} {s : St} (h : fgtOk τ s = true) : Sub s (fgtN keep nils nr τ s) := by
  unfold fgtOk at h
  simp only [Bool.and_eq_true] at h
  exact sub_of τ h.1 (keepSN_sub 0 s.slots) (keepRN_sub τ h.2)
noncomputable def toldN (keep : List Nat) (nils : List (Nat × Nat × Nat)) (nr : Row) (τ : List (Option Nat)) (s0 : St) (e : Exit) (sf : St) : LFun := fun s k => cond (fgtOk τ s) (gate (Sub (fgtN keep nils nr τ s) s0) (k e sf)) none
theorem toldN_sound {P : Program} {c : Code} {keep : List Nat} {nils : List (Nat × Nat × Nat)} {nr : Row} {τ : List (Option Nat)} {s0 sf : St} {e : Exit} (h : Leads P (.loop c) s0 e sf) : LSound P c (toldN keep nils nr τ s0 e sf) := by
  have h1 := told_sound h
  have get : ∀ {s : St} {k : Kont} {r : Out}, toldN keep nils nr τ s0 e sf s k = some r → Sub s s0 ∧ k e sf = some r := fun {s k r} hr => by
    unfold toldN at hr
    cases hf : fgtOk τ s
    · rw [hf] at hr; cases hr
    · rw [hf] at hr
      simp only [cond_true] at hr
      obtain ⟨h2, h3⟩ := gate_some hr
      exact ⟨(fgtN_sub hf).trans h2, h3⟩
  have eq : ∀ {s : St} {k : Kont} {r : Out}, toldN keep nils nr τ s0 e sf s k = some r → ∀ k', toldN keep nils nr τ s0 e sf s k' = k' e sf := fun {s k r} hr k' => by
    unfold toldN at hr ⊢
    cases hf : fgtOk τ s
    · rw [hf] at hr; cases hr
    · rw [hf] at hr
      simp only [cond_true] at hr ⊢
      rw [gate_pos (gate_some hr).1]
  have eq1 : ∀ {s : St} {k : Kont} {r : Out}, toldN keep nils nr τ s0 e sf s k = some r → ∀ k', told s0 e sf s k' = k' e sf := fun {s k r} hr k' => by
    unfold told
    rw [if_pos (get hr).1]
  constructor
  · intro s k r hr
    exact ⟨e, sf, (get hr).2, eq hr⟩
  · intro s s' e' hk
    have h0 := hk (fun e s => some ⟨e, s, .any⟩)
    refine h1.2 s s' e' fun k' => ?_
    rw [eq1 h0 k', ← eq h0 k']
    exact hk k'
end
end Go.Gv
