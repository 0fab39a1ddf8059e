/-
  Calls that are handed rows of ours: a contract over rows that are numbered from nought, and what it says where it is called.
-/
import Derived.Test.YtcdhdnfkcmjnpaaDoorC8
namespace Go.Gv
open Go.RowKit Go.Ev
noncomputable section

/-- A call that is handed rows: what it gives, and the rows behind it: those it was handed, then a new one or none. -/
def GSpec (P:Program) (f:Nat) (args:List AV) (mem:List Row) (v:AV) (mem1:List Row):Prop :=
  Entered P f∧∀ (R:Nat→Prop) (E:Env) (cargs:Array Value),Pins mem.length E.A R E→Wd E.A R E E mem→glob E→rels E args cargs.toList →
    Calls P f cargs E.w fun e w'=>∃ u E',e=.returned u∧E'.w=w'∧Wd E.A R E E' mem1∧rel E' v u

mutual
def witA:AV→Bool
  | .osl _ _ st len=>Nat.blt 0 (st+len)
  | .view _ _ _ _ n=>Nat.blt 0 n
  | .agg l=>witL l
  | .tup l=>witL l
  | .ifc _ x=>witA x
  | .fn _ a b=>witL a&&witL b
  | _=>true
def witL:List AV→Bool
  | []=>true
  | x::xs=>witA x&&witL xs
end
mutual
theorem witA_ok:∀ (x:AV) {E:Env} {u:Value},relA x E u→witA x=true→∀ k,k ∈ rowsA x→∃ p,E.O k=some p
  | .own k off,E,u,h,_,k',hk=>by
    rw [relA] at h
    obtain ⟨b,c,h1,_⟩:=h
    simp [rowsA] at hk
    subst hk
    exact ⟨_,h1⟩
  | .eown k sz i sub,E,u,h,_,k',hk=>by
    rw [relA] at h
    obtain ⟨b,c,h1,_⟩:=h
    simp [rowsA] at hk
    subst hk
    exact ⟨_,h1⟩
  | .osl k sz st len,E,u,h,hw,k',hk=>by
    rw [relA] at h
    simp [rowsA] at hk
    subst hk
    rw [witA] at hw
    have hw:0 < st+len:=Nat.le_of_ble_eq_true hw
    rcases h with ⟨h1,h2,_⟩ | ⟨b,c,n,h1,_⟩
    · omega
    · exact ⟨_,h1⟩
  | .view k sz st sub n,E,u,h,hw,k',hk=>by
    rw [relA] at h
    simp [rowsA] at hk
    subst hk
    rw [witA] at hw
    have hw:0 < n:=Nat.le_of_ble_eq_true hw
    obtain ⟨a,c,_,_,h3⟩:=h
    rcases h3 with h3 | ⟨b,c',h4,_⟩
    · omega
    · exact ⟨_,h4⟩
  | .agg l,E,u,h,hw,k,hk=>by
    rw [relA] at h
    obtain ⟨vs,_,h2⟩:=h
    rw [witA] at hw
    exact witL_ok l h2 hw k (by simpa [rowsA] using hk)
  | .tup l,E,u,h,hw,k,hk=>by
    rw [relA] at h
    obtain ⟨vs,_,h2⟩:=h
    rw [witA] at hw
    exact witL_ok l h2 hw k (by simpa [rowsA] using hk)
  | .ifc t x,E,u,h,hw,k,hk=>by
    rw [relA] at h
    obtain ⟨y,_,h2⟩:=h
    rw [witA] at hw
    exact witA_ok x h2 hw k (by simpa [rowsA] using hk)
  | .fn g a b,E,u,h,hw,k,hk=>by
    rw [relA] at h
    obtain ⟨va,vb,_,h2,h3⟩:=h
    rw [witA] at hw
    simp only [Bool.and_eq_true] at hw
    simp only [rowsA,List.mem_append] at hk
    rcases hk with hk | hk
    · exact witL_ok a h2 hw.1 k hk
    · exact witL_ok b h3 hw.2 k hk
  | .x _,_,_,_,_,_,hk=>by simp [rowsA] at hk
  | .f _,_,_,_,_,_,hk=>by simp [rowsA] at hk
  | .cx _ _,_,_,_,_,_,hk=>by simp [rowsA] at hk
  | .ref _ _,_,_,_,_,_,hk=>by simp [rowsA] at hk
  | .sl _ _ _,_,_,_,_,_,hk=>by simp [rowsA] at hk
  | .any,_,_,_,_,_,hk=>by simp [rowsA] at hk
theorem witL_ok:∀ (xs:List AV) {E:Env} {us:List Value},relsA xs E us→witL xs=true→∀ k,k ∈ rowsL xs→∃ p,E.O k=some p
  | [],_,_,_,_,_,hk=>by simp [rowsL] at hk
  | x::xs,E,u::us,h,hw,k,hk=>by
    rw [relsA] at h
    rw [witL] at hw
    simp only [Bool.and_eq_true] at hw
    simp only [rowsL,List.mem_append] at hk
    rcases hk with hk | hk
    · exact witA_ok x h.1 hw.1 k hk
    · exact witL_ok xs h.2 hw.2 k hk
  | _::_,_,[],h,_,_,_=>by simp [relsA] at h
end
def Row.pure:Row→Bool
  | .c l=>noOwns l
  | .a _ _ _ _=>true
  | .dead=>true
  | .t _ l=>noOwns l
  | .z _ _ _ _ _=>true
theorem preA_noOwn:∀ (xs:List AV) {E E':Env},(∀ b,¬ E.A b→∀ ob,E.w.heap[b]?=some ob→¬ E'.A b∧E'.w.heap[b]?=some ob)→noOwns xs=true→∀ (us:List Value),preA xs E us→preA xs E' us
  | [],_,_,_,_,_,_=>by unfold preA; trivial
  | x::xs,_,_,h,hn,u::us,hr=>by
    unfold preA at *
    unfold noOwns at hn
    simp only [Bool.and_eq_true] at hn
    exact ⟨relA_noOwn x h hn.1 u hr.1,preA_noOwn xs h hn.2 us hr.2⟩
  | _::_,_,_,_,_,[],hr=>by unfold preA at hr; exact hr.elim
theorem rowRel_pure {E E':Env} (hw:E'.w=E.w) (hA:∀ b,E'.A b ↔ E.A b) {b:Nat} {c:Nat × Nat} {row:Row} (hp:row.pure=true) (h:rowRel E b c row):rowRel E' b c row:=by
  have hk:∀ b,¬ E.A b→∀ ob,E.w.heap[b]?=some ob→¬ E'.A b∧E'.w.heap[b]?=some ob:=fun b h1 ob h2=>⟨fun h3=>h1 ((hA b).1 h3),by rw [hw]; exact h2⟩
  cases row with
  | c l =>
    obtain ⟨cs,e,h1,h2⟩:=h
    exact ⟨cs,e,by rw [hw]; exact h1,preA_noOwn l hk hp _ h2⟩
  | a e sz n el =>
    obtain ⟨cs,h1,h2,h3,h4,h5,h6⟩:=h
    exact ⟨cs,by rw [hw]; exact h1,h2,h3,h4,h5,fun i hi=>⟨(h6 i hi).1,preA_le (el i) (E:=E.fz) (E':=E'.fz) ⟨hk,fun k b hb=>by cases hb⟩ _ (h6 i hi).2⟩⟩
  | dead=>trivial
  | t e l =>
    obtain ⟨cs,h1,h2,h3⟩:=h
    exact ⟨cs,by rw [hw]; exact h1,preA_noOwn l hk hp _ h2,h3⟩
  | z x e sz n el =>
    obtain ⟨cs,fz,h1,h2,hx,h3⟩:=h
    exact ⟨cs,fz,by rw [hw]; exact h1,h2,hx,fun i hi=>⟨(h3 i hi).1,preA_le (el i) (E:=E.fz) (E':=E'.fz) ⟨hk,fun k b hb=>by cases hb⟩ _ (h3 i hi).2⟩⟩
def ixOf (l:List Nat) (k:Nat):Option Nat:=l.findIdx? (·==k)
theorem ixOf_some {l:List Nat} {k i:Nat} (h:ixOf l k=some i):l[i]?=some k:=by
  unfold ixOf at h
  rw [List.findIdx?_eq_some_iff_getElem] at h
  obtain ⟨h1,h2,_⟩:=h
  rw [List.getElem?_eq_getElem h1]
  simpa using h2
def backOf (l:List Nat) (nw:Option Nat) (i:Nat):Option Nat:=match l[i]? with
  | some k=>some k
  | none=>cond (Nat.beq i l.length) nw none
def nodupB:List Nat→Bool
  | []=>true
  | k::l=>!(l.contains k)&&nodupB l
theorem nodupB_get:∀ {l:List Nat},nodupB l=true→∀ (i j k:Nat),l[i]?=some k→l[j]?=some k→i=j
  | [],_,i,j,k,h,_=>by simp at h
  | k0::l,hd,i,j,k,hi,hj=>by
    simp only [nodupB,Bool.and_eq_true,Bool.not_eq_true'] at hd
    have hno:∀ n,l[n]?≠some k0:=fun n hn=>by
      have:l.contains k0=true:=List.contains_iff_mem.2 (List.mem_of_getElem? hn)
      rw [hd.1] at this; cases this
    cases i with
    | zero =>
      simp at hi
      subst hi
      cases j with
      | zero=>rfl
      | succ j=>exact absurd (by simpa using hj) (hno j)
    | succ i =>
      cases j with
      | zero =>
        simp at hj
        subst hj
        exact absurd (by simpa using hi) (hno i)
      | succ j=>rw [nodupB_get hd.2 i j k (by simpa using hi) (by simpa using hj)]
def allSome:List (Option Row)→Option (List Row)
  | []=>some []
  | some r::rs=>match allSome rs with
    | some l=>some (r::l)
    | none=>none
  | none::_=>none
theorem allSome_get:∀ {rs:List (Option Row)} {l:List Row},allSome rs=some l→rs=l.map some
  | [],l,h=>by simp [allSome] at h; subst h; rfl
  | some r::rs,l,h=>by
    simp only [allSome] at h
    split at h
    · rename_i l' hl
      simp only [Option.some.injEq] at h
      subst h
      rw [allSome_get hl]; rfl
    · cases h
  | none::rs,l,h=>by simp [allSome] at h
/-- What a contract over rows says where it is called: w tells which of the rows is changed. -/
def liftM (w:Option Nat) (c:List AV→List Row→Option (Bool × AV × List Row)):MFun:=fun args rows nk =>
  match allSome rows with
  | some rs=>match c (renL (ixOf (rowsL args)) args) rs with
    | some (b,v,mem1)=>cond (nodupB (rowsL args)&&(rs.all (fun r=>r.live&&r.pure)&&(mem1.all Row.pure&&(Nat.ble rs.length mem1.length&&Nat.ble mem1.length (rs.length+1)))))
        (some (b&&witL args,⟨renA (backOf (rowsL args) ((mem1[(rowsL args).length]?).map fun _=>nk)) v,rowsL args,w.bind fun i=>match (rowsL args)[i]?,mem1[i]? with
          | some k,some r=>some (k,r)
          | _,_=>none,mem1[(rowsL args).length]?⟩)) none
    | none=>none
  | none=>none
/-- THE CONTRACT, WHERE IT IS CALLED. -/
theorem liftM_ok {P : Program} {f:Nat} {w:Option Nat} {c:List AV→List Row→Option (Bool × AV × List Row)}
    (hc:∀ args rs v mem1,c args rs=some (true,v,mem1)→GSpec P f args rs v mem1∧∀ i,i < rs.length→w≠some i→mem1[i]?=rs[i]?):MOk P f (liftM w c):=by
  constructor
  · intro args mem nk eff h _
    unfold liftM at h
    split at h
    · rename_i rs hrs
      split at h
      · rename_i b v mem1 hcc
        cases hk:(nodupB (rowsL args)&&(rs.all (fun r=>r.live&&r.pure)&&(mem1.all Row.pure&&(Nat.ble rs.length mem1.length&&Nat.ble mem1.length (rs.length+1)))))
        · rw [hk] at h; cases h
        · rw [hk] at h
          simp only [cond_true,Option.some.injEq,Prod.mk.injEq,Bool.and_eq_true] at h hk
          obtain ⟨⟨hbt,hwit⟩,rfl⟩:=h
          subst hbt
          obtain ⟨hnd,hlive,hpure1,hlen1,hlen2⟩:=hk
          obtain ⟨hg,hsame⟩:=hc _ _ _ _ hcc
          have hlen1:=Nat.le_of_ble_eq_true hlen1
          have hlen2:=Nat.le_of_ble_eq_true hlen2
          have hmap:=allSome_get hrs
          have hl:rs.length=(rowsL args).length:=by
            have:=congrArg List.length hmap
            simpa using this.symm
          have hrow:∀ (i k:Nat),(rowsL args)[i]?=some k→∃ row,mem[k]?=some row∧rs[i]?=some row:=fun i k hi=>by
            have e1:=congrArg (fun l:List (Option Row)=>l[i]?) hmap
            simp only [List.getElem?_map,hi,Option.map_some] at e1
            cases hr:rs[i]? with
            | none=>rw [hr] at e1; simp at e1
            | some row =>
              rw [hr] at e1
              simp only [Option.map_some,Option.some.injEq] at e1
              exact ⟨row,e1,rfl⟩
          have hok:∀ (i:Nat) (row:Row),rs[i]?=some row→row.live=true∧row.pure=true:=fun i row hi=>by
            have:=List.all_eq_true.1 hlive row (List.mem_of_getElem? hi)
            simpa using this
          refine ⟨hg.1,fun A0 R w0 E mem' cargs hW hnk hgl hr happ=>?_⟩
          have hreal:∀ k,k ∈ rowsL args→∃ p,E.O k=some p:=witL_ok args hr hwit
          let O1:Nat→Option (Nat × Nat × Nat):=fun i=>((rowsL args)[i]?).bind E.O
          let E1:Env:={ E with O:=O1 }
          have hO1:∀ i b c,E1.O i=some (b,c)→∃ k,(rowsL args)[i]?=some k∧E.O k=some (b,c):=fun i b c hi=>by
            have hi:((rowsL args)[i]?).bind E.O=some (b,c):=hi
            cases hx:(rowsL args)[i]? with
            | none=>rw [hx] at hi; cases hi
            | some k=>rw [hx] at hi; exact ⟨k,rfl,hi⟩
          have hO1':∀ (i k:Nat) (p:Nat × Nat × Nat),(rowsL args)[i]?=some k→E.O k=some p→E1.O i=some p:=fun i k p hi hp=>by
            show ((rowsL args)[i]?).bind E.O=some p
            rw [hi]; exact hp
          let R1:Nat→Prop:=fun b=>∃ k c,k ∈ rowsL args∧E.O k=some (b,c)
          have lives:∀ k,k ∈ rowsL args→liveAt mem k=true:=fun k hk=>by
            obtain ⟨i,hi⟩:=List.mem_iff_getElem?.1 hk
            obtain ⟨row,g1,g2⟩:=hrow i k hi
            unfold liveAt
            rw [g1]
            exact (hok i row g2).1
          have hW1:Wd E.A R1 E1 E1 rs:=by
            refine ⟨fun i b c hi=>?_,hW.small,fun _ h=>h,fun i b c hi _=>?_,fun i j b c c' hi hj _ _=>?_,BelowR.refl _ _,Env.le.refl _⟩
            · obtain ⟨k,h1,h2⟩:=hO1 i b c hi
              obtain ⟨row,g1,g2⟩:=hrow i k h1
              obtain ⟨row',g3,g4⟩:=hW.rows k b c h2
              rw [g1] at g3
              cases g3
              exact ⟨row,g2,rowRel_pure (E:=E) (E':=E1) rfl (fun _=>Iff.rfl) (hok i row g2).2 g4⟩
            · obtain ⟨k,h1,h2⟩:=hO1 i b c hi
              have hm:=List.mem_of_getElem? h1
              exact ⟨(hW.own k b c h2 (lives k hm)).1,Or.inl ⟨k,c,hm,h2⟩⟩
            · obtain ⟨k,h1,h2⟩:=hO1 i b c hi
              obtain ⟨k',h3,h4⟩:=hO1 j b c' hj
              have:=hW.one k k' b c c' h2 h4 (lives k (List.mem_of_getElem? h1)) (lives k' (List.mem_of_getElem? h3))
              subst this
              exact nodupB_get hnd i j k h1 h3
          have hpins:Pins rs.length E1.A R1 E1:=by
            refine ⟨fun i hi=>?_,fun h0=>⟨fun b hb=>?_,hW.small⟩⟩
            · show ((rowsL args)[i]?).bind E.O=none
              rw [List.getElem?_eq_none (by omega)]; rfl
            · obtain ⟨k,c,hk,_⟩:=hb
              have:rowsL args=[]:=List.eq_nil_of_length_eq_zero (by omega)
              rw [this] at hk
              cases hk
          have hr1:rels E1 (renL (ixOf (rowsL args)) args) cargs.toList:=relsA_ren args (fun k i p hi hp=>hO1' i k p (ixOf_some hi) hp) _ hr
          refine (hg.2 R1 E1 cargs hpins hW1 (glob_O hgl _) hr1).mono ?_
          rintro e w' ⟨u,E',rfl,rfl,hW2,hrel⟩
          have hE1:∀ (i k:Nat),(rowsL args)[i]?=some k→∃ p,E.O k=some p∧E'.O i=some p:=fun i k hi=>by
            obtain ⟨p,hp⟩:=hreal k (List.mem_of_getElem? hi)
            exact ⟨p,hp,hW2.le0.own i p (hO1' i k p hi hp)⟩
          let nw:Option Row:=mem1[(rowsL args).length]?
          let O2:Nat→Option (Nat × Nat × Nat):=fun k=>if k=nk then (nw.bind fun _=>E'.O (rowsL args).length) else E.O k
          let E2:Env:={ E' with O:=O2 }
          have hO2:∀ k p,E.O k=some p→E2.O k=some p:=fun k p hp=>by
            have:k≠nk:=fun e=>by rw [e,hnk] at hp; cases hp
            show (if k=nk then _ else E.O k)=some p
            rw [if_neg this]; exact hp
          have hO2':∀ k p,E2.O k=some p→E.O k=some p∨(k=nk∧(∃ row,nw=some row)∧E'.O (rowsL args).length=some p):=fun k p hp=>by
            have hp:(if k=nk then (nw.bind fun _=>E'.O (rowsL args).length) else E.O k)=some p:=hp
            by_cases hk:k=nk
            · rw [if_pos hk] at hp
              cases hn:nw with
              | none=>rw [hn] at hp; cases hp
              | some row=>rw [hn] at hp; exact Or.inr ⟨hk,⟨row,rfl⟩,hp⟩
            · rw [if_neg hk] at hp; exact Or.inl hp
          have hle:E.le E2:=⟨hW2.le0.keep,hO2⟩
          have hwr:∀ k,k ∉ rowsL args→∀ b c,E.O k=some (b,c)→mem'[k]?=mem[k]?:=fun k hk b c hb=>by
            have hne:k≠nk:=fun e=>by rw [e,hnk] at hb; cases hb
            have:=happ.1 k hne b c hb
            rw [this]
            simp only
            cases hw:(w.bind fun i=>match (rowsL args)[i]?,mem1[i]? with | some k,some r=>some (k,r) | _,_=>none) with
            | none=>rfl
            | some q =>
              obtain ⟨k',row'⟩:=q
              simp only
              rw [if_neg]
              intro e
              subst e
              cases w with
              | none=>cases hw
              | some i =>
                simp only [Option.bind_some] at hw
                split at hw
                · rename_i k2 r2 g1 g2
                  simp only [Option.some.injEq,Prod.mk.injEq] at hw
                  rw [← hw.1] at hk
                  exact hk (List.mem_of_getElem? g1)
                · cases hw
          have hin:∀ (i k:Nat),(rowsL args)[i]?=some k→mem'[k]?=mem1[i]?:=fun i k hi=>by
            obtain ⟨p,hp,_⟩:=hE1 i k hi
            have hne:k≠nk:=fun e=>by rw [e,hnk] at hp; cases hp
            have h1:=happ.1 k hne p.1 p.2 hp
            obtain ⟨row,g1,g2⟩:=hrow i k hi
            have hil:i < rs.length:=(List.getElem?_eq_some_iff.1 g2).1
            rw [h1]
            simp only
            by_cases hwi:w=some i
            · subst hwi
              have hm1:∃ r1,mem1[i]?=some r1:=⟨_,List.getElem?_eq_getElem (by omega)⟩
              obtain ⟨r1,hr1⟩:=hm1
              simp only [Option.bind_some,hi,hr1]
              simp
            · rw [hsame i hil hwi,g2]
              cases hw:(w.bind fun i=>match (rowsL args)[i]?,mem1[i]? with | some k,some r=>some (k,r) | _,_=>none) with
              | none=>exact g1
              | some q =>
                obtain ⟨k',row'⟩:=q
                simp only
                rw [if_neg]
                · exact g1
                · intro e
                  subst e
                  cases w with
                  | none=>cases hw
                  | some j =>
                    simp only [Option.bind_some] at hw
                    split at hw
                    · rename_i k2 r2 g3 g4
                      simp only [Option.some.injEq,Prod.mk.injEq] at hw
                      rw [hw.1] at g3
                      exact hwi (by rw [nodupB_get hnd j i _ g3 hi])
                    · cases hw
          have hback:∀ i k' p,backOf (rowsL args) ((mem1[(rowsL args).length]?).map fun _=>nk) i=some k'→E'.O i=some p→O2 k'=some p:=fun i k' p hi hp=>by
            unfold backOf at hi
            cases hx:(rowsL args)[i]? with
            | some k =>
              rw [hx] at hi
              simp only [Option.some.injEq] at hi
              subst hi
              obtain ⟨p',g1,g2⟩:=hE1 i k hx
              rw [hp] at g2
              cases g2
              exact hO2 k p g1
            | none =>
              rw [hx] at hi
              simp only at hi
              cases hb:Nat.beq i (rowsL args).length
              · rw [hb] at hi; cases hi
              · rw [hb] at hi
                simp only [cond_true] at hi
                have e1:=Nat.eq_of_beq_eq_true hb
                cases hn:mem1[(rowsL args).length]? with
                | none=>rw [hn] at hi; cases hi
                | some row =>
                  rw [hn] at hi
                  simp only [Option.map_some,Option.some.injEq] at hi
                  subst hi
                  show (if nk=nk then (nw.bind fun _=>E'.O (rowsL args).length) else E.O nk)=some p
                  rw [if_pos rfl,show nw=some row from hn,← e1,Option.bind_some]
                  exact hp
          have hrow2:∀ b c row,row.pure=true→rowRel E' b c row→rowRel E2 b c row:=fun b c row hp h=>rowRel_pure (E:=E') (E':=E2) rfl (fun _=>Iff.rfl) hp h
          have hpure:∀ (i:Nat) (row:Row),mem1[i]?=some row→row.pure=true:=fun i row hi=>List.all_eq_true.1 hpure1 row (List.mem_of_getElem? hi)
          have hnwrow:∀ row,nw=some row→mem'[nk]?=some row:=fun row hn=>happ.2 row hn
          have back:∀ k b c,E.O k=some (b,c)→liveAt mem' k=true→liveAt mem k=true:=fun k b c hb hlv=>by
            by_cases hk:k ∈ rowsL args
            · exact lives k hk
            · unfold liveAt at hlv ⊢
              rw [hwr k hk b c hb] at hlv
              exact hlv
          have hnewblk:∀ b c row,nw=some row→E'.O (rowsL args).length=some (b,c)→row.live=true→E'.A b∧((∃ k c',k ∈ rowsL args∧E.O k=some (b,c'))∨E.w.heap.size≤b):=fun b c row hn ho hlv=>by
            have:=hW2.own _ b c ho (by unfold liveAt; rw [show mem1[(rowsL args).length]?=some row from hn]; exact hlv)
            exact ⟨this.1,this.2⟩
          have hlivenk:∀ row,nw=some row→liveAt mem' nk=true→row.live=true:=fun row hn hlv=>by
            unfold liveAt at hlv
            rw [hnwrow row hn] at hlv
            exact hlv
          refine ⟨u,E2,rfl,rfl,hle,fun k p hp=>(hO2' k p hp).imp id fun h=>h.1,⟨?_,hW2.small,fun b hb=>hW2.old b (hW.old b hb),?_,?_,?_,hW.le0.trans hle⟩,relA_ren v hback u hrel⟩
          · intro k b c hb
            rcases hO2' k _ hb with h1 | ⟨rfl,⟨row,hn⟩,h2⟩
            · by_cases hk:k ∈ rowsL args
              · obtain ⟨i,hi⟩:=List.mem_iff_getElem?.1 hk
                obtain ⟨p,g1,g2⟩:=hE1 i k hi
                rw [h1] at g1
                cases g1
                obtain ⟨row,g3,g4⟩:=hW2.rows i b c g2
                exact ⟨row,by rw [hin i k hi]; exact g3,hrow2 b c row (hpure i row g3) g4⟩
              · obtain ⟨row,g3,g4⟩:=hW.rows k b c h1
                refine ⟨row,by rw [hwr k hk b c h1]; exact g3,rowRel_keep hle g4 fun hlv=>?_⟩
                have hlk:liveAt mem k=true:=by unfold liveAt; rw [g3]; exact hlv
                refine hW2.below.block b (hW.small b (hW.own k b c h1 hlk).1) ?_
                rintro ⟨k',c',hk',hb'⟩
                have:=hW.one k k' b c c' h1 hb' hlk (lives k' hk')
                subst this
                exact hk hk'
            · obtain ⟨row',g3,g4⟩:=hW2.rows _ b c h2
              have e1:row'=row:=by
                have g3:mem1[(rowsL args).length]?=some row':=g3
                have hn:mem1[(rowsL args).length]?=some row:=hn
                rw [hn] at g3
                cases g3
                rfl
              subst e1
              exact ⟨row',hnwrow row' hn,hrow2 b c row' (hpure _ row' g3) g4⟩
          · intro k b c hb hlv
            rcases hO2' k _ hb with h1 | ⟨rfl,⟨row,hn⟩,h2⟩
            · obtain ⟨g1,g2⟩:=hW.own k b c h1 (back k b c h1 hlv)
              exact ⟨hW2.old b g1,g2⟩
            · obtain ⟨g1,g2⟩:=hnewblk b c row hn h2 (hlivenk row hn hlv)
              refine ⟨g1,?_⟩
              rcases g2 with ⟨k',c',hk',hb'⟩ | g2
              · exact (hW.own k' b c' hb' (lives k' hk')).2
              · exact Or.inr (Nat.le_trans hW.below.size g2)
          · have cross:∀ k b c c',E.O k=some (b,c)→liveAt mem' k=true→(∃ row,nw=some row)→E'.O (rowsL args).length=some (b,c')→liveAt mem' nk=true→False:=by
              intro k b c c' hb hlv ⟨row,hn⟩ ho hlv'
              have hrl:=hlivenk row hn hlv'
              by_cases hk:k ∈ rowsL args
              · obtain ⟨i,hi⟩:=List.mem_iff_getElem?.1 hk
                obtain ⟨p,g1,g2⟩:=hE1 i k hi
                rw [hb] at g1
                cases g1
                have h1:liveAt mem1 i=true:=by unfold liveAt at hlv ⊢; rw [hin i k hi] at hlv; exact hlv
                have h2:liveAt mem1 (rowsL args).length=true:=by unfold liveAt; rw [show mem1[(rowsL args).length]?=some row from hn]; exact hrl
                have:=hW2.one i (rowsL args).length b c c' g2 ho h1 h2
                subst this
                rw [List.getElem?_eq_none (Nat.le_refl _)] at hi
                cases hi
              · have hlk:=back k b c hb hlv
                rcases (hnewblk b c' row hn ho hrl).2 with ⟨k',c2,hk',hb'⟩ | g2
                · have:=hW.one k k' b c c2 hb hb' hlk (lives k' hk')
                  subst this
                  exact hk hk'
                · have:=hW.small b (hW.own k b c hb hlk).1
                  omega
            intro k k' b c c' hb hb' hlv hlv'
            rcases hO2' k _ hb with h1 | ⟨rfl,hn,h2⟩
            · rcases hO2' k' _ hb' with h1' | ⟨rfl,hn',h2'⟩
              · exact hW.one k k' b c c' h1 h1' (back k b c h1 hlv) (back k' b c' h1' hlv')
              · exact (cross k b c c' h1 hlv hn' h2' hlv').elim
            · rcases hO2' k' _ hb' with h1' | ⟨rfl,hn',h2'⟩
              · exact (cross k' b c' c h1' hlv' hn h2 hlv).elim
              · rfl
          · refine ⟨hW2.below.os.trans hW.below.os,hW2.below.tape.trans hW.below.tape,hW2.below.output.trans hW.below.output,Nat.le_trans hW.below.size hW2.below.size,fun b hb hn=>?_⟩
            refine (hW2.below.block b (Nat.lt_of_lt_of_le hb hW.below.size) ?_).trans (hW.below.block b hb hn)
            rintro ⟨k,c,hk,hk2⟩
            rcases (hW.own k b c hk2 (lives k hk)).2 with h | h
            · exact hn h
            · omega
      · cases h
    · cases h
  · intro args rows nk nk' b eff h hn
    unfold liftM at h ⊢
    split at h
    · rename_i rs hrs
      split at h
      · rename_i b' v mem1 hcc
        cases hk:(nodupB (rowsL args)&&(rs.all (fun r=>r.live&&r.pure)&&(mem1.all Row.pure&&(Nat.ble rs.length mem1.length&&Nat.ble mem1.length (rs.length+1)))))
        · rw [hk] at h; cases h
        · rw [hk] at h
          simp only [cond_true,Option.some.injEq,Prod.mk.injEq] at h
          obtain ⟨rfl,rfl⟩:=h
          simp only at hn
          simp only [hn,Option.map_none,cond_true]
      · cases h
    · cases h
end
end Go.Gv
