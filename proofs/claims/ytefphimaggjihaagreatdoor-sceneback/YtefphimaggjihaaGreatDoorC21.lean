/-
  Gy Gyw Gyl Gyf Gyr, one behind the other.
-/
import Derived.Test.YtefphimaggjihaaGreatDoorC18
import Derived.Test.YtefphimaggjihaaGreatDoorC10
import Derived.Test.YtefphimaggjihaaGreatDoorC19
import Derived.Test.YtefphimaggjihaaGreatDoorC20
import Derived.Test.YtefphimaggjihaaGreatDoorC12
import Derived.Test.YtefphimaggjihaaGreatDoorC15
namespace Go.Gv
/-- Where a loop is left by a return. -/
noncomputable def finR (keep:List Nat) (τ:List (Option Nat)):Kont:=fun e s=>match e with
  | .ret=>finF keep τ .ret s
  | _=>none
theorem finR_sub (keep:List Nat) (τ:List (Option Nat)):KSub (finR keep τ):=fun e s o h=>by
  unfold finR at h
  cases e<;>simp only at h<;>first | (cases h; done) | exact finF_sub keep τ _ s o h
end Go.Gv
namespace Go.Proofs.YtefphimaggjihaaGreatDoor
open Go.Gv

def yA (b:Int):AV:=.x (.int .u8 b)
def ixB (i:Int) (n:Nat):Bool:=decide (0≤i)&&decide (i < n)
theorem ixB_t {i n:Nat} (h:i < n):ixB (i:Nat) n=true:=by unfold ixB; rw [dec_nonneg,dec_lt h]; rfl
def isId (o:Option Nat) (i:Nat):Bool:=match o with | some k=>Nat.beq k i | none=>false
/-- Of the loops within, the first is told. -/
theorem lok_hd {P:Program} {c:Code} {i:Nat} {g:LFun} (m:Nat) (hlen:(loopsOf c).length=m+1) (hno:((List.range m).all fun j=>!(isId (firstId ((loopsOf c).getD (j+1) .skip)) i))=true) (h:LSound P ((loopsOf c).getD 0 .skip) g):LOk P (oneL i g) c :=
  lok_one (m+1) hlen fun j hj hid=>by
    cases j with
    | zero=>exact h
    | succ j =>
      rw [List.all_eq_true] at hno
      have:=hno j (List.mem_range.2 (by omega))
      rw [hid] at this
      simp [isId] at this
/-- The loop with this number is told. -/
theorem lok_at {P:Program} {c:Code} {i:Nat} {g:LFun} (j0 m:Nat) (hlen:(loopsOf c).length=m) (hno:((List.range m).all fun j=>Nat.beq j j0||!(isId (firstId ((loopsOf c).getD j .skip)) i))=true) (h:LSound P ((loopsOf c).getD j0 .skip) g):LOk P (oneL i g) c :=
  lok_one m hlen fun j hj hid=>by
    rw [List.all_eq_true] at hno
    have:=hno j (List.mem_range.2 hj)
    rw [hid] at this
    simp [isId] at this
    subst this
    exact h
theorem lok_none {P:Program} {c:Code} (i:Nat):LOk P (oneL i fun _ _=>none) c:=by
  intro c' _ i' g' _ hg
  unfold oneL at hg
  cases hb:Nat.beq i' i
  · rw [hb] at hg; cases hg
  · rw [hb] at hg
    cases hg
    constructor
    · intro s k r hr; cases hr
    · intro s s' e' hk
      have:=hk fun e s=>some ⟨e,s,.any⟩
      cases this
/-- A contract that is asked for where it is used. -/
noncomputable def kS (P:Program) (f:Nat) (g:List AV→AV):KEntry:=⟨f,fun args k=>gate (FSpec P f args (g args)) (k (g args))⟩
theorem kS_ok {P:Program} {f:Nat} {g:List AV→AV}:KOk P (kS P f g):=by
  constructor
  · intro args k o ho
    simp only [kS] at ho ⊢
    obtain ⟨hp,ho⟩:=gate_some ho
    exact ⟨g args,ho,fun k'=>by rw [gate_pos hp]⟩
  · intro args v hv
    have h1:=hv fun x=>some (Out.of x)
    simp only [kS] at h1
    obtain ⟨hp,h1⟩:=gate_some h1
    simp only [Option.some.injEq,Out.of,Out.mk.injEq,true_and] at h1
    subst h1
    exact Or.inl hp
theorem m_nil {P:Program}:∀ e,e ∈ ([]:List MEntry)→MEOk P e:=fun _ h=>by cases h
theorem m_cons {P:Program} {e:MEntry} {l:List MEntry} (h:MEOk P e) (hl:∀ e,e ∈ l→MEOk P e):∀ e',e' ∈ e::l→MEOk P e':=fun e' he=>by
  rcases List.mem_cons.1 he with rfl | he
  · exact h
  · exact hl e' he
theorem mixI (b:Bool) (a c:Int):mixL b [iA a] [iA c]=[iA (cond b a c)]:=by unfold iA; simp only [mixL,mixA,decide_true,cond_true]
theorem blt_t {a b:Nat} (h:a < b):Nat.blt a b=true:=Nat.ble_eq_true_of_le h
/-- The first place at which something holds. -/
theorem first_of (Q:Nat→Prop):∀ m,Q m→∃ K,K≤m∧Q K∧∀ k,k < K→¬ Q k:=by
  intro m
  induction m using Nat.strongRecOn with
  | ind m ih =>
    intro h
    by_cases hc:∃ k,k < m∧Q k
    · obtain ⟨k,hk,hq⟩:=hc
      obtain ⟨K,h1,h2,h3⟩:=ih k hk hq
      exact ⟨K,by omega,h2,h3⟩
    · exact ⟨m,Nat.le_refl _,h,fun k hk hq=>hc ⟨k,hk,hq⟩⟩
/-- All of them, or the first one that isn't. -/
theorem all_or_first (p:Nat→Bool) (n:Nat):(∀ i,i < n→p i=true)∨∃ K,K < n∧p K=false∧∀ i,i < K→p i=true:=by
  by_cases h:∃ i,i < n∧p i=false
  · obtain ⟨i,hi,hp⟩:=h
    obtain ⟨K,h1,h2,h3⟩:=first_of (fun k=>p k=false) i hp
    exact Or.inr ⟨K,by omega,h2,fun k hk=>by simpa using h3 k hk⟩
  · exact Or.inl fun i hi=>by
      cases hp:p i
      · exact absurd ⟨i,hi,hp⟩ h
      · rfl
theorem FSpec.of_res {P:Program} {f:Nat} {args:List AV} {r r':AV} (h:FSpec P f args r) (hr:∀ (E:Env) (v:Value),rel E r v→rel E r' v):FSpec P f args r' :=
  ⟨h.1,fun A w cargs hA ha hg=>(h.2 A w cargs hA ha hg).mono fun _ _ ⟨v,h1,h2,h3⟩=>⟨v,h1,hr _ _ h2,h3⟩⟩
theorem FSpec.of_args {P:Program} {f:Nat} {args args':List AV} {r:AV} (h:FSpec P f args r) (ha:∀ (E:Env) (vs:List Value),rels E args' vs→rels E args vs):FSpec P f args' r :=
  ⟨h.1,fun A w cargs hA h2 hg=>h.2 A w cargs hA (ha _ _ h2) hg⟩
theorem sl_like {E:Env} {sz n:Nat} {el el':Nat→List AV} {v:Value} (h:rel E (.sl sz n el) v) (he:∀ i,i < n→el' i=el i):rel E (.sl sz n el') v:=by
  have h:relA _ _ _:=h
  show relA _ _ _
  rw [relA] at h ⊢
  obtain ⟨a,c,h1,h2,h3⟩:=h
  refine ⟨a,c,h1,h2,?_⟩
  rcases h3 with h3 | ⟨b,o,cs,e,fz,h4,h5,h6,h7⟩
  · exact Or.inl h3
  · exact Or.inr ⟨b,o,cs,e,fz,h4,h5,h6,fun i hi=>by rw [he i hi]; exact h7 i hi⟩
/-- Append of one. -/
def apB (c sz:Nat):Bool:=(c==c)&&Nat.ble ((c+1)*sz) 140737488355328
theorem apB_t {c sz:Nat} (h:(c+1)*sz≤140737488355328):apB c sz=true:=by unfold apB; rw [BEq.rfl,Nat.ble_eq_true_of_le h]; rfl
end Go.Proofs.YtefphimaggjihaaGreatDoor

namespace Go.Proofs.YtefphimaggjihaaGreatDoor
open Go.Gv

theorem w_nil {P:Program}:∀ e,e ∈ ([]:List WEntry)→WEOk P e:=fun _ h=>by cases h
theorem r_nil {P:Program}:∀ e,e ∈ ([]:List REntry)→REOk P e:=fun _ h=>by cases h
theorem w_cons {P:Program} {e:WEntry} {l:List WEntry} (h:WEOk P e) (hl:∀ e,e ∈ l→WEOk P e):∀ e',e' ∈ e::l→WEOk P e':=fun e' he=>by
  rcases List.mem_cons.1 he with rfl | he
  · exact h
  · exact hl e' he
section
variable {l:List Entry} {ks:List KEntry} {ms:List MEntry} {ws:List WEntry} {rs:List REntry} {L:Nat→Option LFun} (hl:∀ e,e ∈ l→EOk Tryz.prog e) (hks:∀ e,e ∈ ks→KOk Tryz.prog e) (hms:∀ e,e ∈ ms→MEOk Tryz.prog e) (hws:∀ e,e ∈ ws→WEOk Tryz.prog e) (hrs:∀ e,e ∈ rs→REOk Tryz.prog e)
include hl hks hms hws hrs
theorem gspecW {f : Nat} {fn : Func} (hf : Tryz.prog.funcs[f]? = some fn) (hnm : (fn.name == "runtime.NumGoroutine") = false) (hb : fn.body = some (bodyOf fn)) (hL : LOk Tryz.prog L (bodyOf fn))
    {args:List AV} (hlen:Nat.ble args.length fn.ntmps=true) {r:AV} (h:evW Tryz.prog l ks ms ws rs L fn args ret=some (Out.of r)):FSpec Tryz.prog f args r :=
  spec_of_body (tabW_ok hl hks hms hws hrs) (drawnK_ok (tabW_ok hl hks hms hws hrs) (by kernel_rfl)) 40 hf hnm hb hL hlen h
theorem gspecGW {f : Nat} {fn : Func} (hf : Tryz.prog.funcs[f]? = some fn) (hnm : (fn.name == "runtime.NumGoroutine") = false) (hb : fn.body = some (bodyOf fn))
    {args:List AV} {mem:List Row} (hL:LOkN mem.length Tryz.prog L (bodyOf fn)) (hlen:Nat.ble args.length fn.ntmps=true) {τ:List (Option Nat)} (hpin:pinT mem.length τ=true) {v:AV} {mem1:List Row} (h:evGW Tryz.prog l ks ms ws rs L fn args mem τ=gout v mem1):GSpec Tryz.prog f args mem v mem1 :=
  gspec_of_body (tabW_ok hl hks hms hws hrs) (drawnK_ok (tabW_ok hl hks hms hws hrs) (by kernel_rfl)) 40 hf hnm hb hL hlen hpin h
end
end Go.Proofs.YtefphimaggjihaaGreatDoor

namespace Go.Gv
open Go.RowKit Go.Ev

/-- Rows that say no more, element by element. -/
def RowLike (row row':Row):Prop:=row'=row∨(∃ e sz n el el',row=.a e sz n el∧row'=.a e sz n el'∧∀ i,i < n→(el' i).length=(el i).length∧∀ (E:Env) (cs:List Value),pre E (el i) cs→pre E (el' i) cs)∨∃ l l',row=.c l∧row'=.c l'∧∀ (E:Env) (cs:List Value),pre E l cs→pre E l' cs
def RowsLike:List Row→List Row→Prop
  | [],[]=>True
  | r::rs,r'::rs'=>RowLike r r'∧RowsLike rs rs'
  | _,_=>False
theorem RowsLike.get:∀ {rs rs':List Row},RowsLike rs rs'→∀ k:Nat,(rs[k]?=none∧rs'[k]?=none)∨∃ r r',rs[k]?=some r∧rs'[k]?=some r'∧RowLike r r'
  | [],[],_,k=>Or.inl ⟨by simp,by simp⟩
  | r::rs,r'::rs',h,k=>by
    cases k with
    | zero=>exact Or.inr ⟨r,r',rfl,rfl,h.1⟩
    | succ k=>simpa using RowsLike.get h.2 k
  | [],_::_,h,_=>h.elim
  | _::_,[],h,_=>h.elim
theorem sub_like {np:Nat} {sl:List (AV × Chain)} {mem mem':List Row} (h:RowsLike mem mem'):SubN np ⟨sl,mem⟩ ⟨sl,mem'⟩:=by
  intro A0 R w0 E a hp0 hI
  have lives:∀ k,liveAt mem' k=liveAt mem k:=fun k=>by
    unfold liveAt
    rcases h.get k with ⟨h1,h2⟩ | ⟨r,r',h1,h2,h3⟩
    · rw [h1,h2]
    · rw [h1,h2]
      rcases h3 with rfl | ⟨e,sz,n,el,el',rfl,rfl,_⟩ | ⟨l,l',rfl,rfl,_⟩<;>rfl
  refine ⟨E,rfl,hI.defers,hI.frame,⟨fun k b c hb=>?_,hI.wd.small,hI.wd.old,fun k b c hb hl=>hI.wd.own k b c hb (by rw [← lives]; exact hl),fun k k' b c c' hb hb' hl hl'=>hI.wd.one k k' b c c' hb hb' (by rw [← lives]; exact hl) (by rw [← lives]; exact hl'),hI.wd.below,hI.wd.le0⟩⟩
  obtain ⟨row,h1,h2⟩:=hI.wd.rows k b c hb
  rcases h.get k with ⟨g1,_⟩ | ⟨r,r',g1,g2,g3⟩
  · have:mem[k]?=some row:=h1
    rw [g1] at this; cases this
  · have:mem[k]?=some row:=h1
    rw [g1] at this
    cases this
    refine ⟨r',g2,?_⟩
    rcases g3 with rfl | ⟨e,sz,n,el,el',rfl,rfl,g4⟩ | ⟨l,l',rfl,rfl,g4⟩
    · exact h2
    · obtain ⟨cs,k1,k2,k3,k4,k5,k6⟩:=h2
      exact ⟨cs,k1,k2,k3,k4,k5,fun i hi=>⟨(g4 i hi).1.trans (k6 i hi).1,(g4 i hi).2 _ _ (k6 i hi).2⟩⟩
    · obtain ⟨cs,e,k1,k2⟩:=h2
      exact ⟨cs,e,k1,g4 _ _ k2⟩
end Go.Gv

namespace Go.Gv
open Go.RowKit Go.Ev
noncomputable section

theorem ixOf_none {l:List Nat} {k:Nat} (h:ixOf l k=none):k ∉ l:=fun hk=>by
  unfold ixOf at h
  rw [List.findIdx?_eq_none_iff] at h
  have:=h k hk
  simp at this
/-- Where the callee's rows lie among the caller's. -/
def putF (l:List Nat) (n:Nat) (i:Nat):Option Nat:=match l[i]? with
  | some k=>some k
  | none=>some (n+(i - l.length))
/-- The caller's rows behind the call. -/
structure MemF (l:List Nat) (mem mem1 mem':List Row):Prop where
  other:∀ k,k ∉ l→k < mem.length→mem'[k]?=mem[k]?
  mine:∀ (i k:Nat) (r:Row),l[i]?=some k→mem1[i]?=some r→mem'[k]?=some (renRow (putF l mem.length) r)
  fresh:∀ (i:Nat) (r:Row),l.length≤i→mem1[i]?=some r→mem'[mem.length+(i - l.length)]?=some (renRow (putF l mem.length) r)
theorem wframe {P:Program} {f:Nat} {args args0:List AV} {mem mem0 mem1 mem':List Row} {v:AV} (h:GSpec P f args0 mem0 v mem1) (l:List Nat) (hl:l.length=mem0.length) (hnd:nodupB l=true)
    (hargs:args0=renL (ixOf l) args) (hmem:∀ (i k:Nat),l[i]?=some k→∃ row,mem[k]?=some row∧row.live=true∧mem0[i]?=some (renRow (ixOf l) row)) (hF:MemF l mem mem1 mem'):WSpec P f args mem (renA (putF l mem.length) v) mem':=by
  refine ⟨h.1,fun A0 R w0 E cargs hW hgl hr=>?_⟩
  have dom:∀ k p,E.O k=some p→k < mem.length:=fun k p hp=>by
    obtain ⟨row,h1,_⟩:=hW.rows k p.1 p.2 hp
    exact (List.getElem?_eq_some_iff.1 h1).1
  have lives:∀ k,k ∈ l→liveAt mem k=true:=fun k hk=>by
    obtain ⟨i,hi⟩:=List.mem_iff_getElem?.1 hk
    obtain ⟨row,g1,g2,_⟩:=hmem i k hi
    unfold liveAt
    rw [g1]
    exact g2
  let O1:Nat→Option (Nat × Nat × Nat):=fun i=>(l[i]?).bind E.O
  let E1:Env:={ E with O:=O1 }
  have hO1:∀ i b c,E1.O i=some (b,c)→∃ k,l[i]?=some k∧E.O k=some (b,c):=fun i b c hi=>by
    have hi:(l[i]?).bind E.O=some (b,c):=hi
    cases hx:l[i]? with
    | none=>rw [hx] at hi; cases hi
    | some k=>rw [hx] at hi; exact ⟨k,rfl,hi⟩
  have hO1':∀ (i k:Nat) (p:Nat × Nat × Nat),l[i]?=some k→E.O k=some p→O1 i=some p:=fun i k p hi hp=>by
    show (l[i]?).bind E.O=some p
    rw [hi]; exact hp
  have hσ:∀ k i p,ixOf l k=some i→E.O k=some p→O1 i=some p:=fun k i p hi hp=>hO1' i k p (ixOf_some hi) hp
  let R1:Nat→Prop:=fun b=>∃ k c,k ∈ l∧E.O k=some (b,c)
  have hW1:Wd E.A R1 E1 E1 mem0:=by
    refine ⟨fun i b c hi=>?_,hW.small,fun _ h=>h,fun i b c hi _=>?_,fun i j b c c' hi hj _ _=>?_,BelowR.refl _ _,Env.le.refl _⟩
    · obtain ⟨k,h1,h2⟩:=hO1 i b c hi
      obtain ⟨row,g1,_,g2⟩:=hmem i k h1
      obtain ⟨row',g3,g4⟩:=hW.rows k b c h2
      rw [g1] at g3
      cases g3
      exact ⟨_,g2,renRow_rel hσ g4⟩
    · obtain ⟨k,h1,h2⟩:=hO1 i b c hi
      have hm:=List.mem_of_getElem? h1
      exact ⟨(hW.own k b c h2 (lives k hm)).1,Or.inl ⟨k,c,hm,h2⟩⟩
    · obtain ⟨k,h1,h2⟩:=hO1 i b c hi
      obtain ⟨k',h3,h4⟩:=hO1 j b c' hj
      have:=hW.one k k' b c c' h2 h4 (lives k (List.mem_of_getElem? h1)) (lives k' (List.mem_of_getElem? h3))
      subst this
      exact nodupB_get hnd i j k h1 h3
  have hpins:Pins mem0.length E1.A R1 E1:=by
    refine ⟨fun i hi=>?_,fun b hb=>?_,hW.small⟩
    · show (l[i]?).bind E.O=none
      rw [List.getElem?_eq_none (by omega)]; rfl
    · obtain ⟨k,c,hk,hO⟩:=hb
      obtain ⟨i,hi⟩:=List.mem_iff_getElem?.1 hk
      exact ⟨i,c,by have:=(List.getElem?_eq_some_iff.1 hi).1; omega,hO1' i k _ hi hO⟩
  have hr1:rels E1 args0 cargs.toList:=by
    rw [hargs]
    exact relsA_ren args hσ _ hr
  refine (h.2 R1 E1 cargs hpins hW1 (glob_O hgl _) hr1).mono ?_
  rintro e w' ⟨u,E',rfl,rfl,hW2,hrel⟩
  have dom1:∀ i p,E'.O i=some p→∃ r,mem1[i]?=some r:=fun i p hp=>by
    obtain ⟨row,h1,_⟩:=hW2.rows i p.1 p.2 hp
    exact ⟨row,h1⟩
  let O2:Nat→Option (Nat × Nat × Nat):=fun k=>match ixOf l k with
    | some i=>E'.O i
    | none=>if k < mem.length then E.O k else E'.O (l.length+(k - mem.length))
  let E2:Env:={ E' with O:=O2 }
  have isIx:∀ (i k:Nat),l[i]?=some k→ixOf l k=some i:=fun i k hi=>by
    cases hx:ixOf l k with
    | none=>exact absurd (List.mem_of_getElem? hi) (ixOf_none hx)
    | some j=>rw [nodupB_get hnd i j k hi (ixOf_some hx)]
  have hO2:∀ k p,E.O k=some p→E2.O k=some p:=fun k p hp=>by
    show (match ixOf l k with
      | some i=>E'.O i
      | none=>if k < mem.length then E.O k else E'.O (l.length+(k - mem.length)))=some p
    cases hx:ixOf l k with
    | none=>rw [if_pos (dom k p hp)]; exact hp
    | some i=>exact hW2.le0.own i p (hO1' i k p (ixOf_some hx) hp)
  /- what stands where, behind the call -/
  have hO2':∀ k p,E2.O k=some p→(k ∉ l∧k < mem.length∧E.O k=some p)∨∃ i r,E'.O i=some p∧mem1[i]?=some r∧mem'[k]?=some (renRow (putF l mem.length) r)∧putF l mem.length i=some k:=fun k p hp=>by
    have hp:(match ixOf l k with
      | some i=>E'.O i
      | none=>if k < mem.length then E.O k else E'.O (l.length+(k - mem.length)))=some p:=hp
    cases hx:ixOf l k with
    | some i =>
      rw [hx] at hp
      obtain ⟨r,hr⟩:=dom1 i p hp
      have hi:=ixOf_some hx
      exact Or.inr ⟨i,r,hp,hr,hF.mine i k r hi hr,by unfold putF; rw [hi]⟩
    | none =>
      rw [hx] at hp
      by_cases hk:k < mem.length
      · simp only [if_pos hk] at hp
        exact Or.inl ⟨ixOf_none hx,hk,hp⟩
      · simp only [if_neg hk] at hp
        obtain ⟨r,hr⟩:=dom1 _ p hp
        have e:mem.length+(l.length+(k - mem.length) - l.length)=k:=by omega
        have:=hF.fresh _ r (Nat.le_add_right _ _) hr
        rw [e] at this
        exact Or.inr ⟨_,r,hp,hr,this,by unfold putF; rw [List.getElem?_eq_none (by omega)]; simp only; rw [e]⟩
  have hback:∀ i k' p,putF l mem.length i=some k'→E'.O i=some p→O2 k'=some p:=fun i k' p hi hp=>by
    unfold putF at hi
    cases hx:l[i]? with
    | some k =>
      rw [hx] at hi
      simp only [Option.some.injEq] at hi
      subst hi
      show (match ixOf l k with
        | some i=>E'.O i
        | none=>if k < mem.length then E.O k else E'.O (l.length+(k - mem.length)))=some p
      rw [isIx i k hx]
      exact hp
    | none =>
      rw [hx] at hi
      simp only [Option.some.injEq] at hi
      have hil:=List.getElem?_eq_none_iff.1 hx
      have hk:ixOf l k'=none:=by
        cases hy:ixOf l k' with
        | none=>rfl
        | some j =>
          obtain ⟨row,g1,_⟩:=hmem j k' (ixOf_some hy)
          have:=(List.getElem?_eq_some_iff.1 g1).1
          omega
      show (match ixOf l k' with
        | some i=>E'.O i
        | none=>if k' < mem.length then E.O k' else E'.O (l.length+(k' - mem.length)))=some p
      rw [hk]
      simp only
      rw [if_neg (by omega),show l.length+(k' - mem.length)=i by omega]
      exact hp
  have hle:E.le E2:=⟨hW2.le0.keep,hO2⟩
  have liv1:∀ (i k:Nat) (r:Row),mem1[i]?=some r→mem'[k]?=some (renRow (putF l mem.length) r)→liveAt mem' k=true→liveAt mem1 i=true:=fun i k r h1 h2 h3=>by
    unfold liveAt at h3 ⊢
    rw [h2] at h3
    rw [h1]
    simp only [renRow_live] at h3
    exact h3
  have liv0:∀ k,k ∉ l→k < mem.length→liveAt mem' k=true→liveAt mem k=true:=fun k h1 h2 h3=>by
    unfold liveAt at h3 ⊢
    rw [hF.other k h1 h2] at h3
    exact h3
  have cross:∀ (k i:Nat) (b:Nat) (c c':Nat × Nat),k ∉ l→E.O k=some (b,c)→liveAt mem k=true→E'.O i=some (b,c')→liveAt mem1 i=true→False:=fun k i b c c' hk hb hlk ho hl1=>by
    rcases (hW2.own i b c' ho hl1).2 with ⟨k',c2,hk',hb'⟩ | g2
    · have:=hW.one k k' b c c2 hb hb' hlk (lives k' hk')
      subst this
      exact hk hk'
    · have:=hW.small b (hW.own k b c hb hlk).1
      have g2:E.w.heap.size≤b:=g2
      omega
  refine ⟨u,E2,rfl,rfl,hle,⟨?_,hW2.small,fun b hb=>hW2.old b (hW.old b hb),?_,?_,?_,hW.le0.trans hle⟩,relA_ren v hback u hrel⟩
  · intro k b c hb
    rcases hO2' k _ hb with ⟨h1,h2,h3⟩ | ⟨i,r,h1,h2,h3,_⟩
    · obtain ⟨row,g3,g4⟩:=hW.rows k b c h3
      refine ⟨row,by rw [hF.other k h1 h2]; exact g3,rowRel_keep hle g4 fun hlv=>?_⟩
      have hlk:liveAt mem k=true:=by unfold liveAt; rw [g3]; exact hlv
      refine hW2.below.block b (hW.small b (hW.own k b c h3 hlk).1) ?_
      rintro ⟨k',c',hk',hb'⟩
      have:=hW.one k k' b c c' h3 hb' hlk (lives k' hk')
      subst this
      exact h1 hk'
    · obtain ⟨row',g3,g4⟩:=hW2.rows i b c h1
      have:row'=r:=by
        have g3:mem1[i]?=some row':=g3
        rw [h2] at g3
        cases g3
        rfl
      subst this
      exact ⟨_,h3,renRow_rel hback g4⟩
  · intro k b c hb hlv
    rcases hO2' k _ hb with ⟨h1,h2,h3⟩ | ⟨i,r,h1,h2,h3,_⟩
    · obtain ⟨g1,g2⟩:=hW.own k b c h3 (liv0 k h1 h2 hlv)
      exact ⟨hW2.old b g1,g2⟩
    · obtain ⟨g1,g2⟩:=hW2.own i b c h1 (liv1 i k r h2 h3 hlv)
      refine ⟨g1,?_⟩
      rcases g2 with ⟨k',c',hk',hb'⟩ | g2
      · exact (hW.own k' b c' hb' (lives k' hk')).2
      · exact Or.inr (Nat.le_trans hW.below.size g2)
  · intro k k' b c c' hb hb' hlv hlv'
    rcases hO2' k _ hb with ⟨h1,h2,h3⟩ | ⟨i,r,h1,h2,h3,h4⟩
    · rcases hO2' k' _ hb' with ⟨g1,g2,g3⟩ | ⟨i',r',g1,g2,g3,_⟩
      · exact hW.one k k' b c c' h3 g3 (liv0 k h1 h2 hlv) (liv0 k' g1 g2 hlv')
      · exact (cross k i' b c c' h1 h3 (liv0 k h1 h2 hlv) g1 (liv1 i' k' r' g2 g3 hlv')).elim
    · rcases hO2' k' _ hb' with ⟨g1,g2,g3⟩ | ⟨i',r',g1,g2,g3,g4⟩
      · exact (cross k' i b c' c g1 g3 (liv0 k' g1 g2 hlv') h1 (liv1 i k r h2 h3 hlv)).elim
      · have:=hW2.one i i' b c c' h1 g1 (liv1 i k r h2 h3 hlv) (liv1 i' k' r' g2 g3 hlv')
        subst this
        rw [h4] at g4
        cases g4
        rfl
  · refine ⟨hW2.below.os.trans hW.below.os,hW2.below.tape.trans hW.below.tape,hW2.below.output.trans hW.below.output,Nat.le_trans hW.below.size hW2.below.size,fun b hb hn=>?_⟩
    refine (hW2.below.block b (Nat.lt_of_lt_of_le hb hW.below.size) ?_).trans (hW.below.block b hb hn)
    rintro ⟨k,c,hk,hk2⟩
    rcases (hW.own k b c hk2 (lives k hk)).2 with h | h
    · exact hn h
    · omega
end
end Go.Gv

namespace Go.Gv
open Go.RowKit Go.Ev
noncomputable section

/-- A contract over all of our rows, asked for where it is used. -/
def wQ (P:Program) (f:Nat) (g:List AV→List Row→AV) (m:List AV→List Row→List Row):WEntry:=⟨f,fun args mem=>some (propB (WSpec P f args mem (g args mem) (m args mem)),g args mem,m args mem)⟩
theorem wQ_ok {P:Program} {f:Nat} {g:List AV→List Row→AV} {m:List AV→List Row→List Row}:WEOk P (wQ P f g m):=fun args mem v mem1 h=>by
  have h:some (propB (WSpec P f args mem (g args mem) (m args mem)),g args mem,m args mem)=some (true,v,mem1):=h
  simp only [Option.some.injEq,Prod.mk.injEq] at h
  obtain ⟨h1,rfl,rfl⟩:=h
  exact propB_of h1
end
end Go.Gv
