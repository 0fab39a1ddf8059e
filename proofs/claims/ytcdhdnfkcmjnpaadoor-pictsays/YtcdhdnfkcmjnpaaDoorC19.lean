/-
  Calls that hand back what is new: rows that are lent to them, and slices in what they give; a new row that is ours.
-/
import Derived.Test.YtcdhdnfkcmjnpaaDoorC17
namespace Go.Gv
open Go.RowKit Go.Ev
noncomputable section

/-- What is handed back points at nothing that was there. -/
def FreshSpec (P:Program) (f:Nat) (args:List AV) (r:AV):Prop :=
  Entered P f∧∀ (w:World) (cargs:Array Value),rels ⟨w,fun _=>False,fun _=>none⟩ args cargs.toList→glob ⟨w,fun _=>False,fun _=>none⟩ →
    Calls P f cargs w fun e w'=>∃ v,e=.returned v∧rel ⟨w',fun b=>b < w.heap.size,fun _=>none⟩ r v∧Below w.heap.size w w'
theorem FreshSpec.of_res {P:Program} {f:Nat} {args:List AV} {r r':AV} (h:FreshSpec P f args r) (hr:∀ (E:Env) (v:Value),rel E r v→rel E r' v):FreshSpec P f args r' :=
  ⟨h.1,fun w cargs ha hg=>(h.2 w cargs ha hg).mono fun _ _ ⟨v,h1,h2,h3⟩=>⟨v,h1,hr _ _ h2,h3⟩⟩
mutual
/-- Rows of ours, and what points nowhere. -/
def ownB (mem:List Row):AV→Bool
  | .osl k sz st len=>match mem[k]? with
    | some (.a _ sz' n _)=>Nat.beq sz sz'&&Nat.ble (st+len) n
    | _=>false
  | .agg l=>ownBL mem l
  | .tup l=>ownBL mem l
  | .x _=>true
  | .f _=>true
  | .cx _ _=>true
  | _=>false
def ownBL (mem:List Row):List AV→Bool
  | []=>true
  | x::xs=>ownB mem x&&ownBL mem xs
end
mutual
def frzT (mem:List Row):AV→AV
  | .osl k sz st len=>.sl sz len fun i=>elOf mem[k]? (st+i)
  | .agg l=>.agg (frzTL mem l)
  | .tup l=>.tup (frzTL mem l)
  | x=>x
def frzTL (mem:List Row):List AV→List AV
  | []=>[]
  | x::xs=>frzT mem x::frzTL mem xs
end
theorem plain_pre:∀ (xs:List AV) {E E':Env} {us:List Value},plainL xs=true→preA xs E us→preA xs E' us
  | [],_,_,us,_,_=>by unfold preA; trivial
  | x::xs,_,_,u::us,hp,hr=>by
    rw [plainL] at hp
    simp only [Bool.and_eq_true] at hp
    rw [preA] at hr ⊢
    exact ⟨plain_rel x hp.1 hr.1,plain_pre xs hp.2 hr.2⟩
  | _::_,_,_,[],_,hr=>by unfold preA at hr; exact hr.elim
/-- Rows whose cells point nowhere. -/
def PlainRows (mem:List Row):Prop:=∀ (k:Nat) (e:TypeId) (sz n:Nat) (el:Nat→List AV),mem[k]?=some (Row.a e sz n el)→∀ i,i < n→plainL (el i)=true
section
variable {A0 R:Nat→Prop} {w0 E:Env} {mem:List Row}
mutual
theorem frzT_rel (hW:Wd A0 R w0 E mem) (hR:∀ b,¬ R b) (hp:PlainRows mem):∀ (x:AV) {u:Value},ownB mem x=true→relA x E u→relA (frzT mem x) ⟨E.w,fun b=>b < w0.w.heap.size,fun _=>none⟩ u
  | .osl k sz st len,u,hb,hr=>by
    rw [ownB] at hb
    split at hb
    · rename_i e sz' n' el hk
      simp only [Bool.and_eq_true] at hb
      have hsz:=Nat.eq_of_beq_eq_true hb.1
      have hle:=Nat.le_of_ble_eq_true hb.2
      subst hsz
      have e1:frzT mem (.osl k sz st len)=.sl sz len fun i=>el (st+i):=by simp only [frzT,hk,elOf]
      rw [e1]
      rcases rel_osl.1 hr with ⟨_,h2,rfl⟩ | ⟨b,c,n,hO,h1,h2,rfl⟩
      · exact rel_sl.2 ⟨none,0,by rw [h2],by omega,Or.inl h2⟩
      · obtain ⟨row,g1,g2⟩:=hW.rows k b (c,n) hO
        have hl:liveAt mem k=true:=by unfold liveAt; rw [hk]; rfl
        have hfr:¬ b < w0.w.heap.size:=by
          rcases (hW.own k b (c,n) hO hl).2 with h | h
          · exact absurd h (hR b)
          · omega
        rw [hk] at g1
        cases g1
        obtain ⟨cs,h3,_,h5,_,_,h8⟩:=g2
        refine rel_sl.2 ⟨_,_,rfl,by omega,Or.inr ⟨b,st*sz,cs,e,(0,0),rfl,hfr,h3,fun i hi=>?_⟩⟩
        obtain ⟨h6,h7⟩:=h8 (st+i) (by omega)
        refine ⟨h6,?_⟩
        rw [← Nat.add_mul]
        exact plain_pre _ (hp k e sz n' el hk (st+i) (by omega)) h7
    · cases hb
  | .agg l,u,hb,hr=>by
    rw [ownB] at hb
    rw [frzT]
    rw [relA] at hr ⊢
    obtain ⟨vs,h1,h2⟩:=hr
    exact ⟨vs,h1,frzT_rels hW hR hp l hb h2⟩
  | .tup l,u,hb,hr=>by
    rw [ownB] at hb
    rw [frzT]
    rw [relA] at hr ⊢
    obtain ⟨vs,h1,h2⟩:=hr
    exact ⟨vs,h1,frzT_rels hW hR hp l hb h2⟩
  | .x _,_,_,hr=>by simp only [frzT]; unfold relA at *; exact hr
  | .f _,_,_,hr=>by simp only [frzT]; unfold relA at *; exact hr
  | .cx _ _,_,_,hr=>by simp only [frzT]; unfold relA at *; exact hr
  | .any,_,hb,_=>by simp [ownB] at hb
  | .sl _ _ _,_,hb,_=>by simp [ownB] at hb
  | .ref _ _,_,hb,_=>by simp [ownB] at hb
  | .own _ _,_,hb,_=>by simp [ownB] at hb
  | .eown _ _ _ _,_,hb,_=>by simp [ownB] at hb
  | .view _ _ _ _ _,_,hb,_=>by simp [ownB] at hb
  | .ifc _ _,_,hb,_=>by simp [ownB] at hb
  | .fn _ _ _,_,hb,_=>by simp [ownB] at hb
theorem frzT_rels (hW:Wd A0 R w0 E mem) (hR:∀ b,¬ R b) (hp:PlainRows mem):∀ (xs:List AV) {us:List Value},ownBL mem xs=true→relsA xs E us→relsA (frzTL mem xs) ⟨E.w,fun b=>b < w0.w.heap.size,fun _=>none⟩ us
  | [],us,_,hr=>by rw [frzTL]; cases us<;>simp [relsA] at hr ⊢
  | x::xs,u::us,hb,hr=>by
    rw [ownBL] at hb
    simp only [Bool.and_eq_true] at hb
    rw [frzTL]
    rw [relsA] at hr ⊢
    exact ⟨frzT_rel hW hR hp x hb.1 hr.1,frzT_rels hW hR hp xs hb.2 hr.2⟩
  | _::_,[],_,hr=>by simp [relsA] at hr
end
end
/-- WHAT HANDS NEW ROWS BACK IS FRESH. -/
theorem fresh_rows {P:Program} {f:Nat} {args:List AV} {v:AV} {mem1:List Row} (h:GSpec P f args [] v mem1) (hb:ownB mem1 v=true) (hp:PlainRows mem1):FreshSpec P f args (frzT mem1 v):=by
  refine ⟨h.1,fun w cargs ha hg=>?_⟩
  let E:Env:=⟨w,fun _=>False,fun _=>none⟩
  have hW:Wd E.A (fun _=>False) E E []:=⟨fun _ _ _ hb=>(by cases hb),fun _ h=>h.elim,fun _ h=>h,fun _ _ _ hb=>(by cases hb),fun _ _ _ _ _ hb=>(by cases hb),BelowR.refl _ _,Env.le.refl _⟩
  refine (h.2 (fun _=>False) E cargs ⟨fun _ _=>rfl,fun _=>⟨fun _ h=>h,fun _ h=>h.elim⟩⟩ hW hg ha).mono ?_
  rintro e w' ⟨u,E',rfl,rfl,hW',hr⟩
  exact ⟨u,rfl,frzT_rel hW' (fun _ h=>h) hp v hb hr,hW'.below.os,hW'.below.tape,hW'.below.output,hW'.below.size,fun k hk=>hW'.below.block k hk (fun e=>e)⟩
/-- ROWS THAT ARE LENT TO WHAT HANDS BACK WHAT IS NEW. -/
theorem lend_fresh {P:Program} {f:Nat} {args:List AV} {mem:List Row} {r:AV} (h:FreshSpec P f (lendL mem args) r) (hb:lendBL mem args=true) (hn:noOwn r=true):GSpec P f args mem r mem:=by
  refine ⟨h.1,fun R E cargs _ hW hg hr=>?_⟩
  have hg':glob (Env.shut E):=glob_O (glob_le (E:=E) (E':=⟨E.w,fun _=>False,E.O⟩) ⟨fun _ _ _ hob=>⟨id,hob⟩,fun _ _ h=>h⟩ hg) _
  refine (h.2 E.w cargs (lend_rels args hW.rows hb hr) hg').mono ?_
  rintro e w' ⟨v,rfl,hv,hbel⟩
  obtain ⟨h1,_⟩:=hW.on hbel
  exact ⟨v,_,rfl,rfl,h1,relA_noOwn r (E:=⟨w',fun b=>b < E.w.heap.size,fun _=>none⟩) (E':={ E with w:=w' }) (fun b hnb ob hob=>⟨fun hA=>hnb (hW.small b hA),hob⟩) hn v hv⟩
def freshC (P:Program) (f:Nat) (g:List AV→AV):List AV→List Row→Option (Bool × AV × List Row):=fun args rs=>cond (noOwn (g (lendL rs args))) (some (propB (FreshSpec P f (lendL rs args) (g (lendL rs args)))&&lendBL rs args,g (lendL rs args),rs)) none
def mF (P:Program) (f:Nat) (g:List AV→AV):MEntry:=⟨f,liftM none (freshC P f g),none⟩
theorem mF_ok {P:Program} {f:Nat} {g:List AV→AV}:MEOk P (mF P f g):=by
  refine ⟨liftM_ok fun args rs v mem1 hc=>?_,fun _ h=>by cases h⟩
  unfold freshC at hc
  cases hp:noOwn (g (lendL rs args))
  · rw [hp] at hc; cases hc
  · rw [hp] at hc
    simp only [cond_true,Option.some.injEq,Prod.mk.injEq,Bool.and_eq_true] at hc
    obtain ⟨⟨h1,h2⟩,rfl,rfl⟩:=hc
    exact ⟨lend_fresh (propB_of h1) h2 hp,fun _ _ _=>rfl⟩
theorem Wd.same {A0 R:Nat→Prop} {w0 E:Env} {mem mem':List Row} (hW:Wd A0 R w0 E mem) (h:RowsSame mem mem'):Wd A0 R w0 E mem':=by
  have lives:∀ k,liveAt mem' k=liveAt mem k:=fun k=>by
    unfold liveAt
    rcases h.get k with ⟨h1,h2⟩ | ⟨r,r',h1,h2,h3⟩
    · rw [h1,h2]
    · rw [h1,h2]
      rcases h3 with rfl | ⟨e,sz,n,el,el',rfl,rfl,_⟩<;>rfl
  refine ⟨fun k b c hb=>?_,hW.small,hW.old,fun k b c hb hl=>hW.own k b c hb (by rw [← lives]; exact hl),fun k k' b c c' hb hb' hl hl'=>hW.one k k' b c c' hb hb' (by rw [← lives]; exact hl) (by rw [← lives]; exact hl'),hW.below,hW.le0⟩
  obtain ⟨row,h1,h2⟩:=hW.rows k b c hb
  rcases h.get k with ⟨g1,_⟩ | ⟨r,r',g1,g2,g3⟩
  · rw [g1] at h1; cases h1
  · rw [g1] at h1
    cases h1
    refine ⟨r',g2,?_⟩
    rcases g3 with rfl | ⟨e,sz,n,el,el',rfl,rfl,g4⟩
    · exact h2
    · obtain ⟨cs,k1,k2,k3,k4,k5,k6⟩:=h2
      exact ⟨cs,k1,k2,k3,k4,k5,fun i hi=>by rw [g4 i hi]; exact k6 i hi⟩
theorem GSpec.of_rows {P:Program} {f:Nat} {args:List AV} {mem mem1 mem2:List Row} {v:AV} (h:GSpec P f args mem v mem1) (hs:RowsSame mem1 mem2):GSpec P f args mem v mem2 :=
  ⟨h.1,fun R E cargs hp hW hg hr=>(h.2 R E cargs hp hW hg hr).mono fun _ _ ⟨u,E',h1,h2,h3,h4⟩=>⟨u,E',h1,h2,h3.same hs,h4⟩⟩
end
end Go.Gv
