/-
  Calls that are handed all of our rows, calls that look at rows of ours; texts one part behind the other.
-/
import Derived.Test.YtancjnambbkhmaaGreatC21
namespace Go.Gv
open Go.RowKit Go.Ev
noncomputable section

structure WEntry where
  f:Nat
  g:WFun
structure REntry where
  f:Nat
  g:RFun
def findW:List WEntry→Nat→Option WFun
  | [],_=>none
  | e::l,f=>cond (Nat.beq e.f f) (some e.g) (findW l f)
def findR:List REntry→Nat→Option RFun
  | [],_=>none
  | e::l,f=>cond (Nat.beq e.f f) (some e.g) (findR l f)
def tabW (l:List Entry) (ks:List KEntry) (ms:List MEntry) (ws:List WEntry) (rs:List REntry):Tab:=⟨findE l,findK ks,findM ms,findN ms,findW ws,findR rs⟩
def WEOk (P:Program) (e:WEntry):Prop:=WOk P e.f e.g
def REOk (P:Program) (e:REntry):Prop:=ROk P e.f e.g
theorem findW_ok {P:Program} {f:Nat} {g:WFun}:∀ (ws:List WEntry),(∀ e,e ∈ ws→WEOk P e)→findW ws f=some g→WOk P f g
  | [],_,h=>by cases h
  | e::l,hw,h=>by
    simp only [findW] at h
    cases hb:Nat.beq e.f f
    · rw [hb] at h; exact findW_ok l (fun e' he'=>hw e' (by simp [he'])) h
    · rw [hb] at h
      simp only [cond_true,Option.some.injEq] at h
      have e1:=Nat.eq_of_beq_eq_true hb
      rw [← h,← e1]
      exact hw e (by simp)
theorem findR_ok {P:Program} {f:Nat} {g:RFun}:∀ (ws:List REntry),(∀ e,e ∈ ws→REOk P e)→findR ws f=some g→ROk P f g
  | [],_,h=>by cases h
  | e::l,hw,h=>by
    simp only [findR] at h
    cases hb:Nat.beq e.f f
    · rw [hb] at h; exact findR_ok l (fun e' he'=>hw e' (by simp [he'])) h
    · rw [hb] at h
      simp only [cond_true,Option.some.injEq] at h
      have e1:=Nat.eq_of_beq_eq_true hb
      rw [← h,← e1]
      exact hw e (by simp)
theorem tabW_ok {P:Program} {l:List Entry} {ks:List KEntry} {ms:List MEntry} {ws:List WEntry} {rs:List REntry} (hl:∀ e,e ∈ l→EOk P e) (hk:∀ e,e ∈ ks→KOk P e) (hm:∀ e,e ∈ ms→MEOk P e) (hw:∀ e,e ∈ ws→WEOk P e) (hr:∀ e,e ∈ rs→REOk P e):TOk P (tabW l ks ms ws rs):=by
  obtain ⟨_,h2,h3,_⟩:=tabM_ok (P:=P) (l:=l) (ks:=ks) (ms:=ms) hl hk hm
  exact ⟨tab_ok0 hl hk,h2,h3,fun _ _ h=>findW_ok ws hw h,fun _ _ h=>findR_ok rs hr h⟩
def evCW (P:Program) (l:List Entry) (ks:List KEntry) (ms:List MEntry) (ws:List WEntry) (rs:List REntry) (L:Nat→Option LFun) (c:Code) (s:St) (k:Kont):Option Out:=aCode P (tabW l ks ms ws rs) (drawnK P (tabW l ks ms ws rs)) L 40 c s k
def evGW (P:Program) (l:List Entry) (ks:List KEntry) (ms:List MEntry) (ws:List WEntry) (rs:List REntry) (L:Nat→Option LFun) (fn:Func) (args:List AV) (mem:List Row) (τ:List (Option Nat)):Option Out:=abodyG P (tabW l ks ms ws rs) (drawnK P (tabW l ks ms ws rs)) L 40 fn args mem τ
theorem wspec_of {P:Program} {f:Nat} {args:List AV} {mem mem1:List Row} {v:AV} (h:GSpec P f args mem v mem1):WSpec P f args mem v mem1:=by
  refine ⟨h.1,fun A0 R w0 E cargs hW hg hr=>?_⟩
  let R':Nat→Prop:=fun b=>∃ k c,E.O k=some (b,c)∧liveAt mem k=true
  have hW1:Wd E.A R' E E mem:=⟨hW.rows,hW.small,fun _ h=>h,fun k b c hb hl=>⟨(hW.own k b c hb hl).1,Or.inl ⟨k,c,hb,hl⟩⟩,hW.one,BelowR.refl _ _,Env.le.refl _⟩
  have hp:Pins mem.length E.A R' E:=by
    refine ⟨fun k hk=>?_,fun h0=>⟨fun b ⟨k,c,hb,_⟩=>?_,hW.small⟩⟩
    · cases hO:E.O k with
      | none=>rfl
      | some p=>have:=hW.dom k p.1 p.2 hO; omega
    · have:=hW.dom k b c hb; omega
  refine (h.2 R' E cargs hp hW1 hg hr).mono ?_
  rintro e w' ⟨u,E',rfl,rfl,hW2,hu⟩
  refine ⟨u,E',rfl,rfl,hW2.le0,⟨hW2.rows,hW2.small,fun b hb=>hW2.old b (hW.old b hb),fun k b c hb hl=>?_,hW2.one,?_,hW.le0.trans hW2.le0⟩,hu⟩
  · obtain ⟨h1,h2⟩:=hW2.own k b c hb hl
    refine ⟨h1,?_⟩
    rcases h2 with ⟨k',c',hb',hl'⟩ | h2
    · exact (hW.own k' b c' hb' hl').2
    · exact Or.inr (Nat.le_trans hW.below.size h2)
  · refine ⟨hW2.below.os.trans hW.below.os,hW2.below.tape.trans hW.below.tape,hW2.below.output.trans hW.below.output,Nat.le_trans hW.below.size hW2.below.size,fun b hb hn=>(hW2.below.block b (Nat.lt_of_lt_of_le hb hW.below.size) ?_).trans (hW.below.block b hb hn)⟩
    rintro ⟨k,c,hb',hl⟩
    rcases (hW.own k b c hb' hl).2 with h | h
    · exact hn h
    · omega
/-- A contract over all of our rows, asked for where it is used. -/
def wS (P:Program) (f:Nat) (g:List AV→List Row→AV) (m:List AV→List Row→List Row):WEntry:=⟨f,fun args mem=>some (propB (GSpec P f args mem (g args mem) (m args mem)),g args mem,m args mem)⟩
theorem wS_ok {P:Program} {f:Nat} {g:List AV→List Row→AV} {m:List AV→List Row→List Row}:WEOk P (wS P f g m):=fun args mem v mem1 h=>by
  have h:some (propB (GSpec P f args mem (g args mem) (m args mem)),g args mem,m args mem)=some (true,v,mem1):=h
  simp only [Option.some.injEq,Prod.mk.injEq] at h
  obtain ⟨h1,rfl,rfl⟩:=h
  exact wspec_of (propB_of h1)
def lookC (look:Nat→Option Row):AV→Option (Bool × AV × List Nat)
  | .osl j sz 0 n=>match look j with
    | some (.a _ sz' n' el)=>some (Nat.beq sz sz'&&Nat.ble n n',.sl sz n el,[j])
    | _=>none
  | .x v=>some (true,.x v,[])
  | _=>none
theorem lookC_good {E:Env} {mem:List Row} {look:Nat→Option Row} {x y:AV} {rd:List Nat} {u:Value} (hm:MemRel E mem) (h:lookC look x=some (true,y,rd)) (hl:∀ k,k ∈ rd→mem[k]?=look k) (hr:rel E x u):rel E.shut y u:=by
  unfold lookC at h
  split at h
  · rename_i j sz n
    split at h
    · rename_i e sz' n' el hj
      simp only [Option.some.injEq,Prod.mk.injEq,Bool.and_eq_true] at h
      obtain ⟨⟨h1,h2⟩,rfl,rfl⟩:=h
      have h1:=Nat.eq_of_beq_eq_true h1
      subst h1
      have h2:=Nat.le_of_ble_eq_true h2
      have hmj:mem[j]?=some (.a e sz n' el):=(hl j (by simp)).trans hj
      rcases rel_osl.1 hr with ⟨_,h3,rfl⟩ | ⟨b,c,m,h3,h4,h5,rfl⟩
      · exact rel_sl.2 ⟨none,0,by rw [h3],by omega,Or.inl h3⟩
      · obtain ⟨row,g1,g2⟩:=hm j b (c,m) h3
        rw [hmj] at g1
        cases g1
        obtain ⟨cs,k1,_,_,_,_,k6⟩:=g2
        refine rel_sl.2 ⟨_,_,rfl,by omega,Or.inr ⟨b,0*sz,cs,e,(0,0),rfl,fun h=>h,k1,fun i hi=>?_⟩⟩
        obtain ⟨k7,k8⟩:=k6 i (by omega)
        refine ⟨k7,?_⟩
        rw [Nat.zero_mul,Nat.zero_add]
        exact pre_le (E:=E.fz) (E':=E.shut.fz) ⟨fun b' hb ob hob=>⟨fun h=>h,hob⟩,fun _ _ hb=>by cases hb⟩ k8
    · cases h
  · rename_i v
    simp only [Option.some.injEq,Prod.mk.injEq,true_and] at h
    obtain ⟨rfl,rfl⟩:=h
    rw [rel_x.1 hr]
    exact rel_x.2 rfl
  · cases h
theorem lookC_par {look look':Nat→Option Row} {x y:AV} {b:Bool} {rd:List Nat} (h:lookC look x=some (b,y,rd)) (hl:∀ k,k ∈ rd→look k=look' k):lookC look' x=some (b,y,rd):=by
  have h0:=h
  unfold lookC at h ⊢
  split at h
  · rename_i j sz n
    split at h
    · rename_i e sz' n' el hj
      simp only [Option.some.injEq,Prod.mk.injEq] at h
      rw [← hl j (by rw [← h.2.2]; simp),hj]
      simp only [Option.some.injEq,Prod.mk.injEq]
      exact h
    · cases h
  · exact h
  · cases h
def renRow (σ:Nat→Option Nat):Row→Row
  | .c l=>.c (renL σ l)
  | r=>r
theorem renRow_live (σ:Nat→Option Nat) (r:Row):(renRow σ r).live=r.live:=by cases r<;>rfl
theorem pre_ren:∀ (xs:List AV) {σ:Nat→Option Nat} {E:Env} {O':Nat→Option (Nat × Nat × Nat)} (_:∀ k k' p,σ k=some k'→E.O k=some p→O' k'=some p) (us:List Value),pre E xs us→pre { E with O:=O' } (renL σ xs) us
  | [],_,_,_,_,_,_=>by rw [renL]; exact pre_nil
  | x::xs,σ,E,O',h,us,hp=>by
    obtain ⟨u,us',rfl,h1,h2⟩:=pre_cons.1 hp
    rw [renL]
    exact pre_cons.2 ⟨u,us',rfl,relA_ren x h u h1,pre_ren xs h us' h2⟩
theorem renRow_rel {σ:Nat→Option Nat} {E:Env} {O':Nat→Option (Nat × Nat × Nat)} (h:∀ k k' p,σ k=some k'→E.O k=some p→O' k'=some p) {b:Nat} {c:Nat × Nat} {row:Row} (hr:rowRel E b c row):rowRel { E with O:=O' } b c (renRow σ row):=by
  cases row with
  | c l =>
    obtain ⟨cs,e,h1,h2⟩:=hr
    exact ⟨cs,e,h1,pre_ren l h _ h2⟩
  | a e sz n el=>exact hr
  | dead=>trivial
  | z e sz n el=>exact hr
end
end Go.Gv
