/-
  ax1 with rows that are frozen ahead of a region.
-/
import Derived.Test.YtefphimaggjihaaGreatDoorC15
import Derived.Test.YtefphimaggjihaaGreatDoorC20
open Bool renaming and_eq_true->J8
open Go.Code renaming wp_mono->ayx
open List renaming all_eq_true->apB,getD_eq_getElem?_getD->amh,getElem?_eq_some_iff->aj8,getElem?_map->azh,getElem?_set_ne->ay9,getElem?_set_self->azq,mem_of_getElem?->ayK,range->av2
open Nat renaming beq->ax0,eq_of_beq_eq_true->axO,le_of_ble_eq_true->Sr
open Or renaming inl->ER,inr->aaH
namespace Go.Gv
open Go.RowKit Go.Ev
noncomputable section
abbrev mg:=St->SK->Option Out
def fZ(np:Nat)(h:mg):Prop:=∀s k r,h s k=some r->∃s1,k s1=some r/\iV np s s1
def Ku(P:Program)(T:Tab)(Z:Nat->Option mg)(id:Nat)(ops:List Oper):Nat->List Oper->St->SK->Option Out
 |_,[],s,k=>k s
 |i,o::rest,s,k=>Ry P T ops s o λ s'=>match Z (id+1000*(i+1))with
  |some h=>h s' λ s2=>Ku P T Z id ops (i+1) rest s2 k
  |none=>Ku P T Z id ops (i+1) rest s' k
def jJ(P:Program)(T:Tab)(D:List Oper->St->SK->Option Out)(L:Nat->Option dN)(Z:Nat->Option mg)(N:Nat):Code->St->jZ->Option Out
 |.skip,s,k=>k .normal s
 |.region id ops draw,s,k=>match Z id with
  |some h=>h s λ s1=>cond draw (D ops.toList s1 λ s'=>k .normal (G6 s')) (Ku P T Z id ops.toList 0 ops.toList s1 λ s'=>k .normal (G6 s'))
  |none=>cond draw (D ops.toList s λ s'=>k .normal (G6 s')) (Ku P T Z id ops.toList 0 ops.toList s λ s'=>k .normal (G6 s'))
 |.seq x y,s,k=>jJ P T D L Z N x s λ e s'=>match e with
  |.normal=>jJ P T D L Z N y s' k
  |e=>k e s'
 |.cond c x y,s,k=>cond (iB s.slots [] c) (match aG s c with
  |.x (.bool b)=>cond b (jJ P T D L Z N x s k) (jJ P T D L Z N y s k)
  |_=>none) none
 |.block id c,s,k=>jJ P T D L Z N c s λ e s'=>match e with
  |.exit id'=>cond (id'==id) (k .normal s') (k (.exit id') s')
  |e=>k e s'
 |.loop c,s,k=>match jA c with
  |some i=>match L i with
   |some g=>g s k
   |none=>rounds (λ s k=>jJ P T D L Z N c s k) k N s
  |none=>none
 |.exit id,s,k=>k (.exit id) s
 |.scope c,s,k=>jJ P T D L Z N c s λ e s'=>match e with
  |.goto _=>none
  |e=>k e s'
 |.label _,s,k=>k .normal s
 |.ret,s,k=>k .ret s
 |_,_,_=>none
section
variable{P:Program}{T:Tab}{D:List Oper->St->SK->Option Out}{L:Nat->Option dN}{A0 R:Nat->Prop}{w0:Env}
theorem Kv{np:Nat}{Z:Nat->Option mg}(hZ:∀i h,Z i=some h->fZ np h)(hp0:Ju np A0 R w0)(hT:Ao P T){ops:Array Oper}{Q:Exit->Act->World->Prop}{id:Nat}{k:SK}{r:Out}:∀(l:List Oper) (i:Nat) {E:Env} {s:St} {a:Act},Inv A0 R w0 E s a->Ku P T Z id ops.toList i l s k=some r->(∀E' a' s',Inv A0 R w0 E' s' a'->k s'=some r->Q .normal a' E'.w)->wpList P ops Q l a E.w
 | [],_,E,s,a,hI,h,hQ=>hQ E a s hI h
 |o::rest,i,E,s,a,hI,h,hQ=>by
  simp only[Ku]at h;obtain⟨s1,hs,h4,_⟩:=Mv hT.par h
  have on:∀E' a',Inv A0 R w0 E' s1 a'->wpList P ops Q rest a' E'.w:=λ E' a' hI'=>by
   split at h4
   .rename_i z hz
    obtain⟨s2,g1,g2⟩:=hZ _ z hz _ _ _ h4;obtain⟨E1,e1,g3⟩:=g2 A0 R w0 E' a' hp0 hI';rw[<-e1];exact Kv hZ hp0 hT rest (i+1) g3 g1 hQ
   .exact Kv hZ hp0 hT rest (i+1) hI' h4 hQ
  rcases hs with(⟨v,mem1,h1,h2,rfl⟩ | ⟨v,rows,h1,h2,rfl⟩ | ⟨g,c,v,h1,h2,h3,h5,rfl⟩ | ⟨b,c,bg,h1,h2,h3,rfl⟩) | ⟨b,c,bg,h1,h2,h3⟩
  .exact wpList_step λ K hK=>Jp hT hI h1 h2 K λ E' a' hI'=>hK _ _ (on E' a' hI')
  .exact wpList_step λ K hK=>Jo hT hI h1 h2 K λ E' a' hI'=>hK _ _ (on E' a' hI')
  .exact wpList_step λ K hK=>Jq hT hI h1 h2 h3 h5 K λ E' a' hI'=>hK _ _ (on E' a' hI')
  .exact wpList_step λ K hK=>Ji hT.flat hI h1 h2 h3 K λ E' a' hI'=>hK _ _ (on E' a' hI')
  .exact wpList_step λ K hK=>Jr hT hI h1 h2 h3 K λ E' a' hI'=>hK _ _ (on E' a' hI')
theorem Nq{np:Nat}{Z:Nat->Option mg}(hZ:∀i h,Z i=some h->fZ np h)(hp0:Ju np A0 R w0)(hT:Ao P T)(hD:DOk P D)(N:Nat)(c:Code):nu np P L c->∀{E:Env} {s:St} {k:jZ} {r:Out} {a:Act},Inv A0 R w0 E s a->jJ P T D L Z N c s k=some r->c.wp P (Post A0 R w0 k r) a E.w:=by
 induction c with
 |skip=>intro _ E s k r a hI h;exact wp_skip ⟨E,s,rfl,hI,h⟩
 |label l=>intro _ E s k r a hI h;exact wp_label ⟨E,s,rfl,hI,h⟩
 |ret=>intro _ E s k r a hI h;exact wp_ret ⟨E,s,rfl,hI,h⟩
 |exit id=>intro _ E s k r a hI h;exact wp_exit ⟨E,s,rfl,hI,h⟩
 |goto l=>intro _ E s k r a hI h;simp[jJ]at h
 |refuse y=>intro _ E s k r a hI h;simp[jJ]at h
 |rangeFunc f ps x y Zg ihy=>intro _ E s k r a hI h;simp[jJ]at h
 |region id ops draw =>
  intro _ E s k r a hI h;simp only[jJ]at h
  have go:∀{E:Env} {s:St},Inv A0 R w0 E s a->cond draw (D ops.toList s λ s'=>k .normal (G6 s')) (Ku P T Z id ops.toList 0 ops.toList s λ s'=>k .normal (G6 s'))=some r->(Code.region id ops draw).wp P (Post A0 R w0 k r) a E.w:=by
   intro E s hI h;cases draw with
   |true =>
    simp only[cond_true]at h;obtain⟨s1,h1,h2⟩:=hD.1 _ _ _ _ h;exact hD.2 A0 R w0 E s s1 a id ops _ hI h2 λ E' a' hI'=>⟨E',_,rfl,hI',h1⟩
   |false =>
    simp only[cond_false]at h;exact wp_region_list (Kv hZ hp0 hT ops.toList 0 hI h λ E' a' s' hI' h2=>⟨E',_,rfl,hI'.clear,h2⟩)
  split at h
  .rename_i z hz
   obtain⟨s1,h1,h2⟩:=hZ id z hz _ _ _ h;obtain⟨E1,e1,h3⟩:=h2 A0 R w0 E a hp0 hI;rw[<-e1];exact go h3 h1
  .exact go hI h
 |seq x y Zg ihy =>
  intro hL E s k r a hI h;simp only[jJ]at h;have hLx:nu np P L x:=λ c' hc'=>hL c' (by simp[bC,hc']);have hLy:nu np P L y:=λ c' hc'=>hL c' (by simp[bC,hc']);refine wp_seq (ayx ?_ (Zg hLx hI h));rintro e a' w' ⟨E',s',rfl,hI',he⟩;cases e<;>simp only[Exit.then]at he ⊢
  case normal=>exact ihy hLy hI' he
  all_goals exact⟨E',s',rfl,hI',he⟩
 |cond c x y Zg ihy =>
  intro hL E s k r a hI h;simp only[jJ]at h;have hLx:nu np P L x:=λ c' hc'=>hL c' (by simp[bC,hc']);have hLy:nu np P L y:=λ c' hc'=>hL c' (by simp[bC,hc']);cases ho:iB s.slots [] c
  .rw[ho]at h;cases h
  .rw[ho]at h
   simp only[cond_true]at h;split at h
   .rename_i b hb
    have hv:=iF hI.frame (c:=[]) rfl c ho;rw[hb]at hv;refine wp_cond (t:=b) (Dy hv) ?_;cases b
    .exact ihy hLy hI h
    .exact Zg hLx hI h
   .cases h
 |block id c ih =>
  intro hL E s k r a hI h;simp only[jJ]at h;refine wp_block (ayx ?_ (ih (λ c' hc'=>hL c' (by simpa[bC]using hc')) hI h));rintro e a' w' ⟨E',s',rfl,hI',he⟩;cases e<;>simp only[Exit.inBlock]at he ⊢
  case exit id' =>
   by_cases hid:id'=id
   .rw[if_pos hid]
    have:(id'==id)=true:=by simpa using hid
    rw[this]at he;exact⟨E',s',rfl,hI',he⟩
   .rw[if_neg hid]
    have:(id'==id)=false:=by simpa using hid
    rw[this]at he;exact⟨E',s',rfl,hI',he⟩
  all_goals exact⟨E',s',rfl,hI',he⟩
 |loop c ih =>
  intro hL E s k r a hI h;simp only[jJ]at h;split at h
  .rename_i i hi
   split at h
   .rename_i g hg
    obtain⟨hp,hs⟩:=hL c (by simp[bC]) i g hi hg;obtain⟨e,s',h1,h2⟩:=hp s k r h;refine ayx ?_ (hs s s' e h2 A0 R w0 E a hp0 hI);rintro e' a' w' ⟨rfl,E',hw,hI'⟩;exact⟨E',s',hw,hI',h1⟩
   .refine wp_loop_rounds N ?_
    have hLc:nu np P L c:=λ c' hc'=>hL c' (by simp[bC,hc'])
    have key:∀(n:Nat) {E:Env} {s:St} {a:Act},Inv A0 R w0 E s a->rounds (λ s k=>jJ P T D L Z N c s k) k n s=some r->Code.rounds P c (Post A0 R w0 k r) n a E.w:=by
     intro n
     induction n with
     |zero=>intro E s a hI h;simp[rounds]at h
     |succ n ihn =>
      intro E s a hI h;simp only[rounds]at h;rw[rounds_succ];refine ayx ?_ (ih hLc hI h);rintro e a' w' ⟨E',s',rfl,hI',he⟩;cases e<;>simp only[Exit.then]at he ⊢
      case normal=>exact ihn hI' he
      all_goals exact⟨E',s',rfl,hI',he⟩
    exact key N hI h
  .cases h
 |scope c ih =>
  intro hL E s k r a hI h;simp only[jJ]at h;refine wp_scope_straight (ayx ?_ (ih (λ c' hc'=>hL c' (by simpa[bC]using hc')) hI h));rintro e a' w' ⟨E',s',rfl,hI',he⟩;cases e<;>simp only[Exit.noGoto]at he ⊢
  case goto l=>cases he
  all_goals exact⟨E',s',rfl,hI',he⟩
end
def PD(P:Program)(T:Tab)(D:List Oper->St->SK->Option Out)(L:Nat->Option dN)(Z:Nat->Option mg)(N:Nat)(fn:Func)(args:List AV)(k:AV->Option Out):Option Out :=
 match fn.body with
 |some c=>jJ P T D L Z N c (start fn [] args) (aaW P fn k)
 |none=>none
def O0(P:Program)(T:Tab)(D:List Oper->St->SK->Option Out)(L:Nat->Option dN)(Z:Nat->Option mg)(N:Nat)(fn:Func)(args:List AV)(mem:List Row)(τ:List (Option Nat)):Option Out :=
 match fn.body with
 |some c=>jJ P T D L Z N c (start fn mem args) (aju P fn τ)
 |none=>none
theorem pq {P : Program} {T : Tab} {D : List Oper -> St -> SK -> Option Out} {L : Nat -> Option dN} {Z : Nat -> Option mg} (hZ : ∀ i h, Z i = some h -> fZ 0 h) (hT : Ao P T) (hD : DOk P D) (N : Nat) {f : Nat} {fn : Func} (hf : P.funcs[f]? = some fn) (hnm : (fn.name == "runtime.NumGoroutine") = false) {c : Code} (hb : fn.body = some c) (hL : yN P L c)
  {args:List AV} (hlen:Nat.ble args.length fn.ntmps=true) {r:AV} (h:PD P T D L Z N fn args (λ v=>some (Out.of v))=some (Out.of r)):aj P f args r:=by
 unfold PD at h;rw[hb]at h;simp only at h;refine⟨⟨fn,hf,hnm,by rw[hb];rfl⟩,λ A w aZ hA hv hg=>?_⟩;have hlen':args.length<=fn.ntmps:=Sr hlen;refine calls_of_wp hf hb ?_
 have hI:Inv A (λ _=>False) ⟨w,A,λ _=>none⟩ ⟨w,A,λ _=>none⟩ (start fn [] args) { tmps:=aZ++Array.replicate (fn.ntmps - aZ.size) undef,defers:=[] } :=
  ⟨rfl,rJ hg hv hlen',⟨λ _ _ _ hb=>(by cases hb),hA,λ _ hb=>hb,λ _ _ _ hb=>(by cases hb),λ _ _ _ _ _ hb=>(by cases hb),nJ.refl _ _,Env.le.refl _⟩⟩
 refine ayx ?_ (Nq (np:=0) hZ ⟨λ _ _=>rfl,λ _ h=>h.elim,hA⟩ hT hD N c hL hI h);rintro e a' w' ⟨E',s',rfl,hI',he⟩;cases e<;>simp only[aaW]at he<;>first | (cases he;done) |skip
 all_goals
  split at he
  .rename_i x hx
   simp only[Out.of,Option.some.injEq,Out.mk.injEq,true_and]at he;subst he;obtain⟨v,h1,h2⟩:=DF hI' hA hx;exact⟨hI'.defers,v,h1,v,rfl,h2,hI'.wd.below.os,hI'.wd.below.tape,hI'.wd.below.output,hI'.wd.below.size,λ k hk=>hI'.wd.below.block k hk (λ e=>e)⟩
  .cases he
theorem JD {P : Program} {T : Tab} {D : List Oper -> St -> SK -> Option Out} {L : Nat -> Option dN} {Z : Nat -> Option mg} (hT : Ao P T) (hD : DOk P D) (N : Nat) {f : Nat} {fn : Func} (hf : P.funcs[f]? = some fn) (hnm : (fn.name == "runtime.NumGoroutine") = false) {c : Code} (hb : fn.body = some c)
  {args:List AV} {mem:List Row} (hZ:∀i h,Z i=some h->fZ mem.length h) (hL:nu mem.length P L c) (hlen:Nat.ble args.length fn.ntmps=true) {τ:List (Option Nat)} (zn:Co mem.length τ=true) {v:AV} {mem1:List Row} (h:O0 P T D L Z N fn args mem τ=some ⟨.normal,⟨[],mem1⟩,v⟩):cu P f args mem v mem1:=by
 unfold O0 at h;rw[hb]at h;simp only at h;refine⟨⟨fn,hf,hnm,by rw[hb];rfl⟩,λ R E aZ hp hW hg hv=>?_⟩;have hlen':args.length<=fn.ntmps:=Sr hlen;refine calls_of_wp hf hb ?_;have hI:Inv E.A R E E (start fn mem args) { tmps:=aZ++Array.replicate (fn.ntmps - aZ.size) undef,defers:=[] }:=⟨rfl,rJ hg hv hlen',hW⟩;refine ayx ?_ (Nq hZ hp hT hD N c hL hI h);rintro e a' w' ⟨E',s',rfl,hI',he⟩;cases e<;>simp only[aju]at he<;>first | (cases he;done) |skip
 all_goals
  obtain⟨u,E2,h1,h2,h3,h4⟩:=JY zn hp hI' he;exact⟨hI'.defers,u,h1,u,E2,rfl,h2,h3,h4⟩
def Ho(k sz n:Nat)(el:Nat->List AV):AV->AV
 |.fJ k' sz' st len=>cond (ax0 k' k) (.sl sz n el) (.fJ k' sz' st len)
 |x=>x
def TA(k sz n:Nat):AV->Bool
 |.fJ k' sz' st len=>cond (ax0 k' k) (ax0 sz' sz&&(ax0 st 0&&ax0 len n)) true
 |_=>true
def PE(k sz n:Nat)(el:Nat->List AV):Row->Row
 |.c l=>.c (l.map (Ho k sz n el))
 |r=>r
def ZO(k sz n:Nat):Row->Bool
 |.c l=>l.all (TA k sz n)
 |_=>true
def wS(k:Nat):mg:=λ s L9=>match s.mem[k]? with
 |some (.a _ sz n el)=>cond (s.slots.all (λ q=>q.2.isEmpty&&TA k sz n q.1)&&s.mem.all (ZO k sz n)) (L9 ⟨s.slots.map λ q=>(Ho k sz n el q.1,q.2),(s.mem.map (PE k sz n el)).set k .dead⟩) none
 |_=>none
theorem PG{k sz n:Nat}{el:Nat->List AV}{x:AV}(h:TA k sz n x=true):Ho k sz n el x=x\/(x=.fJ k sz 0 n/\Ho k sz n el x=.sl sz n el):=by
 cases x<;>try exact ER rfl
 rename_i k' sz' st len;cases hk:ax0 k' k
 .left;simp only[Ho,hk,cond_false]
 .right
  simp only[TA,hk,cond_true,J8]at h;have e0:=axO hk;have e1:=axO h.1;have e2:=axO h.2.1;have e3:=axO h.2.2;subst e0 e1 e2 e3;exact⟨rfl,by simp only[Ho,hk,cond_true]⟩
theorem PI{k sz n:Nat}{el:Nat->List AV}:∀{l:List AV},l.all (TA k sz n)=true->abu k sz n el l (l.map (Ho k sz n el))
 | [],_=>trivial
 |x::xs,h=>by
  simp only[List.all_cons,J8]at h;exact⟨PG h.1,PI h.2⟩
theorem jq(k:Nat):fZ 0 (wS k):=λ s L9 r h=>by
 unfold wS at h;split at h
 .rename_i e sz n el hk
  cases hb:(s.slots.all (λ q=>q.2.isEmpty&&TA k sz n q.1)&&s.mem.all (ZO k sz n))
  .rw[hb]at h;cases h
  .rw[hb]at h
   simp only[cond_true]at h;simp only[J8]at hb;refine⟨_,h,?_⟩;have hkl:k<s.mem.length:=(aj8.1 hk).1
   have TB:∀t,(s.slots.getD t dflt).2=[]/\((s.slots.map λ q=>(Ho k sz n el q.1,q.2)).getD t dflt=s.slots.getD t dflt\/((s.slots.getD t dflt).1=.fJ k sz 0 n/\(s.slots.map λ q=>(Ho k sz n el q.1,q.2)).getD t dflt=(.sl sz n el,[]))):=λ t=>by
    simp only[amh,azh];cases hq:s.slots[t]? with
    |none=>exact⟨rfl,ER rfl⟩
    |some q =>
     have:=(apB.1 hb.1) q (ayK hq);simp only[J8]at this;have hc:q.2=[]:=by simpa using this.1
     refine⟨hc,?_⟩;simp only[Option.map_some,Option.getD_some];rcases PG (el:=el) this.2 with h1 | ⟨h1,h2⟩
     .left;rw[h1]
     .right;exact⟨h1,by rw[h2,hc]⟩
   refine TD (slots:=s.slots) (mem:=s.mem) hk (λ j row hj=>?_) (by simp) (λ t=>(TB t).1) λ t=>(TB t).2;by_cases e1:j=k
   .subst e1
    exact⟨.dead,by rw[azq (by simpa using hkl)],ER ⟨rfl,rfl⟩⟩
   .refine⟨PE k sz n el row,by rw[ay9 (by omega),azh,hj];rfl,aaH ⟨e1,?_⟩⟩
    have hrw:=(apB.1 hb.2) row (ayK hj);cases row with
    |c l=>exact aaH ⟨l,_,rfl,rfl,PI hrw⟩
    |a _ _ _ _=>exact ER rfl
    |dead=>exact ER rfl
    |z _ _ _ _=>exact ER rfl
    |t _ _=>exact ER rfl
    |i _ _ _=>exact ER rfl
 .cases h
def aeW(np k:Nat):mg:=λ s L9=>match s.mem[k]? with
 |some (.a _ sz n el)=>cond ((av2 np).all (aK s.mem)&&(s.slots.all (λ q=>q.2.isEmpty&&TA k sz n q.1)&&s.mem.all (ZO k sz n))) (L9 ⟨s.slots.map λ q=>(Ho k sz n el q.1,q.2),(s.mem.map (PE k sz n el)).set k .dead⟩) none
 |_=>none
theorem aeZ(np k:Nat)(hnp:np<=k):fZ np (aeW np k):=λ s L9 r h=>by
 unfold aeW at h;split at h
 .rename_i e sz n el hk
  cases hb:((av2 np).all (aK s.mem)&&(s.slots.all (λ q=>q.2.isEmpty&&TA k sz n q.1)&&s.mem.all (ZO k sz n)))
  .rw[hb]at h;cases h
  .rw[hb]at h
   simp only[cond_true]at h;simp only[J8]at hb;obtain⟨hlv,hb⟩:=hb;refine⟨_,h,?_⟩;have hkl:k<s.mem.length:=(aj8.1 hk).1
   have TB:∀t,(s.slots.getD t dflt).2=[]/\((s.slots.map λ q=>(Ho k sz n el q.1,q.2)).getD t dflt=s.slots.getD t dflt\/((s.slots.getD t dflt).1=.fJ k sz 0 n/\(s.slots.map λ q=>(Ho k sz n el q.1,q.2)).getD t dflt=(.sl sz n el,[]))):=λ t=>by
    simp only[amh,azh];cases hq:s.slots[t]? with
    |none=>exact⟨rfl,ER rfl⟩
    |some q =>
     have:=(apB.1 hb.1) q (ayK hq);simp only[J8]at this;have hc:q.2=[]:=by simpa using this.1
     refine⟨hc,?_⟩;simp only[Option.map_some,Option.getD_some];rcases PG (el:=el) this.2 with h1 | ⟨h1,h2⟩
     .left;rw[h1]
     .right;exact⟨h1,by rw[h2,hc]⟩
   refine Es (slots:=s.slots) (mem:=s.mem) hk (λ j row hj=>?_) (by simp) (λ t=>(TB t).1) (λ t=>(TB t).2) hnp λ j hj=>apB.1 hlv j (List.mem_range.2 hj);by_cases e1:j=k
   .subst e1
    exact⟨.dead,by rw[azq (by simpa using hkl)],ER ⟨rfl,rfl⟩⟩
   .refine⟨PE k sz n el row,by rw[ay9 (by omega),azh,hj];rfl,aaH ⟨e1,?_⟩⟩
    have hrw:=(apB.1 hb.2) row (ayK hj);cases row with
    |c l=>exact aaH ⟨l,_,rfl,rfl,PI hrw⟩
    |a _ _ _ _=>exact ER rfl
    |dead=>exact ER rfl
    |z _ _ _ _=>exact ER rfl
    |t _ _=>exact ER rfl
    |i _ _ _=>exact ER rfl
 .cases h
def iH(i:Nat)(h:mg):Nat->Option mg:=λ j=>cond (ax0 j i) (some h) none
theorem gK{np i:Nat}{h:mg}(hh:fZ np h):∀j g,iH i h j=some g->fZ np g:=λ j g hg=>by
 unfold iH at hg;cases hb:ax0 j i
 .rw[hb]at hg;cases hg
 .rw[hb]at hg;cases hg;exact hh
def qQ(P:Program)(l:List Entry)(ks:List aV)(ms:List fQ)(L:Nat->Option dN)(Z:Nat->Option mg)(fn:Func)(args:List AV)(k:AV->Option Out):Option Out:=PD P (afi l ks ms) (lZ P (afi l ks ms)) L Z 40 fn args k
end
end Go.Gv
