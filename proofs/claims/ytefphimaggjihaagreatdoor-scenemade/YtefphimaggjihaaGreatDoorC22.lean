/-
  aDk with rows that are frozen ahead of a region.
-/
import Derived.Test.YtefphimaggjihaaGreatDoorC15
import Derived.Test.YtefphimaggjihaaGreatDoorC20
namespace Go.Gv
open Go.RowKit Go.Ev
noncomputable section
abbrev mg:=St→SK→Option Out
def fZ(np:Nat)(h:mg):Prop:=∀s k r,h s k=some r→∃s1,k s1=some r∧iV np s s1
def KQ(P:Program)(T:Tab)(Z:Nat→Option mg)(id:Nat)(ops:List Oper):Nat→List Oper→St→SK→Option Out
 |_,[],s,k=>k s
 |i,o::rest,s,k=>Sw P T ops s o fun s'=>match Z(id+1000*(i+1))with
  |some h=>h s' fun s2=>KQ P T Z id ops(i+1)rest s2 k
  |none=>KQ P T Z id ops(i+1)rest s' k
def jJ(P:Program)(T:Tab)(D:List Oper→St→SK→Option Out)(L:Nat→Option dN)(Z:Nat→Option mg)(N:Nat):Code→St→jZ→Option Out
 |.skip,s,k=>k .normal s
 |.region id ops draw,s,k=>match Z id with
  |some h=>h s fun s1=>cond draw(D ops.toList s1 fun s'=>k .normal(HV s'))(KQ P T Z id ops.toList 0 ops.toList s1 fun s'=>k .normal(HV s'))
  |none=>cond draw(D ops.toList s fun s'=>k .normal(HV s'))(KQ P T Z id ops.toList 0 ops.toList s fun s'=>k .normal(HV s'))
 |.seq x y,s,k=>jJ P T D L Z N x s fun e s'=>match e with
  |.normal=>jJ P T D L Z N y s' k
  |e=>k e s'
 |.cond c x y,s,k=>cond(iB s.slots []c)(match aG s c with
  |.x(.bool b)=>cond b(jJ P T D L Z N x s k)(jJ P T D L Z N y s k)
  |_=>none)none
 |.block id c,s,k=>jJ P T D L Z N c s fun e s'=>match e with
  |.exit id'=>cond(id'==id)(k .normal s')(k(.exit id')s')
  |e=>k e s'
 |.loop c,s,k=>match jA c with
  |some i=>match L i with
   |some g=>g s k
   |none=>rounds(fun s k=>jJ P T D L Z N c s k)k N s
  |none=>none
 |.exit id,s,k=>k(.exit id)s
 |.scope c,s,k=>jJ P T D L Z N c s fun e s'=>match e with
  |.goto _=>none
  |e=>k e s'
 |.label _,s,k=>k .normal s
 |.ret,s,k=>k .ret s
 |_,_,_=>none
section
variable {P:Program}{T:Tab}{D:List Oper→St→SK→Option Out}{L:Nat→Option dN}{A0 R:Nat→Prop}{w0:Env}
theorem KS {np:Nat}{Z:Nat→Option mg}(hZ:∀i h,Z i=some h→fZ np h)(hp0:JO np A0 R w0)(hT:Az P T) {ops:Array Oper}{Q:Exit→Act→World→Prop}{id:Nat}{k:SK}{r:Out}:∀(l:List Oper)(i:Nat) {E:Env}{s:St}{a:Act},Inv A0 R w0 E s a→KQ P T Z id ops.toList i l s k=some r→(∀E' a' s',Inv A0 R w0 E' s' a'→k s'=some r→Q .normal a' E'.w)→wpList P ops Q l a E.w
 | [],_,E,s,a,hI,h,hQ=>hQ E a s hI h
 |o::rest,i,E,s,a,hI,h,hQ=>by
  simp only[KQ]at h
  obtain⟨s1,hs,h4,_⟩:=Nf hT.par h
  have on:∀E' a',Inv A0 R w0 E' s1 a'→wpList P ops Q rest a' E'.w:=fun E' a' hI'=>by
   split at h4
   ·rename_i z hz
    obtain⟨s2,g1,g2⟩:=hZ _ z hz _ _ _ h4
    obtain⟨E1,e1,g3⟩:=g2 A0 R w0 E' a' hp0 hI'
    rw[←e1]
    exact KS hZ hp0 hT rest(i+1)g3 g1 hQ
   ·exact KS hZ hp0 hT rest(i+1)hI' h4 hQ
  rcases hs with(⟨v,mem1,h1,h2,rfl⟩ | ⟨v,rows,h1,h2,rfl⟩ | ⟨g,c,v,h1,h2,h3,h5,rfl⟩ | ⟨b,c,bg,h1,h2,h3,rfl⟩) | ⟨b,c,bg,h1,h2,h3⟩
  ·exact wpList_step fun K hK=>JJ hT hI h1 h2 K fun E' a' hI'=>hK _ _(on E' a' hI')
  ·exact wpList_step fun K hK=>JI hT hI h1 h2 K fun E' a' hI'=>hK _ _(on E' a' hI')
  ·exact wpList_step fun K hK=>JK hT hI h1 h2 h3 h5 K fun E' a' hI'=>hK _ _(on E' a' hI')
  ·exact wpList_step fun K hK=>JD hT.flat hI h1 h2 h3 K fun E' a' hI'=>hK _ _(on E' a' hI')
  ·exact wpList_step fun K hK=>JL hT hI h1 h2 h3 K fun E' a' hI'=>hK _ _(on E' a' hI')
theorem NY {np:Nat}{Z:Nat→Option mg}(hZ:∀i h,Z i=some h→fZ np h)(hp0:JO np A0 R w0)(hT:Az P T)(hD:DOk P D)(N:Nat)(c:Code):ny np P L c→∀{E:Env}{s:St}{k:jZ}{r:Out}{a:Act},Inv A0 R w0 E s a→jJ P T D L Z N c s k=some r→c.wp P(Post A0 R w0 k r)a E.w:=by
 induction c with
 |skip=>intro _ E s k r a hI h;exact wp_skip⟨E,s,rfl,hI,h⟩
 |label l=>intro _ E s k r a hI h;exact wp_label⟨E,s,rfl,hI,h⟩
 |ret=>intro _ E s k r a hI h;exact wp_ret⟨E,s,rfl,hI,h⟩
 |exit id=>intro _ E s k r a hI h;exact wp_exit⟨E,s,rfl,hI,h⟩
 |goto l=>intro _ E s k r a hI h;simp[jJ]at h
 |refuse y=>intro _ E s k r a hI h;simp[jJ]at h
 |rangeFunc f ps x y Z7 ihy=>intro _ E s k r a hI h;simp[jJ]at h
 |region id ops draw =>
  intro _ E s k r a hI h
  simp only[jJ]at h
  have go:∀{E:Env}{s:St},Inv A0 R w0 E s a→cond draw(D ops.toList s fun s'=>k .normal(HV s'))(KQ P T Z id ops.toList 0 ops.toList s fun s'=>k .normal(HV s'))=some r→(Code.region id ops draw).wp P(Post A0 R w0 k r)a E.w:=by
   intro E s hI h
   cases draw with
   |true =>
    simp only[cond_true]at h
    obtain⟨s1,h1,h2⟩:=hD.1 _ _ _ _ h
    exact hD.2 A0 R w0 E s s1 a id ops _ hI h2 fun E' a' hI'=>⟨E',_,rfl,hI',h1⟩
   |false =>
    simp only[cond_false]at h
    exact wp_region_list(KS hZ hp0 hT ops.toList 0 hI h fun E' a' s' hI' h2=>⟨E',_,rfl,hI'.clear,h2⟩)
  split at h
  ·rename_i z hz
   obtain⟨s1,h1,h2⟩:=hZ id z hz _ _ _ h
   obtain⟨E1,e1,h3⟩:=h2 A0 R w0 E a hp0 hI
   rw[←e1]
   exact go h3 h1
  ·exact go hI h
 |seq x y Z7 ihy =>
  intro hL E s k r a hI h
  simp only[jJ]at h
  have hLx:ny np P L x:=fun c' hc'=>hL c'(by simp[bC,hc'])
  have hLy:ny np P L y:=fun c' hc'=>hL c'(by simp[bC,hc'])
  refine wp_seq(Go.Code.wp_mono ?_(Z7 hLx hI h))
  rintro e a' w'⟨E',s',rfl,hI',he⟩
  cases e<;>simp only[Exit.then]at he ⊢
  case normal=>exact ihy hLy hI' he
  all_goals exact⟨E',s',rfl,hI',he⟩
 |cond c x y Z7 ihy =>
  intro hL E s k r a hI h
  simp only[jJ]at h
  have hLx:ny np P L x:=fun c' hc'=>hL c'(by simp[bC,hc'])
  have hLy:ny np P L y:=fun c' hc'=>hL c'(by simp[bC,hc'])
  cases ho:iB s.slots []c
  ·rw[ho]at h;cases h
  ·rw[ho]at h
   simp only[cond_true]at h
   split at h
   ·rename_i b hb
    have hv:=iF hI.frame(c:=[])rfl c ho
    rw[hb]at hv
    refine wp_cond(t:=b)(DU hv) ?_
    cases b
    ·exact ihy hLy hI h
    ·exact Z7 hLx hI h
   ·cases h
 |block id c ih =>
  intro hL E s k r a hI h
  simp only[jJ]at h
  refine wp_block(Go.Code.wp_mono ?_(ih(fun c' hc'=>hL c'(by simpa[bC]using hc'))hI h))
  rintro e a' w'⟨E',s',rfl,hI',he⟩
  cases e<;>simp only[Exit.inBlock]at he ⊢
  case exit id' =>
   by_cases hid:id'=id
   ·rw[if_pos hid]
    have:(id'==id)=true:=by simpa using hid
    rw[this]at he
    exact⟨E',s',rfl,hI',he⟩
   ·rw[if_neg hid]
    have:(id'==id)=false:=by simpa using hid
    rw[this]at he
    exact⟨E',s',rfl,hI',he⟩
  all_goals exact⟨E',s',rfl,hI',he⟩
 |loop c ih =>
  intro hL E s k r a hI h
  simp only[jJ]at h
  split at h
  ·rename_i i hi
   split at h
   ·rename_i g hg
    obtain⟨hp,hs⟩:=hL c(by simp[bC])i g hi hg
    obtain⟨e,s',h1,h2⟩:=hp s k r h
    refine Go.Code.wp_mono ?_(hs s s' e h2 A0 R w0 E a hp0 hI)
    rintro e' a' w'⟨rfl,E',hw,hI'⟩
    exact⟨E',s',hw,hI',h1⟩
   ·refine wp_loop_rounds N ?_
    have hLc:ny np P L c:=fun c' hc'=>hL c'(by simp[bC,hc'])
    have key:∀(n:Nat) {E:Env}{s:St}{a:Act},Inv A0 R w0 E s a→rounds(fun s k=>jJ P T D L Z N c s k)k n s=some r→Code.rounds P c(Post A0 R w0 k r)n a E.w:=by
     intro n
     induction n with
     |zero=>intro E s a hI h;simp[rounds]at h
     |succ n ihn =>
      intro E s a hI h
      simp only[rounds]at h
      rw[rounds_succ]
      refine Go.Code.wp_mono ?_(ih hLc hI h)
      rintro e a' w'⟨E',s',rfl,hI',he⟩
      cases e<;>simp only[Exit.then]at he ⊢
      case normal=>exact ihn hI' he
      all_goals exact⟨E',s',rfl,hI',he⟩
    exact key N hI h
  ·cases h
 |scope c ih =>
  intro hL E s k r a hI h
  simp only[jJ]at h
  refine wp_scope_straight(Go.Code.wp_mono ?_(ih(fun c' hc'=>hL c'(by simpa[bC]using hc'))hI h))
  rintro e a' w'⟨E',s',rfl,hI',he⟩
  cases e<;>simp only[Exit.noGoto]at he ⊢
  case goto l=>cases he
  all_goals exact⟨E',s',rfl,hI',he⟩
end
def Qk(P:Program)(T:Tab)(D:List Oper→St→SK→Option Out)(L:Nat→Option dN)(Z:Nat→Option mg)(N:Nat)(fn:Func)(args:List AV)(k:AV→Option Out):Option Out :=
 match fn.body with
 |some c=>jJ P T D L Z N c(start fn []args)(abO P fn k)
 |none=>none
def PI(P:Program)(T:Tab)(D:List Oper→St→SK→Option Out)(L:Nat→Option dN)(Z:Nat→Option mg)(N:Nat)(fn:Func)(args:List AV)(mem:List Row)(τ:List(Option Nat)):Option Out :=
 match fn.body with
 |some c=>jJ P T D L Z N c(start fn mem args)(akQ P fn τ)
 |none=>none
theorem pF {P : Program} {T : Tab} {D : List Oper → St → SK → Option Out} {L : Nat → Option dN} {Z : Nat → Option mg} (hZ : ∀ i h, Z i = some h → fZ 0 h) (hT : Az P T) (hD : DOk P D) (N : Nat) {f : Nat} {fn : Func} (hf : P.funcs[f]? = some fn) (hnm : (fn.name == "runtime.NumGoroutine") = false) {c : Code} (hb : fn.body = some c) (hL : yS P L c)
  {args:List AV}(hlen:Nat.ble args.length fn.ntmps=true) {r:AV}(h:Qk P T D L Z N fn args(fun v=>some(Out.of v))=some(Out.of r)):aj P f args r:=by
 unfold Qk at h
 rw[hb]at h
 simp only at h
 refine⟨⟨fn,hf,hnm,by rw[hb];rfl⟩,fun A w aZ hA hv hg=>?_⟩
 have hlen':args.length≤fn.ntmps:=Nat.le_of_ble_eq_true hlen
 refine calls_of_wp hf hb ?_
 have hI:Inv A(fun _=>False)⟨w,A,fun _=>none⟩⟨w,A,fun _=>none⟩(start fn []args) { tmps:=aZ++Array.replicate(fn.ntmps - aZ.size)undef,defers:=[] } :=
  ⟨rfl,rV hg hv hlen',⟨fun _ _ _ hb=>(by cases hb),hA,fun _ hb=>hb,fun _ _ _ hb=>(by cases hb),fun _ _ _ _ _ hb=>(by cases hb),nM.refl _ _,Env.le.refl _⟩⟩
 refine Go.Code.wp_mono ?_(NY(np:=0)hZ⟨fun _ _=>rfl,fun _ h=>h.elim,hA⟩hT hD N c hL hI h)
 rintro e a' w'⟨E',s',rfl,hI',he⟩
 cases e<;>simp only[abO]at he<;>first | (cases he;done) |skip
 all_goals
  split at he
  ·rename_i x hx
   simp only[Out.of,Option.some.injEq,Out.mk.injEq,true_and]at he
   subst he
   obtain⟨v,h1,h2⟩:=DX hI' hA hx
   exact⟨hI'.defers,v,h1,v,rfl,h2,hI'.wd.below.os,hI'.wd.below.tape,hI'.wd.below.output,hI'.wd.below.size,fun k hk=>hI'.wd.below.block k hk(fun e=>e)⟩
  ·cases he
theorem JZ {P : Program} {T : Tab} {D : List Oper → St → SK → Option Out} {L : Nat → Option dN} {Z : Nat → Option mg} (hT : Az P T) (hD : DOk P D) (N : Nat) {f : Nat} {fn : Func} (hf : P.funcs[f]? = some fn) (hnm : (fn.name == "runtime.NumGoroutine") = false) {c : Code} (hb : fn.body = some c)
  {args:List AV}{mem:List Row}(hZ:∀i h,Z i=some h→fZ mem.length h)(hL:ny mem.length P L c)(hlen:Nat.ble args.length fn.ntmps=true) {τ:List(Option Nat)}(zx:CF mem.length τ=true) {v:AV}{mem1:List Row}(h:PI P T D L Z N fn args mem τ=some⟨.normal,⟨[],mem1⟩,v⟩):cu P f args mem v mem1:=by
 unfold PI at h
 rw[hb]at h
 simp only at h
 refine⟨⟨fn,hf,hnm,by rw[hb];rfl⟩,fun R E aZ hp hW hg hv=>?_⟩
 have hlen':args.length≤fn.ntmps:=Nat.le_of_ble_eq_true hlen
 refine calls_of_wp hf hb ?_
 have hI:Inv E.A R E E(start fn mem args) { tmps:=aZ++Array.replicate(fn.ntmps - aZ.size)undef,defers:=[] }:=⟨rfl,rV hg hv hlen',hW⟩
 refine Go.Code.wp_mono ?_(NY hZ hp hT hD N c hL hI h)
 rintro e a' w'⟨E',s',rfl,hI',he⟩
 cases e<;>simp only[akQ]at he<;>first | (cases he;done) |skip
 all_goals
  obtain⟨u,E2,h1,h2,h3,h4⟩:=Km zx hp hI' he
  exact⟨hI'.defers,u,h1,u,E2,rfl,h2,h3,h4⟩
def Ib(k sz n:Nat)(el:Nat→List AV):AV→AV
 |.fJ k' sz' st len=>cond(Nat.beq k' k)(.sl sz n el)(.fJ k' sz' st len)
 |x=>x
def Un(k sz n:Nat):AV→Bool
 |.fJ k' sz' st len=>cond(Nat.beq k' k)(Nat.beq sz' sz&&(Nat.beq st 0&&Nat.beq len n))true
 |_=>true
def Ql(k sz n:Nat)(el:Nat→List AV):Row→Row
 |.c l=>.c(l.map(Ib k sz n el))
 |r=>r
def aaF(k sz n:Nat):Row→Bool
 |.c l=>l.all(Un k sz n)
 |_=>true
def wW(k:Nat):mg:=fun s MG=>match s.mem[k]? with
 |some(.a _ sz n el)=>cond(s.slots.all(fun q=>q.2.isEmpty&&Un k sz n q.1)&&s.mem.all(aaF k sz n))(MG⟨s.slots.map fun q=>(Ib k sz n el q.1,q.2),(s.mem.map(Ql k sz n el)).set k .dead⟩)none
 |_=>none
theorem Qm {k sz n:Nat}{el:Nat→List AV}{x:AV}(h:Un k sz n x=true):Ib k sz n el x=x∨(x=.fJ k sz 0 n∧Ib k sz n el x=.sl sz n el):=by
 cases x<;>try exact Or.inl rfl
 rename_i k' sz' st len
 cases hk:Nat.beq k' k
 ·left;simp only[Ib,hk,cond_false]
 ·right
  simp only[Un,hk,cond_true,Bool.and_eq_true]at h
  have e0:=Nat.eq_of_beq_eq_true hk
  have e1:=Nat.eq_of_beq_eq_true h.1
  have e2:=Nat.eq_of_beq_eq_true h.2.1
  have e3:=Nat.eq_of_beq_eq_true h.2.2
  subst e0 e1 e2 e3
  exact⟨rfl,by simp only[Ib,hk,cond_true]⟩
theorem Qn {k sz n:Nat}{el:Nat→List AV}:∀{l:List AV},l.all(Un k sz n)=true→aco k sz n el l(l.map(Ib k sz n el))
 | [],_=>trivial
 |x::xs,h=>by
  simp only[List.all_cons,Bool.and_eq_true]at h
  exact⟨Qm h.1,Qn h.2⟩
theorem jq(k:Nat):fZ 0(wW k):=fun s MG r h=>by
 unfold wW at h
 split at h
 ·rename_i e sz n el hk
  cases hb:(s.slots.all(fun q=>q.2.isEmpty&&Un k sz n q.1)&&s.mem.all(aaF k sz n))
  ·rw[hb]at h;cases h
  ·rw[hb]at h
   simp only[cond_true]at h
   simp only[Bool.and_eq_true]at hb
   refine⟨_,h,?_⟩
   have hkl:k<s.mem.length:=(List.getElem?_eq_some_iff.1 hk).1
   have Uo:∀t,(s.slots.getD t dflt).2=[]∧((s.slots.map fun q=>(Ib k sz n el q.1,q.2)).getD t dflt=s.slots.getD t dflt∨((s.slots.getD t dflt).1=.fJ k sz 0 n∧(s.slots.map fun q=>(Ib k sz n el q.1,q.2)).getD t dflt=(.sl sz n el,[]))):=fun t=>by
    simp only[List.getD_eq_getElem?_getD,List.getElem?_map]
    cases hq:s.slots[t]? with
    |none=>exact⟨rfl,Or.inl rfl⟩
    |some q =>
     have:=(List.all_eq_true.1 hb.1)q(List.mem_of_getElem? hq)
     simp only[Bool.and_eq_true]at this
     have hc:q.2=[]:=by simpa using this.1
     refine⟨hc,?_⟩
     simp only[Option.map_some,Option.getD_some]
     rcases Qm(el:=el)this.2 with h1 | ⟨h1,h2⟩
     ·left;rw[h1]
     ·right;exact⟨h1,by rw[h2,hc]⟩
   refine Uq(slots:=s.slots)(mem:=s.mem)hk(fun j row hj=>?_)(by simp)(fun t=>(Uo t).1)fun t=>(Uo t).2
   by_cases e1:j=k
   ·subst e1
    exact⟨.dead,by rw[List.getElem?_set_self(by simpa using hkl)],Or.inl⟨rfl,rfl⟩⟩
   ·refine⟨Ql k sz n el row,by rw[List.getElem?_set_ne(by omega),List.getElem?_map,hj];rfl,Or.inr⟨e1,?_⟩⟩
    have hrw:=(List.all_eq_true.1 hb.2)row(List.mem_of_getElem? hj)
    cases row with
    |c l=>exact Or.inr⟨l,_,rfl,rfl,Qn hrw⟩
    |a _ _ _ _=>exact Or.inl rfl
    |dead=>exact Or.inl rfl
    |z _ _ _ _=>exact Or.inl rfl
    |t _ _=>exact Or.inl rfl
    |i _ _ _=>exact Or.inl rfl
 ·cases h
def afM(np k:Nat):mg:=fun s MG=>match s.mem[k]? with
 |some(.a _ sz n el)=>cond((List.range np).all(aK s.mem)&&(s.slots.all(fun q=>q.2.isEmpty&&Un k sz n q.1)&&s.mem.all(aaF k sz n)))(MG⟨s.slots.map fun q=>(Ib k sz n el q.1,q.2),(s.mem.map(Ql k sz n el)).set k .dead⟩)none
 |_=>none
theorem afP(np k:Nat)(hnp:np≤k):fZ np(afM np k):=fun s MG r h=>by
 unfold afM at h
 split at h
 ·rename_i e sz n el hk
  cases hb:((List.range np).all(aK s.mem)&&(s.slots.all(fun q=>q.2.isEmpty&&Un k sz n q.1)&&s.mem.all(aaF k sz n)))
  ·rw[hb]at h;cases h
  ·rw[hb]at h
   simp only[cond_true]at h
   simp only[Bool.and_eq_true]at hb
   obtain⟨hlv,hb⟩:=hb
   refine⟨_,h,?_⟩
   have hkl:k<s.mem.length:=(List.getElem?_eq_some_iff.1 hk).1
   have Uo:∀t,(s.slots.getD t dflt).2=[]∧((s.slots.map fun q=>(Ib k sz n el q.1,q.2)).getD t dflt=s.slots.getD t dflt∨((s.slots.getD t dflt).1=.fJ k sz 0 n∧(s.slots.map fun q=>(Ib k sz n el q.1,q.2)).getD t dflt=(.sl sz n el,[]))):=fun t=>by
    simp only[List.getD_eq_getElem?_getD,List.getElem?_map]
    cases hq:s.slots[t]? with
    |none=>exact⟨rfl,Or.inl rfl⟩
    |some q =>
     have:=(List.all_eq_true.1 hb.1)q(List.mem_of_getElem? hq)
     simp only[Bool.and_eq_true]at this
     have hc:q.2=[]:=by simpa using this.1
     refine⟨hc,?_⟩
     simp only[Option.map_some,Option.getD_some]
     rcases Qm(el:=el)this.2 with h1 | ⟨h1,h2⟩
     ·left;rw[h1]
     ·right;exact⟨h1,by rw[h2,hc]⟩
   refine EH(slots:=s.slots)(mem:=s.mem)hk(fun j row hj=>?_)(by simp)(fun t=>(Uo t).1)(fun t=>(Uo t).2)hnp fun j hj=>List.all_eq_true.1 hlv j(List.mem_range.2 hj)
   by_cases e1:j=k
   ·subst e1
    exact⟨.dead,by rw[List.getElem?_set_self(by simpa using hkl)],Or.inl⟨rfl,rfl⟩⟩
   ·refine⟨Ql k sz n el row,by rw[List.getElem?_set_ne(by omega),List.getElem?_map,hj];rfl,Or.inr⟨e1,?_⟩⟩
    have hrw:=(List.all_eq_true.1 hb.2)row(List.mem_of_getElem? hj)
    cases row with
    |c l=>exact Or.inr⟨l,_,rfl,rfl,Qn hrw⟩
    |a _ _ _ _=>exact Or.inl rfl
    |dead=>exact Or.inl rfl
    |z _ _ _ _=>exact Or.inl rfl
    |t _ _=>exact Or.inl rfl
    |i _ _ _=>exact Or.inl rfl
 ·cases h
def iH(i:Nat)(h:mg):Nat→Option mg:=fun j=>cond(Nat.beq j i)(some h)none
theorem gK {np i:Nat}{h:mg}(hh:fZ np h):∀j g,iH i h j=some g→fZ np g:=fun j g hg=>by
 unfold iH at hg
 cases hb:Nat.beq j i
 ·rw[hb]at hg;cases hg
 ·rw[hb]at hg;cases hg;exact hh
def qX(P:Program)(l:List Entry)(ks:List aV)(ms:List fQ)(L:Nat→Option dN)(Z:Nat→Option mg)(fn:Func)(args:List AV)(k:AV→Option Out):Option Out:=Qk P(af9 l ks ms)(lZ P(af9 l ks ms))L Z 40 fn args k
end
end Go.Gv
