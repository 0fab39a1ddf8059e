/- Texts, one behind the other. -/
import Derived.Test.YtefphimaggjihaaGreatDoorC18
import Derived.Test.YtefphimaggjihaaGreatDoorC10
import Derived.Test.YtefphimaggjihaaGreatDoorC19
import Derived.Test.YtefphimaggjihaaGreatDoorC20
import Derived.Test.YtefphimaggjihaaGreatDoorC12
import Derived.Test.YtefphimaggjihaaGreatDoorC15
namespace Go.Gv
noncomputable def vI(keep:List Nat)(τ:List(Option Nat)):jZ:=fun e s=>match e with
 |.ret=>Uh keep τ .ret s
 |_=>none
theorem gQ(keep:List Nat)(τ:List(Option Nat)):X3(vI keep τ):=fun e s o h=>by
 unfold vI at h
 cases e<;>simp only at h<;>first | (cases h;done) |exact EB keep τ _ s o h
end Go.Gv
namespace Go.Proofs.YtefphimaggjihaaGreatDoor
open Go.Gv
def yA(b:Int):AV:=.x(.int .u8 b)
def sI(n:Nat)(g:Nat→Int):AV:=.sl 1 n fun i=>[iA(g i)]
def mJ(i:Int)(n:Nat):Bool:=decide(0≤i)&&decide(i<n)
theorem gy {i n:Nat}(h:i<n):mJ(i:Nat)n=true:=by unfold mJ;rw[lF,dec_lt h];rfl
def isId(o:Option Nat)(i:Nat):Bool:=match o with |some k=>Nat.beq k i |none=>false
theorem Qe {P:Program}{c:Code}{i:Nat}{g:dN}(m:Nat)(hlen:(bC c).length=m+1)(hno:((List.range m).all fun j=>!(isId(jA((bC c).getD(j+1) .skip))i))=true)(h:gI P((bC c).getD 0 .skip)g):yS P(gu i g)c :=
  kT (m+1)hlen fun j hj hid=>by
    cases j with
    |zero=>exact h
    |succ j =>
      rw[List.all_eq_true]at hno
      have:=hno j(List.mem_range.2(by omega))
      rw[hid]at this
      simp[isId]at this
theorem eZ {P:Program}{c:Code}{i:Nat}{g:dN}(j0 m:Nat)(hlen:(bC c).length=m)(hno:((List.range m).all fun j=>Nat.beq j j0||!(isId(jA((bC c).getD j .skip))i))=true)(h:gI P((bC c).getD j0 .skip)g):yS P(gu i g)c :=
 kT m hlen fun j hj hid=>by
  rw[List.all_eq_true]at hno
  have:=hno j(List.mem_range.2 hj)
  rw[hid]at this
  simp[isId]at this
  subst this
  exact h
theorem iG {P:Program}{c:Code}(i:Nat):yS P(gu i fun _ _=>none)c:=by
 intro c' _ i' g' _ hg
 unfold gu at hg
 cases hb:Nat.beq i' i
 ·rw[hb]at hg;cases hg
 ·rw[hb]at hg
  cases hg
  constructor
  ·intro s k r hr;cases hr
  ·intro s s' e' hk
   have:=hk fun e s=>some⟨e,s,.any⟩
   cases this
noncomputable def kS(P:Program)(f:Nat)(g:List AV→AV):aV:=⟨f,fun args k=>gate(aj P f args(g args))(k(g args))⟩
theorem aD {P:Program}{f:Nat}{g:List AV→AV}:tX P(kS P f g):=by
 constructor
 ·intro args k o ho
  simp only[kS]at ho ⊢
  obtain⟨hp,ho⟩:=gY ho
  exact⟨g args,ho,fun k'=>by rw[ah hp]⟩
 ·intro args v hv
  have h1:=hv fun x=>some(Out.of x)
  simp only[kS]at h1
  obtain⟨hp,h1⟩:=gY h1
  simp only[Option.some.injEq,Out.of,Out.mk.injEq,true_and]at h1
  subst h1
  exact Or.inl hp
theorem qz {l : List Entry} {ks : List aV} {ms : List fQ} {L : Nat → Option dN} (hl : ∀ e, e ∈ l → lg Tryz.prog e) (hks : ∀ e, e ∈ ks → tX Tryz.prog e) (hms : ∀ e, e ∈ ms → vZ Tryz.prog e) {f : Nat} {fn : Func} (hf : Tryz.prog.funcs[f]? = some fn) (hnm : (fn.name == "runtime.NumGoroutine") = false) (hb : fn.body = some (dG fn)) (hL : yS Tryz.prog L (dG fn))
  {args:List AV}(hlen:Nat.ble args.length fn.ntmps=true) {r:AV}(h:evM Tryz.prog l ks ms L fn args ret=some(Out.of r)):aj Tryz.prog f args r:=Uj hl hks hms(by kernel_rfl)hf hnm hb hL hlen h
theorem bO {P:Program}:∀e,e∈([]:List fQ)→vZ P e:=fun _ h=>by cases h
theorem jl {P:Program}{e:fQ}{l:List fQ}(h:vZ P e)(hl:∀e,e∈l→vZ P e):∀e',e'∈e::l→vZ P e':=fun e' he=>by
 rcases List.mem_cons.1 he with rfl |he
 ·exact h
 ·exact hl e' he
theorem abA(b:Bool)(a c:Int):dn b [iA a] [iA c]=[iA(cond b a c)]:=by unfold iA;simp only[dn,kZ,decide_true,cond_true]
theorem Je {a b:Nat}(h:a<b):Nat.blt a b=true:=Nat.ble_eq_true_of_le h
theorem uH {q m:Nat}(h:Nat.blt q m=false):m≤q:=Nat.le_of_not_lt fun hc=>by
 rw[Je hc]at h;cases h
theorem UC(Q:Nat→Prop):∀m,Q m→∃K,K≤m∧Q K∧∀k,k<K→¬Q k:=by
 intro m
 induction m using Nat.strongRecOn with
 |ind m ih =>
  intro h
  by_cases hc:∃k,k<m∧Q k
  ·obtain⟨k,hk,hq⟩:=hc
   obtain⟨K,h1,h2,h3⟩:=ih k hk hq
   exact⟨K,by omega,h2,h3⟩
  ·exact⟨m,Nat.le_refl _,h,fun k hk hq=>hc⟨k,hk,hq⟩⟩
theorem qL(p:Nat→Bool)(n:Nat):(∀i,i<n→p i=true)∨∃K,K<n∧p K=false∧∀i,i<K→p i=true:=by
 by_cases h:∃i,i<n∧p i=false
 ·obtain⟨i,hi,hp⟩:=h
  obtain⟨K,h1,h2,h3⟩:=UC(fun k=>p k=false)i hp
  exact Or.inr⟨K,by omega,h2,fun k hk=>by simpa using h3 k hk⟩
 ·exact Or.inl fun i hi=>by
   cases hp:p i
   ·exact absurd⟨i,hi,hp⟩h
   ·rfl
theorem aj.ad7 {P:Program}{f:Nat}{args:List AV}{r r':AV}(h:aj P f args r)(hr:∀(E:Env)(v:Value),rel E r v→rel E r' v):aj P f args r' :=
 ⟨h.1,fun A w aZ hA ha hg=>(h.2 A w aZ hA ha hg).mono fun _ _⟨v,h1,h2,h3⟩=>⟨v,h1,hr _ _ h2,h3⟩⟩
theorem aj.ajX {P:Program}{f:Nat}{args args':List AV}{r:AV}(h:aj P f args r)(ha:∀(E:Env)(vs:List Value),dB E args' vs→dB E args vs):aj P f args' r :=
 ⟨h.1,fun A w aZ hA h2 hg=>h.2 A w aZ hA(ha _ _ h2)hg⟩
theorem El {E:Env}{sz n:Nat}{el tJ:Nat→List AV}{v:Value}(h:rel E(.sl sz n el)v)(he:∀i,i<n→tJ i=el i):rel E(.sl sz n tJ)v:=by
 have h:bN _ _ _:=h
 show bN _ _ _
 rw[bN]at h ⊢
 obtain⟨a,c,h1,h2,h3⟩:=h
 refine⟨a,c,h1,h2,?_⟩
 rcases h3 with h3 | ⟨b,o,cs,e,fz,h4,h5,h6,h7⟩
 ·exact Or.inl h3
 ·exact Or.inr⟨b,o,cs,e,fz,h4,h5,h6,fun i hi=>by rw[he i hi];exact h7 i hi⟩
def Nz(c sz:Nat):Bool:=(c==c)&&Nat.ble((c+1)*sz)140737488355328
theorem qD {c sz:Nat}(h:(c+1)*sz≤140737488355328):Nz c sz=true:=by unfold Nz;rw[BEq.rfl,Nat.ble_eq_true_of_le h];rfl
theorem awm {n:Int}(h0:0≤n)(h1:n≤255):IntKind.u8.wrap n=n:=by
 have e:IntKind.u8.wrap n=n % 256:=by
  unfold IntKind.wrap
  simp only[IntKind.bits,IntKind.signed,Bool.false_and]
  rfl
 rw[e]
 omega
theorem bJ {P:Program}:∀e,e∈([]:List bH)→vC P e:=fun _ h=>by cases h
theorem bS {P:Program}:∀e,e∈([]:List lY)→Xi P e:=fun _ h=>by cases h
theorem aC {P:Program}{e:bH}{l:List bH}(h:vC P e)(hl:∀e,e∈l→vC P e):∀e',e'∈e::l→vC P e':=fun e' he=>by
 rcases List.mem_cons.1 he with rfl |he
 ·exact h
 ·exact hl e' he
section
variable {l:List Entry}{ks:List aV}{ms:List fQ}{ws:List bH}{rs:List lY}{L:Nat→Option dN}(hl:∀e,e∈l→lg Tryz.prog e)(hks:∀e,e∈ks→tX Tryz.prog e)(hms:∀e,e∈ms→vZ Tryz.prog e)(hws:∀e,e∈ws→vC Tryz.prog e)(hrs:∀e,e∈rs→Xi Tryz.prog e)
include hl hks hms hws hrs
theorem agD {f : Nat} {fn : Func} (hf : Tryz.prog.funcs[f]? = some fn) (hnm : (fn.name == "runtime.NumGoroutine") = false) (hb : fn.body = some (dG fn)) (hL : yS Tryz.prog L (dG fn))
  {args:List AV}(hlen:Nat.ble args.length fn.ntmps=true) {r:AV}(h:evW Tryz.prog l ks ms ws rs L fn args ret=some(Out.of r)):aj Tryz.prog f args r :=
 xB(gL hl hks hms hws hrs)(iJ(gL hl hks hms hws hrs)(by kernel_rfl))40 hf hnm hb hL hlen h
theorem bM {f : Nat} {fn : Func} (hf : Tryz.prog.funcs[f]? = some fn) (hnm : (fn.name == "runtime.NumGoroutine") = false) (hb : fn.body = some (dG fn))
  {args:List AV}{mem:List Row}(hL:ny mem.length Tryz.prog L(dG fn))(hlen:Nat.ble args.length fn.ntmps=true) {τ:List(Option Nat)}(zx:CF mem.length τ=true) {v:AV}{mem1:List Row}(h:eu Tryz.prog l ks ms ws rs L fn args mem τ=fD v mem1):cu Tryz.prog f args mem v mem1 :=
 BR(gL hl hks hms hws hrs)(iJ(gL hl hks hms hws hrs)(by kernel_rfl))40 hf hnm hb hL hlen zx h
end
end Go.Proofs.YtefphimaggjihaaGreatDoor
namespace Go.Gv
open Go.RowKit Go.Ev
def I4(row row':Row):Prop:=row'=row∨(∃e sz n el tJ,row=.a e sz n el∧row'=.a e sz n tJ∧∀i,i<n→(tJ i).length=(el i).length∧∀(E:Env)(cs:List Value),pre E(el i)cs→pre E(tJ i)cs)∨∃l l',row=.c l∧row'=.c l'∧∀(E:Env)(cs:List Value),pre E l cs→pre E l' cs
def sM:List Row→List Row→Prop
 | [],[]=>True
 |r::rs,r'::rs'=>I4 r r'∧sM rs rs'
 |_,_=>False
theorem sM.get:∀{rs rs':List Row},sM rs rs'→∀k:Nat,(rs[k]?=none∧rs'[k]?=none)∨∃r r',rs[k]?=some r∧rs'[k]?=some r'∧I4 r r'
 | [],[],_,k=>Or.inl⟨by simp,by simp⟩
 |r::rs,r'::rs',h,k=>by
  cases k with
  |zero=>exact Or.inr⟨r,r',rfl,rfl,h.1⟩
  |succ k=>simpa using sM.get h.2 k
 | [],_::_,h,_=>h.elim
 |_::_,[],h,_=>h.elim
theorem fP {np:Nat}{sl:List(AV × Chain)}{mem mem':List Row}(h:sM mem mem'):iV np⟨sl,mem⟩⟨sl,mem'⟩:=by
 intro A0 R w0 E a hp0 hI
 have lives:∀k,aK mem' k=aK mem k:=fun k=>by
  unfold aK
  rcases h.get k with⟨h1,h2⟩ | ⟨r,r',h1,h2,h3⟩
  ·rw[h1,h2]
  ·rw[h1,h2]
   rcases h3 with rfl | ⟨e,sz,n,el,tJ,rfl,rfl,_⟩ | ⟨l,l',rfl,rfl,_⟩<;>rfl
 refine⟨E,rfl,hI.defers,hI.frame,⟨fun k b c hb=>?_,hI.wd.small,hI.wd.old,fun k b c hb hl=>hI.wd.own k b c hb(by rw[←lives];exact hl),fun k k' b c c' hb hb' hl hl'=>hI.wd.one k k' b c c' hb hb'(by rw[←lives];exact hl)(by rw[←lives];exact hl'),hI.wd.below,hI.wd.Dj⟩⟩
 obtain⟨row,h1,h2⟩:=hI.wd.rows k b c hb
 rcases h.get k with⟨g1,_⟩ | ⟨r,r',g1,g2,g3⟩
 ·have:mem[k]?=some row:=h1
  rw[g1]at this;cases this
 ·have:mem[k]?=some row:=h1
  rw[g1]at this
  cases this
  refine⟨r',g2,?_⟩
  rcases g3 with rfl | ⟨e,sz,n,el,tJ,rfl,rfl,g4⟩ | ⟨l,l',rfl,rfl,g4⟩
  ·exact h2
  ·obtain⟨cs,k1,k2,k3,k4,k5,k6⟩:=h2
   exact⟨cs,k1,k2,k3,k4,k5,fun i hi=>⟨(g4 i hi).1.trans(k6 i hi).1,(g4 i hi).2 _ _(k6 i hi).2⟩⟩
  ·obtain⟨cs,e,k1,k2⟩:=h2
   exact⟨cs,e,k1,g4 _ _ k2⟩
noncomputable section
theorem NR {l:List Nat}{k:Nat}(h:oK l k=none):k ∉ l:=fun hk=>by
 unfold oK at h
 rw[List.findIdx?_eq_none_iff]at h
 have:=h k hk
 simp at this
def CV(l:List Nat)(n:Nat)(i:Nat):Option Nat:=match l[i]? with
 |some k=>some k
 |none=>some(n+(i - l.length))
structure aBD(l:List Nat)(mem mem1 mem':List Row):Prop where
 other:∀k,k ∉ l→k<mem.length→mem'[k]?=mem[k]?
 mine:∀(i k:Nat)(r:Row),l[i]?=some k→mem1[i]?=some r→mem'[k]?=some(iX(CV l mem.length)r)
 fresh:∀(i:Nat)(r:Row),l.length≤i→mem1[i]?=some r→mem'[mem.length+(i - l.length)]?=some(iX(CV l mem.length)r)
theorem xM {P:Program}{f:Nat}{args af5:List AV}{mem CW mem1 mem':List Row}{v:AV}(h:cu P f af5 CW v mem1)(l:List Nat)(hl:l.length=CW.length)(hnd:nodupB l=true)
  (hargs:af5=gP(oK l)args)(hmem:∀(i k:Nat),l[i]?=some k→∃row,mem[k]?=some row∧row.live=true∧CW[i]?=some(iX(oK l)row))(hF:aBD l mem mem1 mem'):bP P f args mem(jw(CV l mem.length)v)mem':=by
 refine⟨h.1,fun A0 R w0 E aZ hW hgl hr=>?_⟩
 have dom:∀k p,E.O k=some p→k<mem.length:=fun k p hp=>by
  obtain⟨row,h1,_⟩:=hW.rows k p.1 p.2 hp
  exact(List.getElem?_eq_some_iff.1 h1).1
 have lives:∀k,k∈l→aK mem k=true:=fun k hk=>by
  obtain⟨i,hi⟩:=List.mem_iff_getElem?.1 hk
  obtain⟨row,g1,g2,_⟩:=hmem i k hi
  unfold aK
  rw[g1]
  exact g2
 let O1:Nat→Option(Nat × Nat × Nat):=fun i=>(l[i]?).bind E.O
 let E1:Env:={ E with O:=O1 }
 have hO1:∀i b c,E1.O i=some(b,c)→∃k,l[i]?=some k∧E.O k=some(b,c):=fun i b c hi=>by
  have hi:(l[i]?).bind E.O=some(b,c):=hi
  cases hx:l[i]? with
  |none=>rw[hx]at hi;cases hi
  |some k=>rw[hx]at hi;exact⟨k,rfl,hi⟩
 have aqs:∀(i k:Nat)(p:Nat × Nat × Nat),l[i]?=some k→E.O k=some p→O1 i=some p:=fun i k p hi hp=>by
  show(l[i]?).bind E.O=some p
  rw[hi];exact hp
 have hσ:∀k i p,oK l k=some i→E.O k=some p→O1 i=some p:=fun k i p hi hp=>aqs i k p(wF hi)hp
 let R1:Nat→Prop:=fun b=>∃k c,k∈l∧E.O k=some(b,c)
 have hW1:Wd E.A R1 E1 E1 CW:=by
  refine⟨fun i b c hi=>?_,hW.small,fun _ h=>h,fun i b c hi _=>?_,fun i j b c c' hi hj _ _=>?_,nM.refl _ _,Env.le.refl _⟩
  ·obtain⟨k,h1,h2⟩:=hO1 i b c hi
   obtain⟨row,g1,_,g2⟩:=hmem i k h1
   obtain⟨row',g3,g4⟩:=hW.rows k b c h2
   rw[g1]at g3
   cases g3
   exact⟨_,g2,KI hσ g4⟩
  ·obtain⟨k,h1,h2⟩:=hO1 i b c hi
   have hm:=List.mem_of_getElem? h1
   exact⟨(hW.own k b c h2(lives k hm)).1,Or.inl⟨k,c,hm,h2⟩⟩
  ·obtain⟨k,h1,h2⟩:=hO1 i b c hi
   obtain⟨k',h3,h4⟩:=hO1 j b c' hj
   have:=hW.one k k' b c c' h2 h4(lives k(List.mem_of_getElem? h1))(lives k'(List.mem_of_getElem? h3))
   subst this
   exact CX hnd i j k h1 h3
 have av8:JO CW.length E1.A R1 E1:=by
  refine⟨fun i hi=>?_,fun b hb=>?_,hW.small⟩
  ·show(l[i]?).bind E.O=none
   rw[List.getElem?_eq_none(by omega)];rfl
  ·obtain⟨k,c,hk,hO⟩:=hb
   obtain⟨i,hi⟩:=List.mem_iff_getElem?.1 hk
   exact⟨i,c,by have:=(List.getElem?_eq_some_iff.1 hi).1;omega,aqs i k _ hi hO⟩
 have hr1:dB E1 af5 aZ.toList:=by
  rw[hargs]
  exact oW args hσ _ hr
 refine(h.2 R1 E1 aZ av8 hW1(Pt hgl _)hr1).mono ?_
 rintro e w'⟨u,E',rfl,rfl,hW2,hrel⟩
 have av9:∀i p,E'.O i=some p→∃r,mem1[i]?=some r:=fun i p hp=>by
  obtain⟨row,h1,_⟩:=hW2.rows i p.1 p.2 hp
  exact⟨row,h1⟩
 let O2:Nat→Option(Nat × Nat × Nat):=fun k=>match oK l k with
  |some i=>E'.O i
  |none=>if k<mem.length then E.O k else E'.O(l.length+(k - mem.length))
 let E2:Env:={ E' with O:=O2 }
 have aBE:∀(i k:Nat),l[i]?=some k→oK l k=some i:=fun i k hi=>by
  cases hx:oK l k with
  |none=>exact absurd(List.mem_of_getElem? hi)(NR hx)
  |some j=>rw[CX hnd i j k hi(wF hx)]
 have hO2:∀k p,E.O k=some p→E2.O k=some p:=fun k p hp=>by
  show(match oK l k with
   |some i=>E'.O i
   |none=>if k<mem.length then E.O k else E'.O(l.length+(k - mem.length)))=some p
  cases hx:oK l k with
  |none=>rw[if_pos(dom k p hp)];exact hp
  |some i=>exact hW2.Dj.own i p(aqs i k p(wF hx)hp)
 have af6:∀k p,E2.O k=some p→(k ∉ l∧k<mem.length∧E.O k=some p)∨∃i r,E'.O i=some p∧mem1[i]?=some r∧mem'[k]?=some(iX(CV l mem.length)r)∧CV l mem.length i=some k:=fun k p hp=>by
  have hp:(match oK l k with
   |some i=>E'.O i
   |none=>if k<mem.length then E.O k else E'.O(l.length+(k - mem.length)))=some p:=hp
  cases hx:oK l k with
  |some i =>
   rw[hx]at hp
   obtain⟨r,hr⟩:=av9 i p hp
   have hi:=wF hx
   exact Or.inr⟨i,r,hp,hr,hF.mine i k r hi hr,by unfold CV;rw[hi]⟩
  |none =>
   rw[hx]at hp
   by_cases hk:k<mem.length
   ·simp only[if_pos hk]at hp
    exact Or.inl⟨NR hx,hk,hp⟩
   ·simp only[if_neg hk]at hp
    obtain⟨r,hr⟩:=av9 _ p hp
    have e:mem.length+(l.length+(k - mem.length) - l.length)=k:=by omega
    have:=hF.fresh _ r(Nat.le_add_right _ _)hr
    rw[e]at this
    exact Or.inr⟨_,r,hp,hr,this,by unfold CV;rw[List.getElem?_eq_none(by omega)];simp only;rw[e]⟩
 have hback:∀i k' p,CV l mem.length i=some k'→E'.O i=some p→O2 k'=some p:=fun i k' p hi hp=>by
  unfold CV at hi
  cases hx:l[i]? with
  |some k =>
   rw[hx]at hi
   simp only[Option.some.injEq]at hi
   subst hi
   show(match oK l k with
    |some i=>E'.O i
    |none=>if k<mem.length then E.O k else E'.O(l.length+(k - mem.length)))=some p
   rw[aBE i k hx]
   exact hp
  |none =>
   rw[hx]at hi
   simp only[Option.some.injEq]at hi
   have hil:=List.getElem?_eq_none_iff.1 hx
   have hk:oK l k'=none:=by
    cases hy:oK l k' with
    |none=>rfl
    |some j =>
     obtain⟨row,g1,_⟩:=hmem j k'(wF hy)
     have:=(List.getElem?_eq_some_iff.1 g1).1
     omega
   show(match oK l k' with
    |some i=>E'.O i
    |none=>if k'<mem.length then E.O k' else E'.O(l.length+(k' - mem.length)))=some p
   rw[hk]
   simp only
   rw[if_neg(by omega),show l.length+(k' - mem.length)=i by omega]
   exact hp
 have hle:E.le E2:=⟨hW2.Dj.keep,hO2⟩
 have af7:∀(i k:Nat)(r:Row),mem1[i]?=some r→mem'[k]?=some(iX(CV l mem.length)r)→aK mem' k=true→aK mem1 i=true:=fun i k r h1 h2 h3=>by
  unfold aK at h3 ⊢
  rw[h2]at h3
  rw[h1]
  simp only[Ug]at h3
  exact h3
 have af8:∀k,k ∉ l→k<mem.length→aK mem' k=true→aK mem k=true:=fun k h1 h2 h3=>by
  unfold aK at h3 ⊢
  rw[hF.other k h1 h2]at h3
  exact h3
 have cross:∀(k i:Nat)(b:Nat)(c c':Nat × Nat),k ∉ l→E.O k=some(b,c)→aK mem k=true→E'.O i=some(b,c')→aK mem1 i=true→False:=fun k i b c c' hk hb hlk ho hl1=>by
  rcases(hW2.own i b c' ho hl1).2 with⟨k',c2,hk',hb'⟩ |g2
  ·have:=hW.one k k' b c c2 hb hb' hlk(lives k' hk')
   subst this
   exact hk hk'
  ·have:=hW.small b(hW.own k b c hb hlk).1
   have g2:E.w.heap.size≤b:=g2
   omega
 refine⟨u,E2,rfl,rfl,hle,⟨?_,hW2.small,fun b hb=>hW2.old b(hW.old b hb),?_,?_,?_,hW.Dj.trans hle⟩,vR v hback u hrel⟩
 ·intro k b c hb
  rcases af6 k _ hb with⟨h1,h2,h3⟩ | ⟨i,r,h1,h2,h3,_⟩
  ·obtain⟨row,g3,g4⟩:=hW.rows k b c h3
   refine⟨row,by rw[hF.other k h1 h2];exact g3,pX hle g4 fun hlv=>?_⟩
   have hlk:aK mem k=true:=by unfold aK;rw[g3];exact hlv
   refine hW2.below.block b(hW.small b(hW.own k b c h3 hlk).1) ?_
   rintro⟨k',c',hk',hb'⟩
   have:=hW.one k k' b c c' h3 hb' hlk(lives k' hk')
   subst this
   exact h1 hk'
  ·obtain⟨row',g3,g4⟩:=hW2.rows i b c h1
   have:row'=r:=by
    have g3:mem1[i]?=some row':=g3
    rw[h2]at g3
    cases g3
    rfl
   subst this
   exact⟨_,h3,KI hback g4⟩
 ·intro k b c hb hlv
  rcases af6 k _ hb with⟨h1,h2,h3⟩ | ⟨i,r,h1,h2,h3,_⟩
  ·obtain⟨g1,g2⟩:=hW.own k b c h3(af8 k h1 h2 hlv)
   exact⟨hW2.old b g1,g2⟩
  ·obtain⟨g1,g2⟩:=hW2.own i b c h1(af7 i k r h2 h3 hlv)
   refine⟨g1,?_⟩
   rcases g2 with⟨k',c',hk',hb'⟩ |g2
   ·exact(hW.own k' b c' hb'(lives k' hk')).2
   ·exact Or.inr(Nat.le_trans hW.below.size g2)
 ·intro k k' b c c' hb hb' hlv akO
  rcases af6 k _ hb with⟨h1,h2,h3⟩ | ⟨i,r,h1,h2,h3,h4⟩
  ·rcases af6 k' _ hb' with⟨g1,g2,g3⟩ | ⟨i',r',g1,g2,g3,_⟩
   ·exact hW.one k k' b c c' h3 g3(af8 k h1 h2 hlv)(af8 k' g1 g2 akO)
   ·exact(cross k i' b c c' h1 h3(af8 k h1 h2 hlv)g1(af7 i' k' r' g2 g3 akO)).elim
  ·rcases af6 k' _ hb' with⟨g1,g2,g3⟩ | ⟨i',r',g1,g2,g3,g4⟩
   ·exact(cross k' i b c' c g1 g3(af8 k' g1 g2 akO)h1(af7 i k r h2 h3 hlv)).elim
   ·have:=hW2.one i i' b c c' h1 g1(af7 i k r h2 h3 hlv)(af7 i' k' r' g2 g3 akO)
    subst this
    rw[h4]at g4
    cases g4
    rfl
 ·refine⟨hW2.below.os.trans hW.below.os,hW2.below.tape.trans hW.below.tape,hW2.below.output.trans hW.below.output,Nat.le_trans hW.below.size hW2.below.size,fun b hb hn=>?_⟩
  refine(hW2.below.block b(Nat.lt_of_lt_of_le hb hW.below.size) ?_).trans(hW.below.block b hb hn)
  rintro⟨k,c,hk,hk2⟩
  rcases(hW.own k b c hk2(lives k hk)).2 with h |h
  ·exact hn h
  ·omega
end
noncomputable section
def wQ(P:Program)(f:Nat)(g:List AV→List Row→AV)(m:List AV→List Row→List Row):bH:=⟨f,fun args mem=>some(iY(bP P f args mem(g args mem)(m args mem)),g args mem,m args mem)⟩
theorem aX {P:Program}{f:Nat}{g:List AV→List Row→AV}{m:List AV→List Row→List Row}:vC P(wQ P f g m):=fun args mem v mem1 h=>by
 have h:some(iY(bP P f args mem(g args mem)(m args mem)),g args mem,m args mem)=some(true,v,mem1):=h
 simp only[Option.some.injEq,Prod.mk.injEq]at h
 obtain⟨h1,rfl,rfl⟩:=h
 exact aeN h1
end
end Go.Gv
