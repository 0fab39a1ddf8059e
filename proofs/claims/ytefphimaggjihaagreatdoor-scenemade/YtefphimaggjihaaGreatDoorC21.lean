/- Texts, one behind the other. -/
import Derived.Test.YtefphimaggjihaaGreatDoorC18
import Derived.Test.YtefphimaggjihaaGreatDoorC10
import Derived.Test.YtefphimaggjihaaGreatDoorC19
import Derived.Test.YtefphimaggjihaaGreatDoorC20
import Derived.Test.YtefphimaggjihaaGreatDoorC12
import Derived.Test.YtefphimaggjihaaGreatDoorC15
open Go.Proofs.Tryz renaming prog->bW
open List renaming all_eq_true->apB,getElem?_eq_none->ayE,getElem?_eq_some_iff->aj8,mem_cons->azV,mem_iff_getElem?->aAn,mem_of_getElem?->ayK,mem_range->ayA,range->av2
open Nat renaming beq->ax0,ble->aqE,ble_eq_true_of_le->ah4,le_trans->apL
open Option.some renaming injEq->jN
open Or renaming inl->ER,inr->aaH
namespace Go.Gv
noncomputable def vD(keep:List Nat)(τ:List (Option Nat)):jZ:=λ e s=>match e with
 |.ret=>Tp keep τ .ret s
 |_=>none
theorem gQ(keep:List Nat)(τ:List (Option Nat)):Xh (vD keep τ):=λ e s o h=>by
 unfold vD at h;cases e<;>simp only at h<;>first | (cases h;done) |exact Em keep τ _ s o h
end Go.Gv
namespace Go.Proofs.YtefphimaggjihaaGreatDoor
open Go.Gv
def yA(b:Int):AV:=.x (.int .u8 b)
def sI(n:Nat)(g:Nat->Int):AV:=.sl 1 n λ i=>[iA (g i)]
def mI(i:Int)(n:Nat):Bool:=decide (0<=i)&&decide (i<n)
theorem gy{i n:Nat}(h:i<n):mI (i:Nat) n=true:=by unfold mI;rw[lF,dec_lt h];rfl
def isId(o:Option Nat)(i:Nat):Bool:=match o with |some k=>ax0 k i |none=>false
theorem Pt{P:Program}{c:Code}{i:Nat}{g:dN}(m:Nat)(hlen:(bC c).length=m+1)(hno:((av2 m).all λ j=>!(isId (jA ((bC c).getD (j+1) .skip)) i))=true)(h:gI P ((bC c).getD 0 .skip) g):yN P (gu i g) c :=
  kT (m+1) hlen λ j hj hid=>by
    cases j with
    |zero=>exact h
    |succ j =>
      rw[apB]at hno;have:=hno j (ayA.2 (by omega));rw[hid]at this;simp[isId]at this
theorem eZ{P:Program}{c:Code}{i:Nat}{g:dN}(j0 m:Nat)(hlen:(bC c).length=m)(hno:((av2 m).all λ j=>ax0 j j0||!(isId (jA ((bC c).getD j .skip)) i))=true)(h:gI P ((bC c).getD j0 .skip) g):yN P (gu i g) c :=
 kT m hlen λ j hj hid=>by
  rw[apB]at hno;have:=hno j (ayA.2 hj);rw[hid]at this;simp[isId]at this;subst this;exact h
theorem iG{P:Program}{c:Code}(i:Nat):yN P (gu i λ _ _=>none) c:=by
 intro c' _ i' g' _ hg;unfold gu at hg;cases hb:ax0 i' i
 .rw[hb]at hg;cases hg
 .rw[hb]at hg
  cases hg;constructor
  .intro s k r hr;cases hr
  .intro s s' e' hk
   have:=hk λ e s=>some ⟨e,s,.any⟩;cases this
noncomputable def kS(P:Program)(f:Nat)(g:List AV->AV):aV:=⟨f,λ args k=>gate (aj P f args (g args)) (k (g args))⟩
theorem aD{P:Program}{f:Nat}{g:List AV->AV}:tO P (kS P f g):=by
 constructor
 .intro args k o ho
  simp only[kS]at ho ⊢;obtain⟨hp,ho⟩:=gY ho;exact⟨g args,ho,λ k'=>by rw[ah hp]⟩
 .intro args v hv
  have h1:=hv λ x=>some (Out.of x);simp only[kS]at h1;obtain⟨hp,h1⟩:=gY h1;simp only[jN,Out.of,Out.mk.injEq,true_and]at h1;subst h1;exact ER hp
theorem qw {l : List Entry} {ks : List aV} {ms : List fQ} {L : Nat -> Option dN} (hl : ∀ e, e ∈ l -> lg bW e) (hks : ∀ e, e ∈ ks -> tO bW e) (hms : ∀ e, e ∈ ms -> vU bW e) {f : Nat} {fn : Func} (hf : bW.funcs[f]? = some fn) (hnm : (fn.name == "runtime.NumGoroutine") = false) (hb : fn.body = some (dG fn)) (hL : yN bW L (dG fn))
  {args:List AV} (hlen:aqE args.length fn.ntmps=true) {r:AV} (h:evM bW l ks ms L fn args ret=some (Out.of r)):aj bW f args r:=Tt hl hks hms (by kernel_rfl) hf hnm hb hL hlen h
theorem bO{P:Program}:∀e,e∈([]:List fQ)->vU P e:=λ _ h=>by cases h
theorem jl{P:Program}{e:fQ}{l:List fQ}(h:vU P e)(hl:∀e,e∈l->vU P e):∀e',e'∈e::l->vU P e':=λ e' he=>by
 rcases azV.1 he with rfl |he
 .exact h
 .exact hl e' he
theorem aaI(b:Bool)(a c:Int):dn b [iA a] [iA c]=[iA (cond b a c)]:=by unfold iA;simp only[dn,kZ,decide_true,cond_true]
theorem IQ{a b:Nat}(h:a<b):Nat.blt a b=true:=ah4 h
theorem uw{q m:Nat}(h:Nat.blt q m=false):m<=q:=Nat.le_of_not_lt λ hc=>by
 rw[IQ hc]at h;cases h
theorem TR(Q:Nat->Prop):∀m,Q m->∃K,K<=m/\Q K/\∀k,k<K->¬Q k:=by
 intro m
 induction m using Nat.strongRecOn with
 |ind m ih =>
  intro h;by_cases hc:∃k,k<m/\Q k
  .obtain⟨k,hk,hq⟩:=hc
   obtain⟨K,h1,h2,h3⟩:=ih k hk hq;exact⟨K,by omega,h2,h3⟩
  .exact⟨m,Nat.le_refl _,h,λ k hk hq=>hc ⟨k,hk,hq⟩⟩
theorem qI(p:Nat->Bool)(n:Nat):(∀i,i<n->p i=true)\/∃K,K<n/\p K=false/\∀i,i<K->p i=true:=by
 by_cases h:∃i,i<n/\p i=false
 .obtain⟨i,hi,hp⟩:=h
  obtain⟨K,h1,h2,h3⟩:=TR (λ k=>p k=false) i hp;exact aaH ⟨K,by omega,h2,λ k hk=>by simpa using h3 k hk⟩
 .exact ER λ i hi=>by
   cases hp:p i
   .exact absurd ⟨i,hi,hp⟩ h
   .rfl
theorem aj.ade{P:Program}{f:Nat}{args:List AV}{r r':AV}(h:aj P f args r)(hr:∀(E:Env) (v:Value),rel E r v->rel E r' v):aj P f args r' :=
 ⟨h.1,λ A w aZ hA ha hg=>(h.2 A w aZ hA ha hg).mono λ _ _ ⟨v,h1,h2,h3⟩=>⟨v,h1,hr _ _ h2,h3⟩⟩
theorem aj.aiB{P:Program}{f:Nat}{args args':List AV}{r:AV}(h:aj P f args r)(ha:∀(E:Env) (vs:List Value),dB E args' vs->dB E args vs):aj P f args' r :=
 ⟨h.1,λ A w aZ hA h2 hg=>h.2 A w aZ hA (ha _ _ h2) hg⟩
theorem D8{E:Env}{sz n:Nat}{el sZ:Nat->List AV}{v:Value}(h:rel E (.sl sz n el) v)(he:∀i,i<n->sZ i=el i):rel E (.sl sz n sZ) v:=by
 have h:bN _ _ _:=h;show bN _ _ _;rw[bN]at h ⊢;obtain⟨a,c,h1,h2,h3⟩:=h;refine⟨a,c,h1,h2,?_⟩;rcases h3 with h3 | ⟨b,o,cs,e,fz,h4,h5,h6,h7⟩
 .exact ER h3
 .exact aaH ⟨b,o,cs,e,fz,h4,h5,h6,λ i hi=>by rw[he i hi];exact h7 i hi⟩
def M4(c sz:Nat):Bool:=(c==c)&&aqE ((c+1)*sz) 140737488355328
theorem qz{c sz:Nat}(h:(c+1)*sz<=140737488355328):M4 c sz=true:=by unfold M4;rw[BEq.rfl,ah4 h];rfl
theorem atW{n:Int}(h0:0<=n)(h1:n<=255):IntKind.u8.wrap n=n:=by
 have e:IntKind.u8.wrap n=n % 256:=by
  unfold IntKind.wrap;simp only[IntKind.bits,IntKind.signed,Bool.false_and];rfl
 rw[e];omega
theorem bJ{P:Program}:∀e,e∈([]:List bH)->vk P e:=λ _ h=>by cases h
theorem bS{P:Program}:∀e,e∈([]:List lY)->Wp P e:=λ _ h=>by cases h
theorem aC{P:Program}{e:bH}{l:List bH}(h:vk P e)(hl:∀e,e∈l->vk P e):∀e',e'∈e::l->vk P e':=λ e' he=>by
 rcases azV.1 he with rfl |he
 .exact h
 .exact hl e' he
section
variable{l:List Entry}{ks:List aV}{ms:List fQ}{ws:List bH}{rs:List lY}{L:Nat->Option dN}(hl:∀e,e∈l->lg bW e)(hks:∀e,e∈ks->tO bW e)(hms:∀e,e∈ms->vU bW e)(hws:∀e,e∈ws->vk bW e)(hrs:∀e,e∈rs->Wp bW e)
include hl hks hms hws hrs
theorem afJ {f : Nat} {fn : Func} (hf : bW.funcs[f]? = some fn) (hnm : (fn.name == "runtime.NumGoroutine") = false) (hb : fn.body = some (dG fn)) (hL : yN bW L (dG fn))
  {args:List AV} (hlen:aqE args.length fn.ntmps=true) {r:AV} (h:evW bW l ks ms ws rs L fn args ret=some (Out.of r)):aj bW f args r :=
 xg (gL hl hks hms hws hrs) (iJ (gL hl hks hms hws hrs) (by kernel_rfl)) 40 hf hnm hb hL hlen h
theorem bM {f : Nat} {fn : Func} (hf : bW.funcs[f]? = some fn) (hnm : (fn.name == "runtime.NumGoroutine") = false) (hb : fn.body = some (dG fn))
  {args:List AV} {mem:List Row} (hL:nu mem.length bW L (dG fn)) (hlen:aqE args.length fn.ntmps=true) {τ:List (Option Nat)} (zn:Co mem.length τ=true) {v:AV} {mem1:List Row} (h:eu bW l ks ms ws rs L fn args mem τ=fD v mem1):cu bW f args mem v mem1 :=
 BJ (gL hl hks hms hws hrs) (iJ (gL hl hks hms hws hrs) (by kernel_rfl)) 40 hf hnm hb hL hlen zn h
end
end Go.Proofs.YtefphimaggjihaaGreatDoor
namespace Go.Gv
open Go.RowKit Go.Ev
def Iy(row row':Row):Prop:=row'=row\/(∃e sz n el sZ,row=.a e sz n el/\row'=.a e sz n sZ/\∀i,i<n->(sZ i).length=(el i).length/\∀(E:Env) (cs:List Value),pre E (el i) cs->pre E (sZ i) cs)\/∃l l',row=.c l/\row'=.c l'/\∀(E:Env) (cs:List Value),pre E l cs->pre E l' cs
def sF:List Row->List Row->Prop
 | [],[]=>True
 |r::rs,r'::rs'=>Iy r r'/\sF rs rs'
 |_,_=>False
theorem sF.get:∀{rs rs':List Row},sF rs rs'->∀k:Nat,(rs[k]?=none/\rs'[k]?=none)\/∃r r',rs[k]?=some r/\rs'[k]?=some r'/\Iy r r'
 | [],[],_,k=>ER ⟨by simp,by simp⟩
 |r::rs,r'::rs',h,k=>by
  cases k with
  |zero=>exact aaH ⟨r,r',rfl,rfl,h.1⟩
  |succ k=>simpa using sF.get h.2 k
 | [],_::_,h,_=>h.elim
 |_::_,[],h,_=>h.elim
theorem fP{np:Nat}{sl:List (AV × Chain)}{mem mem':List Row}(h:sF mem mem'):iV np ⟨sl,mem⟩ ⟨sl,mem'⟩:=by
 intro A0 R w0 E a hp0 hI
 have lives:∀k,aK mem' k=aK mem k:=λ k=>by
  unfold aK;rcases h.get k with⟨h1,h2⟩ | ⟨r,r',h1,h2,h3⟩
  .rw[h1,h2]
  .rw[h1,h2]
   rcases h3 with rfl | ⟨e,sz,n,el,sZ,rfl,rfl,_⟩ | ⟨l,l',rfl,rfl,_⟩<;>rfl
 refine⟨E,rfl,hI.defers,hI.frame,⟨λ k b c hb=>?_,hI.wd.small,hI.wd.old,λ k b c hb hl=>hI.wd.own k b c hb (by rw[<-lives];exact hl),λ k k' b c c' hb hb' hl hl'=>hI.wd.one k k' b c c' hb hb' (by rw[<-lives];exact hl) (by rw[<-lives];exact hl'),hI.wd.below,hI.wd.CY⟩⟩;obtain⟨row,h1,h2⟩:=hI.wd.rows k b c hb;rcases h.get k with⟨g1,_⟩ | ⟨r,r',g1,g2,g3⟩
 .have:mem[k]?=some row:=h1
  rw[g1]at this;cases this
 .have:mem[k]?=some row:=h1
  rw[g1]at this;cases this;refine⟨r',g2,?_⟩;rcases g3 with rfl | ⟨e,sz,n,el,sZ,rfl,rfl,g4⟩ | ⟨l,l',rfl,rfl,g4⟩
  .exact h2
  .obtain⟨cs,k1,k2,k3,k4,k5,k6⟩:=h2
   exact⟨cs,k1,k2,k3,k4,k5,λ i hi=>⟨(g4 i hi).1.trans (k6 i hi).1,(g4 i hi).2 _ _ (k6 i hi).2⟩⟩
  .obtain⟨cs,e,k1,k2⟩:=h2
   exact⟨cs,e,k1,g4 _ _ k2⟩
noncomputable section
theorem Nk{l:List Nat}{k:Nat}(h:oH l k=none):k ∉ l:=λ hk=>by
 unfold oH at h;rw[List.findIdx?_eq_none_iff]at h;have:=h k hk;simp at this
def CF(l:List Nat)(n:Nat)(i:Nat):Option Nat:=match l[i]? with
 |some k=>some k
 |none=>some (n+(i - l.length))
structure awy(l:List Nat)(mem mem1 mem':List Row):Prop where
 other:∀k,k ∉ l->k<mem.length->mem'[k]?=mem[k]?
 mine:∀(i k:Nat) (r:Row),l[i]?=some k->mem1[i]?=some r->mem'[k]?=some (iX (CF l mem.length) r)
 fresh:∀(i:Nat) (r:Row),l.length<=i->mem1[i]?=some r->mem'[mem.length+(i - l.length)]?=some (iX (CF l mem.length) r)
theorem xC{P:Program}{f:Nat}{args afe:List AV}{mem CG mem1 mem':List Row}{v:AV}(h:cu P f afe CG v mem1)(l:List Nat)(hl:l.length=CG.length)(hnd:nodupB l=true)
  (hargs:afe=gP (oH l) args) (hmem:∀(i k:Nat),l[i]?=some k->∃row,mem[k]?=some row/\row.live=true/\CG[i]?=some (iX (oH l) row)) (hF:awy l mem mem1 mem'):bP P f args mem (jw (CF l mem.length) v) mem':=by
 refine⟨h.1,λ A0 R w0 E aZ hW hgl hr=>?_⟩
 have dom:∀k p,E.O k=some p->k<mem.length:=λ k p hp=>by
  obtain⟨row,h1,_⟩:=hW.rows k p.1 p.2 hp;exact(aj8.1 h1).1
 have lives:∀k,k∈l->aK mem k=true:=λ k hk=>by
  obtain⟨i,hi⟩:=aAn.1 hk;obtain⟨row,g1,g2,_⟩:=hmem i k hi;unfold aK;rw[g1];exact g2
 let O1:Nat->Option (Nat × Nat × Nat):=λ i=>(l[i]?).bind E.O;let E1:Env:={ E with O:=O1 }
 have hO1:∀i b c,E1.O i=some (b,c)->∃k,l[i]?=some k/\E.O k=some (b,c):=λ i b c hi=>by
  have hi:(l[i]?).bind E.O=some (b,c):=hi;cases hx:l[i]? with
  |none=>rw[hx]at hi;cases hi
  |some k=>rw[hx]at hi;exact⟨k,rfl,hi⟩
 have aos:∀(i k:Nat) (p:Nat × Nat × Nat),l[i]?=some k->E.O k=some p->O1 i=some p:=λ i k p hi hp=>by
  show(l[i]?).bind E.O=some p;rw[hi];exact hp
 have hσ:∀k i p,oH l k=some i->E.O k=some p->O1 i=some p:=λ k i p hi hp=>aos i k p (wB hi) hp;let R1:Nat->Prop:=λ b=>∃k c,k∈l/\E.O k=some (b,c)
 have hW1:Wd E.A R1 E1 E1 CG:=by
  refine⟨λ i b c hi=>?_,hW.small,λ _ h=>h,λ i b c hi _=>?_,λ i j b c c' hi hj _ _=>?_,nJ.refl _ _,Env.le.refl _⟩
  .obtain⟨k,h1,h2⟩:=hO1 i b c hi
   obtain⟨row,g1,_,g2⟩:=hmem i k h1;obtain⟨row',g3,g4⟩:=hW.rows k b c h2;rw[g1]at g3;cases g3;exact⟨_,g2,Kl hσ g4⟩
  .obtain⟨k,h1,h2⟩:=hO1 i b c hi
   have hm:=ayK h1;exact⟨(hW.own k b c h2 (lives k hm)).1,ER ⟨k,c,hm,h2⟩⟩
  .obtain⟨k,h1,h2⟩:=hO1 i b c hi
   obtain⟨k',h3,h4⟩:=hO1 j b c' hj;have:=hW.one k k' b c c' h2 h4 (lives k (ayK h1)) (lives k' (ayK h3));subst this;exact CJ hnd i j k h1 h3
 have atI:Ju CG.length E1.A R1 E1:=by
  refine⟨λ i hi=>?_,λ b hb=>?_,hW.small⟩
  .show(l[i]?).bind E.O=none
   rw[ayE (by omega)];rfl
  .obtain⟨k,c,hk,hO⟩:=hb
   obtain⟨i,hi⟩:=aAn.1 hk;exact⟨i,c,by have:=(aj8.1 hi).1;omega,aos i k _ hi hO⟩
 have hr1:dB E1 afe aZ.toList:=by
  rw[hargs];exact oU args hσ _ hr
 refine(h.2 R1 E1 aZ atI hW1 (OP hgl _) hr1).mono ?_;rintro e w' ⟨u,E',rfl,rfl,hW2,hrel⟩
 have atJ:∀i p,E'.O i=some p->∃r,mem1[i]?=some r:=λ i p hp=>by
  obtain⟨row,h1,_⟩:=hW2.rows i p.1 p.2 hp;exact⟨row,h1⟩
 let O2:Nat->Option (Nat × Nat × Nat):=λ k=>match oH l k with
  |some i=>E'.O i
  |none=>if k<mem.length then E.O k else E'.O (l.length+(k - mem.length))
 let E2:Env:={ E' with O:=O2 }
 have awz:∀(i k:Nat),l[i]?=some k->oH l k=some i:=λ i k hi=>by
  cases hx:oH l k with
  |none=>exact absurd (ayK hi) (Nk hx)
  |some j=>rw[CJ hnd i j k hi (wB hx)]
 have hO2:∀k p,E.O k=some p->E2.O k=some p:=λ k p hp=>by
  show(match oH l k with
   |some i=>E'.O i
   |none=>if k<mem.length then E.O k else E'.O (l.length+(k - mem.length)))=some p
  cases hx:oH l k with
  |none=>rw[if_pos (dom k p hp)];exact hp
  |some i=>exact hW2.CY.own i p (aos i k p (wB hx) hp)
 have aff:∀k p,E2.O k=some p->(k ∉ l/\k<mem.length/\E.O k=some p)\/∃i r,E'.O i=some p/\mem1[i]?=some r/\mem'[k]?=some (iX (CF l mem.length) r)/\CF l mem.length i=some k:=λ k p hp=>by
  have hp:(match oH l k with
   |some i=>E'.O i
   |none=>if k<mem.length then E.O k else E'.O (l.length+(k - mem.length)))=some p:=hp
  cases hx:oH l k with
  |some i =>
   rw[hx]at hp;obtain⟨r,hr⟩:=atJ i p hp;have hi:=wB hx;exact aaH ⟨i,r,hp,hr,hF.mine i k r hi hr,by unfold CF;rw[hi]⟩
  |none =>
   rw[hx]at hp;by_cases hk:k<mem.length
   .simp only[if_pos hk]at hp
    exact ER ⟨Nk hx,hk,hp⟩
   .simp only[if_neg hk]at hp
    obtain⟨r,hr⟩:=atJ _ p hp;have e:mem.length+(l.length+(k - mem.length) - l.length)=k:=by omega
    have:=hF.fresh _ r (Nat.le_add_right _ _) hr;rw[e]at this;exact aaH ⟨_,r,hp,hr,this,by unfold CF;rw[ayE (by omega)];simp only;rw[e]⟩
 have hback:∀i k' p,CF l mem.length i=some k'->E'.O i=some p->O2 k'=some p:=λ i k' p hi hp=>by
  unfold CF at hi;cases hx:l[i]? with
  |some k =>
   rw[hx]at hi;simp only[jN]at hi;subst hi
   show(match oH l k with
    |some i=>E'.O i
    |none=>if k<mem.length then E.O k else E'.O (l.length+(k - mem.length)))=some p
   rw[awz i k hx];exact hp
  |none =>
   rw[hx]at hi;simp only[jN]at hi;have hil:=List.getElem?_eq_none_iff.1 hx
   have hk:oH l k'=none:=by
    cases hy:oH l k' with
    |none=>rfl
    |some j =>
     obtain⟨row,g1,_⟩:=hmem j k' (wB hy);have:=(aj8.1 g1).1;omega
   show(match oH l k' with
    |some i=>E'.O i
    |none=>if k'<mem.length then E.O k' else E'.O (l.length+(k' - mem.length)))=some p
   rw[hk];simp only;rw[if_neg (by omega),show l.length+(k' - mem.length)=i by omega];exact hp
 have hle:E.le E2:=⟨hW2.CY.keep,hO2⟩
 have afg:∀(i k:Nat) (r:Row),mem1[i]?=some r->mem'[k]?=some (iX (CF l mem.length) r)->aK mem' k=true->aK mem1 i=true:=λ i k r h1 h2 h3=>by
  unfold aK at h3 ⊢;rw[h2]at h3;rw[h1];simp only[Tn]at h3;exact h3
 have afh:∀k,k ∉ l->k<mem.length->aK mem' k=true->aK mem k=true:=λ k h1 h2 h3=>by
  unfold aK at h3 ⊢;rw[hF.other k h1 h2]at h3;exact h3
 have cross:∀(k i:Nat) (b:Nat) (c c':Nat × Nat),k ∉ l->E.O k=some (b,c)->aK mem k=true->E'.O i=some (b,c')->aK mem1 i=true->False:=λ k i b c c' hk hb hlk ho hl1=>by
  rcases(hW2.own i b c' ho hl1).2 with⟨k',c2,hk',hb'⟩ |g2
  .have:=hW.one k k' b c c2 hb hb' hlk (lives k' hk')
   subst this;exact hk hk'
  .have:=hW.small b (hW.own k b c hb hlk).1
   have g2:E.w.heap.size<=b:=g2;omega
 refine⟨u,E2,rfl,rfl,hle,⟨?_,hW2.small,λ b hb=>hW2.old b (hW.old b hb),?_,?_,?_,hW.CY.trans hle⟩,vJ v hback u hrel⟩
 .intro k b c hb
  rcases aff k _ hb with⟨h1,h2,h3⟩ | ⟨i,r,h1,h2,h3,_⟩
  .obtain⟨row,g3,g4⟩:=hW.rows k b c h3
   refine⟨row,by rw[hF.other k h1 h2];exact g3,pU hle g4 λ hlv=>?_⟩;have hlk:aK mem k=true:=by unfold aK;rw[g3];exact hlv
   refine hW2.below.block b (hW.small b (hW.own k b c h3 hlk).1) ?_;rintro⟨k',c',hk',hb'⟩;have:=hW.one k k' b c c' h3 hb' hlk (lives k' hk');subst this;exact h1 hk'
  .obtain⟨row',g3,g4⟩:=hW2.rows i b c h1
   have:row'=r:=by
    have g3:mem1[i]?=some row':=g3;rw[h2]at g3;cases g3;rfl
   subst this;exact⟨_,h3,Kl hback g4⟩
 .intro k b c hb hlv
  rcases aff k _ hb with⟨h1,h2,h3⟩ | ⟨i,r,h1,h2,h3,_⟩
  .obtain⟨g1,g2⟩:=hW.own k b c h3 (afh k h1 h2 hlv)
   exact⟨hW2.old b g1,g2⟩
  .obtain⟨g1,g2⟩:=hW2.own i b c h1 (afg i k r h2 h3 hlv)
   refine⟨g1,?_⟩;rcases g2 with⟨k',c',hk',hb'⟩ |g2
   .exact(hW.own k' b c' hb' (lives k' hk')).2
   .exact aaH (apL hW.below.size g2)
 .intro k k' b c c' hb hb' hlv ajs
  rcases aff k _ hb with⟨h1,h2,h3⟩ | ⟨i,r,h1,h2,h3,h4⟩
  .rcases aff k' _ hb' with⟨g1,g2,g3⟩ | ⟨i',r',g1,g2,g3,_⟩
   .exact hW.one k k' b c c' h3 g3 (afh k h1 h2 hlv) (afh k' g1 g2 ajs)
   .exact(cross k i' b c c' h1 h3 (afh k h1 h2 hlv) g1 (afg i' k' r' g2 g3 ajs)).elim
  .rcases aff k' _ hb' with⟨g1,g2,g3⟩ | ⟨i',r',g1,g2,g3,g4⟩
   .exact(cross k' i b c' c g1 g3 (afh k' g1 g2 ajs) h1 (afg i k r h2 h3 hlv)).elim
   .have:=hW2.one i i' b c c' h1 g1 (afg i k r h2 h3 hlv) (afg i' k' r' g2 g3 ajs)
    subst this;rw[h4]at g4;cases g4;rfl
 .refine⟨hW2.below.os.trans hW.below.os,hW2.below.tape.trans hW.below.tape,hW2.below.output.trans hW.below.output,apL hW.below.size hW2.below.size,λ b hb hn=>?_⟩
  refine(hW2.below.block b (Nat.lt_of_lt_of_le hb hW.below.size) ?_).trans (hW.below.block b hb hn);rintro⟨k,c,hk,hk2⟩;rcases(hW.own k b c hk2 (lives k hk)).2 with h |h
  .exact hn h
  .omega
end
noncomputable section
def wQ(P:Program)(f:Nat)(g:List AV->List Row->AV)(m:List AV->List Row->List Row):bH:=⟨f,λ args mem=>some (iY (bP P f args mem (g args mem) (m args mem)),g args mem,m args mem)⟩
theorem aX{P:Program}{f:Nat}{g:List AV->List Row->AV}{m:List AV->List Row->List Row}:vk P (wQ P f g m):=λ args mem v mem1 h=>by
 have h:some (iY (bP P f args mem (g args mem) (m args mem)),g args mem,m args mem)=some (true,v,mem1):=h;simp only[jN,Prod.mk.injEq]at h;obtain⟨h1,rfl,rfl⟩:=h;exact adU h1
end
end Go.Gv
