/-
  A contract over rows, out of a function's text.
-/
import Derived.Test.YtefphimaggjihaaGreatDoorC9
open Option.some renaming injEq->jN
namespace Go.Gv
open Go.RowKit Go.Ev
noncomputable section
theorem aou{np:Nat}{A0 R:Nat->Prop}{w0 E:Env}{mem mem':List Row}(τ:List (Option Nat))(zn:∀k,k<np->τ[k]?=some (some k))(hd:distinct τ=true)(hp0:Ju np A0 R w0)(hW:Wd A0 R w0 E mem)(h2:o8 τ mem τ mem') :
  ∃O',Wd A0 R w0 { E with O:=O' } mem'/\∀k k' p,jR τ k=some k'->E.O k=some p->O' k'=some p:=by
 let O':Nat->Option (Nat × Nat × Nat):=λ k'=>(τ[k']?).bind λ o=>o.bind E.O
 have hO:∀k k' p,jR τ k=some k'->E.O k=some p->O' k'=some p:=λ k k' p hk hp=>by
  show((τ[k']?).bind λ o=>o.bind E.O)=some p;rw[Jw hk];exact hp
 have back:∀k' p,O' k'=some p->∃k,τ[k']?=some (some k)/\E.O k=some p:=λ k' p hp=>by
  have hp':((τ[k']?).bind λ o=>o.bind E.O)=some p:=hp;cases hx:τ[k']? with
  |none=>rw[hx]at hp';cases hp'
  |some o =>
   rw[hx]at hp';cases o with
   |none=>cases hp'
   |some k=>exact⟨k,rfl,hp'⟩
 have lives:∀k' k,τ[k']?=some (some k)->aK mem' k'=true->aK mem k=true:=λ k' k hk hl=>by
  obtain⟨row,row',g1,g2,g3⟩:=h2.get k' k hk;unfold aK at hl ⊢;rw[g2]at hl;rw[g1];exact g3.live hl
 refine⟨O',⟨?_,hW.small,hW.old,?_,?_,hW.below,⟨hW.CY.keep,λ k p hk=>?_⟩⟩,hO⟩
 .intro k' b c hb
  obtain⟨k,hk,hb'⟩:=back k' _ hb;obtain⟨row,row',g1,g2,g3⟩:=h2.get k' k hk;obtain⟨row0,g4,g5⟩:=hW.rows k b c hb';rw[g1]at g4;cases g4;exact⟨row',g2,g3.rel hO g5⟩
 .intro k' b c hb hl
  obtain⟨k,hk,hb'⟩:=back k' _ hb;exact hW.own k b c hb' (lives k' k hk hl)
 .intro k' k'' b c c' hb hb' hl hl'
  obtain⟨k,hk,hbk⟩:=back k' _ hb;obtain⟨k2,hk2,hbk2⟩:=back k'' _ hb';have:=hW.one k k2 b c c' hbk hbk2 (lives k' k hk hl) (lives k'' k2 hk2 hl');subst this;exact qK hd k' k'' k hk hk2
 .have hlt:k<np:=Nat.lt_of_not_le λ hc=>by rw[hp0.1 k hc]at hk;cases hk
  show((τ[k]?).bind λ o=>o.bind E.O)=some p;rw[zn k hlt];exact hW.CY.own k p hk
def abf(P:Program)(fn:Func)(τ:List (Option Nat))(s:St):Option Out:=cond (jF τ s) (match mV P s fn.results.toList with
 |some [v]=>some ⟨.normal,⟨[],keepR τ s.mem τ⟩,jw (jR τ) v⟩
 |some vs=>some ⟨.normal,⟨[],keepR τ s.mem τ⟩,.aN (gP (jR τ) vs)⟩
 |none=>none) none
def aju(P:Program)(fn:Func)(τ:List (Option Nat)):jZ:=λ e s=>match e with
 |.normal=>abf P fn τ s
 |.ret=>abf P fn τ s
 |_=>none
def Po(P:Program)(T:Tab)(D:List Oper->St->SK->Option Out)(L:Nat->Option dN)(N:Nat)(fn:Func)(args:List AV)(mem:List Row)(τ:List (Option Nat)):Option Out :=
 match fn.body with
 |some c=>gT P T D L N c (start fn mem args) (aju P fn τ)
 |none=>none
def Co(np:Nat)(τ:List (Option Nat)):Bool:=(List.range np).all λ k=>match τ[k]? with
 |some (some k')=>Nat.beq k' k
 |_=>false
theorem Tq{np:Nat}{τ:List (Option Nat)}(h:Co np τ=true):∀k,k<np->τ[k]?=some (some k):=λ k hk=>by
 unfold Co at h;have:=List.all_eq_true.1 h k (List.mem_range.2 hk);split at this
 .rename_i k' hx
  have e:=Nat.eq_of_beq_eq_true this;subst e;exact hx
 .cases this
theorem JY{P:Program}{fn:Func}{A0 R:Nat->Prop}{w0 E:Env}{s:St}{a:Act}{np:Nat}{τ:List (Option Nat)}(zn:Co np τ=true)(hp0:Ju np A0 R w0)(hI:Inv A0 R w0 E s a){v:AV}{mem1:List Row}(h:abf P fn τ s=some ⟨.normal,⟨[],mem1⟩,v⟩) :
  ∃u E',(results fn a.tmps).run P E.w=.ok u E.w/\E'.w=E.w/\Wd A0 R w0 E' mem1/\rel E' v u:=by
 unfold abf at h;cases hf:jF τ s
 .rw[hf]at h;cases h
 .rw[hf]at h
  simp only[cond_true]at h;unfold jF at hf;simp only[Bool.and_eq_true]at hf;obtain⟨O',hW,hO⟩:=aou τ (Tq zn) hf.1 hp0 hI.wd (wC τ hf.2);cases hl:mV P s fn.results.toList with
  |none=>simp[hl]at h
  |some xs =>
   obtain⟨vs,h1,h2⟩:=uN hI hl;have hlen:=dJ h2
   have hrun:(results fn a.tmps).run P E.w=.ok (if h:vs.toArray.size=1 then vs.toArray[0]else .tuple vs.toArray) E.w:=by
    rw[Jy];simp only[Sem.run_bind,Sem.run_map,h1,Result.andThen_ok,Sem.run_pure]
   rw[hrun];rw[hl]at h
   have many:∀(_:vs.length≠1),rel { E with O:=O' } (.aN (gP (jR τ) xs)) (if h:vs.toArray.size=1 then vs.toArray[0]else .tuple vs.toArray):=by
    intro hne;rw[dif_neg (by simpa using hne)];exact nI.2 ⟨vs.toArray,rfl,oU xs hO vs h2⟩
   match xs,vs,hlen,h2,h,many with
   | [y],[v'],_,h2,h,_ =>
    simp only[jN,Out.mk.injEq,St.mk.injEq,true_and]at h;obtain⟨rfl,rfl⟩:=h;obtain⟨v2,_,e1,h3,_⟩:=aH.1 h2;cases e1;exact⟨_,{ E with O:=O' },rfl,rfl,hW,vJ y hO v' h3⟩
   | [],[],_,_,h,many =>
    simp only[jN,Out.mk.injEq,St.mk.injEq,true_and]at h;obtain⟨rfl,rfl⟩:=h;exact⟨_,{ E with O:=O' },rfl,rfl,hW,many (by simp)⟩
   |_::_::_,_::_::_,_,_,h,many =>
    simp only[jN,Out.mk.injEq,St.mk.injEq,true_and]at h;obtain⟨rfl,rfl⟩:=h;exact⟨_,{ E with O:=O' },rfl,rfl,hW,many (by simp)⟩
theorem BJ {P : Program} {T : Tab} {D : List Oper -> St -> SK -> Option Out} {L : Nat -> Option dN} (hT : Ao P T) (hD : DOk P D) (N : Nat) {f : Nat} {fn : Func} (hf : P.funcs[f]? = some fn) (hnm : (fn.name == "runtime.NumGoroutine") = false) {c : Code} (hb : fn.body = some c)
  {args:List AV} {mem:List Row} (hL:nu mem.length P L c) (hlen:Nat.ble args.length fn.ntmps=true) {τ:List (Option Nat)} (zn:Co mem.length τ=true) {v:AV} {mem1:List Row} (h:Po P T D L N fn args mem τ=some ⟨.normal,⟨[],mem1⟩,v⟩):cu P f args mem v mem1:=by
 unfold Po at h;rw[hb]at h;simp only at h;refine⟨⟨fn,hf,hnm,by rw[hb];rfl⟩,λ R E aZ hp hW hg hv=>?_⟩;have hlen':args.length<=fn.ntmps:=Nat.le_of_ble_eq_true hlen;refine calls_of_wp hf hb ?_;have hI:Inv E.A R E E (start fn mem args) { tmps:=aZ++Array.replicate (fn.ntmps - aZ.size) undef,defers:=[] }:=⟨rfl,rJ hg hv hlen',hW⟩;refine Go.Code.wp_mono ?_ (Dx hp hT hD N c hL hI h);rintro e a' w' ⟨E',s',rfl,hI',he⟩;cases e<;>simp only[aju]at he<;>first | (cases he;done) |skip
 all_goals
  obtain⟨u,E2,h1,h2,h3,h4⟩:=JY zn hp hI' he;exact⟨hI'.defers,u,h1,u,E2,rfl,h2,h3,h4⟩
def evM(P:Program)(l:List Entry)(ks:List aV)(ms:List fQ)(L:Nat->Option dN)(fn:Func)(args:List AV)(k:AV->Option Out):Option Out:=abody P (afi l ks ms) (lZ P (afi l ks ms)) L 40 fn args k
def fD(v:AV)(mem1:List Row):Option Out:=some ⟨.normal,⟨[],mem1⟩,v⟩
theorem Tt {P : Program} {l : List Entry} {ks : List aV} {ms : List fQ} {L : Nat -> Option dN} (hl : ∀ e, e ∈ l -> lg P e) (hk : ∀ e, e ∈ ks -> tO P e) (hms : ∀ e, e ∈ ms -> vU P e) (hm : P.follows .mixedOrders = true) {f : Nat} {fn : Func} (hf : P.funcs[f]? = some fn) (hnm : (fn.name == "runtime.NumGoroutine") = false) {c : Code} (hb : fn.body = some c) (hL : yN P L c)
  {args:List AV} (hlen:Nat.ble args.length fn.ntmps=true) {r:AV} (h:evM P l ks ms L fn args ret=some (Out.of r)):aj P f args r :=
 xg (qN hl hk hms) (iJ (qN hl hk hms) hm) 40 hf hnm hb hL hlen h
end
end Go.Gv
