/- Texts, one behind the other. -/
import Derived.Laws.FloatArith
import Derived.Laws.Cover2
import Derived.RowKit
import Derived.WalkKit
import Derived.WalkLawsBesides
import Derived.Deep.MidRow
import Derived.Laws.AppendOwn
import Derived.Laws.MakeOwn
import Derived.Laws.BytesString
open Array renaming append_empty->aHH,empty_append->aHa,ext'->aI4,map->aLl,toList_append->aI7,toList_eq_nil_iff->aIG,toList_extract->aLr
open Bool renaming and_eq_true->CX,false_eq_true->aFs,or_eq_false_iff->aKg
open Go.Addr renaming add->aJ7
open Go.Call renaming operands->apS
open Go.Instr renaming build->aL4,extract->aNt,field->aNT,fieldAt->aNs,fill->aMA,index->aKJ,indexAt->aJv,loadAt->aNH,makeInterface->aL5,missingMethod->aIX,slice->aL3,sliceAt->aIB,sliceBound->aJx,sliceBounds->aIH,sureAddr->aJp,typeAssert->aJy
open Go.Op renaming eqFields->aOA,equal->aH3,equalIn->aHA,maxDepth->aHD,negFloat->aMO,operands->Uh,unary->aOc
open Go.Result renaming andThen->aKL,andThen_ok->uT
open Go.Sem renaming run_bind->QJ,run_ite->aLq,run_pure->aax
open Iff renaming rfl->aJn
open List renaming all_cons->aIk,any_eq_true->aK6,cons_append->aKD,drop_succ_cons->aIY,drop_zero->aJw,extract->aLp,foldr_cons->aM4,getElem?_cons_zero->aLd,getElem?_drop->anb,getElem?_toArray->aLs,length_cons->aBz,mem_filter->aII,nil_append->aM1,range->aFB,take_succ_cons->aJ6,take_zero->aKt
open Nat renaming add_assoc->aIW,add_mul->auK,add_zero->aIA,ble->apB,ble_eq_true_of_le->agl,blt->Tv,le_of_ble_eq_true->Ou,le_refl->ND,lt_or_ge->aH9,mod_lt->aHY,zero_add->ZO
open Option renaming getD_none->aFz,getD_some->apP,map_none->aMP,map_some->aaF
open Option.some renaming injEq->gU
open Or renaming inl->wV,inr->Gc
open Prod.mk renaming injEq->Ew
namespace Go
theorem aY.{u}{α:Sort u}{a b:α}:cond true a b=a:=rfl
theorem eU.{u}{α:Sort u}{a b:α}:cond false a b=b:=rfl
theorem gG{p:Prop}[Decidable p](h:p):decide p=true:=decide_eq_true h
theorem iH{p:Prop}[Decidable p](h:¬p):decide p=false:=decide_eq_false h
theorem mI.{u}{α:Type u}[BEq α][LawfulBEq α]{a b:α}(h:a≠b):(a==b)=false:=beq_false_of_ne h
theorem gH.{u}{c:Prop}{h:Decidable c}(a:c){α:Sort u}{t e:α}:ite c t e=t:=if_pos a
theorem fP.{u}{c:Prop}{h:Decidable c}(a:¬c){α:Sort u}{t e:α}:ite c t e=e:=if_neg a
theorem Qx{p:Prop}[Decidable p](h:decide p=true):p:=of_decide_eq_true h
theorem oDf{p:Prop}[Decidable p](h:decide p=false):¬p:=of_decide_eq_false h
theorem Aw.{u}{α:Type u}[BEq α][LawfulBEq α]{a b:α}(h:(a==b)=true):a=b:=eq_of_beq h
theorem UM{p:Prop}[Decidable p]:(decide p=true)=p:=decide_eq_true_eq
theorem WO.{u}{α:Type u}[BEq α][LawfulBEq α]{a b:α}:a==b↔a=b:=beq_iff_eq
end Go
namespace Go.Ev
open Ieee
def Ct:Nat:=9221120237041090561
def aF(b:Nat):Bool:=(double.read b).isNaN
def cn(b:Nat):Nat:=cond (aF b) Ct b
def aM(x y:Nat):Nat:=(double.add x y).getD Ct
def aU(x y:Nat):Nat:=(double.sub x y).getD Ct
def aX(x y:Nat):Nat:=(double.mul x y).getD Ct
def fdiv(x y:Nat):Nat:=(double.div x y).getD Ct
def bD(x:Nat):Nat:=(double.sqrt x).getD Ct
def dG(x:Nat):Nat:=cond (aF x) Ct (x ^^^ 9223372036854775808)
def dR(x y:Nat):Bool:=double.order x y==some .eq
def dN(x y:Nat):Bool:=double.order x y==some .lt
def iB(x y:Nat):Bool:=double.order x y==some .lt||double.order x y==some .eq
def bW(x y:Nat):Bool:=double.order x y==some .gt
def iL(x y:Nat):Bool:=double.order x y==some .gt||double.order x y==some .eq
theorem adT:aF Ct=true:=by decide +kernel
theorem kR{b:Nat}(h:aF b=true):cn b=Ct:=by simp[cn,h]
theorem gB{b:Nat}(h:aF b=false):cn b=b:=by simp[cn,h]
theorem xq(b:Nat):aF (cn b)=aF b:=by
 cases h:aF b
 .rw[gB h,h]
 .rw[kR h,adT]
theorem JO{d e:Datum}(h:d.isNaN=true):d.sum e=none:=by cases d<;>simp[Datum.isNaN]at h;simp[Datum.sum]
theorem Gf{d e:Datum}(h:e.isNaN=true):d.sum e=none:=by cases e<;>simp[Datum.isNaN]at h;cases d<;>simp[Datum.sum]
theorem La{d e:Datum}(h:d.isNaN=true):d.product e=none:=by cases d<;>simp[Datum.isNaN]at h;simp[Datum.product]
theorem JQ{d e:Datum}(h:e.isNaN=true):d.product e=none:=by cases e<;>simp[Datum.isNaN]at h;cases d<;>simp[Datum.product]
theorem JR{n:Nat}{d e:Datum}(h:d.isNaN=true):d.quotient n e=none:=by cases d<;>simp[Datum.isNaN]at h;simp[Datum.quotient]
theorem Ho{n:Nat}{d e:Datum}(h:e.isNaN=true):d.quotient n e=none:=by cases e<;>simp[Datum.isNaN]at h;cases d<;>simp[Datum.quotient]
theorem jh{d e:Datum}(h:d.isNaN=true):d.order e=none:=by cases d<;>simp[Datum.isNaN]at h;simp[Datum.order]
theorem jQ{d e:Datum}(h:e.isNaN=true):d.order e=none:=by cases e<;>simp[Datum.isNaN]at h;cases d<;>simp[Datum.order]
theorem aak{n:Nat}{d:Datum}(h:d.isNaN=true):d.root n=none:=by cases d<;>simp[Datum.isNaN]at h;simp[Datum.root]
theorem Qe(d:Datum):d.opposite.isNaN=d.isNaN:=by cases d<;>rfl
theorem Qf{α:Type}(g:Nat->Nat->Option α)(f:∀x y,aF x=true->g x y=none)(e:∀x y,aF y=true->g x y=none)(x y:Nat) :
  g (cn x) (cn y)=g x y:=by
 cases d:aF x
 .cases a:aF y
  .rw[gB d,gB a]
  .rw[e _ _ (by rw[xq,a]),e _ _ a]
 .rw[f _ _ (by rw[xq,d]),f _ _ d]
theorem aw9(x y:Nat):double.add (cn x) (cn y)=double.add x y :=Qf double.add (λ x y h=>by simp[Format.add,JO h]) (λ x y h=>by simp[Format.add,Gf h]) x y
theorem axa(x y:Nat):double.sub (cn x) (cn y)=double.sub x y :=Qf double.sub (λ x y h=>by simp[Format.sub,JO h]) (λ x y h=>by simp[Format.sub,Gf (d:=double.read x) (show(double.read y).opposite.isNaN=true by rw[Qe];exact h)]) x y
theorem axb(x y:Nat):double.mul (cn x) (cn y)=double.mul x y :=Qf double.mul (λ x y h=>by simp[Format.mul,La h]) (λ x y h=>by simp[Format.mul,JQ h]) x y
theorem axc(x y:Nat):double.div (cn x) (cn y)=double.div x y :=Qf double.div (λ x y h=>by simp[Format.div,JR h]) (λ x y h=>by simp[Format.div,Ho h]) x y
theorem Ya(x y:Nat):double.order (cn x) (cn y)=double.order x y :=Qf double.order (λ x y h=>by simp[Format.order,jh h]) (λ x y h=>by simp[Format.order,jQ h]) x y
theorem asO(x:Nat):double.sqrt (cn x)=double.sqrt x:=by
 cases a:aF x
 .rw[gB a]
 .have e:double.sqrt (cn x)=none:=by simp[Format.sqrt,aak (show(double.read (cn x)).isNaN=true from by have:=xq x;rw[a]at this;exact this)]
  have d:double.sqrt x=none:=by simp[Format.sqrt,aak (show(double.read x).isNaN=true from a)]
  rw[e,d]
theorem CO:double.signWeight=9223372036854775808:=by decide +kernel
theorem Kv:double.infRung=9218868437227405312:=by decide +kernel
theorem EA:double.binade=4503599627370496:=by decide +kernel
theorem aoI(neg:Bool){r:Nat}(h:r<=9218868437227405312):double.word neg r % 9223372036854775808=r:=by unfold Format.word;rw[CO];split<;>omega
theorem ow(w:Nat):(double.read w).isNaN=decide (9218868437227405312<w % 9223372036854775808):=by
 unfold Format.read;simp only[CO,Kv,EA];split
 .rename_i h;simp[Datum.isNaN];omega
 .split
  .rename_i h;simp[Datum.isNaN];omega
  .split
   .rename_i h;simp[Datum.isNaN];omega
   .simp[Datum.isNaN];omega
theorem xD(neg:Bool){r:Nat}(h:r<=9218868437227405312):aF (double.word neg r)=false:=by unfold aF;rw[ow,aoI neg h];simp;omega
theorem Gb(neg:Bool)(m:Nat)(p:Int):aF (double.nearest neg m p)=false:=by
 unfold Format.nearest;split
 .exact xD neg (by omega)
 .exact xD neg (by rw[<-Kv];exact Nat.min_le_right _ _)
theorem uJ{d:Datum}(h:d.isNaN=false):aF (double.write d)=false:=by
 cases d with
 |number s m p=>exact Gb s m p
 |infinity s=>exact xD s (by rw[Kv];omega)
 |nan s f=>simp[Datum.isNaN]at h
theorem Tf{d e f:Datum}(h:d.sum e=some f):f.isNaN=false:=by
 cases d<;>cases e<;>simp only[Datum.sum]at h
 all_goals first | (cases h;done) | (cases h;rfl) | (split at h<;>first | (cases h;done) | (cases h;rfl))
theorem QZ{d e f:Datum}(h:d.product e=some f):f.isNaN=false:=by
 cases d<;>cases e<;>simp only[Datum.product]at h
 all_goals first | (cases h;done) | (cases h;rfl) | (split at h<;>first | (cases h;done) | (cases h;rfl))
theorem Qg{n:Nat}{d e f:Datum}(h:d.quotient n e=some f):f.isNaN=false:=by
 cases d<;>cases e<;>simp only[Datum.quotient]at h
 all_goals first | (cases h;done) | (cases h;rfl) | (split at h<;>first | (cases h;done) | (cases h;rfl) | (split at h<;>first | (cases h;done) | (cases h;rfl)))
theorem adU{n:Nat}{d f:Datum}(h:d.root n=some f):f.isNaN=false:=by
 cases d<;>simp only[Datum.root]at h
 all_goals first | (cases h;done) | (cases h;rfl) | (split at h<;>first | (cases h;done) | (cases h;rfl) | (split at h<;>first | (cases h;done) | (cases h;rfl)))
theorem Ar{o:Option Datum}{r:Nat}(a:∀f,o=some f->f.isNaN=false)(h:o.map double.write=some r):aF r=false:=by
 cases o with
 |none=>cases h
 |some d=>cases h;exact uJ (a d rfl)
theorem RL{x y r:Nat}(h:double.add x y=some r):aF r=false:=Ar (λ _ h=>Tf h) h
theorem RN{x y r:Nat}(h:double.sub x y=some r):aF r=false:=Ar (λ _ h=>Tf h) h
theorem RO{x y r:Nat}(h:double.mul x y=some r):aF r=false:=Ar (λ _ h=>QZ h) h
theorem RP{x y r:Nat}(h:double.div x y=some r):aF r=false:=Ar (λ _ h=>Qg h) h
theorem ada{x r:Nat}(h:double.sqrt x=some r):aF r=false:=Ar (λ _ h=>adU h) h
theorem SL(x y t:Nat):aF ((Question.nanBits .f64 x y).cut t)=true:=by
 have d:(t / 2) % (2 ^ 52 - 1)<2 ^ 52 - 1:=aHY _ (by decide);have a:t % 2<2:=aHY _ (by decide);unfold aF;rw[ow];show decide (9218868437227405312<((t % 2)*2 ^ 63+0x7ff0000000000000+1+(t / 2) % (2 ^ 52 - 1)) % 9223372036854775808)=true;generalize(t / 2) % (2 ^ 52 - 1)=u at d;generalize t % 2=v at a;simp only[UM];have:v=0\/v=1:=by omega
 rcases this with rfl |rfl<;>omega
theorem EF(P:Program)(op:BinOp)(t:TypeId)(g:Nat->Nat->Option Nat)(d:∀x y,floatBits op .f64 x y=g x y)(a:op=.add\/op=.sub\/op=.mul\/op=.quo)
  (i:∀x y,g (cn x) (cn y)=g x y) (f:∀x y r,g x y=some r->aF r=false) (w:World) (b c:Nat) :
  ∃r w',(binOp op t (.float .f64 b) (.float .f64 c)).run P w=.ok (.float .f64 r) w'/\(w'=w\/w'=w.drew)/\cn r=(g (cn b) (cn c)).getD Ct:=by
 rw[i];cases h:g b c with
 |some r =>
  refine⟨r,w,run_float_arith w op t .f64 b c r (by rw[d];exact h),wV rfl,?_⟩;rw[gB (f _ _ _ h)];rfl
 |none =>
  have e:floatBits op .f64 b c=none:=by rw[d];exact h
  refine⟨(Question.nanBits .f64 b c).cut (w.tape w.drawn (.nanBits .f64 b c)),w.drew,?_,Gc rfl,?_⟩
  .rcases a with rfl |rfl |rfl |rfl<;>simp only[floatBits]at e<;>simp[binOp,Op.floatArith,e,Question.forced]
  .rw[kR (SL _ _ _)];rfl
end Go.Ev
namespace Go.Gv
open Go.RowKit Go.Ev
inductive AV where
 |x (v:Value)
 |f (w:Nat)
 |cx (re im:Nat)
 |agg (l:List AV)
 |bK (l:List AV)
 |own (k off:Nat)
 |qX (k sz i sub:Nat)
 |bQ (k sz st len:Nat)
 |view (k sz st sub n:Nat)
 |ref (l:List AV) (off:Nat)
 |iN (l:List AV) (off:Nat)
 |sl (sz n:Nat) (el:Nat->List AV)
 |jd (t:TypeId) (x:AV)
 |fn (g:Fn) (a b:List AV)
 |any
 deriving Inhabited
structure Env where
 w:World
 A:Nat->Prop
 O:Nat->Option (Nat × Nat × Nat)
def Env.fz(E:Env):Env:={ E with O:=λ _=>none }
mutual
def bY:AV->Env->Value->Prop
 |.x v,_,u=>u=v
 |.f a,_,u=>∃b,u=.float .f64 b/\cn b=a
 |.cx a c,_,u=>∃b d,u=.complex .f64 b d/\cn b=a/\cn d=c
 |.agg l,E,u=>∃h,u=.agg h/\jg l E h.toList
 |.bK l,E,u=>∃h,u=.tuple h/\jg l E h.toList
 |.own k off,E,u=>∃b c,E.O k=some (b,c)/\u=.pointer (some ⟨b,off,none⟩)
 |.qX k sz i sub,E,u=>∃b c,E.O k=some (b,c)/\u=.pointer (some ⟨b,i*sz+sub,none⟩)
 |.bQ k sz st len,E,u=>(st=0/\len=0/\u=.slice none 0 0)\/∃b c n,E.O k=some (b,c,n)/\st+len<=n/\n<=c/\u=.slice (some ⟨b,st*sz,none⟩) len (c - st)
 |.view k sz st sub n,E,u=>∃a c,u=.slice a n c/\n<=c/\(n=0\/∃b q,E.O k=some (b,q)/\a=some ⟨b,st*sz+sub,none⟩)
 |.ref l off,E,u=>∃b o cs e fz,u=.pointer (some ⟨b,o+off,none⟩)/\¬E.A b/\E.w.heap[b]?=some (.cells cs e fz)/\lu l E.fz (cs.toList.drop o)
 |.iN l off,E,u=>∃b o cs e fz,u=.pointer (some ⟨b,o+off,none⟩)/\¬E.A b/\E.w.heap[b]?=some (.cells cs e fz)/\lu l E (cs.toList.drop o)
 |.sl sz n el,E,u=>∃a c,u=.slice a n c/\n<=c/\(n=0\/∃b o cs e fz,a=some ⟨b,o,none⟩/\¬E.A b/\E.w.heap[b]?=some (.cells cs e fz)/\∀i,i<n->(el i).length=sz/\lu (el i) E.fz (cs.toList.drop (o+i*sz)))
 |.jd t x,E,u=>∃y,u=.iface t y/\bY x E y
 |.fn g a b,E,u=>∃p j,u=.func g p j/\jg a E p.toList/\jg b E j.toList
 |.any,_,_=>True
def jg:List AV->Env->List Value->Prop
 | [],_,[]=>True
 |x::xs,E,v::vs=>bY x E v/\jg xs E vs
 |_,_,_=>False
def lu:List AV->Env->List Value->Prop
 | [],_,_=>True
 |x::xs,E,v::vs=>bY x E v/\lu xs E vs
 |_::_,_,[]=>False
end
def rel(E:Env)(x:AV)(u:Value):Prop:=bY x E u
def dW(E:Env)(xs:List AV)(us:List Value):Prop:=jg xs E us
def pre(E:Env)(xs:List AV)(us:List Value):Prop:=lu xs E us
structure Env.le(E E':Env):Prop where
 keep:∀b,¬E.A b->∀ob,E.w.heap[b]?=some ob->¬E'.A b/\E'.w.heap[b]?=some ob
 own:∀k b,E.O k=some b->E'.O k=some b
theorem Env.le.refl(E:Env):E.le E:=⟨λ _ h _ a=>⟨h,a⟩,λ _ _ h=>h⟩
theorem Env.le.trans{E E' a:Env}(h:E.le E')(f:E'.le a):E.le a:=⟨λ b d e g=>by obtain⟨j,i⟩:=h.keep b d e g;exact f.keep b j e i,λ k b d=>f.own k b (h.own k b d)⟩
theorem Env.le.fz{E E':Env}(h:E.le E'):E.fz.le E'.fz:=⟨h.keep,λ k b a=>by cases a⟩
mutual
theorem MK:∀(x:AV) {E E':Env} (_:E.le E') (u:Value),bY x E u->bY x E' u
 |.x v,_,_,_,u,d=>by unfold bY at *;exact d
 |.f a,_,_,_,u,d=>by unfold bY at *;exact d
 |.cx a c,_,_,_,u,d=>by unfold bY at *;exact d
 |.agg l,_,_,h,u,d=>by unfold bY at *;obtain⟨B,p,j⟩:=d;exact⟨B,p,zV l h _ j⟩
 |.bK l,_,_,h,u,d=>by unfold bY at *;obtain⟨B,p,j⟩:=d;exact⟨B,p,zV l h _ j⟩
 |.own k off,_,_,h,u,d=>by unfold bY at *;obtain⟨b,c,p,j⟩:=d;exact⟨b,c,h.own k _ p,j⟩
 |.qX k sz i sub,_,_,h,u,d=>by unfold bY at *;obtain⟨b,c,p,j⟩:=d;exact⟨b,c,h.own k _ p,j⟩
 |.bQ k sz st len,_,_,h,u,d=>by
  unfold bY at *;rcases d with d | ⟨b,c,n,p,j⟩
  .exact wV d
  .exact Gc ⟨b,c,n,h.own k _ p,j⟩
 |.view k sz st sub n,_,_,h,u,d=>by
  unfold bY at *;obtain⟨a,c,p,j,q⟩:=d;refine⟨a,c,p,j,?_⟩;rcases q with q | ⟨b,K,r,C⟩
  .exact wV q
  .exact Gc ⟨b,K,h.own k _ r,C⟩
 |.ref l off,_,_,h,u,d=>by unfold bY at *;obtain⟨b,o,A,e,fz,p,j,q,r⟩:=d;obtain⟨z,g2⟩:=h.keep b j _ q;exact⟨b,o,A,e,fz,p,z,g2,oZ l h.fz _ r⟩
 |.iN l off,_,_,h,u,d=>by unfold bY at *;obtain⟨b,o,A,e,fz,p,j,q,r⟩:=d;obtain⟨z,g2⟩:=h.keep b j _ q;exact⟨b,o,A,e,fz,p,z,g2,oZ l h _ r⟩
 |.sl sz n el,_,_,h,u,d=>by
  unfold bY at *;obtain⟨a,c,p,j,q⟩:=d;refine⟨a,c,p,j,?_⟩;rcases q with q | ⟨b,o,A,e,fz,r,C,J,G⟩
  .exact wV q
  .obtain⟨z,g2⟩:=h.keep b C _ J;exact Gc ⟨b,o,A,e,fz,r,z,g2,λ i F=>⟨(G i F).1,oZ (el i) h.fz _ (G i F).2⟩⟩
 |.jd t x,_,_,h,u,d=>by unfold bY at *;obtain⟨y,p,j⟩:=d;exact⟨y,p,MK x h y j⟩
 |.fn g a b,_,_,h,u,d=>by unfold bY at *;obtain⟨I,H,p,j,q⟩:=d;exact⟨I,H,p,zV a h _ j,zV b h _ q⟩
 |.any,_,_,_,_,_=>by unfold bY;trivial
theorem zV:∀(xs:List AV) {E E':Env} (_:E.le E') (us:List Value),jg xs E us->jg xs E' us
 | [],_,_,_,[],_=>by unfold jg;trivial
 |x::xs,_,_,h,u::us,hr=>by unfold jg at *;exact⟨MK x h u hr.1,zV xs h us hr.2⟩
 | [],_,_,_,_::_,hr=>by unfold jg at hr;exact hr.elim
 |_::_,_,_,_,[],hr=>by unfold jg at hr;exact hr.elim
theorem oZ:∀(xs:List AV) {E E':Env} (_:E.le E') (us:List Value),lu xs E us->lu xs E' us
 | [],_,_,_,_,_=>by unfold lu;trivial
 |x::xs,_,_,h,u::us,hr=>by unfold lu at *;exact⟨MK x h u hr.1,oZ xs h us hr.2⟩
 |_::_,_,_,_,[],hr=>by unfold lu at hr;exact hr.elim
end
theorem lS{E E':Env}(h:E.le E'){x:AV}{u:Value}(a:rel E x u):rel E' x u:=MK x h u a
theorem Bc{E E':Env}(h:E.le E'){xs:List AV}{us:List Value}(a:dW E xs us):dW E' xs us:=zV xs h us a
theorem lT{E E':Env}(h:E.le E'){xs:List AV}{us:List Value}(a:pre E xs us):pre E' xs us:=oZ xs h us a
theorem cB{E:Env}{v u:Value}:rel E (.x v) u↔u=v:=by unfold rel;first | (rw[bY];done) | (rw[bY];exact aJn)
theorem kU{E:Env}{a:Nat}{u:Value}:rel E (.f a) u↔∃b,u=.float .f64 b/\cn b=a:=by unfold rel;first | (rw[bY];done) | (rw[bY];exact aJn)
theorem ku{E:Env}{l:List AV}{u:Value}:rel E (.agg l) u↔∃a,u=.agg a/\dW E l a.toList:=by unfold rel;first | (rw[bY];done) | (rw[bY];exact aJn)
theorem rE{E:Env}{l:List AV}{u:Value}:rel E (.bK l) u↔∃a,u=.tuple a/\dW E l a.toList:=by unfold rel;first | (rw[bY];done) | (rw[bY];exact aJn)
theorem mP{E:Env}{k a:Nat}{u:Value}:rel E (.own k a) u↔∃b c,E.O k=some (b,c)/\u=.pointer (some ⟨b,a,none⟩):=by unfold rel;first | (rw[bY];done) | (rw[bY];exact aJn)
theorem wZ{E:Env}{k sz i sub:Nat}{u:Value}:rel E (.qX k sz i sub) u↔∃b c,E.O k=some (b,c)/\u=.pointer (some ⟨b,i*sz+sub,none⟩):=by unfold rel;first | (rw[bY];done) | (rw[bY];exact aJn)
theorem qc{E:Env}{k sz st sub n:Nat}{u:Value}:rel E (.view k sz st sub n) u↔∃a c,u=.slice a n c/\n<=c/\(n=0\/∃b d,E.O k=some (b,d)/\a=some ⟨b,st*sz+sub,none⟩):=by unfold rel;rw[bY]
theorem dV{E:Env}{k sz st len:Nat}{u:Value}:rel E (.bQ k sz st len) u↔(st=0/\len=0/\u=.slice none 0 0)\/∃b c n,E.O k=some (b,c,n)/\st+len<=n/\n<=c/\u=.slice (some ⟨b,st*sz,none⟩) len (c - st):=by unfold rel;first | (rw[bY];done) | (rw[bY];exact aJn)
theorem nR{E:Env}{l:List AV}{a:Nat}{u:Value}:rel E (.ref l a) u↔∃b o cs e fz,u=.pointer (some ⟨b,o+a,none⟩)/\¬E.A b/\E.w.heap[b]?=some (.cells cs e fz)/\pre E.fz l (cs.toList.drop o):=by unfold rel;first | (rw[bY];done) | (rw[bY];exact aJn)
theorem zD{E:Env}{l:List AV}{a:Nat}{u:Value}:rel E (.iN l a) u↔∃b o cs e fz,u=.pointer (some ⟨b,o+a,none⟩)/\¬E.A b/\E.w.heap[b]?=some (.cells cs e fz)/\pre E l (cs.toList.drop o):=by unfold rel;first | (rw[bY];done) | (rw[bY];exact aJn)
theorem iZ{E:Env}{sz n:Nat}{el:Nat->List AV}{u:Value}:rel E (.sl sz n el) u↔∃a c,u=.slice a n c/\n<=c/\(n=0\/∃b o cs e fz,a=some ⟨b,o,none⟩/\¬E.A b/\E.w.heap[b]?=some (.cells cs e fz)/\∀i,i<n->(el i).length=sz/\pre E.fz (el i) (cs.toList.drop (o+i*sz))):=by unfold rel;first | (rw[bY];done) | (rw[bY];exact aJn)
theorem vI{E:Env}{t:TypeId}{x:AV}{u:Value}:rel E (.jd t x) u↔∃y,u=.iface t y/\rel E x y:=by unfold rel;first | (rw[bY];done) | (rw[bY];exact aJn)
theorem tQ{E:Env}{u:Value}:rel E .any u:=by unfold rel;rw[bY];trivial
theorem bR{E:Env}{us:List Value}:dW E [] us↔us=[]:=by
 unfold dW;cases us with
 |nil=>simp[jg]
 |cons u us=>simp[jg]
theorem aD{E:Env}{x:AV}{xs:List AV}{us:List Value}:dW E (x::xs) us↔∃u a,us=u::a/\rel E x u/\dW E xs a:=by
 unfold dW;cases us with
 |nil=>simp[jg]
 |cons u us=>rw[jg];exact⟨λ h=>⟨u,us,rfl,h⟩,λ⟨_,_,h,g⟩=>by cases h;exact g⟩
theorem pre_nil{E:Env}{us:List Value}:pre E [] us:=by unfold pre;rw[lu];trivial
theorem bF{E:Env}{x:AV}{xs:List AV}{us:List Value}:pre E (x::xs) us↔∃u a,us=u::a/\rel E x u/\pre E xs a:=by
 cases us with
 |nil=>unfold pre;rw[lu];exact⟨λ h=>h.elim,λ⟨_,_,h,_⟩=>by cases h⟩
 |cons u us=>unfold pre;rw[lu];exact⟨λ h=>⟨u,us,rfl,h⟩,λ⟨_,_,h,g⟩=>by cases h;exact g⟩
theorem fO{E:Env}:∀{xs:List AV} {a:List Value},dW E xs a->xs.length=a.length
 | [],a,h=>by rw[bR.1 h];rfl
 |x::xs,a,h=>by obtain⟨u,us,rfl,_,d⟩:=aD.1 h;simp[fO d]
theorem iV{E:Env}:∀{xs:List AV} {a:List Value},dW E xs a->pre E xs a
 | [],a,_=>pre_nil
 |x::xs,a,h=>by obtain⟨u,us,rfl,e,d⟩:=aD.1 h;exact bF.2 ⟨u,us,rfl,e,iV d⟩
theorem GD{E:Env}:∀{xs:List AV} {a:List Value},pre E xs a->xs.length<=a.length
 | [],a,_=>Nat.zero_le _
 |x::xs,a,h=>by obtain⟨u,us,rfl,_,d⟩:=bF.1 h;simp[GD d]
theorem EC{E:Env}:∀{xs:List AV} {a:List Value} {i:Nat} {x:AV},pre E xs a->xs[i]?=some x->∃v,a[i]?=some v/\rel E x v
 | [],_,i,x,_,h=>by simp at h
 |y::xs,a,i,x,hr,h=>by
  obtain⟨u,us,rfl,e,d⟩:=bF.1 hr;cases i with
  |zero=>simp at h;subst h;exact⟨u,rfl,e⟩
  |succ i=>simp at h;simpa using EC d h
theorem w9{E:Env}:∀{xs:List AV} {a:List Value} (o n:Nat),pre E xs a->o+n<=xs.length->dW E ((xs.drop o).take n) ((a.drop o).take n)
 |xs,a,0,0,_,_=>by simp[bR]
 | [],a,0,n+1,_,h=>by simp at h
 |x::xs,a,0,n+1,hr,h=>by obtain⟨u,us,rfl,e,d⟩:=bF.1 hr;simp only[aJw,aJ6];exact aD.2 ⟨u,_,rfl,e,by have:=w9 0 n d (by simp at h ⊢;omega);simpa using this⟩
 | [],a,o+1,n,_,h=>by simp at h
 |x::xs,a,o+1,n,hr,h=>by obtain⟨u,us,rfl,e,d⟩:=bF.1 hr;simp only[aIY];exact w9 o n d (by simp at h ⊢;omega)
theorem akJ{E:Env}{xs:List AV}{a:List Value}{i:Nat}{x:AV}(h:dW E xs a)(d:xs[i]?=some x):∃v,a[i]?=some v/\rel E x v:=EC (iV h) d
theorem X6{E:Env}:∀{xs:List AV} {a:List Value} (i:Nat) {x:AV} {v:Value},dW E xs a->rel E x v->dW E (xs.set i x) (a.set i v)
 | [],a,i,x,v,h,_=>by rw[bR.1 h];simp[bR]
 |y::xs,a,i,x,v,h,hx=>by
  obtain⟨u,us,rfl,e,d⟩:=aD.1 h;cases i with
  |zero=>exact aD.2 ⟨v,us,rfl,hx,d⟩
  |succ i=>exact aD.2 ⟨u,_,rfl,e,X6 i d hx⟩
theorem zW{E:Env}:∀{xs:List AV} {a:List Value} (o:Nat) {ys:List AV} {us:List Value},pre E xs a->dW E ys us->o+ys.length<=xs.length ->
  pre E (xs.take o++(ys++xs.drop (o+ys.length))) (a.take o++us++a.drop (o+us.length))
 |xs,a,0,[],us,h,hr,_=>by rw[bR.1 hr];simpa using h
 | [],_,0,_::_,_,_,_,hl=>by simp at hl
 |x::xs,a,0,y::ys,us,h,hr,hl=>by obtain⟨v,d,rfl,f,e⟩:=bF.1 h;obtain⟨u,g,rfl,i,g2⟩:=aD.1 hr;have:=zW 0 e g2 (by simp at hl ⊢;omega);simp only[aKt,aM1,aKD,aBz,ZO,aIY]at this ⊢;exact bF.2 ⟨u,_,rfl,i,this⟩
 | [],_,o+1,ys,_,_,_,hl=>by simp at hl
 |x::xs,a,o+1,ys,us,h,hr,hl=>by obtain⟨v,d,rfl,f,e⟩:=bF.1 h;have:=zW o e hr (by simp at hl ⊢;omega);simp only[aJ6,aKD];rw[show o+1+ys.length=(o+ys.length)+1 by omega,show o+1+us.length=(o+us.length)+1 by omega];simp only[aIY];exact bF.2 ⟨v,_,rfl,f,this⟩
def Dm:Value->AV
 |.float .f64 b=>.f (cn b)
 |.complex .f64 a b=>.cx (cn a) (cn b)
 |.pointer (some _)=>.any
 |.slice (some _) _ _=>.any
 |.agg _=>.any
 |.tuple _=>.any
 |.iface _ _=>.any
 |.func _ _ _=>.any
 |.map (some _)=>.any
 |.chan (some _)=>.any
 |v=>.x v
theorem X7(E:Env)(v:Value):rel E (Dm v) v:=by
 unfold Dm;split
 .exact kU.2 ⟨_,rfl,rfl⟩
 .unfold rel;rw[bY];exact⟨_,_,rfl,rfl,rfl⟩
 all_goals first |exact tQ |exact cB.2 rfl
def rH:Value->Bool
 |.bool _=>true
 |.int _ _=>true
 |.string _=>true
 |_=>false
def X8:Value->AV
 |.float .f64 b=>.f (cn b)
 |.bool b=>.x (.bool b)
 |.int k n=>.x (.int k n)
 |.string s=>.x (.string s)
 |_=>.any
theorem zX(E:Env)(v:Value):rel E (X8 v) v:=by
 unfold X8;split
 .exact kU.2 ⟨_,rfl,rfl⟩
 all_goals first |exact tQ |exact cB.2 rfl
theorem sM(E:Env):∀(a:List Value),dW E (a.map Dm) a
 | []=>bR.2 rfl
 |v::a=>aD.2 ⟨v,a,rfl,X7 E v,sM E a⟩
def jP{α:Type}(P:Program):Sem α->Option α
 |.pure a=>some a
 |.program k=>jP P (k P)
 |_=>none
theorem fJ{α:Type}{P:Program}(w:World):∀{s:Sem α} {a:α},jP P s=some a->s.run P w=.ok a w:=by
 intro s
 induction s with
 |pure b=>intro a h;simp[jP]at h;subst h;rfl
 |program k ih=>intro a h;simp only[Sem.run];exact ih P h
 |_=>intro a h;simp[jP]at h
def lZ:AV->Bool
 |.x (.agg _)=>false
 |.x (.tuple _)=>false
 |.agg _=>false
 |.bK _=>false
 |.any=>false
 |_=>true
def xg:AV->Bool
 |.agg l=>l.all lZ
 |x=>lZ x
def AV.cells:AV->List AV
 |.agg l=>l
 |y=>[y]
theorem yE{E:Env}{x:AV}{v:Value}(h:rel E x v)(e:lZ x=true):v.oneCell'=true:=by
 cases x with
 |x u=>rw[cB.1 h];cases u<;>first |rfl | (simp[lZ]at e)
 |f a=>obtain⟨b,rfl,_⟩:=kU.1 h;rfl
 |cx a c=>unfold rel at h;rw[bY]at h;obtain⟨b,d,rfl,_⟩:=h;rfl
 |own k o=>obtain⟨b,c,_,rfl⟩:=mP.1 h;rfl
 |qX k sz i s=>obtain⟨b,c,_,rfl⟩:=wZ.1 h;rfl
 |bQ k sz st len=>rcases dV.1 h with⟨_,_,rfl⟩ | ⟨b,c,n,_,_,_,rfl⟩<;>rfl
 |view k sz st sub n=>obtain⟨a,c,rfl,_⟩:=qc.1 h;rfl
 |ref l o=>obtain⟨b,_,_,_,_,rfl,_⟩:=nR.1 h;rfl
 |iN l o=>obtain⟨b,_,_,_,_,rfl,_⟩:=zD.1 h;rfl
 |sl sz n el=>obtain⟨a,c,rfl,_⟩:=iZ.1 h;rfl
 |jd t x=>obtain⟨y,rfl,_⟩:=vI.1 h;rfl
 |fn g a b=>unfold rel at h;rw[bY]at h;obtain⟨p,j,rfl,_⟩:=h;rfl
 |_=>simp[lZ]at e
theorem UG{v:Value}(h:v.oneCell'=true):v.cells=#[v]:=by cases v<;>first |rfl |simp[Value.oneCell']at h
theorem KA{E:Env}{x:AV}{v:Value}(h:rel E x v)(a:xg x=true):dW E x.cells v.cells.toList:=by
 have one:∀(_:lZ x=true) (_:x.cells=[x]),dW E x.cells v.cells.toList:=by intro d e;rw[UG (yE h d),e];exact aD.2 ⟨v,[],rfl,h,bR.2 rfl⟩
 cases x with
 |agg l=>obtain⟨g,rfl,f⟩:=ku.1 h;exact f
 |_=>exact one a rfl
theorem cells_one{E:Env}:∀{xs:List AV} {d:List Value},dW E xs d->xs.all lZ=true->∀u∈d,u.oneCell'=true
 | [],d,h,_,u,a=>by rw[bR.1 h]at a;cases a
 |x::xs,d,h,hx,u,a=>by
  obtain⟨v,e,rfl,g,f⟩:=aD.1 h;simp only[aIk,CX]at hx;rcases List.mem_cons.1 a with rfl |a
  .exact yE g hx.1
  .exact cells_one f hx.2 u a
theorem UH{x:AV}(h:xg x=true):x.cells.all lZ=true:=by
 cases x with
 |agg l=>exact h
 |_=>simp only[AV.cells,aIk,List.all_nil,Bool.and_true];exact h
def known:Nat->Option (List AV):=λ _=>none
def aqz:Nat->Bool:=λ t=>Nat.beq t 3
noncomputable section
inductive Row where
 |c (l:List AV)
 |a (e:TypeId) (sz n:Nat) (el:Nat->List AV)
 |dead
 |z (x:Bool) (e:TypeId) (sz n:Nat) (el:Nat->List AV)
 |t (e:TypeId) (l:List AV)
 |i (s:ByteArray) (p:Nat) (e:Bool)
def lQ(E:Env)(b:Nat)(c:Nat × Nat):Row->Prop
 |.c l=>∃cs e,E.w.heap[b]?=some (.cells cs e (0,0))/\pre E l cs.toList
 |.a e sz n el=>∃cs,E.w.heap[b]?=some (.cells cs e (0,0))/\cs.size=c.1*sz/\c.2=n/\n<=c.1/\c.1<=maxLen/\∀i,i<n->(el i).length=sz/\pre E.fz (el i) (cs.toList.drop (i*sz))
 |.dead=>True
 |.z x e sz n el=>∃cs fz,E.w.heap[b]?=some (.cells cs e fz)/\c.2=n/\(x=true->c.1=n/\cs.size=n*sz)/\∀i,i<n->(el i).length=sz/\pre E.fz (el i) (cs.toList.drop (i*sz))
 |.t e l=>∃cs,E.w.heap[b]?=some (.cells cs e (0,0))/\pre E l cs.toList/\cs.size=l.length
 |.i s p e=>E.w.heap[b]?=some (.stringIter s p)/\e=apB s.size p
def uN(E:Env)(mem:List Row):Prop:=∀k b c,E.O k=some (b,c)->∃row,mem[k]?=some row/\lQ E b c row
abbrev Chain:=List (Nat × Bool)
def dflt:AV × Chain:=(.x undef,[])
structure St where
 slots:List (AV × Chain)
 mem:List Row
def aI(s:St):Operand->AV
 |.tmp t=>(s.slots.getD t dflt).1
 |.const v=>Dm v
 |.global g=>match known g with
  |some l=>.ref l 0
  |none=>.any
 |.func f=>.fn (.func f) [] []
def xk(E:Env):Prop:=∀g l,known g=some l->rel E (.ref l 0) (.pointer (some ⟨g,0,none⟩))/\∀a e fz,E.w.heap[g]?=some (.cells a e fz)->a.size=l.length
theorem vo{E E':Env}(h:E.le E')(k:xk E):xk E':=λ g l j=>by obtain⟨a,p⟩:=k g l j;refine⟨lS h a,λ t e fz f=>?_⟩;have a:bY _ _ _:=a;rw[bY]at a;obtain⟨b,o,r,e0,q,d,n,i,_⟩:=a;simp only[Value.pointer.injEq,gU,Addr.mk.injEq]at d;obtain⟨rfl,_⟩:=d;have:=(h.keep g n _ i).2;rw[this]at f;cases f;exact p _ _ _ i
theorem Db{E:Env}(d:xk E)(f:Nat->Option (Nat × Nat × Nat)):xk { E with O:=f }:=λ g l a=>by obtain⟨h,e⟩:=d g l a;refine⟨?_,e⟩;have h:bY _ _ _:=h;show bY _ _ _;rw[bY]at h ⊢;exact h
theorem KC{E:Env}(h:∀g,known g=none):xk E:=λ g l a=>by rw[h g]at a;cases a
def aat(mem:List Row):AV->Option (Bool × List AV × Nat)
 |.own k off=>match mem[k]? with
  |some (.c l)=>some (true,l,off)
  |some (.t _ l)=>some (true,l,off)
  |_=>none
 |.qX k sz i sub=>match mem[k]? with
  |some (.a _ sz' n el)=>cond (sz==sz') (some (Tv i n,el i,sub)) none
  |_=>none
 |.ref l off=>some (true,l,off)
 |.iN l off=>some (true,l,off)
 |_=>none
theorem akK{E:Env}{l:List AV}{us:List Value}(h:pre E.fz l us):pre E l us:=lT (E:=E.fz) (E':=E) ⟨λ _ e _ d=>⟨e,d⟩,λ _ _ a=>by cases a⟩ h
theorem X9{E:Env}{mem:List Row}(y:uN E mem){x:AV}{v:Value}(hv:rel E x v){l:List AV}{o:Nat}(h:aat mem x=some (true,l,o)) :
  ∃b f cs e fz,v=.pointer (some ⟨b,f+o,none⟩)/\E.w.heap[b]?=some (.cells cs e fz)/\pre E l (cs.toList.drop f):=by
 cases x with
 |own k g =>
  obtain⟨b,c,u,rfl⟩:=mP.1 hv;obtain⟨row,t,a⟩:=y k b c u;simp only[aat,t]at h;cases row<;>simp only at h<;>first | (cases h;done) |skip
  .cases h;obtain⟨cs,e,p,d⟩:=a;exact⟨b,0,cs,e,(0,0),by rw[ZO],p,by simpa using d⟩
  .cases h;obtain⟨cs,p,d,_⟩:=a;exact⟨b,0,cs,_,(0,0),by rw[ZO],p,by simpa using d⟩
 |qX k sz i sub =>
  obtain⟨b,c,u,rfl⟩:=wZ.1 hv;obtain⟨row,t,a⟩:=y k b c u;simp only[aat,t]at h;cases row<;>simp only at h<;>first | (cases h;done) |skip
  rename_i e0 q n el;cases r:sz==q
  .rw[r]at h;cases h
  .rw[r]at h;simp only[aY,gU,Ew]at h;obtain⟨p,rfl,rfl⟩:=h;have e1:=Aw r;subst e1;obtain⟨cs,d,_,_,_,_,j⟩:=a;exact⟨b,i*sz,cs,e0,(0,0),rfl,d,akK (j i (Ou p)).2⟩
 |ref l' g =>
  obtain⟨b,f,cs,e,fz,rfl,_,d,j⟩:=nR.1 hv;simp only[aat,gU,Ew]at h;obtain⟨_,rfl,rfl⟩:=h;exact⟨b,f,cs,e,fz,rfl,d,akK j⟩
 |iN l' g =>
  obtain⟨b,f,cs,e,fz,rfl,_,d,j⟩:=zD.1 hv;simp only[aat,gU,Ew]at h;obtain⟨_,rfl,rfl⟩:=h;exact⟨b,f,cs,e,fz,rfl,d,j⟩
 |_=>simp[aat]at h
def Bf:AV->Nat->Option AV
 |.own k o,n=>some (.own k (o+n))
 |.qX k sz i s,n=>some (.qX k sz i (s+n))
 |.ref l o,n=>some (.ref l (o+n))
 |.iN l o,n=>some (.iN l (o+n))
 |_,_=>none
theorem KD{E:Env}{x y:AV}{v:Value}{n:Nat}(hv:rel E x v)(h:Bf x n=some y):∃b o,v=.pointer (some ⟨b,o,none⟩)/\rel E y (.pointer (some ⟨b,o+n,none⟩)):=by
 cases x with
 |own k a =>
  obtain⟨b,c,f,rfl⟩:=mP.1 hv;cases h;exact⟨b,a,rfl,mP.2 ⟨b,c,f,rfl⟩⟩
 |qX k sz i sub =>
  obtain⟨b,c,f,rfl⟩:=wZ.1 hv;cases h;exact⟨b,_,rfl,wZ.2 ⟨b,c,f,by rw[aIW]⟩⟩
 |ref l' a =>
  obtain⟨b,d,p,e,fz,rfl,l,j,g⟩:=nR.1 hv;cases h;exact⟨b,_,rfl,nR.2 ⟨b,d,p,e,fz,by rw[aIW],l,j,g⟩⟩
 |iN l' a =>
  obtain⟨b,d,p,e,fz,rfl,l,j,g⟩:=zD.1 hv;cases h;exact⟨b,_,rfl,zD.2 ⟨b,d,p,e,fz,by rw[aIW],l,j,g⟩⟩
 |_=>simp[Bf]at h
def mg:TypeDesc->Bool
 |.struct _=>true
 |.array _ _=>true
 |_=>false
def I9(P:Program)(t:TypeId)(cells:List AV)(o:Nat):Option AV :=
 match P.underlying t,P.info? t with
 |some d,some i=>cond (mg d) (cond (apB (o+i.size) cells.length) (some (.agg ((cells.drop o).take i.size))) none) (cells[o]?)
 |_,_=>none
def abo(P:Program)(t:TypeId)(x:AV)(f:Nat):Option AV :=
 match P.underlying t with
 |some (.struct fields) =>
  match fields[f]? with
  |some d=>match P.info? d.type with
   |some a=>cond (a.size==0) none (Bf x d.offset)
   |none=>none
  |none=>none
 |_=>none
def abp(P:Program)(t:TypeId)(x ix:AV):Option (Bool × AV) :=
  match ix with
  | .x (.int _ k)=>match P.underlying t with
    |some (.array n e)=>match P.info? e with
      |some a=>(Bf x (k.toNat*a.size)).map λ y=>(decide (0<=k)&&decide (k<(n:Int)),y)
      |none=>none
    |some (.slice e)=>match P.info? e with
      |some a=>match x with
        |.sl sz n el=>cond (sz==a.size) (some (decide (0<=k)&&decide (k<(n:Int)),.ref (el k.toNat) 0)) none
        |.bQ j sz st len=>cond (sz==a.size) (some (decide (0<=k)&&decide (k<(len:Int)),.qX j sz (st+k.toNat) 0)) none
        |.view j sz st sub len=>cond (sz==a.size) (some (decide (0<=k)&&decide (k<(len:Int)),.qX j sz (st+k.toNat) sub)) none
        |_=>none
      |none=>none
    |_=>none
  |_=>none
def aeW(P:Program)(t:TypeId)(x ix:AV):Option AV :=
 match ix,x,P.underlying t with
 |.x (.int _ k),.agg cs,some (.array n e)=>match P.info? e with
  |some a=>cond (decide (0<=k)&&decide (k<(n:Int))) (I9 P e cs (k.toNat*a.size)) none
  |none=>none
 |_,_,_=>none
def akL(P:Program)(t:TypeId)(x:AV)(f:Nat):Option AV :=
 match x,P.underlying t with
 |.agg cs,some (.struct fields)=>match fields[f]? with
  |some a=>I9 P a.type cs a.offset
  |none=>none
 |_,_=>none
def aqA(op:BinOp)(a b:Nat):Option AV :=
 match op with
 |.add=>some (.f (aM a b))
 |.sub=>some (.f (aU a b))
 |.mul=>some (.f (aX a b))
 |.quo=>some (.f (fdiv a b))
 |.eql=>some (.x (.bool (dR a b)))
 |.neq=>some (.x (.bool (!dR a b)))
 |.lss=>some (.x (.bool (dN a b)))
 |.leq=>some (.x (.bool (iB a b)))
 |.gtr=>some (.x (.bool (bW a b)))
 |.geq=>some (.x (.bool (iL a b)))
 |_=>none
def aqC(_op:BinOp)(_a _b _c _d:Nat):Option AV:=none
def Oj(P:Program)(t:TypeId):Bool :=
 match P.underlying t with
 |some d=>mg d
 |none=>false
def aeq(P:Program):Nat->TypeId->List AV->List AV->Option Bool
  | 0,_,_,_=>none
  |n+1,t,xs,ys=>match P.underlying t with
    |some (.struct fs)=>cond (P.stoodInHeld t) none (fs.toList.foldr (λ f g=>match P.info? f.type,g with
      | some d, some b => cond ((f.name == "_") || (d.size == 0) || Tv xs.length (f.offset + d.size) || Tv ys.length (f.offset + d.size)) none
          ((aeq P n f.type ((xs.drop f.offset).take d.size) ((ys.drop f.offset).take d.size)).map (·&&b))
      |_,_=>none) (some true))
    | some (.array len e)=>match P.info? e with
      |some d=>(aFB len).foldr (λ i g=>match g with
        |some b=>cond ((d.size==0)||Tv xs.length (i*d.size+d.size)||Tv ys.length (i*d.size+d.size)) none
            ((aeq P n e ((xs.drop (i*d.size)).take d.size) ((ys.drop (i*d.size)).take d.size)).map (·&&b))
        |none=>none) (some true)
      |none=>none
    |some (.float .f64)=>match xs,ys with
      | [.f a],[.f b]=>some (dR a b)
      |_,_=>none
    |some (.int _)=>match xs,ys with
      | [.x (.int k a)],[.x (.int k' b)]=>cond (decide (k=k')) (some (a==b)) none
      |_,_=>none
    |some .bool=>match xs,ys with
      | [.x (.bool a)],[.x (.bool b)]=>some (a==b)
      |_,_=>none
    |_=>none
def sAt(s:ByteArray)(i:Nat):Int:=((s.data.toList.getD i 0).toNat:Int)
def aw6(P:Program)(t:TypeId)(x ix:AV):Option (Bool × AV) :=
 match x with
 |.x (.string s)=>match ix,P.underlying t with
  |.x (.int _ k),some .string=>some (decide (0<=k)&&decide (k<(s.size:Int)),.x (.int .u8 (sAt s k.toNat)))
  |_,_=>none
 |_=>(aeW P t x ix).map λ y=>(true,y)
def akM(a b:ByteArray):Bool:=decide (((a.size+b.size:Nat):Int)<=IntKind.i64.max)
noncomputable def aCs:ByteArray->ByteArray->Bool:=Classical.choose (⟨akM,rfl⟩:∃f:ByteArray->ByteArray->Bool,f=akM)
theorem aqD:aCs=akM:=Classical.choose_spec (⟨akM,rfl⟩:∃f:ByteArray->ByteArray->Bool,f=akM)
def aqE(op:BinOp)(u v:Value):Option (Bool × AV) :=
 match u,v with
 |.int .i64 a,.int .i64 b=>match op with
  |.rem=>some (!(b==0),.x (.int .i64 (a.tmod b)))
  |.quo=>some (!(b==0),.x (.int .i64 (IntKind.i64.wrap (a.tdiv b))))
  |_=>none
 |.string a,.string b=>match op with
  |.add=>some (aCs a b,.x (.string (a++b)))
  |_=>none
 |_,_=>none
def aw7(P:Program)(op:BinOp)(t:TypeId)(x y:AV):Option (Bool × AV) :=
 match x,y with
 |.f a,.f b=>(aqA op a b).map λ r=>(true,r)
 |.cx a b,.cx c d=>(aqC op a b c d).map λ r=>(true,r)
 |.agg xs,.agg ys=>cond (Oj P t&&!P.eqGuardType P.depth t) (match op,aeq P 8 t xs ys with
  |.eql,some b=>some (true,.x (.bool b))
  |.neq,some b=>some (true,.x (.bool !b))
  |_,_=>none) none
 |.x u,.x v=>cond (rH u&&rH v) (match aqE op u v with
  |some r=>some r
  |none=>(jP P (binOp op t u v)).map λ r=>(true,X8 r)) none
 |_,_=>none
def Ja:TypeDesc->Bool
 |.interface _=>true
 |_=>false
def zY(P:Program)(t:TypeId):Bool :=
 match P.underlying t with
 |some d=>Ja d
 |none=>false
def zZ(P:Program)(t:TypeId):Bool :=
 match P.underlying t with
 |some (.slice _)=>true
 |_=>false
def Bh(P:Program)(t:TypeId):Bool :=
 match P.underlying t with
 |some (.pointer _)=>true
 |_=>false
def isConst:Operand->Bool
 |.const _=>true
 |_=>false
def pO(op:BinOp)(b:Bool):Option AV :=
 match op with
 |.eql=>some (.x (.bool b))
 |.neq=>some (.x (.bool !b))
 |_=>none
def akN(P:Program)(op:BinOp)(t:TypeId)(x y:Operand)(a b:AV):Option (Bool × AV) :=
 match a,b with
 |.x .nilIface,.x .nilIface=>cond ((isConst x||isConst y)&&zY P t) ((pO op true).map λ r=>(true,r)) none
 |.jd _ _,.x .nilIface=>cond (zY P t) ((pO op false).map λ r=>(true,r)) none
 |.sl _ n _,.x (.slice none 0 0)=>cond (zZ P t) ((pO op false).map λ r=>(Tv 0 n,r)) none
 |.own _ _,.x (.pointer none)=>cond (Bh P t) ((pO op false).map λ r=>(true,r)) none
 |.ref _ _,.x (.pointer none)=>cond (Bh P t) ((pO op false).map λ r=>(true,r)) none
 |.x (.pointer none),.x (.pointer none)=>cond (Bh P t) ((pO op true).map λ r=>(true,r)) none
 |.x (.slice ad _ _),.x (.slice none 0 0)=>cond (zZ P t) ((pO op ad.isNone).map λ r=>(true,r)) none
 |a,b=>aw7 P op t a b
def lacks(a:Array (String × TypeId))(d:Array Method):Bool :=a.toList.any λ p=>!d.any λ m=>m.name==p.1&&m.sig==p.2
def Jb(P:Program)(t:TypeId)(a:String):Option Nat :=
 match P.info? t,P.underlying t with
 |some d,some (.struct _)=>match d.methods.find? (λ m=>m.name==a)with
  |some m=>match m.func with
   |some (f,false)=>cond m.path.isEmpty (some f) none
   |_=>none
  |none=>none
 |_,_=>none
def UJ(P:Program)(x:AV)(asserted:TypeId)(ok:Bool):Option AV :=
  match x with
  |.jd t v=>match P.underlying asserted with
    | some (.interface want)=>match P.info? t with
      |some a=>cond (lacks want a.methods)
          (cond ok (match jP P (zeroValue asserted)with
            |some .nilIface=>some (.bK [.x .nilIface,.x (.bool false)])
            |_=>none) none)
          (cond ok (some (.bK [.jd t v,.x (.bool true)])) (some (.jd t v)))
      |none=>none
    |_=>none
  |_=>none
def aun(P:Program)(op:UnOp)(x:AV):Option AV :=
 match op,x with
 |.neg,.f a=>some (.f (dG a))
 |op,.x u=>cond (rH u) ((jP P (aOc op u)).map X8) none
 |_,_=>none
def Aa(place:Nat->Option (Nat × Nat)):List AV->List (Nat × AV)->Option (List AV)
 |cells,[]=>some cells
 |cells,(i,x)::rest=>match place i with
  |some (off,size)=>cond (xg x&&((x.cells.length==size)&&apB (off+size) cells.length)) (Aa place (x.cells.zipIdx.foldl (λ cs p=>cs.set (off+p.2) p.1) cells) rest) none
  |none=>none
def abq(P:Program)(t:TypeId)(parts:List (Nat × AV)):Option AV :=
 match jP P (zeroValue t)with
 |some z=>match P.underlying t with
  |some (.struct fields)=>match jP P (fields.mapM (m:=Sem) λ f=>do pure (f.offset,<-sizeOf f.type))with
   |some places=>(Aa (places[·]?) (z.cells.toList.map Dm) parts).map .agg
   |none=>none
  |some (.array _ elem)=>match jP P (sizeOf elem)with
   |some a=>(Aa (λ i=>some (i*a,a)) (z.cells.toList.map Dm) parts).map .agg
   |none=>none
  |_=>none
 |none=>none
end
section
variable{P:Program}{w:World}
def Ce(P:Program)(t:TypeId)(us:List Value)(X:Value):Prop :=
 match P.underlying t with
 |some (.struct _)=>X=.agg us.toArray
 |some (.array _ _)=>X=.agg us.toArray
 |_=>us=[X]
theorem Bj{t:TypeId}{us:List Value}{o:Nat}{a:TypeInfo}{d:TypeDesc}(g:P.underlying t=some d)(hi:P.info? t=some a)(j:o+a.size<=us.length)(l:mg d=true\/a.size=1) :
  ∃X,(part t us.toArray o).run P w=.ok X w/\Ce P t ((us.drop o).take a.size) X:=by
 cases k:mg d
 .have i:a.size=1:=by rcases l with h |h;(rw[k]at h;cases h);exact h
  have f:o<us.length:=by omega
  have e:(isAgg t).run P w=.ok false w:=by unfold isAgg;rw[QJ,run_underlying g w];cases d<;>simp_all[mg]
  refine⟨us[o],by simp[part,e,f],?_⟩
  have:(us.drop o).take a.size=[us[o]]:=by rw[i,List.drop_eq_getElem_cons f,aJ6,aKt]
  unfold Ce;rw[g,this];cases d<;>simp_all[mg]
 .have e:(isAgg t).run P w=.ok true w:=by unfold isAgg;rw[QJ,run_underlying g w];cases d<;>simp_all[mg]
  refine⟨.agg (us.toArray.extract o (o+a.size)),by simp[part,e,sizeOf,typeInfo,hi],?_⟩;unfold Ce;rw[g];cases d<;>simp_all[mg,aLp]
def ED(d:Nat)(e:TypeId)(a:Nat)(xs ys:Array Value):List Nat->Sem Bool
 | []=>pure true
 |i::l=>do
  let x <-part e xs (i*a);let y <-part e ys (i*a);let r <-aHA d e x y
  if(!r)=true then pure false else ED d e a xs ys l
theorem run_equalIn_array(d:Nat)(t e:TypeId)(len:Nat)(f:TypeInfo)(xs ys:Array Value)(k:P.underlying t=some (.array len e))(hi:P.info? e=some f) :
  (aHA (d+1) t (.agg xs) (.agg ys)).run P w=(ED d e f.size xs ys (aFB len)).run P w:=by
 have g:(Go.sizeOf e).run P w=.ok f.size w:=by simp[Go.sizeOf,typeInfo,hi]
 simp only[aHA,QJ,run_underlying k,uT,g,Std.Legacy.Range.forIn_eq_forIn_range',Std.Legacy.Range.size,Nat.sub_zero,Nat.add_one_sub_one,Nat.div_one,<-List.range_eq_range'];generalize aFB len=l;clear g
 induction l generalizing w with
 |nil=>simp[ED]
 |cons i l ih =>
  simp only[List.forIn_cons,ED,QJ,aLq];generalize(part e xs (i*f.size)).run P w=r1;cases r1 with
  |ok a j =>
   simp only[uT];generalize(part e ys (i*f.size)).run P j=r2;cases r2 with
   |ok b h =>
    simp only[uT];generalize(aHA d e a b).run P h=r3;cases r3 with
    |ok r w3 =>
     cases r
     .simp only[uT,Bool.not_false,if_true,aax]
     .simp only[uT,Bool.not_true,aFs,if_false,aax];exact ih
    |halt x w3=>simp[aKL]
   |halt x h=>simp[aKL]
  |halt x j=>simp[aKL]
theorem UK{a:Array (String × TypeId)}{d:Array Method}(h:lacks a d=false):aIX a d=none:=by
 unfold lacks at h;unfold aIX
 have:a.toList.filter (λ(x:String × TypeId)=>!d.any λ m=>m.name==x.1&&m.sig==x.2)=[]:=by rw[List.filter_eq_nil_iff];intro p e hq;have:(a.toList.any λ p=>!d.any λ m=>m.name==p.1&&m.sig==p.2)=true:=aK6.2 ⟨p,e,hq⟩;rw[h]at this;cases this
 simp only[this];rfl
theorem UL{d:Array (String × TypeId)}{e:Array Method}(h:lacks d e=true):∃m,aIX d e=some m:=by
 unfold lacks at h;unfold aIX;obtain⟨p,j,hq⟩:=aK6.1 h;have k:p∈d.toList.filter (λ(x:String × TypeId)=>!e.any λ m=>m.name==x.1&&m.sig==x.2):=aII.2 ⟨j,hq⟩;simp only;have f:p.1∈(d.toList.filter (λ(x:String × TypeId)=>!e.any λ m=>m.name==x.1&&m.sig==x.2)).map (·.1):=List.mem_map.2 ⟨p,k,rfl⟩;generalize(d.toList.filter (λ(x:String × TypeId)=>!e.any λ m=>m.name==x.1&&m.sig==x.2)).map (·.1)=l at f;simp only[List.partition_eq_filter_filter];by_cases i:p.1.contains '.'=true
 .have g:p.1∈l.filter (λ x=>x.contains '.'):=aII.2 ⟨f,i⟩;generalize l.filter (λ x=>x.contains '.')=l1 at g;generalize l.filter (not ∘ λ x=>x.contains '.')=l2;cases l2 with
  |nil=>cases l1 with
   |nil=>cases g
   |cons a l1=>exact⟨_,rfl⟩
  |cons a l2=>exact⟨_,rfl⟩
 .have g:p.1∈l.filter (not ∘ λ x=>x.contains '.'):=aII.2 ⟨f,by simpa using i⟩;generalize l.filter (λ x=>x.contains '.')=l1;generalize l.filter (not ∘ λ x=>x.contains '.')=l2 at g;cases l2 with
  |nil=>cases g
  |cons a l2=>exact⟨_,rfl⟩
theorem Jc{t:TypeId}{a:String}{f n:Nat}{v:Value}(h:Jb P t a=some f):(method (n+1) t v a).run P w=.ok (f,v) w:=by
 unfold Jb at h;split at h
 .rename_i k o j d;split at h
  .rename_i m l;split at h
   .rename_i p i;cases g:m.path.isEmpty
    .rw[g]at h;cases h
    .rw[g]at h;cases h;have e:m.path=#[]:=by simpa using g
     simp[method,typeInfo,j,l,e,follow,i,receiverAt,run_underlying d,Place.get]
   .cases h
  .cases h
 .cases h
theorem aqF(p:Nat):cn (aMO .f64 p)=dG (cn p):=by
 have e:aMO .f64 p=p ^^^ 9223372036854775808:=by unfold aMO;rfl
 have d:(p ^^^ 9223372036854775808) % 9223372036854775808=p % 9223372036854775808:=by rw[show(9223372036854775808:Nat)=2 ^ 63 from by decide];rw[Nat.xor_mod_two_pow,Nat.mod_self];simp
 have a:aF (p ^^^ 9223372036854775808)=aF p:=by unfold aF;rw[ow,ow,d]
 rw[e];unfold dG;rw[xq];cases h:aF p
 .rw[gB (by rw[a];exact h),gB h];rfl
 .rw[kR (by rw[a];exact h)];rfl
theorem RG{t:TypeId}{us:Array Value}(a:Oj P t=true):Ce P t us.toList (.agg us):=by
 unfold Oj at a;unfold Ce;cases e:P.underlying t with
 |none=>rw[e]at a;cases a
 |some d =>
  rw[e]at a;cases d<;>simp[mg]at a<;>simp
theorem za{op:BinOp}{t:TypeId}{x y:Operand}{a b:Value}(h:(match a with |.nilIface=>false |.agg _=>false |_=>true)=true):(eqGuard op t x y a b).run P w=.ok () w:=by unfold eqGuard;cases op<;>cases a<;>first |rfl |simp at h
theorem FP{t:TypeId}(h:zY P t=true):∃ms,P.underlying t=some (.interface ms):=by
 unfold zY at h;cases a:P.underlying t with
 |none=>rw[a]at h;cases h
 |some d=>rw[a]at h;cases d<;>first | (cases h;done) |exact⟨_,rfl⟩
theorem Ol{t:TypeId}{cells:List AV}{o:Nat}{x:AV}{E:Env}{us:List Value}(e:I9 P t cells o=some x)(i:pre E cells us):∃d a,P.underlying t=some d/\P.info? t=some a /\
  ((mg d=false/\∃u,us[o]?=some u/\rel E x u)\/(mg d=true/\o+a.size<=cells.length/\x=.agg ((cells.drop o).take a.size)/\dW E ((cells.drop o).take a.size) ((us.drop o).take a.size))):=by
 unfold I9 at e;cases h:P.underlying t with
 |none=>simp[h]at e
 |some d =>
  cases j:P.info? t with
  |none=>simp[h,j]at e
  |some a =>
   simp only[h,j]at e;refine⟨d,a,rfl,rfl,?_⟩;cases k:mg d
   .simp only[k,eU]at e;exact wV ⟨rfl,EC i e⟩
   .simp only[k,aY]at e;cases g:apB (o+a.size) cells.length
    .simp[g]at e
    .simp only[g,aY]at e;cases e;have f:=Ou g;exact Gc ⟨rfl,f,rfl,w9 o a.size i f⟩
theorem RH{t:TypeId}{d:TypeDesc}(a:P.underlying t=some d):(isAgg t).run P w=.ok (mg d) w:=by unfold isAgg;rw[QJ,run_underlying a w];cases d<;>simp_all[mg]
theorem RI{E:Env}{mem:List Row}(B:uN E mem){t:TypeId}{l:List AV}{o:Nat}{x y:AV}{v:Value}(q:aat mem x=some (true,l,o))(z:I9 P t l o=some y)(hv:rel E x v):∃u,(aNH t v).run P E.w=.ok u E.w/\rel E y u:=by
 obtain⟨b,f,n,e,fz,rfl,H,A⟩:=X9 B hv q
 have hcell:∀j,E.w.cell? ⟨b,f+o+j,none⟩=(n.toList.drop f)[o+j]?:=λ j=>by rw[cell_of_row E.w b (f+o+j) n e fz H,anb,aIW];simp
 obtain⟨d,g,r,G,hcase⟩:=Ol z A;rcases hcase with⟨p,u,I,k⟩ | ⟨p,C,rfl,k⟩
 .refine⟨u,?_,k⟩;have a:=RH (P:=P) (w:=E.w) r;rw[p]at a;have i:=hcell 0;rw[aIA,aIA,I]at i;simp[aNH,aJp,loadVar,a,i]
 .have F:=fO k;refine⟨.agg (((n.toList.drop f).drop o).take g.size).toArray,?_,ku.2 ⟨_,rfl,by simpa using k⟩⟩;refine run_loadAt_mid E.w b (f+o) t (((n.toList.drop f).drop o).take g.size) d ?_ r (by cases d<;>first |rfl |simp[mg]at p) ?_
  .intro j u h;rw[hcell j];rw[List.getElem?_take]at h;split at h
   .rw[anb]at h;exact h
   .cases h
  .rw[G,aaF];congr 1;rw[<-F];simp;omega
theorem GH{E:Env}{t:TypeId}{f:Nat}{x y:AV}{v:Value}(a:abo P t x f=some y)(hv:rel E x v):∃u,(aNs t v f).run P w=.ok u w/\rel E y u:=by
 unfold abo at a;cases i:P.underlying t with
 |none=>simp[i]at a
 |some d =>
  cases d<;>simp only[i]at a<;>first | (cases a;done) |skip
  rename_i fields;cases hf:fields[f]? with
  |none=>simp[hf]at a
  |some fd =>
   simp only[hf]at a;cases j:P.info? fd.type with
   |none=>simp[j]at a
   |some inf =>
    simp only[j]at a;cases h:(inf.size==0)
    .simp only[h,eU]at a;have g:inf.size≠0:=by simpa using h
     obtain⟨b,o,rfl,k⟩:=KD hv a;refine⟨_,?_,k⟩;have e:(⟨b,o,none⟩:Addr).add fd.offset=⟨b,o+fd.offset,none⟩:=by unfold aJ7;split<;>simp_all
     simp[aNs,run_underlying i,hf,aJp,fieldPlace,sizeOf,typeInfo,j,g,e]
    .simp[h]at a
theorem RJ{E:Env}{t:TypeId}{cells:List AV}{cs:Array Value}{o:Nat}{x:AV}(i:I9 P t cells o=some x)(k:pre E cells cs.toList):∃u,(part t cs o).run P w=.ok u w/\rel E x u:=by
 obtain⟨d,e,j,n,hcase⟩:=Ol i k;have a:=RH (P:=P) (w:=w) j;rcases hcase with⟨f,u,p,g⟩ | ⟨f,l,rfl,g⟩
 .rw[f]at a;have h:cs[o]?=some u:=by simpa using p
  exact⟨u,by simp[part,a,h],g⟩
 .rw[f]at a;refine⟨.agg (cs.extract o (o+e.size)),by simp[part,a,sizeOf,typeInfo,n],ku.2 ⟨_,rfl,?_⟩⟩;simpa[aLr,aLp]using g
theorem abr{E:Env}{t:TypeId}{x ix y:AV}{u v:Value}(f:abp P t x ix=some (true,y))(C:rel E x u)(hv:rel E ix v):∃r,(aJv t u v).run P w=.ok r w/\rel E y r:=by
 unfold abp at f;split at f
 .rename_i W k;have F:=cB.1 hv;subst F;split at f
  .rename_i n e l;split at f
   .rename_i d A;cases G:Bf x (k.toNat*d.size)with
    |none=>rw[G]at f;cases f
    |some y' =>
     rw[G]at f;simp only[aaF,gU,Ew]at f;obtain⟨h,rfl⟩:=f;simp only[CX,UM]at h;obtain⟨b,o,rfl,K⟩:=KD C G;refine⟨_,?_,K⟩;have g:(⟨b,o,none⟩:Addr).add (k.toNat*d.size)=⟨b,o+k.toNat*d.size,none⟩:=by unfold aJ7;split<;>simp_all
     simp[aJv,asIntOf,run_underlying l,aJp,sizeOf,typeInfo,A,h.1,h.2,g]
   .cases f
  .rename_i e l;split at f
   .rename_i d A;split at f
    .rename_i i n el;cases q:i==d.size
     .rw[q]at f;cases f
     .rw[q]at f;simp only[aY,gU,Ew]at f;obtain⟨h,rfl⟩:=f;have p:=Aw q;simp only[CX,UM]at h;obtain⟨a,c,rfl,L,hcase⟩:=iZ.1 C;rcases hcase with Q | ⟨b,o,S,R,fz,rfl,O,N,H⟩
      .omega
      .obtain⟨_,B⟩:=H k.toNat (by omega);refine⟨.pointer (some ⟨b,o+k.toNat*d.size,none⟩),?_,nR.2 ⟨b,o+k.toNat*i,S,R,fz,by rw[p,aIA],O,N,B⟩⟩;have g:(⟨b,o,none⟩:Addr).add (k.toNat*d.size)=⟨b,o+k.toNat*d.size,none⟩:=by unfold aJ7;split<;>simp_all
       simp[aJv,asIntOf,run_underlying l,sizeOf,typeInfo,A,h.1,h.2,g]
    .rename_i j i z len;cases q:i==d.size
     .rw[q]at f;cases f
     .rw[q]at f;simp only[aY,gU,Ew]at f;obtain⟨h,rfl⟩:=f;have p:=Aw q;simp only[CX,UM]at h;obtain⟨b,c,U,I,M,_,rfl⟩:=(dV.1 C).resolve_left (λ J=>by have:=J.2.1;omega);refine⟨.pointer (some ⟨b,z*i+k.toNat*d.size,none⟩),?_,wZ.2 ⟨b,_,I,by rw[p,auK,aIA]⟩⟩;have g:(⟨b,z*i,none⟩:Addr).add (k.toNat*d.size)=⟨b,z*i+k.toNat*d.size,none⟩:=by unfold aJ7;split<;>simp_all
      simp[aJv,asIntOf,run_underlying l,sizeOf,typeInfo,A,h.1,h.2,g]
    .rename_i j i z sub len;cases q:i==d.size
     .rw[q]at f;cases f
     .rw[q]at f;simp only[aY,gU,Ew]at f;obtain⟨h,rfl⟩:=f;have p:=Aw q;simp only[CX,UM]at h;obtain⟨a,c,rfl,_,hcase⟩:=qc.1 C;rcases hcase with Q | ⟨b,X,I,rfl⟩
      .omega
      .refine⟨.pointer (some ⟨b,z*i+sub+k.toNat*d.size,none⟩),?_,wZ.2 ⟨b,_,I,by rw[p,auK];congr 3;omega⟩⟩;have g:(⟨b,z*i+sub,none⟩:Addr).add (k.toNat*d.size)=⟨b,z*i+sub+k.toNat*d.size,none⟩:=by unfold aJ7;split<;>simp_all
       simp[aJv,asIntOf,run_underlying l,sizeOf,typeInfo,A,h.1,h.2,g]
    .cases f
   .cases f
  .cases f
 .cases f
theorem ag5{E:Env}{t:TypeId}{x ix y:AV}{u v:Value}(a:aeW P t x ix=some y)(j:rel E x u)(hv:rel E ix v):∃r,(aKJ t u v).run P w=.ok r w/\rel E y r:=by
 unfold aeW at a;split at a
 .rename_i z k A n e g;have f:=cB.1 hv;subst f;split at a
  .rename_i i h;cases d:(decide (0<=k)&&decide (k<(n:Int)))
   .rw[d]at a;cases a
   .rw[d]at a;simp only[aY]at a;simp only[CX,UM]at d;obtain⟨q,rfl,l⟩:=ku.1 j;obtain⟨r,p,o⟩:=RJ (P:=P) (w:=w) a (iV l);refine⟨r,?_,o⟩;simp[aKJ,asIntOf,run_underlying g,sizeOf,typeInfo,h,d.1,d.2,p]
  .cases a
 .cases a
theorem aw8{s:ByteArray}{k:Int}(e:0<=k)(d:k<(s.size:Int)):∃b:UInt8,s[k.toNat]?=some b/\(b.toNat:Int)=sAt s k.toNat:=by
 have a:k.toNat<s.size:=by omega
 refine⟨s[k.toNat],by simp[a],?_⟩;unfold sAt
 have:s.data.toList.getD k.toNat 0=s[k.toNat]:=by rw[List.getD_eq_getElem?_getD,List.getElem?_eq_getElem (show k.toNat<s.data.toList.length by rw[Array.length_toList];exact a)];rfl
 rw[this]
theorem akO{E:Env}{t:TypeId}{x ix y:AV}{u v:Value}(a:aw6 P t x ix=some (true,y))(i:rel E x u)(hv:rel E ix v):∃r,(aKJ t u v).run P w=.ok r w/\rel E y r:=by
 unfold aw6 at a;split at a
 .rename_i s;split at a
  .rename_i o k e;simp only[gU,Ew,CX,UM]at a;obtain⟨⟨j,n⟩,rfl⟩:=a;have d:=cB.1 hv;have f:=cB.1 i;subst d f;obtain⟨b,l,h⟩:=aw8 j n;refine⟨.int .u8 b.toNat,?_,cB.2 (by rw[h])⟩;simp[aKJ,asIntOf,run_underlying e,j,l]
  .cases a
 .cases g:aeW P t x ix with
  |none=>rw[g]at a;cases a
  |some y' =>
   rw[g]at a;simp only[aaF,gU,Ew,true_and]at a;subst a;exact ag5 g i hv
theorem abt{E:Env}{t:TypeId}{x y:AV}{u:Value}{f:Nat}(a:akL P t x f=some y)(g:rel E x u):∃r,(aNT t u f).run P w=.ok r w/\rel E y r:=by
 unfold akL at a;split at a
 .rename_i n fields d;split at a
  .rename_i l e;obtain⟨k,rfl,h⟩:=ku.1 g;obtain⟨r,j,i⟩:=RJ (P:=P) (w:=w) a (iV h);refine⟨r,?_,i⟩;simp[aNT,run_underlying d,e,asAgg,j]
  .cases a
 .cases a
abbrev Dr(w w':World):Prop:=w'=w\/∃k,w'={ w with drawn:=w.drawn+k }
theorem aeX{w w':World}(h:w'=w\/w'=w.drew):Dr w w':=by
 rcases h with h |h
 .exact wV h
 .exact Gc ⟨1,h⟩
theorem ag6{E:Env}{op:BinOp}{t:TypeId}{a b:Nat}{x:AV}{u v:Value}(g:aqA op a b=some x)(j:rel E (.f a) u)(hv:rel E (.f b) v) :
  ∃r w',(binOp op t u v).run P w=.ok r w'/\(w'=w\/w'=w.drew)/\rel E x r:=by
 obtain⟨p,rfl,rfl⟩:=kU.1 j;obtain⟨q,rfl,rfl⟩:=kU.1 hv
 have k:∀(c:Bool) (r:Value),(binOp op t (.float .f64 p) (.float .f64 q)).run P w=.ok (.bool c) w->x=.x (.bool c)->∃r w',(binOp op t (.float .f64 p) (.float .f64 q)).run P w=.ok r w'/\(w'=w\/w'=w.drew)/\rel E x r :=λ c _ e d=>⟨_,_,e,wV rfl,by subst d;exact cB.2 rfl⟩
 cases op<;>simp only[aqA]at g<;>first | (cases g;done) |skip
 case add =>
  cases g;obtain⟨r,w',e,d,i⟩:=EF P .add t Ieee.double.add (λ _ _=>rfl) (wV rfl) aw9 (λ _ _ _ h=>RL h) w p q;exact⟨_,_,e,d,kU.2 ⟨r,rfl,i⟩⟩
 case sub =>
  cases g;obtain⟨r,w',e,d,i⟩:=EF P .sub t Ieee.double.sub (λ _ _=>rfl) (Gc (wV rfl)) axa (λ _ _ _ h=>RN h) w p q;exact⟨_,_,e,d,kU.2 ⟨r,rfl,i⟩⟩
 case mul =>
  cases g;obtain⟨r,w',e,d,i⟩:=EF P .mul t Ieee.double.mul (λ _ _=>rfl) (Gc (Gc (wV rfl))) axb (λ _ _ _ h=>RO h) w p q;exact⟨_,_,e,d,kU.2 ⟨r,rfl,i⟩⟩
 case quo =>
  cases g;obtain⟨r,w',e,d,i⟩:=EF P .quo t Ieee.double.div (λ _ _=>rfl) (Gc (Gc (Gc rfl))) axc (λ _ _ _ h=>RP h) w p q;exact⟨_,_,e,d,kU.2 ⟨r,rfl,i⟩⟩
 all_goals
  cases g;refine k _ undef (by simp only[binOp_float_cmp_eql,binOp_float_cmp_neq,binOp_float_cmp_lss,binOp_float_cmp_leq,binOp_float_cmp_gtr,binOp_float_cmp_geq,aax];rfl) ?_;simp only[dR,dN,iB,bW,iL,Ya];rfl
theorem ag7{E:Env}{op:BinOp}{t:TypeId}{a b c d:Nat}{x:AV}{u v:Value}(e:aqC op a b c d=some x)(_hu:rel E (.cx a b) u)(_hv:rel E (.cx c d) v) :
  ∃r w',(binOp op t u v).run P w=.ok r w'/\Dr w w'/\rel E x r:=by
 unfold aqC at e;cases e
theorem take_length{α:Type}{us:List α}{o n:Nat}(h:o+n<=us.length):((us.drop o).take n).length=n:=by simp;omega
theorem Jd{E:Env}{xs:List AV}{us:List Value}(h:dW E xs us){o n:Nat}(a:o+n<=xs.length):dW E ((xs.drop o).take n) ((us.drop o).take n):=w9 o n (iV h) a
theorem aeY{n:Nat}{t:TypeId}{d:TypeDesc}{xs ys:List AV}{r:Bool}(a:P.underlying t=some d)(e:mg d=false)(h:aeq P n t xs ys=some r):xs.length=1:=by
 cases n with
 |zero=>simp[aeq]at h
 |succ n =>
  unfold aeq at h;rw[a]at h;cases d<;>simp only at h<;>first | (cases h;done) | (cases e;done) |skip
  case bool=>split at h<;>first | (cases h;done) |rfl
  case int k=>split at h<;>first | (cases h;done) |rfl
  case float k=>cases k<;>simp only at h<;>first | (cases h;done) | (split at h<;>first | (cases h;done) |rfl)
theorem Oo{n d:Nat}{E:Env}{xs ys:List AV}{us j:List Value}(i:dW E xs us)(g:dW E ys j)
  (H:∀(t:TypeId) (xs ys:List AV) (us j:List Value) (r:Bool) (X Y:Value),aeq P n t xs ys=some r->dW E xs us->dW E ys j->Ce P t us X->Ce P t j Y->(aHA d t X Y).run P w=.ok r w) :
  ∀(l:List Field) (r:Bool),(l.foldr (λ f F=>match P.info? f.type,F with
   | some a, some b => cond ((f.name == "_") || (a.size == 0) || Tv xs.length (f.offset + a.size) || Tv ys.length (f.offset + a.size)) none
     ((aeq P n f.type ((xs.drop f.offset).take a.size) ((ys.drop f.offset).take a.size)).map (·&&b))
   |_,_=>none) (some true))=some r->(aOA d us.toArray j.toArray l).run P w=.ok r w
 | [],r,h=>by simp at h;subst h;rfl
 |f::l,r,h=>by
  rw[aM4]at h;split at h
  .rename_i a b G R;have N:=Oo i g H l b R
   cases u : ((f.name == "_") || (a.size == 0) || Tv xs.length (f.offset + a.size) || Tv ys.length (f.offset + a.size))
   .rw[u]at h;simp only[eU]at h;simp only[aKg]at u;obtain⟨⟨⟨y,_⟩,K⟩,J⟩:=u
    have k:f.offset+a.size<=xs.length:=by
     rcases aH9 xs.length (f.offset+a.size)with h |h
     .have:Tv xs.length (f.offset+a.size)=true:=agl h;rw[K]at this;cases this
     .exact h
    have x:f.offset+a.size<=ys.length:=by
     rcases aH9 ys.length (f.offset+a.size)with h |h
     .have:Tv ys.length (f.offset+a.size)=true:=agl h;rw[J]at this;cases this
     .exact h
    cases e:aeq P n f.type ((xs.drop f.offset).take a.size) ((ys.drop f.offset).take a.size)with
    |none=>rw[e]at h;cases h
    |some c =>
     rw[e]at h;simp only[aaF,gU]at h;subst h;have M:=fO i;have L:=fO g;cases q:P.underlying f.type with
     |none =>
      cases n with
      |zero=>simp[aeq]at e
      |succ n=>unfold aeq at e;rw[q]at e;cases e
     |some d' =>
      have I:mg d'=true\/a.size=1:=by
       cases Q:mg d'
       .have:=aeY q Q e;rw[take_length k]at this;exact Gc this
       .exact wV rfl
      obtain⟨A,U,C⟩:=Bj (P:=P) (w:=w) (us:=us) (o:=f.offset) q G (by omega) I;obtain⟨B,S,z⟩:=Bj (P:=P) (w:=w) (us:=j) (o:=f.offset) q G (by omega) I;have O:=H f.type _ _ _ _ c A B e (Jd i k) (Jd g x) C z
      have p : f.name ≠ "_" := by simpa using y
      simp only[aOA,p,ne_eq,not_false_eq_true,if_true,QJ,U,uT,S,O,aLq,aax,N];cases c<;>rfl
   .rw[u]at h;cases h
  .cases h
theorem RQ{n d:Nat}{e:TypeId}{a:TypeInfo}{E:Env}{xs ys:List AV}{us k:List Value}(x:P.info? e=some a)(j:dW E xs us)(g:dW E ys k)
  (G:∀(t:TypeId) (xs ys:List AV) (us k:List Value) (r:Bool) (X Y:Value),aeq P n t xs ys=some r->dW E xs us->dW E ys k->Ce P t us X->Ce P t k Y->(aHA d t X Y).run P w=.ok r w) :
  ∀(l:List Nat) (r:Bool),(l.foldr (λ i F=>match F with
    |some b=>cond ((a.size==0)||Tv xs.length (i*a.size+a.size)||Tv ys.length (i*a.size+a.size)) none
      ((aeq P n e ((xs.drop (i*a.size)).take a.size) ((ys.drop (i*a.size)).take a.size)).map (·&&b))
    |none=>none) (some true))=some r->(ED d e a.size us.toArray k.toArray l).run P w=.ok r w
 | [],r,h=>by simp at h;subst h;rfl
 |i::l,r,h=>by
  rw[aM4]at h;split at h
  .rename_i b Q;have M:=RQ x j g G l b Q;cases u:((a.size==0)||Tv xs.length (i*a.size+a.size)||Tv ys.length (i*a.size+a.size))
   .rw[u]at h;simp only[eU]at h;simp only[aKg]at u;obtain⟨⟨_,J⟩,I⟩:=u
    have p:i*a.size+a.size<=xs.length:=by
     rcases aH9 xs.length (i*a.size+a.size)with h |h
     .have:Tv xs.length (i*a.size+a.size)=true:=agl h;rw[J]at this;cases this
     .exact h
    have y:i*a.size+a.size<=ys.length:=by
     rcases aH9 ys.length (i*a.size+a.size)with h |h
     .have:Tv ys.length (i*a.size+a.size)=true:=agl h;rw[I]at this;cases this
     .exact h
    cases f:aeq P n e ((xs.drop (i*a.size)).take a.size) ((ys.drop (i*a.size)).take a.size)with
    |none=>rw[f]at h;cases h
    |some c =>
     rw[f]at h;simp only[aaF,gU]at h;subst h;have L:=fO j;have K:=fO g;cases q:P.underlying e with
     |none =>
      cases n with
      |zero=>simp[aeq]at f
      |succ n=>unfold aeq at f;rw[q]at f;cases f
     |some d' =>
      have H:mg d'=true\/a.size=1:=by
       cases O:mg d'
       .have:=aeY q O f;rw[take_length p]at this;exact Gc this
       .exact wV rfl
      obtain⟨A,S,C⟩:=Bj (P:=P) (w:=w) (us:=us) (o:=i*a.size) q x (by omega) H;obtain⟨B,R,z⟩:=Bj (P:=P) (w:=w) (us:=k) (o:=i*a.size) q x (by omega) H;have N:=G e _ _ _ _ c A B f (Jd j p) (Jd g y) C z;simp only[ED,QJ,S,uT,R,N,aLq,aax,M];cases c<;>rfl
   .rw[u]at h;cases h
  .cases h
theorem akP{E:Env}:∀(n d:Nat),n<=d->∀(t:TypeId) (xs ys:List AV) (us u:List Value) (r:Bool) (X Y:Value),aeq P n t xs ys=some r->dW E xs us->dW E ys u->Ce P t us X->Ce P t u Y->(aHA d t X Y).run P w=.ok r w:=by
 intro n
 induction n with
 |zero=>intro d _ t xs ys us u r X Y h;simp[aeq]at h
 |succ n ih =>
  intro d H t xs ys us u r X Y h j i g f;obtain⟨d,rfl⟩:∃k,d=k+1:=⟨d - 1,by omega⟩;have x:=ih d (by omega);unfold aeq at h;cases l:P.underlying t with
  |none=>rw[l]at h;cases h
  |some desc =>
   rw[l]at h;unfold Ce at g f;rw[l]at g f;cases desc<;>simp only at h<;>first | (cases h;done) |skip
   case struct fs =>
    simp only at g f;subst g f;cases o:P.stoodInHeld t
    .rw[o]at h;simp only[eU]at h;have y:P.fieldsOf t=fs:=by unfold Program.fieldsOf;rw[l]
     rw[run_equalIn_struct w d t us.toArray u.toArray (by rw[y];exact l) o,y];exact Oo j i x fs.toList r h
    .rw[o]at h;cases h
   case array len e =>
    simp only at g f;subst g f;split at h
    .rename_i z C;rw[run_equalIn_array d t e len z us.toArray u.toArray l C];exact RQ C j i x (aFB len) r h
    .cases h
   case float k =>
    simp only at g f;subst g f;cases k<;>simp only at h
    .cases h
    .split at h
     .rename_i a b;simp only[gU]at h;subst h;obtain⟨_,_,e1,o,_⟩:=aD.1 j;obtain⟨_,_,e2,hq,_⟩:=aD.1 i;cases e1;cases e2;obtain⟨p,rfl,rfl⟩:=kU.1 o;obtain⟨q,rfl,rfl⟩:=kU.1 hq;simp only[aHA,QJ,run_underlying l,uT,if_true,aax,Op.floatEq,dR];rw[Ya];rfl
     .cases h
   case int k =>
    simp only at g f;subst g f;split at h
    .rename_i F a G b;cases B:decide (F=G)
     .rw[B]at h;cases h
     .rw[B]at h;simp only[aY,gU]at h;have A:=Qx B;subst h A;obtain⟨_,_,e1,o,_⟩:=aD.1 j;obtain⟨_,_,e2,hq,_⟩:=aD.1 i;cases e1;cases e2;have e1:=cB.1 o;have e2:=cB.1 hq;subst e1 e2;exact run_equalIn_int w d t F k a b l
    .cases h
   case bool =>
    simp only at g f;subst g f;split at h
    .rename_i a b;simp only[gU]at h;subst h;obtain⟨_,_,e1,o,_⟩:=aD.1 j;obtain⟨_,_,e2,hq,_⟩:=aD.1 i;cases e1;cases e2;have e1:=cB.1 o;have e2:=cB.1 hq;subst e1 e2;exact run_equalIn_bool' w d t a b l
    .cases h
end
noncomputable section
def ag8:Option AV->Option (Option Int)
 |none=>some none
 |some (.x (.int _ i))=>some (some i)
 |some _=>none
def CF(l:Option Int):Nat:=(l.getD 0).toNat
def uV(l h:Option Int)(n:Nat):Nat:=(h.getD n - l.getD 0).toNat
def AY(l h m:Option Int)(n:Nat):Bool:=decide (0<=l.getD 0)&&(decide (l.getD 0<=h.getD n)&&(decide (h.getD n<=m.getD n)&&decide (m.getD n<=n)))
def sbM:Option Int->Option Int->Bool
 |none,some _=>false
 |_,_=>true
def aCt(a:Bool)(k sz st len:Nat)(l h m:Option Int):Option (Bool × AV):=match l,m with
 |none,none=>some (AY none h none len,.bQ k sz st (uV none h len))
 |some l,none=>cond a (some (AY (some l) h none len&&Tv 0 (uV (some l) h len),.bQ k sz (st+CF (some l)) (uV (some l) h len))) (some (AY (some l) h none len,.view k sz (st+CF (some l)) 0 (uV (some l) h len)))
 |_,_=>none
def aFC:Option Operand->Bool
 |some (.tmp _)=>true
 |_=>false
def aslice(P:Program)(t:TypeId)(d:Bool)(x:AV)(lo hi f:Option AV):Option (Bool × AV) :=
 match ag8 lo,ag8 hi,ag8 f with
 |some l,some h,some m=>cond (sbM h m) (match P.underlying t with
  |some (.slice e)=>match P.info? e with
   |some a=>match x with
    |.sl sz n el=>cond (sz==a.size) (some (AY l h m n,.sl sz (uV l h n) (λ i=>el (CF l+i)))) none
    |.bQ k sz st len=>cond (sz==a.size) (cond (aqz e) (aCt d k sz st len l h m) (some (AY l h m len,.view k sz (st+CF l) 0 (uV l h len)))) none
    |.view k sz st sub n=>cond (sz==a.size) (some (AY l h m n,.view k sz (st+CF l) sub (uV l h n))) none
    |_=>none
   |none=>none
  |some (.array n e)=>match P.info? e with
   |some a=>match x with
    |.own k off=>some (AY l h m n,.view k a.size 0 (off+CF l*a.size) (uV l h n))
    |_=>none
   |none=>none
  |some .string=>match x,m with
   |.x (.string s),none=>some (AY l h none s.size,.x (.string (s.extract (CF l) (h.getD s.size).toNat)))
   |_,_=>none
  |_=>none) none
 |_,_,_=>none
def Oq(l:Option Int)(lo:Option Value):Prop:=(l=none/\lo=none)\/∃k i,l=some i/\lo=some (.int k i)
theorem UN{E:Env}{s:St}{ρ:Operand->Value}{lo:Option Operand}{l:Option Int}(h:ag8 (lo.map (aI s))=some l)(hρ:∀y,lo=some y->rel E (aI s y) (ρ y)):Oq l (lo.map ρ):=by
 cases lo with
 |none=>simp[ag8]at h;exact wV ⟨h.symm,rfl⟩
 |some y =>
  simp only[aaF]at h ⊢;unfold ag8 at h;split at h
  .rename_i a;cases a
  .rename_i k i a;simp only[gU]at a h;have hv:=hρ y rfl;rw[a]at hv;rw[cB.1 hv];exact Gc ⟨k,i,h.symm,rfl⟩
  .cases h
theorem uO{P:Program}{w:World}{isSlice:Bool}{n c:Nat}{l h m:Option Int}{lo hi g:Option Value}(r:n<=c)(u:Oq l lo)(t:Oq h hi)(i:Oq m g)(d:sbM h m=true)(e:AY l h m n=true) :
  ∃M,(aIH isSlice n c lo hi g).run P w=.ok (CF l,(h.getD n).toNat,M) w/\(h.getD n).toNat<=M/\CF l<=(h.getD n).toNat/\(h.getD n).toNat<=n/\(h.getD n).toNat - CF l=uV l h n/\(m=none->M=c):=by
 unfold AY at e;simp only[CX,UM]at e;obtain⟨B,A,j,z⟩:=e;have e0:CF l<=(h.getD n).toNat:=by unfold CF;omega
 have e1:(h.getD n).toNat<=n:=by omega
 have e2:(h.getD n).toNat - CF l=uV l h n:=by unfold CF uV;omega
 have e3:(0:Int)<=h.getD n:=by omega
 refine⟨(m.map Int.toNat).getD c,?_,?_,e0,e1,e2,λ d=>by rw[d];rfl⟩
 .rcases u with⟨rfl,rfl⟩ | ⟨E,G,rfl,rfl⟩<;>rcases t with⟨rfl,rfl⟩ | ⟨C,F,rfl,rfl⟩<;>rcases i with⟨rfl,rfl⟩ | ⟨k3,o,rfl,rfl⟩ <;>
   simp only[aFz,apP,sbM,aFs,Int.toNat_natCast]at B A j z e3 d ⊢
  all_goals
   have f:∀(x:Int) (y:Nat) (k:IntKind) (a:BoundsCode),0<=x->x<=y->(aJx (.int k x) y a).run P w=.ok x.toNat w:=λ x y k a p q=>by simp[aJx,asIntOf,p,q]
   unfold aIH;simp only[QJ,aax,uT,aMP,aaF,aFz,apP,CF,Int.toNat_zero]
   repeat rw[f _ _ _ _ (by omega) (by omega)]
   try simp only[uT]
   try repeat rw[f _ _ _ _ (by omega) (by omega)]
   try simp only[uT]
   try repeat rw[f _ _ _ _ (by omega) (by omega)]
   try simp only[uT]
 .rcases i with⟨rfl,rfl⟩ | ⟨k3,o,rfl,rfl⟩
  .simp only[aMP,aFz];omega
  .simp only[aaF,apP]at j ⊢;omega
theorem KE{P:Program}{w:World}{isSlice:Bool}{n c:Nat}{h:Option Int}{hi:Option Value}(e:n<=c)(f:Oq h hi)(d:AY none h none n=true) :
  (aIH isSlice n c none hi none).run P w=.ok (0,(h.getD n).toNat,c) w/\(h.getD n).toNat<=n/\(h.getD n).toNat=uV none h n:=by
 unfold AY at d;simp only[CX,UM,aFz]at d;obtain⟨t,l,j,i⟩:=d;refine⟨?_,by omega,by unfold uV;simp⟩
 have g:∀(x:Int) (y:Nat) (k:IntKind) (a:BoundsCode),0<=x->x<=y->(aJx (.int k x) y a).run P w=.ok x.toNat w:=λ x y k a p q=>by simp[aJx,asIntOf,p,q]
 rcases f with⟨rfl,rfl⟩ | ⟨o,r,rfl,rfl⟩
 .unfold aIH;simp
 .simp only[apP]at l j i ⊢;unfold aIH;simp only[QJ,aax,uT]
  repeat rw[g _ _ _ _ (by omega) (by omega)]
  try simp only[uT]
theorem add_plain(b o i:Nat):(⟨b,o,none⟩:Addr).add i=⟨b,o+i,none⟩:=by unfold aJ7;split<;>simp_all
theorem abu{P:Program}{E:Env}{s:St}{ρ:Operand->Value}{t:TypeId}{x:AV}{v:Value}{lo hi L:Option Operand}{y:AV}{tm:Bool}(h:aslice P t tm x (lo.map (aI s)) (hi.map (aI s)) (L.map (aI s))=some (true,y))(hv:rel E x v)
  (h1:∀z,lo=some z->rel E (aI s z) (ρ z)) (h2:∀z,hi=some z->rel E (aI s z) (ρ z)) (h3:∀z,L=some z->rel E (aI s z) (ρ z)):∃r,(aIB t v (lo.map ρ) (hi.map ρ) (L.map ρ)).run P E.w=.ok r E.w/\rel E y r:=by
 unfold aslice at h;split at h
 .rename_i l q m e1 e2 e3;cases W:sbM q m
  .rw[W]at h;cases h
  .rw[W]at h;simp only[aY]at h;have Z:=UN e1 h1;have Y:=UN e2 h2;have Q:=UN e3 h3;split at h
   .rename_i e C;split at h
    .rename_i B qC
     have j:∀(n c:Nat) (a:Option Addr),n<=c->AY l q m n=true->∃M,(aIB t (.slice a n c) (lo.map ρ) (hi.map ρ) (L.map ρ)).run P E.w=.ok (.slice (if M=CF l then a else a.map (·.add (CF l*B.size))) (uV l q n) (M - CF l)) E.w/\uV l q n<=M - CF l/\(0<uV l q n->M≠CF l)/\CF l+uV l q n<=n/\(m=none->M=c):=by intro n c a f g;obtain⟨M,d,g2,g3,I,O,g6⟩:=uO (P:=P) (w:=E.w) (isSlice:=true) f Z Y Q W g;refine⟨M,?_,by omega,λ hp=>by omega,by omega,g6⟩;rw[<-O];simp only[aIB,QJ,run_underlying C,uT,aL3,d,sizeOf,typeInfo,run_program,qC,aax]
     split at h
     .rename_i A n el;cases F:A==B.size
      .rw[F]at h;cases h
      .rw[F]at h;simp only[aY,gU,Ew]at h;obtain⟨g,rfl⟩:=h;have p:=Aw F;obtain⟨a,c,rfl,f,G⟩:=iZ.1 hv;obtain⟨M,d,g2,g3,I,_⟩:=j n c a f g;refine⟨_,d,iZ.2 ⟨_,_,rfl,g2,?_⟩⟩;by_cases u:uV l q n=0
       .exact wV u
       .rw[fP (g3 (by omega))];rcases G with G | ⟨b,o,cs,e',fz,rfl,hA,hh2,U⟩
        .omega
        .refine Gc ⟨b,o+CF l*A,cs,e',fz,by rw[aaF,add_plain,p],hA,hh2,λ i hi=>?_⟩;obtain⟨p1,p2⟩:=U (CF l+i) (by omega);refine⟨p1,?_⟩;have e5:o+CF l*A+i*A=o+(CF l+i)*A:=by rw[auK];omega
         rw[e5];exact p2
     .rename_i k A J len;cases F:A==B.size
      .rw[F]at h;cases h
      .rw[F]at h;have p:=Aw F;simp only[aY]at h;cases K:aqz e
       rotate_left
       .rw[K,aY]at h;unfold aCt at h;split at h
        .simp only[gU,Ew]at h;obtain⟨g,rfl⟩:=h;have l0:lo.map ρ=none:=by rcases Z with⟨_,h⟩ | ⟨_,_,h,_⟩;exact h;cases h
         have m0:L.map ρ=none:=by rcases Q with⟨_,h⟩ | ⟨_,_,h,_⟩;exact h;cases h
         have X:∀(n c:Nat) (a:Option Addr),n<=c->AY none q none n=true->(aIB t (.slice a n c) (lo.map ρ) (hi.map ρ) (L.map ρ)).run P E.w=.ok (.slice a (uV none q n) c) E.w/\uV none q n<=n:=by
          intro n c a f g;obtain⟨d,g2,g3⟩:=KE (P:=P) (w:=E.w) (isSlice:=true) f Y g;refine⟨?_,by omega⟩;rw[l0,m0];simp only[aIB,QJ,run_underlying C,uT,aL3,d,sizeOf,typeInfo,run_program,qC,aax,g3];cases a with
          |none=>simp
          |some a=>simp[aJ7]
         rcases dV.1 hv with⟨rfl,rfl,rfl⟩ | ⟨b,c,S,H,N,f,rfl⟩
         .obtain⟨d,g2⟩:=X 0 0 none (ND _) g;have:uV none q 0=0:=by omega
          rw[this]at d ⊢;exact⟨_,d,dV.2 (wV ⟨rfl,rfl,rfl⟩)⟩
         .obtain⟨d,g2⟩:=X len (c - J) (some ⟨b,J*A,none⟩) (by omega) g;exact⟨_,d,dV.2 (Gc ⟨b,c,S,H,by omega,f,rfl⟩)⟩
        .cases tm
         .rw[eU]at h;simp only[gU,Ew]at h;obtain⟨g,rfl⟩:=h;rcases dV.1 hv with⟨_,rfl,rfl⟩ | ⟨b,c,S,H,N,f,rfl⟩
          .obtain⟨M,d,g2,g3,I,_⟩:=j 0 0 none (ND _) g;exact⟨_,d,qc.2 ⟨_,_,rfl,g2,wV (by omega)⟩⟩
          .obtain⟨M,d,g2,g3,I,_⟩:=j len (c - J) (some ⟨b,J*A,none⟩) (by omega) g;refine⟨_,d,qc.2 ⟨_,_,rfl,g2,?_⟩⟩;refine Decidable.byCases (λ u=>wV u) λ u=>?_
           .rw[fP (g3 (by omega))];exact Gc ⟨b,_,H,by rw[aaF,add_plain,p,auK,aIA]⟩
         .rw[aY]at h;simp only[gU,Ew,CX]at h;obtain⟨⟨g,u⟩,rfl⟩:=h;have u:=Ou u;rcases dV.1 hv with⟨_,rfl,rfl⟩ | ⟨b,c,S,H,N,f,rfl⟩
          .obtain⟨M,d,g2,g3,I,_⟩:=j 0 0 none (ND _) g;omega
          .obtain⟨M,d,g2,g3,I,O⟩:=j len (c - J) (some ⟨b,J*A,none⟩) (by omega) g;have hM:=O rfl;rw[fP (g3 u)]at d;refine⟨_,d,dV.2 (Gc ⟨b,c,S,H,by omega,f,?_⟩)⟩;rw[aaF,add_plain,p,auK,hM];congr 1;omega
        .cases h
       rw[K,eU]at h;simp only[gU,Ew]at h;obtain⟨g,rfl⟩:=h;rcases dV.1 hv with⟨_,rfl,rfl⟩ | ⟨b,c,S,H,N,f,rfl⟩
       .obtain⟨M,d,g2,g3,I,_⟩:=j 0 0 none (ND _) g;exact⟨_,d,qc.2 ⟨_,_,rfl,g2,wV (by omega)⟩⟩
       .obtain⟨M,d,g2,g3,I,_⟩:=j len (c - J) (some ⟨b,J*A,none⟩) (by omega) g;refine⟨_,d,qc.2 ⟨_,_,rfl,g2,?_⟩⟩;by_cases u:uV l q len=0
        .exact wV u
        .rw[fP (g3 (by omega))];exact Gc ⟨b,_,H,by rw[aaF,add_plain,p,auK,aIA]⟩
     .rename_i k A J sub n;cases F:A==B.size
      .rw[F]at h;cases h
      .rw[F]at h;simp only[aY,gU,Ew]at h;obtain⟨g,rfl⟩:=h;have p:=Aw F;obtain⟨a,c,rfl,f,G⟩:=qc.1 hv;obtain⟨M,d,g2,g3,I,_⟩:=j n c a f g;refine⟨_,d,qc.2 ⟨_,_,rfl,g2,?_⟩⟩;by_cases u:uV l q n=0
       .exact wV u
       .rw[fP (g3 (by omega))];rcases G with G | ⟨b,c',H,rfl⟩
        .omega
        .refine Gc ⟨b,c',H,?_⟩;rw[aaF,add_plain,p,auK];congr 2;omega
     .cases h
    .cases h
   .rename_i n e C;split at h
    .rename_i B qC;split at h
     .rename_i k R;simp only[gU,Ew]at h;obtain⟨g,rfl⟩:=h;obtain⟨b,c,H,rfl⟩:=mP.1 hv;obtain⟨M,d,g2,g3,I,O,_⟩:=uO (P:=P) (w:=E.w) (isSlice:=false) (ND n) Z Y Q W g;refine⟨.slice (some (if M=CF l then⟨b,R,none⟩else(⟨b,R,none⟩:Addr).add (CF l*B.size))) (uV l q n) (M - CF l),?_,qc.2 ⟨_,_,rfl,by omega,?_⟩⟩
      .rw[<-O];simp only[aIB,QJ,run_underlying C,uT,aJp,d,sizeOf,typeInfo,run_program,qC,aax]
      .by_cases u:uV l q n=0
       .exact wV u
       .rw[fP (by omega)];exact Gc ⟨b,c,H,by rw[add_plain,Nat.zero_mul,ZO]⟩
     .cases h
    .cases h
   .rename_i C;split at h
    .rename_i s';simp only[gU,Ew]at h;obtain⟨g,rfl⟩:=h;have hu:=cB.1 hv;subst hu;have m0:L.map ρ=none:=by rcases Q with⟨_,h⟩ | ⟨_,_,h,_⟩;exact h;cases h
     obtain⟨M,d,g2,g3,I,O,_⟩:=uO (P:=P) (w:=E.w) (isSlice:=false) (ND s'.size) Z Y Q W g;rw[m0]at d;refine⟨_,?_,cB.2 rfl⟩;rw[m0];simp[aIB,QJ,run_underlying C,uT,aL3,d]
    .cases h
   .cases h
 .cases h
def TL:Nat->(Nat->Bool)->Bool
 | 0,_=>true
 |n+1,p=>p n&&TL n p
theorem Yb:∀{n:Nat} {p:Nat->Bool},TL n p=true->∀i,i<n->p i=true
 | 0,_,_,i,h=>by omega
 |n+1,p,h,i,hi=>by
  simp only[TL,CX]at h;by_cases e:i=n
  .subst e;exact h.1
  .exact Yb h.2 i (by omega)
theorem El:∀{n:Nat} {p:Nat->Bool},(∀i,i<n->p i=true)->TL n p=true
 | 0,_,_=>rfl
 |n+1,p,h=>by simp only[TL,CX];exact⟨h n (by omega),El λ i hi=>h i (by omega)⟩
def Fb(k:IntKind)(b:Nat):Bool:=(floatToIntVal .f64 b k).isSome
def FE(k:IntKind)(b:Nat):Int:=(floatToIntVal .f64 b k).getD 0
theorem aqG{P:Program}{w:World}{a dst:TypeId}{k:IntKind}{b d:Nat}(hs:P.underlying a=some (.float .f64))(g:P.underlying dst=some (.int k))(hf:Fb k b=true)(e:cn d=b) :
  (convert a dst (.float .f64 d)).run P w=.ok (.int k (FE k b)) w:=by
 unfold Fb at hf;unfold FE
 have f:aF d=false:=by
  cases h:aF d with
  |false=>rfl
  |true =>
   rw[kR h]at e;subst e;have i:∀k,(floatToIntVal .f64 Ct k).isSome=false:=λ k=>by cases k<;>decide +kernel
   rw[i]at hf;cases hf
 rw[gB f]at e;subst e;cases h:floatToIntVal .f64 d k with
 |none=>rw[h]at hf;cases hf
 |some n=>exact run_convert_float_int w a dst .f64 k d n (by rw[hs];rfl) g h
def akQ(P:Program)(_:List Row)(a dst:TypeId)(x:AV):Option (Bool × AV) :=
 match P.underlying a,P.underlying dst with
 |some (.float .f64),some (.int k)=>match x with
  |.f b=>some (Fb k b,.x (.int k (FE k b)))
  |_=>none
 |_,_=>none
theorem akR{P:Program}{E:Env}{mem:List Row}(_hm:uN E mem){a dst:TypeId}{x y:AV}{v:Value}(h:akQ P mem a dst x=some (true,y))(hv:rel E x v):∃r,(convert a dst v).run P E.w=.ok r E.w/\rel E y r:=by
 unfold akQ at h;split at h
 .rename_i k e f;split at h
  .rename_i b;simp only[gU,Ew]at h;obtain⟨hf,rfl⟩:=h;obtain⟨g,rfl,d⟩:=kU.1 hv;exact⟨_,aqG e f hf (by first |exact d |exact d.symm),cB.2 rfl⟩
  .cases h
 .cases h
theorem abv{P:Program}{m1 m2:List Row}{a dst:TypeId}{x:AV}(_h:∀k sz st sub n,x=.view k sz st sub n->m1[k]?=m2[k]?):akQ P m1 a dst x=akQ P m2 a dst x:=rfl
def lC:List AV->Option (List Value)
 | []=>some []
 |.x u::xs=>cond (rH u) ((lC xs).map (u::·)) none
 |_::_=>none
theorem GI{E:Env}:∀{xs:List AV} {us a:List Value},lC xs=some a->dW E xs us->us=a
 | [],us,a,h,hr=>by simp[lC]at h;subst h;exact bR.1 hr
 |.x u::xs,us,a,h,hr=>by
  simp only[lC]at h;cases e:rH u
  .rw[e]at h;cases h
  .rw[e]at h;simp only[aY]at h;cases d:lC xs with
   |none=>rw[d]at h;cases h
   |some ws =>
    rw[d]at h;simp only[aaF,gU]at h;subst h;obtain⟨w,g,rfl,j,i⟩:=aD.1 hr;rw[cB.1 j,GI d i]
 |.f _::_,_,_,h,_=>by simp[lC]at h
 |.cx _ _::_,_,_,h,_=>by simp[lC]at h
 |.agg _::_,_,_,h,_=>by simp[lC]at h
 |.bK _::_,_,_,h,_=>by simp[lC]at h
 |.own _ _::_,_,_,h,_=>by simp[lC]at h
 |.qX _ _ _ _::_,_,_,h,_=>by simp[lC]at h
 |.bQ _ _ _ _::_,_,_,h,_=>by simp[lC]at h
 |.view _ _ _ _ _::_,_,_,h,_=>by simp[lC]at h
 |.ref _ _::_,_,_,h,_=>by simp[lC]at h
 |.iN _ _::_,_,_,h,_=>by simp[lC]at h
 |.sl _ _ _::_,_,_,h,_=>by simp[lC]at h
 |.jd _ _::_,_,_,h,_=>by simp[lC]at h
 |.fn _ _ _::_,_,_,h,_=>by simp[lC]at h
 |.any::_,_,_,h,_=>by simp[lC]at h
end
noncomputable section
mutual
def iq:AV->Bool
 |.own _ _=>false
 |.qX _ _ _ _=>false
 |.bQ _ _ _ _=>false
 |.view _ _ _ _ _=>false
 |.agg l=>cK l
 |.bK l=>cK l
 |.jd _ x=>iq x
 |.fn _ a b=>cK a&&cK b
 |.iN l _=>cK l
 |_=>true
def cK:List AV->Bool
 | []=>true
 |x::xs=>iq x&&cK xs
end
mutual
theorem fG:∀(x:AV) {E E':Env} (_:∀b,¬E.A b->∀F,E.w.heap[b]?=some F->¬E'.A b/\E'.w.heap[b]?=some F) (_:iq x=true) (u:Value),bY x E u->bY x E' u
 |.x v,_,_,_,_,u,hr=>by unfold bY at *;exact hr
 |.f a,_,_,_,_,u,hr=>by unfold bY at *;exact hr
 |.cx a c,_,_,_,_,u,hr=>by unfold bY at *;exact hr
 |.agg l,_,_,h,hn,u,hr=>by unfold bY at *;unfold iq at hn;obtain⟨B,j,d⟩:=hr;exact⟨B,j,qI l h hn _ d⟩
 |.bK l,_,_,h,hn,u,hr=>by unfold bY at *;unfold iq at hn;obtain⟨B,j,d⟩:=hr;exact⟨B,j,qI l h hn _ d⟩
 |.own k off,_,_,h,hn,u,hr=>by simp[iq]at hn
 |.qX k sz i sub,_,_,h,hn,u,hr=>by simp[iq]at hn
 |.bQ k sz st len,_,_,h,hn,u,hr=>by simp[iq]at hn
 |.view k sz st sub n,_,_,h,hn,u,hr=>by simp[iq]at hn
 |.ref l off,E,E',h,hn,u,hr=>by unfold bY at *;obtain⟨b,o,z,e,fz,j,d,p,q⟩:=hr;obtain⟨r,g2⟩:=h b d _ p;exact⟨b,o,z,e,fz,j,r,g2,oZ l (E:=E.fz) (E':=E'.fz) ⟨h,λ k b C=>by cases C⟩ _ q⟩
 |.iN l off,E,E',h,hn,u,hr=>by unfold bY at *;unfold iq at hn;obtain⟨b,o,z,e,fz,j,d,p,q⟩:=hr;obtain⟨r,g2⟩:=h b d _ p;exact⟨b,o,z,e,fz,j,r,g2,RS l h hn _ q⟩
 |.sl sz n el,E,E',h,hn,u,hr=>by
  unfold bY at *;obtain⟨a,c,j,d,p⟩:=hr;refine⟨a,c,j,d,?_⟩;rcases p with p | ⟨b,o,z,e,fz,q,L,K,H⟩
  .exact wV p
  .obtain⟨r,g2⟩:=h b L _ K;exact Gc ⟨b,o,z,e,fz,q,r,g2,λ i G=>⟨(H i G).1,oZ (el i) (E:=E.fz) (E':=E'.fz) ⟨h,λ k b C=>by cases C⟩ _ (H i G).2⟩⟩
 |.jd t x,_,_,h,hn,u,hr=>by unfold bY at *;unfold iq at hn;obtain⟨y,j,d⟩:=hr;exact⟨y,j,fG x h hn y d⟩
 |.fn g a b,_,_,h,hn,u,hr=>by unfold bY at *;unfold iq at hn;simp only[CX]at hn;obtain⟨J,I,j,d,p⟩:=hr;exact⟨J,I,j,qI a h hn.1 _ d,qI b h hn.2 _ p⟩
 |.any,_,_,_,_,_,_=>by unfold bY;trivial
theorem qI:∀(xs:List AV) {E E':Env} (_:∀b,¬E.A b->∀a,E.w.heap[b]?=some a->¬E'.A b/\E'.w.heap[b]?=some a) (_:cK xs=true) (us:List Value),jg xs E us->jg xs E' us
 | [],_,_,_,_,[],_=>by unfold jg;trivial
 |x::xs,_,_,h,hn,u::us,hr=>by unfold jg at *;unfold cK at hn;simp only[CX]at hn;exact⟨fG x h hn.1 u hr.1,qI xs h hn.2 us hr.2⟩
 | [],_,_,_,_,_::_,hr=>by simp[jg]at hr
 |_::_,_,_,_,_,[],hr=>by simp[jg]at hr
theorem RS:∀(xs:List AV) {E E':Env} (_:∀b,¬E.A b->∀a,E.w.heap[b]?=some a->¬E'.A b/\E'.w.heap[b]?=some a) (_:cK xs=true) (us:List Value),lu xs E us->lu xs E' us
 | [],_,_,_,_,_,_=>by unfold lu;trivial
 |x::xs,_,_,h,hn,u::us,hr=>by unfold lu at *;unfold cK at hn;simp only[CX]at hn;exact⟨fG x h hn.1 u hr.1,RS xs h hn.2 us hr.2⟩
 |_::_,_,_,_,_,[],hr=>by unfold lu at hr;exact hr.elim
end
theorem GJ{E E':Env}{xs:List AV}{us:List Value}(h:dW E xs us)(d:cK xs=true)(e:∀b,¬E.A b->∀a,E.w.heap[b]?=some a->¬E'.A b/\E'.w.heap[b]?=some a):dW E' xs us:=qI xs e d us h
theorem ag9{E E':Env}{x:AV}{u:Value}(h:rel E x u)(d:iq x=true)(e:∀b,¬E.A b->∀a,E.w.heap[b]?=some a->¬E'.A b/\E'.w.heap[b]?=some a):rel E' x u:=fG x e d u h
def vJ (P : Program) (f : Nat) : Prop := ∃ fn, P.funcs[f]? = some fn /\ (fn.name == "runtime.NumGoroutine") = false /\ fn.body.isNone = false
def aj(P:Program)(f:Nat)(args:List AV)(r:AV):Prop :=
 vJ P f/\∀(A:Nat->Prop) (w:World) (d:Array Value),(∀b,A b->b<w.heap.size)->dW ⟨w,A,λ _=>none⟩ args d.toList->xk ⟨w,A,λ _=>none⟩ ->
  Calls P f d w λ e a=>∃v,e=.returned v/\rel ⟨a,A,λ _=>none⟩ r v/\Below w.heap.size w a
def Cg(P:Program)(f:Nat)(args:List AV)(r:AV):Prop :=∀(E:Env) (d:Array Value),dW E args d.toList->∃u a,(callFunc f d).run P E.w=.ok (.value u) a/\(a=E.w\/a=E.w.drew)/\rel E r u
structure Out where
 e:Exit
 s:St
 v:AV
structure Eff where
 v:AV
 rd:List Nat
 wr:Option (Nat × Row)
 nw:Option Row
mutual
def qJ:AV->List Nat
 |.own k _=>[k]
 |.qX k _ _ _=>[k]
 |.bQ k _ _ _=>[k]
 |.view k _ _ _ _=>[k]
 |.agg l=>aT l
 |.bK l=>aT l
 |.jd _ x=>qJ x
 |.fn _ a b=>aT a++aT b
 |.iN l _=>aT l
 |_=>[]
def aT:List AV->List Nat
 | []=>[]
 |x::xs=>qJ x++aT xs
end
abbrev abw:=List AV->List (Option Row)->Nat->Option (Bool × Eff)
abbrev akS:=List AV->(AV->Option Out)->Option Out
abbrev akT:=List AV->Nat->Option (Bool × AV × List Row)
abbrev agV:=List AV->List Row->Option (Bool × AV × List Row)
abbrev abd:=List AV->(Nat->Option Row)->Option (Bool × AV × List Nat)
abbrev apo:=List AV->Bool × AV
structure Tab where
 f:Nat->List AV->Option AV
 k:Nat->Option akS
 m:Nat->Option abw
 n:Nat->Option akT
 w:Nat->Option agV
 r:Nat->Option abd
 i:String->Option apo
def rX(P:Program)(a:String)(v:AV)(args:List AV)(r:AV):Prop:=∃t x f,v=.jd t x/\Jb P t a=some f/\cK (x::args)=true/\aj P f (x::args) r
def aqH(g:akS):Prop:=∀a k r,g a k=some r->∃v,k v=some r/\∀d,g a d=d v
def akU(P:Program)(f:Nat)(g:akS):Prop:=∀a v,(∀d,g a d=d v)->aj P f a v\/Cg P f a v
def akV(P:Program)(T:Tab):Prop:=(∀f a r,T.f f a=some r->aj P f a r\/Cg P f a r)/\(∀f g,T.k f=some g->aqH g/\akU P f g)/\∀d g,T.i d=some g->∀v a r,g (v::a)=(true,r)->rX P d v a r
def tT(P:Program)(E:Env)(x:AV):Result Next->Prop
 |.ok (.value v) w'=>rel E x v/\Dr E.w w'
 |.ok (.enter f args) w'=>w'=E.w/\Calls P f args E.w λ e a=>∃v,e=.returned v/\rel { E with w:=a } x v/\Below E.w.heap.size E.w a
 |_=>False
def aCv(P:Program)(t:TypeId)(x:AV):Option AV:=match P.underlying t with
 |some (.slice _)=>match x with
  |.sl _ n _=>some (.x (.int .i64 n))
  |.bQ _ _ _ len=>some (.x (.int .i64 len))
  |.view _ _ _ _ n=>some (.x (.int .i64 n))
  |.x (.slice _ n _)=>some (.x (.int .i64 n))
  |_=>none
 |some .string=>match x with
  |.x (.string s)=>some (.x (.int .i64 s.size))
  |_=>none
 |_=>none
def tV(P:Program)(s:St)(c:Call):Option (Nat × List AV) :=
 match c.callee with
 |.value x=>match aI s x with
  |.fn (.func f) [] []=>some (f,c.args.toList.map (aI s))
  |_=>none
 |.invoke r name=>match aI s r with
  |.jd t v=>match Jb P t name with
   |some f=>some (f,v::c.args.toList.map (aI s))
   |none=>none
  |_=>none
 |_=>none
def Lv(T:Tab)(s:St)(c:Call):Option (Bool × AV) :=
 match c.callee with
 |.invoke r name=>match T.i name with
  |some g=>some (g (aI s r::c.args.toList.map (aI s)))
  |none=>none
 |_=>none
def FQ(P:Program)(T:Tab)(s:St)(o:Oper):Option (Bool × AV) :=
 match o.op with
 |.move x=>some (true,aI s x)
 |.assign x=>some (true,aI s x)
 |.load t x=>match aat s.mem (aI s x)with
  |some (b,l,off)=>(I9 P t l off).map λ y=>(b,y)
  |none=>none
 |.fieldAddr t x f=>(abo P t (aI s x) f).map λ y=>(true,y)
 |.nilCheck x=>(Bf (aI s x) 0).map λ _=>(true,aI s x)
 |.indexAddr t x ix=>abp P t (aI s x) (aI s ix)
 |.index t x ix=>aw6 P t (aI s x) (aI s ix)
 |.field t x f=>(akL P t (aI s x) f).map λ y=>(true,y)
 |.binOp op t x y _=>akN P op t x y (aI s x) (aI s y)
 |.makeInterface t x=>match P.underlying t with
  |some d=>cond (!Ja d) (some (true,.jd t (aI s x))) none
  |none=>none
 |.typeAssert x _ asserted ok=>(UJ P (aI s x) asserted ok).map λ y=>(true,y)
 |.unOp op _ x=>(aun P op (aI s x)).map λ y=>(true,y)
 |.convert src dst x=>match aI s x with
  |.x u=>cond (rH u) ((jP P (convert src dst u)).map λ r=>(true,X8 r)) none
  |y=>akQ P s.mem src dst y
 |.slice t x lo hi mx=>aslice P t (aFC lo) (aI s x) (lo.map (aI s)) (hi.map (aI s)) (mx.map (aI s))
 |.build t ps=>(abq P t (ps.toList.map λ p=>(p.1,aI s p.2))).map λ y=>(true,y)
 |.makeFunc g a b=>some (true,.fn g (a.toList.map (aI s)) (b.toList.map (aI s)))
 |.extract x i=>match aI s x with
  |.bK vs=>(vs[i]?).map λ y=>(true,y)
  |_=>none
 |.call c=>match c.callee with
  |.builtin .len=>match c.args.toList.map (aI s),c.argTypes.toList with
   | [x],[t]=>(aCv P t x).map λ y=>(true,y)
   |_,_=>none
  |.builtin .min=>match lC (c.args.toList.map (aI s))with
   |some e=>(jP P (Builtin.min_ c.argTypes o.type e.toArray)).map λ r=>(true,X8 r)
   |none=>none
  |.builtin .max=>match lC (c.args.toList.map (aI s))with
   |some e=>(jP P (Builtin.max_ c.argTypes o.type e.toArray)).map λ r=>(true,X8 r)
   |none=>none
  |.builtin .complex=>match c.args.toList.map (aI s)with
   | [.f a,.f b]=>some (true,.cx a b)
   |_=>none
  |.builtin .real=>match c.args.toList.map (aI s)with
   | [.cx a _]=>some (true,.f a)
   |_=>none
  |.builtin .imag=>match c.args.toList.map (aI s)with
   | [.cx _ b]=>some (true,.f b)
   |_=>none
  |_=>match tV P s c with
   |some (f,args)=>cond (cK args) ((T.f f args).map λ y=>(true,y)) none
   |none=>none
 |_=>none
def QO(P:Program)(T:Tab)(s:St)(o:Oper):Option (Bool × AV) :=
 match o.op with
 |.call c=>match Lv T s c with
  |some y=>some y
  |none=>FQ P T s o
 |_=>FQ P T s o
section
variable{P:Program}{w:World}
theorem UO{E:Env}{op:BinOp}{t:TypeId}{y z:Operand}{xs ys:List AV}{x:AV}{c:Bool}{u v:Value}(a:cond (Oj P t&&!P.eqGuardType P.depth t) (match op,aeq P 8 t xs ys with
  |.eql,some b=>some (true,AV.x (.bool b))
  |.neq,some b=>some (true,.x (.bool !b))
  |_,_=>none) none=some (c,x)) (n:rel E (.agg xs) u) (hv:rel E (.agg ys) v) :
  ∃r w',(do eqGuard op t y z u v;binOp op t u v:Sem Value).run P w=.ok r w'/\Dr w w'/\rel E x r:=by
 cases h:(Oj P t&&!P.eqGuardType P.depth t)
 .rw[h]at a;cases a
 .rw[h]at a;simp only[aY]at a;simp only[CX,Bool.not_eq_true']at h;obtain⟨e,o⟩:=h;obtain⟨l,rfl,j⟩:=ku.1 n;obtain⟨k,rfl,i⟩:=ku.1 hv;have f:=run_eqGuard_agg (P:=P) w op t y z l k o
  have d:∀b,aeq P 8 t xs ys=some b->(aHA 10000 t (.agg l) (.agg k)).run P w=.ok b w:=λ b g =>akP 8 10000 (by decide) t _ _ _ _ b _ _ g j i (RG e) (RG e)
  split at a
  .rename_i b g;simp only[gU,Ew]at a;obtain⟨_,rfl⟩:=a;refine⟨.bool b,w,?_,wV rfl,cB.2 rfl⟩;simp only[QJ,f,uT,run_eql_struct,d b g]
  .rename_i b g;simp only[gU,Ew]at a;obtain⟨_,rfl⟩:=a;refine⟨.bool (!b),w,?_,wV rfl,cB.2 rfl⟩;simp only[QJ,f,uT,run_neq_struct,d b g]
  .cases a
theorem aha{op:BinOp}{t:TypeId}{u v:Value}{x:AV}(h:aqE op u v=some (true,x)):∃r,(binOp op t u v).run P w=.ok r w/\x=X8 r:=by
 unfold aqE at h;split at h
 rotate_left
 .rename_i a b;split at h
  .simp only[gU,Ew]at h;obtain⟨f,rfl⟩:=h;rw[aqD]at f;have f:=Qx f;refine⟨.string (a++b),?_,rfl⟩;have g:¬(((a.size+b.size:Nat):Int)>IntKind.i64.max):=by omega
   simp only[binOp,Op.stringOp,g,if_false,aax]
  .cases h
 rotate_left
 .rename_i a b;split at h
  all_goals first | (cases h;done) |skip
  all_goals
   simp only[gU,Ew]at h;obtain⟨f,rfl⟩:=h
   have d:b≠0:=by intro e;subst e;cases f
   first
    |exact⟨.int .i64 (a.tmod b),by simp[binOp,Op.intDiv,d],rfl⟩
    |exact⟨.int .i64 (IntKind.i64.wrap (a.tdiv b)),by simp[binOp,Op.intDiv,d],rfl⟩
 .cases h
end
end
noncomputable section
section
variable{P:Program}{w:World}
theorem ahb{E:Env}{op:BinOp}{t:TypeId}{y z:Operand}{x a b:AV}{u v:Value}(d:aw7 P op t a b=some (true,x))(f:rel E a u)(hv:rel E b v) :
  ∃r w',(do eqGuard op t y z u v;binOp op t u v:Sem Value).run P w=.ok r w'/\Dr w w'/\rel E x r:=by
 unfold aw7 at d;split at d
 .rename_i p q;cases hf:aqA op p q with
  |none=>rw[hf]at d;cases d
  |some r0 =>
   rw[hf]at d;simp only[aaF,gU,Ew,true_and]at d;subst d;obtain⟨r,w',i,h,o⟩:=ag6 (P:=P) (w:=w) (t:=t) hf f hv;obtain⟨k,rfl,_⟩:=kU.1 f;have g:(eqGuard op t y z (.float .f64 k) v).run P w=.ok () w:=za rfl;refine⟨r,w',?_,aeX h,o⟩;simp only[QJ,g,uT,i]
 .rename_i p q p2 A;cases hf:aqC op p q p2 A with
  |none=>rw[hf]at d;cases d
  |some r0 =>
   rw[hf]at d;simp only[aaF,gU,Ew,true_and]at d;subst d;obtain⟨r,w',i,h,o⟩:=ag7 (P:=P) (w:=w) (t:=t) hf f hv;have e:=f;unfold rel at e;rw[bY]at e;obtain⟨k,B,rfl,_⟩:=e;have g:(eqGuard op t y z (.complex .f64 k B) v).run P w=.ok () w:=za rfl;refine⟨r,w',?_,h,o⟩;simp only[QJ,g,uT,i]
 .exact UO d f hv
 .rename_i F C;have e1:=cB.1 f;have e2:=cB.1 hv;subst e1 e2;cases j:(rH u&&rH v)
  .rw[j]at d;cases d
  .rw[j]at d;simp only[aY]at d;simp only[CX]at j;have g:(eqGuard op t y z u v).run P w=.ok () w:=za (by cases u<;>first |rfl |simp[rH]at j)
   cases n:aqE op u v with
   |some r0 =>
    rw[n]at d;simp only[gU]at d;subst d;obtain⟨r,i,h⟩:=aha (P:=P) (w:=w) (t:=t) n;refine⟨r,w,?_,wV rfl,by rw[h];exact zX E r⟩;simp only[QJ,g,uT,i]
   |none =>
    rw[n]at d;simp only at d;cases l:jP P (binOp op t u v)with
    |none=>rw[l]at d;cases d
    |some r =>
     rw[l]at d;simp only[aaF,gU,Ew,true_and]at d;refine⟨r,w,?_,wV rfl,by rw[<-d];exact zX E r⟩;simp only[QJ,g,uT,fJ w l]
 .cases d
theorem oz{E:Env}{op:BinOp}{t:TypeId}{b:Bool}{x:AV}{u v:Value}(h:pO op b=some x)(e:(aH3 t u v).run P w=.ok b w)(d:binOp .eql t u v=(do pure (.bool (<-aH3 t u v))))(a:binOp .neq t u v=(do pure (.bool (!(<-aH3 t u v))))) :
  ∃r,(binOp op t u v).run P w=.ok r w/\rel E x r:=by
 cases op<;>simp only[pO]at h<;>first | (cases h;done) |skip
 .cases h;refine⟨_,?_,cB.2 rfl⟩;rw[d];simp only[QJ,e,uT,aax]
 .cases h;refine⟨_,?_,cB.2 rfl⟩;rw[a];simp only[QJ,e,uT,aax]
theorem abx{E:Env}{op:BinOp}{t:TypeId}{y z:Operand}{x a b:AV}{u v:Value}(d:akN P op t y z a b=some (true,x))(G:rel E a u)(hv:rel E b v) :
  ∃r w',(do eqGuard op t y z u v;binOp op t u v:Sem Value).run P w=.ok r w'/\Dr w w'/\rel E x r:=by
 unfold akN at d;split at d
 .have B:=cB.1 G;have g:=cB.1 hv;subst B g;cases f:((isConst y||isConst z)&&zY P t)
  .rw[f]at d;cases d
  .rw[f]at d;simp only[aY]at d;simp only[CX]at f;cases h:pO op true with
   |none=>rw[h]at d;cases d
   |some r0 =>
    rw[h]at d;simp only[aaF,gU,Ew,true_and]at d;subst d;obtain⟨U,I⟩:=FP f.2
    have i:(aH3 t .nilIface .nilIface).run P w=.ok true w:=by obtain⟨k,j⟩:∃k,aHD=k+1:=⟨aHD - 1,rfl⟩;unfold aH3;rw[j];simp only[aHA,QJ,run_underlying I,uT,aax]
    obtain⟨r,q,p⟩:=oz (E:=E) h i rfl rfl;refine⟨r,w,?_,wV rfl,p⟩
    have o:(eqGuard op t y z .nilIface .nilIface).run P w=.ok () w:=by have N:=f.1;cases y<;>cases z<;>first | (cases N;done) | (cases op<;>rfl)
    simp only[QJ,o,uT,q]
 .rename_i R Z;obtain⟨Q,rfl,_⟩:=vI.1 G;have g:=cB.1 hv;subst g;cases f:zY P t
  .rw[f]at d;cases d
  .rw[f]at d;simp only[aY]at d;cases h:pO op false with
   |none=>rw[h]at d;cases d
   |some r0 =>
    rw[h]at d;simp only[aaF,gU,Ew,true_and]at d;subst d;obtain⟨U,I⟩:=FP f
    have i:(aH3 t (.iface R Q) .nilIface).run P w=.ok false w:=by obtain⟨k,j⟩:∃k,aHD=k+1:=⟨aHD - 1,rfl⟩;unfold aH3;rw[j];simp only[aHA,QJ,run_underlying I,uT,aax]
    obtain⟨r,q,p⟩:=oz (E:=E) h i rfl rfl;refine⟨r,w,?_,wV rfl,p⟩
    have o:(eqGuard op t y z (.iface R Q) .nilIface).run P w=.ok () w:=by cases op<;>rfl
    simp only[QJ,o,uT,q]
 .rename_i sz n el;have g:=cB.1 hv;subst g;cases f:zZ P t
  .rw[f]at d;cases d
  .rw[f]at d;simp only[aY]at d;cases h:pO op false with
   |none=>rw[h]at d;cases d
   |some r0 =>
    rw[h]at d;simp only[aaF,gU,Ew]at d;obtain⟨L,rfl⟩:=d;have L:0<n:=Ou L;obtain⟨J,c,rfl,W,M⟩:=iZ.1 G;obtain⟨H,K,Y,e0,X,rfl,_⟩:=M.resolve_left (by omega)
    obtain⟨C,F⟩:∃e,P.underlying t=some (.slice e):=by
     unfold zZ at f;split at f
     .rename_i e i;exact⟨e,i⟩
     .cases f
    have i:(aH3 t (.slice (some ⟨H,K,none⟩) n c) (.slice none 0 0)).run P w=.ok false w:=by obtain⟨k,j⟩:∃k,aHD=k+1:=⟨aHD - 1,rfl⟩;unfold aH3;rw[j];simp only[aHA,QJ,run_underlying F,uT,aax]
    obtain⟨r,q,p⟩:=oz (E:=E) h i rfl rfl;refine⟨r,w,?_,wV rfl,p⟩
    have o:(eqGuard op t y z (.slice (some ⟨H,K,none⟩) n c) (.slice none 0 0)).run P w=.ok () w:=by cases op<;>rfl
    simp only[QJ,o,uT,q]
 .rename_i k A;have g:=cB.1 hv;subst g;obtain⟨H,O,_,rfl⟩:=mP.1 G;cases f:Bh P t
  .rw[f]at d;cases d
  .rw[f]at d;simp only[aY]at d;cases h:pO op false with
   |none=>rw[h]at d;cases d
   |some r0 =>
    rw[h]at d;simp only[aaF,gU,Ew,true_and]at d;subst d
    obtain⟨C,F⟩:∃e,P.underlying t=some (.pointer e):=by
     unfold Bh at f;split at f
     .rename_i e i;exact⟨e,i⟩
     .cases f
    have i:(aH3 t (.pointer (some ⟨H,A,none⟩)) (.pointer none)).run P w=.ok false w:=by obtain⟨k,j⟩:∃k,aHD=k+1:=⟨aHD - 1,rfl⟩;unfold aH3;rw[j];simp only[aHA,QJ,run_underlying F,uT,aax]
    obtain⟨r,q,p⟩:=oz (E:=E) h i rfl rfl;refine⟨r,w,?_,wV rfl,p⟩
    have o:(eqGuard op t y z (.pointer (some ⟨H,A,none⟩)) (.pointer none)).run P w=.ok () w:=by cases op<;>rfl
    simp only[QJ,o,uT,q]
 .rename_i l A;have g:=cB.1 hv;subst g;obtain⟨H,K,_,_,_,rfl,_⟩:=nR.1 G;cases f:Bh P t
  .rw[f]at d;cases d
  .rw[f]at d;simp only[aY]at d;cases h:pO op false with
   |none=>rw[h]at d;cases d
   |some r0 =>
    rw[h]at d;simp only[aaF,gU,Ew,true_and]at d;subst d
    obtain⟨C,F⟩:∃e,P.underlying t=some (.pointer e):=by
     unfold Bh at f;split at f
     .rename_i e i;exact⟨e,i⟩
     .cases f
    have i:(aH3 t (.pointer (some ⟨H,K+A,none⟩)) (.pointer none)).run P w=.ok false w:=by obtain⟨k,j⟩:∃k,aHD=k+1:=⟨aHD - 1,rfl⟩;unfold aH3;rw[j];simp only[aHA,QJ,run_underlying F,uT,aax]
    obtain⟨r,q,p⟩:=oz (E:=E) h i rfl rfl;refine⟨r,w,?_,wV rfl,p⟩
    have o:(eqGuard op t y z (.pointer (some ⟨H,K+A,none⟩)) (.pointer none)).run P w=.ok () w:=by cases op<;>rfl
    simp only[QJ,o,uT,q]
 .have B:=cB.1 G;have g:=cB.1 hv;subst B g;cases f:Bh P t
  .rw[f]at d;cases d
  .rw[f]at d;simp only[aY]at d;cases h:pO op true with
   |none=>rw[h]at d;cases d
   |some r0 =>
    rw[h]at d;simp only[aaF,gU,Ew,true_and]at d;subst d
    obtain⟨C,F⟩:∃e,P.underlying t=some (.pointer e):=by
     unfold Bh at f;split at f
     .rename_i e i;exact⟨e,i⟩
     .cases f
    have i:(aH3 t (.pointer none) (.pointer none)).run P w=.ok true w:=by obtain⟨k,j⟩:∃k,aHD=k+1:=⟨aHD - 1,rfl⟩;unfold aH3;rw[j];simp[aHA,QJ,run_underlying F]
    obtain⟨r,q,p⟩:=oz (E:=E) h i rfl rfl;refine⟨r,w,?_,wV rfl,p⟩
    have o:(eqGuard op t y z (.pointer none) (.pointer none)).run P w=.ok () w:=by cases op<;>rfl
    simp only[QJ,o,uT,q]
 .rename_i J S O;have B:=cB.1 G;have g:=cB.1 hv;subst B g;cases f:zZ P t
  .rw[f]at d;cases d
  .rw[f]at d;simp only[aY]at d;cases h:pO op J.isNone with
   |none=>rw[h]at d;cases d
   |some r0 =>
    rw[h]at d;simp only[aaF,gU,Ew,true_and]at d;subst d
    obtain⟨C,F⟩:∃e,P.underlying t=some (.slice e):=by
     unfold zZ at f;split at f
     .rename_i e i;exact⟨e,i⟩
     .cases f
    have i:(aH3 t (.slice J S O) (.slice none 0 0)).run P w=.ok J.isNone w:=by obtain⟨k,j⟩:∃k,aHD=k+1:=⟨aHD - 1,rfl⟩;unfold aH3;rw[j];cases J<;>simp only[aHA,QJ,run_underlying F,uT,aax,Option.isNone_none,Option.isNone_some]
    obtain⟨r,q,p⟩:=oz (E:=E) h i rfl rfl;refine⟨r,w,?_,wV rfl,p⟩
    have o:(eqGuard op t y z (.slice J S O) (.slice none 0 0)).run P w=.ok () w:=by cases op<;>rfl
    simp only[QJ,o,uT,q]
 .exact ahb d G hv
theorem Yc{E:Env}{xt asserted:TypeId}{ok:Bool}{x a:AV}{u:Value}(d:UJ P a asserted ok=some x)(o:rel E a u):∃r,(aJy u xt asserted ok).run P w=.ok r w/\rel E x r:=by
 unfold UJ at d;split at d
 .rename_i t v;obtain⟨g,rfl,l⟩:=vI.1 o;split at d
  .rename_i f e;split at d
   .rename_i k j;cases i:lacks f k.methods
    .rw[i]at d;simp only[eU]at d;have h:=UK i;cases ok
     .cases d;refine⟨.iface t g,?_,vI.2 ⟨g,rfl,l⟩⟩;simp[aJy,run_underlying e,typeInfo,j,h]
     .cases d;refine⟨.tuple #[.iface t g,.bool true],?_,rE.2 ⟨_,rfl,aD.2 ⟨_,_,rfl,vI.2 ⟨g,rfl,l⟩,aD.2 ⟨_,_,rfl,cB.2 rfl,bR.2 rfl⟩⟩⟩⟩;simp[aJy,run_underlying e,typeInfo,j,h]
    .rw[i]at d;simp only[aY]at d;obtain⟨m,h⟩:=UL i;cases ok
     .cases d
     .simp only[aY]at d;split at d
      .rename_i n;cases d;refine⟨.tuple #[.nilIface,.bool false],?_,rE.2 ⟨_,rfl,aD.2 ⟨_,_,rfl,cB.2 rfl,aD.2 ⟨_,_,rfl,cB.2 rfl,bR.2 rfl⟩⟩⟩⟩;simp[aJy,run_underlying e,typeInfo,j,h,fJ w n]
      .cases d
   .cases d
  .cases d
 .cases d
theorem akW{E:Env}{op:UnOp}{x a:AV}{u:Value}(d:aun P op a=some x)(f:rel E a u):∃r,(aOc op u).run P w=.ok r w/\rel E x r:=by
 unfold aun at d;split at d
 .cases d;obtain⟨p,rfl,rfl⟩:=kU.1 f;exact⟨_,rfl,kU.2 ⟨_,rfl,aqF p⟩⟩
 .rename_i h _;have e1:=cB.1 f;subst e1;cases g:rH u
  .rw[g]at d;cases d
  .rw[g]at d;simp only[aY]at d;cases e:jP P (aOc op u)with
   |none=>rw[e]at d;cases d
   |some r =>
    rw[e]at d;simp only[aaF,gU]at d;exact⟨r,fJ w e,by rw[<-d];exact zX E r⟩
 .cases d
def axd(E:Env):List (AV × Nat)->List (Value × Nat)->Prop
 | [],[]=>True
 |x::xs,v::vs=>(rel E x.1 v.1/\x.2=v.2)/\axd E xs vs
 |_,_=>False
theorem Lx{E:Env}:∀{xs:List AV} {a:List Value} (n:Nat),dW E xs a->axd E (xs.zipIdx n) (a.zipIdx n)
 | [],a,_,h=>by rw[bR.1 h];trivial
 |x::xs,a,n,h=>by obtain⟨u,us,rfl,e,d⟩:=aD.1 h;exact⟨⟨e,rfl⟩,Lx (n+1) d⟩
theorem Yd{E:Env}(a:Nat):∀{l:List (AV × Nat)} {e:List (Value × Nat)} {xs:List AV} {d:Array Value},axd E l e->dW E xs d.toList ->
  dW E (l.foldl (λ cs (p:AV × Nat)=>cs.set (a+p.2) p.1) xs) (e.foldl (λ cs (p:Value × Nat)=>cs.setIfInBounds (a+p.2) p.1) d).toList
 | [],[],_,_,_,h=>h
 |x::l,v::e,xs,d,hz,h=>by simp only[List.foldl_cons];refine Yd a hz.2 ?_;simp only[Array.toList_setIfInBounds,hz.1.2];exact X6 _ h hz.1.1
 | [],_::_,_,_,hz,_=>hz.elim
 |_::_,[],_,_,hz,_=>hz.elim
def ahc(E:Env):List (Nat × AV)->List (Nat × Value)->Prop
 | [],[]=>True
 |x::xs,v::vs=>(x.1=v.1/\rel E x.2 v.2)/\ahc E xs vs
 |_,_=>False
theorem Dn{E:Env}(place:Nat->Option (Nat × Nat)):∀{q:List (Nat × AV)} {o:List (Nat × Value)} {xs rs:List AV} {d:Array Value},ahc E q o->dW E xs d.toList ->
  Aa place xs q=some rs->∃f,aMA place d o=some f/\dW E rs f.toList
 | [],[],xs,rs,d,_,h,e=>by simp only[Aa,gU]at e;subst e;exact⟨d,by simp[aMA],h⟩
 | (i,x)::q,(j,v)::o,xs,rs,d,hp,h,e=>by
  obtain⟨⟨hi,z⟩,r⟩:=hp;simp only at hi z;subst hi;unfold Aa at e;unfold aMA;cases k:place i with
  |none=>simp[k]at e
  |some p =>
   obtain⟨g,a⟩:=p;simp only[k]at e ⊢;cases n:(xg x&&((x.cells.length==a)&&apB (g+a) xs.length))
   .rw[n]at e;cases e
   .rw[n]at e;simp only[aY]at e;simp only[CX,WO]at n;obtain⟨t,A,u⟩:=n;have y:=Ou u;have l:=KA z t;have C:x.cells.length=v.cells.size:=by have:=fO l;simpa using this
    have B:xs.length=d.size:=by have:=fO h;simpa using this
    rw[fP (by simp;omega)];refine Dn place r ?_ e;have:=Yd g (Lx 0 l) h;rw[<-Array.foldl_toList,Array.toList_zipIdx];exact this
 | [],_::_,_,_,_,hp,_,_=>hp.elim
 |_::_,[],_,_,_,hp,_,_=>hp.elim
theorem ML{E:Env}{s:St}{ρ:Operand->Value}:∀{a:List (Nat × Operand)},(∀y,y∈a.map (·.2)->rel E (aI s y) (ρ y))->ahc E (a.map λ p=>(p.1,aI s p.2)) (a.map λ p=>(p.1,ρ p.2))
 | [],_=>trivial
 |p::a,h=>⟨⟨rfl,h p.2 (by simp)⟩,ML (λ y d=>h y (by simp at d ⊢;exact Gc d))⟩
theorem Ye{E:Env}{t:TypeId}{s:St}{ρ:Operand->Value}{f:Array (Nat × Operand)}{x:AV}(hρ:∀y,y∈f.toList.map (·.2)->rel E (aI s y) (ρ y))
  (a:abq P t (f.toList.map λ p=>(p.1,aI s p.2))=some x) :
  ∃r,(aL4 t (f.map λ(i,y)=>(i,ρ y))).run P w=.ok r w/\rel E x r:=by
 unfold abq at a;cases q:jP P (zeroValue t)with
 |none=>simp[q]at a
 |some z =>
  simp only[q]at a;have h:dW E (z.cells.toList.map Dm) z.cells.toList:=sM E _;have k:ahc E (f.toList.map λ p=>(p.1,aI s p.2)) (f.toList.map λ p=>(p.1,ρ p.2)):=ML hρ;have j:(f.map λ(i,y)=>(i,ρ y)).toList=f.toList.map λ p=>(p.1,ρ p.2):=by simp
  have l:=fJ w q;cases o:P.underlying t with
  |none=>simp[o]at a
  |some d =>
   cases d<;>simp only[o]at a<;>first | (cases a;done) |skip
   case struct fields =>
    split at a
    .rename_i places A;cases hf:Aa (places[·]?) (z.cells.toList.map Dm) (f.toList.map λ p=>(p.1,aI s p.2))with
     |none=>simp[hf]at a
     |some rs =>
      simp only[hf,aaF,gU]at a;subst a;obtain⟨e,C,B⟩:=Dn _ k h hf;refine⟨.agg e,?_,ku.2 ⟨e,rfl,B⟩⟩;have G:=fJ w A;simp only[aL4,QJ,l,uT,run_underlying o,G,j,C,aax]
    .cases a
   case array n elem =>
    split at a
    .rename_i g u;cases hf:Aa (λ i=>some (i*g,g)) (z.cells.toList.map Dm) (f.toList.map λ p=>(p.1,aI s p.2))with
     |none=>simp[hf]at a
     |some rs =>
      simp only[hf,aaF,gU]at a;subst a;obtain⟨e,C,B⟩:=Dn _ k h hf;refine⟨.agg e,?_,ku.2 ⟨e,rfl,B⟩⟩;have F:=fJ w u;simp only[aL4,QJ,l,uT,run_underlying o,F,j,C,aax]
    .cases a
theorem UR{E:Env}{xs:List AV}{i:Nat}{x:AV}{u:Value}(e:xs[i]?=some x)(f:rel E (.bK xs) u):∃r,(aNt u i).run P w=.ok r w/\rel E x r:=by
 obtain⟨d,rfl,g⟩:=rE.1 f;obtain⟨v,j,h⟩:=akJ g e;refine⟨v,?_,h⟩;have a:d[i]?=some v:=by simpa using j
 simp[aNt,a]
end
theorem lK{E:Env}{s:St}{ρ:Operand->Value}:∀{ys:List Operand},(∀y,y∈ys->rel E (aI s y) (ρ y))->dW E (ys.map (aI s)) (ys.map ρ)
 | [],_=>bR.2 rfl
 |y::ys,h=>aD.2 ⟨_,_,rfl,h y (by simp),lK (λ z a=>h z (by simp[a]))⟩
theorem rJ{α:Type}{o:Option α}{b:Bool}{x:α}(h:o.map (λ y=>(true,y))=some (b,x)):o=some x/\b=true:=by
 cases o with
 |none=>cases h
 |some y=>simp only[aaF,gU,Ew]at h;exact⟨by rw[h.2],h.1.symm⟩
theorem Ot{E:Env}{g:Fn}{a b:List AV}{u:Value}:rel E (.fn g a b) u↔∃e d,u=.func g e d/\dW E a e.toList/\dW E b d.toList:=by unfold rel;first | (rw[bY];done) | (rw[bY];exact aJn)
theorem GK{P:Program}{T:Tab}{E:Env}{s:St}{ρ:Operand->Value}{o:Oper}{x:AV}(hT:akV P T)(hm:uN E s.mem)(hA:∀b,E.A b->b<E.w.heap.size)(hg:xk E)(_hf:∀f,ρ (.func f)=.func (.func f) #[] #[])
  (hρ:∀y,y∈o.op.operands.toList->rel E (aI s y) (ρ y)) (h:FQ P T s o=some (true,x)):tT P E x ((execOp ρ o).run P E.w):=by
 obtain⟨dst,op,G,pos,after,guard⟩:=o;cases op<;>simp only[FQ]at h<;>first | (cases h;done) |skip
 case move y=>cases h;exact⟨hρ y (by simp[Uh]),wV rfl⟩
 case assign y=>cases h;exact⟨hρ y (by simp[Uh]),wV rfl⟩
 case load t y =>
  split at h
  .rename_i b l off ha;cases hl:I9 P t l off with
   |none=>rw[hl]at h;cases h
   |some z =>
    rw[hl]at h;simp only[aaF,gU,Ew]at h;obtain⟨rfl,rfl⟩:=h;obtain⟨u,B,F⟩:=RI (P:=P) hm ha hl (hρ y (by simp[Uh]));simp only[execOp,QJ,B,uT,aax];exact⟨F,wV rfl⟩
  .cases h
 case fieldAddr t y f =>
  obtain⟨h,_⟩:=rJ h;obtain⟨u,B,F⟩:=GH (P:=P) (w:=E.w) h (hρ y (by simp[Uh]));simp only[execOp,QJ,B,uT,aax];exact⟨F,wV rfl⟩
 case nilCheck y =>
  cases L:Bf (aI s y) 0 with
  |none=>rw[L]at h;cases h
  |some z =>
   rw[L]at h;simp only[aaF,gU,Ew,true_and]at h;subst h;have hv:=hρ y (by simp[Uh]);obtain⟨b,o,hve,_⟩:=KD hv L;rw[hve]at hv;simp only[execOp,hve,aax];exact⟨hv,wV rfl⟩
 case indexAddr t y z =>
  obtain⟨r,B,F⟩:=abr (P:=P) (w:=E.w) h (hρ y (by simp[Uh])) (hρ z (by simp[Uh]));simp only[execOp,QJ,B,uT,aax];exact⟨F,wV rfl⟩
 case index t y z =>
  obtain⟨r,B,F⟩:=akO (P:=P) (w:=E.w) h (hρ y (by simp[Uh])) (hρ z (by simp[Uh]));simp only[execOp,QJ,B,uT,aax];exact⟨F,wV rfl⟩
 case field t y f =>
  obtain⟨h,_⟩:=rJ h;obtain⟨r,B,F⟩:=abt (P:=P) (w:=E.w) h (hρ y (by simp[Uh]));simp only[execOp,QJ,B,uT,aax];exact⟨F,wV rfl⟩
 case binOp op t y z t2 =>
  obtain⟨r,w',B,F,U⟩:=abx (P:=P) (w:=E.w) (y:=y) (z:=z) h (hρ y (by simp[Uh])) (hρ z (by simp[Uh]));simp only[execOp,QJ]at B ⊢;rw[B];exact⟨U,F⟩
 case makeInterface t y =>
  split at h
  .rename_i d O;cases H:(!Ja d)
   .rw[H]at h;cases h
   .rw[H]at h;cases h;have hv:=hρ y (by simp[Uh]);refine(?_:tT P E _ ((execOp ρ _).run P E.w))
    have W:(aL5 t (ρ y)).run P E.w=.ok (.iface t (ρ y)) E.w:=by unfold aL5;rw[QJ,run_underlying O E.w];cases d<;>first |rfl | (simp[Ja]at H)
    simp only[execOp,QJ,W,uT,aax];exact⟨vI.2 ⟨ρ y,rfl,hv⟩,wV rfl⟩
  .cases h
 case typeAssert y xt asserted ok =>
  obtain⟨h,_⟩:=rJ h;obtain⟨r,B,F⟩:=Yc (P:=P) (w:=E.w) (xt:=xt) h (hρ y (by simp[Uh]));simp only[execOp,QJ,B,uT,aax];exact⟨F,wV rfl⟩
 case unOp op t y =>
  obtain⟨h,_⟩:=rJ h;obtain⟨r,B,F⟩:=akW (P:=P) (w:=E.w) h (hρ y (by simp[Uh]));simp only[execOp,QJ,B,uT,aax];exact⟨F,wV rfl⟩
 case convert src dst y =>
  split at h
  .rename_i u hu;cases B:rH u
   .rw[B]at h;cases h
   .rw[B]at h;simp only[aY]at h;have hv:=hρ y (by simp[Uh]);rw[hu]at hv;have e1:=cB.1 hv;cases L:jP P (convert src dst u)with
    |none=>rw[L]at h;cases h
    |some r =>
     rw[L]at h;simp only[aaF,gU,Ew,true_and]at h;simp only[execOp,e1,QJ,fJ E.w L,uT,aax];exact⟨by rw[<-h];exact zX E r,wV rfl⟩
  .obtain⟨r,B,F⟩:=akR (P:=P) hm h (hρ y (by simp[Uh]));simp only[execOp,QJ,B,uT,aax];exact⟨F,wV rfl⟩
 case slice t y lo hi mx =>
  obtain⟨r,B,F⟩:=abu (P:=P) (ρ:=ρ) h (hρ y (by simp[Uh])) (λ z hz=>hρ z (by simp[Uh,hz])) (λ z hz=>hρ z (by simp[Uh,hz])) (λ z hz=>hρ z (by simp[Uh,hz]));simp only[execOp,QJ,B,uT,aax];exact⟨F,wV rfl⟩
 case build t ps =>
  obtain⟨h,_⟩:=rJ h;obtain⟨r,B,F⟩:=Ye (P:=P) (w:=E.w) (s:=s) (ρ:=ρ) (λ y I=>hρ y (by simpa[Uh]using I)) h;simp only[execOp,QJ,B,uT,aax];exact⟨F,wV rfl⟩
 case makeFunc g a b =>
  simp only[gU,Ew,true_and]at h;subst h;simp only[execOp,Instr.makeFunc,QJ,aax,uT];have B:=lK (E:=E) (s:=s) (ρ:=ρ) (ys:=a.toList) (λ y I=>hρ y (by simp[Uh];exact wV (by simpa using I)));have F:=lK (E:=E) (s:=s) (ρ:=ρ) (ys:=b.toList) (λ y I=>hρ y (by simp[Uh];exact Gc (by simpa using I)));exact⟨Ot.2 ⟨_,_,rfl,by simpa using B,by simpa using F⟩,wV rfl⟩
 case extract y i =>
  split at h
  .rename_i vs ha;obtain⟨h,_⟩:=rJ h;obtain⟨r,B,F⟩:=UR (P:=P) (w:=E.w) h (by rw[<-ha];exact hρ y (by simp[Uh]));simp only[execOp,QJ,B,uT,aax];exact⟨F,wV rfl⟩
  .cases h
 case call c =>
  obtain⟨callee,j,argTypes⟩:=c
  have main:∀(_:(match tV P s ⟨callee,j,argTypes⟩with
    |some (f,j)=>cond (cK j) ((T.f f j).map λ y=>(true,y)) none
    |none=>none)=some (true,x)),tT P E x ((execOp ρ ⟨dst,.call ⟨callee,j,argTypes⟩,G,pos,after,guard⟩).run P E.w):=by
   intro h
   have akX:∀(_:∀y,y∈j.toList->y∈(Op.call ⟨callee,j,argTypes⟩).operands.toList),dW E (j.toList.map (aI s)) (j.map ρ).toList:=λ hsub=>by have:=lK (E:=E) (s:=s) (ρ:=ρ) (ys:=j.toList) (λ y I=>hρ y (hsub y I));simpa using this
   have hkeep:∀b,¬E.A b->∀ob,E.w.heap[b]?=some ob->¬E.A b/\E.w.heap[b]?=some ob:=λ b B ob F=>⟨B,F⟩
   have fin:∀{f:Nat} {Y:List AV} {bG:Array Value},cK Y=true->T.f f Y=some x->dW E Y bG.toList->(aj P f Y x/\Calls P f bG E.w λ e w''=>∃v,e=.returned v/\rel { E with w:=w'' } x v/\Below E.w.heap.size E.w w'')\/Cg P f Y x:=by
    intro f Y bG M hTf W;rcases hT.1 f Y x hTf with hs |hs
    .left;refine⟨hs,?_⟩;have hr':dW ⟨E.w,E.A,λ _=>none⟩ Y bG.toList:=GJ W M hkeep;refine(hs.2 E.A E.w bG hA hr' (Db hg _)).mono λ e w' ⟨v,g1,g2,g3⟩=>⟨v,g1,?_,g3⟩;exact lS (E:=⟨w',E.A,λ _=>none⟩) (E':={ E with w:=w' }) ⟨λ b B ob F=>⟨B,F⟩,λ k b hb=>by cases hb⟩ g2
    .exact Gc hs
   cases callee with
   |value fo =>
    obtain⟨f,hfo,h⟩:∃f,aI s fo=.fn (.func f) [] []/\cond (cK (j.toList.map (aI s))) ((T.f f (j.toList.map (aI s))).map λ y=>(true,y)) none=some (true,x):=by
     simp only[tV]at h;split at h
     .rename_i f Y hm;split at hm
      .rename_i f' hfo;simp only[gU,Ew]at hm;obtain⟨rfl,rfl⟩:=hm;exact⟨_,hfo,h⟩
      .cases hm
     .cases h
    have hfv:ρ fo=.func (.func f) #[] #[]:=by have B:=hρ fo (by simp[Uh,apS]);rw[hfo]at B;obtain⟨va,vb,e,F,U⟩:=Ot.1 B;have e1:va=#[]:=aIG.1 (bR.1 F);have e2:vb=#[]:=aIG.1 (bR.1 U);rw[e,e1,e2]
    cases M:cK (j.toList.map (aI s))
    .rw[M]at h;cases h
    .rw[M]at h;simp only[aY]at h;obtain⟨h,_⟩:=rJ h;have W:=akX (λ y I=>by simp[Uh,apS];exact Gc (by simpa using I));rcases fin M h W with⟨⟨⟨fn,B,F,U⟩,_⟩,H⟩ |hs
     .simp only[execOp,resolve,hfv,Deferred.ofValue,QJ,aax,uT,invoke,callFunc,run_program,B,F,U,aHH,aHa,aFs,if_false];exact⟨rfl,H⟩
     .obtain⟨u,w',B,F,U⟩:=hs E (j.map ρ) W;simp only[execOp,resolve,hfv,Deferred.ofValue,QJ,aax,uT,invoke,aHH,aHa,B];exact⟨U,aeX F⟩
   |builtin b=>simp[tV]at h
   |invoke rc name =>
    simp only[tV]at h;cases hrc:aI s rc with
    |jd t v =>
     rw[hrc]at h;simp only at h;cases X:Jb P t name with
     |none=>rw[X]at h;cases h
     |some f =>
      rw[X]at h;simp only at h;cases M:cK (v::j.toList.map (aI s))
      .rw[M]at h;cases h
      .rw[M]at h;simp only[aY]at h;obtain⟨h,_⟩:=rJ h;have W:=hρ rc (by simp[Uh,apS]);rw[hrc]at W;obtain⟨Z,hru,hcr⟩:=vI.1 W;have axg:=akX (λ y I=>by simp[Uh,apS];exact Gc (by simpa using I))
       have hargs:dW E (v::j.toList.map (aI s)) (#[Z]++j.map ρ).toList:=by rw[aI7];exact aD.2 ⟨Z,_,rfl,hcr,axg⟩
       have aFD:∃k,P.types.size+Made.depth=k+1:=⟨P.types.size+(Made.depth - 1),by have:Made.depth=Made.depth - 1+1:=rfl;omega⟩;obtain⟨k,hk⟩:=aFD
       have hget:(#[Value.iface t Z]++aLl ρ j)[0]?=some (.iface t Z):=by rw[Array.getElem?_append_left (by simp)];rfl
       have hext:(#[Value.iface t Z]++aLl ρ j).extract 1 (#[Value.iface t Z]++aLl ρ j).size=aLl ρ j:=by apply aI4;rw[aLr,aI7];simp only[aLp,aKD,aM1,Array.toList_map];simp only[Array.size_append,List.size_toArray,aBz,List.length_nil,Array.size_map,aIY,aJw,ZO,Nat.add_sub_cancel_left];exact List.take_of_length_le (by simp)
       rcases fin M h hargs with⟨⟨⟨fn,B,F,U⟩,_⟩,H⟩ |hs
       .have R:(execOp ρ ⟨dst,.call ⟨.invoke rc name,j,argTypes⟩,G,pos,after,guard⟩).run P E.w=.ok (.enter f (#[Z]++j.map ρ)) E.w:=by simp only[execOp,resolve,hru,QJ,aax,uT,invoke,hget,hext,callMethod,run_program,hk,Jc X,callFunc,B,F,U,aFs,if_false]
        rw[R];exact⟨rfl,H⟩
       .obtain⟨u,w',B,F,U⟩:=hs E (#[Z]++j.map ρ) hargs
        have R:(execOp ρ ⟨dst,.call ⟨.invoke rc name,j,argTypes⟩,G,pos,after,guard⟩).run P E.w=.ok (.value u) w':=by simp only[execOp,resolve,hru,QJ,aax,uT,invoke,hget,hext,callMethod,run_program,hk,Jc X,B]
        rw[R];exact⟨U,aeX F⟩
    |_=>rw[hrc]at h;cases h
  split at h
  .rename_i H;simp only at H;subst H;split at h
   .rename_i x0 t hargs hty;obtain⟨h,_⟩:=rJ h;simp only at hargs hty
    have N:dW E (j.toList.map (aI s)) (j.map ρ).toList:=by have:=lK (E:=E) (s:=s) (ρ:=ρ) (ys:=j.toList) (λ y I=>hρ y (by simp[Uh,apS];simpa using I));simpa using this
    rw[hargs]at N;obtain⟨v,vs',J,hv,K⟩:=aD.1 N;rw[bR.1 K]at J;have C:j.map ρ=#[v]:=by apply aI4;exact J
    have ht:argTypes=#[t]:=by cases argTypes;simpa using hty
    subst ht;unfold aCv at h;cases O:P.underlying t with
    |none=>rw[O]at h;cases h
    |some d =>
     rw[O]at h;cases d<;>simp only at h<;>first | (cases h;done) |skip
     .split at h
      .cases h;rename_i s';rw[cB.1 hv]at C;simp only[execOp,resolve,C,QJ,aax,uT,invoke,builtin,Builtin.len_,aLs,aLd,run_underlying O];exact⟨cB.2 rfl,wV rfl⟩
      .cases h
     obtain⟨a',n',c',rfl,hx⟩:∃a' n' c',v=.slice a' n' c'/\x=.x (.int .i64 n'):=by
      split at h
      .cases h;obtain⟨a,c,rfl,_⟩:=iZ.1 hv;exact⟨_,_,_,rfl,rfl⟩
      .cases h;rcases dV.1 hv with⟨_,rfl,rfl⟩ | ⟨b,c,n,_,_,_,rfl⟩<;>exact⟨_,_,_,rfl,rfl⟩
      .cases h;obtain⟨a,c,rfl,_⟩:=qc.1 hv;exact⟨_,_,_,rfl,rfl⟩
      .cases h;rw[cB.1 hv];exact⟨_,_,_,rfl,rfl⟩
      .cases h
     subst hx;simp only[execOp,resolve,C,QJ,aax,uT,invoke,builtin,Builtin.len_,aLs,aLd,run_underlying O];exact⟨cB.2 rfl,wV rfl⟩
   .cases h
  .rename_i H;simp only at H;subst H;split at h
   .rename_i us Q;simp only at Q;cases L:jP P (Builtin.min_ argTypes G us.toArray)with
    |none=>simp[L]at h
    |some r =>
     simp only[L,aaF,gU,Ew,true_and]at h
     have N:dW E (j.toList.map (aI s)) (j.map ρ).toList:=by have:=lK (E:=E) (s:=s) (ρ:=ρ) (ys:=j.toList) (λ y I=>hρ y (by simp[Uh,apS];simpa using I));simpa using this
     have e1:=GI Q N;have C:j.map ρ=us.toArray:=by apply aI4;simpa using e1
     simp only[execOp,resolve,C,QJ,aax,uT,invoke,builtin,fJ E.w L];exact⟨by rw[<-h];exact zX E r,wV rfl⟩
   .cases h
  .rename_i H;simp only at H;subst H;split at h
   .rename_i us Q;simp only at Q;cases L:jP P (Builtin.max_ argTypes G us.toArray)with
    |none=>simp[L]at h
    |some r =>
     simp only[L,aaF,gU,Ew,true_and]at h
     have N:dW E (j.toList.map (aI s)) (j.map ρ).toList:=by have:=lK (E:=E) (s:=s) (ρ:=ρ) (ys:=j.toList) (λ y I=>hρ y (by simp[Uh,apS];simpa using I));simpa using this
     have e1:=GI Q N;have C:j.map ρ=us.toArray:=by apply aI4;simpa using e1
     simp only[execOp,resolve,C,QJ,aax,uT,invoke,builtin,fJ E.w L];exact⟨by rw[<-h];exact zX E r,wV rfl⟩
   .cases h
  .rename_i H;simp only at H;subst H;split at h
   .rename_i a b hargs;simp only at hargs;simp only[gU,Ew,true_and]at h
    have N:dW E (j.toList.map (aI s)) (j.map ρ).toList:=by have:=lK (E:=E) (s:=s) (ρ:=ρ) (ys:=j.toList) (λ y I=>hρ y (by simp[Uh,apS];simpa using I));simpa using this
    rw[hargs]at N;obtain⟨v,vs',J,hv,N⟩:=aD.1 N;obtain⟨v2,vs2,aCw,hv2,K⟩:=aD.1 N;rw[bR.1 K]at aCw;rw[aCw]at J;have C:j.map ρ=#[v,v2]:=by apply aI4;exact J
    obtain⟨p,rfl,L⟩:=kU.1 hv;obtain⟨q,rfl,hq⟩:=kU.1 hv2;have S:Builtin.complex_ argTypes G #[.float .f64 p,.float .f64 q]=pure (.complex .f64 p q):=rfl;simp only[execOp,resolve,C,QJ,aax,uT,invoke,builtin,S];exact⟨by rw[<-h];unfold rel;rw[bY];exact⟨p,q,rfl,L,hq⟩,wV rfl⟩
   .cases h
  .rename_i H;simp only at H;subst H;split at h
   .rename_i a b hargs;simp only at hargs;simp only[gU,Ew,true_and]at h
    have N:dW E (j.toList.map (aI s)) (j.map ρ).toList:=by have:=lK (E:=E) (s:=s) (ρ:=ρ) (ys:=j.toList) (λ y I=>hρ y (by simp[Uh,apS];simpa using I));simpa using this
    rw[hargs]at N;obtain⟨v,vs',J,hv,K⟩:=aD.1 N;rw[bR.1 K]at J;have C:j.map ρ=#[v]:=by apply aI4;exact J
    unfold rel at hv;rw[bY]at hv;obtain⟨p,q,rfl,L,hq⟩:=hv;have S:Builtin.real_ argTypes G #[.complex .f64 p q]=pure (.float .f64 p):=rfl;simp only[execOp,resolve,C,QJ,aax,uT,invoke,builtin,S];exact⟨by rw[<-h];exact kU.2 ⟨_,rfl,L⟩,wV rfl⟩
   .cases h
  .rename_i H;simp only at H;subst H;split at h
   .rename_i a b hargs;simp only at hargs;simp only[gU,Ew,true_and]at h
    have N:dW E (j.toList.map (aI s)) (j.map ρ).toList:=by have:=lK (E:=E) (s:=s) (ρ:=ρ) (ys:=j.toList) (λ y I=>hρ y (by simp[Uh,apS];simpa using I));simpa using this
    rw[hargs]at N;obtain⟨v,vs',J,hv,K⟩:=aD.1 N;rw[bR.1 K]at J;have C:j.map ρ=#[v]:=by apply aI4;exact J
    unfold rel at hv;rw[bY]at hv;obtain⟨p,q,rfl,L,hq⟩:=hv;have S:Builtin.imag_ argTypes G #[.complex .f64 p q]=pure (.float .f64 q):=rfl;simp only[execOp,resolve,C,QJ,aax,uT,invoke,builtin,S];exact⟨by rw[<-h];exact kU.2 ⟨_,rfl,hq⟩,wV rfl⟩
   .cases h
  .exact main h
theorem ahd{P:Program}{T:Tab}{E:Env}{s:St}{ρ:Operand->Value}{o:Oper}{x:AV}(u:akV P T)(q:uN E s.mem)(hA:∀b,E.A b->b<E.w.heap.size)(d:xk E)(_hf:∀f,ρ (.func f)=.func (.func f) #[] #[])
  (hρ:∀y,y∈o.op.operands.toList->rel E (aI s y) (ρ y)) (h:QO P T s o=some (true,x)):tT P E x ((execOp ρ o).run P E.w):=by
 unfold QO at h;split at h
 .rename_i c l;split at h
  .rename_i y a;simp only[gU]at h;subst h;unfold Lv at a;split at a
   .rename_i r e F;split at a
    .rename_i g C;simp only[gU]at a;obtain⟨t,B,f,hv,p,n,G⟩:=u.2.2 e g C _ _ _ a;refine GK (T:=⟨λ z j=>(open Classical in if z=f/\j=B::c.args.toList.map (aI s)then some x else none),λ _=>none,λ _=>none,λ _=>none,λ _=>none,λ _=>none,λ _=>none⟩) ⟨λ z j H k=>?_,λ _ _ h=>(by cases h),λ _ _ h=>(by cases h)⟩ q hA d _hf hρ ?_
     .simp only at k;split at k
      .rename_i i;cases k;rw[i.1,i.2];exact wV G
      .cases k
     .unfold FQ;rw[l];simp only[F,tV,hv,p,n,aY,and_self,if_true,aaF]
    .cases a
   .cases a
  .exact GK u q hA d _hf hρ h
 .exact GK u q hA d _hf hρ h
end
end Go.Gv
