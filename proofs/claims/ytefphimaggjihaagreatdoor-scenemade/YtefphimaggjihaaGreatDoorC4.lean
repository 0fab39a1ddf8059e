/-
  Floats as plain numbers: of all NaNs one is taken for all; what the model's operations give is that of the words so taken.
-/
import Derived.Laws.FloatArith
import Derived.Laws.Cover2
import Derived.RowKit
namespace Go.Ev
open Ieee
def uT:Nat:=9221120237041090561
def aL(b:Nat):Bool:=(double.read b).isNaN
def cn(b:Nat):Nat:=cond(aL b)uT b
def bq(x y:Nat):Nat:=(double.add x y).getD uT
def dI(x y:Nat):Nat:=(double.sub x y).getD uT
def bT(x y:Nat):Nat:=(double.mul x y).getD uT
def fdiv(x y:Nat):Nat:=(double.div x y).getD uT
def d9(x:Nat):Nat:=(double.sqrt x).getD uT
def fI(x:Nat):Nat:=cond(aL x)uT(x ^^^ 9223372036854775808)
def dK(x y:Nat):Bool:=double.order x y==some .eq
def jO(x y:Nat):Bool:=double.order x y==some .lt
def kL(x y:Nat):Bool:=double.order x y==some .lt||double.order x y==some .eq
def gN(x y:Nat):Bool:=double.order x y==some .gt
def lK(x y:Nat):Bool:=double.order x y==some .gt||double.order x y==some .eq
theorem X4:aL uT=true:=by decide +kernel
theorem wI {b:Nat}(h:aL b=true):cn b=uT:=by simp[cn,h]
theorem iI {b:Nat}(h:aL b=false):cn b=b:=by simp[cn,h]
theorem EC(b:Nat):aL(cn b)=aL b:=by
 cases h:aL b
 ·rw[iI h,h]
 ·rw[wI h,X4]
theorem ED {d e:Datum}(h:d.isNaN=true):d.sum e=none:=by
 cases d<;>simp[Datum.isNaN]at h;simp[Datum.sum]
theorem BZ {d e:Datum}(h:e.isNaN=true):d.sum e=none:=by
 cases e<;>simp[Datum.isNaN]at h;cases d<;>simp[Datum.sum]
theorem F7 {d e:Datum}(h:d.isNaN=true):d.product e=none:=by
 cases d<;>simp[Datum.isNaN]at h;simp[Datum.product]
theorem EF {d e:Datum}(h:e.isNaN=true):d.product e=none:=by
 cases e<;>simp[Datum.isNaN]at h;cases d<;>simp[Datum.product]
theorem EG {n:Nat}{d e:Datum}(h:d.isNaN=true):d.quotient n e=none:=by
 cases d<;>simp[Datum.isNaN]at h;simp[Datum.quotient]
theorem CY {n:Nat}{d e:Datum}(h:e.isNaN=true):d.quotient n e=none:=by
 cases e<;>simp[Datum.isNaN]at h;cases d<;>simp[Datum.quotient]
theorem nR {d e:Datum}(h:d.isNaN=true):d.order e=none:=by
 cases d<;>simp[Datum.isNaN]at h;simp[Datum.order]
theorem qy {d e:Datum}(h:e.isNaN=true):d.order e=none:=by
 cases e<;>simp[Datum.isNaN]at h;cases d<;>simp[Datum.order]
theorem Ul {n:Nat}{d:Datum}(h:d.isNaN=true):d.root n=none:=by
 cases d<;>simp[Datum.isNaN]at h;simp[Datum.root]
theorem KJ(d:Datum):d.opposite.isNaN=d.isNaN:=by cases d<;>rfl
theorem KL {α:Type}(g:Nat→Nat→Option α)(hl:∀x y,aL x=true→g x y=none)(hr:∀x y,aL y=true→g x y=none)(x y:Nat) :
  g(cn x)(cn y)=g x y:=by
 cases hx:aL x
 ·cases hy:aL y
  ·rw[iI hx,iI hy]
  ·rw[hr _ _(by rw[EC,hy]),hr _ _ hy]
 ·rw[hl _ _(by rw[EC,hx]),hl _ _ hx]
theorem aqz(x y:Nat):double.add(cn x)(cn y)=double.add x y :=
 KL double.add(fun x y h=>by simp[Format.add,ED h])(fun x y h=>by simp[Format.add,BZ h])x y
theorem aqA(x y:Nat):double.sub(cn x)(cn y)=double.sub x y :=
 KL double.sub(fun x y h=>by simp[Format.sub,ED h])(fun x y h=>by simp[Format.sub,BZ(d:=double.read x)(show(double.read y).opposite.isNaN=true by rw[KJ];exact h)])x y
theorem aqC(x y:Nat):double.mul(cn x)(cn y)=double.mul x y :=
 KL double.mul(fun x y h=>by simp[Format.mul,F7 h])(fun x y h=>by simp[Format.mul,EF h])x y
theorem aqD(x y:Nat):double.div(cn x)(cn y)=double.div x y :=
 KL double.div(fun x y h=>by simp[Format.div,EG h])(fun x y h=>by simp[Format.div,CY h])x y
theorem KM(x y:Nat):double.order(cn x)(cn y)=double.order x y :=
 KL double.order(fun x y h=>by simp[Format.order,nR h])(fun x y h=>by simp[Format.order,qy h])x y
theorem akU(x:Nat):double.sqrt(cn x)=double.sqrt x:=by
 cases hx:aL x
 ·rw[iI hx]
 ·have h1:double.sqrt(cn x)=none:=by simp[Format.sqrt,Ul(show(double.read(cn x)).isNaN=true from by have:=EC x;rw[hx]at this;exact this)]
  have h2:double.sqrt x=none:=by simp[Format.sqrt,Ul(show(double.read x).isNaN=true from hx)]
  rw[h1,h2]
theorem Ej:double.signWeight=9223372036854775808:=by decide +kernel
theorem PS:double.infRung=9218868437227405312:=by decide +kernel
theorem Er:double.binade=4503599627370496:=by decide +kernel
theorem aga(neg:Bool) {r:Nat}(h:r≤9218868437227405312):double.word neg r % 9223372036854775808=r:=by
 unfold Format.word;rw[Ej];split<;>omega
theorem rA(w:Nat):(double.read w).isNaN=decide(9218868437227405312<w % 9223372036854775808):=by
 unfold Format.read
 simp only[Ej,PS,Er]
 split
 ·rename_i h;simp[Datum.isNaN];omega
 ·split
  ·rename_i h;simp[Datum.isNaN];omega
  ·split
   ·rename_i h;simp[Datum.isNaN];omega
   ·simp[Datum.isNaN];omega
theorem rz(neg:Bool) {r:Nat}(h:r≤9218868437227405312):aL(double.word neg r)=false:=by
 unfold aL;rw[rA,aga neg h];simp;omega
theorem BS(neg:Bool)(m:Nat)(p:Int):aL(double.nearest neg m p)=false:=by
 unfold Format.nearest
 split
 ·exact rz neg(by omega)
 ·exact rz neg(by rw[←PS];exact Nat.min_le_right _ _)
theorem Um {d:Datum}(h:d.isNaN=false):aL(double.write d)=false:=by
 cases d with
 |number s m p=>exact BS s m p
 |infinity s=>exact rz s(by rw[PS];omega)
 |nan s f=>simp[Datum.isNaN]at h
theorem NU {d e f:Datum}(h:d.sum e=some f):f.isNaN=false:=by
 cases d<;>cases e<;>simp only[Datum.sum]at h
 all_goals first | (cases h;done) | (cases h;rfl) | (split at h<;>first | (cases h;done) | (cases h;rfl))
theorem ME {d e f:Datum}(h:d.product e=some f):f.isNaN=false:=by
 cases d<;>cases e<;>simp only[Datum.product]at h
 all_goals first | (cases h;done) | (cases h;rfl) | (split at h<;>first | (cases h;done) | (cases h;rfl))
theorem KN {n:Nat}{d e f:Datum}(h:d.quotient n e=some f):f.isNaN=false:=by
 cases d<;>cases e<;>simp only[Datum.quotient]at h
 all_goals first | (cases h;done) | (cases h;rfl) | (split at h<;>first | (cases h;done) | (cases h;rfl) | (split at h<;>first | (cases h;done) | (cases h;rfl)))
theorem X5 {n:Nat}{d f:Datum}(h:d.root n=some f):f.isNaN=false:=by
 cases d<;>simp only[Datum.root]at h
 all_goals first | (cases h;done) | (cases h;rfl) | (split at h<;>first | (cases h;done) | (cases h;rfl) | (split at h<;>first | (cases h;done) | (cases h;rfl)))
theorem wJ {o:Option Datum}{r:Nat}(hd:∀f,o=some f→f.isNaN=false)(h:o.map double.write=some r):aL r=false:=by
 cases o with
 |none=>cases h
 |some d=>cases h;exact Um(hd d rfl)
theorem Nt {x y r:Nat}(h:double.add x y=some r):aL r=false:=wJ(fun _ h=>NU h)h
theorem acj {x y r:Nat}(h:double.sub x y=some r):aL r=false:=wJ(fun _ h=>NU h)h
theorem Nv {x y r:Nat}(h:double.mul x y=some r):aL r=false:=wJ(fun _ h=>ME h)h
theorem Nw {x y r:Nat}(h:double.div x y=some r):aL r=false:=wJ(fun _ h=>KN h)h
theorem X6 {x r:Nat}(h:double.sqrt x=some r):aL r=false:=wJ(fun _ h=>X5 h)h
theorem NW(x y t:Nat):aL((Question.nanBits .f64 x y).cut t)=true:=by
 have h1:(t / 2) % (2 ^ 52 - 1)<2 ^ 52 - 1:=Nat.mod_lt _(by decide)
 have h2:t % 2<2:=Nat.mod_lt _(by decide)
 unfold aL;rw[rA]
 show decide(9218868437227405312<((t % 2)*2 ^ 63+0x7ff0000000000000+1+(t / 2) % (2 ^ 52 - 1)) % 9223372036854775808)=true
 generalize(t / 2) % (2 ^ 52 - 1)=u at h1
 generalize t % 2=v at h2
 simp only[decide_eq_true_eq]
 have:v=0∨v=1:=by omega
 rcases this with rfl |rfl<;>omega
theorem AZ(P:Program)(op:BinOp)(t:TypeId)(g:Nat→Nat→Option Nat)(hg:∀x y,floatBits op .f64 x y=g x y)(hop:op=.add∨op=.sub∨op=.mul∨op=.quo)
  (hc:∀x y,g(cn x)(cn y)=g x y)(hn:∀x y r,g x y=some r→aL r=false)(w:World)(b c:Nat) :
  ∃r w',(binOp op t(.float .f64 b)(.float .f64 c)).run P w=.ok(.float .f64 r)w'∧(w'=w∨w'=w.drew)∧cn r=(g(cn b)(cn c)).getD uT:=by
 rw[hc]
 cases h:g b c with
 |some r =>
  refine⟨r,w,run_float_arith w op t .f64 b c r(by rw[hg];exact h),Or.inl rfl,?_⟩
  rw[iI(hn _ _ _ h)];rfl
 |none =>
  have h':floatBits op .f64 b c=none:=by rw[hg];exact h
  refine⟨(Question.nanBits .f64 b c).cut(w.tape w.drawn(.nanBits .f64 b c)),w.drew,?_,Or.inr rfl,?_⟩
  ·rcases hop with rfl |rfl |rfl |rfl<;>simp only[floatBits]at h'<;>simp[binOp,Op.floatArith,h',Question.forced]
  ·rw[wI(NW _ _ _)];rfl
end Go.Ev
