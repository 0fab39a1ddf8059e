/-
  Floats as plain numbers: of all NaNs one is taken for all; what the model's operations give is that of the words so taken.
-/
import Derived.Laws.FloatArith
import Derived.Laws.Cover2
import Derived.RowKit
namespace Go.Ev
open Ieee
def uP:Nat:=9221120237041090561
def aL(b:Nat):Bool:=(double.read b).isNaN
def cn(b:Nat):Nat:=cond (aL b) uP b
def bq(x y:Nat):Nat:=(double.add x y).getD uP
def dI(x y:Nat):Nat:=(double.sub x y).getD uP
def bT(x y:Nat):Nat:=(double.mul x y).getD uP
def fdiv(x y:Nat):Nat:=(double.div x y).getD uP
def d9(x:Nat):Nat:=(double.sqrt x).getD uP
def fI(x:Nat):Nat:=cond (aL x) uP (x ^^^ 9223372036854775808)
def dK(x y:Nat):Bool:=double.order x y==some .eq
def jO(x y:Nat):Bool:=double.order x y==some .lt
def kL(x y:Nat):Bool:=double.order x y==some .lt||double.order x y==some .eq
def gN(x y:Nat):Bool:=double.order x y==some .gt
def lK(x y:Nat):Bool:=double.order x y==some .gt||double.order x y==some .eq
theorem Xi:aL uP=true:=by decide +kernel
theorem wE{b:Nat}(h:aL b=true):cn b=uP:=by simp[cn,h]
theorem iI{b:Nat}(h:aL b=false):cn b=b:=by simp[cn,h]
theorem En(b:Nat):aL (cn b)=aL b:=by
 cases h:aL b
 .rw[iI h,h]
 .rw[wE h,Xi]
theorem Eo{d e:Datum}(h:d.isNaN=true):d.sum e=none:=by
 cases d<;>simp[Datum.isNaN]at h;simp[Datum.sum]
theorem BM{d e:Datum}(h:e.isNaN=true):d.sum e=none:=by
 cases e<;>simp[Datum.isNaN]at h;cases d<;>simp[Datum.sum]
theorem FN{d e:Datum}(h:d.isNaN=true):d.product e=none:=by
 cases d<;>simp[Datum.isNaN]at h;simp[Datum.product]
theorem Ep{d e:Datum}(h:e.isNaN=true):d.product e=none:=by
 cases e<;>simp[Datum.isNaN]at h;cases d<;>simp[Datum.product]
theorem Er{n:Nat}{d e:Datum}(h:d.isNaN=true):d.quotient n e=none:=by
 cases d<;>simp[Datum.isNaN]at h;simp[Datum.quotient]
theorem CK{n:Nat}{d e:Datum}(h:e.isNaN=true):d.quotient n e=none:=by
 cases e<;>simp[Datum.isNaN]at h;cases d<;>simp[Datum.quotient]
theorem nQ{d e:Datum}(h:d.isNaN=true):d.order e=none:=by
 cases d<;>simp[Datum.isNaN]at h;simp[Datum.order]
theorem qp{d e:Datum}(h:e.isNaN=true):d.order e=none:=by
 cases e<;>simp[Datum.isNaN]at h;cases d<;>simp[Datum.order]
theorem Tw{n:Nat}{d:Datum}(h:d.isNaN=true):d.root n=none:=by
 cases d<;>simp[Datum.isNaN]at h;simp[Datum.root]
theorem Km(d:Datum):d.opposite.isNaN=d.isNaN:=by cases d<;>rfl
theorem Kn{α:Type}(g:Nat->Nat->Option α)(hl:∀x y,aL x=true->g x y=none)(hr:∀x y,aL y=true->g x y=none)(x y:Nat) :
  g (cn x) (cn y)=g x y:=by
 cases hx:aL x
 .cases hy:aL y
  .rw[iI hx,iI hy]
  .rw[hr _ _ (by rw[En,hy]),hr _ _ hy]
 .rw[hl _ _ (by rw[En,hx]),hl _ _ hx]
theorem aoz(x y:Nat):double.add (cn x) (cn y)=double.add x y :=
 Kn double.add (λ x y h=>by simp[Format.add,Eo h]) (λ x y h=>by simp[Format.add,BM h]) x y
theorem aoA(x y:Nat):double.sub (cn x) (cn y)=double.sub x y :=
 Kn double.sub (λ x y h=>by simp[Format.sub,Eo h]) (λ x y h=>by simp[Format.sub,BM (d:=double.read x) (show(double.read y).opposite.isNaN=true by rw[Km];exact h)]) x y
theorem aoB(x y:Nat):double.mul (cn x) (cn y)=double.mul x y :=
 Kn double.mul (λ x y h=>by simp[Format.mul,FN h]) (λ x y h=>by simp[Format.mul,Ep h]) x y
theorem aoC(x y:Nat):double.div (cn x) (cn y)=double.div x y :=
 Kn double.div (λ x y h=>by simp[Format.div,Er h]) (λ x y h=>by simp[Format.div,CK h]) x y
theorem Ko(x y:Nat):double.order (cn x) (cn y)=double.order x y :=
 Kn double.order (λ x y h=>by simp[Format.order,nQ h]) (λ x y h=>by simp[Format.order,qp h]) x y
theorem ajy(x:Nat):double.sqrt (cn x)=double.sqrt x:=by
 cases hx:aL x
 .rw[iI hx]
 .have h1:double.sqrt (cn x)=none:=by simp[Format.sqrt,Tw (show(double.read (cn x)).isNaN=true from by have:=En x;rw[hx]at this;exact this)]
  have h2:double.sqrt x=none:=by simp[Format.sqrt,Tw (show(double.read x).isNaN=true from hx)]
  rw[h1,h2]
theorem D7:double.signWeight=9223372036854775808:=by decide +kernel
theorem O5:double.infRung=9218868437227405312:=by decide +kernel
theorem Ed:double.binade=4503599627370496:=by decide +kernel
theorem afj(neg:Bool){r:Nat}(h:r<=9218868437227405312):double.word neg r % 9223372036854775808=r:=by
 unfold Format.word;rw[D7];split<;>omega
theorem q8(w:Nat):(double.read w).isNaN=decide (9218868437227405312<w % 9223372036854775808):=by
 unfold Format.read;simp only[D7,O5,Ed];split
 .rename_i h;simp[Datum.isNaN];omega
 .split
  .rename_i h;simp[Datum.isNaN];omega
  .split
   .rename_i h;simp[Datum.isNaN];omega
   .simp[Datum.isNaN];omega
theorem qZ(neg:Bool){r:Nat}(h:r<=9218868437227405312):aL (double.word neg r)=false:=by
 unfold aL;rw[q8,afj neg h];simp;omega
theorem BK(neg:Bool)(m:Nat)(p:Int):aL (double.nearest neg m p)=false:=by
 unfold Format.nearest;split
 .exact qZ neg (by omega)
 .exact qZ neg (by rw[<-O5];exact Nat.min_le_right _ _)
theorem Tz{d:Datum}(h:d.isNaN=false):aL (double.write d)=false:=by
 cases d with
 |number s m p=>exact BK s m p
 |infinity s=>exact qZ s (by rw[O5];omega)
 |nan s f=>simp[Datum.isNaN]at h
theorem Nn{d e f:Datum}(h:d.sum e=some f):f.isNaN=false:=by
 cases d<;>cases e<;>simp only[Datum.sum]at h
 all_goals first | (cases h;done) | (cases h;rfl) | (split at h<;>first | (cases h;done) | (cases h;rfl))
theorem L8{d e f:Datum}(h:d.product e=some f):f.isNaN=false:=by
 cases d<;>cases e<;>simp only[Datum.product]at h
 all_goals first | (cases h;done) | (cases h;rfl) | (split at h<;>first | (cases h;done) | (cases h;rfl))
theorem Kq{n:Nat}{d e f:Datum}(h:d.quotient n e=some f):f.isNaN=false:=by
 cases d<;>cases e<;>simp only[Datum.quotient]at h
 all_goals first | (cases h;done) | (cases h;rfl) | (split at h<;>first | (cases h;done) | (cases h;rfl) | (split at h<;>first | (cases h;done) | (cases h;rfl)))
theorem Xj{n:Nat}{d f:Datum}(h:d.root n=some f):f.isNaN=false:=by
 cases d<;>simp only[Datum.root]at h
 all_goals first | (cases h;done) | (cases h;rfl) | (split at h<;>first | (cases h;done) | (cases h;rfl) | (split at h<;>first | (cases h;done) | (cases h;rfl)))
theorem wF{o:Option Datum}{r:Nat}(hd:∀f,o=some f->f.isNaN=false)(h:o.map double.write=some r):aL r=false:=by
 cases o with
 |none=>cases h
 |some d=>cases h;exact Tz (hd d rfl)
theorem MV{x y r:Nat}(h:double.add x y=some r):aL r=false:=wF (λ _ h=>Nn h) h
theorem abr{x y r:Nat}(h:double.sub x y=some r):aL r=false:=wF (λ _ h=>Nn h) h
theorem MW{x y r:Nat}(h:double.mul x y=some r):aL r=false:=wF (λ _ h=>L8 h) h
theorem MX{x y r:Nat}(h:double.div x y=some r):aL r=false:=wF (λ _ h=>Kq h) h
theorem Xk{x r:Nat}(h:double.sqrt x=some r):aL r=false:=wF (λ _ h=>Xj h) h
theorem Np(x y t:Nat):aL ((Question.nanBits .f64 x y).cut t)=true:=by
 have h1:(t / 2) % (2 ^ 52 - 1)<2 ^ 52 - 1:=Nat.mod_lt _ (by decide);have h2:t % 2<2:=Nat.mod_lt _ (by decide);unfold aL;rw[q8];show decide (9218868437227405312<((t % 2)*2 ^ 63+0x7ff0000000000000+1+(t / 2) % (2 ^ 52 - 1)) % 9223372036854775808)=true;generalize(t / 2) % (2 ^ 52 - 1)=u at h1;generalize t % 2=v at h2;simp only[decide_eq_true_eq];have:v=0\/v=1:=by omega
 rcases this with rfl |rfl<;>omega
theorem AL(P:Program)(op:BinOp)(t:TypeId)(g:Nat->Nat->Option Nat)(hg:∀x y,floatBits op .f64 x y=g x y)(hop:op=.add\/op=.sub\/op=.mul\/op=.quo)
  (hc:∀x y,g (cn x) (cn y)=g x y) (hn:∀x y r,g x y=some r->aL r=false) (w:World) (b c:Nat) :
  ∃r w',(binOp op t (.float .f64 b) (.float .f64 c)).run P w=.ok (.float .f64 r) w'/\(w'=w\/w'=w.drew)/\cn r=(g (cn b) (cn c)).getD uP:=by
 rw[hc];cases h:g b c with
 |some r =>
  refine⟨r,w,run_float_arith w op t .f64 b c r (by rw[hg];exact h),Or.inl rfl,?_⟩;rw[iI (hn _ _ _ h)];rfl
 |none =>
  have h':floatBits op .f64 b c=none:=by rw[hg];exact h
  refine⟨(Question.nanBits .f64 b c).cut (w.tape w.drawn (.nanBits .f64 b c)),w.drew,?_,Or.inr rfl,?_⟩
  .rcases hop with rfl |rfl |rfl |rfl<;>simp only[floatBits]at h'<;>simp[binOp,Op.floatArith,h',Question.forced]
  .rw[wE (Np _ _ _)];rfl
end Go.Ev
