/-
  What the texts over whole numbers lean on: entries of tables, loops, numbers of 64 bits, a law's arguments.
-/
import Derived.Test.YtefphimaggjihaaGreatDoorC17
import Derived.Test.YtefphimaggjihaaGreatDoorC11
import Derived.Test.YtefphimaggjihaaGreatDoorRows
open Go.Proofs.Tryz renaming prog->bW
namespace Go.Proofs.YtefphimaggjihaaGreatDoor
open Go.Gv Go.RowKit Go.ChangeShapes Go.WideShapes Go.ChangeAt
def iA(n:Int):AV:=.x (.int .i64 n)
def bA(b:Bool):AV:=.x (.bool b)
theorem aB{P:Program}:∀e,e∈([]:List Entry)->lg P e:=λ _ h=>by cases h
theorem av{P:Program}:∀e,e∈([]:List aV)->tO P e:=λ _ h=>by cases h
theorem bn{P:Program}{e:Entry}{l:List Entry}(h:lg P e)(hl:∀e,e∈l->lg P e):∀e',e'∈e::l->lg P e':=λ e' he=>by
 rcases List.mem_cons.1 he with rfl |he
 .exact h
 .exact hl e' he
theorem ak{P:Program}{e:aV}{l:List aV}(h:tO P e)(hl:∀e,e∈l->tO P e):∀e',e'∈e::l->tO P e':=λ e' he=>by
 rcases List.mem_cons.1 he with rfl |he
 .exact h
 .exact hl e' he
theorem aF{l:List Entry}{ks:List aV}{L:Nat->Option dN}{c:Code}{s s':St}{e:Exit}{k:jZ}(hk:Xh k)(hl:∀e,e∈l->lg bW e)(hks:∀e,e∈ks->tO bW e)(hL:yN bW L c)(h:gD bW l ks L c s k=some ⟨e,s',.any⟩):bF bW c s e s' :=
 abt hk (Kr hl hks) (iJ (Kr hl hks) (by kernel_rfl)) hL h
theorem aP {l : List Entry} {ks : List aV} {L : Nat -> Option dN} (hl : ∀ e, e ∈ l -> lg bW e) (hks : ∀ e, e ∈ ks -> tO bW e) {f : Nat} {fn : Func} (hf : bW.funcs[f]? = some fn) (hnm : (fn.name == "runtime.NumGoroutine") = false) (hb : fn.body = some (dG fn)) (hL : yN bW L (dG fn))
  {args:List AV} (hlen:Nat.ble args.length fn.ntmps=true) {r:AV} (h:ev bW l ks L fn args ret=some (Out.of r)):aj bW f args r:=Kt hl hks (by kernel_rfl) hf hnm hb hL hlen h
def aI(n:Int):Int:=IntKind.i64.wrap n
theorem aO{n:Int}(h0:-9223372036854775808<=n)(h1:n<=9223372036854775807):aI n=n:=by unfold aI;rw[IntKind.wrap_i64];omega
theorem lF(n:Nat):decide (0<=(n:Int))=true:=decide_eq_true (Int.natCast_nonneg _)
theorem dec_lt{a b:Nat}(h:a<b):decide ((a:Int)<(b:Int))=true:=decide_eq_true (by omega)
theorem bQ(a:Nat):decide ((a:Int)<(a:Int))=false:=decide_eq_false (by omega)
theorem bD{n:Nat}(h:n<4611686018427387904):aI ((n:Int)+1)=((n+1:Nat):Int):=by rw[aO (by omega) (by omega)];omega
theorem ajc{n:Nat}(h:n<=9223372036854775807):aI (n:Int)=(n:Int):=aO (by omega) (by omega)
theorem Tryz.own:ownKnob bW.godebug=none:=by kernel_rfl
theorem Tryz.laidOut:laidOutB bW=true:=by kernel_rfl
end Go.Proofs.YtefphimaggjihaaGreatDoor
