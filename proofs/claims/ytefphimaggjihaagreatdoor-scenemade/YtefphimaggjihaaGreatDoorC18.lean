/-
  What the texts over whole numbers lean on: entries of tables, loops, numbers of 64 bits, a law's arguments.
-/
import Derived.Test.YtefphimaggjihaaGreatDoorC17
import Derived.Test.YtefphimaggjihaaGreatDoorC11
import Derived.Test.YtefphimaggjihaaGreatDoorRows
namespace Go.Proofs.YtefphimaggjihaaGreatDoor
open Go.Gv Go.RowKit Go.ChangeShapes Go.WideShapes Go.ChangeAt
def iA(n:Int):AV:=.x(.int .i64 n)
def bA(b:Bool):AV:=.x(.bool b)
theorem aB {P:Program}:∀e,e∈([]:List Entry)→lg P e:=fun _ h=>by cases h
theorem av {P:Program}:∀e,e∈([]:List aV)→tX P e:=fun _ h=>by cases h
theorem bn {P:Program}{e:Entry}{l:List Entry}(h:lg P e)(hl:∀e,e∈l→lg P e):∀e',e'∈e::l→lg P e':=fun e' he=>by
 rcases List.mem_cons.1 he with rfl |he
 ·exact h
 ·exact hl e' he
theorem ak {P:Program}{e:aV}{l:List aV}(h:tX P e)(hl:∀e,e∈l→tX P e):∀e',e'∈e::l→tX P e':=fun e' he=>by
 rcases List.mem_cons.1 he with rfl |he
 ·exact h
 ·exact hl e' he
theorem aF {l:List Entry}{ks:List aV}{L:Nat→Option dN}{c:Code}{s s':St}{e:Exit}{k:jZ}(hk:X3 k)(hl:∀e,e∈l→lg Tryz.prog e)(hks:∀e,e∈ks→tX Tryz.prog e)(hL:yS Tryz.prog L c)(h:gD Tryz.prog l ks L c s k=some⟨e,s',.any⟩):bF Tryz.prog c s e s' :=
 acn hk(KO hl hks)(iJ(KO hl hks)(by kernel_rfl))hL h
theorem aP {l : List Entry} {ks : List aV} {L : Nat → Option dN} (hl : ∀ e, e ∈ l → lg Tryz.prog e) (hks : ∀ e, e ∈ ks → tX Tryz.prog e) {f : Nat} {fn : Func} (hf : Tryz.prog.funcs[f]? = some fn) (hnm : (fn.name == "runtime.NumGoroutine") = false) (hb : fn.body = some (dG fn)) (hL : yS Tryz.prog L (dG fn))
  {args:List AV}(hlen:Nat.ble args.length fn.ntmps=true) {r:AV}(h:ev Tryz.prog l ks L fn args ret=some(Out.of r)):aj Tryz.prog f args r:=KP hl hks(by kernel_rfl)hf hnm hb hL hlen h
def aI(n:Int):Int:=IntKind.i64.wrap n
theorem aO {n:Int}(h0:-9223372036854775808≤n)(h1:n≤9223372036854775807):aI n=n:=by unfold aI;rw[IntKind.wrap_i64];omega
theorem lF(n:Nat):decide(0≤(n:Int))=true:=decide_eq_true(Int.natCast_nonneg _)
theorem dec_lt {a b:Nat}(h:a<b):decide((a:Int)<(b:Int))=true:=decide_eq_true(by omega)
theorem bQ(a:Nat):decide((a:Int)<(a:Int))=false:=decide_eq_false(by omega)
theorem bD {n:Nat}(h:n<4611686018427387904):aI((n:Int)+1)=((n+1:Nat):Int):=by rw[aO(by omega)(by omega)];omega
theorem akx {n:Nat}(h:n≤9223372036854775807):aI(n:Int)=(n:Int):=aO(by omega)(by omega)
theorem Tryz.own:ownKnob Tryz.prog.godebug=none:=by kernel_rfl
theorem Tryz.laidOut:laidOutB Tryz.prog=true:=by kernel_rfl
end Go.Proofs.YtefphimaggjihaaGreatDoor
