/-
  Contracts and loops by the evaluator that hands over all of our rows.
-/
import Derived.Test.YtancjnambbkhmaaGreatC22
import Derived.Test.YtancjnambbkhmaaGreatC17
namespace Go.Proofs.YtancjnambbkhmaaGreat
open Go.Gv

theorem w_nil {P:Program}:∀ e,e ∈ ([]:List WEntry)→WEOk P e:=fun _ h=>by cases h
theorem r_nil {P:Program}:∀ e,e ∈ ([]:List REntry)→REOk P e:=fun _ h=>by cases h
theorem w_cons {P:Program} {e:WEntry} {l:List WEntry} (h:WEOk P e) (hl:∀ e,e ∈ l→WEOk P e):∀ e',e' ∈ e::l→WEOk P e':=fun e' he=>by
  rcases List.mem_cons.1 he with rfl | he
  · exact h
  · exact hl e' he
theorem r_cons {P:Program} {e:REntry} {l:List REntry} (h:REOk P e) (hl:∀ e,e ∈ l→REOk P e):∀ e',e' ∈ e::l→REOk P e':=fun e' he=>by
  rcases List.mem_cons.1 he with rfl | he
  · exact h
  · exact hl e' he
section
variable {l:List Entry} {ks:List KEntry} {ms:List MEntry} {ws:List WEntry} {rs:List REntry} {L:Nat→Option LFun} (hl:∀ e,e ∈ l→EOk Tryz.prog e) (hks:∀ e,e ∈ ks→KOk Tryz.prog e) (hms:∀ e,e ∈ ms→MEOk Tryz.prog e) (hws:∀ e,e ∈ ws→WEOk Tryz.prog e) (hrs:∀ e,e ∈ rs→REOk Tryz.prog e)
include hl hks hms hws hrs
theorem gspecGW {f : Nat} {fn : Func} (hf : Tryz.prog.funcs[f]? = some fn) (hnm : (fn.name == "runtime.NumGoroutine") = false) (hb : fn.body = some (bodyOf fn))
    {args:List AV} {mem:List Row} (hL:LOkN mem.length Tryz.prog L (bodyOf fn)) (hlen:Nat.ble args.length fn.ntmps=true) {τ:List (Option Nat)} (hpin:pinT mem.length τ=true) {v:AV} {mem1:List Row} (h:evGW Tryz.prog l ks ms ws rs L fn args mem τ=gout v mem1):GSpec Tryz.prog f args mem v mem1 :=
  gspec_of_body (tabW_ok hl hks hms hws hrs) (drawnK_ok (tabW_ok hl hks hms hws hrs) (by kernel_rfl)) 40 hf hnm hb hL hlen hpin h
theorem leads_evW {c:Code} {s s':St} {e:Exit} {k:Kont} (hk:KSub k) (hL:LOk Tryz.prog L c) (h:evCW Tryz.prog l ks ms ws rs L c s k=some ⟨e,s',.any⟩):Leads Tryz.prog c s e s' :=
  leads_ofK hk (tabW_ok hl hks hms hws hrs) (drawnK_ok (tabW_ok hl hks hms hws hrs) (by kernel_rfl)) hL h
end
end Go.Proofs.YtancjnambbkhmaaGreat
