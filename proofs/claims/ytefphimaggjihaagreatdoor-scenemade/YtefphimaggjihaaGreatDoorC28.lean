/-
  The law SceneMade returns true for every row of numbers and every number: scenes that are made of them are printed as the document's answer prints them, and read back as the same. The tables hold what the program's text lays.
-/
import Derived.Test.YtefphimaggjihaaGreatDoorC26
import Derived.Test.YtefphimaggjihaaGreatDoorC27
namespace Go.Proofs.YtefphimaggjihaaGreatDoor.Pi
open Go.Gv Go.RowKit Go.ChangeShapes Go.WideShapes Go.ChangeAt
open Go.Ev (UH)
theorem anz {n:Int}(h:(Lit.int .i64 n).wf=true):-9223372036854775808≤n∧n≤9223372036854775807:=by
 have h1:IntKind.i64.min≤n∧n≤IntKind.i64.max:=by simpa[Lit.wf]using h
 rw[show IntKind.i64.min=-9223372036854775808 by decide,show IntKind.i64.max=9223372036854775807 by decide]at h1
 exact h1
set_option maxRecDepth 100000 in
theorem EL(H:Type)(enc:TypeId × Value→H)(W:World)(base:Nat)(args:Array Value)(ds gs:List(DataW H))(before:List MemPlace)
  (hval:∀(j:Nat)t v,Tryz.f6.params[j]?=some t→args[j]?=some v→Value.okWide Tryz.prog W .any base t v)
  (hW:DataW.Whole enc Tryz.prog Tryz.f6.params.toList Rows.sceneMadeSpec.vars false W args.toList ds gs before)(hL:laidMetH Tryz.prog Rows.sceneMadeRow.laid W) :
  Calls Tryz.prog 6 args W fun e W'=>∃v,e=.returned v∧Rows.sceneMadeSpec.post enc Tryz.prog Tryz.f6 false true false false W args v W':=by
 have hL':laidMet Tryz.prog Rows.scenePrintsRow.laid W:=hL
 have hW':=hW
 obtain⟨p,q,hA0,hV,rfl,hfz,hnd⟩:=hW
 have hA:DataW.TrodAll enc Tryz.prog W 0(fun _=>true)true Tryz.f6.params.toList args.toList ds p:=hA0
 rw[Tryz.alk]at hA hval
 obtain⟨v0,t0,d0,s0,p0,q0,hargs,rfl,rfl,h0,hA⟩:=trodAll_cons hA
 obtain⟨v1,t1,d1,s1,p1,q1,rfl,rfl,rfl,h1,hA⟩:=trodAll_cons hA
 obtain⟨rfl,rfl,rfl⟩:=trodAll_nil hA
 obtain rfl:args=#[v0,v1]:=by rw[←Array.toList_inj,hargs]
 obtain⟨rfl,rfl⟩:=trodVars_none hV
 obtain⟨n,hs,r0,b0⟩:=aec Tryz.alm(by kernel_rfl)(hval 0 48 v0 rfl rfl)h0
 obtain⟨n1,r1,b1⟩:=aeb Tryz.pG(by kernel_rfl)(hval 1 3 v1 rfl rfl)h1
 refine((Rd.MQ(fun i hi=>anz(b0 i hi))(anz b1)).2(fun _=>False)W #[v0,v1](fun _ h=>h.elim)
  (aH.2⟨v0,_,rfl,r0,aH.2⟨v1,_,rfl,r1,bK.2 rfl⟩⟩)(aln hL')).mono ?_
 rintro e' W'⟨v,rfl,hv,hb⟩
 have hvt:v=.bool true:=bI.1 hv
 subst hvt
 exact⟨_,rfl,UH Tryz.laidOut(by kernel_rfl)rfl(by kernel_rfl)Tryz.Aa rfl hW' hb⟩
abbrev om:Array Value:=#[.slice none 0 0,.int .i64 0]
theorem EM(os:Os):laidMet Tryz.prog Rows.sceneMadeRow.laid((Gg os).forCall(fun _ _=>0)⟨#[],om,[]⟩).memory :=
 laidMet_of_run' 300(by kernel_rfl)(by kernel_rfl)
theorem K4(os:Os) {H:Type}(enc:TypeId × Value→H):∃ds places,DataW.whole enc Tryz.prog((Gg os).forCall(fun _ _=>0)⟨#[],om,[]⟩).memory Tryz.f6.params.toList Rows.sceneMadeSpec.vars false om.toList 8=some(ds,[],places) :=
 ⟨[.nil,.lit(.int .i64 0)],[],by kernel_rfl⟩
set_option maxRecDepth 100000 in
theorem Ie(os:Os)(started:os.Started)(H:Type)(enc:TypeId × Value→H)(F:Stop.Interp) :
  ReturnsInHanded {} Tryz.checked os 6 .any((OpenSpec.ofChange Rows.sceneMadeSpec).preRow enc Tryz.prog Tryz.f6 Rows.sceneMadeRow.domain false Rows.sceneMadeRow.laid)(((OpenSpec.ofChange Rows.sceneMadeSpec).at F).post enc Tryz.prog Tryz.f6 false true false false):=by
 obtain⟨ds,places,hx⟩:=K4 os enc
 refine returnsInHanded_of_row(C:=Tryz.checked)(s:=OpenSpec.ofChange Rows.sceneMadeSpec)Tryz.own started(by kernel_rfl)Tryz.aaS
  (witness_row_at(enc:=enc)(C:=Tryz.checked)false(Gg os)om rfl(by kernel_rfl)(by kernel_rfl)(by kernel_rfl)
   (OpenSpec.preRow_of_cond 8 hx(by kernel_rfl)(fun k hk=>by cases hk)(by kernel_rfl)(EM os))) ?_
 intro W base args ds gs before hval hW _ _ _ hL _ _
 exact EL H enc W base args ds gs before hval hW hL
theorem MR:Rows.SceneMadeSaid :=
 OpenClaim.holds_of_cond 6 Tryz.f6 rfl rfl rfl rfl rfl rfl rfl⟨rfl,rfl,rfl,rfl,rfl⟩rfl rfl rfl rfl rfl(by kernel_rfl)Tryz.aaS(by kernel_rfl)
  (of_decide_eq_true(by kernel_rfl))(by unfold Func.isWrapper;first | (rw[if_pos(by decide +kernel)];kernel_rfl) | (rw[if_neg(by decide +kernel)];exact⟨rfl,rfl⟩))
  (fun os started H enc _ F=>by rw[OpenClaim.pre_eq_preRow];exact Ie os started H enc F)
theorem K5 (f : FuncId) (fn : Func) (hf : Tryz.pinned.checked.prog.funcNamed "rayhouse/rayhouselaw.SceneMade" = some f) (hfn : Tryz.pinned.checked.prog.funcs[f]? = some fn) :
  true=Tryz.pinned.checked.prog.looks []∧∀(j:Nat)t,fn.params[j]?=some t→Tryz.pinned.checked.prog.wantsStandIn t=false:=by
 obtain rfl : f = 6 := Option.some.inj ((show Tryz.prog.funcNamed "rayhouse/rayhouselaw.SceneMade" = some 6 by kernel_rfl).symm.trans hf) |>.symm
 obtain rfl:fn=Tryz.f6:=(Option.some.inj(Tryz.aaS.symm.trans hfn)).symm
 refine⟨by kernel_rfl,fun j t ht=>?_⟩
 rw[Tryz.alk]at ht
 have hm:=Array.mem_of_getElem? ht
 have:t=48∨t=3:=by
  simp at hm
  omega
 rcases this with rfl |rfl
 ·exact(show Tryz.prog.wantsStandIn 48=false by kernel_rfl)
 ·exact(show Tryz.prog.wantsStandIn 3=false by kernel_rfl)
end Go.Proofs.YtefphimaggjihaaGreatDoor.Pi
namespace Go.Proofs.YtefphimaggjihaaGreatDoor
theorem sceneMade_holds:Rows.aaT :=
 Claim7.holds_tied_plain_at .later []_ _ _ _ Pi.MR(fun _ h=>by cases h)(by kernel_rfl)(fun _ h=>by cases h)aaU rfl⟨rfl,rfl⟩(by kernel_rfl)rfl Pi.K5(by kernel_rfl)
#print axioms sceneMade_holds
end Go.Proofs.YtefphimaggjihaaGreatDoor
