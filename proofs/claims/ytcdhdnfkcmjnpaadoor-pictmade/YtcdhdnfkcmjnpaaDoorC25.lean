/-
  The law PictMade returns true for every row of numbers and every two numbers more. The library's tables hold what the program's text lays.
-/
import Derived.Test.YtcdhdnfkcmjnpaaDoorC24
namespace Go.Proofs.YtcdhdnfkcmjnpaaDoor.Pi
open Go.Gv Go.RowKit Go.ChangeShapes Go.WideShapes Go.ChangeAt
open Go.Ev (law_post)

set_option maxRecDepth 100000 in
/-- WHAT THE LAW GIVES, FOR ALL ARGUMENTS AND EVERY WORLD THAT HOLDS THE TABLES. -/
theorem contractPictMade (H:Type) (enc:TypeId × Value→H) (W:World) (base:Nat) (args:Array Value) (ds gs:List (DataW H)) (before:List MemPlace)
    (hval:∀ (j:Nat) t v,Tryd.f4.params[j]?=some t→args[j]?=some v→Value.okWide Tryd.prog W .any base t v)
    (hW:DataW.Whole enc Tryd.prog Tryd.f4.params.toList Rows.pictMadeSpec.vars false W args.toList ds gs before) (hL:laidMetH Tryd.prog Rows.pictMadeRow.laid W) :
    Calls Tryd.prog 4 args W fun e W'=>∃ v,e=.returned v∧Rows.pictMadeSpec.post enc Tryd.prog Tryd.f4 false true false false W args v W':=by
  have hL':laidMet Tryd.prog Rows.pictSaysRow.laid W:=hL
  have hW':=hW
  obtain ⟨p,q,hA0,hV,rfl,hfz,hnd⟩:=hW
  have hA:DataW.TrodAll enc Tryd.prog W 0 (fun _=>true) true Tryd.f4.params.toList args.toList ds p:=hA0
  rw [Tryd.params4] at hA hval
  obtain ⟨v0,t0,d0,s0,p0,q0,hargs,rfl,rfl,h0,hA⟩:=trodAll_cons hA
  obtain ⟨v1,t1,d1,s1,p1,q1,rfl,rfl,rfl,h1,hA⟩:=trodAll_cons hA
  obtain ⟨v2,t2,d2,s2,p2,q2,rfl,rfl,rfl,h2,hA⟩:=trodAll_cons hA
  obtain ⟨rfl,rfl,rfl⟩:=trodAll_nil hA
  obtain rfl:args=#[v0,v1,v2]:=by rw [← Array.toList_inj,hargs]
  obtain ⟨rfl,rfl⟩:=trodVars_none hV
  obtain ⟨n,hs,r0,_⟩:=open_raw Tryd.underlying35 (by kernel_rfl) (hval 0 35 v0 rfl rfl) h0
  obtain ⟨x1,r1,w1⟩:=open_int Tryd.underlying3 (by kernel_rfl) (hval 1 3 v1 rfl rfl) h1
  obtain ⟨x2,r2,w2⟩:=open_int Tryd.underlying3 (by kernel_rfl) (hval 2 3 v2 rfl rfl) h2
  refine ((pictMade_law n hs w1 w2).2 (fun _=>False) W #[v0,v1,v2] (fun _ h=>h.elim)
    (rels_cons.2 ⟨v0,_,rfl,r0,rels_cons.2 ⟨v1,_,rfl,r1,rels_cons.2 ⟨v2,_,rfl,r2,rels_nil.2 rfl⟩⟩⟩) (glob_ok hL')).mono ?_
  rintro e' W' ⟨v,rfl,hv,hb⟩
  have hvt:v=.bool true:=rel_x.1 hv
  subst hvt
  exact ⟨_,rfl,law_post Tryd.laidOut (by kernel_rfl) rfl (by kernel_rfl) Tryd.underlying4 rfl hW' hb⟩
abbrev wArgsPictMade:Array Value:=#[.slice none 0 0,.int .i64 0,.int .i64 0]
theorem laid_metPictMade (os:Os):laidMet Tryd.prog Rows.pictMadeRow.laid ((laidWorld os).forCall (fun _ _=>0) ⟨#[],wArgsPictMade,[]⟩).memory :=
  laidMet_of_run' 300 (by kernel_rfl) (by kernel_rfl)
theorem readsPictMade (os:Os) {H:Type} (enc:TypeId × Value→H):∃ ds places,DataW.whole enc Tryd.prog ((laidWorld os).forCall (fun _ _=>0) ⟨#[],wArgsPictMade,[]⟩).memory Tryd.f4.params.toList Rows.pictMadeSpec.vars false wArgsPictMade.toList 8=some (ds,[],places) :=
  ⟨[.nil,.lit (.int .i64 0),.lit (.int .i64 0)],[],by kernel_rfl⟩
set_option maxRecDepth 100000 in
theorem liftedPictMade (os:Os) (started:os.Started) (H:Type) (enc:TypeId × Value→H) (F:Stop.Interp) :
    ReturnsInHanded {} Tryd.checked os 4 .any ((OpenSpec.ofChange Rows.pictMadeSpec).preRow enc Tryd.prog Tryd.f4 Rows.pictMadeRow.domain false Rows.pictMadeRow.laid) (((OpenSpec.ofChange Rows.pictMadeSpec).at F).post enc Tryd.prog Tryd.f4 false true false false):=by
  obtain ⟨ds,places,hx⟩:=readsPictMade os enc
  refine returnsInHanded_of_row (C:=Tryd.checked) (s:=OpenSpec.ofChange Rows.pictMadeSpec) Tryd.own started (by kernel_rfl) Tryd.func4
    (witness_row_at (enc:=enc) (C:=Tryd.checked) false (laidWorld os) wArgsPictMade rfl (by kernel_rfl) (by kernel_rfl) (by kernel_rfl)
      (OpenSpec.preRow_of_cond 8 hx (by kernel_rfl) (fun k hk=>by cases hk) (by kernel_rfl) (laid_metPictMade os))) ?_
  intro W base args ds gs before hval hW _ _ _ hL _ _
  exact contractPictMade H enc W base args ds gs before hval hW hL
theorem saidPictMade:Rows.PictMadeSaid :=
  OpenClaim.holds_of_cond 4 Tryd.f4 rfl rfl rfl rfl rfl rfl rfl ⟨rfl,rfl,rfl,rfl,rfl⟩ rfl rfl rfl rfl rfl (by kernel_rfl) Tryd.func4 (by kernel_rfl)
    (of_decide_eq_true (by kernel_rfl)) (by unfold Func.isWrapper; first | (rw [if_pos (by decide +kernel)]; kernel_rfl) | (rw [if_neg (by decide +kernel)]; exact ⟨rfl,rfl⟩))
    (fun os started H enc _ F=>by rw [OpenClaim.pre_eq_preRow]; exact liftedPictMade os started H enc F)
/-- No parameter wants a stand-in; the program's own looks are off. -/
theorem plainPictMade (f : FuncId) (fn : Func) (hf : Tryd.pinned.checked.prog.funcNamed "rayhouse/rayhouselaw.PictMade" = some f) (hfn : Tryd.pinned.checked.prog.funcs[f]? = some fn) :
    false=Tryd.pinned.checked.prog.looks []∧∀ (j:Nat) t,fn.params[j]?=some t→Tryd.pinned.checked.prog.wantsStandIn t=false:=by
  obtain rfl : f = 4 := Option.some.inj ((show Tryd.prog.funcNamed "rayhouse/rayhouselaw.PictMade" = some 4 by kernel_rfl).symm.trans hf) |>.symm
  obtain rfl:fn=Tryd.f4:=(Option.some.inj (Tryd.func4.symm.trans hfn)).symm
  refine ⟨by kernel_rfl,fun j t ht=>?_⟩
  rw [Tryd.params4] at ht
  have hm:=Array.mem_of_getElem? ht
  have:t=35∨t=3:=by
    simp at hm
    omega
  rcases this with rfl | rfl
  · exact (show Tryd.prog.wantsStandIn 35=false by kernel_rfl)
  · exact (show Tryd.prog.wantsStandIn 3=false by kernel_rfl)
end Go.Proofs.YtcdhdnfkcmjnpaaDoor.Pi
namespace Go.Proofs.YtcdhdnfkcmjnpaaDoor
/-- THE STATEMENT. -/
theorem pictMade_holds:Rows.PictMadeCardSaid :=
  Claim7.holds_tied_plain_at .later [] _ _ _ _ Pi.saidPictMade (fun _ h=>by cases h) (by kernel_rfl) (fun _ h=>by cases h) pictMade_row_tie rfl ⟨rfl,rfl⟩ (by kernel_rfl) rfl Pi.plainPictMade (by kernel_rfl)
#print axioms pictMade_holds
end Go.Proofs.YtcdhdnfkcmjnpaaDoor
