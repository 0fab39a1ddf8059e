/-
  The law ScenePrints returns true for every scene: its text, or its error, is that of the document's answer, and so is what may be said of it, of its eye and of its skins. The tables hold what the program's text lays.
-/
import Derived.Test.YtefphimaggjihaaGreatDoorC26
namespace Go.Proofs.YtefphimaggjihaaGreatDoor.Pi
open Go.Gv Go.RowKit Go.ChangeShapes Go.WideShapes Go.ChangeAt
open Go.Ev (law_post)

set_option maxRecDepth 100000 in
/-- WHAT THE LAW GIVES, FOR ALL ARGUMENTS AND EVERY WORLD THAT HOLDS THE TABLES. -/
theorem contractScenePrints (H:Type) (enc:TypeId × Value→H) (W:World) (base:Nat) (args:Array Value) (ds gs:List (DataW H)) (before:List MemPlace)
    (hval:∀ (j:Nat) t v,Tryz.f4.params[j]?=some t→args[j]?=some v→Value.okWide Tryz.prog W .any base t v)
    (hW:DataW.Whole enc Tryz.prog Tryz.f4.params.toList Rows.scenePrintsSpec.vars false W args.toList ds gs before) (hL:laidMetH Tryz.prog Rows.scenePrintsRow.laid W) :
    Calls Tryz.prog 4 args W fun e W'=>∃ v,e=.returned v∧Rows.scenePrintsSpec.post enc Tryz.prog Tryz.f4 false true false false W args v W':=by
  have hL':laidMet Tryz.prog Rows.scenePrintsRow.laid W:=hL
  have hW':=hW
  obtain ⟨p,q,hA0,hV,rfl,hfz,hnd⟩:=hW
  have hA:DataW.TrodAll enc Tryz.prog W 0 (fun _=>true) true Tryz.f4.params.toList args.toList ds p:=hA0
  rw [Tryz.params4] at hA hval
  obtain ⟨v0,t0,d0,s0,p0,q0,hargs,rfl,rfl,h0,hA⟩:=trodAll_cons hA
  obtain ⟨rfl,rfl,rfl⟩:=trodAll_nil hA
  obtain rfl:args=#[v0]:=by rw [← Array.toList_inj,hargs]
  obtain ⟨rfl,rfl⟩:=trodVars_none hV
  obtain ⟨z0,k0,y0⟩:=open_agg (n:=12) (ks:=Hs.Sc.scKd) Tryz.underlying34 rfl (by kernel_rfl) (hval 0 34 v0 rfl rfl) h0
  obtain ⟨s,b0,r0⟩:=Hs.Sc.scene_arg k0 y0
  have b0:s.nK < 9223372036854775808:=Nat.lt_of_le_of_lt b0 (by decide)
  refine ((scenePrints_law b0).2 (fun _=>False) W #[v0] (fun _ h=>h.elim)
    (rels_cons.2 ⟨v0,_,rfl,r0,rels_nil.2 rfl⟩) (glob_ok hL')).mono ?_
  rintro e' W' ⟨v,rfl,hv,hb⟩
  have hvt:v=.bool true:=rel_x.1 hv
  subst hvt
  exact ⟨_,rfl,law_post Tryz.laidOut (by kernel_rfl) rfl (by kernel_rfl) Tryz.underlying4 rfl hW' hb⟩
abbrev wArgsScenePrints:Array Value:=#[.agg #[.slice none 0 0,.slice none 0 0,.slice none 0 0,.slice none 0 0,.slice none 0 0,.int .i64 0,.int .i64 0,.int .i64 0,.float .f64 0,.float .f64 0,.float .f64 0,.float .f64 0,.float .f64 0,.float .f64 0,.float .f64 0,.float .f64 0,.float .f64 0,.float .f64 0]]
theorem laid_metScenePrints (os:Os):laidMet Tryz.prog Rows.scenePrintsRow.laid ((laidWorld os).forCall (fun _ _=>0) ⟨#[],wArgsScenePrints,[]⟩).memory :=
  laidMet_of_run' 300 (by kernel_rfl) (by kernel_rfl)
theorem readsScenePrints (os:Os) {H:Type} (enc:TypeId × Value→H):∃ ds places,DataW.whole enc Tryz.prog ((laidWorld os).forCall (fun _ _=>0) ⟨#[],wArgsScenePrints,[]⟩).memory Tryz.f4.params.toList Rows.scenePrintsSpec.vars false wArgsScenePrints.toList 8=some (ds,[],places) :=
  ⟨[.agg [.nil,.nil,.nil,.nil,.nil,.agg [.lit (.int .i64 0),.lit (.int .i64 0),.lit (.int .i64 0)],.agg [.agg [.lit (.float .f64 0),.lit (.float .f64 0),.lit (.float .f64 0)],.agg [.lit (.float .f64 0),.lit (.float .f64 0),.lit (.float .f64 0)],.agg [.lit (.float .f64 0),.lit (.float .f64 0),.lit (.float .f64 0)],.lit (.float .f64 0)]]],[],by kernel_rfl⟩
set_option maxRecDepth 100000 in
theorem liftedScenePrints (os:Os) (started:os.Started) (H:Type) (enc:TypeId × Value→H) (F:Stop.Interp) :
    ReturnsInHanded {} Tryz.checked os 4 .any ((OpenSpec.ofChange Rows.scenePrintsSpec).preRow enc Tryz.prog Tryz.f4 Rows.scenePrintsRow.domain false Rows.scenePrintsRow.laid) (((OpenSpec.ofChange Rows.scenePrintsSpec).at F).post enc Tryz.prog Tryz.f4 false true false false):=by
  obtain ⟨ds,places,hx⟩:=readsScenePrints os enc
  refine returnsInHanded_of_row (C:=Tryz.checked) (s:=OpenSpec.ofChange Rows.scenePrintsSpec) Tryz.own started (by kernel_rfl) Tryz.func4
    (witness_row_at (enc:=enc) (C:=Tryz.checked) false (laidWorld os) wArgsScenePrints rfl (by kernel_rfl) (by kernel_rfl) (by kernel_rfl)
      (OpenSpec.preRow_of_cond 8 hx (by kernel_rfl) (fun k hk=>by cases hk) (by kernel_rfl) (laid_metScenePrints os))) ?_
  intro W base args ds gs before hval hW _ _ _ hL _ _
  exact contractScenePrints H enc W base args ds gs before hval hW hL
theorem saidScenePrints:Rows.ScenePrintsSaid :=
  OpenClaim.holds_of_cond 4 Tryz.f4 rfl rfl rfl rfl rfl rfl rfl ⟨rfl,rfl,rfl,rfl,rfl⟩ rfl rfl rfl rfl rfl (by kernel_rfl) Tryz.func4 (by kernel_rfl)
    (of_decide_eq_true (by kernel_rfl)) (by unfold Func.isWrapper; first | (rw [if_pos (by decide +kernel)]; kernel_rfl) | (rw [if_neg (by decide +kernel)]; exact ⟨rfl,rfl⟩))
    (fun os started H enc _ F=>by rw [OpenClaim.pre_eq_preRow]; exact liftedScenePrints os started H enc F)
/-- No parameter wants a stand-in; the program's own looks are off. -/
theorem plainScenePrints (f : FuncId) (fn : Func) (hf : Tryz.pinned.checked.prog.funcNamed "rayhouse/rayhouselaw.ScenePrints" = some f) (hfn : Tryz.pinned.checked.prog.funcs[f]? = some fn) :
    true=Tryz.pinned.checked.prog.looks []∧∀ (j:Nat) t,fn.params[j]?=some t→Tryz.pinned.checked.prog.wantsStandIn t=false:=by
  obtain rfl : f = 4 := Option.some.inj ((show Tryz.prog.funcNamed "rayhouse/rayhouselaw.ScenePrints" = some 4 by kernel_rfl).symm.trans hf) |>.symm
  obtain rfl:fn=Tryz.f4:=(Option.some.inj (Tryz.func4.symm.trans hfn)).symm
  refine ⟨by kernel_rfl,fun j t ht=>?_⟩
  rw [Tryz.params4] at ht
  have hm:=Array.mem_of_getElem? ht
  have:t=34:=by
    simp at hm
    omega
  subst this
  · exact (show Tryz.prog.wantsStandIn 34=false by kernel_rfl)
end Go.Proofs.YtefphimaggjihaaGreatDoor.Pi
namespace Go.Proofs.YtefphimaggjihaaGreatDoor
/-- THE STATEMENT. -/
theorem scenePrints_holds:Rows.ScenePrintsCardSaid :=
  Claim7.holds_tied_plain_at .later [] _ _ _ _ Pi.saidScenePrints (fun _ h=>by cases h) (by kernel_rfl) (fun _ h=>by cases h) scenePrints_row_tie rfl ⟨rfl,rfl⟩ (by kernel_rfl) rfl Pi.plainScenePrints (by kernel_rfl)
#print axioms scenePrints_holds
end Go.Proofs.YtefphimaggjihaaGreatDoor
