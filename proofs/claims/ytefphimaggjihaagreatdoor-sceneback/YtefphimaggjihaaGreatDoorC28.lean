/-
  The law SceneBack returns true for every scene: what can be printed is read back, without fault, as the same scene; its text is longer than 40 bytes; what cannot be printed has no text. The tables hold what the program's text lays.
-/
import Derived.Test.YtefphimaggjihaaGreatDoorC27
namespace Go.Proofs.YtefphimaggjihaaGreatDoor.Pi
open Go.Gv Go.RowKit Go.ChangeShapes Go.WideShapes Go.ChangeAt
open Go.Ev (law_post)

set_option maxRecDepth 100000 in
/-- WHAT THE LAW GIVES, FOR ALL ARGUMENTS AND EVERY WORLD THAT HOLDS THE TABLES. -/
theorem contractSceneBack (H:Type) (enc:TypeId × Value→H) (W:World) (base:Nat) (args:Array Value) (ds gs:List (DataW H)) (before:List MemPlace)
    (hval:∀ (j:Nat) t v,Tryz.f5.params[j]?=some t→args[j]?=some v→Value.okWide Tryz.prog W .any base t v)
    (hW:DataW.Whole enc Tryz.prog Tryz.f5.params.toList Rows.sceneBackSpec.vars false W args.toList ds gs before) (hL:laidMetH Tryz.prog Rows.sceneBackRow.laid W) :
    Calls Tryz.prog 5 args W fun e W'=>∃ v,e=.returned v∧Rows.sceneBackSpec.post enc Tryz.prog Tryz.f5 false true false false W args v W':=by
  have hL':laidMet Tryz.prog Rows.scenePrintsRow.laid W:=hL
  have hW':=hW
  obtain ⟨p,q,hA0,hV,rfl,hfz,hnd⟩:=hW
  have hA:DataW.TrodAll enc Tryz.prog W 0 (fun _=>true) true Tryz.f5.params.toList args.toList ds p:=hA0
  rw [Tryz.params5] at hA hval
  obtain ⟨v0,t0,d0,s0,p0,q0,hargs,rfl,rfl,h0,hA⟩:=trodAll_cons hA
  obtain ⟨rfl,rfl,rfl⟩:=trodAll_nil hA
  obtain rfl:args=#[v0]:=by rw [← Array.toList_inj,hargs]
  obtain ⟨rfl,rfl⟩:=trodVars_none hV
  obtain ⟨z0,k0,y0⟩:=open_agg (n:=12) (ks:=Hs.Sc.scKd) Tryz.underlying34 rfl (by kernel_rfl) (hval 0 34 v0 rfl rfl) h0
  obtain ⟨s,_,r0⟩:=Hs.Sc.scene_arg k0 y0
  refine ((Rd.sceneBack_law s).2 (fun _=>False) W #[v0] (fun _ h=>h.elim)
    (rels_cons.2 ⟨v0,_,rfl,r0,rels_nil.2 rfl⟩) (glob_ok hL')).mono ?_
  rintro e' W' ⟨v,rfl,hv,hb⟩
  have hvt:v=.bool true:=rel_x.1 hv
  subst hvt
  exact ⟨_,rfl,law_post Tryz.laidOut (by kernel_rfl) rfl (by kernel_rfl) Tryz.underlying4 rfl hW' hb⟩
abbrev wArgsSceneBack:Array Value:=#[.agg #[.slice none 0 0,.slice none 0 0,.slice none 0 0,.slice none 0 0,.slice none 0 0,.int .i64 0,.int .i64 0,.int .i64 0,.float .f64 0,.float .f64 0,.float .f64 0,.float .f64 0,.float .f64 0,.float .f64 0,.float .f64 0,.float .f64 0,.float .f64 0,.float .f64 0]]
theorem laid_metSceneBack (os:Os):laidMet Tryz.prog Rows.sceneBackRow.laid ((laidWorld os).forCall (fun _ _=>0) ⟨#[],wArgsSceneBack,[]⟩).memory :=
  laidMet_of_run' 300 (by kernel_rfl) (by kernel_rfl)
theorem readsSceneBack (os:Os) {H:Type} (enc:TypeId × Value→H):∃ ds places,DataW.whole enc Tryz.prog ((laidWorld os).forCall (fun _ _=>0) ⟨#[],wArgsSceneBack,[]⟩).memory Tryz.f5.params.toList Rows.sceneBackSpec.vars false wArgsSceneBack.toList 8=some (ds,[],places) :=
  ⟨[.agg [.nil,.nil,.nil,.nil,.nil,.agg [.lit (.int .i64 0),.lit (.int .i64 0),.lit (.int .i64 0)],.agg [.agg [.lit (.float .f64 0),.lit (.float .f64 0),.lit (.float .f64 0)],.agg [.lit (.float .f64 0),.lit (.float .f64 0),.lit (.float .f64 0)],.agg [.lit (.float .f64 0),.lit (.float .f64 0),.lit (.float .f64 0)],.lit (.float .f64 0)]]],[],by kernel_rfl⟩
set_option maxRecDepth 100000 in
theorem liftedSceneBack (os:Os) (started:os.Started) (H:Type) (enc:TypeId × Value→H) (F:Stop.Interp) :
    ReturnsInHanded {} Tryz.checked os 5 .any ((OpenSpec.ofChange Rows.sceneBackSpec).preRow enc Tryz.prog Tryz.f5 Rows.sceneBackRow.domain false Rows.sceneBackRow.laid) (((OpenSpec.ofChange Rows.sceneBackSpec).at F).post enc Tryz.prog Tryz.f5 false true false false):=by
  obtain ⟨ds,places,hx⟩:=readsSceneBack os enc
  refine returnsInHanded_of_row (C:=Tryz.checked) (s:=OpenSpec.ofChange Rows.sceneBackSpec) Tryz.own started (by kernel_rfl) Tryz.func5
    (witness_row_at (enc:=enc) (C:=Tryz.checked) false (laidWorld os) wArgsSceneBack rfl (by kernel_rfl) (by kernel_rfl) (by kernel_rfl)
      (OpenSpec.preRow_of_cond 8 hx (by kernel_rfl) (fun k hk=>by cases hk) (by kernel_rfl) (laid_metSceneBack os))) ?_
  intro W base args ds gs before hval hW _ _ _ hL _ _
  exact contractSceneBack H enc W base args ds gs before hval hW hL
theorem saidSceneBack:Rows.SceneBackSaid :=
  OpenClaim.holds_of_cond 5 Tryz.f5 rfl rfl rfl rfl rfl rfl rfl ⟨rfl,rfl,rfl,rfl,rfl⟩ rfl rfl rfl rfl rfl (by kernel_rfl) Tryz.func5 (by kernel_rfl)
    (of_decide_eq_true (by kernel_rfl)) (by unfold Func.isWrapper; first | (rw [if_pos (by decide +kernel)]; kernel_rfl) | (rw [if_neg (by decide +kernel)]; exact ⟨rfl,rfl⟩))
    (fun os started H enc _ F=>by rw [OpenClaim.pre_eq_preRow]; exact liftedSceneBack os started H enc F)
/-- No parameter wants a stand-in; the program's own looks are off. -/
theorem plainSceneBack (f : FuncId) (fn : Func) (hf : Tryz.pinned.checked.prog.funcNamed "rayhouse/rayhouselaw.SceneBack" = some f) (hfn : Tryz.pinned.checked.prog.funcs[f]? = some fn) :
    true=Tryz.pinned.checked.prog.looks []∧∀ (j:Nat) t,fn.params[j]?=some t→Tryz.pinned.checked.prog.wantsStandIn t=false:=by
  obtain rfl : f = 5 := Option.some.inj ((show Tryz.prog.funcNamed "rayhouse/rayhouselaw.SceneBack" = some 5 by kernel_rfl).symm.trans hf) |>.symm
  obtain rfl:fn=Tryz.f5:=(Option.some.inj (Tryz.func5.symm.trans hfn)).symm
  refine ⟨by kernel_rfl,fun j t ht=>?_⟩
  rw [Tryz.params5] at ht
  have hm:=Array.mem_of_getElem? ht
  have:t=34:=by
    simp at hm
    omega
  subst this
  · exact (show Tryz.prog.wantsStandIn 34=false by kernel_rfl)
end Go.Proofs.YtefphimaggjihaaGreatDoor.Pi
namespace Go.Proofs.YtefphimaggjihaaGreatDoor
/-- THE STATEMENT. -/
theorem sceneBack_holds:Rows.SceneBackCardSaid :=
  Claim7.holds_tied_plain_at .later [] _ _ _ _ Pi.saidSceneBack (fun _ h=>by cases h) (by kernel_rfl) (fun _ h=>by cases h) sceneBack_row_tie rfl ⟨rfl,rfl⟩ (by kernel_rfl) rfl Pi.plainSceneBack (by kernel_rfl)
#print axioms sceneBack_holds
end Go.Proofs.YtefphimaggjihaaGreatDoor
