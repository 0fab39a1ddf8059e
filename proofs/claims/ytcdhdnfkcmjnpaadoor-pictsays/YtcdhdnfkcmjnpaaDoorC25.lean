/-
  The law PictSays returns true for every picture: its bytes and its text are those of the document's answer, and both are read back as that picture. The library's tables hold what the program's text lays.
-/
import Derived.Test.YtcdhdnfkcmjnpaaDoorC24
namespace Go.Proofs.YtcdhdnfkcmjnpaaDoor.Pi
open Go.Gv Go.RowKit Go.ChangeShapes Go.WideShapes Go.ChangeAt
open Go.Ev (law_post)

set_option maxRecDepth 100000 in
/-- WHAT THE LAW GIVES, FOR ALL ARGUMENTS AND EVERY WORLD THAT HOLDS THE TABLES. -/
theorem contractPictSays (H:Type) (enc:TypeId × Value→H) (W:World) (base:Nat) (args:Array Value) (ds gs:List (DataW H)) (before:List MemPlace)
    (hval:∀ (j:Nat) t v,Tryd.f3.params[j]?=some t→args[j]?=some v→Value.okWide Tryd.prog W .any base t v)
    (hW:DataW.Whole enc Tryd.prog Tryd.f3.params.toList Rows.pictSaysSpec.vars false W args.toList ds gs before) (hL:laidMetH Tryd.prog Rows.pictSaysRow.laid W) :
    Calls Tryd.prog 3 args W fun e W'=>∃ v,e=.returned v∧Rows.pictSaysSpec.post enc Tryd.prog Tryd.f3 false true false false W args v W':=by
  have hL':laidMet Tryd.prog Rows.pictSaysRow.laid W:=hL
  have hW':=hW
  obtain ⟨p,q,hA0,hV,rfl,hfz,hnd⟩:=hW
  have hA:DataW.TrodAll enc Tryd.prog W 0 (fun _=>true) true Tryd.f3.params.toList args.toList ds p:=hA0
  rw [Tryd.params3] at hA hval
  obtain ⟨v0,t0,d0,s0,p0,q0,hargs,rfl,rfl,h0,hA⟩:=trodAll_cons hA
  obtain ⟨rfl,rfl,rfl⟩:=trodAll_nil hA
  obtain rfl:args=#[v0]:=by rw [← Array.toList_inj,hargs]
  obtain ⟨rfl,rfl⟩:=trodVars_none hV
  obtain ⟨z0,k0,y0⟩:=open_agg (n:=6) (ks:=[.i .i64,.i .i64,.l 1 [.i .u8]]) Tryd.underlying24 rfl (by kernel_rfl) (hval 0 24 v0 rfl rfl) h0
  obtain ⟨f0,b0,r0⟩:=pic_arg k0 y0
  refine ((pictSays_law (W:=f0.W) (H:=f0.H) (n:=f0.n) (g:=f0.px) b0.2).2 (fun _=>False) W #[v0] (fun _ h=>h.elim)
    (rels_cons.2 ⟨v0,_,rfl,r0,rels_nil.2 rfl⟩) (glob_ok hL')).mono ?_
  rintro e' W' ⟨v,rfl,hv,hb⟩
  have hvt:v=.bool true:=rel_x.1 hv
  subst hvt
  exact ⟨_,rfl,law_post Tryd.laidOut (by kernel_rfl) rfl (by kernel_rfl) Tryd.underlying4 rfl hW' hb⟩
abbrev wArgsPictSays:Array Value:=#[.agg #[.int .i64 0,.int .i64 0,.slice none 0 0]]
theorem laid_metPictSays (os:Os):laidMet Tryd.prog Rows.pictSaysRow.laid ((laidWorld os).forCall (fun _ _=>0) ⟨#[],wArgsPictSays,[]⟩).memory :=
  laidMet_of_run' 300 (by kernel_rfl) (by kernel_rfl)
theorem readsPictSays (os:Os) {H:Type} (enc:TypeId × Value→H):∃ ds places,DataW.whole enc Tryd.prog ((laidWorld os).forCall (fun _ _=>0) ⟨#[],wArgsPictSays,[]⟩).memory Tryd.f3.params.toList Rows.pictSaysSpec.vars false wArgsPictSays.toList 8=some (ds,[],places) :=
  ⟨[.agg [.lit (.int .i64 0),.lit (.int .i64 0),.nil]],[],by kernel_rfl⟩
set_option maxRecDepth 100000 in
theorem liftedPictSays (os:Os) (started:os.Started) (H:Type) (enc:TypeId × Value→H) (F:Stop.Interp) :
    ReturnsInHanded {} Tryd.checked os 3 .any ((OpenSpec.ofChange Rows.pictSaysSpec).preRow enc Tryd.prog Tryd.f3 Rows.pictSaysRow.domain false Rows.pictSaysRow.laid) (((OpenSpec.ofChange Rows.pictSaysSpec).at F).post enc Tryd.prog Tryd.f3 false true false false):=by
  obtain ⟨ds,places,hx⟩:=readsPictSays os enc
  refine returnsInHanded_of_row (C:=Tryd.checked) (s:=OpenSpec.ofChange Rows.pictSaysSpec) Tryd.own started (by kernel_rfl) Tryd.func3
    (witness_row_at (enc:=enc) (C:=Tryd.checked) false (laidWorld os) wArgsPictSays rfl (by kernel_rfl) (by kernel_rfl) (by kernel_rfl)
      (OpenSpec.preRow_of_cond 8 hx (by kernel_rfl) (fun k hk=>by cases hk) (by kernel_rfl) (laid_metPictSays os))) ?_
  intro W base args ds gs before hval hW _ _ _ hL _ _
  exact contractPictSays H enc W base args ds gs before hval hW hL
theorem saidPictSays:Rows.PictSaysSaid :=
  OpenClaim.holds_of_cond 3 Tryd.f3 rfl rfl rfl rfl rfl rfl rfl ⟨rfl,rfl,rfl,rfl,rfl⟩ rfl rfl rfl rfl rfl (by kernel_rfl) Tryd.func3 (by kernel_rfl)
    (of_decide_eq_true (by kernel_rfl)) (by unfold Func.isWrapper; first | (rw [if_pos (by decide +kernel)]; kernel_rfl) | (rw [if_neg (by decide +kernel)]; exact ⟨rfl,rfl⟩))
    (fun os started H enc _ F=>by rw [OpenClaim.pre_eq_preRow]; exact liftedPictSays os started H enc F)
/-- No parameter wants a stand-in; the program's own looks are off. -/
theorem plainPictSays (f : FuncId) (fn : Func) (hf : Tryd.pinned.checked.prog.funcNamed "rayhouse/rayhouselaw.PictSays" = some f) (hfn : Tryd.pinned.checked.prog.funcs[f]? = some fn) :
    false=Tryd.pinned.checked.prog.looks []∧∀ (j:Nat) t,fn.params[j]?=some t→Tryd.pinned.checked.prog.wantsStandIn t=false:=by
  obtain rfl : f = 3 := Option.some.inj ((show Tryd.prog.funcNamed "rayhouse/rayhouselaw.PictSays" = some 3 by kernel_rfl).symm.trans hf) |>.symm
  obtain rfl:fn=Tryd.f3:=(Option.some.inj (Tryd.func3.symm.trans hfn)).symm
  refine ⟨by kernel_rfl,fun j t ht=>?_⟩
  rw [Tryd.params3] at ht
  have hm:=Array.mem_of_getElem? ht
  have:t=24:=by
    simp at hm
    omega
  subst this
  · exact (show Tryd.prog.wantsStandIn 24=false by kernel_rfl)
end Go.Proofs.YtcdhdnfkcmjnpaaDoor.Pi
namespace Go.Proofs.YtcdhdnfkcmjnpaaDoor
/-- THE STATEMENT. -/
theorem pictSays_holds:Rows.PictSaysCardSaid :=
  Claim7.holds_tied_plain_at .later [] _ _ _ _ Pi.saidPictSays (fun _ h=>by cases h) (by kernel_rfl) (fun _ h=>by cases h) pictSays_row_tie rfl ⟨rfl,rfl⟩ (by kernel_rfl) rfl Pi.plainPictSays (by kernel_rfl)
#print axioms pictSays_holds
end Go.Proofs.YtcdhdnfkcmjnpaaDoor
