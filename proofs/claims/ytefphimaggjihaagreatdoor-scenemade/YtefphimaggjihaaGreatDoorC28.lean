/-
  The law SceneMade returns true for every row of numbers and every number: scenes that are made of them are printed as the document's answer prints them, and read back as the same. The tables hold what the program's text lays.
-/
import Derived.Test.YtefphimaggjihaaGreatDoorC26
import Derived.Test.YtefphimaggjihaaGreatDoorC27
open Go.OpenSpec renaming ofChange->aBu
open Go.Proofs.Tryz renaming checked->aCL,f6->aBt,prog->bW
namespace Go.Proofs.YtefphimaggjihaaGreatDoor.Pi
open Go.Gv Go.RowKit Go.ChangeShapes Go.WideShapes Go.ChangeAt
open Go.Ev (TW)
theorem alA{n:Int}(h:(Lit.int .i64 n).wf=true):-9223372036854775808<=n/\n<=9223372036854775807:=by
 have h1:IntKind.i64.min<=n/\n<=IntKind.i64.max:=by simpa[Lit.wf]using h
 rw[show IntKind.i64.min=-9223372036854775808 by decide,show IntKind.i64.max=9223372036854775807 by decide]at h1;exact h1
set_option maxRecDepth 100000 in
theorem Ey(H:Type)(enc:TypeId × Value->H)(W:World)(base:Nat)(args:Array Value)(ds gs:List (DataW H))(before:List MemPlace)
  (hval:∀(j:Nat) t v,aBt.params[j]?=some t->args[j]?=some v->Value.okWide bW W .any base t v)
  (hW:DataW.Whole enc bW aBt.params.toList Rows.sceneMadeSpec.vars false W args.toList ds gs before) (hL:laidMetH bW Rows.sceneMadeRow.laid W) :
  Calls bW 6 args W λ e W'=>∃v,e=.returned v/\Rows.sceneMadeSpec.post enc bW aBt false true false false W args v W':=by
 have hL':laidMet bW Rows.scenePrintsRow.laid W:=hL;have hW':=hW;obtain⟨p,q,hA0,hV,rfl,hfz,hnd⟩:=hW;have hA:DataW.TrodAll enc bW W 0 (λ _=>true) true aBt.params.toList args.toList ds p:=hA0;rw[Tryz.params6]at hA hval;obtain⟨v0,t0,d0,s0,p0,q0,hargs,rfl,rfl,h0,hA⟩:=trodAll_cons hA;obtain⟨v1,t1,d1,s1,p1,q1,rfl,rfl,rfl,h1,hA⟩:=trodAll_cons hA;obtain⟨rfl,rfl,rfl⟩:=trodAll_nil hA;obtain rfl:args=#[v0,v1]:=by rw[<-Array.toList_inj,hargs]
 obtain⟨rfl,rfl⟩:=trodVars_none hV;obtain⟨n,hs,r0,b0⟩:=adj Tryz.underlying48 (by kernel_rfl) (hval 0 48 v0 rfl rfl) h0;obtain⟨n1,r1,b1⟩:=adi Tryz.underlying3 (by kernel_rfl) (hval 1 3 v1 rfl rfl) h1
 refine((Rd.Me (λ i hi=>alA (b0 i hi)) (alA b1)).2 (λ _=>False) W #[v0,v1] (λ _ h=>h.elim)
  (aH.2 ⟨v0,_,rfl,r0,aH.2 ⟨v1,_,rfl,r1,bK.2 rfl⟩⟩) (ajW hL')).mono ?_
 rintro e' W' ⟨v,rfl,hv,hb⟩;have hvt:v=.bool true:=bI.1 hv;subst hvt;exact⟨_,rfl,TW Tryz.laidOut (by kernel_rfl) rfl (by kernel_rfl) Tryz.underlying4 rfl hW' hb⟩
abbrev nZ:Array Value:=#[.slice none 0 0,.int .i64 0]
theorem Ez(os:Os):laidMet bW Rows.sceneMadeRow.laid ((FU os).forCall (λ _ _=>0) ⟨#[],nZ,[]⟩).memory :=
 laidMet_of_run' 300 (by kernel_rfl) (by kernel_rfl)
theorem KG(os:Os){H:Type}(enc:TypeId × Value->H):∃ds places,DataW.whole enc bW ((FU os).forCall (λ _ _=>0) ⟨#[],nZ,[]⟩).memory aBt.params.toList Rows.sceneMadeSpec.vars false nZ.toList 8=some (ds,[],places) :=
 ⟨[.nil,.lit (.int .i64 0)],[],by kernel_rfl⟩
set_option maxRecDepth 100000 in
theorem Hr(os:Os)(started:os.Started)(H:Type)(enc:TypeId × Value->H)(F:Stop.Interp) :
  ReturnsInHanded {} aCL os 6 .any ((aBu Rows.sceneMadeSpec).preRow enc bW aBt Rows.sceneMadeRow.domain false Rows.sceneMadeRow.laid) (((aBu Rows.sceneMadeSpec).at F).post enc bW aBt false true false false):=by
 obtain⟨ds,places,hx⟩:=KG os enc
 refine returnsInHanded_of_row (C:=aCL) (s:=aBu Rows.sceneMadeSpec) Tryz.own started (by kernel_rfl) Tryz.func6
  (witness_row_at (enc:=enc) (C:=aCL) false (FU os) nZ rfl (by kernel_rfl) (by kernel_rfl) (by kernel_rfl)
   (OpenSpec.preRow_of_cond 8 hx (by kernel_rfl) (λ k hk=>by cases hk) (by kernel_rfl) (Ez os))) ?_
 intro W base args ds gs before hval hW _ _ _ hL _ _;exact Ey H enc W base args ds gs before hval hW hL
theorem Mf:Rows.SceneMadeSaid :=
 OpenClaim.holds_of_cond 6 aBt rfl rfl rfl rfl rfl rfl rfl ⟨rfl,rfl,rfl,rfl,rfl⟩ rfl rfl rfl rfl rfl (by kernel_rfl) Tryz.func6 (by kernel_rfl)
  (of_decide_eq_true (by kernel_rfl)) (by unfold Func.isWrapper;first | (rw[if_pos (by decide +kernel)];kernel_rfl) | (rw[if_neg (by decide +kernel)];exact⟨rfl,rfl⟩))
  (λ os started H enc _ F=>by rw[OpenClaim.pre_eq_preRow];exact Hr os started H enc F)
theorem KH (f : FuncId) (fn : Func) (hf : Tryz.pinned.checked.prog.funcNamed "rayhouse/rayhouselaw.SceneMade" = some f) (hfn : Tryz.pinned.checked.prog.funcs[f]? = some fn) :
  true=Tryz.pinned.checked.prog.looks []/\∀(j:Nat) t,fn.params[j]?=some t->Tryz.pinned.checked.prog.wantsStandIn t=false:=by
 obtain rfl : f = 6 := Option.some.inj ((show bW.funcNamed "rayhouse/rayhouselaw.SceneMade" = some 6 by kernel_rfl).symm.trans hf) |>.symm
 obtain rfl:fn=aBt:=(Option.some.inj (Tryz.func6.symm.trans hfn)).symm;refine⟨by kernel_rfl,λ j t ht=>?_⟩;rw[Tryz.params6]at ht;have hm:=Array.mem_of_getElem? ht
 have:t=48\/t=3:=by
  simp at hm;omega
 rcases this with rfl |rfl
 .exact(show bW.wantsStandIn 48=false by kernel_rfl)
 .exact(show bW.wantsStandIn 3=false by kernel_rfl)
end Go.Proofs.YtefphimaggjihaaGreatDoor.Pi
namespace Go.Proofs.YtefphimaggjihaaGreatDoor
theorem sceneMade_holds:Rows.SceneMadeCardSaid :=
 Claim7.holds_tied_plain_at .later [] _ _ _ _ Pi.Mf (λ _ h=>by cases h) (by kernel_rfl) (λ _ h=>by cases h) sceneMade_row_tie rfl ⟨rfl,rfl⟩ (by kernel_rfl) rfl Pi.KH (by kernel_rfl)
#print axioms sceneMade_holds
end Go.Proofs.YtefphimaggjihaaGreatDoor
