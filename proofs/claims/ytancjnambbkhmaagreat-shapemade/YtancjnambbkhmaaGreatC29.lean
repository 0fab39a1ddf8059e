/-
  The law ShapeMade returns true for every value of its arguments, and leaves them as they were.
-/
import Derived.Test.YtancjnambbkhmaaGreatC28
import Derived.Test.YtancjnambbkhmaaGreatRows
import Derived.Carry
import Derived.ChangeSlices
namespace Go.Proofs.YtancjnambbkhmaaGreat
open Go.Gv Go.RowKit Go.ChangeShapes Go.WideShapes Go.ChangeAt
open Go.Ev (cn law_post)

set_option maxRecDepth 100000 in
theorem shapeMade_lifted (os:Os) (started:os.Started) (H:Type) (enc:TypeId × Value→H) :
    ReturnsInHanded {} Tryz.checked os 4 .any (Rows.shapeMadeSpec.pre6 enc Tryz.prog Tryz.f4 Rows.shapeMadeRow.domain false) (Rows.shapeMadeSpec.post enc Tryz.prog Tryz.f4 false true false false):=by
  refine returnsInHanded_of_change (C:=Tryz.checked) Tryz.own started (by kernel_rfl) Tryz.func4
    (ChangeSpec.witness6 (enc:=enc) (C:=Tryz.checked) false ⟨#[],#[.slice none 0 0],[]⟩ 8 (by kernel_rfl) (by kernel_rfl) (by kernel_rfl) (by kernel_rfl)) ?_
  intro W base args ds gs before hval0 hW hcnd _
  have hval:∀ (j:Nat) t v,Tryz.f4.params[j]?=some t→args[j]?=some v→Value.okWide Tryz.prog W .any base t v:=hval0
  have hW':=hW
  obtain ⟨p,q,hA0,hV,rfl,hfz,hnd⟩:=hW
  have hA:DataW.TrodAll enc Tryz.prog W 0 (fun _=>true) true Tryz.f4.params.toList args.toList ds p:=hA0
  rw [Tryz.params4] at hA hval
  obtain ⟨v0,t0,d0,s0,p0,q0,hargs,rfl,rfl,h0,hA⟩:=trodAll_cons hA
  obtain ⟨rfl,rfl,rfl⟩:=trodAll_nil hA
  obtain rfl:args=#[v0]:=by rw [← Array.toList_inj,hargs]
  obtain ⟨rfl,rfl⟩:=trodVars_none hV
  obtain ⟨n0,hs0,r0,b0⟩:=open_raw Tryz.underlying45 (by kernel_rfl) (hval 0 45 v0 rfl rfl) h0
  refine ((Hs.shapeMade_law fun i hi=>Hs.wf64 (b0 i hi)).2 (fun _=>False) W #[v0] (fun _ h=>h.elim) (rels_cons.2 ⟨v0,_,rfl,r0,rels_nil.2 rfl⟩) (glob_none fun _=>rfl)).mono ?_
  rintro e' W' ⟨v,rfl,hv,hb⟩
  have hvt:v=.bool true:=rel_x.1 hv
  subst hvt
  exact ⟨_,rfl,law_post Tryz.laidOut (by kernel_rfl) rfl (by kernel_rfl) Tryz.underlying4 rfl hW' hb⟩

/-- THE STATEMENT. -/
theorem shapeMade_holds:Rows.ShapeMadeSaid :=
  OpenClaim.holds_of_wide 4 Tryz.f4 rfl rfl rfl rfl rfl rfl rfl ⟨rfl,rfl,rfl,rfl,rfl⟩ rfl rfl rfl rfl rfl (by kernel_rfl) Tryz.func4 (by kernel_rfl)
    (of_decide_eq_true (by kernel_rfl)) (by unfold Func.isWrapper; first | (rw [if_pos (by decide +kernel)]; kernel_rfl) | (rw [if_neg (by decide +kernel)]; exact ⟨rfl,rfl⟩))
    (fun os started H enc _=>shapeMade_lifted os started H enc)
#print axioms shapeMade_holds
end Go.Proofs.YtancjnambbkhmaaGreat
