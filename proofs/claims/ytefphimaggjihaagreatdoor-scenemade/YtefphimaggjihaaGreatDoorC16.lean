/-
  From a law's contract to its row: the arguments as they are read; that they read behind the call as they did.
-/
import Derived.Test.YtefphimaggjihaaGreatDoorC4
import Derived.ProofKit
import Derived.OpenShut
open Go.DataW renaming TrodAll->aAl,trod->azl
namespace Go.Ev
open Go.RowKit Go.ChangeShapes Go.WideShapes Go.ChangeAt
section
variable{H:Type}{enc:TypeId × Value->H}{P:Program}
theorem BR(hl:laidOutB P=true){W W':World}(hb:Below W.heap.size W W'):∀{ts:List TypeId} {vs:List Value} {ds:List (DataW H)} {p:List MemPlace},(ts.all λ t=>P.readableRec t&&decide (t<P.types.size))=true ->
  aAl enc P W 0 (λ _=>true) true ts vs ds p->(∀x∈p,x.block<W.heap.size)->aAl enc P W' 0 (λ b=>decide (b<W.heap.size)) true ts vs ds p
 | [],[],[],_,_,h,_=>h
 |t::ts,v::vs,d::ds,p,ht,h,hlt=>by
  obtain⟨p1,q1,h1,h2,rfl⟩:=h;simp only[List.all_cons,Bool.and_eq_true]at ht;exact⟨p1,q1,Below.trod hl ht.1.1 (of_decide_eq_true ht.1.2) h1 hb (λ x hx=>hlt x (List.mem_append_left _ hx)),BR hl hb ht.2 h2 (λ x hx=>hlt x (List.mem_append_right _ hx)),rfl⟩
 | [],_::_,_,_,_,h,_=>by simp[aAl]at h
 | [],[],_::_,_,_,h,_=>by simp[aAl]at h
 |_::_,[],_,_,_,h,_=>by simp[aAl]at h
 |_::_,_::_,[],_,_,h,_=>by simp[aAl]at h
theorem TW{fn:Func}{s:ChangeSpec}{W W':World}{args:Array Value}{ds gs:List (DataW H)}{before:List MemPlace}{tb:TypeId}(hl:laidOutB P=true)(hts:(fn.params.toList.all λ t=>P.readableRec t&&decide (t<P.types.size))=true)
  (hv:s.vars=[]) (hr:fn.resultTypes=#[tb]) (au9:P.underlying tb=some .bool) (hfn:s.fn H (ds++gs)={ results:=[.lit (.bool true)],args:=ds }) (hW:DataW.Whole enc P fn.params.toList s.vars false W args.toList ds gs before)
  (hb:Below W.heap.size W W'):s.post enc P fn false true false false W args (.bool true) W':=by
 have hW':=hW;obtain⟨p,q,hA,hV,rfl,hfz,hnd⟩:=hW;rw[hv]at hV;obtain⟨rfl,rfl⟩:=trodVars_none hV;refine⟨ds,[],p++[],[],p,[],hW',?_,?_,?_,hb.frame _,λ h=>by cases h⟩
 .rw[hfn,hr]
  exact trodAll_mk1 (shut_bool au9 true)
 .rw[hfn]
  exact BR hl hb hts hA (λ x hx=>by simpa using hW'.lt x (by simpa using hx))
 .rw[hfn,hv]
  exact rfl
def nY{α:Type}:List (Option (List α))->Option (List α)
 | []=>some []
 |some a::l=>(nY l).map (a++·)
 |none::_=>none
def Ky(P:Program):Nat->List Field->Bool
 |_,[]=>true
 |o,f::fs=>(f.offset==o)&&Ky P (o+P.cellsOf f.type) fs
section
variable{w:World}{base:Nat}{spare:Nat->Bool}{held:Bool}{fuel:Nat}{t:TypeId}{cs:List Value}{x:DataW H × List MemPlace}
theorem trod_bool'(ht:P.underlying t=some .bool)(h:azl enc P w base spare held fuel t cs=some x):∃b,cs=[.bool b]:=by
 cases fuel with
 |zero=>simp[azl]at h
 |succ m =>
  unfold azl at h;rw[ht]at h;split at h<;>simp_all
theorem trod_int'{k:IntKind}(ht:P.underlying t=some (.int k))(h:azl enc P w base spare held fuel t cs=some x):∃n,cs=[.int k n]/\(Lit.int k n).wf=true:=by
 cases fuel with
 |zero=>simp[azl]at h
 |succ m =>
  unfold azl at h;rw[ht]at h;split at h<;>simp_all
theorem TL{k:FloatKind}(ht:P.underlying t=some (.float k))(h:azl enc P w base spare held fuel t cs=some x):∃b,cs=[.float k b]/\(Lit.float k b).wf=true:=by
 cases fuel with
 |zero=>simp[azl]at h
 |succ m =>
  unfold azl at h;rw[ht]at h;split at h<;>simp_all
theorem trod_string'(ht:P.underlying t=some .string)(h:azl enc P w base spare held fuel t cs=some x):∃s,cs=[.string s]/\s.size<=maxLen:=by
 cases fuel with
 |zero=>simp[azl]at h
 |succ m =>
  unfold azl at h;rw[ht]at h;split at h<;>simp_all
end
end
end Go.Ev
