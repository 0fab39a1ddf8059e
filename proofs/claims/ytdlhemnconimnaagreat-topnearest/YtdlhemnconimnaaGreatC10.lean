/-
  The law TopNearest returns true for every value of its arguments, and leaves them as they were. No conditions beyond the row's own.
-/
import Derived.Test.YtdlhemnconimnaaGreatC9
import Derived.Test.YtdlhemnconimnaaGreatRows
import Derived.Carry
import Derived.ChangeSlices
open Go.Proofs.Tryz renaming checked->aL1,f5->aMz,func5->aOx,prog->bO,underlying3->aKI
namespace Go.Proofs.YtdlhemnconimnaaGreat
open Go.Gv Go.RowKit Go.ChangeShapes Go.WideShapes Go.ChangeAt
open Go.Ev (cn ZG)
set_option maxRecDepth 100000 in
theorem JJ(os:Os)(started:os.Started)(H:Type)(enc:TypeId × Value->H) :
  ReturnsInHanded {} aL1 os 5 .any (Rows.topNearestSpec.pre6 enc bO aMz Rows.topNearestRow.domain false) (Rows.topNearestSpec.post enc bO aMz false true false false):=by
 refine returnsInHanded_of_change (C:=aL1) Tryz.own started (by kernel_rfl) aOx
  (ChangeSpec.witness6 (enc:=enc) (C:=aL1) false ⟨#[],#[.slice none 0 0,.int .i64 0,.int .i64 0,.int .i64 0],[]⟩ 8 (by kernel_rfl) (by kernel_rfl) (by kernel_rfl) (by kernel_rfl)) ?_
 intro W g d O gs before f x w _;have a:∀(j:Nat) t v,aMz.params[j]?=some t->d[j]?=some v->Value.okWide bO W .any g t v:=f;have r:=x;obtain⟨p,q,u,J,rfl,G,E⟩:=x;have e:DataW.TrodAll enc bO W 0 (λ _=>true) true aMz.params.toList d.toList O p:=u;rw[Tryz.params5]at e a;obtain⟨n,t0,d0,s0,p0,q0,hargs,rfl,rfl,N,e⟩:=trodAll_cons e;obtain⟨l,t1,d1,s1,p1,q1,rfl,rfl,rfl,M,e⟩:=trodAll_cons e;obtain⟨k,t2,d2,s2,p2,q2,rfl,rfl,rfl,L,e⟩:=trodAll_cons e;obtain⟨v3,Z,d3,s3,p3,q3,rfl,rfl,rfl,K,e⟩:=trodAll_cons e;obtain⟨rfl,rfl,rfl⟩:=trodAll_nil e;obtain rfl:d=#[n,l,k,v3]:=by rw[<-Array.toList_inj,hargs]
 obtain⟨rfl,rfl⟩:=trodVars_none J;obtain⟨n0,B,r0,S⟩:=am5 Tryz.underlying56 (by kernel_rfl) (a 0 56 n rfl rfl) N;obtain⟨Y,A,R⟩:=Pw aKI (by kernel_rfl) (a 1 3 l rfl rfl) M;obtain⟨X,z,Q⟩:=Pw aKI (by kernel_rfl) (a 2 3 k rfl rfl) L;obtain⟨U,y,P⟩:=Pw aKI (by kernel_rfl) (a 3 3 v3 rfl rfl) K;refine((Tr.Pp (λ i F=>Tr.asz (S i F)) (Tr.asz R) (Tr.asz Q) (Tr.asz P)).2 (λ _=>False) W #[n,l,k,v3] (λ _ h=>h.elim) (aD.2 ⟨n,_,rfl,r0,aD.2 ⟨l,_,rfl,A,aD.2 ⟨k,_,rfl,z,aD.2 ⟨v3,_,rfl,y,bR.2 rfl⟩⟩⟩⟩) (KC λ _=>rfl)).mono ?_;rintro e' W' ⟨v,rfl,hv,I⟩;have o:v=.bool true:=cB.1 hv;subst o;exact⟨_,rfl,ZG Tryz.laidOut (by kernel_rfl) rfl (by kernel_rfl) Tryz.underlying4 rfl r I⟩
theorem topNearest_holds:Rows.TopNearestSaid :=
 OpenClaim.holds_of_wide 5 aMz rfl rfl rfl rfl rfl rfl rfl ⟨rfl,rfl,rfl,rfl,rfl⟩ rfl rfl rfl rfl rfl (by kernel_rfl) aOx (by kernel_rfl)
  (Qx (by kernel_rfl)) (by unfold Func.isWrapper;first | (rw[gH (by decide +kernel)];kernel_rfl) | (rw[fP (by decide +kernel)];exact⟨rfl,rfl⟩))
  (λ d started H a _=>JJ d started H a)
#print axioms topNearest_holds
end Go.Proofs.YtdlhemnconimnaaGreat
