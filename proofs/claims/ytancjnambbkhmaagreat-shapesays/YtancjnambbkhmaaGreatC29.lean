/-
  The law ShapeSays returns true for every value of its arguments, and leaves them as they were.
-/
import Derived.Test.YtancjnambbkhmaaGreatC28
import Derived.Test.YtancjnambbkhmaaGreatRows
import Derived.Carry
import Derived.ChangeSlices
namespace Go.Proofs.YtancjnambbkhmaaGreat
open Go.Gv Go.RowKit Go.ChangeShapes Go.WideShapes Go.ChangeAt
open Go.Ev (cn law_post)

namespace Hs
theorem fitL_c {k:Kd} {ks:List Kd} {zs:List AV} (h:fitL (k::ks) zs):∃ x l,zs=x::l∧fitA k x∧fitL ks l:=by
  match zs,h with
  | [],h=>have:=fitL_length h; simp at this
  | x::l,h=>exact ⟨x,l,rfl,(fitL_cons.1 h).1,(fitL_cons.1 h).2⟩
theorem fitL_e {zs:List AV} (h:fitL [] zs):zs=[]:=by
  match zs,h with
  | [],_=>rfl
  | _::_,h=>have:=fitL_length h; simp at this
theorem fitF {a:AV} (h:fitA .f a):∃ x,a=.f x:=by
  rw [fitA] at h
  obtain ⟨n,e,_⟩:=h
  exact ⟨_,e⟩
theorem fitI' {a:AV} (h:fitA (.i .i64) a):∃ n,a=iA n:=by
  rw [fitA] at h
  obtain ⟨n,rfl,_⟩:=h
  exact ⟨n,rfl⟩
abbrev shKd:List Kd:=[.i .i64,.f,.f,.f,.f,.f,.f,.f,.f,.f,.f,.f,.i .i64]
theorem shape_arg {E:Env} {zs:List AV} {v:Value} (h:fitL shKd zs) (hr:rel E (.agg zs) v):∃ k a sk,rel E (SH k a sk) v:=by
  obtain ⟨x0,l,rfl,h0,h⟩:=fitL_c h
  obtain ⟨x1,l,rfl,h1,h⟩:=fitL_c h
  obtain ⟨x2,l,rfl,h2,h⟩:=fitL_c h
  obtain ⟨x3,l,rfl,h3,h⟩:=fitL_c h
  obtain ⟨x4,l,rfl,h4,h⟩:=fitL_c h
  obtain ⟨x5,l,rfl,h5,h⟩:=fitL_c h
  obtain ⟨x6,l,rfl,h6,h⟩:=fitL_c h
  obtain ⟨x7,l,rfl,h7,h⟩:=fitL_c h
  obtain ⟨x8,l,rfl,h8,h⟩:=fitL_c h
  obtain ⟨x9,l,rfl,h9,h⟩:=fitL_c h
  obtain ⟨x10,l,rfl,h10,h⟩:=fitL_c h
  obtain ⟨x11,l,rfl,h11,h⟩:=fitL_c h
  obtain ⟨x12,l,rfl,h12,h⟩:=fitL_c h
  obtain rfl:=fitL_e h
  obtain ⟨k,rfl⟩:=fitI' h0
  obtain ⟨a1,rfl⟩:=fitF h1
  obtain ⟨a2,rfl⟩:=fitF h2
  obtain ⟨a3,rfl⟩:=fitF h3
  obtain ⟨a4,rfl⟩:=fitF h4
  obtain ⟨a5,rfl⟩:=fitF h5
  obtain ⟨a6,rfl⟩:=fitF h6
  obtain ⟨a7,rfl⟩:=fitF h7
  obtain ⟨a8,rfl⟩:=fitF h8
  obtain ⟨a9,rfl⟩:=fitF h9
  obtain ⟨a10,rfl⟩:=fitF h10
  obtain ⟨a11,rfl⟩:=fitF h11
  obtain ⟨sk,rfl⟩:=fitI' h12
  exact ⟨k,ls [a1,a2,a3,a4,a5,a6,a7,a8,a9,a10,a11],sk,hr⟩
theorem ray_arg {E:Env} {zs:List AV} {v:Value} (h:fitL [.f,.f,.f,.f,.f,.f,.f] zs) (hr:rel E (.agg zs) v):∃ r,rel E (RY r) v:=by
  obtain ⟨x1,l,rfl,h1,h⟩:=fitL_c h
  obtain ⟨x2,l,rfl,h2,h⟩:=fitL_c h
  obtain ⟨x3,l,rfl,h3,h⟩:=fitL_c h
  obtain ⟨x4,l,rfl,h4,h⟩:=fitL_c h
  obtain ⟨x5,l,rfl,h5,h⟩:=fitL_c h
  obtain ⟨x6,l,rfl,h6,h⟩:=fitL_c h
  obtain ⟨x7,l,rfl,h7,h⟩:=fitL_c h
  obtain rfl:=fitL_e h
  obtain ⟨a1,rfl⟩:=fitF h1
  obtain ⟨a2,rfl⟩:=fitF h2
  obtain ⟨a3,rfl⟩:=fitF h3
  obtain ⟨a4,rfl⟩:=fitF h4
  obtain ⟨a5,rfl⟩:=fitF h5
  obtain ⟨a6,rfl⟩:=fitF h6
  obtain ⟨a7,rfl⟩:=fitF h7
  exact ⟨ls [a1,a2,a3,a4,a5,a6,a7],hr⟩
theorem vec_arg {E:Env} {zs:List AV} {v:Value} (h:fitL [.f,.f,.f] zs) (hr:rel E (.agg zs) v):∃ p q u,rel E (V p q u) v:=by
  obtain ⟨x1,l,rfl,h1,h⟩:=fitL_c h
  obtain ⟨x2,l,rfl,h2,h⟩:=fitL_c h
  obtain ⟨x3,l,rfl,h3,h⟩:=fitL_c h
  obtain rfl:=fitL_e h
  obtain ⟨a1,rfl⟩:=fitF h1
  obtain ⟨a2,rfl⟩:=fitF h2
  obtain ⟨a3,rfl⟩:=fitF h3
  exact ⟨a1,a2,a3,hr⟩
end Hs
set_option maxRecDepth 100000 in
theorem shapeSays_lifted (os:Os) (started:os.Started) (H:Type) (enc:TypeId × Value→H) :
    ReturnsInHanded {} Tryz.checked os 3 .any (Rows.shapeSaysSpec.pre6 enc Tryz.prog Tryz.f3 Rows.shapeSaysRow.domain false) (Rows.shapeSaysSpec.post enc Tryz.prog Tryz.f3 false true false false):=by
  refine returnsInHanded_of_change (C:=Tryz.checked) Tryz.own started (by kernel_rfl) Tryz.func3
    (ChangeSpec.witness6 (enc:=enc) (C:=Tryz.checked) false ⟨#[],#[.agg #[.int .i64 0,.float .f64 0,.float .f64 0,.float .f64 0,.float .f64 0,.float .f64 0,.float .f64 0,.float .f64 0,.float .f64 0,.float .f64 0,.float .f64 0,.float .f64 0,.int .i64 0],.agg #[.float .f64 0,.float .f64 0,.float .f64 0,.float .f64 0,.float .f64 0,.float .f64 0,.float .f64 0],.agg #[.float .f64 0,.float .f64 0,.float .f64 0]],[]⟩ 8 (by kernel_rfl) (by kernel_rfl) (by kernel_rfl) (by kernel_rfl)) ?_
  intro W base args ds gs before hval0 hW hcnd _
  have hval:∀ (j:Nat) t v,Tryz.f3.params[j]?=some t→args[j]?=some v→Value.okWide Tryz.prog W .any base t v:=hval0
  have hW':=hW
  obtain ⟨p,q,hA0,hV,rfl,hfz,hnd⟩:=hW
  have hA:DataW.TrodAll enc Tryz.prog W 0 (fun _=>true) true Tryz.f3.params.toList args.toList ds p:=hA0
  rw [Tryz.params3] at hA hval
  obtain ⟨v0,t0,d0,s0,p0,q0,hargs,rfl,rfl,h0,hA⟩:=trodAll_cons hA
  obtain ⟨v1,t1,d1,s1,p1,q1,rfl,rfl,rfl,h1,hA⟩:=trodAll_cons hA
  obtain ⟨v2,t2,d2,s2,p2,q2,rfl,rfl,rfl,h2,hA⟩:=trodAll_cons hA
  obtain ⟨rfl,rfl,rfl⟩:=trodAll_nil hA
  obtain rfl:args=#[v0,v1,v2]:=by rw [← Array.toList_inj,hargs]
  obtain ⟨rfl,rfl⟩:=trodVars_none hV
  obtain ⟨z0,k0,y0⟩:=open_agg (n:=6) (ks:=Hs.shKd) Tryz.underlying26 rfl (by kernel_rfl) (hval 0 26 v0 rfl rfl) h0
  obtain ⟨k,a,sk,r0⟩:=Hs.shape_arg k0 y0
  obtain ⟨z1,k1,y1⟩:=open_agg (n:=6) (ks:=[.f,.f,.f,.f,.f,.f,.f]) Tryz.underlying28 rfl (by kernel_rfl) (hval 1 28 v1 rfl rfl) h1
  obtain ⟨r,r1⟩:=Hs.ray_arg k1 y1
  obtain ⟨z2,k2,y2⟩:=open_agg (n:=6) (ks:=[.f,.f,.f]) Tryz.underlying24 rfl (by kernel_rfl) (hval 2 24 v2 rfl rfl) h2
  obtain ⟨x,y,w,r2⟩:=Hs.vec_arg k2 y2
  refine ((Hs.shapeSays_law k a sk r x y w).2 (fun _=>False) W #[v0,v1,v2] (fun _ h=>h.elim) (rels_cons.2 ⟨v0,_,rfl,r0,rels_cons.2 ⟨v1,_,rfl,r1,rels_cons.2 ⟨v2,_,rfl,r2,rels_nil.2 rfl⟩⟩⟩) (glob_none fun _=>rfl)).mono ?_
  rintro e' W' ⟨v,rfl,hv,hb⟩
  have hvt:v=.bool true:=rel_x.1 hv
  subst hvt
  exact ⟨_,rfl,law_post Tryz.laidOut (by kernel_rfl) rfl (by kernel_rfl) Tryz.underlying4 rfl hW' hb⟩

/-- THE STATEMENT. -/
theorem shapeSays_holds:Rows.ShapeSaysSaid :=
  OpenClaim.holds_of_wide 3 Tryz.f3 rfl rfl rfl rfl rfl rfl rfl ⟨rfl,rfl,rfl,rfl,rfl⟩ rfl rfl rfl rfl rfl (by kernel_rfl) Tryz.func3 (by kernel_rfl)
    (of_decide_eq_true (by kernel_rfl)) (by unfold Func.isWrapper; first | (rw [if_pos (by decide +kernel)]; kernel_rfl) | (rw [if_neg (by decide +kernel)]; exact ⟨rfl,rfl⟩))
    (fun os started H enc _=>shapeSays_lifted os started H enc)
#print axioms shapeSays_holds
end Go.Proofs.YtancjnambbkhmaaGreat
