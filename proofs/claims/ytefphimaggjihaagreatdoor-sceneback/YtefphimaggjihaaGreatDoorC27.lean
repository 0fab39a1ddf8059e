/-
  A scene that came in; what the library's tables and the program's own hold, as the laws over scenes find them.
-/
import Derived.Test.YtefphimaggjihaaGreatDoorC26
import Derived.Test.YtefphimaggjihaaGreatDoorRows
import Derived.Test.YtefphimaggjihaaGreatDoorTie
import Derived.Test.YtefphimaggjihaaGreatDoorCards
import Derived.Carry
import Derived.ChangeSlices
import Derived.SizedLaws
import Derived.Deep.DeepHandedRow
import Derived.ProofKit
import Derived.OpenShut
import Derived.Lib.LaidTab
namespace Go.Proofs.YtefphimaggjihaaGreatDoor.Hs.Sc
open Go.Gv Go.RowKit So Fm
def dSh:List AV→Shp
  | [.x (.int .i64 k),.f a0,.f a1,.f a2,.f a3,.f a4,.f a5,.f a6,.f a7,.f a8,.f a9,.f a10,.x (.int .i64 sk)]=>⟨k,ls [a0,a1,a2,a3,a4,a5,a6,a7,a8,a9,a10],sk⟩
  | _=>⟨0,fun _=>0,0⟩
def dIn:List AV→Int
  | [.x (.int .i64 n)]=>n
  | _=>0
def dFd:List AV→Fm.Fd
  | [.x (.int .i64 w),.x (.int .i64 h),.f a,.f b,.f c,.f d,.sl _ n el,.x (.int .i64 sk)]=>⟨w,h,ls [a,b,c],d,n,fun i=>dIn (el i),sk⟩
  | _=>⟨0,0,fun _=>0,0,0,fun _=>0,0⟩
def iAt:List AV→Nat→Int
  | [],_=>0
  | x::_,0=>dIn [x]
  | _::l,i+1=>iAt l i
def fAt:List AV→Nat→Nat
  | [],_=>0
  | .f x::_,0=>x
  | _::_,0=>0
  | _::l,i+1=>fAt l i
def decSc:List AV→Scn
  | [.sl _ n1 e1,.sl _ n2 e2,.sl _ n3 e3,.sl _ n4 e4,.sl _ n5 e5,x,y,z,a,b,c,d,e,f,g,h,i,j]=>⟨n1,fun q=>dSh (e1 q),n2,fun q=>dSo (e2 q),n3,fun q=>dFd (e3 q),n4,fun q=>iAt (e4 q),n5,fun q=>fAt (e5 q),fun q r=>iAt (e5 q) (r+3),iAt [x,y,z],fAt [a,b,c,d,e,f,g,h,i,j]⟩
  | _=>⟨0,fun _=>dSh [],0,fun _=>dSo [],0,fun _=>dFd [],0,fun _ _=>0,0,fun _ _=>0,fun _ _=>0,fun _=>0,fun _=>0⟩
theorem fitL_c {k:Kd} {ks:List Kd} {zs:List AV} (h:fitL (k::ks) zs):∃ x l,zs=x::l∧fitA k x∧fitL ks l:=by
  match zs,h with
  | [],h=>have:=fitL_length h; simp at this
  | x::l,h=>exact ⟨x,l,rfl,(fitL_cons.1 h).1,(fitL_cons.1 h).2⟩
theorem fitL_e {zs:List AV} (h:fitL [] zs):zs=[]:=by
  match zs,h with
  | [],_=>rfl
  | _::_,h=>have:=fitL_length h; simp at this
theorem fitF {a:AV} (h:fitA .f a):∃ x,a=.f x:=by
  rw [fitA] at h
  obtain ⟨n,e,_⟩:=h
  exact ⟨_,e⟩
theorem fitI' {a:AV} (h:fitA (.i .i64) a):∃ n,a=iA n:=by
  rw [fitA] at h
  obtain ⟨n,rfl,_⟩:=h
  exact ⟨n,rfl⟩
theorem sl_imp {E:Env} {sz n:Nat} {el el':Nat→List AV} {v:Value} (he:∀ q,q < n→(el' q).length=(el q).length∧∀ (E:Env) (cs:List Value),pre E (el q) cs→pre E (el' q) cs) (h:rel E (.sl sz n el) v):rel E (.sl sz n el') v:=by
  obtain ⟨a,c,e,hc,h1⟩:=rel_sl.1 h
  refine rel_sl.2 ⟨a,c,e,hc,?_⟩
  rcases h1 with h1 | ⟨b,o,cs,e',fz,h2,h3,h4,h5⟩
  · exact Or.inl h1
  · exact Or.inr ⟨b,o,cs,e',fz,h2,h3,h4,fun i hi=>⟨(he i hi).1.trans (h5 i hi).1,(he i hi).2 _ _ (h5 i hi).2⟩⟩
theorem sl_same' {E:Env} {sz n:Nat} {el el':Nat→List AV} {v:Value} (he:∀ q,q < n→el q=el' q) (h:rel E (.sl sz n el) v):rel E (.sl sz n el') v:=sl_imp (fun q hq=>by rw [he q hq]; exact ⟨rfl,fun _ _ h=>h⟩) h
abbrev ptKd:List Kd:=[.i .i64,.i .i64,.i .i64,.i .i64,.f,.f,.f,.f,.f,.f,.f,.f,.f,.f,.f,.i .i64]
abbrev shKd:List Kd:=[.i .i64,.f,.f,.f,.f,.f,.f,.f,.f,.f,.f,.f,.i .i64]
abbrev soKd:List Kd:=[.l 16 ptKd,.i .i64]
abbrev fdKd:List Kd:=[.i .i64,.i .i64,.f,.f,.f,.f,.l 1 [.i .i64],.i .i64]
abbrev skKd:List Kd:=[.i .i64,.i .i64,.i .i64,.i .i64,.i .i64,.i .i64,.i .i64,.i .i64,.i .i64,.i .i64]
abbrev lmKd:List Kd:=[.f,.f,.f,.i .i64,.i .i64,.i .i64]
abbrev scKd:List Kd:=[.l 13 shKd,.l 2 soKd,.l 8 fdKd,.l 10 skKd,.l 6 lmKd,.i .i64,.i .i64,.i .i64,.f,.f,.f,.f,.f,.f,.f,.f,.f,.f]
theorem part_arg {zs:List AV} (h:fitL [.i .i64,.i .i64,.i .i64,.i .i64,.f,.f,.f,.f,.f,.f,.f,.f,.f,.f,.f,.i .i64] zs):zs=(decP zs).c:=by
  obtain ⟨x0,l,rfl,h0,h⟩:=fitL_c h
  obtain ⟨x1,l,rfl,h1,h⟩:=fitL_c h
  obtain ⟨x2,l,rfl,h2,h⟩:=fitL_c h
  obtain ⟨x3,l,rfl,h3,h⟩:=fitL_c h
  obtain ⟨x4,l,rfl,h4,h⟩:=fitL_c h
  obtain ⟨x5,l,rfl,h5,h⟩:=fitL_c h
  obtain ⟨x6,l,rfl,h6,h⟩:=fitL_c h
  obtain ⟨x7,l,rfl,h7,h⟩:=fitL_c h
  obtain ⟨x8,l,rfl,h8,h⟩:=fitL_c h
  obtain ⟨x9,l,rfl,h9,h⟩:=fitL_c h
  obtain ⟨x10,l,rfl,h10,h⟩:=fitL_c h
  obtain ⟨x11,l,rfl,h11,h⟩:=fitL_c h
  obtain ⟨x12,l,rfl,h12,h⟩:=fitL_c h
  obtain ⟨x13,l,rfl,h13,h⟩:=fitL_c h
  obtain ⟨x14,l,rfl,h14,h⟩:=fitL_c h
  obtain ⟨x15,l,rfl,h15,h⟩:=fitL_c h
  obtain rfl:=fitL_e h
  obtain ⟨a0,rfl⟩:=fitI' h0
  obtain ⟨a1,rfl⟩:=fitI' h1
  obtain ⟨a2,rfl⟩:=fitI' h2
  obtain ⟨a3,rfl⟩:=fitI' h3
  obtain ⟨a4,rfl⟩:=fitF h4
  obtain ⟨a5,rfl⟩:=fitF h5
  obtain ⟨a6,rfl⟩:=fitF h6
  obtain ⟨a7,rfl⟩:=fitF h7
  obtain ⟨a8,rfl⟩:=fitF h8
  obtain ⟨a9,rfl⟩:=fitF h9
  obtain ⟨a10,rfl⟩:=fitF h10
  obtain ⟨a11,rfl⟩:=fitF h11
  obtain ⟨a12,rfl⟩:=fitF h12
  obtain ⟨a13,rfl⟩:=fitF h13
  obtain ⟨a14,rfl⟩:=fitF h14
  obtain ⟨a15,rfl⟩:=fitI' h15
  rfl
theorem shape_arg {zs:List AV} (h:fitL [.i .i64,.f,.f,.f,.f,.f,.f,.f,.f,.f,.f,.f,.i .i64] zs):zs=(dSh zs).c:=by
  obtain ⟨x0,l,rfl,h0,h⟩:=fitL_c h
  obtain ⟨x1,l,rfl,h1,h⟩:=fitL_c h
  obtain ⟨x2,l,rfl,h2,h⟩:=fitL_c h
  obtain ⟨x3,l,rfl,h3,h⟩:=fitL_c h
  obtain ⟨x4,l,rfl,h4,h⟩:=fitL_c h
  obtain ⟨x5,l,rfl,h5,h⟩:=fitL_c h
  obtain ⟨x6,l,rfl,h6,h⟩:=fitL_c h
  obtain ⟨x7,l,rfl,h7,h⟩:=fitL_c h
  obtain ⟨x8,l,rfl,h8,h⟩:=fitL_c h
  obtain ⟨x9,l,rfl,h9,h⟩:=fitL_c h
  obtain ⟨x10,l,rfl,h10,h⟩:=fitL_c h
  obtain ⟨x11,l,rfl,h11,h⟩:=fitL_c h
  obtain ⟨x12,l,rfl,h12,h⟩:=fitL_c h
  obtain rfl:=fitL_e h
  obtain ⟨a0,rfl⟩:=fitI' h0
  obtain ⟨a1,rfl⟩:=fitF h1
  obtain ⟨a2,rfl⟩:=fitF h2
  obtain ⟨a3,rfl⟩:=fitF h3
  obtain ⟨a4,rfl⟩:=fitF h4
  obtain ⟨a5,rfl⟩:=fitF h5
  obtain ⟨a6,rfl⟩:=fitF h6
  obtain ⟨a7,rfl⟩:=fitF h7
  obtain ⟨a8,rfl⟩:=fitF h8
  obtain ⟨a9,rfl⟩:=fitF h9
  obtain ⟨a10,rfl⟩:=fitF h10
  obtain ⟨a11,rfl⟩:=fitF h11
  obtain ⟨a12,rfl⟩:=fitI' h12
  rfl
theorem skin_arg {zs:List AV} (h:fitL [.i .i64,.i .i64,.i .i64,.i .i64,.i .i64,.i .i64,.i .i64,.i .i64,.i .i64,.i .i64] zs):zs=skC (iAt zs):=by
  obtain ⟨x0,l,rfl,h0,h⟩:=fitL_c h
  obtain ⟨x1,l,rfl,h1,h⟩:=fitL_c h
  obtain ⟨x2,l,rfl,h2,h⟩:=fitL_c h
  obtain ⟨x3,l,rfl,h3,h⟩:=fitL_c h
  obtain ⟨x4,l,rfl,h4,h⟩:=fitL_c h
  obtain ⟨x5,l,rfl,h5,h⟩:=fitL_c h
  obtain ⟨x6,l,rfl,h6,h⟩:=fitL_c h
  obtain ⟨x7,l,rfl,h7,h⟩:=fitL_c h
  obtain ⟨x8,l,rfl,h8,h⟩:=fitL_c h
  obtain ⟨x9,l,rfl,h9,h⟩:=fitL_c h
  obtain rfl:=fitL_e h
  obtain ⟨a0,rfl⟩:=fitI' h0
  obtain ⟨a1,rfl⟩:=fitI' h1
  obtain ⟨a2,rfl⟩:=fitI' h2
  obtain ⟨a3,rfl⟩:=fitI' h3
  obtain ⟨a4,rfl⟩:=fitI' h4
  obtain ⟨a5,rfl⟩:=fitI' h5
  obtain ⟨a6,rfl⟩:=fitI' h6
  obtain ⟨a7,rfl⟩:=fitI' h7
  obtain ⟨a8,rfl⟩:=fitI' h8
  obtain ⟨a9,rfl⟩:=fitI' h9
  rfl
theorem lamp_arg {zs:List AV} (h:fitL [.f,.f,.f,.i .i64,.i .i64,.i .i64] zs):zs=lmC (fAt zs) (fun r=>iAt zs (r+3)):=by
  obtain ⟨x0,l,rfl,h0,h⟩:=fitL_c h
  obtain ⟨x1,l,rfl,h1,h⟩:=fitL_c h
  obtain ⟨x2,l,rfl,h2,h⟩:=fitL_c h
  obtain ⟨x3,l,rfl,h3,h⟩:=fitL_c h
  obtain ⟨x4,l,rfl,h4,h⟩:=fitL_c h
  obtain ⟨x5,l,rfl,h5,h⟩:=fitL_c h
  obtain rfl:=fitL_e h
  obtain ⟨a0,rfl⟩:=fitF h0
  obtain ⟨a1,rfl⟩:=fitF h1
  obtain ⟨a2,rfl⟩:=fitF h2
  obtain ⟨a3,rfl⟩:=fitI' h3
  obtain ⟨a4,rfl⟩:=fitI' h4
  obtain ⟨a5,rfl⟩:=fitI' h5
  rfl
theorem int_arg {zs:List AV} (h:fitL [.i .i64] zs):zs=[iA (dIn zs)]:=by
  obtain ⟨x0,l,rfl,h0,h⟩:=fitL_c h
  obtain rfl:=fitL_e h
  obtain ⟨a0,rfl⟩:=fitI' h0
  rfl
theorem solid_arg {zs:List AV} (h:fitL soKd zs):(dSo zs).c.length=zs.length∧∀ (E:Env) (cs:List Value),pre E zs cs→pre E (dSo zs).c cs:=by
  obtain ⟨x0,l,rfl,h0,h⟩:=fitL_c h
  obtain ⟨x1,l,rfl,h1,h⟩:=fitL_c h
  obtain rfl:=fitL_e h
  rw [fitA] at h0
  obtain ⟨n,el,rfl,hn,hel⟩:=h0
  obtain ⟨sk,rfl⟩:=fitI' h1
  refine ⟨rfl,fun E cs hc=>?_⟩
  obtain ⟨u,us,e,r1,r2⟩:=pre_cons.1 hc
  exact pre_cons.2 ⟨u,us,e,sl_same' (fun q hq=>part_arg (hel q hq)) r1,r2⟩
theorem field_arg {zs:List AV} (h:fitL fdKd zs):(dFd zs).c.length=zs.length∧∀ (E:Env) (cs:List Value),pre E zs cs→pre E (dFd zs).c cs:=by
  obtain ⟨x0,l,rfl,h0,h⟩:=fitL_c h
  obtain ⟨x1,l,rfl,h1,h⟩:=fitL_c h
  obtain ⟨x2,l,rfl,h2,h⟩:=fitL_c h
  obtain ⟨x3,l,rfl,h3,h⟩:=fitL_c h
  obtain ⟨x4,l,rfl,h4,h⟩:=fitL_c h
  obtain ⟨x5,l,rfl,h5,h⟩:=fitL_c h
  obtain ⟨x6,l,rfl,h6,h⟩:=fitL_c h
  obtain ⟨x7,l,rfl,h7,h⟩:=fitL_c h
  obtain rfl:=fitL_e h
  obtain ⟨a0,rfl⟩:=fitI' h0
  obtain ⟨a1,rfl⟩:=fitI' h1
  obtain ⟨a2,rfl⟩:=fitF h2
  obtain ⟨a3,rfl⟩:=fitF h3
  obtain ⟨a4,rfl⟩:=fitF h4
  obtain ⟨a5,rfl⟩:=fitF h5
  rw [fitA] at h6
  obtain ⟨n,el,rfl,hn,hel⟩:=h6
  obtain ⟨a7,rfl⟩:=fitI' h7
  refine ⟨rfl,fun E cs hc=>?_⟩
  obtain ⟨u0,us,e0,r0,hc⟩:=pre_cons.1 hc
  obtain ⟨u1,us,e1,r1,hc⟩:=pre_cons.1 hc
  obtain ⟨u2,us,e2,r2,hc⟩:=pre_cons.1 hc
  obtain ⟨u3,us,e3,r3,hc⟩:=pre_cons.1 hc
  obtain ⟨u4,us,e4,r4,hc⟩:=pre_cons.1 hc
  obtain ⟨u5,us,e5,r5,hc⟩:=pre_cons.1 hc
  obtain ⟨u6,us,e6,r6,hc⟩:=pre_cons.1 hc
  exact pre_cons.2 ⟨u0,_,e0,r0,pre_cons.2 ⟨u1,_,e1,r1,pre_cons.2 ⟨u2,_,e2,r2,pre_cons.2 ⟨u3,_,e3,r3,pre_cons.2 ⟨u4,_,e4,r4,pre_cons.2 ⟨u5,_,e5,r5,pre_cons.2 ⟨u6,_,e6,sl_same' (fun q hq=>int_arg (hel q hq)) r6,hc⟩⟩⟩⟩⟩⟩⟩
theorem scene_arg {E:Env} {zs:List AV} {v:Value} (h:fitL scKd zs) (hr:rel E (.agg zs) v):∃ s:Scn,s.nK≤maxLen∧rel E (.agg s.c) v:=by
  obtain ⟨x0,l,rfl,h0,h⟩:=fitL_c h
  obtain ⟨x1,l,rfl,h1,h⟩:=fitL_c h
  obtain ⟨x2,l,rfl,h2,h⟩:=fitL_c h
  obtain ⟨x3,l,rfl,h3,h⟩:=fitL_c h
  obtain ⟨x4,l,rfl,h4,h⟩:=fitL_c h
  obtain ⟨x5,l,rfl,h5,h⟩:=fitL_c h
  obtain ⟨x6,l,rfl,h6,h⟩:=fitL_c h
  obtain ⟨x7,l,rfl,h7,h⟩:=fitL_c h
  obtain ⟨x8,l,rfl,h8,h⟩:=fitL_c h
  obtain ⟨x9,l,rfl,h9,h⟩:=fitL_c h
  obtain ⟨x10,l,rfl,h10,h⟩:=fitL_c h
  obtain ⟨x11,l,rfl,h11,h⟩:=fitL_c h
  obtain ⟨x12,l,rfl,h12,h⟩:=fitL_c h
  obtain ⟨x13,l,rfl,h13,h⟩:=fitL_c h
  obtain ⟨x14,l,rfl,h14,h⟩:=fitL_c h
  obtain ⟨x15,l,rfl,h15,h⟩:=fitL_c h
  obtain ⟨x16,l,rfl,h16,h⟩:=fitL_c h
  obtain ⟨x17,l,rfl,h17,h⟩:=fitL_c h
  obtain rfl:=fitL_e h
  rw [fitA] at h0
  obtain ⟨n0,e0,rfl,m0,f0⟩:=h0
  rw [fitA] at h1
  obtain ⟨n1,e1,rfl,m1,f1⟩:=h1
  rw [fitA] at h2
  obtain ⟨n2,e2,rfl,m2,f2⟩:=h2
  rw [fitA] at h3
  obtain ⟨n3,e3,rfl,m3,f3⟩:=h3
  rw [fitA] at h4
  obtain ⟨n4,e4,rfl,m4,f4⟩:=h4
  obtain ⟨a5,rfl⟩:=fitI' h5
  obtain ⟨a6,rfl⟩:=fitI' h6
  obtain ⟨a7,rfl⟩:=fitI' h7
  obtain ⟨a8,rfl⟩:=fitF h8
  obtain ⟨a9,rfl⟩:=fitF h9
  obtain ⟨a10,rfl⟩:=fitF h10
  obtain ⟨a11,rfl⟩:=fitF h11
  obtain ⟨a12,rfl⟩:=fitF h12
  obtain ⟨a13,rfl⟩:=fitF h13
  obtain ⟨a14,rfl⟩:=fitF h14
  obtain ⟨a15,rfl⟩:=fitF h15
  obtain ⟨a16,rfl⟩:=fitF h16
  obtain ⟨a17,rfl⟩:=fitF h17
  refine ⟨decSc [.sl 13 n0 e0,.sl 2 n1 e1,.sl 8 n2 e2,.sl 10 n3 e3,.sl 6 n4 e4,iA a5,iA a6,iA a7,.f a8,.f a9,.f a10,.f a11,.f a12,.f a13,.f a14,.f a15,.f a16,.f a17],m3,?_⟩
  obtain ⟨vs,e,hr⟩:=rel_agg.1 hr
  refine rel_agg.2 ⟨vs,e,?_⟩
  obtain ⟨u0,us,q0,r0,hr⟩:=rels_cons.1 hr
  obtain ⟨u1,us,q1,r1,hr⟩:=rels_cons.1 hr
  obtain ⟨u2,us,q2,r2,hr⟩:=rels_cons.1 hr
  obtain ⟨u3,us,q3,r3,hr⟩:=rels_cons.1 hr
  obtain ⟨u4,us,q4,r4,hr⟩:=rels_cons.1 hr
  exact rels_cons.2 ⟨u0,_,q0,sl_same' (fun q hq=>shape_arg (f0 q hq)) r0,rels_cons.2 ⟨u1,_,q1,sl_imp (fun q hq=>solid_arg (f1 q hq)) r1,rels_cons.2 ⟨u2,_,q2,sl_imp (fun q hq=>field_arg (f2 q hq)) r2,rels_cons.2 ⟨u3,_,q3,sl_same' (fun q hq=>skin_arg (f3 q hq)) r3,rels_cons.2 ⟨u4,_,q4,sl_same' (fun q hq=>lamp_arg (f4 q hq)) r4,hr⟩⟩⟩⟩⟩
end Go.Proofs.YtefphimaggjihaaGreatDoor.Hs.Sc
namespace Go.Proofs.YtefphimaggjihaaGreatDoor.Pi
open Go.Gv Go.RowKit Go.ChangeShapes Go.WideShapes Go.ChangeAt
theorem gn1 : Tryz.prog.globalNamed "rayhouse/scene.opWords" = some 1 := by kernel_rfl
theorem gn2 : Tryz.prog.globalNamed "internal/strconv.uint64pow10" = some 2 := by kernel_rfl
theorem gt1:(Tryz.prog.globals[1]?).map (·.type)=some 184:=by kernel_rfl
theorem gt2:(Tryz.prog.globals[2]?).map (·.type)=some 243:=by kernel_rfl
theorem pre_xs (E:Env):∀ vs:List Value,pre E (vs.map .x) vs
  | []=>pre_nil
  | v::vs=>pre_cons.2 ⟨v,vs,rfl,rel_x.2 rfl,pre_xs E vs⟩
/-- An array of strings that reads as these holds these, cell for cell. -/
theorem cells_of_strs {H:Type} {enc:TypeId × Value→H} {P:Program} {w:World} {base:Nat} {sp:Nat→Bool} {held:Bool} {fuel:Nat} {t e:TypeId} {n:Nat} {cs:List Value} {zs:List (List UInt8)} {p:List MemPlace}
    (ht:P.underlying t=some (.array n e)) (he:P.underlying e=some .string) (hce:P.cellsOf e=1) (hct:P.cellsOf t=n)
    (h:DataW.trod enc P w base sp held fuel t cs=some (.agg (zs.map fun z=>.lit (.string z)),p)):cs=zs.map fun z=>Value.string ⟨z.toArray⟩:=by
  cases fuel with
  | zero=>simp [DataW.trod] at h
  | succ fuel =>
    simp only [DataW.trod,ht,hce,hct,Nat.mul_one] at h
    split at h
    · rename_i hl
      obtain ⟨xs,hm,hx⟩:=Option.map_eq_some_iff.1 h
      have hxs:xs.map (·.1)=zs.map fun z=>(DataW.lit (.string z):DataW H):=by
        have:=congrArg Prod.fst hx
        simpa using this
      have hxl:xs.length=n:=by simpa using Lib.mapM_length hm
      have hzl:zs.length=n:=by
        have:=congrArg List.length hxs
        simp at this
        omega
      apply List.ext_getElem?
      intro i
      by_cases hi:i < n
      · obtain ⟨b,hb,hf⟩:=Lib.mapM_at hm i i (by simp [hi])
        obtain ⟨z,hc,rfl,_⟩:=DataW.trod_string he hf
        have h1:cs[i]?=some (.string z):=by
          have:=congrArg (·[0]?) hc
          simpa [List.getElem?_take,List.getElem?_drop] using this
        have h2:(xs.map (·.1))[i]?=some (DataW.lit (.string z.data.toList):DataW H):=by simp [hb]
        rw [hxs] at h2
        simp only [List.getElem?_map,Option.map_eq_some_iff,DataW.lit.injEq,Lit.string.injEq] at h2
        obtain ⟨z',hz',e'⟩:=h2
        rw [h1,List.getElem?_map,hz',e']
        rfl
      · rw [List.getElem?_eq_none (by omega),List.getElem?_eq_none (by simp; omega)]
    · cases h
def opS:List (List UInt8):=[[],[98,111,116,104],[101,105,116,104,101,114],[108,101,115,115]]
theorem tabs {W : World} (h : laidMet Tryz.prog Rows.scenePrintsRow.laid W) : Lib.TabIs Tryz.prog W "internal/strconv.uint64pow10" .u64 Lib.pow10Tab ∧ W.var? Tryz.prog "rayhouse/scene.opWords" = some (opS.map fun z => Value.string ⟨z.toArray⟩).toArray := by
  obtain ⟨ps,⟨_,_,_,_,_,_,_,_,_,_,⟨_,_,_,_,_,_,_,_,_,_,⟨g,t,cs,fuel,p,q,hg,ht,hvar,hd,⟨_,_,_,_,_,_,_,_,_,_,⟨g',t',cs',fuel',p',q',hg',ht',hvar',hd',_,_⟩,_⟩,_⟩,_⟩,_⟩,_⟩:=h
  constructor
  · obtain rfl:=Option.some.inj (gn2.symm.trans hg)
    obtain rfl:=Option.some.inj (gt2.symm.trans ht)
    unfold Lib.TabIs
    rw [hvar,← Lib.cells_of_tab (zs:=Lib.pow10Tab) Tryz.underlying243 Tryz.underlying223 (by kernel_rfl) (by kernel_rfl) hd]
  · obtain rfl:=Option.some.inj (gn1.symm.trans hg')
    obtain rfl:=Option.some.inj (gt1.symm.trans ht')
    rw [hvar',← cells_of_strs (zs:=opS) Tryz.underlying184 Tryz.underlying9 (by kernel_rfl) (by kernel_rfl) hd']
theorem glob_ok {W:World} (h:laidMet Tryz.prog Rows.scenePrintsRow.laid W):glob ⟨W,fun _=>False,fun _=>none⟩:=by
  obtain ⟨h2,h1⟩:=tabs h
  have k2:known 2=some ((Lib.pow10Tab.map fun z=>Value.int .u64 z).map .x):=by kernel_rfl
  have k1:known 1=some ((opS.map fun z=>Value.string ⟨z.toArray⟩).map .x):=by kernel_rfl
  unfold Lib.TabIs World.var? at h2
  unfold World.var? at h1
  rw [gn2] at h2
  rw [gn1] at h1
  simp only [Option.bind_some] at h1 h2
  intro g l hl
  have hg:g=1∨g=2:=by
    unfold known at hl
    cases e1:Nat.beq g 1
    · cases e2:Nat.beq g 2
      · rw [e1,e2] at hl; cases hl
      · exact Or.inr (Nat.eq_of_beq_eq_true e2)
    · exact Or.inl (Nat.eq_of_beq_eq_true e1)
  rcases hg with rfl | rfl
  · obtain rfl:=Option.some.inj (k1.symm.trans hl)
    split at h1
    · rename_i cs e fz hh
      simp only [Option.some.injEq] at h1
      constructor
      · show relA _ _ _
        rw [relA]
        refine ⟨1,0,cs,e,fz,rfl,fun hf=>hf,hh,?_⟩
        rw [h1]
        show pre _ _ _
        simpa using pre_xs (Env.fz ⟨W,fun _=>False,fun _=>none⟩) (opS.map fun z=>Value.string ⟨z.toArray⟩)
      · intro cs' e' fz' hh'
        have:=hh.symm.trans hh'
        simp only [Option.some.injEq,Obj.cells.injEq] at this
        rw [← this.1,h1]
        simp
    · cases h1
  · obtain rfl:=Option.some.inj (k2.symm.trans hl)
    split at h2
    · rename_i cs e fz hh
      simp only [Option.some.injEq] at h2
      constructor
      · show relA _ _ _
        rw [relA]
        refine ⟨2,0,cs,e,fz,rfl,fun hf=>hf,hh,?_⟩
        rw [h2]
        show pre _ _ _
        simpa using pre_xs (Env.fz ⟨W,fun _=>False,fun _=>none⟩) (Lib.pow10Tab.map fun z=>Value.int .u64 z)
      · intro cs' e' fz' hh'
        have:=hh.symm.trans hh'
        simp only [Option.some.injEq,Obj.cells.injEq] at this
        rw [← this.1,h2]
        simp
    · cases h2
/-- The cells of a datum. -/
def cell1 {H:Type}:DataW H→List Value
  | .lit (.int k n)=>[.int k n]
  | .lit (.string s)=>[.string ⟨s.toArray⟩]
  | _=>[]
def cell2 {H:Type}:DataW H→List Value
  | .agg ds=>ds.flatMap cell1
  | d=>cell1 d
def cellsOf {H:Type}:DataW H→List Value
  | .agg ds=>ds.flatMap cell2
  | d=>cell2 d
/-- A WORLD FOR THE WITNESS. -/
def lay (cs:List Value):Obj→Obj
  | .cells _ t frozen=>.cells cs.toArray t frozen
  | o=>o
noncomputable def laidWorld (os:Os):World :=
  let w0:=World.holding Tryz.prog os ⟨#[],#[],[]⟩
  { w0 with heap:=(((((w0.heap.modify 6 (lay (cellsOf Rows.laid_unicode_utf8_acceptRanges (H:=Unit)))).modify 5 (lay (cellsOf Rows.laid_unicode_utf8_first))).modify 2 (lay (cellsOf Rows.laid_internal_strconv_uint64pow10 (H:=Unit)))).modify 3 (lay (cellsOf Rows.laid_math_bits_deBruijn32tab (H:=Unit)))).modify 4 (lay (cellsOf Rows.laid_math_bits_deBruijn64tab (H:=Unit)))).modify 1 (lay (cellsOf Rows.laid_rayhouse_scene_opWords (H:=Unit))) }
end Go.Proofs.YtefphimaggjihaaGreatDoor.Pi
