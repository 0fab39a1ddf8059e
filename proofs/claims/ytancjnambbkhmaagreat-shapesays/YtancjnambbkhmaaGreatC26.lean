/-
  Gya Rou Rov Row Rsz Rsa Rsb Rsc Rb1 Rb2 Rb3 Rb4 Rb5 Rb6 Rb7 Wm1 Rb8 Tc1 Rc1 Sm1 Sm2 Sm3 Sm4 Sm5 Sm6 Rt1 Rt2 Tc2 Rc2 Gyn, one behind the other.
-/
import Derived.Test.YtancjnambbkhmaaGreatC25
import Derived.Test.YtancjnambbkhmaaGreatC20
namespace Go.Gv
open Go.RowKit Go.Ev
noncomputable section

/-- In whatever order the operations are taken, what is known in the end is told by K. -/
def AnyS (P:Program) (T:Tab) (ops:Array Oper) (K:St→Prop):Nat→Array Bool→St→Prop
  | 0,listed,s=>Region.ready .any ops listed=[]∧K s
  | fuel+1,listed,s=>(Region.ready .any ops listed=[]→K s)∧∀ i,i ∈ Region.ready .any ops listed→∃ o s1,ops[i]?=some o∧AStep P T ops.toList s o s1∧AnyS P T ops K fuel (listed.setIfInBounds i true) s1
theorem anyS_more {P:Program} {T:Tab} {ops:Array Oper} {K:St→Prop} {fuel:Nat} {listed:Array Bool} {s:St} (l:List Nat) (hl:Region.ready .any ops listed=l) (hne:l≠[]) (h:∀ i,i ∈ l→∃ o s1,ops[i]?=some o∧AStep P T ops.toList s o s1∧AnyS P T ops K fuel (listed.setIfInBounds i true) s1):AnyS P T ops K (fuel+1) listed s:=by
  refine ⟨fun h0=>?_,fun i hi=>h i (by rw [← hl]; exact hi)⟩
  rw [hl] at h0
  exact absurd h0 hne
section
variable {P:Program} {T:Tab} {ops:Array Oper} {Q:Exit→Act→World→Prop} {A0 R:Nat→Prop} {w0:Env}
theorem any_wp (hT:TOk P T) {K:St→Prop} (hQ:∀ (E:Env) (a:Act) (s':St),K s'→Inv A0 R w0 E s' a→Q .normal a E.w):∀ (fuel:Nat) (listed:Array Bool) (E:Env) (s:St) (a:Act),Inv A0 R w0 E s a→AnyS P T ops K fuel listed s→wpAny P .any ops Q fuel listed a E.w
  | 0,listed,E,s,a,hI,h=>⟨h.1,hQ E a s h.2 hI⟩
  | fuel+1,listed,E,s,a,hI,h=>by
    refine ⟨fun h0=>hQ E a s (h.1 h0) hI,fun i hi=>?_⟩
    obtain ⟨o,s1,ho,hs,h4⟩:=h.2 i hi
    have go:∀ K':Act→World→Prop,(∀ E' a',Inv A0 R w0 E' s1 a'→K' a' E'.w)→if Region.wanted o (yielded ops a.tmps) then o.wp P a E.w K' Q else K' (a.put o.dst undef) E.w:=fun K' hK=>by
      rcases hs with (⟨v,mem1,h1,h2,rfl⟩ | ⟨v,rows,h1,h2,rfl⟩ | ⟨g,c,v,h1,h2,h3,h5,rfl⟩ | ⟨b,c,eff,h1,h2,h3,rfl⟩) | ⟨b,c,eff,h1,h2,h3⟩
      · exact wstep_wp hT hI h1 h2 K' hK
      · exact nstep_wp hT hI h1 h2 K' hK
      · exact lstep_wp hT hI h1 h2 h3 h5 K' hK
      · exact astep_wp hT.flat hI h1 h2 h3 K' hK
      · exact fstep_wp hT hI h1 h2 h3 K' hK
    have g:=go (wpAny P .any ops Q fuel (listed.setIfInBounds i true)) fun E' a' hI'=>any_wp hT hQ fuel _ E' s1 a' hI' h4
    unfold wpOp
    rw [ho]
    simp only
    split
    · rename_i hw
      rw [if_pos hw] at g
      exact Or.inl g
    · rename_i hw
      rw [if_neg hw] at g
      exact g
end
theorem Inv.drew {A0 R:Nat→Prop} {w0:Env} {E:Env} {s:St} {a:Act} (hI:Inv A0 R w0 E s a):Inv A0 R w0 { E with w:=E.w.drew } s a:=by
  obtain ⟨hwd,hle⟩:=hI.wd.on (w':=E.w.drew) (Below.refl _ _).drew
  exact ⟨hI.defers,frel_le hle hI.frame,hwd⟩
/-- A region that draws its order leads from what is known to what is known. -/
def RegOk (P:Program) (ops:Array Oper) (s0 s1:St):Prop:=∀ (A0 R:Nat→Prop) (w0:Env) (E:Env) (a:Act) (id:Nat) (Q:Exit→Act→World→Prop),Inv A0 R w0 E s0 a→(∀ E' a',Inv A0 R w0 E' (clr s1) a'→Q .normal a' E'.w)→(Code.region id ops true).wp P Q a E.w
theorem reg_any {P:Program} {T:Tab} {ops:Array Oper} {s s1:St} (hT:TOk P T) (hm:P.follows .mixedOrders=true) (h:AnyS P T ops (fun s'=>clr s'=clr s1) ops.size (Array.replicate ops.size false) s):RegOk P ops s s1:=fun A0 R w0 E a id Q hI hQ=>by
  refine wp_region_any hm ?_
  refine any_wp (w0:=w0) (A0:=A0) (R:=R) hT (fun E' a' s' hs hI'=>?_) ops.size _ { E with w:=E.w.drew } s a hI.drew h
  refine hQ E' a' ?_
  rw [← hs]
  exact hI'.clear
/-- One step, out of an evaluation. -/
theorem astep_of {P:Program} {T:Tab} {ops:List Oper} {o:Oper} {s s1:St} (hT:TPar T) (h:aopsK P T ops [o] s (fun s'=>some ⟨.normal,s',.any⟩)=some ⟨.normal,s1,.any⟩):AStep P T ops s o s1:=by
  obtain ⟨s',⟨s2,h1,h2⟩,h3,_⟩:=aopsK_some hT h
  have e:s2=s':=h2
  subst e
  simp only [Option.some.injEq,Out.mk.injEq,and_true,true_and] at h3
  subst h3
  exact h1
def fstD (ops:List Oper):Option Nat:=match ops with
  | o::_=>o.dst
  | []=>none
def toldD (d:Nat) (ops0:List Oper) (s0 s1:St) (D:List Oper→St→SK→Option Out):List Oper→St→SK→Option Out:=fun ops s k=>match fstD ops with
  | some d'=>cond (Nat.beq d' d) (gate (ops=ops0∧s=s0) (k s1)) (D ops s k)
  | none=>D ops s k
theorem toldD_ok {P:Program} {d:Nat} {ops0:Array Oper} {s0 s1:St} {D:List Oper→St→SK→Option Out} (hD:DOk P D) (h:RegOk P ops0 s0 s1):DOk P (toldD d ops0.toList s0 s1 D):=by
  have get:∀ {ops s k r},toldD d ops0.toList s0 s1 D ops s k=some r→(D ops s k=some r∧∀ k',toldD d ops0.toList s0 s1 D ops s k'=D ops s k')∨(ops=ops0.toList∧s=s0∧k s1=some r∧∀ k',toldD d ops0.toList s0 s1 D ops s k'=k' s1):=fun {ops s k r} hr=>by
    unfold toldD at hr ⊢
    split at hr
    · rename_i d' hd
      cases hb:Nat.beq d' d
      · rw [hb] at hr
        exact Or.inl ⟨hr,fun k'=>by simp only [cond_false]⟩
      · rw [hb] at hr
        obtain ⟨⟨g1,g2⟩,g3⟩:=gate_some hr
        exact Or.inr ⟨g1,g2,g3,fun k'=>by simp only [cond_true]; rw [gate_pos ⟨g1,g2⟩]⟩
    · exact Or.inl ⟨hr,fun k'=>rfl⟩
  constructor
  · intro ops s k r hr
    rcases get hr with ⟨g1,g2⟩ | ⟨_,_,g3,g4⟩
    · obtain ⟨s',h1,h2⟩:=hD.1 ops s k r g1
      exact ⟨s',h1,fun k'=>by rw [g2]; exact h2 k'⟩
    · exact ⟨s1,g3,g4⟩
  · intro A0 R w0 E s s' a id ops Q hI hk hQ
    have h0:=hk fun s=>some ⟨.normal,s,.any⟩
    rcases get h0 with ⟨_,g2⟩ | ⟨g1,g2,g3,_⟩
    · exact hD.2 A0 R w0 E s s' a id ops Q hI (fun k'=>by rw [← g2]; exact hk k') hQ
    · simp only [Option.some.injEq,Out.mk.injEq,and_true,true_and] at g3
      subst g3
      have e:ops=ops0:=Array.toList_inj.1 g1
      subst e g2
      exact h A0 R w0 E a id Q hI hQ
end
end Go.Gv

namespace Go.Proofs.YtancjnambbkhmaaGreat
open Go.Gv

def nilA:AV:=.x (.slice none 0 0)
/-- The operations of a region. -/
def opsAt:Code→Nat→Option (Array Oper)
  | .region id ops _,i=>cond (Nat.beq id i) (some ops) none
  | .seq x y,i=>(opsAt x i).or (opsAt y i)
  | .cond _ x y,i=>(opsAt x i).or (opsAt y i)
  | .block _ c,i=>opsAt c i
  | .loop c,i=>opsAt c i
  | _,_=>none
noncomputable def plOps:Array Oper:=((opsAt (bodyOf Tryz.f246) 5).getD #[])
theorem plOps_size:plOps.size=4:=by kernel_rfl
theorem plR0:Region.ready .any plOps #[false,false,false,false]=[0,2]:=by kernel_rfl
theorem plR1:Region.ready .any plOps #[true,false,false,false]=[1,2]:=by kernel_rfl
theorem plR2:Region.ready .any plOps #[false,false,true,false]=[0]:=by kernel_rfl
theorem plR3:Region.ready .any plOps #[true,true,false,false]=[2]:=by kernel_rfl
theorem plR4:Region.ready .any plOps #[true,false,true,false]=[1]:=by kernel_rfl
theorem plR5:Region.ready .any plOps #[true,true,true,false]=[3]:=by kernel_rfl
theorem plR6:Region.ready .any plOps #[true,true,true,true]=[]:=by kernel_rfl
/-- A state by all of its slots. -/
def mkV (n:Nat) (l:List (Nat × AV)) (mem:List Row):St:=⟨(List.range n).map fun i=>(match l.find? (fun p=>Nat.beq p.1 i) with
  | some p=>p.2
  | none=>.x undef,[]),mem⟩
section
variable (n:Nat) (f f1:Nat→Int) (lo hi:Int) (k:Nat) (C:Nat→Ply) (bh sh bl sl:Int)
def plB:Bool:=cond (decide ((n:Int) < 2)) true (decide (lo > hi))
def plS (r:List (Nat × AV)) (mem:List Row):St:=mkV 40 ([(0,pA n f),(1,iA lo),(2,iA hi),(6,nilA),(7,.own 0 0),(8,.own 1 0),(9,pA n f),(10,iA (n:Nat)),(11,bA (decide ((n:Int) < 2))),(12,bA (decide ((n:Int) < 2))),(13,.any),(14,.any),(15,.any),(16,bA (plB n lo hi)),(17,pA n f),(18,pA n f1),(19,chA k C),(20,.agg [chA k C,nilA]),(21,iA hi),(22,cutA hi bh sh)] ++ r) mem
def plM:List Row:=[.c [chA k C,nilA],.c [iA hi,iA bh,iA sh]]
abbrev PAok (at' b s:Int):Prop:=FreshSpec Tryz.prog 250 [.ref [chA k C,nilA] 0,iA at'] (cutA at' b s)∧noOwn (cutA at' b s)=true
noncomputable def plAh (at' b s:Int):Bool:=(propB (PAok k C at' b s)&&true)||false
variable (m:Nat) (u:Nat→Int)
def plM1:List Row:=[.c [chA k C,.osl 2 1 0 m],.c [iA hi,iA bh,iA sh],.a 3 1 m fun q=>[iA (u q)]]
abbrev PSok:Prop:=WSpec Tryz.prog 251 [.own 0 0,cutA lo bl sl,cutA hi bh sh] (plM hi k C bh sh) (.tup []) (plM1 hi k C bh sh m u)
noncomputable def plTb:Tab:=tabW [] [] [] [wQ Tryz.prog 251 (fun _ _=>.tup []) (fun _ _=>plM1 hi k C bh sh m u)] [rS2 Tryz.prog 250 (fun _=>cutA lo bl sl)]
noncomputable def opI (i:Nat):Oper:=match plOps[i]? with
  | some o=>o
  | none => ⟨none, .move (.const undef), 0, "", #[], none⟩
def stK:SK:=fun s'=>some ⟨.normal,s',.any⟩
def p3:Nat × AV:=(23,iA lo)
def p4:Nat × AV:=(24,cutA lo bl sl)
def p5:Nat × AV:=(25,cutA hi bh sh)
noncomputable abbrev plX (i:Nat) (r:List (Nat × AV)):Option Out:=aopsK Tryz.prog (plTb lo hi k C bh sh bl sl m u) plOps.toList [opI i] (plS n f f1 lo hi k C bh sh r (plM hi k C bh sh)) stK
abbrev plY (r:List (Nat × AV)):Option Out:=some ⟨.normal,plS n f f1 lo hi k C bh sh r (plM hi k C bh sh),.any⟩
theorem plx0:plX n f f1 lo hi k C bh sh bl sl m u 0 []=plY n f f1 lo hi k C bh sh [p3 lo]:=by kernel_rfl
theorem plx2:plX n f f1 lo hi k C bh sh bl sl m u 2 []=plY n f f1 lo hi k C bh sh [p5 hi bh sh]:=by kernel_rfl
theorem plx01:plX n f f1 lo hi k C bh sh bl sl m u 1 [p3 lo]=cond (plAh k C lo bl sl) (plY n f f1 lo hi k C bh sh [p3 lo,p4 lo bl sl]) none:=by kernel_rfl
theorem plx02:plX n f f1 lo hi k C bh sh bl sl m u 2 [p3 lo]=plY n f f1 lo hi k C bh sh [p3 lo,p5 hi bh sh]:=by kernel_rfl
theorem plx20:plX n f f1 lo hi k C bh sh bl sl m u 0 [p5 hi bh sh]=plY n f f1 lo hi k C bh sh [p3 lo,p5 hi bh sh]:=by kernel_rfl
theorem plx012:plX n f f1 lo hi k C bh sh bl sl m u 2 [p3 lo,p4 lo bl sl]=plY n f f1 lo hi k C bh sh [p3 lo,p4 lo bl sl,p5 hi bh sh]:=by kernel_rfl
theorem plx021:plX n f f1 lo hi k C bh sh bl sl m u 1 [p3 lo,p5 hi bh sh]=cond (plAh k C lo bl sl) (plY n f f1 lo hi k C bh sh [p3 lo,p4 lo bl sl,p5 hi bh sh]) none:=by kernel_rfl
theorem plx3:plX n f f1 lo hi k C bh sh bl sl m u 3 [p3 lo,p4 lo bl sl,p5 hi bh sh]=cond (propB (PSok lo hi k C bh sh bl sl m u)) (some ⟨.normal,plS n f f1 lo hi k C bh sh [p3 lo,p4 lo bl sl,p5 hi bh sh,(26,.tup [])] (plM1 hi k C bh sh m u),.any⟩) none:=by kernel_rfl
end
end Go.Proofs.YtancjnambbkhmaaGreat

namespace Go.Gv
open Go.RowKit Go.Ev
/-- A contract over a struct and a row that is there, where there is none yet. -/
theorem gspec_nil {P:Program} {f:Nat} {args:List AV} {X v:AV} {T:TypeId} {sz m:Nat} {u u':Nat→List AV} (hX:noOwn X=true) (hv:noOwn v=true) (h:GSpec P f args [.c [X,.osl 1 sz 0 0],.a T sz 0 u] v [.c [X,.osl 2 sz 0 m],.dead,.a T sz m u']):GSpec P f args [.c [X,.x (.slice none 0 0)]] v [.c [X,.osl 1 sz 0 m],.a T sz m u']:=by
  refine ⟨h.1,fun R E cargs hp hW hg hr=>?_⟩
  have only0:∀ k p,E.O k=some p→k=0:=fun k p hk=>by
    have:=hW.dom k p.1 p.2 hk
    simp only [List.length_cons,List.length_nil] at this
    omega
  have hW1:Wd E.A R E E [.c [X,.osl 1 sz 0 0],.a T sz 0 u]:=by
    refine ⟨fun k b c hb=>?_,hW.small,hW.old,fun k b c hb _=>?_,fun k k' b c c' hb hb' _ _=>?_,hW.below,hW.le0⟩
    · have:=only0 k _ hb
      subst this
      obtain ⟨row,g1,g2⟩:=hW.rows 0 b c hb
      cases g1
      obtain ⟨cs,e,k1,k2⟩:=g2
      obtain ⟨u0,us0,e3,p0,k2⟩:=pre_cons.1 k2
      obtain ⟨u1,us1,e4,p1,k3⟩:=pre_cons.1 k2
      refine ⟨_,rfl,cs,e,k1,?_⟩
      rw [e3,e4]
      exact pre_cons.2 ⟨u0,_,rfl,p0,pre_cons.2 ⟨u1,us1,rfl,rel_osl.2 (Or.inl ⟨rfl,rfl,rel_x.1 p1⟩),pre_nil⟩⟩
    · have:=only0 k _ hb
      subst this
      exact hW.own 0 b c hb rfl
    · rw [only0 k _ hb,only0 k' _ hb']
  have hp1:Pins ([.c [X,.osl 1 sz 0 0],.a T sz 0 u]:List Row).length E.A R E:=⟨fun k hk=>hp.1 k (Nat.le_trans (show 1≤2 by decide) hk),fun h0=>by cases h0⟩
  refine (h.2 R E cargs hp1 hW1 hg hr).mono ?_
  rintro e w' ⟨x,E',rfl,rfl,hW2,hx⟩
  let O2:Nat→Option (Nat × Nat × Nat):=fun k=>if k=0 then E'.O 0 else if k=1 then E'.O 2 else none
  let E2:Env:={ E' with O:=O2 }
  have hsame:∀ b,¬ E'.A b→∀ ob,E'.w.heap[b]?=some ob→¬ E2.A b∧E2.w.heap[b]?=some ob:=fun _ hb _ hob=>⟨hb,hob⟩
  have cases2:∀ k p,E2.O k=some p→(k=0∧E'.O 0=some p)∨(k=1∧E'.O 2=some p):=fun k p hk=>by
    have hk:(if k=0 then E'.O 0 else if k=1 then E'.O 2 else none)=some p:=hk
    by_cases h0:k=0
    · rw [if_pos h0] at hk; exact Or.inl ⟨h0,hk⟩
    · rw [if_neg h0] at hk
      by_cases h1:k=1
      · rw [if_pos h1] at hk; exact Or.inr ⟨h1,hk⟩
      · rw [if_neg h1] at hk; cases hk
  refine ⟨x,E2,rfl,rfl,⟨?_,hW2.small,hW2.old,?_,?_,hW2.below,⟨hW2.le0.keep,fun k p hk=>?_⟩⟩,relA_noOwn v hsame hv x hx⟩
  · intro k b c hb
    rcases cases2 k _ hb with ⟨rfl,h1⟩ | ⟨rfl,h1⟩
    · obtain ⟨row,g1,g2⟩:=hW2.rows 0 b c h1
      cases g1
      obtain ⟨cs,e,k1,k2⟩:=g2
      obtain ⟨u0,us0,e3,p0,k2⟩:=pre_cons.1 k2
      obtain ⟨u1,us1,e4,p1,k3⟩:=pre_cons.1 k2
      refine ⟨_,rfl,cs,e,k1,?_⟩
      rw [e3,e4]
      refine pre_cons.2 ⟨u0,_,rfl,relA_noOwn X hsame hX u0 p0,pre_cons.2 ⟨u1,us1,rfl,?_,pre_nil⟩⟩
      rcases rel_osl.1 p1 with g | ⟨b',c',n',g1,g2⟩
      · exact rel_osl.2 (Or.inl g)
      · exact rel_osl.2 (Or.inr ⟨b',c',n',g1,g2⟩)
    · obtain ⟨row,g1,g2⟩:=hW2.rows 2 b c h1
      cases g1
      exact ⟨_,rfl,g2⟩
  · intro k b c hb hlv
    rcases cases2 k _ hb with ⟨rfl,h1⟩ | ⟨rfl,h1⟩
    · exact hW2.own 0 b c h1 rfl
    · exact hW2.own 2 b c h1 rfl
  · intro k k' b c c' hb hb' hlv hlv'
    rcases cases2 k _ hb with ⟨rfl,h1⟩ | ⟨rfl,h1⟩
    · rcases cases2 k' _ hb' with ⟨rfl,h1'⟩ | ⟨rfl,h1'⟩
      · rfl
      · have:=hW2.one 0 2 b c c' h1 h1' rfl rfl
        cases this
    · rcases cases2 k' _ hb' with ⟨rfl,h1'⟩ | ⟨rfl,h1'⟩
      · have:=hW2.one 2 0 b c c' h1 h1' rfl rfl
        cases this
      · rfl
  · have:=only0 k p hk
    subst this
    exact hW2.le0.own 0 p hk
end Go.Gv
namespace Go.Proofs.YtancjnambbkhmaaGreat
open Go.Gv
theorem plO0:plOps[0]?=some (opI 0):=by kernel_rfl
theorem plO1:plOps[1]?=some (opI 1):=by kernel_rfl
theorem plO2:plOps[2]?=some (opI 2):=by kernel_rfl
theorem plO3:plOps[3]?=some (opI 3):=by kernel_rfl
theorem len1 {l:List Nat} {i k a:Nat} (hl:l=[a]) (h:l[i]?=some k):i=0∧k=a:=by
  subst hl
  match i,h with
  | 0,h=>simp at h; exact ⟨rfl,h.symm⟩
  | n+1,h=>simp at h
theorem ps_of {k:Nat} {C:Nat→Ply} {N S:Int→Int} {lo hi:Int} {L:List Int} (h:SeekOk k C N S lo hi 0 (fun _=>0) L):PSok lo hi k C (N hi) (S hi) (N lo) (S lo) (0+L.length) (apL 0 (fun _=>0) L):=by
  have g:=gspec_nil (X:=chA k C) rfl rfl h
  refine wframe g [0] rfl rfl rfl (fun i j hi=>?_) ⟨fun j hj hl=>?_,fun i j r hi hr=>?_,fun i r hi hr=>?_⟩
  · obtain ⟨rfl,rfl⟩:=len1 rfl hi
    exact ⟨_,rfl,rfl,rfl⟩
  · match j,hj,hl with
    | 0,hj,_=>exact absurd (by simp) hj
    | 1,_,_=>rfl
    | n+2,_,hl=>exact absurd hl (by show ¬ n+2 < 2; omega)
  · obtain ⟨rfl,rfl⟩:=len1 rfl hi
    cases hr; rfl
  · match i,hi,hr with
    | 0,hi,_=>exact absurd hi (by show ¬ 1≤0; omega)
    | 1,_,hr=>cases hr; rfl
    | n+2,_,hr=>cases hr
section
variable {n:Nat} {f f1:Nat→Int} {lo hi:Int} {k:Nat} {C:Nat→Ply} {bh sh bl sl:Int} {m:Nat} {u:Nat→Int}
theorem pl_reg (hm:Tryz.prog.follows .mixedOrders=true) (hA:PAok k C lo bl sl) (hS:PSok lo hi k C bh sh bl sl m u):RegOk Tryz.prog plOps (plS n f f1 lo hi k C bh sh [] (plM hi k C bh sh)) (plS n f f1 lo hi k C bh sh [p3 lo,p4 lo bl sl,p5 hi bh sh,(26,.tup [])] (plM1 hi k C bh sh m u)):=by
  have hT:TOk Tryz.prog (plTb lo hi k C bh sh bl sl m u):=tabW_ok e_nil k_nil m_nil (w_cons wQ_ok w_nil) (r_cons rS2_ok r_nil)
  have hb:plAh k C lo bl sl=true:=by unfold plAh; rw [propB_t hA]; rfl
  have st:∀ {i:Nat} {r:List (Nat × AV)} {s1:St},plX n f f1 lo hi k C bh sh bl sl m u i r=some ⟨.normal,s1,.any⟩→AStep Tryz.prog (plTb lo hi k C bh sh bl sl m u) plOps.toList (plS n f f1 lo hi k C bh sh r (plM hi k C bh sh)) (opI i) s1:=fun h=>astep_of hT.par h
  have y1:=plx01 n f f1 lo hi k C bh sh bl sl m u
  have y2:=plx021 n f f1 lo hi k C bh sh bl sl m u
  have y3:=plx3 n f f1 lo hi k C bh sh bl sl m u
  rw [hb,cond_true] at y1 y2
  rw [propB_t hS,cond_true] at y3
  refine reg_any hT hm ?_
  rw [plOps_size]
  have o:∀ i,i < 4→plOps[i]?=some (opI i):=fun i hi=>by
    match i,hi with
    | 0,_=>exact plO0
    | 1,_=>exact plO1
    | 2,_=>exact plO2
    | 3,_=>exact plO3
    | n+4,h=>omega
  have last:AnyS Tryz.prog (plTb lo hi k C bh sh bl sl m u) plOps (fun s'=>clr s'=clr (plS n f f1 lo hi k C bh sh [p3 lo,p4 lo bl sl,p5 hi bh sh,(26,.tup [])] (plM1 hi k C bh sh m u))) 1 #[true,true,true,false] (plS n f f1 lo hi k C bh sh [p3 lo,p4 lo bl sl,p5 hi bh sh] (plM hi k C bh sh)) :=
    anyS_more [3] plR5 (by simp) fun i hi=>by
      rw [List.mem_singleton] at hi
      subst hi
      exact ⟨_,_,o 3 (by decide),st y3,plR6,rfl⟩
  have a1:AnyS Tryz.prog (plTb lo hi k C bh sh bl sl m u) plOps _ 2 #[true,true,false,false] (plS n f f1 lo hi k C bh sh [p3 lo,p4 lo bl sl] (plM hi k C bh sh)) :=
    anyS_more [2] plR3 (by simp) fun i hi=>by
      rw [List.mem_singleton] at hi
      subst hi
      exact ⟨_,_,o 2 (by decide),st (plx012 n f f1 lo hi k C bh sh bl sl m u),last⟩
  have a2:AnyS Tryz.prog (plTb lo hi k C bh sh bl sl m u) plOps _ 2 #[true,false,true,false] (plS n f f1 lo hi k C bh sh [p3 lo,p5 hi bh sh] (plM hi k C bh sh)) :=
    anyS_more [1] plR4 (by simp) fun i hi=>by
      rw [List.mem_singleton] at hi
      subst hi
      exact ⟨_,_,o 1 (by decide),st y2,last⟩
  refine anyS_more [0,2] plR0 (by simp) fun i hi=>?_
  simp only [List.mem_cons,List.not_mem_nil,or_false] at hi
  rcases hi with rfl | rfl
  · refine ⟨_,_,o 0 (by decide),st (plx0 n f f1 lo hi k C bh sh bl sl m u),anyS_more [1,2] plR1 (by simp) fun i hi=>?_⟩
    simp only [List.mem_cons,List.not_mem_nil,or_false] at hi
    rcases hi with rfl | rfl
    · exact ⟨_,_,o 1 (by decide),st y1,a1⟩
    · exact ⟨_,_,o 2 (by decide),st (plx02 n f f1 lo hi k C bh sh bl sl m u),a2⟩
  · refine ⟨_,_,o 2 (by decide),st (plx2 n f f1 lo hi k C bh sh bl sl m u),anyS_more [0] plR2 (by simp) fun i hi=>?_⟩
    rw [List.mem_singleton] at hi
    subst hi
    exact ⟨_,_,o 0 (by decide),st (plx20 n f f1 lo hi k C bh sh bl sl m u),a2⟩
end
end Go.Proofs.YtancjnambbkhmaaGreat

namespace Go.Proofs.YtancjnambbkhmaaGreat
open Go.Gv

noncomputable def evD (P:Program) (l:List Entry) (ks:List KEntry) (ms:List MEntry) (ws:List WEntry) (rs:List REntry) (d:Nat) (ops0:List Oper) (s0 s1:St) (L:Nat→Option LFun) (fn:Func) (args:List AV) (k:AV→Option Out):Option Out:=abody P (tabW l ks ms ws rs) (toldD d ops0 s0 s1 (drawnK P (tabW l ks ms ws rs))) L 40 fn args k
theorem gspecD {l : List Entry} {ks : List KEntry} {ms : List MEntry} {ws : List WEntry} {rs : List REntry} {L : Nat → Option LFun} (hl : ∀ e, e ∈ l → EOk Tryz.prog e) (hks : ∀ e, e ∈ ks → KOk Tryz.prog e) (hms : ∀ e, e ∈ ms → MEOk Tryz.prog e) (hws : ∀ e, e ∈ ws → WEOk Tryz.prog e) (hrs : ∀ e, e ∈ rs → REOk Tryz.prog e) {d : Nat} {ops0 : Array Oper} {s0 s1 : St} (hreg : RegOk Tryz.prog ops0 s0 s1) {f : Nat} {fn : Func} (hf : Tryz.prog.funcs[f]? = some fn) (hnm : (fn.name == "runtime.NumGoroutine") = false) (hb : fn.body = some (bodyOf fn)) (hL : LOk Tryz.prog L (bodyOf fn))
    {args:List AV} (hlen:Nat.ble args.length fn.ntmps=true) {r:AV} (h:evD Tryz.prog l ks ms ws rs d ops0.toList s0 s1 L fn args ret=some (Out.of r)):FSpec Tryz.prog f args r :=
  spec_of_body (tabW_ok hl hks hms hws hrs) (toldD_ok (drawnK_ok (tabW_ok hl hks hms hws hrs) (by kernel_rfl)) hreg) 40 hf hnm hb hL hlen h
section
variable (n:Nat) (f f1:Nat→Int) (lo hi:Int) (k:Nat) (C:Nat→Ply) (bh sh bl sl:Int) (m:Nat) (u:Nat→Int) (c:Int)
abbrev PCok:Prop:=FreshSpec Tryz.prog 252 [skA k C m u,iA hi,.fn (.func 253) [] []] (iA c)∧noOwn (iA c)=true
noncomputable def plCb:Bool:=((propB (PCok hi k C m u c)&&(Nat.beq 1 1&&Nat.ble m m))||false)&&true
noncomputable def plE:Option Out:=cond (plCb hi k C m u c) (cond (decide (bh > c)) (cond (apB m 8||false) (some (Out.of (.sl 1 (m+1) fun j=>mixL (Nat.blt (0+j) m) [iA (u (0+j))] [iA hi]))) none) (some (Out.of (.sl 1 m fun j=>[iA (u (0+j))])))) none
noncomputable abbrev plS0:St:=plS n f f1 lo hi k C bh sh [] (plM hi k C bh sh)
noncomputable abbrev plS1:St:=plS n f f1 lo hi k C bh sh [p3 lo,p4 lo bl sl,p5 hi bh sh,(26,.tup [])] (plM1 hi k C bh sh m u)
noncomputable def pGm:Prop:=plOps.toList=plOps.toList∧plS0 n f f1 lo hi k C bh sh=plS0 n f f1 lo hi k C bh sh
theorem pl_evD:evD Tryz.prog [] [kS Tryz.prog 249 (fun _=>pA n f1),kS Tryz.prog 248 (fun _=>chA k C)] [] [] [rS2 Tryz.prog 250 (fun _=>cutA hi bh sh),rS2 Tryz.prog 252 (fun _=>iA c)] 23 plOps.toList (plS0 n f f1 lo hi k C bh sh) (plS1 n f f1 lo hi k C bh sh bl sl m u) noL Tryz.f246 [pA n f,iA lo,iA hi] ret =
    cond (plB n lo hi) (some (Out.of nilA)) (gate (FSpec Tryz.prog 249 [pA n f] (pA n f1)) (gate (FSpec Tryz.prog 248 [pA n f1] (chA k C)) (cond (plAh k C hi bh sh) (gate (pGm n f f1 lo hi k C bh sh) (plE hi k C bh m u c)) none))):=by kernel_rfl
end
theorem nil_ref {E:Env} {X:AV} {u:Nat→Int} {v:Value} (h:rel E (.ref [X,nilA] 0) v):rel E (.ref [X,sJ 0 u] 0) v:=by
  obtain ⟨b,o,cs,e,fz,h1,h2,h3,h4⟩:=rel_ref.1 h
  refine rel_ref.2 ⟨b,o,cs,e,fz,h1,h2,h3,?_⟩
  obtain ⟨u0,us0,e3,p0,k2⟩:=pre_cons.1 h4
  obtain ⟨u1,us1,e4,p1,k3⟩:=pre_cons.1 k2
  exact pre_cons.2 ⟨u0,us0,e3,p0,pre_cons.2 ⟨u1,us1,e4,nil_like p1,k3⟩⟩
theorem pa_of {k:Nat} {C:Nat→Ply} {a b s:Int} (h:FSpec Tryz.prog 250 [skA k C 0 fun _=>0,iA a] (cutA a b s)):PAok k C a b s :=
  ⟨fresh_plain (FSpec.of_args h fun E vs hr=>by
    obtain ⟨u0,t0,e0,r0,hr⟩:=rels_cons.1 hr
    exact rels_cons.2 ⟨u0,t0,e0,nil_ref r0,hr⟩) rfl,rfl⟩
/-- The places that are found. -/
def plcs (N S:Int→Int) (c lo hi:Int):List Int:=skL N S ((hi - lo).toNat+1) lo hi ++ if N hi > c then [hi] else []
def lsJ (L:List Int):AV:=sJ L.length fun q=>L.getD q 0
theorem pls_spec {n:Nat} {f f1:Nat→Int} {k:Nat} {C:Nat→Ply} {N S:Int→Int} {lo hi c:Int} (hn:2≤n) (hlh:lo≤hi) (H:SgOk k C N S lo hi) (hfi:FSpec Tryz.prog 249 [pA n f] (pA n f1)) (hch:FSpec Tryz.prog 248 [pA n f1] (chA k C)) (hcg:∀ (m:Nat) (u:Nat→Int),FSpec Tryz.prog 252 [skA k C m u,iA hi,.fn (.func 253) [] []] (iA c)):FSpec Tryz.prog 246 [pA n f,iA lo,iA hi] (lsJ (plcs N S c lo hi)):=by
  have na:=H.nn lo (Int.le_refl _) hlh
  have nb:=H.nn hi hlh (Int.le_refl _)
  have hsk:=seek_spec H (hi - lo).toNat lo hi (Int.le_refl _) hlh (Int.le_refl _) (by omega) 0 (fun _=>0) (by omega)
  have hlen:=skL_len (S:=S) H.mono ((hi - lo).toNat+1) lo hi (Int.le_refl _) hlh (Int.le_refl _)
  have hreg:=pl_reg (n:=n) (f:=f) (f1:=f1) (by kernel_rfl) (pa_of (H.ah lo (Int.le_refl _) hlh 0 _)) (ps_of hsk)
  have hA:plAh k C hi (N hi) (S hi)=true:=by unfold plAh; rw [propB_t (pa_of (H.ah hi hlh (Int.le_refl _) 0 _))]; rfl
  have hB:plB n lo hi=false:=by unfold plB; rw [decide_eq_false (show ¬ ((n:Nat):Int) < 2 by omega),decide_eq_false (show ¬ lo > hi by omega)]; rfl
  unfold plcs
  generalize skL N S ((hi - lo).toNat+1) lo hi=L at *
  have hC:plCb hi k C (0+L.length) (apL 0 (fun _=>0) L) c=true:=by
    unfold plCb
    rw [propB_t (show PCok hi k C (0+L.length) (apL 0 (fun _=>0) L) c from ⟨fresh_plain (hcg _ _) rfl,rfl⟩),Nat.ble_eq_true_of_le (Nat.le_refl _)]
    rfl
  have ev:=pl_evD n f f1 lo hi k C (N hi) (S hi) (N lo) (S lo) (0+L.length) (apL 0 (fun _=>0) L) c
  rw [hB,gate_pos hfi,gate_pos hch,hA,gate_pos (show pGm n f f1 lo hi k C (N hi) (S hi) from ⟨rfl,rfl⟩),cond_false,cond_true] at ev
  unfold plE at ev
  rw [hC,cond_true] at ev
  have ks:∀ e,e ∈ [kS Tryz.prog 249 (fun _=>pA n f1),kS Tryz.prog 248 (fun _=>chA k C)]→KOk Tryz.prog e:=k_cons kS_ok (k_cons kS_ok k_nil)
  have rs:∀ e,e ∈ [rS2 Tryz.prog 250 (fun _=>cutA hi (N hi) (S hi)),rS2 Tryz.prog 252 (fun _=>iA c)]→REOk Tryz.prog e:=r_cons rS2_ok (r_cons rS2_ok r_nil)
  by_cases hc:N hi > c
  · rw [decide_eq_true hc,apB_t (by omega)] at ev
    rw [if_pos hc]
    refine FSpec.of_res (gspecD e_nil ks m_nil w_nil rs hreg Tryz.func246 (by kernel_rfl) (by kernel_rfl) noL_ok rfl (r:=.sl 1 (0+L.length+1) fun j=>mixL (Nat.blt (0+j) (0+L.length)) [iA (apL 0 (fun _=>0) L (0+j))] [iA hi]) ev) fun E v h=>?_
    unfold lsJ
    rw [List.length_append,show L.length+[hi].length=0+L.length+1 by simp]
    refine sl_like h fun q hq=>?_
    rw [Nat.zero_add q,apL_one _ _ hi hq,apL_app]
    show [iA ((L ++ [hi]).getD q 0)]=[iA (apL 0 (fun _=>0) (L ++ [hi]) q)]
    unfold apL
    rw [if_neg (Nat.not_lt_zero q),Nat.sub_zero]
  · rw [decide_eq_false hc,cond_false] at ev
    rw [if_neg hc,List.append_nil]
    refine FSpec.of_res (gspecD e_nil ks m_nil w_nil rs hreg Tryz.func246 (by kernel_rfl) (by kernel_rfl) noL_ok rfl (r:=.sl 1 (0+L.length) fun j=>[iA (apL 0 (fun _=>0) L (0+j))]) ev) fun E v h=>?_
    unfold lsJ
    rw [show L.length=0+L.length by omega]
    refine sl_like h fun q hq=>?_
    show [iA (L.getD q 0)]=[iA (apL 0 (fun _=>0) L (0+q))]
    unfold apL
    rw [Nat.zero_add,if_neg (Nat.not_lt_zero q),Nat.sub_zero]
end Go.Proofs.YtancjnambbkhmaaGreat

namespace Go.Proofs.YtancjnambbkhmaaGreat
open Go.Gv
open Go.Ev (wB wB_pos wB_eq dg dg_lt vl nw nw_lt nw_le nw_ge nw_zero pw_pos)

/-- The words of a number. -/
def Zw (x:Int):Nat:=nw x.natAbs
theorem Zw_neg (x:Int):Zw (-x)=Zw x:=by unfold Zw; rw [Int.natAbs_neg]
theorem Zw_mul (x y:Int):Zw (x*y)≤Zw x+Zw y:=by
  unfold Zw
  rw [Int.natAbs_mul]
  refine nw_le ?_
  rw [Nat.pow_add]
  have h1:=nw_lt x.natAbs
  have h2:=nw_lt y.natAbs
  rcases Nat.eq_zero_or_pos y.natAbs with h | h
  · rw [h,Nat.mul_zero]
    exact Nat.mul_pos (pw_pos _) (pw_pos _)
  · exact Nat.lt_of_lt_of_le ((Nat.mul_lt_mul_right h).2 h1) (Nat.mul_le_mul_left _ (Nat.le_of_lt h2))
theorem Zw_add {x y:Int} {B:Nat} (hx:Zw x≤B) (hy:Zw y≤B):Zw (x+y)≤B+1:=by
  unfold Zw at *
  refine nw_le ?_
  have h1:x.natAbs < wB ^ B:=Nat.lt_of_lt_of_le (nw_lt _) (Nat.pow_le_pow_right wB_pos hx)
  have h2:y.natAbs < wB ^ B:=Nat.lt_of_lt_of_le (nw_lt _) (Nat.pow_le_pow_right wB_pos hy)
  have h3:wB ^ B*2≤wB ^ B*wB:=Nat.mul_le_mul_left _ (by decide)
  rw [Nat.pow_succ]
  have:=Int.natAbs_add_le x y
  omega
theorem Zw_one {x:Int} (h:x.natAbs < 18446744073709551616):Zw x≤1:=nw_le (by rw [Nat.pow_one]; exact h)
theorem Sm_of {x:Int} (h:Zw x≤1000000):Sm x:=by unfold Sm; unfold Zw at h; omega
theorem Zw_zero:Zw 0=0:=rfl
theorem Zw_hor {f:Nat→Int} {x:Int} {B X:Nat} (hf:∀ i,Zw (f i)≤B) (hx:Zw x≤X):∀ d i,Zw (hor f x i d)≤B+d*(X+1)
  | 0,_=>by show Zw 0≤_; rw [Zw_zero]; exact Nat.zero_le _
  | d+1,i=>by
    have h:=Zw_hor hf hx d (i+1)
    have h1:Zw (hor f x (i+1) d*x)≤B+d*(X+1)+X:=Nat.le_trans (Zw_mul _ _) (Nat.add_le_add h hx)
    have h2:=hf i
    show Zw (hor f x (i+1) d*x+f i)≤_
    refine Nat.le_trans (Zw_add (B:=B+d*(X+1)+X) h1 (by omega)) ?_
    rw [Nat.add_mul]
    omega
theorem Zw_dsl {f:Nat→Int} {n B:Nat} (hc:Cn n f) (hn:n≤1000000) (hf:∀ i,Zw (f i)≤B) (q:Nat):Zw (dsl f q)≤B+1:=by
  unfold dsl
  by_cases h:n≤q+1
  · rw [hc (q+1) h,Int.zero_mul,Zw_zero]; exact Nat.zero_le _
  · exact Nat.le_trans (Zw_mul _ _) (Nat.add_le_add (hf _) (Zw_one (by omega)))
theorem dit_Cn {n:Nat} {f:Nat→Int} (hc:Cn n f):∀ j,Cn (n - j) (dit f j)
  | 0=>hc
  | j+1=>by
    have:=dsl_Cn (dit_Cn hc j)
    rw [Nat.sub_sub] at this
    exact this
theorem Zw_dit {f:Nat→Int} {n B:Nat} (hc:Cn n f) (hn:n≤1000000) (hf:∀ i,Zw (f i)≤B):∀ j q,Zw (dit f j q)≤B+j
  | 0,q=>hf q
  | j+1,q=>by
    have:=Zw_dsl (dit_Cn hc j) (by omega) (Zw_dit hc hn hf j) q
    show Zw (dsl (dit f j) q)≤_
    omega
/-- Signs beside a place can be worked out. -/
theorem HB_of {n B:Nat} {f:Nat→Int} {x:Int} (hc:Cn n f) (hn:n≤1000) (hB:B≤100000) (hf:∀ i,Zw (f i)≤B) (hx:Zw x≤1) (j:Nat) (hj:j≤n):HB (n - j) (dit f j) x:=by
  have hd:=Zw_dit hc (by omega) hf j
  refine ⟨by omega,Sm_of (by omega),fun i=>Sm_of (Nat.le_trans (hd i) (by omega)),fun t ht=>?_⟩
  have h1:=Zw_hor hd hx t (n - j - t)
  exact ⟨Sm_of (by omega),Sm_of (Nat.le_trans (Zw_mul _ _) (by omega))⟩
theorem Zw_rst {f g:Nat→Int} {n m B G:Nat} (hf:∀ i,Zw (f i)≤B) (hg:∀ i,Zw (g i)≤G) (q:Nat):Zw (rst f n g m q)≤B+G+1:=by
  unfold rst
  have ht:Zw (tpA g m)≤G:=by unfold tpA Zw; exact hg (m - 1)
  have hl:Zw (ldA f n g m)≤B:=by
    unfold ldA
    split
    · rw [Zw_neg]; exact hf _
    · exact hf _
  refine Zw_add (Nat.le_trans (Zw_mul _ _) (Nat.add_le_add (hf q) ht)) ?_
  split
  · exact Nat.le_trans (Zw_mul _ _) (Nat.add_le_add hl (hg _))
  · rw [Zw_zero]; exact Nat.zero_le _
theorem Zw_rit {g:Nat→Int} {m B G:Nat} (hg:∀ i,Zw (g i)≤G) {p:Ply} (hf:∀ i,Zw (p.2 i)≤B):∀ t i,Zw ((rit m g t p).2 i)≤B+t*(G+1)
  | 0,i=>by rw [Nat.zero_mul]; exact hf i
  | t+1,i=>by
    rw [rit_succ]
    have:=Zw_rst (n:=(rit m g t p).1) (m:=m) (Zw_rit (m:=m) hg hf t) hg i
    show Zw (rst (rit m g t p).2 (rit m g t p).1 g m i)≤_
    rw [Nat.add_mul]
    omega
theorem cq_len {p:Ply} {k:Nat} (hk:∀ j,j < k→0 < (cq p (j+1)).1):∀ j,j≤k→(cq p (j+1)).1+j+1≤p.1∨(cq p (j+1)).1=0
  | 0,_=>by show p.1 - 1+0+1≤p.1∨p.1 - 1=0; omega
  | j+1,hj=>by
    have h1:=hk j (by omega)
    have ih:=cq_len hk j (by omega)
    obtain ⟨_,h2⟩:=rcn_ok (m:=(cq p (j+1)).1) h1 (cq p (j+1)).2 (cq p j).1 (cq p j) (Nat.le_refl _)
    have h2:(cq p (j+2)).1 < (cq p (j+1)).1:=h2
    show (cq p (j+2)).1+(j+1)+1≤p.1∨(cq p (j+2)).1=0
    omega
/-- How many words at most, from member to member. -/
def bz (B:Nat):Nat→Nat
  | 0=>B
  | 1=>B+1
  | j+2=>bz B j+5*(bz B (j+1)+1)
theorem Zw_cq {p:Ply} {k B:Nat} (hn:p.1≤5) (hc:Cn p.1 p.2) (hB:∀ i,Zw (p.2 i)≤B) (hk:∀ j,j < k→0 < (cq p (j+1)).1):∀ j,j≤k→(∀ i,Zw ((cq p j).2 i)≤bz B j)∧∀ i,Zw ((cq p (j+1)).2 i)≤bz B (j+1)
  | 0,_=>⟨hB,fun i=>Zw_dsl hc (by omega) hB i⟩
  | j + 1,hj=>by
    obtain ⟨h1,h2⟩:=Zw_cq hn hc hB hk j (by omega)
    refine ⟨h2,fun i=>?_⟩
    have hl:(cq p j).1≤5:=by
      cases j with
      | zero=>exact hn
      | succ j=>rcases cq_len hk j (by omega) with h | h<;>omega
    have hr:=rcn_le (cq p (j+1)).1 (cq p (j+1)).2 (cq p j).1 (cq p j)
    have:=Zw_rit (m:=(cq p (j+1)).1) h2 h1 (rcn (cq p (j+1)).1 (cq p (j+1)).2 (cq p j).1 (cq p j)) i
    show Zw (-(rrem (cq p (j+1)).1 (cq p (j+1)).2 (cq p j)).2 i)≤_
    rw [Zw_neg]
    refine Nat.le_trans this ?_
    show _≤bz B j+5*(bz B (j+1)+1)
    exact Nat.add_le_add_left (Nat.mul_le_mul_right _ (by omega)) _
theorem bz_le {B:Nat} (hB:B≤50):∀ j,j≤5→bz B j≤50000
  | 0,_=>by show B≤_; omega
  | 1,_=>by show B+1≤_; omega
  | 2,_=>by simp only [bz]; omega
  | 3,_=>by simp only [bz]; omega
  | 4,_=>by simp only [bz]; omega
  | 5,_=>by simp only [bz]; omega
  | j+6,h=>by omega
theorem CB_of {p:Ply} {k B:Nat} (hn:p.1≤5) (hc:Cn p.1 p.2) (hb:B≤50) (hB:∀ i,Zw (p.2 i)≤B) (hk:∀ j,j < k→0 < (cq p (j+1)).1) (hk4:k≤4):CB p k:=by
  have z:=Zw_cq hn hc hB hk
  have b:∀ j,j≤5→bz B j≤50000:=bz_le hb
  have len:∀ j,j≤k→(cq p j).1≤5:=fun j hj=>by
    cases j with
    | zero=>exact hn
    | succ j=>rcases cq_len hk j (by omega) with h | h<;>omega
  have rt:∀ j,j < k→∀ t,t≤(cq p j).1→∀ i,Zw ((rit (cq p (j+1)).1 (cq p (j+1)).2 t (cq p j)).2 i)≤400000:=fun j hj t ht i=>by
    have h:=Zw_rit (m:=(cq p (j+1)).1) (z j (by omega)).2 (z j (by omega)).1 t i
    have hl:=len j (by omega)
    have b1:=b j (by omega)
    have b2:=b (j+1) (by omega)
    have:t*(bz B (j+1)+1)≤5*(50000+1):=Nat.mul_le_mul (by omega) (by omega)
    omega
  refine ⟨by omega,hc,fun i=>Sm_of (Nat.le_trans (hB i) (by omega)),fun j hj i=>?_,fun j hj t ht i=>Sm_of (Nat.le_trans (rt j hj t ht i) (by decide)),fun j hj t ht i l=>?_⟩
  · have:=(z j (by omega)).2 i
    have b2:=b (j+1) (by omega)
    exact Sm_of (by omega)
  · have h1:=rt j hj t ht i
    have h2:=(z j (by omega)).2 l
    have b2:=b (j+1) (by omega)
    exact Sm_of (Nat.le_trans (Zw_mul _ _) (by omega))
end Go.Proofs.YtancjnambbkhmaaGreat

namespace Go.Proofs.YtancjnambbkhmaaGreat
open Go.Gv

/-- Its highest coefficient is not nought. -/
def Tp (p:Ply):Prop:=p.1=0∨p.2 (p.1 - 1)≠0
theorem dit_at (f:Nat→Int):∀ j q,∃ c:Int,0 < c∧dit f j q=f (q+j)*c
  | 0,q=>⟨1,by decide,by show f q=f q*1; rw [Int.mul_one]⟩
  | j+1,q=>by
    obtain ⟨c,h1,h2⟩:=dit_at f j (q+1)
    refine ⟨c*((q+1:Nat):Int),Int.mul_pos h1 (by omega),?_⟩
    show dit f j (q+1)*((q+1:Nat):Int)=_
    rw [h2,Int.mul_assoc,show q+1+j=q+(j+1) by omega]
theorem hv_last {n:Nat} {f:Nat→Int} (hn:0 < n) (ht:f (n - 1)≠0) (x:Int):hv f n x (n - 1)≠0:=by
  obtain ⟨c,h1,h2⟩:=dit_at f (n - 1) 0
  unfold hv
  rw [show n - (n - 1)=1 by omega]
  show 0*x+dit f (n - 1) 0≠0
  rw [h2,Int.zero_mul,Int.zero_add,Nat.zero_add]
  exact Int.mul_ne_zero ht (by omega)
/-- Which is the first that is not nought? -/
def fnz (g:Nat→Int):Nat→Nat
  | 0=>0
  | k+1=>if fnz g k < k then fnz g k else if g k≠0 then k else k+1
theorem fnz_ok (g:Nat→Int):∀ k,fnz g k≤k∧(∀ j,j < fnz g k→g j=0)∧(fnz g k < k→g (fnz g k)≠0)
  | 0=>⟨Nat.le_refl _,fun j hj=>by have:j < 0:=hj; omega,fun h=>by have:0 < 0:=h; omega⟩
  | k + 1=>by
    obtain ⟨h1,h2,h3⟩:=fnz_ok g k
    unfold fnz
    by_cases hk:fnz g k < k
    · rw [if_pos hk]; exact ⟨by omega,h2,fun _=>h3 hk⟩
    · have e:fnz g k=k:=by omega
      rw [if_neg hk]
      rw [e] at h2
      by_cases hg:g k≠0
      · rw [if_pos hg]; exact ⟨by omega,h2,fun _=>hg⟩
      · rw [if_neg hg]
        refine ⟨Nat.le_refl _,fun j hj=>?_,fun h=>by omega⟩
        by_cases hj2:j=k
        · rw [hj2]; exact Decidable.byContradiction hg
        · exact h2 j (by omega)
theorem fnz_lt {g:Nat→Int} {k j:Nat} (hj:j < k) (h:g j≠0):fnz g k < k:=by
  obtain ⟨h1,h2,_⟩:=fnz_ok g k
  rcases Nat.lt_or_ge (fnz g k) k with hl | hg
  · exact hl
  · exact absurd (h2 j (by omega)) h
/-- The sign on one side of a place, however near. -/
def sgSd (side:Int) (p:Ply) (x:Int):Int:=(hv p.2 p.1 x (fnz (hv p.2 p.1 x) p.1)).sign*pw1 side (fnz (hv p.2 p.1 x) p.1)
section
variable {p:Ply} {B:Nat} {x:Int} (hp:0 < p.1) (ht:Tp p)
include hp ht
theorem nz_at (x:Int):fnz (hv p.2 p.1 x) p.1 < p.1∧(∀ j,j < fnz (hv p.2 p.1 x) p.1→hv p.2 p.1 x j=0)∧hv p.2 p.1 x (fnz (hv p.2 p.1 x) p.1)≠0:=by
  have htop:p.2 (p.1 - 1)≠0:=ht.resolve_left (by omega)
  have hl:=fnz_lt (g:=hv p.2 p.1 x) (show p.1 - 1 < p.1 by omega) (hv_last hp htop x)
  obtain ⟨_,h2,h3⟩:=fnz_ok (hv p.2 p.1 x) p.1
  exact ⟨hl,h2,h3 hl⟩
theorem sgSd_one {side:Int} (hs:side=1∨side=-1) (x:Int):sgSd side p x=1∨sgSd side p x=-1:=by
  obtain ⟨_,_,h3⟩:=nz_at hp ht x
  unfold sgSd
  rcases sign_cases (hv p.2 p.1 x (fnz (hv p.2 p.1 x) p.1)) with ⟨_,h⟩ | ⟨h,_⟩ | ⟨_,h⟩
  · rcases pw1_small hs (fnz (hv p.2 p.1 x) p.1) with e | e<;>rw [h,e]<;>decide
  · exact absurd h h3
  · rcases pw1_small hs (fnz (hv p.2 p.1 x) p.1) with e | e<;>rw [h,e]<;>decide
theorem ahP_spec (hc:Cn p.1 p.2) (hn:p.1≤1000) (hB:B≤100000) (hf:∀ i,Zw (p.2 i)≤B) (hx:Zw x≤1):FSpec Tryz.prog 264 [PlyA p,wA x] (iA (sgSd (-1) p x)):=by
  obtain ⟨h1,h2,h3⟩:=nz_at hp ht x
  exact ah_spec (fun j hj=>HB_of hc hn hB hf hx j (by omega)) h2 h3
theorem bhP_spec (hc:Cn p.1 p.2) (hn:p.1≤1000) (hB:B≤100000) (hf:∀ i,Zw (p.2 i)≤B) (hx:Zw x≤1):FSpec Tryz.prog 253 [PlyA p,wA x] (iA (sgSd 1 p x)):=by
  obtain ⟨h1,h2,h3⟩:=nz_at hp ht x
  exact bh_spec (fun j hj=>HB_of hc hn hB hf hx j (by omega)) h2 h3
end
theorem rit_Tp {m:Nat} {g:Nat→Int} {p:Ply} (ht:Tp p):∀ t,Tp (rit m g t p)
  | 0=>ht
  | t+1=>by
    rw [rit_succ]
    show tl (rst (rit m g t p).2 (rit m g t p).1 g m) ((rit m g t p).1 - 1)=0∨_
    by_cases h:tl (rst (rit m g t p).2 (rit m g t p).1 g m) ((rit m g t p).1 - 1)=0
    · exact Or.inl h
    · exact Or.inr (tl_top _ _ h)
theorem cq_Tp {p:Ply} (ht:Tp p):∀ j,Tp (cq p j)∧Tp (cq p (j+1))
  | 0 => by
    refine ⟨ht,?_⟩
    show p.1 - 1=0∨dsl p.2 (p.1 - 1 - 1)≠0
    by_cases h:p.1≤1
    · exact Or.inl (by omega)
    · right
      unfold dsl
      rw [show p.1 - 1 - 1+1=p.1 - 1 by omega]
      exact Int.mul_ne_zero (ht.resolve_left (by omega)) (by omega)
  | j + 1=>by
    obtain ⟨h1,h2⟩:=cq_Tp ht j
    refine ⟨h2,?_⟩
    have:=rit_Tp (m:=(cq p (j+1)).1) (g:=(cq p (j+1)).2) h1 (rcn (cq p (j+1)).1 (cq p (j+1)).2 (cq p j).1 (cq p j))
    rcases this with h | h
    · exact Or.inl h
    · right
      show -(rrem (cq p (j+1)).1 (cq p (j+1)).2 (cq p j)).2 ((rrem (cq p (j+1)).1 (cq p (j+1)).2 (cq p j)).1 - 1)≠0
      have h:(rrem (cq p (j+1)).1 (cq p (j+1)).2 (cq p j)).2 ((rrem (cq p (j+1)).1 (cq p (j+1)).2 (cq p j)).1 - 1)≠0:=h
      omega
/-- How long the chain is: the last member's number. -/
theorem cq_end (p:Ply):∃ k,k≤p.1∧(∀ j,j < k→0 < (cq p (j+1)).1)∧(cq p (k+1)).1=0:=by
  rcases all_or_first (fun j=>decide (0 < (cq p (j+1)).1)) (p.1+1) with hl | ⟨K,hK,hp,hq⟩
  · exfalso
    have h:=cq_len (p:=p) (k:=p.1) (fun j hj=>by simpa using hl j (by omega)) p.1 (Nat.le_refl _)
    have:=hl p.1 (by omega)
    simp at this
    omega
  · exact ⟨K,by omega,fun j hj=>by simpa using hq j hj,by simpa using hp⟩
end Go.Proofs.YtancjnambbkhmaaGreat

namespace Go.Proofs.YtancjnambbkhmaaGreat
open Go.Gv

/-- The polynomial whose roots are at finer places. -/
def finP (p:Ply):Ply:=(p.1,pfin p.2 p.1)
theorem Zw_pow:∀ j:Nat,Zw ((65536:Int) ^ j)≤j+1
  | 0=>by rw [Int.pow_zero]; exact Zw_one (by decide)
  | j+1=>by
    rw [Int.pow_succ]
    exact Nat.le_trans (Zw_mul _ _) (Nat.add_le_add (Zw_pow j) (Zw_one (by decide)))
theorem fin_Tp {p:Ply} (ht:Tp p):Tp (finP p):=by
  rcases ht with h | h
  · exact Or.inl h
  · right
    show p.2 (p.1 - 1)*65536 ^ (p.1 - 1 - (p.1 - 1))≠0
    rw [Nat.sub_self,Int.pow_zero,Int.mul_one]
    exact h
theorem fin_Zw {p:Ply} {B:Nat} (hn:p.1≤5) (hB:∀ i,Zw (p.2 i)≤B) (i:Nat):Zw ((finP p).2 i)≤B+5:=by
  have h:=Zw_pow (p.1 - 1 - i)
  exact Nat.le_trans (Zw_mul _ _) (Nat.add_le_add (hB i) (by omega))
/-- How often signs change beside a place. -/
def Nsd (side:Int) (P:Ply) (k:Nat) (a:Int):Int:=cgC (fun q=>sgSd side (cq P q) a) (k+1)
/-- How long the chain of a polynomial is. -/
noncomputable def chN' (P:Ply):Nat:=(cq_end P).choose
theorem chN'_ok (P:Ply):chN' P≤P.1∧(∀ j,j < chN' P→0 < (cq P (j+1)).1)∧(cq P (chN' P+1)).1=0:=(cq_end P).choose_spec
theorem chN'_le (P:Ply) (hn:0 < P.1):chN' P+1≤P.1:=by
  obtain ⟨h1,h2,_⟩:=chN'_ok P
  cases hk:chN' P with
  | zero=>omega
  | succ j =>
    rw [hk] at h2
    have h:=cq_len h2 j (by omega)
    have:=h2 j (by omega)
    omega
noncomputable def rtN (P:Ply) (a:Int):Int:=Nsd (-1) P (chN' P) a
noncomputable def rtC (P:Ply) (a:Int):Int:=Nsd 1 P (chN' P) a
/-- The places of the code. -/
noncomputable def plcP (p:Ply) (lo hi:Int):List Int:=plcs (rtN (finP p)) (sgSd (-1) (finP p)) (rtC (finP p) hi) lo hi
section
variable {p:Ply} {B:Nat} (hn2:2≤p.1) (hn:p.1≤5) (hc:Cn p.1 p.2) (ht:Tp p) (hB:B≤45) (hf:∀ i,Zw (p.2 i)≤B)
include hn2 hn hc ht hB hf
theorem mem_ok {a:Int} (ha:-2000000000000000≤a) (hb:a≤2000000000000000) (q:Nat) (hq:q < chN' (finP p)+1):FSpec Tryz.prog 264 [PlyA (cq (finP p) q),wA a] (iA (sgSd (-1) (cq (finP p) q) a))∧FSpec Tryz.prog 253 [PlyA (cq (finP p) q),wA a] (iA (sgSd 1 (cq (finP p) q) a))∧0 < (cq (finP p) q).1:=by
  obtain ⟨h1,h2,h3⟩:=chN'_ok (finP p)
  have hN:(finP p).1=p.1:=rfl
  have hle:=chN'_le (finP p) (by omega)
  have hC:Cn (finP p).1 (finP p).2:=fin_Cn hc
  have hZ:=fin_Zw hn hf
  have z:=Zw_cq (B:=B+5) (by omega) hC hZ h2 q (by omega)
  have bq:=bz_le (B:=B+5) (by omega) q (by omega)
  have cb:=CB_of (B:=B+5) (by omega) hC (by omega) hZ h2 (by omega)
  have ok:=cq_ok cb h2 q (by omega)
  have hpos:0 < (cq (finP p) q).1:=by
    cases q with
    | zero=>show 0 < p.1; omega
    | succ q=>exact h2 q (by omega)
  have hl:(cq (finP p) q).1≤1000:=by
    cases q with
    | zero=>show p.1≤1000; omega
    | succ q=>rcases cq_len h2 q (by omega) with h | h<;>omega
  have tq:=(cq_Tp (fin_Tp ht) q).1
  have hx:Zw a≤1:=Zw_one (by omega)
  exact ⟨ahP_spec hpos tq ok.1.1 hl (by omega) z.1 hx,bhP_spec hpos tq ok.1.1 hl (by omega) z.1 hx,hpos⟩
theorem sg_ok {lo hi:Int} (hlo:-2000000000000000≤lo) (hhi:hi≤2000000000000000) (mono:∀ a b,lo≤a→a≤b→b≤hi→rtN (finP p) b≤rtN (finP p) a):SgOk (chN' (finP p)+1) (cq (finP p)) (rtN (finP p)) (sgSd (-1) (finP p)) lo hi:=by
  have hle:=chN'_le (finP p) (show 0 < p.1 by omega)
  have hN:(finP p).1=p.1:=rfl
  refine ⟨by omega,hlo,hhi,fun a h1 h2=>(mem_ok hn2 hn hc ht hB hf (by omega) (by omega) 0 (by omega)).1,fun a h1 h2=>?_,mono,fun a h1 h2 m u=>?_⟩
  · have:=cgC_le (fun q=>sgSd (-1) (cq (finP p) q) a) (chN' (finP p)+1)
    unfold rtN Nsd
    omega
  · exact ahd_spec (by omega) (by omega) (by omega) (by omega) (fun q hq=>sgSd_one (mem_ok hn2 hn hc ht hB hf (a:=a) (by omega) (by omega) q hq).2.2 (cq_Tp (fin_Tp ht) q).1 (Or.inr rfl) a) (fun q hq=>(mem_ok hn2 hn hc ht hB hf (by omega) (by omega) q hq).1) m u
theorem plP_spec {lo hi:Int} (hlh:lo≤hi) (hlo:-2000000000000000≤lo) (hhi:hi≤2000000000000000) (mono:∀ a b,lo≤a→a≤b→b≤hi→rtN (finP p) b≤rtN (finP p) a):FSpec Tryz.prog 246 [PlyA p,iA lo,iA hi] (lsJ (plcP p lo hi)):=by
  obtain ⟨h1,h2,h3⟩:=chN'_ok (finP p)
  have hN:(finP p).1=p.1:=rfl
  have hle:=chN'_le (finP p) (by omega)
  have hC:Cn (finP p).1 (finP p).2:=fin_Cn hc
  have cb:=CB_of (B:=B+5) (by omega) hC (by omega) (fin_Zw hn hf) h2 (by omega)
  refine pls_spec (n:=p.1) (f:=p.2) (f1:=pfin p.2 p.1) hn2 hlh (sg_ok hn2 hn hc ht hB hf hlo hhi mono) (fi_spec (by omega) hc (fun i=>Sm_of (Nat.le_trans (hf i) (by omega))) fun j hj=>Sm_of (Nat.le_trans (Zw_pow j) (by omega))) (ch_spec cb (by omega) h2 h3) fun m u=>?_
  exact cg_specB (by omega) (by omega) (by omega) (fun q hq=>sgSd_one (mem_ok hn2 hn hc ht hB hf (a:=hi) (by omega) (by omega) q hq).2.2 (cq_Tp (fin_Tp ht) q).1 (Or.inl rfl) hi) fun q hq=>(mem_ok hn2 hn hc ht hB hf (by omega) (by omega) q hq).2.1
end
end Go.Proofs.YtancjnambbkhmaaGreat

namespace Go.Proofs.YtancjnambbkhmaaGreat
open Go.Gv

theorem pl_evN (n:Nat) (f:Nat→Int) (lo hi:Int):ev Tryz.prog [] [⟨249,fun _ _=>none⟩] noL Tryz.f246 [pA n f,iA lo,iA hi] ret=cond (plB n lo hi) (some (Out.of nilA)) none:=by kernel_rfl
theorem pl_nil {n:Nat} {f:Nat→Int} {lo hi:Int} (h:plB n lo hi=true):FSpec Tryz.prog 246 [pA n f,iA lo,iA hi] (lsJ []) :=
  FSpec.of_res (r:=nilA) (gspec e_nil (k_cons (kno_ok _) k_nil) Tryz.func246 (by kernel_rfl) (by kernel_rfl) noL_ok rfl ((pl_evN n f lo hi).trans (by rw [h]; rfl))) fun _ _=>nil_like
def rtA (o:List Int × Int):AV:=.tup [lsJ o.1,iA o.2]
theorem bad_like {f:Nat} {args:List AV} {e:Int} (h:FSpec Tryz.prog f args (.tup [.x (.slice none 0 0),iA e])):FSpec Tryz.prog f args (rtA ([],e)):=FSpec.of_res h fun _ _ hr=>tup2_like hr fun _=>nil_like
end Go.Proofs.YtancjnambbkhmaaGreat

namespace Go.Proofs.YtancjnambbkhmaaGreat
open Go.Gv
open Go.Em (wB wB_pos wB_eq dg dg_lt vl nw cy bw nw_lt nw_ge nw_le nw_zero top_dg dg_zero pw_pos)

/-- A part; a number's parts. -/
def mI (a:Nat) (i:Nat):Int:=((dg a i:Nat):Int)
def msA (a:Nat):AV:=sJ (nw a) (mI a)
def coS (n:Nat) (f:Nat→Int):St:=mkS 21 [(0,sJ n f)] []
section
variable (n:Nat) (f:Nat→Int)
def coB:Bool:=cond (decide ((n:Int) > 0)) (f (w64 ((n:Int) - 1)).toNat==0) false
theorem co_step:evC Tryz.prog [] [] noL (loopAt Tryz.f157 0) (coS n f) (finN [0] []) =
    cond (gTr (decide ((n:Int) > 0)) (w64 ((n:Int) - 1)) n) (cond (coB n f) (cond (sbB none (some (w64 ((n:Int) - 1))) none n||false) (some ⟨.normal,mkS 21 [(0,.sl 1 (sbN none (some (w64 ((n:Int) - 1))) n) fun i=>[iA (f (sbL none+i))])] [],.any⟩) none) none) none:=by kernel_rfl
theorem co_end:evC Tryz.prog [] [] noL (loopAt Tryz.f157 0) (coS n f) (finE [0] []) =
    cond (gTr (decide ((n:Int) > 0)) (w64 ((n:Int) - 1)) n) (cond (coB n f) (cond (sbB none (some (w64 ((n:Int) - 1))) none n||false) none none) (some ⟨.exit 0,coS n f,.any⟩)) none:=by kernel_rfl
theorem co_ev (m:Nat):ev Tryz.prog [] [] (oneL 1 (toldF [0] [] (coS n f) (.exit 0) (coS m f))) Tryz.f157 [sJ n f] ret=gate (Sub (coS n f) (coS n f)) (some (Out.of (sJ m f))):=by kernel_rfl
end
theorem co_spec (a:Nat) {n:Nat} (hn:n≤35184372088832) (ha:a < wB ^ n):FSpec Tryz.prog 157 [sJ n (mI a)] (msA a):=by
  have hle:=nw_le ha
  have key:Leads Tryz.prog (.loop (loopAt Tryz.f157 0)) (coS (n - 0) (mI a)) (.exit 0) (coS (nw a) (mI a)):=by
    refine loop_rule (fun j=>coS (n - j) (mI a)) (n - nw a) (.exit 0) _ (by simp) (fun j hj=>?_) ?_
    · obtain ⟨m,hm⟩:∃ m,n - j=m+1:=⟨n - j - 1,by omega⟩
      have e1:n - (j+1)=m:=by omega
      rw [hm,e1]
      have ew:w64 (((m+1:Nat):Int) - 1)=((m:Nat):Int):=by rw [w64_id (by omega) (by omega)]; omega
      have hz:dg a m=0:=dg_zero (Nat.lt_of_lt_of_le (nw_lt a) (Nat.pow_le_pow_right wB_pos (by omega)))
      have st:=co_step (m+1) (mI a)
      have hb:coB (m+1) (mI a)=true:=by
        unfold coB
        rw [decide_eq_true (show ((m+1:Nat):Int) > 0 by omega),ew,Int.toNat_natCast]
        unfold mI
        rw [hz]
        rfl
      have s1:sbB none (some ((m:Nat):Int)) none (m+1)=true:=by
        unfold sbB
        simp only [Option.getD_some,Option.getD_none]
        rw [decide_eq_true (Int.le_refl _),decide_eq_true (show (0:Int)≤((m:Nat):Int) by omega),decide_eq_true (show ((m:Nat):Int)≤((m+1:Nat):Int) by omega),decide_eq_true (Int.le_refl _)]
        rfl
      have s2:sbN none (some ((m:Nat):Int)) (m+1)=m:=by
        unfold sbN
        simp only [Option.getD_some,Option.getD_none]
        omega
      have s3:(fun i=>[iA (mI a (sbL none+i))])=fun i=>[iA (mI a i)]:=funext fun i=>by
        show [iA (mI a (0+i))]=_
        rw [Nat.zero_add]
      rw [gTr_t hn (by omega),hb,ew,s1,s2,s3] at st
      exact leads_ev (finN_sub [0] []) e_nil k_nil noL_ok st
    · rw [show n - (n - nw a)=nw a by omega]
      refine leads_ev (finE_sub [0] []) e_nil k_nil noL_ok ((co_end (nw a) (mI a)).trans ?_)
      have hb:coB (nw a) (mI a)=false:=by
        unfold coB
        by_cases h:a=0
        · subst h; rw [nw_zero]; rfl
        · obtain ⟨g1,_⟩:=nw_ge h
          rw [decide_eq_true (show ((nw a:Nat):Int) > 0 by omega),show w64 ((nw a:Int) - 1)=((nw a - 1:Nat):Int) by rw [w64_id (by omega) (by omega)]; omega,Int.toNat_natCast,cond_true]
          have:=top_dg h
          refine beq_false_of_ne ?_
          unfold mI
          omega
      rw [gTr_t hn hle,hb]
      rfl
  refine gspec e_nil k_nil Tryz.func157 (by kernel_rfl) (by kernel_rfl) (lok_at 0 1 (by kernel_rfl) (by kernel_rfl) (toldF_sound key)) rfl ((co_ev n (mI a) (nw a)).trans ?_)
  rw [gate_pos (Sub.refl _)]
  rfl
def szS (n:Nat) (f:Nat→Int) (m:Nat) (g:Nat→Int) (i:Int):St:=mkS 41 [(0,sJ n f),(1,sJ m g),(5,iA i)] []
def szR (n:Nat) (f:Nat→Int) (m:Nat) (g:Nat→Int) (r i:Int):St:=mkS 41 [(0,sJ n f),(1,sJ m g),(4,iA r),(5,iA i)] []
section
variable (n:Nat) (f:Nat→Int) (m:Nat) (g:Nat→Int) (i:Int)
theorem sz_step:evC Tryz.prog [] [] noL (loopAt Tryz.f159 0) (szS n f m g i) (finN [0,1,5] []) =
    cond (decide (i ≥ 0)) (cpIx n m i (cond (!(f i.toNat==g i.toNat)) (cpIx n m i (cond (decide (f i.toNat < g i.toNat)) none none)) (some ⟨.normal,szS n f m g (w64 (i - 1)),.any⟩))) none:=by kernel_rfl
theorem sz_end:evC Tryz.prog [] [] noL (loopAt Tryz.f159 0) (szS n f m g i) (finX [0,1,4,5] []) =
    cond (decide (i ≥ 0)) (cpIx n m i (cond (!(f i.toNat==g i.toNat)) (cpIx n m i (cond (decide (f i.toNat < g i.toNat)) (some ⟨.ret,szR n f m g (-1) i,.any⟩) (some ⟨.ret,szR n f m g 1 i,.any⟩))) none)) (some ⟨.exit 0,szS n f m g i,.any⟩):=by kernel_rfl
end
end Go.Proofs.YtancjnambbkhmaaGreat

namespace Go.Proofs.YtancjnambbkhmaaGreat
open Go.Gv
open Go.Em (wB wB_pos wB_eq dg dg_lt vl nw cy bw nw_lt nw_ge nw_le nw_zero top_dg dg_zero pw_pos)

theorem msA_eq (a:Nat):msA a=sJ (nw a) (mI a):=rfl
theorem div_nextM (a k:Nat):a / wB ^ k=wB*(a / wB ^ (k+1))+dg a k:=by
  unfold dg
  rw [Nat.pow_succ,← Nat.div_div_eq_div_mul,Nat.div_add_mod]
theorem eq_downM {a b n:Nat} (ha:a < wB ^ n) (hb:b < wB ^ n):∀ d k,k+d=n→(∀ j,k≤j→j < n→dg a j=dg b j)→a / wB ^ k=b / wB ^ k
  | 0,k,hk,_=>by
    have:k=n:=by omega
    subst this
    rw [Nat.div_eq_of_lt ha,Nat.div_eq_of_lt hb]
  | d+1,k,hk,h=>by
    rw [div_nextM a,div_nextM b,eq_downM ha hb d (k+1) (by omega) fun j h1 h2=>h j (by omega) h2,h k (Nat.le_refl _) (by omega)]
theorem gt_atM {a b k:Nat} (h:a / wB ^ (k+1)=b / wB ^ (k+1)) (hd:dg b k < dg a k):b < a:=by
  have h1:=div_nextM a k
  have h2:=div_nextM b k
  rw [h] at h1
  rcases Nat.lt_or_ge b a with hl | hg
  · exact hl
  · have:=Nat.div_le_div_right (c:=wB ^ k) hg
    omega
theorem nw_monoM {a b:Nat} (h:nw a < nw b):a < b:=by
  have h1:=nw_lt a
  have hb:b≠0:=fun e=>by subst e; rw [nw_zero] at h; omega
  obtain ⟨_,h2⟩:=nw_ge hb
  have:wB ^ nw a≤wB ^ (nw b - 1):=Nat.pow_le_pow_right wB_pos (by omega)
  omega
theorem sz_round {a b n t:Nat} (hn:n≤35184372088832) (ht:t < n) (h:dg a (n - 1 - t)=dg b (n - 1 - t)):Leads Tryz.prog (loopAt Tryz.f159 0) (szS n (mI a) n (mI b) ((n:Int) - 1 - (t:Nat))) .normal (szS n (mI a) n (mI b) ((n:Int) - 1 - ((t+1:Nat):Int))):=by
  refine leads_ev (finN_sub [0,1,5] []) e_nil k_nil noL_ok ((sz_step n (mI a) n (mI b) _).trans ?_)
  have e:(n:Int) - 1 - (t:Nat)=((n - 1 - t:Nat):Int):=by omega
  rw [show w64 ((n:Int) - 1 - (t:Nat) - 1)=(n:Int) - 1 - ((t+1:Nat):Int) by rw [w64_id (by omega) (by omega)]; omega,e]
  unfold cpIx
  have hx:n - 1 - t < n:=by omega
  rw [ixB_t hx,Int.toNat_natCast,decide_eq_true (show ((n - 1 - t:Nat):Int) ≥ 0 by omega)]
  unfold mI
  rw [h,show (((dg b (n - 1 - t):Nat):Int)==((dg b (n - 1 - t):Nat):Int))=true from BEq.rfl]
  rfl
theorem sz_same {a b n:Nat} (hn:n≤35184372088832) (h:∀ t,t < n→dg a (n - 1 - t)=dg b (n - 1 - t)):Leads Tryz.prog (.loop (loopAt Tryz.f159 0)) (szS n (mI a) n (mI b) ((n:Int) - 1)) (.exit 0) (szS n (mI a) n (mI b) (-1)):=by
  have key:Leads Tryz.prog (.loop (loopAt Tryz.f159 0)) (szS n (mI a) n (mI b) ((n:Int) - 1 - ((0:Nat):Int))) (.exit 0) (szS n (mI a) n (mI b) (-1)):=by
    refine loop_rule (fun t=>szS n (mI a) n (mI b) ((n:Int) - 1 - (t:Nat))) n (.exit 0) _ (by simp) (fun t ht=>sz_round hn ht (h t ht)) ?_
    refine leads_ev (finX_sub [0,1,4,5] []) e_nil k_nil noL_ok ((sz_end n (mI a) n (mI b) _).trans ?_)
    rw [show (n:Int) - 1 - (n:Nat)=-1 by omega]
    rfl
  rw [show (n:Int) - 1 - ((0:Nat):Int)=(n:Int) - 1 by omega] at key
  exact key
theorem sz_other {a b n K:Nat} (hn:n≤35184372088832) (hK:K < n) (hp:dg a (n - 1 - K)≠dg b (n - 1 - K)) (h:∀ t,t < K→dg a (n - 1 - t)=dg b (n - 1 - t)):Leads Tryz.prog (.loop (loopAt Tryz.f159 0)) (szS n (mI a) n (mI b) ((n:Int) - 1)) .ret (szR n (mI a) n (mI b) (if dg b (n - 1 - K) < dg a (n - 1 - K) then 1 else -1) ((n:Int) - 1 - (K:Nat))):=by
  have key:Leads Tryz.prog (.loop (loopAt Tryz.f159 0)) (szS n (mI a) n (mI b) ((n:Int) - 1 - ((0:Nat):Int))) .ret (szR n (mI a) n (mI b) (if dg b (n - 1 - K) < dg a (n - 1 - K) then 1 else -1) ((n:Int) - 1 - (K:Nat))):=by
    refine loop_rule (fun t=>szS n (mI a) n (mI b) ((n:Int) - 1 - (t:Nat))) K .ret _ (by simp) (fun t ht=>sz_round hn (by omega) (h t ht)) ?_
    refine leads_ev (finX_sub [0,1,4,5] []) e_nil k_nil noL_ok ((sz_end n (mI a) n (mI b) _).trans ?_)
    have e:(n:Int) - 1 - (K:Nat)=((n - 1 - K:Nat):Int):=by omega
    rw [e]
    unfold cpIx
    have hx:n - 1 - K < n:=by omega
    rw [ixB_t hx,Int.toNat_natCast,decide_eq_true (show ((n - 1 - K:Nat):Int) ≥ 0 by omega)]
    unfold mI
    rw [beq_false_of_ne (show ((dg a (n - 1 - K):Nat):Int)≠((dg b (n - 1 - K):Nat):Int) by omega)]
    by_cases hc:dg b (n - 1 - K) < dg a (n - 1 - K)
    · rw [decide_eq_false (show ¬ ((dg a (n - 1 - K):Nat):Int) < ((dg b (n - 1 - K):Nat):Int) by omega),if_pos hc]
      rfl
    · rw [decide_eq_true (show ((dg a (n - 1 - K):Nat):Int) < ((dg b (n - 1 - K):Nat):Int) by omega),if_neg hc]
      rfl
  rw [show (n:Int) - 1 - ((0:Nat):Int)=(n:Int) - 1 by omega] at key
  exact key
section
variable (n:Nat) (f:Nat→Int) (m:Nat) (g:Nat→Int) (i j r:Int)
noncomputable def szHd (x:Option Out):Option Out:=cond (!((n:Int)==(m:Int))) (cond (decide ((n:Int) < (m:Int))) (some (Out.of (iA (-1)))) (some (Out.of (iA 1)))) (gate (Sub (szS n f m g (w64 ((n:Int) - 1))) (szS n f m g i)) x)
theorem sz_evN:ev Tryz.prog [] [] (oneL 6 fun _ _=>none) Tryz.f159 [sJ n f,sJ m g] ret=cond (!((n:Int)==(m:Int))) (cond (decide ((n:Int) < (m:Int))) (some (Out.of (iA (-1)))) (some (Out.of (iA 1)))) none:=by kernel_rfl
theorem sz_evE:ev Tryz.prog [] [] (oneL 6 (toldF [0,1,5] [] (szS n f m g i) (.exit 0) (szS n f m g j))) Tryz.f159 [sJ n f,sJ m g] ret=szHd n f m g i (some (Out.of (iA 0))):=by kernel_rfl
theorem sz_evR:ev Tryz.prog [] [] (oneL 6 (toldF [0,1,5] [] (szS n f m g i) .ret (szR n f m g r j))) Tryz.f159 [sJ n f,sJ m g] ret=szHd n f m g i (some (Out.of (iA r))):=by kernel_rfl
end
theorem sz_spec {a b:Nat} (ha:nw a < 35184372088832):FSpec Tryz.prog 159 [msA a,msA b] (iA (cmpI a b)):=by
  by_cases hn:nw a=nw b
  · have hb:=nw_lt b
    rw [← hn] at hb
    have ha':=nw_lt a
    have hw:w64 ((nw a:Int) - 1)=(nw a:Int) - 1:=w64_id (by omega) (by omega)
    rcases all_or_first (fun t=>dg a (nw a - 1 - t)==dg b (nw a - 1 - t)) (nw a) with hl | ⟨K,hK,hp,hq⟩
    · have hl':∀ t,t < nw a→dg a (nw a - 1 - t)=dg b (nw a - 1 - t):=fun t ht=>by simpa using hl t ht
      have e:=eq_downM ha' hb (nw a) 0 (by omega) fun j _ h2=>by
        have:=hl' (nw a - 1 - j) (by omega)
        rw [show nw a - 1 - (nw a - 1 - j)=j by omega] at this
        exact this
      rw [Nat.pow_zero,Nat.div_one,Nat.div_one] at e
      have hL:=lok_at (c:=bodyOf Tryz.f159) (i:=6) 0 1 (by kernel_rfl) (by kernel_rfl) (toldF_sound (keep:=[0,1,5]) (τ:=[]) (sz_same (by omega) hl'))
      have:=gspec e_nil k_nil Tryz.func159 (by kernel_rfl) (by kernel_rfl) hL rfl (r:=iA 0) (args:=[sJ (nw a) (mI a),sJ (nw a) (mI b)]) ((sz_evE (nw a) (mI a) (nw a) (mI b) ((nw a:Int) - 1) (-1)).trans (by
        unfold szHd
        rw [BEq.rfl,hw,gate_pos (Sub.refl _)]
        rfl))
      rw [msA_eq,msA_eq,← hn]
      unfold cmpI
      rw [if_neg (by omega),if_neg (by omega)]
      exact this
    · have hp':dg a (nw a - 1 - K)≠dg b (nw a - 1 - K):=by simpa using hp
      have hq':∀ t,t < K→dg a (nw a - 1 - t)=dg b (nw a - 1 - t):=fun t ht=>by simpa using hq t ht
      have e:=eq_downM ha' hb K (nw a - 1 - K+1) (by omega) fun j h1 h2=>by
        have:=hq' (nw a - 1 - j) (by omega)
        rw [show nw a - 1 - (nw a - 1 - j)=j by omega] at this
        exact this
      have hL:=lok_at (c:=bodyOf Tryz.f159) (i:=6) 0 1 (by kernel_rfl) (by kernel_rfl) (toldF_sound (keep:=[0,1,5]) (τ:=[]) (sz_other (by omega) hK hp' hq'))
      have:=gspec e_nil k_nil Tryz.func159 (by kernel_rfl) (by kernel_rfl) hL rfl (r:=iA (if dg b (nw a - 1 - K) < dg a (nw a - 1 - K) then 1 else -1)) (args:=[sJ (nw a) (mI a),sJ (nw a) (mI b)]) ((sz_evR (nw a) (mI a) (nw a) (mI b) ((nw a:Int) - 1) _ _).trans (by
        unfold szHd
        rw [BEq.rfl,hw,gate_pos (Sub.refl _)]
        rfl))
      rw [msA_eq,msA_eq,← hn]
      have er:cmpI a b=if dg b (nw a - 1 - K) < dg a (nw a - 1 - K) then 1 else -1:=by
        unfold cmpI
        by_cases hc:dg b (nw a - 1 - K) < dg a (nw a - 1 - K)
        · rw [if_pos hc,if_pos (gt_atM e hc)]
        · have:=gt_atM e.symm (show dg a (nw a - 1 - K) < dg b (nw a - 1 - K) by omega)
          rw [if_neg hc,if_neg (by omega),if_pos this]
      rw [er]
      exact this
  · refine gspec e_nil k_nil Tryz.func159 (by kernel_rfl) (by kernel_rfl) (lok_none 6) rfl ((sz_evN (nw a) (mI a) (nw b) (mI b)).trans ?_)
    rw [beq_false_of_ne (show ((nw a:Nat):Int)≠((nw b:Nat):Int) by omega)]
    unfold cmpI
    by_cases hc:nw b < nw a
    · have:=nw_monoM hc
      rw [decide_eq_false (show ¬ ((nw a:Nat):Int) < ((nw b:Nat):Int) by omega),if_pos this]
      rfl
    · have:=nw_monoM (show nw a < nw b by omega)
      rw [decide_eq_true (show ((nw a:Nat):Int) < ((nw b:Nat):Int) by omega),if_neg (by omega),if_pos this]
      rfl
def apS (n:Nat) (f:Nat→Int) (m:Nat) (g:Nat→Int) (cr i:Int) (c:Nat) (el:Nat→List AV):St:=mkS 54 [(0,sJ n f),(1,sJ m g),(5,.osl 0 1 0 c),(6,iA cr),(7,iA i)] [.a 3 1 c el]
def keepAp:List Nat:=[0,1,5,6,7]
section
variable (n:Nat) (f:Nat→Int) (m:Nat) (g:Nat→Int) (cr i:Int) (c:Nat) (el:Nat→List AV)
def apGo:Bool:=cond (cond (decide (i < (n:Int))) true (decide (i < (m:Int)))) true (decide (cr > 0))
def apN (s:Int):Option Out:=cond (apB c 8||false) (some ⟨.normal,apS n f m g (w64 (s.tdiv 1000000)) (w64 (i+1)) (c+1) fun q=>mixL (Nat.blt q c) (el q) [iA (s.tmod 1000000)],.any⟩) none
def apT2 (s:Int):Option Out:=cond (decide (i < (m:Int))) (cond (ixB i m||false) (apN n f m g i c el (w64 (s+g i.toNat))) none) (apN n f m g i c el s)
theorem ap_step:evC Tryz.prog [] [] noL (loopAt Tryz.f158 0) (apS n f m g cr i c el) (finN keepAp [some 2])=cond (apGo n m cr i) (cond (decide (i < (n:Int))) (cond (ixB i n||false) (apT2 n f m g i c el (w64 (cr+f i.toNat))) none) (apT2 n f m g i c el cr)) none:=by kernel_rfl
end
end Go.Proofs.YtancjnambbkhmaaGreat

namespace Go.Proofs.YtancjnambbkhmaaGreat
open Go.Gv
open Go.Em (wB wB_pos wB_eq dg dg_lt vl nw cy bw nw_lt nw_ge nw_le nw_zero top_dg dg_zero pw_pos cy_zero cy_le cy_next dg_add)

section
variable (n:Nat) (f:Nat→Int) (m:Nat) (g:Nat→Int) (cr i:Int) (c:Nat) (el:Nat→List AV)
def apZ:Option Out:=cond (apB c 8||false) none none
def apZ2:Option Out:=cond (decide (i < (m:Int))) (cond (ixB i m||false) (apZ c) none) (apZ c)
theorem ap_end:evC Tryz.prog [] [] noL (loopAt Tryz.f158 0) (apS n f m g cr i c el) (finE keepAp [some 0])=cond (apGo n m cr i) (cond (decide (i < (n:Int))) (cond (ixB i n||false) (apZ2 m i c) none) (apZ2 m i c)) (some ⟨.exit 0,apS n f m g cr i c el,.any⟩):=by kernel_rfl
theorem ap_ev (h:Nat→Int) (i' cr':Int):ev Tryz.prog [] [] (oneL 4 (toldN keepAp [(5,0,1)] (.a 3 1 0 fun q=>[iA (h q)]) [none] (apS n f m g 0 0 0 fun q=>[iA (h q)]) (.exit 0) (apS n f m g cr' i' c fun q=>[iA (h q)]))) Tryz.f158 [sJ n f,sJ m g] ret =
    gate (Sub (apS n f m g 0 0 0 fun q=>[iA (h q)]) (apS n f m g 0 0 0 fun q=>[iA (h q)])) (some (Out.of (sJ c fun j=>h (0+j)))):=by kernel_rfl
end
theorem nw_mon {a b:Nat} (h:a≤b):nw a≤nw b:=nw_le (Nat.lt_of_le_of_lt h (nw_lt b))
theorem cy_top {a b i:Nat} (ha:nw a≤i) (hb:nw b≤i):cy a b i=(a+b) / wB ^ i:=by
  have h1:a < wB ^ i:=Nat.lt_of_lt_of_le (nw_lt a) (Nat.pow_le_pow_right wB_pos ha)
  have h2:b < wB ^ i:=Nat.lt_of_lt_of_le (nw_lt b) (Nat.pow_le_pow_right wB_pos hb)
  unfold cy
  rw [Nat.mod_eq_of_lt h1,Nat.mod_eq_of_lt h2]
theorem mI_zero {a i:Nat} (h:nw a≤i):mI a i=0:=by unfold mI; rw [dg_zero (Nat.lt_of_lt_of_le (nw_lt a) (Nat.pow_le_pow_right wB_pos h))]; rfl
theorem ap_leads {a b:Nat} (hn:nw (a+b)≤10000000000000):Leads Tryz.prog (.loop (loopAt Tryz.f158 0)) (apS (nw a) (mI a) (nw b) (mI b) 0 0 0 fun q=>[iA (mI (a+b) q)]) (.exit 0) (apS (nw a) (mI a) (nw b) (mI b) ((cy a b (nw (a+b)):Nat):Int) (nw (a+b):Nat) (nw (a+b)) fun q=>[iA (mI (a+b) q)]):=by
  have ha:=nw_mon (show a≤a+b by omega)
  have hb:=nw_mon (show b≤a+b by omega)
  have key:Leads Tryz.prog (.loop (loopAt Tryz.f158 0)) (apS (nw a) (mI a) (nw b) (mI b) ((cy a b 0:Nat):Int) ((0:Nat):Int) 0 fun q=>[iA (mI (a+b) q)]) (.exit 0) (apS (nw a) (mI a) (nw b) (mI b) ((cy a b (nw (a+b)):Nat):Int) (nw (a+b):Nat) (nw (a+b)) fun q=>[iA (mI (a+b) q)]):=by
    refine loop_rule (fun i=>apS (nw a) (mI a) (nw b) (mI b) ((cy a b i:Nat):Int) (i:Nat) i fun q=>[iA (mI (a+b) q)]) (nw (a+b)) (.exit 0) _ (by simp) (fun i hi=>?_) ?_
    · have st:=ap_step (nw a) (mI a) (nw b) (mI b) ((cy a b i:Nat):Int) (i:Nat) i fun q=>[iA (mI (a+b) q)]
      have hcy:=cy_le a b i
      have da:=dg_lt a i
      have db:=dg_lt b i
      rw [wB_eq] at da db
      have go:apGo (nw a) (nw b) ((cy a b i:Nat):Int) (i:Nat)=true:=by
        unfold apGo
        by_cases h1:i < nw a
        · rw [dec_lt h1]; rfl
        · by_cases h2:i < nw b
          · rw [dec_lt h2]; cases decide (((i:Nat):Int) < ((nw a:Nat):Int))<;>rfl
          · have h0:a+b≠0:=fun h=>by rw [h,nw_zero] at hi; omega
            have h3:wB ^ i≤a+b:=Nat.le_trans (Nat.pow_le_pow_right wB_pos (by omega)) (nw_ge h0).2
            have h4:0 < cy a b i:=by rw [cy_top (by omega) (by omega)]; exact Nat.div_pos h3 (pw_pos i)
            rw [decide_eq_true (show ((cy a b i:Nat):Int) > 0 by omega)]
            cases (cond (decide (((i:Nat):Int) < ((nw a:Nat):Int))) true (decide (((i:Nat):Int) < ((nw b:Nat):Int))))<;>rfl
      have hs:(((cy a b i:Nat):Int)+mI a i+mI b i)=((dg a i+dg b i+cy a b i:Nat):Int):=by unfold mI; omega
      have w1:w64 (((cy a b i:Nat):Int)+mI a i)=((cy a b i:Nat):Int)+mI a i:=by unfold mI; exact w64_id (by omega) (by omega)
      have w2:w64 (((cy a b i:Nat):Int)+mI a i+mI b i)=((cy a b i:Nat):Int)+mI a i+mI b i:=by unfold mI; exact w64_id (by omega) (by omega)
      have all:(cond (decide (((i:Nat):Int) < ((nw a:Nat):Int))) (cond (ixB (i:Nat) (nw a)||false) (apT2 (nw a) (mI a) (nw b) (mI b) (i:Nat) i (fun q=>[iA (mI (a+b) q)]) (w64 (((cy a b i:Nat):Int)+mI a ((i:Nat):Int).toNat))) none) (apT2 (nw a) (mI a) (nw b) (mI b) (i:Nat) i (fun q=>[iA (mI (a+b) q)]) ((cy a b i:Nat):Int)))=apN (nw a) (mI a) (nw b) (mI b) (i:Nat) i (fun q=>[iA (mI (a+b) q)]) (((cy a b i:Nat):Int)+mI a i+mI b i):=by
        have t2:apT2 (nw a) (mI a) (nw b) (mI b) (i:Nat) i (fun q=>[iA (mI (a+b) q)]) (((cy a b i:Nat):Int)+mI a i)=apN (nw a) (mI a) (nw b) (mI b) (i:Nat) i (fun q=>[iA (mI (a+b) q)]) (((cy a b i:Nat):Int)+mI a i+mI b i):=by
          unfold apT2
          by_cases h2:i < nw b
          · rw [dec_lt h2,ixB_t h2,Int.toNat_natCast,w2]; rfl
          · have e:((cy a b i:Nat):Int)+mI a i+mI b i=((cy a b i:Nat):Int)+mI a i:=by rw [mI_zero (a:=b) (by omega),Int.add_zero]
            rw [decide_eq_false (show ¬ ((i:Nat):Int) < ((nw b:Nat):Int) by omega),cond_false,e]
        by_cases h1:i < nw a
        · rw [dec_lt h1,ixB_t h1,Int.toNat_natCast,w1,t2]; rfl
        · rw [decide_eq_false (show ¬ ((i:Nat):Int) < ((nw a:Nat):Int) by omega)]
          have e:((cy a b i:Nat):Int)=((cy a b i:Nat):Int)+mI a i:=by rw [mI_zero (a:=a) (by omega),Int.add_zero]
          exact (congrArg (apT2 (nw a) (mI a) (nw b) (mI b) (i:Nat) i (fun q=>[iA (mI (a+b) q)])) e).trans t2
      rw [go,cond_true,all,hs] at st
      unfold apN at st
      have e1:(((dg a i+dg b i+cy a b i:Nat):Int)).tmod 1000000=mI (a+b) i:=by
        unfold mI
        rw [dg_add,Int.tmod_eq_emod_of_nonneg (by omega)]
        rfl
      have e2:w64 ((((dg a i+dg b i+cy a b i:Nat):Int)).tdiv 1000000)=((cy a b (i+1):Nat):Int):=by
        rw [cy_next,Int.tdiv_eq_ediv_of_nonneg (by omega),w64_id (by omega) (by omega)]
        rfl
      rw [apB_t (by omega),e1,e2,w64_next (by omega)] at st
      refine (leads_ev (finN_sub _ _) e_nil k_nil noL_ok st).sub (Sub.refl _) ?_
      refine sub_same ⟨Or.inr ⟨3,1,i+1,_,_,rfl,rfl,fun q hq=>?_⟩,trivial⟩
      rw [mixI]
      cases hlt:Nat.blt q i
      · have hge:=not_blt hlt
        have:q=i:=by omega
        subst this
        rfl
      · rfl
    · refine leads_ev (finE_sub _ _) e_nil k_nil noL_ok ((ap_end (nw a) (mI a) (nw b) (mI b) ((cy a b (nw (a+b)):Nat):Int) (nw (a+b):Nat) (nw (a+b)) fun q=>[iA (mI (a+b) q)]).trans ?_)
      have h0:cy a b (nw (a+b))=0:=by rw [cy_top ha hb,Nat.div_eq_of_lt (nw_lt _)]
      have go:apGo (nw a) (nw b) ((cy a b (nw (a+b)):Nat):Int) (nw (a+b):Nat)=false:=by
        unfold apGo
        rw [h0,decide_eq_false (show ¬ ((nw (a+b):Nat):Int) < ((nw a:Nat):Int) by omega),decide_eq_false (show ¬ ((nw (a+b):Nat):Int) < ((nw b:Nat):Int) by omega)]
        rfl
      rw [go,cond_false]
  rw [cy_zero] at key
  exact key
theorem ap_spec {a b:Nat} (hn:nw (a+b)≤10000000000000):FSpec Tryz.prog 158 [msA a,msA b] (msA (a+b)):=by
  have hL:=lok_hd (c:=bodyOf Tryz.f158) (i:=4) 0 (by kernel_rfl) (by kernel_rfl) (toldN_sound (keep:=keepAp) (nils:=[(5,0,1)]) (nr:=.a 3 1 0 fun q=>[iA (mI (a+b) q)]) (τ:=[none]) (ap_leads hn))
  refine gspec e_nil k_nil Tryz.func158 (by kernel_rfl) (by kernel_rfl) hL rfl ((ap_ev (nw a) (mI a) (nw b) (mI b) (nw (a+b)) (mI (a+b)) _ _).trans ?_)
  have e:(fun j=>mI (a+b) (0+j))=mI (a+b):=funext fun j=>by rw [Nat.zero_add]
  rw [gate_pos (Sub.refl _),e]
  rfl
end Go.Proofs.YtancjnambbkhmaaGreat

namespace Go.Proofs.YtancjnambbkhmaaGreat
open Go.Gv
open Go.Em (wB wB_pos wB_eq dg dg_lt vl nw cy bw nw_lt nw_ge nw_le nw_zero top_dg dg_zero pw_pos bw_zero bw_le bw_next dg_sub)

def suS (n:Nat) (f:Nat→Int) (m:Nat) (g:Nat→Int) (br i:Int) (c:Nat) (el:Nat→List AV):St:=mkS 41 [(0,sJ n f),(1,sJ m g),(5,.osl 0 1 0 c),(6,iA br),(7,iA i)] [.a 3 1 c el]
def keepSu:List Nat:=[0,1,5,6,7]
section
variable (n:Nat) (f:Nat→Int) (m:Nat) (g:Nat→Int) (br i:Int) (c:Nat) (el:Nat→List AV)
def suK (k:Int→Int→Option Out) (d:Int):Option Out:=cond (decide (d < 0)) (cond (apB c 8||false) (k (w64 (d+1000000)) 1) none) (cond (apB c 8||false) (k d 0) none)
def suT (k:Int→Int→Option Out) (z:Option Out):Option Out:=cond (decide (i < (n:Int))) (cond (ixB i n||false) (cond (decide (i < (m:Int))) (cond (ixB i m||false) (suK c k (w64 (w64 (f i.toNat - br) - g i.toNat))) none) (suK c k (w64 (f i.toNat - br)))) none) z
theorem su_step:evC Tryz.prog [] [] noL (loopAt Tryz.f160 0) (suS n f m g br i c el) (finN keepSu [some 2])=suT n f m g br i c (fun v b=>some ⟨.normal,suS n f m g b (w64 (i+1)) (c+1) fun q=>mixL (Nat.blt q c) (el q) [iA v],.any⟩) none:=by kernel_rfl
theorem su_end:evC Tryz.prog [] [] noL (loopAt Tryz.f160 0) (suS n f m g br i c el) (finE keepSu [some 0])=suT n f m g br i c (fun _ _=>none) (some ⟨.exit 0,suS n f m g br i c el,.any⟩):=by kernel_rfl
theorem su_ev (h:Nat→Int) (i' br':Int) (k:Nat) (F:Nat→Int):evZ Tryz.prog [] [kS Tryz.prog 157 (fun _=>sJ k F)] [] (oneL 4 (toldN keepSu [(5,0,1)] (.a 3 1 0 fun q=>[iA (h q)]) [none] (suS n f m g 0 0 0 fun q=>[iA (h q)]) (.exit 0) (suS n f m g br' i' c fun q=>[iA (h q)]))) (oneZ 14 (frzK 0)) Tryz.f160 [sJ n f,sJ m g] ret =
    gate (Sub (suS n f m g 0 0 0 fun q=>[iA (h q)]) (suS n f m g 0 0 0 fun q=>[iA (h q)])) (cond (fz1 c) (gate (FSpec Tryz.prog 157 [sJ c h] (sJ k F)) (some (Out.of (sJ k F)))) none):=by kernel_rfl
end
theorem su_leads {a b:Nat} (hab:b≤a) (hn:nw a≤10000000000000):Leads Tryz.prog (.loop (loopAt Tryz.f160 0)) (suS (nw a) (mI a) (nw b) (mI b) 0 0 0 fun q=>[iA (mI (a - b) q)]) (.exit 0) (suS (nw a) (mI a) (nw b) (mI b) ((bw a b (nw a):Nat):Int) (nw a:Nat) (nw a) fun q=>[iA (mI (a - b) q)]):=by
  have key:Leads Tryz.prog (.loop (loopAt Tryz.f160 0)) (suS (nw a) (mI a) (nw b) (mI b) ((bw a b 0:Nat):Int) ((0:Nat):Int) 0 fun q=>[iA (mI (a - b) q)]) (.exit 0) (suS (nw a) (mI a) (nw b) (mI b) ((bw a b (nw a):Nat):Int) (nw a:Nat) (nw a) fun q=>[iA (mI (a - b) q)]):=by
    refine loop_rule (fun i=>suS (nw a) (mI a) (nw b) (mI b) ((bw a b i:Nat):Int) (i:Nat) i fun q=>[iA (mI (a - b) q)]) (nw a) (.exit 0) _ (by simp) (fun i hi=>?_) ?_
    · have st:=su_step (nw a) (mI a) (nw b) (mI b) ((bw a b i:Nat):Int) (i:Nat) i fun q=>[iA (mI (a - b) q)]
      have hbw:=bw_le a b i
      have da:=dg_lt a i
      have db:=dg_lt b i
      have e1:mI (a - b) i=((dg a i+wB - dg b i - bw a b i) % wB:Nat):=by unfold mI; rw [dg_sub hab]
      have e2:=bw_next a b i
      rw [wB_eq] at da db e1
      have go:∀ k:Int→Int→Option Out,suT (nw a) (mI a) (nw b) (mI b) ((bw a b i:Nat):Int) (i:Nat) i k none=k (mI (a - b) i) ((bw a b (i+1):Nat):Int):=fun k=>by
        have fin:∀ d:Int,d=(dg a i:Int) - (bw a b i:Int) - (dg b i:Int)→suK i k d=k (mI (a - b) i) ((bw a b (i+1):Nat):Int):=fun d hd=>by
          unfold suK
          rw [apB_t (by omega),e1,e2]
          by_cases hneg:d < 0
          · rw [decide_eq_true hneg,if_pos (by omega),w64_id (by omega) (by omega),show d+1000000=(((dg a i+1000000 - dg b i - bw a b i) % 1000000:Nat):Int) by omega]
            rfl
          · rw [decide_eq_false hneg,if_neg (by omega),show d=(((dg a i+1000000 - dg b i - bw a b i) % 1000000:Nat):Int) by omega]
            rfl
        unfold suT
        rw [dec_lt hi,ixB_t hi,Int.toNat_natCast]
        have w1:w64 (mI a i - ((bw a b i:Nat):Int))=(dg a i:Int) - (bw a b i:Int):=by unfold mI; exact w64_id (by omega) (by omega)
        rw [w1]
        by_cases h2:i < nw b
        · rw [dec_lt h2,ixB_t h2]
          have w2:w64 ((dg a i:Int) - (bw a b i:Int) - mI b i)=(dg a i:Int) - (bw a b i:Int) - (dg b i:Int):=by unfold mI; exact w64_id (by omega) (by omega)
          rw [w2]
          exact fin _ rfl
        · have hz:dg b i=0:=dg_zero (Nat.lt_of_lt_of_le (nw_lt b) (Nat.pow_le_pow_right wB_pos (by omega)))
          rw [decide_eq_false (show ¬ ((i:Nat):Int) < ((nw b:Nat):Int) by omega)]
          exact fin _ (by rw [hz]; omega)
      rw [go,w64_next (by omega)] at st
      refine (leads_ev (finN_sub _ _) e_nil k_nil noL_ok st).sub (Sub.refl _) ?_
      refine sub_same ⟨Or.inr ⟨3,1,i+1,_,_,rfl,rfl,fun q hq=>?_⟩,trivial⟩
      rw [mixI]
      cases hlt:Nat.blt q i
      · have hge:=not_blt hlt
        have:q=i:=by omega
        subst this
        rfl
      · rfl
    · refine leads_ev (finE_sub _ _) e_nil k_nil noL_ok ((su_end (nw a) (mI a) (nw b) (mI b) ((bw a b (nw a):Nat):Int) (nw a:Nat) (nw a) fun q=>[iA (mI (a - b) q)]).trans ?_)
      unfold suT
      rw [dec_self,cond_false]
  rw [bw_zero] at key
  exact key
theorem su_spec {a b:Nat} (hab:b≤a) (hn:nw a≤10000000000000):FSpec Tryz.prog 160 [msA a,msA b] (msA (a - b)):=by
  have hL:=lok_hd (c:=bodyOf Tryz.f160) (i:=4) 0 (by kernel_rfl) (by kernel_rfl) (toldN_sound (keep:=keepSu) (nils:=[(5,0,1)]) (nr:=.a 3 1 0 fun q=>[iA (mI (a - b) q)]) (τ:=[none]) (su_leads hab hn))
  refine gspecZ (oneZ_ok (frzK_ok 0)) e_nil (k_cons kS_ok k_nil) m_nil Tryz.func160 (by kernel_rfl) (by kernel_rfl) hL rfl ((su_ev (nw a) (mI a) (nw b) (mI b) (nw a) (mI (a - b)) _ _ (nw (a - b)) (mI (a - b))).trans ?_)
  have hlt:=nw_lt a
  rw [gate_pos (Sub.refl _),fz1_t,gate_pos (show FSpec Tryz.prog 157 [sJ (nw a) (mI (a - b))] (sJ (nw (a - b)) (mI (a - b))) from co_spec (a - b) (by omega) (by omega))]
  rfl
end Go.Proofs.YtancjnambbkhmaaGreat

namespace Go.Proofs.YtancjnambbkhmaaGreat
open Go.Gv
open Go.Em (wB wB_pos wB_eq dg dg_lt vl vl_dg nw nw_lt nw_ge nw_le nw_zero)

/-- Whether it is below nought, and its size (nought may be called either). -/
abbrev Bg:Type:=Bool × Nat
def bgA (x:Bg):AV:=.agg [bA x.1,msA x.2]
def bv (x:Bg):Int:=if x.1 then -(x.2:Int) else (x.2:Int)
def decM:AV→Nat
  | .sl _ n el=>vl (fun i=>u64V (el i)) n
  | _=>0
theorem decM_ms (a:Nat):decM (msA a)=a:=by
  show vl (fun i=>(((dg a i:Nat):Int)).toNat) (nw a)=a
  simp only [Int.toNat_natCast]
  exact (vl_dg a (nw a)).trans (Nat.mod_eq_of_lt (nw_lt a))
def decB:AV→Bg
  | .agg [.x (.bool s),a]=>(s,decM a)
  | _=>(false,0)
theorem decB_b (x:Bg):decB (bgA x)=x:=by
  show (x.1,decM (msA x.2))=x
  rw [decM_ms]
def adG (l:List AV):AV:=msA (decM (a0 l)+decM (a1 l))
def suG' (l:List AV):AV:=msA (decM (a0 l) - decM (a1 l))
def szG (cf:Nat→Nat→Int) (l:List AV):AV:=iA (cf (decM (a0 l)) (decM (a1 l)))
section
variable (x y:Bg)
theorem bs_ev:ev Tryz.prog [] [] noL Tryz.f172 [bgA x] ret=cond (((nw x.2:Nat):Int)==0) (some (Out.of (iA 0))) (cond x.1 (some (Out.of (iA (-1)))) (some (Out.of (iA 1)))):=by kernel_rfl
theorem bn_ev:ev Tryz.prog [] [] noL Tryz.f148 [bgA x] ret=some (Out.of (bgA (!x.1,x.2))):=by kernel_rfl
noncomputable def baT (cf:Nat→Nat→Int):Option Out:=gate (FSpec Tryz.prog 159 [msA x.2,msA y.2] (szG cf [msA x.2,msA y.2])) (cond (decide (cf (decM (msA x.2)) (decM (msA y.2)) ≥ 0)) (gate (FSpec Tryz.prog 160 [msA x.2,msA y.2] (suG' [msA x.2,msA y.2])) (some (Out.of (.agg [bA x.1,suG' [msA x.2,msA y.2]])))) (gate (FSpec Tryz.prog 160 [msA y.2,msA x.2] (suG' [msA y.2,msA x.2])) (some (Out.of (.agg [bA y.1,suG' [msA y.2,msA x.2]])))))
theorem ba_ev (cf:Nat→Nat→Int):ev Tryz.prog [] [kS Tryz.prog 158 adG,kS Tryz.prog 159 (szG cf),kS Tryz.prog 160 suG'] noL Tryz.f147 [bgA x,bgA y] ret=cond (x.1==y.1) (gate (FSpec Tryz.prog 158 [msA x.2,msA y.2] (adG [msA x.2,msA y.2])) (some (Out.of (.agg [bA x.1,adG [msA x.2,msA y.2]])))) (baT x y cf):=by kernel_rfl
end
theorem nw_eq0 {a:Nat}:nw a=0 ↔ a=0:=⟨fun h=>Decidable.byContradiction fun h0=>by have:=(nw_ge h0).1; omega,fun h=>by rw [h,nw_zero]⟩
theorem bs_spec (x:Bg):FSpec Tryz.prog 172 [bgA x] (iA (bv x).sign):=by
  refine gspec e_nil k_nil Tryz.func172 (by kernel_rfl) (by kernel_rfl) noL_ok rfl ((bs_ev x).trans ?_)
  obtain ⟨s,a⟩:=x
  by_cases h:a=0
  · subst h
    rw [nw_zero]
    cases s<;>rfl
  · have h1:nw a≠0:=fun e=>h (nw_eq0.1 e)
    rw [beq_false_of_ne (show ((nw a:Nat):Int)≠0 by omega)]
    cases s
    · rw [show (bv (false,a)).sign=1 from Int.sign_eq_one_of_pos (show (0:Int) < (a:Int) by omega)]; rfl
    · rw [show (bv (true,a)).sign=-1 from Int.sign_eq_neg_one_of_neg (show -(a:Int) < 0 by omega)]; rfl
def bneg (x:Bg):Bg:=(!x.1,x.2)
theorem bv_neg (x:Bg):bv (bneg x)=-bv x:=by obtain ⟨s,a⟩:=x; cases s<;>simp [bv,bneg]
theorem bn_spec (x:Bg):FSpec Tryz.prog 148 [bgA x] (bgA (bneg x)):=gspec e_nil k_nil Tryz.func148 (by kernel_rfl) (by kernel_rfl) noL_ok rfl (bn_ev x)
def badd (x y:Bg):Bg:=if x.1=y.1 then (x.1,x.2+y.2) else if y.2≤x.2 then (x.1,x.2 - y.2) else (y.1,y.2 - x.2)
theorem bv_add (x y:Bg):bv (badd x y)=bv x+bv y:=by
  obtain ⟨s,a⟩:=x
  obtain ⟨t,b⟩:=y
  unfold badd bv
  by_cases h:b≤a
  · cases s<;>cases t<;>simp [h]<;>omega
  · cases s<;>cases t<;>simp [h]<;>omega
theorem ba_spec {x y:Bg} (hx:nw x.2≤9000000000000) (hy:nw y.2≤9000000000000) (hs:nw (x.2+y.2)≤10000000000000):FSpec Tryz.prog 147 [bgA x,bgA y] (bgA (badd x y)):=by
  refine gspec e_nil (k_cons kS_ok (k_cons kS_ok (k_cons kS_ok k_nil))) Tryz.func147 (by kernel_rfl) (by kernel_rfl) noL_ok rfl ((ba_ev x y cmpI).trans ?_)
  have eA:adG [msA x.2,msA y.2]=msA (x.2+y.2):=by show msA (decM (msA x.2)+decM (msA y.2))=_; rw [decM_ms,decM_ms]
  have eS:suG' [msA x.2,msA y.2]=msA (x.2 - y.2):=by show msA (decM (msA x.2) - decM (msA y.2))=_; rw [decM_ms,decM_ms]
  have eS':suG' [msA y.2,msA x.2]=msA (y.2 - x.2):=by show msA (decM (msA y.2) - decM (msA x.2))=_; rw [decM_ms,decM_ms]
  have eZ:szG cmpI [msA x.2,msA y.2]=iA (cmpI x.2 y.2):=by show iA (cmpI (decM (msA x.2)) (decM (msA y.2)))=_; rw [decM_ms,decM_ms]
  unfold badd
  by_cases h:x.1=y.1
  · rw [if_pos h,h,show (y.1==y.1)=true from BEq.rfl,eA,gate_pos (ap_spec hs)]
    rfl
  · rw [if_neg h,beq_false_of_ne h]
    unfold baT
    rw [eZ,gate_pos (sz_spec (by omega)),decM_ms,decM_ms]
    by_cases hle:y.2≤x.2
    · rw [if_pos hle,decide_eq_true (show cmpI x.2 y.2 ≥ 0 by unfold cmpI; split<;>(try split)<;>omega),eS,gate_pos (su_spec hle (by omega))]
      rfl
    · rw [if_neg hle,decide_eq_false (show ¬ cmpI x.2 y.2 ≥ 0 by unfold cmpI; rw [if_neg (by omega),if_pos (by omega)]; omega),eS',gate_pos (su_spec (by omega) (by omega))]
      rfl
end Go.Proofs.YtancjnambbkhmaaGreat

namespace Go.Proofs.YtancjnambbkhmaaGreat
open Go.Gv
open Go.Em (wB wB_pos wB_eq dg dg_lt vl vl_dg nw nw_lt nw_ge nw_le nw_zero dg_zero)

def mkI8 (n:Int):Bool:=decide (0≤n)&&(decide (n≤n)&&decide (((8:Nat):Int)*n≤281474976710656))
def bgZ:List AV:=[bA false,.x (.slice none 0 0)]
def boS (s:Bool) (n:Int) (m:Nat) (el:Nat→List AV):St:=mkS 25 [(0,iA n),(2,.own 0 0),(3,bA s),(4,.osl 1 1 0 m)] [.c bgZ,.a 3 1 m el]
def keepBo:List Nat:=[0,2,3,4]
section
variable (s:Bool) (n:Int) (m:Nat) (el:Nat→List AV)
def boA (r:Int):Option Out:=cond (apB m 8||false) (some ⟨.normal,boS s (w64 (n.tdiv 1000000)) (m+1) (fun q=>mixL (Nat.blt q m) (el q) [iA r]),.any⟩) none
theorem bo_step:evC Tryz.prog [] [] noL (loopAt Tryz.f142 0) (boS s n m el) (finN keepBo [some 0,some 3]) =
    cond (!(n==0)) (cond (decide (n.tmod 1000000 < 0)) (boA s n m el (w64 (0 - n.tmod 1000000))) (boA s n m el (n.tmod 1000000))) none:=by kernel_rfl
theorem bo_end:evC Tryz.prog [] [] noL (loopAt Tryz.f142 0) (boS s n m el) (finE keepBo [some 0,some 1]) =
    cond (!(n==0)) (cond (decide (n.tmod 1000000 < 0)) (cond (apB m 8||false) none none) (cond (apB m 8||false) none none)) (some ⟨.exit 0,boS s n m el,.any⟩):=by kernel_rfl
theorem bo_ev (h:Nat→Int) (n':Int):ev Tryz.prog [] [] (oneL 3 (toldN keepBo [(4,1,1)] (.a 3 1 0 fun q=>[iA (h q)]) [some 0,none] (boS s n 0 fun q=>[iA (h q)]) (.exit 0) (boS s n' m fun q=>[iA (h q)]))) Tryz.f142 [iA n] ret =
    gate (Sub (boS (decide (n < 0)) n 0 fun q=>[iA (h q)]) (boS s n 0 fun q=>[iA (h q)])) (some (Out.of (.agg [bA s,.sl 1 m fun j=>[iA (h (0+j))]]))):=by kernel_rfl
end
end Go.Proofs.YtancjnambbkhmaaGreat

namespace Go.Proofs.YtancjnambbkhmaaGreat
open Go.Gv
open Go.Em (wB wB_pos wB_eq dg dg_lt vl vl_dg nw nw_lt nw_ge nw_le nw_zero dg_zero pw_pos mod_next)

def bOf (n:Int):Bg:=(decide (n < 0),n.natAbs)
theorem bv_of (n:Int):bv (bOf n)=n:=by
  unfold bv bOf
  by_cases h:n < 0
  · simp only [decide_eq_true h,if_true]; omega
  · simp only [decide_eq_false h]; simp; omega
/-- What is left of a number when so many parts are cut off. -/
def cur (n:Int) (k:Nat):Int:=if n < 0 then -((n.natAbs / wB ^ k:Nat):Int) else ((n.natAbs / wB ^ k:Nat):Int)
theorem cur_zero (n:Int):cur n 0=n:=by
  unfold cur
  rw [Nat.pow_zero,Nat.div_one]
  split<;>omega
theorem tq_neg (a:Nat):Int.tdiv (-(a:Int)) 1000000=-((a / 1000000:Nat):Int)∧Int.tmod (-(a:Int)) 1000000=-((a % 1000000:Nat):Int):=by
  rw [Int.neg_tdiv,Int.neg_tmod]
  have h1:Int.tdiv (a:Int) 1000000=((a / 1000000:Nat):Int):=(Int.ofNat_tdiv a 1000000).symm
  have h2:Int.tmod (a:Int) 1000000=((a % 1000000:Nat):Int):=(Int.ofNat_tmod a 1000000).symm
  rw [h1,h2]
  exact ⟨rfl,rfl⟩
theorem tq_pos (a:Nat):Int.tdiv (a:Int) 1000000=((a / 1000000:Nat):Int)∧Int.tmod (a:Int) 1000000=((a % 1000000:Nat):Int):=⟨(Int.ofNat_tdiv a 1000000).symm,(Int.ofNat_tmod a 1000000).symm⟩
theorem cur_div (n:Int) (k:Nat):(cur n k).tdiv 1000000=cur n (k+1):=by
  have e:n.natAbs / wB ^ (k+1)=n.natAbs / wB ^ k / 1000000:=by rw [Nat.pow_succ,← Nat.div_div_eq_div_mul]; rfl
  unfold cur
  rw [e]
  by_cases h:n < 0
  · rw [if_pos h,if_pos h,(tq_neg _).1]
  · rw [if_neg h,if_neg h,(tq_pos _).1]
theorem cur_mod (n:Int) (k:Nat):(cur n k).tmod 1000000=if n < 0 then -(mI n.natAbs k) else mI n.natAbs k:=by
  unfold cur mI dg
  by_cases h:n < 0
  · rw [if_pos h,if_pos h,(tq_neg _).2]; rfl
  · rw [if_neg h,if_neg h,(tq_pos _).2]; rfl
theorem cur_nz {n:Int} {k:Nat} (hk:k < nw n.natAbs):cur n k≠0:=by
  have h0:n.natAbs≠0:=fun e=>by rw [e,nw_zero] at hk; omega
  have h1:=(nw_ge h0).2
  have h2:wB ^ k≤n.natAbs:=Nat.le_trans (Nat.pow_le_pow_right wB_pos (by omega)) h1
  have h3:0 < n.natAbs / wB ^ k:=Nat.div_pos h2 (pw_pos k)
  unfold cur
  split<;>omega
theorem cur_end (n:Int):cur n (nw n.natAbs)=0:=by
  unfold cur
  rw [Nat.div_eq_of_lt (nw_lt _)]
  split<;>rfl
theorem cur_le (n:Int) (k:Nat):(n < 0→n≤cur n k∧cur n k≤0)∧(0≤n→0≤cur n k∧cur n k≤n):=by
  have h:=Nat.div_le_self n.natAbs (wB ^ k)
  unfold cur
  generalize n.natAbs / wB ^ k=d at *
  constructor
  · intro hn; rw [if_pos hn]; omega
  · intro hn; rw [if_neg (by omega)]; omega
theorem app_i' {g:Nat→Int} {m q:Nat} {v:Int} (hq:q < m+1) (hv:g m=v):mixL (Nat.blt q m) [iA (g q)] [iA v]=[iA (g q)]:=by
  rw [mixI]
  cases h:Nat.blt q m
  · have:=not_blt h
    have:q=m:=by omega
    subst this
    rw [cond_false,hv]
  · rfl
theorem bo_leads {n:Int} (h1:-9223372036854775808≤n) (h2:n≤9223372036854775807):Leads Tryz.prog (.loop (loopAt Tryz.f142 0)) (boS (decide (n < 0)) n 0 fun q=>[iA (mI n.natAbs q)]) (.exit 0) (boS (decide (n < 0)) 0 (nw n.natAbs) fun q=>[iA (mI n.natAbs q)]):=by
  have hN:nw n.natAbs≤4:=nw_le (by rw [wB_eq]; omega)
  have key:Leads Tryz.prog (.loop (loopAt Tryz.f142 0)) (boS (decide (n < 0)) (cur n 0) 0 fun q=>[iA (mI n.natAbs q)]) (.exit 0) (boS (decide (n < 0)) (cur n (nw n.natAbs)) (nw n.natAbs) fun q=>[iA (mI n.natAbs q)]):=by
    refine loop_rule (fun k=>boS (decide (n < 0)) (cur n k) k fun q=>[iA (mI n.natAbs q)]) (nw n.natAbs) (.exit 0) _ (by simp) (fun k hk=>?_) ?_
    · have st:=bo_step (decide (n < 0)) (cur n k) k fun q=>[iA (mI n.natAbs q)]
      have hd:=dg_lt n.natAbs k
      have hd1:0≤mI n.natAbs k∧mI n.natAbs k < 1000000:=by unfold mI; rw [wB_eq] at hd; omega
      have hle:=cur_le n (k+1)
      have e:evC Tryz.prog [] [] noL (loopAt Tryz.f142 0) (boS (decide (n < 0)) (cur n k) k fun q=>[iA (mI n.natAbs q)]) (finN keepBo [some 0,some 3])=some ⟨.normal,boS (decide (n < 0)) (cur n (k+1)) (k+1) (fun q=>mixL (Nat.blt q k) [iA (mI n.natAbs q)] [iA (mI n.natAbs k)]),.any⟩:=by
        rw [st,beq_false_of_ne (cur_nz hk)]
        unfold boA
        rw [apB_t (by omega),cur_div,w64_id (n:=cur n (k+1)) (by omega) (by omega),cur_mod]
        by_cases h:n < 0
        · rw [if_pos h]
          by_cases hz:mI n.natAbs k=0
          · rw [hz]; rfl
          · rw [decide_eq_true (show -mI n.natAbs k < 0 by omega),w64_id (n:=0 - -mI n.natAbs k) (by omega) (by omega),show 0 - -mI n.natAbs k=mI n.natAbs k by omega]; rfl
        · rw [if_neg h,decide_eq_false (show ¬ mI n.natAbs k < 0 by omega)]; rfl
      refine (leads_ev (finN_sub _ _) e_nil k_nil noL_ok e).sub (Sub.refl _) ?_
      exact sub_same ⟨Or.inl rfl,Or.inr ⟨3,1,k+1,_,_,rfl,rfl,fun q hq=>(app_i' hq rfl).symm ▸ rfl⟩,trivial⟩
    · refine leads_ev (finE_sub _ _) e_nil k_nil noL_ok ((bo_end (decide (n < 0)) (cur n (nw n.natAbs)) (nw n.natAbs) _).trans ?_)
      rw [cur_end]
      rfl
  rw [cur_zero,cur_end] at key
  exact key
theorem bo_spec {n:Int} (h1:-9223372036854775808≤n) (h2:n≤9223372036854775807):FSpec Tryz.prog 142 [iA n] (bgA (bOf n)):=by
  have hL:=lok_hd (c:=bodyOf Tryz.f142) (i:=3) 0 (by kernel_rfl) (by kernel_rfl) (toldN_sound (keep:=keepBo) (nils:=[(4,1,1)]) (nr:=.a 3 1 0 fun q=>[iA (mI n.natAbs q)]) (τ:=[some 0,none]) (bo_leads h1 h2))
  refine gspec e_nil k_nil Tryz.func142 (by kernel_rfl) (by kernel_rfl) hL rfl ((bo_ev (decide (n < 0)) n (nw n.natAbs) (mI n.natAbs) 0).trans ?_)
  have e:(fun j=>[iA (mI n.natAbs (0+j))])=fun j=>[iA (mI n.natAbs j)]:=funext fun j=>by rw [Nat.zero_add]
  rw [gate_pos (Sub.refl _),e]
  rfl
def bgC (s:Bool) (n:Nat) (f:Nat→Int):List AV:=[bA s,sJ n f]
def bmI (s:Bool) (n:Nat) (f:Nat→Int) (t:Bool) (m:Nat) (g:Nat→Int) (N:Nat) (i cr j:Int) (Y:Nat→Int):St:=mkS 80 [(2,.own 0 0),(3,.own 1 0),(4,.own 2 0),(5,.osl 3 1 0 N),(6,iA i),(7,iA cr),(8,iA j)] [.c (bgC s n f),.c (bgC t m g),.c bgZ,.a 3 1 N fun q=>[iA (Y q)]]
def keepMI:List Nat:=[2,3,4,5,6,7,8]
def bmO (s:Bool) (n:Nat) (f:Nat→Int) (t:Bool) (m:Nat) (g:Nat→Int) (N:Nat) (i:Int) (Y:Nat→Int):St:=mkS 80 [(2,.own 0 0),(3,.own 1 0),(4,.own 2 0),(5,.osl 3 1 0 N),(6,iA i)] [.c (bgC s n f),.c (bgC t m g),.c bgZ,.a 3 1 N fun q=>[iA (Y q)]]
def keepMO:List Nat:=[2,3,4,5,6]
section
variable (s:Bool) (n:Nat) (f:Nat→Int) (t:Bool) (m:Nat) (g:Nat→Int) (N:Nat) (i cr j:Int) (Y:Nat→Int)
def miK:Nat:=(w64 (i+j)).toNat
def miV (v:Int) (q:Nat):Int:=cond (q==0+miK i j) (v.tmod 1000000) (Y q)
def miT (v:Int):Option Out:=cond (ixB (w64 (i+j)) N||false) (cond (stU (miK i j) N) (some ⟨.normal,bmI s n f t m g N i (w64 (v.tdiv 1000000)) (w64 (j+1)) (miV i j Y v),.any⟩) none) none
def miZ:Option Out:=cond (ixB (w64 (i+j)) N||false) (cond (stU (miK i j) N) none none) none
def miS:Int:=w64 (Y (0+miK i j)+cr)
def miC (x y z:Option Out):Option Out:=cond (cond (decide (j < (m:Int))) true (decide (cr > 0))) (cond (ixB (w64 (i+j)) N||false) (cond (stU (miK i j) N) (cond (decide (j < (m:Int))) (cond ((ixB i n||false)&&((ixB j m||false)&&true)) x none) y) none) none) z
theorem mi_step:evC Tryz.prog [] [] noL (loopAt Tryz.f146 1) (bmI s n f t m g N i cr j Y) (finN keepMI [some 0,some 1,some 2,some 3]) =
    miC n m N i cr j (miT s n f t m g N i j Y (w64 (miS i cr j Y+w64 (f i.toNat*g j.toNat)))) (miT s n f t m g N i j Y (miS i cr j Y)) none:=by kernel_rfl
theorem mi_end:evC Tryz.prog [] [] noL (loopAt Tryz.f146 1) (bmI s n f t m g N i cr j Y) (finE keepMI [some 0,some 1,some 2,some 3]) =
    miC n m N i cr j (miZ N i j) (miZ N i j) (some ⟨.exit 2,bmI s n f t m g N i cr j Y,.any⟩):=by kernel_rfl
noncomputable def moL (j':Int) (Y1:Nat→Int):Nat→Option LFun:=oneL 7 (toldF keepMI [some 0,some 1,some 2,some 3] (bmI s n f t m g N i 0 0 Y) (.exit 2) (bmI s n f t m g N i 0 j' Y1))
theorem mo_step (j':Int) (Y1:Nat→Int):evC Tryz.prog [] [] (moL s n f t m g N i Y j' Y1) (loopAt Tryz.f146 0) (bmO s n f t m g N i Y) (finN keepMO [some 0,some 1,some 2,some 3]) =
    cond (decide (i < (n:Int))) (gate (Sub (bmI s n f t m g N i 0 0 Y) (bmI s n f t m g N i 0 0 Y)) (some ⟨.normal,bmO s n f t m g N (w64 (i+1)) Y1,.any⟩)) none:=by kernel_rfl
theorem mo_end:evC Tryz.prog [] [] (oneL 7 fun _ _=>none) (loopAt Tryz.f146 0) (bmO s n f t m g N i Y) (finE keepMO [some 0,some 1,some 2,some 3]) =
    cond (decide (i < (n:Int))) none (some ⟨.exit 0,bmO s n f t m g N i Y,.any⟩):=by kernel_rfl
theorem mo_ev (k:Nat) (z:Nat→Int):evZ Tryz.prog [] [kS Tryz.prog 157 (fun _=>sJ k z)] [] (oneL 3 (toldF keepMO [some 0,some 1,some 2,some 3] (bmO s n f t m g N 0 fun _=>0) (.exit 0) (bmO s n f t m g N (n:Nat) Y))) (oneZ 14 (frzK 3)) Tryz.f146 [.agg (bgC s n f),.agg (bgC t m g)] ret =
    cond (mkI8 (w64 (w64 ((n:Int)+(m:Int))+1))||false) (gate (Sub (bmO s n f t m g (w64 (w64 ((n:Int)+(m:Int))+1)).toNat 0 fun _=>0) (bmO s n f t m g N 0 fun _=>0)) (cond (fz1 N) (gate (FSpec Tryz.prog 157 [sJ N Y] (sJ k z)) (some (Out.of (.agg [bA (!(s==t)),sJ k z])))) none)) none:=by kernel_rfl
end
end Go.Proofs.YtancjnambbkhmaaGreat

namespace Go.Em

section
variable (V A b i:Nat)
def mT (j:Nat):Nat:=V % wB ^ (i+j)+wB ^ i*A*(b % wB ^ j)
def mC (j:Nat):Nat:=mT V A b i j / wB ^ (i+j)
def mS (j:Nat):Nat:=dg V (i+j)+mC V A b i j+A*dg b j
theorem mT_next (j:Nat):mT V A b i (j+1)=mT V A b i j+wB ^ (i+j)*(dg V (i+j)+A*dg b j):=by
  unfold mT
  rw [show i+(j+1)=i+j+1 by omega,mod_next,mod_next,Nat.pow_add]
  generalize dg V (i+j)=x
  generalize dg b j=y
  generalize V % (wB ^ i*wB ^ j)=u
  generalize b % wB ^ j=v
  generalize wB ^ i=p
  generalize wB ^ j=q
  grind
theorem mT_div (j:Nat):mT V A b i (j+1) / wB ^ (i+j)=mS V A b i j:=by
  rw [mT_next,Nat.add_mul_div_left _ _ (pw_pos _)]
  unfold mS mC
  omega
theorem mC_next (j:Nat):mC V A b i (j+1)=mS V A b i j / wB:=by
  rw [← mT_div]
  unfold mC
  rw [show i+(j+1)=i+j+1 by omega,Nat.pow_succ,Nat.div_div_eq_div_mul]
theorem mC_zero:mC V A b i 0=0:=by
  unfold mC mT
  rw [Nat.pow_zero,Nat.mod_one,Nat.mul_zero,Nat.add_zero,Nat.add_zero]
  exact Nat.div_eq_of_lt (Nat.mod_lt _ (pw_pos _))
theorem mC_le (j:Nat):mC V A b i j≤A:=by
  have h1:=Nat.mod_lt V (pw_pos (i+j))
  have h2:=Nat.mod_lt b (pw_pos j)
  have h3:wB ^ i*A*(b % wB ^ j)≤wB ^ i*A*wB ^ j:=Nat.mul_le_mul_left _ (Nat.le_of_lt h2)
  have e:wB ^ i*A*wB ^ j=wB ^ (i+j)*A:=by rw [Nat.pow_add]; generalize wB ^ i=p; generalize wB ^ j=q; grind
  rw [e] at h3
  have:mC V A b i j < A+1:=by
    unfold mC mT
    rw [Nat.div_lt_iff_lt_mul (pw_pos _),Nat.add_mul,Nat.one_mul,Nat.mul_comm A]
    omega
  omega
theorem mW_split (j:Nat):V+wB ^ i*A*b=mT V A b i j+wB ^ (i+j)*(V / wB ^ (i+j)+A*(b / wB ^ j)):=by
  have e1:=Nat.div_add_mod V (wB ^ (i+j))
  have e2:=Nat.div_add_mod b (wB ^ j)
  unfold mT
  rw [Nat.pow_add] at *
  generalize V % (wB ^ i*wB ^ j)=u at *
  generalize V / (wB ^ i*wB ^ j)=u' at *
  generalize b % wB ^ j=v at *
  generalize b / wB ^ j=v' at *
  generalize wB ^ i=p at *
  generalize wB ^ j=q at *
  subst e1 e2
  grind
theorem dg_W (j:Nat):dg (V+wB ^ i*A*b) (i+j)=mS V A b i j % wB:=by
  have h:=mW_split V A b i (j+1)
  unfold dg
  rw [h,show i+(j+1)=i+j+1 by omega,Nat.pow_succ,Nat.mul_assoc,Nat.add_mul_div_left _ _ (pw_pos _),mT_div,Nat.add_mul_mod_self_left]
theorem dg_high {j q:Nat} (hb:b < wB ^ j) (hc:mC V A b i j=0) (hq:i+j≤q):dg (V+wB ^ i*A*b) q=dg V q:=by
  have h:=mW_split V A b i j
  rw [Nat.div_eq_of_lt hb,Nat.mul_zero,Nat.add_zero] at h
  obtain ⟨d,rfl⟩:=Nat.le.dest hq
  unfold dg
  rw [Nat.pow_add,← Nat.div_div_eq_div_mul,← Nat.div_div_eq_div_mul,h,Nat.add_mul_div_left _ _ (pw_pos _)]
  unfold mC at hc
  rw [hc,Nat.zero_add]
theorem mT_le (j:Nat) (hb:b < wB ^ j):mT V A b i j≤V+wB ^ i*A*b:=by
  unfold mT
  rw [Nat.mod_eq_of_lt hb]
  have:=Nat.mod_le V (wB ^ (i+j))
  omega
end
theorem nw_mul (a b:Nat):a*b < wB ^ (nw a+nw b):=by
  have h1:=nw_lt a
  have h2:=nw_lt b
  rw [Nat.pow_add]
  exact Nat.mul_lt_mul'' h1 h2
theorem nw_mul_le (a b:Nat):nw (a*b)≤nw a+nw b:=nw_le (nw_mul a b)
theorem nw_add_le {a b n:Nat} (ha:nw a≤n) (hb:nw b≤n):nw (a+b)≤n+1:=by
  have h1:a < wB ^ n:=Nat.lt_of_lt_of_le (nw_lt a) (Nat.pow_le_pow_right wB_pos ha)
  have h2:b < wB ^ n:=Nat.lt_of_lt_of_le (nw_lt b) (Nat.pow_le_pow_right wB_pos hb)
  refine nw_le ?_
  rw [Nat.pow_succ,wB_eq]
  rw [wB_eq] at h1 h2
  omega
theorem nw_mono {a b:Nat} (h:a≤b):nw a≤nw b:=nw_le (Nat.lt_of_le_of_lt h (nw_lt b))
end Go.Em

namespace Go.Proofs.YtancjnambbkhmaaGreat
open Go.Gv
open Go.Em (wB wB_pos wB_eq dg dg_lt vl vl_dg nw nw_lt nw_ge nw_le nw_zero dg_zero pw_pos mod_next mT mC mS mC_next mC_zero mC_le dg_W dg_high mT_le nw_mul)

def bmul (x y:Bg):Bg:=(!(x.1==y.1),x.2*y.2)
theorem bv_mul (x y:Bg):bv (bmul x y)=bv x*bv y:=by
  obtain ⟨s,a⟩:=x
  obtain ⟨t,b⟩:=y
  cases s<;>cases t<;>simp [bv,bmul,Int.neg_mul,Int.mul_neg]
theorem mkI8_t {n:Nat} (h:n≤35184372088832):mkI8 (n:Nat)=true:=by
  unfold mkI8
  rw [decide_eq_true (by omega),decide_eq_true (by omega),decide_eq_true (by omega)]
  rfl
/-- The parts of a sum half made. -/
def mY (V W k q:Nat):Int:=if q < k then mI W q else mI V q
section
variable {s t:Bool} {a b N:Nat} (hN:N=nw a+nw b+1) (hs:N≤10000000000000)
include hN hs
theorem mi_leads {i:Nat} (hi:i < nw a):∃ J:Nat,Leads Tryz.prog (.loop (loopAt Tryz.f146 1)) (bmI s (nw a) (mI a) t (nw b) (mI b) N (i:Nat) 0 0 (mI (a % wB ^ i*b))) (.exit 2) (bmI s (nw a) (mI a) t (nw b) (mI b) N (i:Nat) 0 (J:Nat) (mI (a % wB ^ (i+1)*b))):=by
  have hW:a % wB ^ (i+1)*b=a % wB ^ i*b+wB ^ i*dg a i*b:=by rw [mod_next,Nat.add_mul]
  have hlt:a % wB ^ (i+1)*b < wB ^ (i+(nw b+1)):=by
    have h1:=Nat.mod_lt a (pw_pos (i+1))
    have h2:=nw_lt b
    rw [show i+(nw b+1)=i+1+nw b by omega,Nat.pow_add wB (i+1)]
    exact Nat.mul_lt_mul'' h1 h2
  rw [hW] at hlt ⊢
  generalize hV:a % wB ^ i*b=V at *
  have hA:=dg_lt a i
  rw [wB_eq] at hA
  generalize hAe:dg a i=A at *
  generalize hWe:V+wB ^ i*A*b=W at *
  have hcend:mC V A b i (nw b+1)=0:=by
    unfold mC
    refine Nat.div_eq_of_lt (Nat.lt_of_le_of_lt (mT_le V A b i (nw b+1) ?_) ?_)
    · exact Nat.lt_of_lt_of_le (nw_lt b) (Nat.pow_le_pow_right wB_pos (by omega))
    · rw [hWe]; exact hlt
  obtain ⟨J,hJ1,hJ2,hJ3,hJ4⟩:∃ J,nw b≤J∧J≤nw b+1∧mC V A b i J=0∧(J=nw b+1→mC V A b i (nw b)≠0):=by
    by_cases h:mC V A b i (nw b)=0
    · exact ⟨nw b,by omega,by omega,h,fun e=>by omega⟩
    · exact ⟨nw b+1,by omega,by omega,hcend,fun _=>h⟩
  refine ⟨J,?_⟩
  have hfin:mI W=mY V W (i+J):=funext fun q=>by
    unfold mY
    by_cases h:q < i+J
    · rw [if_pos h]
    · rw [if_neg h]
      unfold mI
      rw [← hWe,dg_high V A b i (Nat.lt_of_lt_of_le (nw_lt b) (Nat.pow_le_pow_right wB_pos hJ1)) hJ3 (by omega)]
  have hst:mI V=mY V W (i+0):=funext fun q=>by
    unfold mY
    by_cases h:q < i+0
    · rw [if_pos h]
      unfold mI
      have e:dg W q=dg V q:=by
        rw [← hWe]
        unfold dg
        obtain ⟨d,hd⟩:∃ d,i=q+1+d:=⟨i - (q+1),by omega⟩
        have e2:wB ^ i*A*b=wB ^ q*(wB*(wB ^ d*A*b)):=by
          rw [hd,Nat.pow_add,Nat.pow_succ]; simp only [Nat.mul_assoc]
        rw [e2,Nat.add_mul_div_left _ _ (pw_pos q),Nat.add_mul_mod_self_left]
      rw [e]
    · rw [if_neg h]
  have key:Leads Tryz.prog (.loop (loopAt Tryz.f146 1)) (bmI s (nw a) (mI a) t (nw b) (mI b) N (i:Nat) ((mC V A b i 0:Nat):Int) ((0:Nat):Int) (mY V W (i+0))) (.exit 2) (bmI s (nw a) (mI a) t (nw b) (mI b) N (i:Nat) ((mC V A b i J:Nat):Int) (J:Nat) (mY V W (i+J))):=by
    refine loop_rule (fun j=>bmI s (nw a) (mI a) t (nw b) (mI b) N (i:Nat) ((mC V A b i j:Nat):Int) (j:Nat) (mY V W (i+j))) J (.exit 2) _ (by simp) (fun j hj=>?_) ?_
    · have st:=mi_step s (nw a) (mI a) t (nw b) (mI b) N (i:Nat) ((mC V A b i j:Nat):Int) (j:Nat) (mY V W (i+j))
      have hij:i+j < N:=by omega
      have ew:w64 (((i:Nat):Int)+((j:Nat):Int))=((i+j:Nat):Int):=by rw [w64_id (by omega) (by omega)]; omega
      have eK:miK (i:Nat) (j:Nat)=i+j:=by unfold miK; rw [ew,Int.toNat_natCast]
      have hc:=mC_le V A b i j
      have hdV:=dg_lt V (i+j)
      have hdb:=dg_lt b j
      rw [wB_eq] at hdV hdb
      have eY:mY V W (i+j) (0+(i+j))=((dg V (i+j):Nat):Int):=by
        unfold mY
        rw [if_neg (by omega),Nat.zero_add]
        rfl
      have hAb:A*dg b j≤1000000*1000000:=Nat.mul_le_mul (by omega) (by omega)
      have eS:miS (i:Nat) ((mC V A b i j:Nat):Int) (j:Nat) (mY V W (i+j))=((dg V (i+j)+mC V A b i j:Nat):Int):=by
        unfold miS
        rw [eK,eY,w64_id (by omega) (by omega)]
        omega
      have eN:=mC_next V A b i j
      have eW:dg W (i+j)=mS V A b i j % wB:=by rw [← hWe]; exact dg_W V A b i j
      have hS:mS V A b i j=dg V (i+j)+mC V A b i j+A*dg b j:=rfl
      have out:∀ v:Int,v=((mS V A b i j:Nat):Int)→miT s (nw a) (mI a) t (nw b) (mI b) N (i:Nat) (j:Nat) (mY V W (i+j)) v=some ⟨.normal,bmI s (nw a) (mI a) t (nw b) (mI b) N (i:Nat) ((mC V A b i (j+1):Nat):Int) ((j+1:Nat):Int) (mY V W (i+(j+1))),.any⟩:=fun v hv=>by
        have h1:v.tdiv 1000000=((mC V A b i (j+1):Nat):Int):=by rw [hv,eN]; exact (Int.ofNat_tdiv _ 1000000).symm
        have h2:v.tmod 1000000=((dg W (i+j):Nat):Int):=by rw [hv,eW]; exact (Int.ofNat_tmod _ 1000000).symm
        have hc2:=mC_le V A b i (j+1)
        unfold miT
        rw [eK,ew,ixB_t hij,stU_t hij,h1,w64_id (n:=((mC V A b i (j+1):Nat):Int)) (by omega) (by omega),w64_next (by omega)]
        have e3:miV (i:Nat) (j:Nat) (mY V W (i+j)) v=mY V W (i+(j+1)):=funext fun q=>by
          unfold miV
          rw [eK,h2,Nat.zero_add]
          by_cases hq:q=i+j
          · subst hq
            rw [show (i+j==i+j)=true from BEq.rfl]
            show ((dg W (i+j):Nat):Int)=if i+j < i+(j+1) then mI W (i+j) else mI V (i+j)
            rw [if_pos (by omega)]
            rfl
          · rw [beq_false_of_ne hq]
            show mY V W (i+j) q=_
            unfold mY
            by_cases g:q < i+j
            · rw [if_pos g,if_pos (by omega)]
            · rw [if_neg g,if_neg (by omega)]
        rw [e3]
        rfl
      refine leads_ev (finN_sub _ _) e_nil k_nil noL_ok (st.trans ?_)
      unfold miC
      rw [ew,eK,ixB_t hij,stU_t hij]
      by_cases hjb:j < nw b
      · rw [dec_lt hjb,ixB_t hi,ixB_t hjb,out _ (by
          rw [eS,Int.toNat_natCast,Int.toNat_natCast]
          have e5:mI a i*mI b j=((A*dg b j:Nat):Int):=by unfold mI; rw [hAe]; exact (Int.natCast_mul A (dg b j)).symm
          rw [e5]
          rw [w64_id (n:=((A*dg b j:Nat):Int)) (by omega) (by omega),w64_id (by omega) (by omega),hS]
          omega)]
        rfl
      · have hjn:j=nw b:=by omega
        have hpos:mC V A b i j≠0:=by rw [hjn]; exact hJ4 (by omega)
        have hz:dg b j=0:=dg_zero (by rw [hjn]; exact nw_lt b)
        rw [show decide (((j:Nat):Int) < ((nw b:Nat):Int))=false from decide_eq_false (by omega),decide_eq_true (show ((mC V A b i j:Nat):Int) > 0 by omega),out (miS (i:Nat) ((mC V A b i j:Nat):Int) (j:Nat) (mY V W (i+j))) (by rw [eS,hS,hz]; rfl)]
        rfl
    · refine leads_ev (finE_sub _ _) e_nil k_nil noL_ok ((mi_end s (nw a) (mI a) t (nw b) (mI b) N (i:Nat) ((mC V A b i J:Nat):Int) (J:Nat) (mY V W (i+J))).trans ?_)
      unfold miC
      rw [show decide (((J:Nat):Int) < ((nw b:Nat):Int))=false from decide_eq_false (by omega),hJ3]
      rfl
  rw [← hst,← hfin,hJ3,mC_zero] at key
  exact key
theorem mo_leads:Leads Tryz.prog (.loop (loopAt Tryz.f146 0)) (bmO s (nw a) (mI a) t (nw b) (mI b) N 0 fun _=>0) (.exit 0) (bmO s (nw a) (mI a) t (nw b) (mI b) N (nw a:Nat) (mI (a*b))):=by
  have key:Leads Tryz.prog (.loop (loopAt Tryz.f146 0)) (bmO s (nw a) (mI a) t (nw b) (mI b) N ((0:Nat):Int) (mI (a % wB ^ 0*b))) (.exit 0) (bmO s (nw a) (mI a) t (nw b) (mI b) N (nw a:Nat) (mI (a % wB ^ nw a*b))):=by
    refine loop_rule (fun i=>bmO s (nw a) (mI a) t (nw b) (mI b) N (i:Nat) (mI (a % wB ^ i*b))) (nw a) (.exit 0) _ (by simp) (fun i hi=>?_) ?_
    · obtain ⟨J,inner⟩:=mi_leads (s:=s) (t:=t) hN hs hi
      have hL:LOk Tryz.prog (moL s (nw a) (mI a) t (nw b) (mI b) N (i:Nat) (mI (a % wB ^ i*b)) (J:Nat) (mI (a % wB ^ (i+1)*b))) (loopAt Tryz.f146 0):=lok_at (i:=7) 0 1 (by kernel_rfl) (by kernel_rfl) (toldF_sound inner)
      have st:=mo_step s (nw a) (mI a) t (nw b) (mI b) N (i:Nat) (mI (a % wB ^ i*b)) (J:Nat) (mI (a % wB ^ (i+1)*b))
      rw [dec_lt hi,gate_pos (Sub.refl _),w64_next (by omega)] at st
      exact leads_ev (finN_sub _ _) e_nil k_nil hL st
    · refine leads_ev (finE_sub _ _) e_nil k_nil (lok_none 7) ((mo_end s (nw a) (mI a) t (nw b) (mI b) N (nw a:Nat) _).trans ?_)
      rw [dec_self,cond_false]
  have e0:mI (a % wB ^ 0*b)=fun _=>0:=funext fun q=>by
    rw [Nat.pow_zero,Nat.mod_one,Nat.zero_mul]
    unfold mI
    rw [dg_zero (pw_pos q)]
    rfl
  rw [e0,Nat.mod_eq_of_lt (nw_lt a)] at key
  exact key
end
theorem bm_spec {x y:Bg} (hs:nw x.2+nw y.2≤9000000000000):FSpec Tryz.prog 146 [bgA x,bgA y] (bgA (bmul x y)):=by
  obtain ⟨s,a⟩:=x
  obtain ⟨t,b⟩:=y
  have hs:nw a+nw b≤9000000000000:=hs
  have hL:=lok_at (c:=bodyOf Tryz.f146) (i:=3) 0 2 (by kernel_rfl) (by kernel_rfl) (toldF_sound (keep:=keepMO) (τ:=[some 0,some 1,some 2,some 3]) (mo_leads (s:=s) (t:=t) (a:=a) (b:=b) (N:=nw a+nw b+1) rfl (by omega)))
  refine gspecZ (oneZ_ok (frzK_ok 3)) e_nil (k_cons kS_ok k_nil) m_nil Tryz.func146 (by kernel_rfl) (by kernel_rfl) hL rfl ((mo_ev s (nw a) (mI a) t (nw b) (mI b) (nw a+nw b+1) (mI (a*b)) (nw (a*b)) (mI (a*b))).trans ?_)
  have ew:w64 (w64 (((nw a:Nat):Int)+((nw b:Nat):Int))+1)=((nw a+nw b+1:Nat):Int):=by
    rw [w64_id (n:=((nw a:Nat):Int)+((nw b:Nat):Int)) (by omega) (by omega),w64_id (by omega) (by omega)]; omega
  have hc:FSpec Tryz.prog 157 [sJ (nw a+nw b+1) (mI (a*b))] (sJ (nw (a*b)) (mI (a*b))):=co_spec (a*b) (by omega) (Nat.lt_of_lt_of_le (nw_mul a b) (Nat.pow_le_pow_right wB_pos (by omega)))
  rw [ew,mkI8_t (by omega),Int.toNat_natCast,gate_pos (Sub.refl _),fz1_t,gate_pos hc]
  rfl
end Go.Proofs.YtancjnambbkhmaaGreat

namespace Go.Proofs.YtancjnambbkhmaaGreat
open Go.Gv
open Go.Em (wB wB_pos wB_eq nw nw_lt nw_le nw_zero nw_mul_le nw_add_le nw_mono)

def bgc (u:Bg):List AV:=[bA u.1,msA u.2]
def boG (l:List AV):AV:=bgA (bOf (decI (a0 l)))
def bmG' (l:List AV):AV:=bgA (bmul (decB (a0 l)) (decB (a1 l)))
def baG (l:List AV):AV:=bgA (badd (decB (a0 l)) (decB (a1 l)))
noncomputable def bigK (P:Program):List KEntry:=[kS P 142 boG,kS P 146 bmG',kS P 147 baG]
def keepA6:List Nat:=[0,1,5,6,7]
section
variable (n:Nat) (p:Nat→Int) (x i:Int) (u v:Bg)
def a6m (a b:Bg):Bg:=bmul (decB (bgA a)) (decB (bgA b))
def a6a (a b:Bg):Bg:=badd (decB (bgA a)) (decB (bgA b))
noncomputable def gOf (n:Int) (o:Option Out):Option Out:=gate (FSpec Tryz.prog 142 [iA n] (bgA (bOf n))) o
noncomputable def gMul (a b:Bg) (o:Option Out):Option Out:=gate (FSpec Tryz.prog 146 [bgA a,bgA b] (bgA (a6m a b))) o
noncomputable def gAdd (a b:Bg) (o:Option Out):Option Out:=gate (FSpec Tryz.prog 147 [bgA a,bgA b] (bgA (a6a a b))) o
def a6v:Bg:=a6m v (bOf 65536)
end
end Go.Proofs.YtancjnambbkhmaaGreat

namespace Go.Proofs.YtancjnambbkhmaaGreat
open Go.Gv
open Go.Em (wB wB_pos wB_eq nw nw_lt nw_le nw_zero)

def bpA (n:Nat) (f:Nat→Bg):AV:=.sl 2 n fun i=>bgc (f i)
/-- How many there are without noughts at the end. -/
def btl (f:Nat→Bg) (n:Nat):Nat:=tl (fun i=>bv (f i)) n
theorem bv_zero {x:Bg}:bv x=0 ↔ x.2=0:=by
  obtain ⟨s,a⟩:=x
  cases s<;>simp [bv]
def pcS (n:Nat) (f:Nat→Bg):St:=mkS 23 [(0,bpA n f)] []
section
variable (n:Nat) (f:Nat→Bg)
def pcB:Bool:=cond (decide ((n:Int) > 0)) (((nw (f (w64 ((n:Int) - 1)).toNat).2:Nat):Int)==0) false
theorem pc_step:evC Tryz.prog [] [] noL (loopAt Tryz.f144 0) (pcS n f) (finN [0] []) =
    cond (gTr (decide ((n:Int) > 0)) (w64 ((n:Int) - 1)) n) (cond (pcB n f) (cond (sbB none (some (w64 ((n:Int) - 1))) none n||false) (some ⟨.normal,mkS 23 [(0,.sl 2 (sbN none (some (w64 ((n:Int) - 1))) n) fun i=>bgc (f (sbL none+i)))] [],.any⟩) none) none) none:=by kernel_rfl
theorem pc_end:evC Tryz.prog [] [] noL (loopAt Tryz.f144 0) (pcS n f) (finE [0] []) =
    cond (gTr (decide ((n:Int) > 0)) (w64 ((n:Int) - 1)) n) (cond (pcB n f) (cond (sbB none (some (w64 ((n:Int) - 1))) none n||false) none none) (some ⟨.exit 0,pcS n f,.any⟩)) none:=by kernel_rfl
theorem pc_ev (m:Nat):ev Tryz.prog [] [] (oneL 1 (toldF [0] [] (pcS n f) (.exit 0) (pcS m f))) Tryz.f144 [bpA n f] ret=gate (Sub (pcS n f) (pcS n f)) (some (Out.of (bpA m f))):=by kernel_rfl
end
theorem pc_spec (f:Nat→Bg) {n:Nat} (hn:n≤35184372088832):FSpec Tryz.prog 144 [bpA n f] (bpA (btl f n) f):=by
  have hle:btl f n≤n:=tl_le _ n
  have hz:∀ {a:Nat},((((nw a:Nat):Int)==0)=true ↔ a=0):=fun {a}=>by
    rw [beq_iff_eq]
    constructor
    · intro h; exact nw_eq0.1 (by omega)
    · intro h; rw [h,nw_zero]; rfl
  have key:Leads Tryz.prog (.loop (loopAt Tryz.f144 0)) (pcS (n - 0) f) (.exit 0) (pcS (btl f n) f):=by
    refine loop_rule (fun j=>pcS (n - j) f) (n - btl f n) (.exit 0) _ (by simp) (fun j hj=>?_) ?_
    · obtain ⟨m,hm⟩:∃ m,n - j=m+1:=⟨n - j - 1,by omega⟩
      have e1:n - (j+1)=m:=by omega
      rw [hm,e1]
      have ew:w64 (((m+1:Nat):Int) - 1)=((m:Nat):Int):=by rw [w64_id (by omega) (by omega)]; omega
      have h0:(f m).2=0:=bv_zero.1 (tl_zero (fun i=>bv (f i)) n m (show tl _ n≤m by unfold btl at hj hle; omega) (by omega))
      have st:=pc_step (m+1) f
      have hb:pcB (m+1) f=true:=by
        unfold pcB
        rw [decide_eq_true (show ((m+1:Nat):Int) > 0 by omega),ew,Int.toNat_natCast]
        exact hz.2 h0
      have s1:sbB none (some ((m:Nat):Int)) none (m+1)=true:=by
        unfold sbB
        simp only [Option.getD_some,Option.getD_none]
        rw [decide_eq_true (Int.le_refl _),decide_eq_true (show (0:Int)≤((m:Nat):Int) by omega),decide_eq_true (show ((m:Nat):Int)≤((m+1:Nat):Int) by omega),decide_eq_true (Int.le_refl _)]
        rfl
      have s2:sbN none (some ((m:Nat):Int)) (m+1)=m:=by
        unfold sbN
        simp only [Option.getD_some,Option.getD_none]
        omega
      have s3:(fun i=>bgc (f (sbL none+i)))=fun i=>bgc (f i):=funext fun i=>by
        show bgc (f (0+i))=_
        rw [Nat.zero_add]
      rw [gTr_t hn (by omega),hb,ew,s1,s2,s3] at st
      exact leads_ev (finN_sub [0] []) e_nil k_nil noL_ok st
    · rw [show n - (n - btl f n)=btl f n by omega]
      refine leads_ev (finE_sub [0] []) e_nil k_nil noL_ok ((pc_end (btl f n) f).trans ?_)
      have hb:pcB (btl f n) f=false:=by
        unfold pcB
        by_cases h:btl f n=0
        · rw [h]; rfl
        · have ht:bv (f (btl f n - 1))≠0:=tl_top (fun i=>bv (f i)) n h
          rw [decide_eq_true (show ((btl f n:Nat):Int) > 0 by omega),show w64 ((btl f n:Int) - 1)=((btl f n - 1:Nat):Int) by rw [w64_id (by omega) (by omega)]; omega,Int.toNat_natCast,cond_true]
          cases hh:(((nw (f (btl f n - 1)).2:Nat):Int)==0)
          · rfl
          · exact absurd (bv_zero.2 (hz.1 hh)) ht
      rw [gTr_t hn hle,hb]
      rfl
  refine gspec e_nil k_nil Tryz.func144 (by kernel_rfl) (by kernel_rfl) (lok_at 0 1 (by kernel_rfl) (by kernel_rfl) (toldF_sound key)) rfl ((pc_ev n f (btl f n)).trans ?_)
  rw [gate_pos (Sub.refl _)]
def paS (n:Nat) (f:Nat→Bg) (m:Nat) (g:Nat→Bg) (i:Int) (c:Nat) (el:Nat→List AV):St:=mkS 45 [(0,bpA n f),(1,bpA m g),(5,.osl 0 2 0 c),(6,iA i)] [.a 174 2 c el]
def keepPA:List Nat:=[0,1,5,6]
def decC (l:List AV):Bg:=decB (.agg l)
section
variable (n:Nat) (f:Nat→Bg) (m:Nat) (g:Nat→Bg) (i:Int) (c:Nat) (el:Nat→List AV)
def paN (v:List AV):Option Out:=cond (apB c 32||false) (some ⟨.normal,paS n f m g (w64 (i+1)) (c+1) (fun q=>mixL (Nat.blt q c) (el q) v),.any⟩) none
def paZ:Option Out:=cond (apB c 32||false) none none
noncomputable def paM (x:List AV) (y:List AV→Option Out):Option Out:=cond (decide (i < (m:Int))) (gate (FSpec Tryz.prog 147 [.agg x,bgA (g i.toNat)] (bgA (badd (decC x) (decB (bgA (g i.toNat)))))) (cond ((ixB i m||false)&&true) (y (bgc (badd (decC x) (decB (bgA (g i.toNat)))))) none)) (y x)
noncomputable def paT (y:List AV→Option Out) (z:Option Out):Option Out:=cond (cond (decide (i < (n:Int))) true (decide (i < (m:Int)))) (cond (decide (i < (n:Int))) (cond (ixB i n||false) (paM m g i (bgc (f i.toNat)) y) none) (paM m g i bgZ y)) z
theorem pa_step:evC Tryz.prog [] [kS Tryz.prog 147 baG] noL (loopAt Tryz.f145 0) (paS n f m g i c el) (finN keepPA [some 3])=paT n f m g i (paN n f m g i c el) none:=by kernel_rfl
theorem pa_end:evC Tryz.prog [] [kS Tryz.prog 147 baG] noL (loopAt Tryz.f145 0) (paS n f m g i c el) (finE keepPA [some 0])=paT n f m g i (fun _=>paZ c) (some ⟨.exit 0,paS n f m g i c el,.any⟩):=by kernel_rfl
theorem pa_ev (h:Nat→Bg) (i':Int) (k:Nat) (z:Nat→Bg):evZ Tryz.prog [] [kS Tryz.prog 147 baG,kS Tryz.prog 144 (fun _=>bpA k z)] [] (oneL 3 (toldN keepPA [(5,0,2)] (.a 174 2 0 fun q=>bgc (h q)) [none] (paS n f m g 0 0 fun q=>bgc (h q)) (.exit 0) (paS n f m g i' c fun q=>bgc (h q)))) (oneZ 11 (frzK 0)) Tryz.f145 [bpA n f,bpA m g] ret =
    gate (Sub (paS n f m g 0 0 fun q=>bgc (h q)) (paS n f m g 0 0 fun q=>bgc (h q))) (cond (fz1 c) (gate (FSpec Tryz.prog 144 [bpA c h] (bpA k z)) (some (Out.of (bpA k z)))) none):=by kernel_rfl
end
def pbS (n:Nat) (f:Nat→Bg) (k:Bg) (i:Int) (c:Nat) (el:Nat→List AV):St:=mkS 26 [(0,bpA n f),(3,.own 0 0),(5,.osl 1 2 0 c),(6,iA i)] [.c (bgc k),.a 174 2 c el]
def keepPB:List Nat:=[0,3,5,6]
section
variable (n:Nat) (f:Nat→Bg) (k:Bg) (i:Int) (c:Nat) (el:Nat→List AV)
noncomputable def pbT (y z:Option Out):Option Out:=cond (decide (i < (n:Int))) (gMul (f i.toNat) k (cond ((ixB i n||false)&&true) (cond (apB c 32||false) y none) none)) z
theorem pb_step:evC Tryz.prog [] (bigK Tryz.prog) noL (loopAt Tryz.f149 0) (pbS n f k i c el) (finN keepPB [some 0,some 4])=pbT n f k i c (some ⟨.normal,pbS n f k (w64 (i+1)) (c+1) (fun q=>mixL (Nat.blt q c) (el q) (bgc (a6m (f i.toNat) k))),.any⟩) none:=by kernel_rfl
theorem pb_end:evC Tryz.prog [] (bigK Tryz.prog) noL (loopAt Tryz.f149 0) (pbS n f k i c el) (finE keepPB [some 0,some 1])=pbT n f k i c none (some ⟨.exit 0,pbS n f k i c el,.any⟩):=by kernel_rfl
theorem pb_ev (h:Nat→Bg) (i':Int) (r:Nat) (z:Nat→Bg):evZ Tryz.prog [] (kS Tryz.prog 144 (fun _=>bpA r z)::bigK Tryz.prog) [] (oneL 3 (toldN keepPB [(5,1,2)] (.a 174 2 0 fun q=>bgc (h q)) [some 0,none] (pbS n f k 0 0 fun q=>bgc (h q)) (.exit 0) (pbS n f k i' c fun q=>bgc (h q)))) (oneZ 7 (frzK 1)) Tryz.f149 [bpA n f,bgA k] ret =
    gate (Sub (pbS n f k 0 0 fun q=>bgc (h q)) (pbS n f k 0 0 fun q=>bgc (h q))) (cond (fz1 c) (gate (FSpec Tryz.prog 144 [bpA c h] (bpA r z)) (some (Out.of (bpA r z)))) none):=by kernel_rfl
end
def psS (n:Nat) (f:Nat→Bg) (i:Int) (c:Nat) (el:Nat→List AV):St:=mkS 25 [(0,bpA n f),(3,.osl 0 2 0 c),(4,iA i)] [.a 174 2 c el]
def keepPS:List Nat:=[0,3,4]
section
variable (n:Nat) (f:Nat→Bg) (i:Int) (c:Nat) (el:Nat→List AV)
noncomputable def psT (y z:Option Out):Option Out:=cond (decide (i < (n:Int))) (gOf i (gMul (f i.toNat) (bOf i) (cond ((ixB i n||false)&&true) (cond (apB c 32||false) y none) none))) z
theorem ps_step:evC Tryz.prog [] (bigK Tryz.prog) noL (loopAt Tryz.f170 0) (psS n f i c el) (finN keepPS [some 3])=psT n f i c (some ⟨.normal,psS n f (w64 (i+1)) (c+1) (fun q=>mixL (Nat.blt q c) (el q) (bgc (a6m (f i.toNat) (bOf i)))),.any⟩) none:=by kernel_rfl
theorem ps_end:evC Tryz.prog [] (bigK Tryz.prog) noL (loopAt Tryz.f170 0) (psS n f i c el) (finE keepPS [some 0])=psT n f i c none (some ⟨.exit 0,psS n f i c el,.any⟩):=by kernel_rfl
theorem ps_ev (h:Nat→Bg) (i':Int) (r:Nat) (z:Nat→Bg):evZ Tryz.prog [] (kS Tryz.prog 144 (fun _=>bpA r z)::bigK Tryz.prog) [] (oneL 3 (toldN keepPS [(3,0,2)] (.a 174 2 0 fun q=>bgc (h q)) [none] (psS n f 1 0 fun q=>bgc (h q)) (.exit 0) (psS n f i' c fun q=>bgc (h q)))) (oneZ 7 (frzK 0)) Tryz.f170 [bpA n f] ret =
    gate (Sub (psS n f 1 0 fun q=>bgc (h q)) (psS n f 1 0 fun q=>bgc (h q))) (cond (fz1 c) (gate (FSpec Tryz.prog 144 [bpA c h] (bpA r z)) (some (Out.of (bpA r z)))) none):=by kernel_rfl
end
end Go.Proofs.YtancjnambbkhmaaGreat

namespace Go.Sturm
abbrev Fn:Type:=Rat→Rat

/-- The size of a is at most A. -/
def Ab (a A:Rat):Prop:=-A≤a∧a≤A
theorem Ab.add {a b A B:Rat} (h:Ab a A) (k:Ab b B):Ab (a+b) (A+B):=⟨by grind [Ab],by grind [Ab]⟩
theorem Ab.neg {a A:Rat} (h:Ab a A):Ab (-a) A:=⟨by grind [Ab],by grind [Ab]⟩
theorem Ab.mono {a A B:Rat} (h:Ab a A) (k:A≤B):Ab a B:=⟨by grind [Ab],by grind [Ab]⟩
theorem Ab.nn {a A:Rat} (h:Ab a A):0≤A:=by grind [Ab]
theorem Ab.mul {a b A B:Rat} (h:Ab a A) (k:Ab b B):Ab (a*b) (A*B):=by
  have h1:0≤(A - a)*(B+b):=Rat.mul_nonneg (by grind [Ab]) (by grind [Ab])
  have h2:0≤(A+a)*(B - b):=Rat.mul_nonneg (by grind [Ab]) (by grind [Ab])
  have h3:0≤(A - a)*(B - b):=Rat.mul_nonneg (by grind [Ab]) (by grind [Ab])
  have h4:0≤(A+a)*(B+b):=Rat.mul_nonneg (by grind [Ab]) (by grind [Ab])
  exact ⟨by grind,by grind⟩
theorem ab_self (x:Rat):∃ A,0≤A∧Ab x A:=by
  by_cases h:0≤x
  · exact ⟨x,h,by grind [Ab]⟩
  · exact ⟨-x,by grind,by grind [Ab]⟩
theorem sq_nn (x:Rat):0≤x*x:=by
  by_cases h:0≤x
  · exact Rat.mul_nonneg h h
  · have:=Rat.mul_nonneg (show 0≤-x by grind) (show 0≤-x by grind)
    grind
theorem arch (r:Rat):∃ n:Nat,0 < n∧r≤(n:Rat):=by
  refine ⟨r.ceil.toNat+1,by omega,Rat.le_trans (Rat.le_ceil (x:=r)) ?_⟩
  rw [← Rat.intCast_natCast,Rat.intCast_le_intCast]
  omega

theorem inv_pos {s:Rat} (h:0 < s):∃ i,0 < i∧s*i=1:=by
  have hi:s*s⁻¹=1:=Rat.mul_inv_cancel s (by grind)
  refine ⟨s⁻¹,Decidable.byContradiction fun hh=>?_,hi⟩
  have:=Rat.mul_nonneg (show 0≤-s⁻¹ by grind) (show 0≤s by grind)
  grind
theorem small (c:Rat) {d:Rat} (hd:0 < d):∃ t,0 < t∧t≤1∧c*t < d:=by
  obtain ⟨A,hA,ha⟩:=ab_self c
  obtain ⟨i,hi,e⟩:=inv_pos (show 0 < d+(A+1) by grind)
  have h0:=Rat.mul_pos hd hi
  have e2:d*(d*i)+(A+1)*(d*i)=d:=by
    have:d*(d*i)+(A+1)*(d*i)=d*((d+(A+1))*i):=by grind
    rw [this,e]; grind
  have h1:=Rat.mul_pos hd h0
  generalize d*i=t at *
  refine ⟨t,h0,Decidable.byContradiction fun hh=>?_,?_⟩
  · have:=Rat.mul_pos (show 0 < t - 1 by grind) (show 0 < d+(A+1) by grind)
    grind
  · have:=Rat.mul_le_mul_of_nonneg_right (show c≤A by grind [Ab]) (show 0≤t by grind)
    grind
theorem parts (c:Rat) {d:Rat} (hd:0 < d):∃ (n:Nat) (t:Rat),0 < t∧(1:Rat)≤n∧(n:Rat)*t=1∧c≤(n:Rat)*d:=by
  obtain ⟨i,hi,e⟩:=inv_pos hd
  obtain ⟨n,hn0,hn1⟩:=arch (c*i)
  have hnp:(1:Rat)≤(n:Rat):=by
    have:((1:Nat):Rat)≤(n:Rat):=Rat.natCast_le_natCast.2 hn0
    simpa using this
  obtain ⟨t,ht,et⟩:=inv_pos (show (0:Rat) < n by grind)
  refine ⟨n,t,ht,hnp,et,?_⟩
  have h:=Rat.mul_le_mul_of_nonneg_right hn1 (show 0≤d by grind)
  have e3:c*i*d=c:=by
    have:c*i*d=c*(d*i):=by grind
    rw [this,e]; grind
  rw [e3] at h; exact h
/-- g is the slope of f. -/
def IsD (f g:Fn):Prop:=∀ M:Rat,∃ C:Rat,0≤C∧∀ x y,Ab x M→Ab y M→Ab (f y - f x - (y - x)*g x) (C*((y - x)*(y - x)))
def Bdd (f:Fn):Prop:=∀ M:Rat,∃ K:Rat,0≤K∧∀ x,Ab x M→Ab (f x) K

theorem isD_const (c:Rat):IsD (fun _=>c) (fun _=>0):=fun M=>⟨0,by grind,fun x y _ _=>by
  show Ab (c - c - (y - x)*0) (0*((y - x)*(y - x)))
  exact ⟨by grind,by grind⟩⟩
theorem IsD.add {f f' g g':Fn} (h:IsD f f') (k:IsD g g'):IsD (fun x=>f x+g x) (fun x=>f' x+g' x):=fun M=>by
  obtain ⟨C,hC,h⟩:=h M
  obtain ⟨K,hK,k⟩:=k M
  refine ⟨C+K,by grind,fun x y hx hy=>?_⟩
  have:=(h x y hx hy).add (k x y hx hy)
  have e1:f y+g y - (f x+g x) - (y - x)*(f' x+g' x)=f y - f x - (y - x)*f' x+(g y - g x - (y - x)*g' x):=by grind
  have e2:(C+K)*((y - x)*(y - x))=C*((y - x)*(y - x))+K*((y - x)*(y - x)):=by grind
  rw [e2]
  show Ab (f y+g y - (f x+g x) - (y - x)*(f' x+g' x)) _
  rw [e1]; exact this
theorem IsD.smul {f f':Fn} (c:Rat) (h:IsD f f'):IsD (fun x=>c*f x) (fun x=>c*f' x):=fun M=>by
  obtain ⟨C,hC,h⟩:=h M
  obtain ⟨A,hA,ha⟩:=ab_self c
  refine ⟨A*C,Rat.mul_nonneg hA hC,fun x y hx hy=>?_⟩
  have:=ha.mul (h x y hx hy)
  have e1:c*f y - c*f x - (y - x)*(c*f' x)=c*(f y - f x - (y - x)*f' x):=by grind
  have e2:A*C*((y - x)*(y - x))=A*(C*((y - x)*(y - x))):=by grind
  rw [e2]
  show Ab (c*f y - c*f x - (y - x)*(c*f' x)) _
  rw [e1]; exact this
theorem IsD.xmul {f f':Fn} (h:IsD f f') (hb:Bdd f'):IsD (fun x=>x*f x) (fun x=>f x+x*f' x):=fun M=>by
  obtain ⟨C,hC,h⟩:=h M
  obtain ⟨K,hK,hb⟩:=hb M
  by_cases hM:0≤M
  · refine ⟨M*C+K,by have:=Rat.mul_nonneg hM hC; grind,fun x y hx hy=>?_⟩
    have h1:=hy.mul (h x y hx hy)
    have h2:Ab ((y - x)*(y - x)*f' x) ((y - x)*(y - x)*K):=(show Ab ((y - x)*(y - x)) ((y - x)*(y - x)) from ⟨by have:=sq_nn (y - x); grind,Rat.le_refl⟩).mul (hb x hx)
    have e1:y*f y - x*f x - (y - x)*(f x+x*f' x)=y*(f y - f x - (y - x)*f' x)+(y - x)*(y - x)*f' x:=by grind
    have e2:(M*C+K)*((y - x)*(y - x))=M*(C*((y - x)*(y - x)))+(y - x)*(y - x)*K:=by grind
    rw [e2]
    show Ab (y*f y - x*f x - (y - x)*(f x+x*f' x)) _
    rw [e1]; exact h1.add h2
  · exact ⟨0,by grind,fun x y hx _=>absurd hx.nn hM⟩
theorem IsD.unique {f g g':Fn} (h:IsD f g) (k:IsD f g'):g=g':=by
  have key:∀ {g g':Fn},IsD f g→IsD f g'→∀ x,g x≤g' x:=by
    intro g g' h k x
    obtain ⟨A,hA,ha⟩:=ab_self x
    obtain ⟨C,hC,h⟩:=h (A+1)
    obtain ⟨K,hK,k⟩:=k (A+1)
    refine Decidable.byContradiction fun hn=>?_
    obtain ⟨t,ht,ht1,hs⟩:=small (C+K) (show 0 < g x - g' x by grind)
    have b1:Ab x (A+1):=ha.mono (by grind)
    have b2:Ab (x+t) (A+1):=⟨by grind [Ab],by grind [Ab]⟩
    have h1:=(h x (x+t) b1 b2).1
    have k1:=(k x (x+t) b1 b2).2
    have e:x+t - x=t:=by grind
    rw [e] at h1 k1
    have:=Rat.mul_pos ht (show 0 < g x - g' x - (C+K)*t by grind)
    clear h k hn hs b1 b2 ha
    grind
  exact funext fun x=>Rat.le_antisymm (key h k x) (key k h x)

/-- Polynomials, with their slopes. -/
inductive PD:Fn→Fn→Prop
  | zero:PD (fun _=>0) (fun _=>0)
  | cons (a:Rat) {f g:Fn}:PD f g→PD (fun x=>a+x*f x) (fun x=>f x+x*g x)
def Pol (f:Fn):Prop:=∃ g,PD f g
theorem Pol.zero:Pol (fun _=>0):=⟨_,.zero⟩
theorem Pol.cons (a:Rat) {f:Fn} (h:Pol f):Pol (fun x=>a+x*f x):=by obtain ⟨g,h⟩:=h; exact ⟨_,.cons a h⟩
theorem Pol.ind {P:Fn→Prop} (z:P (fun _=>0)) (c:∀ (a:Rat) {f:Fn},Pol f→P f→P (fun x=>a+x*f x)) {f:Fn} (h:Pol f):P f:=by
  obtain ⟨g,h⟩:=h
  induction h with
  | zero=>exact z
  | cons a h ih=>exact c a ⟨_,h⟩ ih
theorem Pol.bdd {f:Fn} (h:Pol f):Bdd f:=by
  refine h.ind (P:=Bdd) (fun M=>⟨0,by grind,fun x _=>⟨by grind,by grind⟩⟩) fun a f _ ih M=>?_
  obtain ⟨K,hK,ih⟩:=ih M
  obtain ⟨A,hA,ha⟩:=ab_self a
  by_cases hM:0≤M
  · exact ⟨A+M*K,by have:=Rat.mul_nonneg hM hK; grind,fun x hx=>ha.add (hx.mul (ih x hx))⟩
  · exact ⟨0,by grind,fun x hx=>absurd hx.nn hM⟩
theorem Pol.add {f g:Fn} (h:Pol f) (k:Pol g):Pol (fun x=>f x+g x):=by
  refine h.ind (P:=fun f=>∀ {g:Fn},Pol g→Pol (fun x=>f x+g x)) (fun {g} k=>?_) (fun a f hf ih g k=>?_) k
  · rw [show (fun x=>0+g x)=g from funext fun x=>by grind]; exact k
  · refine k.ind (P:=fun g=>Pol (fun x=>a+x*f x+g x)) ?_ fun b g hg _=>?_
    · rw [show (fun x=>a+x*f x+0)=fun x=>a+x*f x from funext fun x=>by grind]; exact hf.cons a
    · rw [show (fun x=>a+x*f x+(b+x*g x))=fun x=>(a+b)+x*(f x+g x) from funext fun x=>by grind]
      exact (ih hg).cons _
theorem Pol.smul {f:Fn} (c:Rat) (h:Pol f):Pol (fun x=>c*f x):=by
  refine h.ind (P:=fun f=>Pol (fun x=>c*f x)) ?_ fun a f _ ih=>?_
  · rw [show (fun _:Rat=>c*0)=fun _=>0 from funext fun x=>by grind]; exact Pol.zero
  · rw [show (fun x=>c*(a+x*f x))=fun x=>c*a+x*(c*f x) from funext fun x=>by grind]
    exact ih.cons _
theorem Pol.const (c:Rat):Pol (fun _=>c):=by
  have:=Pol.zero.cons c
  rwa [show (fun x:Rat=>c+x*0)=fun _=>c from funext fun x=>by grind] at this
theorem Pol.xmul {f:Fn} (h:Pol f):Pol (fun x=>x*f x):=by
  have:=h.cons 0
  rwa [show (fun x:Rat=>0+x*f x)=fun x=>x*f x from funext fun x=>by grind] at this
theorem Pol.mul {f g:Fn} (h:Pol f) (k:Pol g):Pol (fun x=>f x*g x):=by
  refine h.ind (P:=fun f=>Pol (fun x=>f x*g x)) ?_ fun a f _ ih=>?_
  · rw [show (fun x=>0*g x)=fun _=>0 from funext fun x=>by grind]; exact Pol.zero
  · rw [show (fun x=>(a+x*f x)*g x)=fun x=>a*g x+x*(f x*g x) from funext fun x=>by grind]
    exact (k.smul a).add ih.xmul
theorem Pol.sub {f g:Fn} (h:Pol f) (k:Pol g):Pol (fun x=>f x - g x):=by
  have:=h.add (k.smul (-1))
  rwa [show (fun x=>f x+-1*g x)=fun x=>f x - g x from funext fun x=>by grind] at this
theorem PD.pol {f g:Fn} (h:PD f g):Pol g:=by
  induction h with
  | zero=>exact Pol.zero
  | cons a h ih=>exact (show Pol _ from ⟨_,h⟩).add ih.xmul
theorem PD.isD {f g:Fn} (h:PD f g):IsD f g:=by
  induction h with
  | zero=>exact isD_const 0
  | cons a h ih =>
    rename_i f g
    have:=(isD_const a).add (ih.xmul h.pol.bdd)
    rwa [show (fun x=>0+(f x+x*g x))=fun x=>f x+x*g x from funext fun x=>by grind] at this
/-- The slope. -/
noncomputable def D (f:Fn):Fn:=open Classical in if h:Pol f then h.choose else fun _=>0
theorem D_pd {f:Fn} (h:Pol f):PD f (D f):=by unfold D; rw [dif_pos h]; exact h.choose_spec
theorem D_isD {f:Fn} (h:Pol f):IsD f (D f):=(D_pd h).isD
theorem Pol.D {f:Fn} (h:Pol f):Pol (D f):=(D_pd h).pol
theorem D_eq {f g:Fn} (h:Pol f) (k:IsD f g):D f=g:=(D_isD h).unique k
theorem D_const (c:Rat):D (fun _=>c)=fun _=>0:=D_eq (Pol.const c) (isD_const c)
theorem D_add {f g:Fn} (h:Pol f) (k:Pol g):D (fun x=>f x+g x)=fun x=>D f x+D g x:=D_eq (h.add k) ((D_isD h).add (D_isD k))
theorem D_smul {f:Fn} (c:Rat) (h:Pol f):D (fun x=>c*f x)=fun x=>c*D f x:=D_eq (h.smul c) ((D_isD h).smul c)
theorem D_xmul {f:Fn} (h:Pol f):D (fun x=>x*f x)=fun x=>f x+x*D f x:=D_eq h.xmul ((D_isD h).xmul h.D.bdd)
theorem D_cons (a:Rat) {f:Fn} (h:Pol f):D (fun x=>a+x*f x)=fun x=>f x+x*D f x:=by
  rw [D_add (Pol.const a) h.xmul,D_const,D_xmul h]
  exact funext fun x=>by grind
theorem D_mul {f g:Fn} (h:Pol f) (k:Pol g):D (fun x=>f x*g x)=fun x=>D f x*g x+f x*D g x:=by
  refine h.ind (P:=fun f=>D (fun x=>f x*g x)=fun x=>D f x*g x+f x*D g x) ?_ fun a f hf ih=>?_
  · rw [D_const,show (fun x=>0*g x)=fun _=>0 from funext fun x=>by grind,D_const]
    exact funext fun x=>by grind
  · rw [show (fun x=>(a+x*f x)*g x)=fun x=>a*g x+x*(f x*g x) from funext fun x=>by grind,D_add (k.smul a) (hf.mul k).xmul,D_smul a k,D_xmul (hf.mul k),ih,D_cons a hf]
    exact funext fun x=>by grind
theorem ab_between {a b x A B:Rat} (ha:Ab a A) (hb:Ab b B) (h1:a≤x) (h2:x≤b):Ab x (A+B):=by
  have:=ha.nn
  have:=hb.nn
  exact ⟨by grind [Ab],by grind [Ab]⟩
theorem mono {f:Fn} (hf:Pol f) {a b:Rat} (hab:a≤b) (hg:∀ x,a≤x→x≤b→0≤D f x):f a≤f b:=by
  obtain ⟨A,hA,ha⟩:=ab_self a
  obtain ⟨B,hB,hb⟩:=ab_self b
  obtain ⟨C,hC,h⟩:=D_isD hf (A+B)
  refine Decidable.byContradiction fun hn=>?_
  obtain ⟨n,t,ht,hnp,hi,hn2⟩:=parts (C*((b - a)*(b - a))+1) (show 0 < f a - f b by grind)
  have hw:0≤(b - a)*t:=Rat.mul_nonneg (by grind) (by grind)
  have step : ∀ k:Nat,k≤n→f a - (k:Rat)*(C*((b - a)*t*((b - a)*t)))≤f (a+(k:Rat)*((b - a)*t)):=by
    intro k
    induction k with
    | zero => intro _; have e:a+((0:Nat):Rat)*((b - a)*t)=a:=by simp; grind
              rw [e]; simp; grind
    | succ k ih =>
      intro hk
      have ih:=ih (by omega)
      have hk1:((k:Nat):Rat)+1≤(n:Rat):=by
        have:((k+1:Nat):Rat)≤(n:Rat):=Rat.natCast_le_natCast.2 hk
        simpa using this
      have hk0:(0:Rat)≤(k:Rat):=by
        have:((0:Nat):Rat)≤(k:Rat):=Rat.natCast_le_natCast.2 (Nat.zero_le _)
        simpa using this
      have ec:((k+1:Nat):Rat)=(k:Rat)+1:=by simp
      rw [ec]
      have l0:0≤(k:Rat)*((b - a)*t):=Rat.mul_nonneg hk0 hw
      have l1:((k:Rat)+1)*((b - a)*t)≤b - a:=by
        have:=Rat.mul_le_mul_of_nonneg_right hk1 hw
        have:(n:Rat)*((b - a)*t)=b - a:=by grind
        grind
      generalize hx:a+(k:Rat)*((b - a)*t)=x at ih
      have ey:a+((k:Rat)+1)*((b - a)*t)=x+(b - a)*t:=by grind
      rw [ey]
      have hx1:a≤x:=by grind
      have hy1:x+(b - a)*t≤b:=by grind
      have:=(h x (x+(b - a)*t) (ab_between ha hb hx1 (by grind)) (ab_between ha hb (by grind) hy1)).1
      have hp:=Rat.mul_nonneg hw (hg x hx1 (by grind))
      grind
  have fin:=step n (Nat.le_refl _)
  have e1:a+(n:Rat)*((b - a)*t)=b:=by grind
  rw [e1] at fin
  have e2:(n:Rat)*(C*((b - a)*t*((b - a)*t)))=C*((b - a)*(b - a))*t:=by grind
  rw [e2] at fin
  have:=Rat.mul_le_mul_of_nonneg_left (show f a - f b≤C*((b - a)*(b - a))*t by grind) (show (0:Rat)≤n by grind)
  have e3:(n:Rat)*(C*((b - a)*(b - a))*t)=C*((b - a)*(b - a)):=by grind
  grind
theorem mono_lt {f:Fn} (hf:Pol f) {a b:Rat} (hab:a < b) (hg:∀ x,a≤x→x≤b→0 < D f x):f a < f b:=by
  obtain ⟨A,hA,ha⟩:=ab_self a
  obtain ⟨B,hB,hb⟩:=ab_self b
  obtain ⟨C,hC,h⟩:=D_isD hf (A+B)
  have ga:=hg a (by grind) (by grind)
  obtain ⟨t,ht,ht1,hs⟩:=small (C*(b - a)) ga
  have hw:0 < (b - a)*t:=Rat.mul_pos (by grind) ht
  have hw1:(b - a)*t≤b - a:=by
    have:=Rat.mul_le_mul_of_nonneg_left ht1 (show 0≤b - a by grind)
    grind
  have h1:=(h a (a+(b - a)*t) (ab_between ha hb (by grind) (by grind)) (ab_between ha hb (by grind) (by grind))).1
  have h2:=mono hf (show a+(b - a)*t≤b by grind) fun x h1 h2=>Rat.le_of_lt (hg x (by grind) h2)
  have h3:C*((b - a)*t) < D f a:=by grind
  have h4:=Rat.mul_pos hw (show 0 < D f a - C*((b - a)*t) by grind)
  grind
theorem lip {f:Fn} (hf:Pol f) (M:Rat):∃ K,0≤K∧∀ x y,Ab x M→Ab y M→x≤y→Ab (f y - f x) (K*(y - x)):=by
  obtain ⟨C,hC,h⟩:=D_isD hf M
  obtain ⟨B,hB,hb⟩:=hf.D.bdd M
  by_cases hM:0≤M
  · refine ⟨B+C*(2*M),by have:=Rat.mul_nonneg hC (show 0≤2*M by grind); grind,fun x y hx hy hxy=>?_⟩
    have h1:=h x y hx hy
    have h2:Ab ((y - x)*D f x) ((y - x)*B):=(show Ab (y - x) (y - x) from ⟨by grind,Rat.le_refl⟩).mul (hb x hx)
    have h3:=(h1.add h2).mono (B:=(B+C*(2*M))*(y - x)) (by
      have:y - x≤2*M:=by grind [Ab]
      have:=Rat.mul_le_mul_of_nonneg_left this (show 0≤C*(y - x) from Rat.mul_nonneg hC (by grind))
      grind)
    rwa [show f y - f x - (y - x)*D f x+(y - x)*D f x=f y - f x by grind] at h3
  · exact ⟨0,by grind,fun x y hx _ _=>absurd hx.nn hM⟩
/-- A polynomial is near its values near by: from above. -/
theorem lim_right {f:Fn} (hf:Pol f) {a b c:Rat} (hab:a < b) (h:∀ w,a < w→w≤b→f w≤c):f a≤c:=by
  obtain ⟨A,hA,ha⟩:=ab_self a
  obtain ⟨B,hB,hb⟩:=ab_self b
  obtain ⟨K,hK,hl⟩:=lip hf (A+B)
  refine Decidable.byContradiction fun hn=>?_
  obtain ⟨t,ht,ht1,hs⟩:=small (K*(b - a)) (show 0 < f a - c by grind)
  have hw:0 < (b - a)*t:=Rat.mul_pos (by grind) ht
  have hw1:(b - a)*t≤b - a:=by
    have:=Rat.mul_le_mul_of_nonneg_left ht1 (show 0≤b - a by grind)
    grind
  have h1:=(hl a (a+(b - a)*t) (ab_between ha hb (by grind) (by grind)) (ab_between ha hb (by grind) (by grind)) (by grind)).1
  have h2:=h (a+(b - a)*t) (by grind) (by grind)
  have h3:K*((b - a)*t)=K*(b - a)*t:=by grind
  clear hl h hn hb ha
  grind
theorem lim_left {f:Fn} (hf:Pol f) {a b c:Rat} (hab:a < b) (h:∀ w,a≤w→w < b→f w≤c):f b≤c:=by
  obtain ⟨A,hA,ha⟩:=ab_self a
  obtain ⟨B,hB,hb⟩:=ab_self b
  obtain ⟨K,hK,hl⟩:=lip hf (A+B)
  refine Decidable.byContradiction fun hn=>?_
  obtain ⟨t,ht,ht1,hs⟩:=small (K*(b - a)) (show 0 < f b - c by grind)
  have hw:0 < (b - a)*t:=Rat.mul_pos (by grind) ht
  have hw1:(b - a)*t≤b - a:=by
    have:=Rat.mul_le_mul_of_nonneg_left ht1 (show 0≤b - a by grind)
    grind
  have h1:=(hl (b - (b - a)*t) b (ab_between ha hb (by grind) (by grind)) (ab_between ha hb (by grind) (by grind)) (by grind)).2
  have h2:=h (b - (b - a)*t) (by grind) (by grind)
  have h3:K*((b - a)*t)=K*(b - a)*t:=by grind
  clear hl h hn hb ha
  grind
end Go.Sturm

namespace Go.Sturm

structure Nest where
  u:Nat→Rat
  v:Nat→Rat
  up:∀ n,u n≤u (n+1)
  down:∀ n,v (n+1)≤v n
  lt:∀ n,u n < v n
  sm:∀ e:Rat,0 < e→∃ n,v n - u n < e
namespace Nest
variable (N:Nest)
def In (n:Nat) (x:Rat):Prop:=N.u n≤x∧x≤N.v n
theorem u_le {m n:Nat} (h:m≤n):N.u m≤N.u n:=by
  induction h with
  | refl=>exact Rat.le_refl
  | step _ ih=>exact Rat.le_trans ih (N.up _)
theorem v_le {m n:Nat} (h:m≤n):N.v n≤N.v m:=by
  induction h with
  | refl=>exact Rat.le_refl
  | step _ ih=>exact Rat.le_trans (N.down _) ih
theorem u_lt_v (m n:Nat):N.u m < N.v n:=by
  have h1:=N.u_le (Nat.le_max_left m n)
  have h2:=N.v_le (Nat.le_max_right m n)
  have:=N.lt (max m n)
  grind
theorem In.mono {m n:Nat} (h:m≤n) {x:Rat} (hx:N.In n x):N.In m x:=by
  have h1:=N.u_le h
  have h2:=N.v_le h
  obtain ⟨a,b⟩:=hx
  exact ⟨by grind,by grind⟩
theorem in_u {m n:Nat} (h:m≤n):N.In m (N.u n):=⟨N.u_le h,Rat.le_of_lt (N.u_lt_v n m)⟩
theorem in_v {m n:Nat} (h:m≤n):N.In m (N.v n):=⟨Rat.le_of_lt (N.u_lt_v m n),N.v_le h⟩
theorem bnd:∃ M,∀ x,N.In 0 x→Ab x M:=by
  obtain ⟨A,hA,ha⟩:=ab_self (N.u 0)
  obtain ⟨B,hB,hb⟩:=ab_self (N.v 0)
  exact ⟨A+B,fun x hx=>ab_between ha hb hx.1 hx.2⟩
/-- Nought there. -/
def Zr (f:Fn):Prop:=∀ e:Rat,0 < e→∃ n,∀ x,N.In n x→Ab (f x) e
/-- Above nought there. -/
def Ps (f:Fn):Prop:=∃ c:Rat,0 < c∧∃ n,∀ x,N.In n x→c≤f x
/-- Left of it, right of it. -/
def Lf (x:Rat):Prop:=∃ n,x < N.u n
def Rt (x:Rat):Prop:=∃ n,N.v n < x
variable {N}
theorem tri {f:Fn} (hf:Pol f):N.Zr f∨N.Ps f∨N.Ps (fun x=>-f x):=by
  by_cases h1:N.Ps f
  · exact Or.inr (Or.inl h1)
  by_cases h2:N.Ps (fun x=>-f x)
  · exact Or.inr (Or.inr h2)
  left
  intro e he
  obtain ⟨M,hM⟩:=N.bnd
  obtain ⟨K,hK,hl⟩:=lip hf M
  obtain ⟨i,hi,ei⟩:=inv_pos (show 0 < K+1 by grind)
  have he4:0 < e*i:=Rat.mul_pos he hi
  obtain ⟨n,hn⟩:=N.sm (e*i / 4) (by grind)
  have near:∀ x,N.In n x→Ab (f x - f (N.u n)) (e / 4):=fun x hx=>by
    have hx0:=hx.mono N (Nat.zero_le n)
    have:=hl (N.u n) x (hM _ (N.in_u (Nat.zero_le n))) (hM _ hx0) hx.1
    refine this.mono ?_
    have h3:x - N.u n≤e*i / 4:=by have:=hx.2; grind
    have h4:=Rat.mul_le_mul_of_nonneg_left h3 hK
    have h5:K*(e*i / 4)≤(K+1)*(e*i / 4):=by grind
    have h6:(K+1)*(e*i / 4)=e*((K+1)*i) / 4:=by grind
    rw [ei] at h6
    grind
  refine ⟨n,fun x hx=>?_⟩
  have a1:f (N.u n)≤e / 2:=Decidable.byContradiction fun hh=>h1 ⟨e / 4,by grind,n,fun y hy=>by
    have:=(near y hy).1
    grind⟩
  have a2:-(e / 2)≤f (N.u n):=Decidable.byContradiction fun hh=>h2 ⟨e / 4,by grind,n,fun y hy=>by
    have:=(near y hy).2
    show e / 4≤-f y
    grind⟩
  have:=near x hx
  exact ⟨by grind [Ab],by grind [Ab]⟩
theorem Zr.not_Ps {f:Fn} (h:N.Zr f):¬ N.Ps f:=fun ⟨c,hc,n,hp⟩=>by
  obtain ⟨m,hm⟩:=h (c / 2) (by grind)
  have h1:=hp (N.u (max m n)) (N.in_u (Nat.le_max_right m n))
  have h2:=(hm (N.u (max m n)) (N.in_u (Nat.le_max_left m n))).2
  grind
theorem Ps.not_neg {f:Fn} (h:N.Ps f):¬ N.Ps (fun x=>-f x):=fun ⟨c,hc,n,hp⟩=>by
  obtain ⟨d,hd,m,hq⟩:=h
  have h1:=hp (N.u (max m n)) (N.in_u (Nat.le_max_right m n))
  have h2:=hq (N.u (max m n)) (N.in_u (Nat.le_max_left m n))
  grind
theorem Zr.neg {f:Fn} (h:N.Zr f):N.Zr (fun x=>-f x):=fun e he=>by
  obtain ⟨n,h⟩:=h e he
  exact ⟨n,fun x hx=>(h x hx).neg⟩
theorem Zr.add {f g:Fn} (h:N.Zr f) (k:N.Zr g):N.Zr (fun x=>f x+g x):=fun e he=>by
  obtain ⟨n,h⟩:=h (e / 2) (by grind)
  obtain ⟨m,k⟩:=k (e / 2) (by grind)
  refine ⟨max n m,fun x hx=>?_⟩
  have:=(h x (hx.mono N (Nat.le_max_left n m))).add (k x (hx.mono N (Nat.le_max_right n m)))
  rwa [show e / 2+e / 2=e by grind] at this
theorem Zr.mul {f g:Fn} (h:N.Zr f) (hg:Pol g):N.Zr (fun x=>f x*g x):=fun e he=>by
  obtain ⟨M,hM⟩:=N.bnd
  obtain ⟨K,hK,hb⟩:=hg.bdd M
  obtain ⟨i,hi,ei⟩:=inv_pos (show 0 < K+1 by grind)
  obtain ⟨n,h⟩:=h (e*i) (Rat.mul_pos he hi)
  refine ⟨n,fun x hx=>((h x hx).mul (hb x (hM x (hx.mono N (Nat.zero_le n))))).mono ?_⟩
  have h1:e*i*K=e*((K+1)*i) - e*i:=by grind
  rw [ei] at h1
  have:=Rat.mul_pos he hi
  grind
theorem Zr.smul {f:Fn} (c:Rat) (h:N.Zr f):N.Zr (fun x=>c*f x):=by
  have:=h.mul (Pol.const c)
  rwa [show (fun x=>f x*c)=fun x=>c*f x from funext fun x=>by grind] at this
theorem zr_zero:N.Zr (fun _=>0):=fun e he=>⟨0,fun _ _=>⟨by grind,by grind⟩⟩
theorem Ps.add {f g:Fn} (h:N.Ps f) (k:N.Ps g):N.Ps (fun x=>f x+g x):=by
  obtain ⟨c,hc,n,h⟩:=h
  obtain ⟨d,hd,m,k⟩:=k
  refine ⟨c,hc,max n m,fun x hx=>?_⟩
  have h1:=h x (hx.mono N (Nat.le_max_left n m))
  have h2:=k x (hx.mono N (Nat.le_max_right n m))
  show c≤f x+g x
  grind
theorem Ps.smul {f:Fn} {c:Rat} (hc:0 < c) (h:N.Ps f):N.Ps (fun x=>c*f x):=by
  obtain ⟨d,hd,n,h⟩:=h
  exact ⟨c*d,Rat.mul_pos hc hd,n,fun x hx=>Rat.mul_le_mul_of_nonneg_left (h x hx) (by grind)⟩
theorem Ps.mul {f g:Fn} (h:N.Ps f) (k:N.Ps g):N.Ps (fun x=>f x*g x):=by
  obtain ⟨c,hc,n,h⟩:=h
  obtain ⟨d,hd,m,k⟩:=k
  refine ⟨c*d,Rat.mul_pos hc hd,max n m,fun x hx=>?_⟩
  have h1:=h x (hx.mono N (Nat.le_max_left n m))
  have h2:=k x (hx.mono N (Nat.le_max_right n m))
  have h3:=Rat.mul_le_mul_of_nonneg_left h2 (show 0≤c by grind)
  have h4:=Rat.mul_le_mul_of_nonneg_right h1 (show 0≤g x by grind)
  exact Rat.le_trans h3 h4
theorem zr_mul {f g:Fn} (hf:Pol f) (hg:Pol g) (h:N.Zr (fun x=>f x*g x)):N.Zr f∨N.Zr g:=by
  rcases tri (N:=N) hf with h1 | h1 | h1
  · exact Or.inl h1
  all_goals rcases tri (N:=N) hg with h2 | h2 | h2
  · exact Or.inr h2
  · exact absurd (h1.mul h2) h.not_Ps
  · have:=h1.mul h2
    rw [show (fun x=>f x*-g x)=fun x=>-(f x*g x) from funext fun x=>by grind] at this
    exact absurd this h.neg.not_Ps
  · exact Or.inr h2
  · have:=h1.mul h2
    rw [show (fun x=>-f x*g x)=fun x=>-(f x*g x) from funext fun x=>by grind] at this
    exact absurd this h.neg.not_Ps
  · have:=h1.mul h2
    rw [show (fun x=>-f x*-g x)=fun x=>f x*g x from funext fun x=>by grind] at this
    exact absurd this h.not_Ps
/-- What is nought at a place that is no nest's inner point but a rational. -/
theorem Zr.at {f:Fn} (h:N.Zr f) {x:Rat} (hx:∀ n,N.In n x):f x=0:=by
  refine Rat.le_antisymm (Decidable.byContradiction fun hh=>?_) (Decidable.byContradiction fun hh=>?_)
  · obtain ⟨n,hn⟩:=h (f x / 2) (by grind)
    have:=(hn x (hx n)).2
    grind
  · obtain ⟨n,hn⟩:=h (-f x / 2) (by grind)
    have:=(hn x (hx n)).1
    grind
theorem right_pos {f:Fn} (hf:Pol f) {k:Nat} (hz:N.Zr f) (hd:∀ x,N.In k x→N.Rt x→0 < D f x) (x:Rat) (hx:N.In k x) (hr:N.Rt x):0 < f x:=by
  refine Decidable.byContradiction fun hn=>?_
  obtain ⟨m,hm⟩:=hr
  have hm':N.v (max m k) < x:=by have:=N.v_le (Nat.le_max_left m k); grind
  generalize hK:max m k=K at hm'
  have hkK:k≤K:=by omega
  have hz1:N.v K < (N.v K+x) / 2∧(N.v K+x) / 2 < x:=by grind
  generalize (N.v K+x) / 2=z at hz1
  have inK:∀ w,N.v K≤w→w≤x→N.In k w:=fun w h1 h2=>by
    have:=N.u_lt_v k K
    exact ⟨by grind,by have:=hx.2; grind⟩
  have h1:f z < f x:=mono_lt hf hz1.2 fun w h1 h2=>hd w (inK w (by grind) h2) ⟨K,by grind⟩
  have low:∀ j,K≤j→f (N.v j)≤f z:=fun j hj=>by
    have hvj:=N.v_le hj
    refine lim_right hf (b:=z) (by grind) fun w h1 h2=>?_
    refine mono hf h2 fun y h3 h4=>Rat.le_of_lt (hd y ?_ ⟨j,by grind⟩)
    have:=N.u_lt_v k j
    have:=hx.2
    exact ⟨by grind,by grind⟩
  obtain ⟨j,hj⟩:=hz (-f z) (by grind)
  have h2:=low (max j K) (Nat.le_max_right j K)
  obtain ⟨t,ht⟩:=hz (-f z / 2) (by grind)
  have h3:=(ht (N.v (max t K)) (N.in_v (Nat.le_max_left t K))).1
  have h4:=low (max t K) (Nat.le_max_right t K)
  clear hj h2 hd inK low
  grind
theorem left_pos {f:Fn} (hf:Pol f) {k:Nat} (hz:N.Zr f) (hd:∀ x,N.In k x→N.Lf x→D f x < 0) (x:Rat) (hx:N.In k x) (hr:N.Lf x):0 < f x:=by
  refine Decidable.byContradiction fun hn=>?_
  obtain ⟨m,hm⟩:=hr
  have hm':x < N.u (max m k):=by have:=N.u_le (Nat.le_max_left m k); grind
  generalize hK:max m k=K at hm'
  have hkK:k≤K:=by omega
  have hz1:x < (N.u K+x) / 2∧(N.u K+x) / 2 < N.u K:=by grind
  generalize (N.u K+x) / 2=z at hz1
  have inK:∀ w,x≤w→w≤N.u K→N.In k w:=fun w h1 h2=>by
    have:=N.u_lt_v K k
    exact ⟨by have:=hx.1; grind,by grind⟩
  have hng:Pol (fun x=>-1*f x):=hf.smul (-1)
  have hdn:∀ w,D (fun x=>-1*f x) w=-D f w:=fun w=>by rw [D_smul (-1) hf]; grind
  have h1:-1*f x < -1*f z:=mono_lt hng hz1.1 fun w h1 h2=>by
    rw [hdn]
    have:=hd w (inK w h1 (by grind)) ⟨K,by grind⟩
    grind
  have low:∀ j,K≤j→f (N.u j)≤f z:=fun j hj=>by
    have hvj:=N.u_le hj
    refine lim_left hf (a:=z) (by grind) fun w h1 h2=>?_
    have h5:-1*f z≤-1*f w:=mono hng h1 fun y h3 h4=>by
      have:=N.u_lt_v j k
      have h6:=hd y ⟨by have:=hx.1; grind,by grind⟩ ⟨j,by grind⟩
      rw [hdn]; grind
    grind
  obtain ⟨t,ht⟩:=hz (-f z / 2) (by grind)
  have h3:=(ht (N.u (max t K)) (N.in_u (Nat.le_max_left t K))).1
  have h4:=low (max t K) (Nat.le_max_right t K)
  clear hd inK low
  grind
end Nest
end Go.Sturm

namespace Go.Sturm

/-- The slope's slope, and so on. -/
noncomputable def Dk:Nat→Fn→Fn
  | 0,f=>f
  | k+1,f=>Dk k (D f)
theorem Pol.Dk {f:Fn} (h:Pol f):∀ k,Pol (Dk k f)
  | 0=>h
  | k+1=>Pol.Dk h.D k
theorem Dk_succ (f:Fn):∀ k,Dk (k+1) f=D (Dk k f)
  | 0=>rfl
  | k+1=>Dk_succ (D f) k
theorem Dk_add {f g:Fn} (h:Pol f) (k:Pol g):∀ n,Dk n (fun x=>f x+g x)=fun x=>Dk n f x+Dk n g x
  | 0=>rfl
  | n+1=>by show Dk n (D _)=_; rw [D_add h k]; exact Dk_add h.D k.D n
theorem Dk_smul {f:Fn} (c:Rat) (h:Pol f):∀ n,Dk n (fun x=>c*f x)=fun x=>c*Dk n f x
  | 0=>rfl
  | n+1=>by show Dk n (D _)=_; rw [D_smul c h]; exact Dk_smul c h.D n
theorem Dk_zero:∀ n,Dk n (fun _=>0)=fun _=>0
  | 0=>rfl
  | n+1=>by show Dk n (D _)=_; rw [D_const]; exact Dk_zero n
theorem neg_smul (f:Fn):(fun x=>-f x)=fun x=>-1*f x:=funext fun x=>by grind
theorem Pol.neg {f:Fn} (h:Pol f):Pol (fun x=>-f x):=by rw [neg_smul]; exact h.smul _
theorem D_neg {f:Fn} (h:Pol f):D (fun x=>-f x)=fun x=>-D f x:=by rw [neg_smul,D_smul _ h,neg_smul]
theorem Dk_neg {f:Fn} (h:Pol f) (n:Nat):Dk n (fun x=>-f x)=fun x=>-Dk n f x:=by rw [neg_smul,Dk_smul _ h,neg_smul]
/-- All slopes end. -/
theorem pol_ends {f:Fn} (h:Pol f):∃ k,Dk k f=fun _=>0:=by
  have key:∀ k f,Pol f→Dk k f=(fun _=>0)→Dk (k+1) (fun x=>x*f x)=fun _=>0:=by
    intro k
    induction k with
    | zero =>
      intro f hf h
      have e:f=fun _=>0:=h
      rw [e,show (fun x:Rat=>x*0)=fun _=>0 from funext fun x=>by grind]
      exact Dk_zero 1
    | succ k ih =>
      intro f hf h
      show Dk (k+1) (D fun x=>x*f x)=_
      rw [D_xmul hf,Dk_add hf hf.D.xmul,ih (D f) hf.D h,h]
      exact funext fun x=>by grind
  refine h.ind (P:=fun f=>∃ k,Dk k f=fun _=>0) ⟨0,rfl⟩ fun a f hf ⟨k,hk⟩=>?_
  refine ⟨k+1,?_⟩
  rw [Dk_add (Pol.const a) hf.xmul,key k f hf hk]
  show (fun x=>Dk k (D fun _=>a) x+0)=_
  rw [D_const,Dk_zero]
  exact funext fun x=>by grind
theorem const_of {f:Fn} (hf:Pol f) (h:D f=fun _=>0) (x y:Rat):f x=f y:=by
  have key:∀ {f:Fn},Pol f→D f=(fun _=>0)→∀ a b:Rat,a≤b→f a≤f b:=fun hf h a b hab=>mono hf hab fun x _ _=>by rw [h]; grind
  have two:∀ a b:Rat,a≤b→f a=f b:=fun a b hab=>by
    have h1:=key hf h a b hab
    have h2:=key hf.neg (by rw [D_neg hf,h]; exact funext fun _=>by grind) a b hab
    grind
  by_cases hxy:x≤y
  · exact two x y hxy
  · exact (two y x (by grind)).symm
namespace Nest
variable {N:Nest}
/-- Nought there at least m times. -/
def Om (N:Nest) (f:Fn) (m:Nat):Prop:=∀ j,j < m→N.Zr (Dk j f)
theorem Om.D {f:Fn} {m:Nat} (h:N.Om f (m+1)):N.Om (D f) m:=fun j hj=>h (j+1) (by omega)
theorem om_succ {f:Fn} {m:Nat} (h:N.Zr f) (k:N.Om (D f) m):N.Om f (m+1)
  | 0,_=>h
  | j+1,hj=>k j (by omega)
theorem Om.le {f:Fn} {m n:Nat} (h:N.Om f m) (k:n≤m):N.Om f n:=fun j hj=>h j (by omega)
theorem Om.add {f g:Fn} (hf:Pol f) (hg:Pol g) {m:Nat} (h:N.Om f m) (k:N.Om g m):N.Om (fun x=>f x+g x) m:=fun j hj=>by
  rw [Dk_add hf hg]; exact (h j hj).add (k j hj)
theorem Om.smul {f:Fn} (c:Rat) (hf:Pol f) {m:Nat} (h:N.Om f m):N.Om (fun x=>c*f x) m:=fun j hj=>by
  rw [Dk_smul c hf]; exact (h j hj).smul c
theorem om_of_smul {f:Fn} {c:Rat} (hc:c≠0) (hf:Pol f) {m:Nat} (h:N.Om (fun x=>c*f x) m):N.Om f m:=by
  have:=h.smul (c⁻¹) (hf.smul c)
  rwa [show (fun x=>c⁻¹*(c*f x))=f from funext fun x=>by
    have:c⁻¹*(c*f x)=c*c⁻¹*f x:=by grind
    rw [this,Rat.mul_inv_cancel c hc]; grind] at this
theorem Om.mul:∀ {m:Nat} {f g:Fn},Pol f→Pol g→N.Om f m→N.Om (fun x=>f x*g x) m
  | 0,_,_,_,_,_=>fun j hj=>by omega
  | m+1,f,g,hf,hg,h=>by
    refine om_succ ((h 0 (by omega)).mul hg) ?_
    rw [D_mul hf hg]
    exact Om.add (hf.D.mul hg) (hf.mul hg.D) (Om.mul hf.D hg h.D) (Om.mul hf hg.D (h.le (by omega)))
theorem Om.mul_r {m:Nat} {f g:Fn} (hf:Pol f) (hg:Pol g) (h:N.Om g m):N.Om (fun x=>f x*g x) m:=by
  have:=Om.mul hg hf h
  rwa [show (fun x=>g x*f x)=fun x=>f x*g x from funext fun x=>by grind] at this
theorem Om.mul2:∀ {s a b:Nat} {f g:Fn},a+b=s→Pol f→Pol g→N.Om f a→N.Om g b→N.Om (fun x=>f x*g x) s
  | 0,_,_,_,_,_,_,_,_,_=>fun j hj=>by omega
  | s + 1,a,b,f,g,e,hf,hg,h,k=>by
    refine om_succ ?_ ?_
    · by_cases ha:a=0
      · exact (Om.mul_r hf hg k) 0 (by omega)
      · exact (Om.mul hf hg h) 0 (by omega)
    · rw [D_mul hf hg]
      refine Om.add (hf.D.mul hg) (hf.mul hg.D) ?_ ?_
      · cases a with
        | zero=>exact (Om.mul_r hf.D hg k).le (by omega)
        | succ a=>exact Om.mul2 (a:=a) (b:=b) (by omega) hf.D hg h.D k
      · cases b with
        | zero=>exact (Om.mul hf hg.D h).le (by omega)
        | succ b=>exact Om.mul2 (a:=a) (b:=b) (by omega) hf hg.D h k.D
theorem lead0:∀ {n:Nat} {f g:Fn},Pol f→Pol g→N.Om g n→N.Zr (fun x=>Dk n (fun x=>f x*g x) x - f x*Dk n g x)
  | 0,f,g,_,_,_=>by
    rw [show (fun x=>Dk 0 (fun x=>f x*g x) x - f x*Dk 0 g x)=fun _=>0 from funext fun x=>by show f x*g x - f x*g x=0; grind]
    exact zr_zero
  | n+1,f,g,hf,hg,h=>by
    show N.Zr (fun x=>Dk n (D fun x=>f x*g x) x - f x*Dk n (D g) x)
    rw [D_mul hf hg,Dk_add (hf.D.mul hg) (hf.mul hg.D)]
    have h1:=(Om.mul_r hf.D hg h) n (by omega)
    have h2:=lead0 hf hg.D h.D
    have:=h1.add h2
    rwa [show (fun x=>Dk n (fun x=>D f x*g x) x+(Dk n (fun x=>f x*D g x) x - f x*Dk n (D g) x))=fun x=>Dk n (fun x=>D f x*g x) x+Dk n (fun x=>f x*D g x) x - f x*Dk n (D g) x from funext fun x=>by grind] at this
/-- Its order is m, and above nought is what comes first. -/
def PO (N:Nest) (f:Fn) (m:Nat):Prop:=N.Om f m∧N.Ps (Dk m f)
theorem PO.not_om {f:Fn} {m:Nat} (h:N.PO f m):¬ N.Om f (m+1):=fun k=>(k m (by omega)).not_Ps h.2
theorem has_order {f:Fn} (hf:Pol f) (h0:f≠fun _=>0):∃ m,N.PO f m∨N.PO (fun x=>-f x) m:=by
  obtain ⟨k,hk⟩:=pol_ends hf
  have key:∀ k,∀ f:Fn,Pol f→f≠(fun _=>0)→Dk k f=(fun _=>0)→∃ m,N.PO f m∨N.PO (fun x=>-f x) m:=by
    intro k
    induction k with
    | zero=>intro f _ h0 hk; exact absurd hk h0
    | succ k ih =>
      intro f hf h0 hk
      rcases tri (N:=N) hf with hz | hp | hn
      · have hD0:D f≠fun _=>0:=fun e=>h0 (funext fun x=>by
          have hc:=const_of hf e
          refine Decidable.byContradiction fun hne=>?_
          rcases (show f x < 0∨0 < f x by grind) with h | h
          · exact hz.neg.not_Ps ⟨-f x,by grind,0,fun y _=>by show -f x≤-f y; rw [hc y x]; grind⟩
          · exact hz.not_Ps ⟨f x,h,0,fun y _=>by rw [hc y x]; grind⟩)
        obtain ⟨m,h⟩:=ih (D f) hf.D hD0 hk
        refine ⟨m+1,h.imp (fun h=>⟨om_succ hz h.1,h.2⟩) fun h=>⟨om_succ hz.neg ?_,?_⟩⟩
        · rw [D_neg hf]; exact h.1
        · show N.Ps (Dk m (D fun x=>-f x)); rw [D_neg hf]; exact h.2
      · exact ⟨0,Or.inl ⟨fun j hj=>by omega,hp⟩⟩
      · exact ⟨0,Or.inr ⟨fun j hj=>by omega,hn⟩⟩
  exact key k f hf h0 hk
/-- -1 as often as that. -/
def alt:Nat→Rat
  | 0=>1
  | n+1=>-alt n
theorem alt_cases:∀ n,alt n=1∨alt n=-1
  | 0=>Or.inl rfl
  | n+1=>by rcases alt_cases n with h | h<;>simp [alt,h]
theorem pattern:∀ {m:Nat} {f:Fn},Pol f→N.PO f m→∃ k,∀ x,N.In k x→(N.Lf x→0 < alt m*f x)∧(N.Rt x→0 < f x)
  | 0,f,hf,h=>by
    obtain ⟨c,hc,n,hn⟩:=h.2
    have e:Dk 0 f=f:=rfl
    rw [e] at hn
    exact ⟨n,fun x hx=>by have:=hn x hx; exact ⟨fun _=>by show 0 < 1*f x; grind,fun _=>by grind⟩⟩
  | m + 1,f,hf,h=>by
    obtain ⟨k,hk⟩:=pattern (m:=m) hf.D ⟨h.1.D,h.2⟩
    have hz:N.Zr f:=h.1 0 (by omega)
    refine ⟨k,fun x hx=>⟨fun hl=>?_,fun hr=>?_⟩⟩
    · rcases alt_cases m with e | e
      · have:=left_pos hf.neg (k:=k) hz.neg (fun y hy hyl=>by
          rw [D_neg hf]
          have:=(hk y hy).1 hyl
          rw [e] at this
          grind) x hx hl
        show 0 < -alt m*f x
        rw [e]; grind
      · have:=left_pos hf (k:=k) hz (fun y hy hyl=>by
          have:=(hk y hy).1 hyl
          rw [e] at this
          grind) x hx hl
        show 0 < -alt m*f x
        rw [e]; grind
    · exact right_pos hf hz (fun y hy hyr=>(hk y hy).2 hyr) x hx hr
end Nest
end Go.Sturm

namespace Go.Sturm

def sg (q:Rat):Int:=if 0 < q then 1 else if q < 0 then -1 else 0
theorem sg_pos {q:Rat} (h:0 < q):sg q=1:=by unfold sg; rw [if_pos h]
theorem sg_neg {q:Rat} (h:q < 0):sg q=-1:=by unfold sg; rw [if_neg (by grind),if_pos h]
theorem sg_zero:sg 0=0:=by unfold sg; rw [if_neg (by grind),if_neg (by grind)]
def alti:Nat→Int
  | 0=>1
  | n+1=>-alti n
theorem alti_cases:∀ n,alti n=1∨alti n=-1
  | 0=>Or.inl rfl
  | n+1=>by rcases alti_cases n with h | h<;>simp [alti,h]
theorem alt_alti:∀ n,(alti n=1∧Nest.alt n=1)∨(alti n=-1∧Nest.alt n=-1)
  | 0=>Or.inl ⟨rfl,rfl⟩
  | n+1=>by rcases alt_alti n with ⟨h,k⟩ | ⟨h,k⟩<;>simp [alti,Nest.alt,h,k]
/-- The first slope that is not nought at a. -/
def FirstAt (f:Fn) (a:Rat) (k:Nat):Prop:=(∀ j,j < k→Dk j f a=0)∧Dk k f a≠0
theorem FirstAt.uniq {f:Fn} {a:Rat} {k l:Nat} (h:FirstAt f a k) (h':FirstAt f a l):k=l:=by
  rcases Nat.lt_trichotomy k l with g | g | g
  · exact absurd (h'.1 k g) h.2
  · exact g
  · exact absurd (h.1 l g) h'.2
/-- The sign just ahead of a, and just behind it. -/
noncomputable def SA (f:Fn) (a:Rat):Int:=open Classical in if h:∃ k,FirstAt f a k then sg (Dk h.choose f a)*alti h.choose else 0
noncomputable def SB (f:Fn) (a:Rat):Int:=open Classical in if h:∃ k,FirstAt f a k then sg (Dk h.choose f a) else 0
theorem SA_of {f:Fn} {a:Rat} {k:Nat} (h:FirstAt f a k):SA f a=sg (Dk k f a)*alti k:=by
  have hx:∃ k,FirstAt f a k:=⟨k,h⟩
  unfold SA
  rw [dif_pos hx,hx.choose_spec.uniq h]
theorem SB_of {f:Fn} {a:Rat} {k:Nat} (h:FirstAt f a k):SB f a=sg (Dk k f a):=by
  have hx:∃ k,FirstAt f a k:=⟨k,h⟩
  unfold SB
  rw [dif_pos hx,hx.choose_spec.uniq h]
namespace Nest
variable {N:Nest}
/-- Its order there, and the sign of what comes first. -/
def Loc (N:Nest) (f:Fn) (m:Nat) (s:Int):Prop:=(s=1∧N.PO f m)∨(s=-1∧N.PO (fun x=>-f x) m)
theorem has_loc {f:Fn} (hf:Pol f) (h0:f≠fun _=>0):∃ m s,N.Loc f m s:=by
  obtain ⟨m,h | h⟩:=has_order (N:=N) hf h0
  · exact ⟨m,1,Or.inl ⟨rfl,h⟩⟩
  · exact ⟨m,-1,Or.inr ⟨rfl,h⟩⟩
theorem Loc.one {f:Fn} {m:Nat} {s:Int} (h:N.Loc f m s):s=1∨s=-1:=h.imp (·.1) (·.1)
theorem Loc.om {f:Fn} (hf:Pol f) {m:Nat} {s:Int} (h:N.Loc f m s):N.Om f m:=by
  rcases h with ⟨_,h⟩ | ⟨_,h⟩
  · exact h.1
  · intro j hj
    have:=(h.1 j hj).neg
    rw [Dk_neg hf] at this
    rwa [show (fun x=>-(-Dk j f x))=Dk j f from funext fun x=>by grind] at this
theorem om_neg {f:Fn} (hf:Pol f) {m:Nat} (h:N.Om f m):N.Om (fun x=>-f x) m:=fun j hj=>by rw [Dk_neg hf]; exact (h j hj).neg
theorem Loc.lt {f:Fn} (hf:Pol f) {m n:Nat} {s:Int} (h:N.Loc f m s) (k:N.Om f n):n≤m:=by
  refine Nat.le_of_not_lt fun hl=>?_
  rcases h with ⟨_,h⟩ | ⟨_,h⟩
  · exact h.not_om (k.le hl)
  · exact h.not_om ((om_neg hf k).le hl)
theorem Loc.ge {f:Fn} (hf:Pol f) {m n:Nat} {s:Int} (h:N.Loc f m s) (k:n≤m):N.Om f n:=(h.om hf).le k
theorem three (x:Rat):N.Lf x∨N.Rt x∨∀ n,N.In n x:=by
  by_cases h1:N.Lf x
  · exact Or.inl h1
  by_cases h2:N.Rt x
  · exact Or.inr (Or.inl h2)
  refine Or.inr (Or.inr fun n=>⟨?_,?_⟩)
  · refine Decidable.byContradiction fun h=>h1 ⟨n,by grind⟩
  · refine Decidable.byContradiction fun h=>h2 ⟨n,by grind⟩
theorem loc_at {f:Fn} (hf:Pol f) {m:Nat} {s:Int} (h:N.Loc f m s):∃ k,∀ x,N.In k x→(N.Lf x→SA f x=s*alti m∧SB f x=s*alti m)∧(N.Rt x→SA f x=s∧SB f x=s):=by
  have fst:∀ x,f x≠0→SA f x=sg (f x)∧SB f x=sg (f x):=fun x hx=>by
    have hF:FirstAt f x 0:=⟨fun j hj=>by omega,hx⟩
    rw [SA_of hF,SB_of hF]
    exact ⟨Int.mul_one _,rfl⟩
  rcases h with ⟨rfl,h⟩ | ⟨rfl,h⟩
  · obtain ⟨k,hk⟩:=pattern hf h
    refine ⟨k,fun x hx=>⟨fun hl=>?_,fun hr=>?_⟩⟩
    · have:=(hk x hx).1 hl
      rcases alt_alti m with ⟨e,e'⟩ | ⟨e,e'⟩<;>rw [e'] at this<;>rw [e]
      · obtain ⟨a,b⟩:=fst x (by grind)
        rw [a,b,sg_pos (by grind)]; exact ⟨rfl,rfl⟩
      · obtain ⟨a,b⟩:=fst x (by grind)
        rw [a,b,sg_neg (by grind)]; exact ⟨rfl,rfl⟩
    · have:=(hk x hx).2 hr
      obtain ⟨a,b⟩:=fst x (by grind)
      rw [a,b,sg_pos this]; exact ⟨rfl,rfl⟩
  · obtain ⟨k,hk⟩:=pattern hf.neg h
    refine ⟨k,fun x hx=>⟨fun hl=>?_,fun hr=>?_⟩⟩
    · have:=(hk x hx).1 hl
      rcases alt_alti m with ⟨e,e'⟩ | ⟨e,e'⟩<;>rw [e'] at this<;>rw [e]
      · obtain ⟨a,b⟩:=fst x (by grind)
        rw [a,b,sg_neg (by grind)]; exact ⟨rfl,rfl⟩
      · obtain ⟨a,b⟩:=fst x (by grind)
        rw [a,b,sg_pos (by grind)]; exact ⟨rfl,rfl⟩
    · have:=(hk x hx).2 hr
      obtain ⟨a,b⟩:=fst x (by grind)
      rw [a,b,sg_neg (by grind)]; exact ⟨rfl,rfl⟩
theorem loc_on {f:Fn} (hf:Pol f) {m:Nat} {s:Int} (h:N.Loc f m s) {x:Rat} (hx:∀ n,N.In n x):FirstAt f x m∧SA f x=s*alti m∧SB f x=s:=by
  have hz:∀ j,j < m→Dk j f x=0:=fun j hj=>(h.om hf j hj).at hx
  rcases h with ⟨rfl,h⟩ | ⟨rfl,h⟩
  · obtain ⟨c,hc,n,hn⟩:=h.2
    have hp:=hn x (hx n)
    have hF:FirstAt f x m:=⟨hz,by grind⟩
    rw [SA_of hF,SB_of hF,sg_pos (by grind)]
    exact ⟨hF,rfl,rfl⟩
  · obtain ⟨c,hc,n,hn⟩:=h.2
    have hp:=hn x (hx n)
    rw [Dk_neg hf] at hp
    have hF:FirstAt f x m:=⟨hz,by grind⟩
    rw [SA_of hF,SB_of hF,sg_neg (by grind)]
    exact ⟨hF,rfl,rfl⟩
theorem zr_iff {f:Fn} (hf:Pol f) {m:Nat} {s:Int} (h:N.Loc f m s):N.Zr f ↔ 0 < m:=by
  constructor
  · intro hz
    exact h.lt hf (n:=1) fun j hj=>by rw [show j=0 by omega]; exact hz
  · intro hm; exact h.om hf 0 hm
end Nest
def ind (a b:Int):Int:=if b=-a then 1 else 0
def cnt (s:Nat→Int):Nat→Nat→Int
  | _,0=>0
  | j,d+1=>ind (s j) (s (j+1))+cnt s (j+1) d
theorem cnt_congr {s t:Nat→Int}:∀ {d j:Nat},(∀ i,j≤i→i≤j+d→s i=t i)→cnt s j d=cnt t j d
  | 0,_,_=>rfl
  | d+1,j,h=>by
    show ind (s j) (s (j+1))+cnt s (j+1) d=ind (t j) (t (j+1))+cnt t (j+1) d
    rw [h j (by omega) (by omega),h (j+1) (by omega) (by omega),cnt_congr fun i h1 h2=>h i (by omega) (by omega)]
/-- A chain: each the rest of the two ahead of it. -/
structure Chain0 (p:Nat→Fn) (r:Nat):Prop where
  pol:∀ i,i≤r→Pol (p i)
  nz:∀ i,i≤r→p i≠fun _=>0
  one:1≤r
  slope:∃ c:Rat,0 < c∧∀ x,p 1 x=c*D (p 0) x
  step:∀ i,i+2≤r→∃ (a b:Rat) (Q:Fn),0 < a∧b≠0∧Pol Q∧∀ x,a*p i x+b*p (i+2) x=Q x*p (i+1) x
  last:∃ (a:Rat) (Q:Fn),0 < a∧Pol Q∧∀ x,a*p (r - 1) x=Q x*p r x
structure Chain (p:Nat→Fn) (r:Nat):Prop extends Chain0 p r where
  sgn:∀ i,i+2≤r→∃ (a b:Rat) (Q:Fn),0 < a∧0 < b∧Pol Q∧∀ x,a*p i x+b*p (i+2) x=Q x*p (i+1) x
section
variable {p:Nat→Fn} {r:Nat} {N:Nest}
theorem om_left {a b:Rat} {f g h Q:Fn} (hf:Pol f) (hg:Pol g) (hh:Pol h) (hQ:Pol Q) (ha:a≠0) (e:∀ x,a*f x+b*g x=Q x*h x) {n:Nat} (kg:N.Om g n) (kh:N.Om h n):N.Om f n:=by
  have h1:=Nest.Om.add (hQ.mul hh) (hg.smul (-b)) (Nest.Om.mul_r hQ hh kh) (kg.smul (-b) hg)
  rw [show (fun x=>Q x*h x+-b*g x)=fun x=>a*f x from funext fun x=>by rw [← e x]; grind] at h1
  exact Nest.om_of_smul ha hf h1
namespace Chain0
variable (C:Chain0 p r)
include C
theorem om_all {n:Nat} (h:N.Om (p r) n):∀ d,d≤r→N.Om (p (r - d)) n∧(0 < d→N.Om (p (r - d+1)) n)
  | 0,_=>⟨h,fun h=>by omega⟩
  | d + 1,hd=>by
    obtain ⟨h1,h2⟩:=om_all h d (by omega)
    have e1:r - (d+1)+1=r - d:=by omega
    rw [e1]
    refine ⟨?_,fun _=>h1⟩
    by_cases h0:d=0
    · subst h0
      obtain ⟨a,Q,ha,hQ,e⟩:=C.last
      exact om_left (a:=a) (g:=fun _=>0) (b:=0) (C.pol (r - 1) (by omega)) Pol.zero (C.pol r (Nat.le_refl _)) hQ (by grind) (fun x=>by rw [← e x]; grind) (fun j _=>by rw [Dk_zero]; exact Nest.zr_zero) h
    · obtain ⟨a,b,Q,ha,hb,hQ,e⟩:=C.step (r - (d+1)) (by omega)
      have e2:r - (d+1)+2=r - d+1:=by omega
      rw [e1,e2] at e
      exact om_left (C.pol _ (by omega)) (C.pol _ (by omega)) (C.pol _ (by omega)) hQ (by grind) e (h2 (by omega)) h1
theorem om_on {n i:Nat} (h1:N.Om (p i) n) (h2:N.Om (p (i+1)) n) (hi:i+1≤r):N.Om (p r) n:=by
  have key:∀ d,i+1+d≤r→N.Om (p (i+d)) n∧N.Om (p (i+1+d)) n:=by
    intro d
    induction d with
    | zero=>intro _; exact ⟨h1,h2⟩
    | succ d ih =>
      intro hd
      obtain ⟨g1,g2⟩:=ih (by omega)
      have e1:i+(d+1)=i+1+d:=by omega
      rw [e1]
      refine ⟨g2,?_⟩
      obtain ⟨a,b,Q,ha,hb,hQ,e⟩:=C.step (i+d) (by omega)
      have e2:i+d+1=i+1+d:=by omega
      have e3:i+d+2=i+1+(d+1):=by omega
      rw [e2,e3] at e
      exact om_left (a:=b) (b:=a) (g:=p (i+d)) (C.pol _ (by omega)) (C.pol _ (by omega)) (C.pol _ (by omega)) hQ hb (fun x=>by rw [← e x]; grind) g1 g2
  have:=(key (r - (i+1)) (by omega)).2
  rwa [show i+1+(r - (i+1))=r by omega] at this
/-- The orders of a chain's members. -/
theorem orders {m:Nat→Nat} {s:Nat→Int} (h:∀ i,i≤r→N.Loc (p i) (m i) (s i)):(∀ i,i≤r→m r≤m i)∧(∀ i,i+1≤r→m i=m r∨m (i+1)=m r)∧(0 < m 0→m r+1=m 0∧m 1=m r∧s 1=s 0)∧(m 0=0→m r=0):=by
  have hr:=h r (Nat.le_refl _)
  have a1:∀ i,i≤r→m r≤m i:=fun i hi=>by
    have:=(C.om_all (hr.om (C.pol r (Nat.le_refl _))) (r - i) (by omega)).1
    rw [show r - (r - i)=i by omega] at this
    exact (h i hi).lt (C.pol i hi) this
  have a2:∀ i,i+1≤r→m i=m r∨m (i+1)=m r:=fun i hi=>by
    refine Decidable.byContradiction fun hn=>?_
    have g1:=a1 i (by omega)
    have g2:=a1 (i+1) hi
    have:=C.om_on (i:=i) (n:=m r+1) ((h i (by omega)).ge (C.pol i (by omega)) (by omega)) ((h (i+1) hi).ge (C.pol _ hi) (by omega)) hi
    have:=hr.lt (C.pol r (Nat.le_refl _)) this
    omega
  refine ⟨a1,a2,fun h0=>?_,fun h0=>?_⟩
  · have h1:=C.one
    obtain ⟨c,hc,e⟩:=C.slope
    have p0:=C.pol 0 (Nat.zero_le _)
    have ep:p 1=fun x=>c*D (p 0) x:=funext e
    obtain ⟨k,hk⟩:∃ k,m 0=k+1:=⟨m 0 - 1,by omega⟩
    have hl:N.Loc (p 1) k (s 0):=by
      have hl0:=h 0 (Nat.zero_le _)
      rw [hk] at hl0
      rw [ep]
      rcases hl0 with ⟨e1,o,q⟩ | ⟨e1,o,q⟩
      · refine Or.inl ⟨e1,o.D.smul c p0.D,?_⟩
        rw [Dk_smul c p0.D]
        exact q.smul hc
      · refine Or.inr ⟨e1,?_⟩
        have e2:(fun x=>-(c*D (p 0) x))=fun x=>c*D (fun x=>-p 0 x) x:=funext fun x=>by rw [D_neg p0]; grind
        rw [e2]
        refine ⟨o.D.smul c p0.neg.D,?_⟩
        rw [Dk_smul c p0.neg.D]
        exact q.smul hc
    have hl1:=h 1 h1
    have q1:=hl.lt (C.pol 1 h1) (hl1.om (C.pol 1 h1))
    have q2:=hl1.lt (C.pol 1 h1) (hl.om (C.pol 1 h1))
    have em:m 1=k:=by omega
    have es:s 1=s 0:=by
      rw [em] at hl1
      rcases hl1 with ⟨e1,o1⟩ | ⟨e1,o1⟩<;>rcases hl with ⟨e2,o2⟩ | ⟨e2,o2⟩
      · rw [e1,e2]
      · have:=o2.2; rw [Dk_neg (C.pol 1 h1)] at this; exact absurd this o1.2.not_neg
      · have:=o1.2; rw [Dk_neg (C.pol 1 h1)] at this; exact absurd this o2.2.not_neg
      · rw [e1,e2]
    have:m 0=m r∨m 1=m r:=a2 0 (by omega)
    have:=a1 1 h1
    exact ⟨by omega,by omega,es⟩
  · have:=a1 0 (Nat.zero_le _); omega
end Chain0
theorem ind_flip {a b:Int} (k:Nat):ind (a*alti k) (b*alti k)=ind a b:=by
  unfold ind
  rcases alti_cases k with e | e<;>rw [e]
  · rw [Int.mul_one,Int.mul_one]
  · congr 1
    simp only [eq_iff_iff]
    omega
theorem ind_two {a b c:Int} (ha:a=1∨a=-1) (hb:b=1∨b=-1) (h:c=-a):ind a b+ind b c=1:=by
  subst h
  rcases ha with rfl | rfl<;>rcases hb with rfl | rfl<;>decide
theorem one_mul_alti {s:Int} (h:s=1∨s=-1) (k:Nat):s*alti k=1∨s*alti k=-1:=by
  rcases h with rfl | rfl<;>rcases alti_cases k with e | e<;>rw [e]<;>decide
/-- Sturm's rule at a place. -/
theorem Chain.local (C:Chain p r) {m:Nat→Nat} {s:Nat→Int} (h:∀ i,i≤r→N.Loc (p i) (m i) (s i)):cnt (fun i=>s i*alti (m i)) 0 r=cnt s 0 r+if m 0=0 then 0 else 1:=by
  obtain ⟨a1,a2,a3,a4⟩:=C.toChain0.orders h
  have opp:∀ i,i+2≤r→m r < m (i+1)→m i=m r∧m (i+2)=m r∧s (i+2)=-s i:=fun i hi hm=>by
    have g1:m i=m r:=(a2 i (by omega)).resolve_right (by omega)
    have g2:m (i+2)=m r:=(a2 (i+1) (by omega)).resolve_left (by omega)
    refine ⟨g1,g2,?_⟩
    obtain ⟨a,b,Q,ha,hb,hQ,e⟩:=C.sgn i hi
    have pi:=C.pol i (by omega)
    have pj:=C.pol (i+1) (by omega)
    have pk:=C.pol (i+2) hi
    have hz:N.Zr (Dk (m r) (fun x=>Q x*p (i+1) x)):=Nest.Om.mul_r hQ pj ((h (i+1) (by omega)).ge pj (show m r+1≤m (i+1) by omega)) (m r) (by omega)
    rw [show (fun x=>Q x*p (i+1) x)=fun x=>a*p i x+b*p (i+2) x from funext fun x=>(e x).symm,Dk_add (pi.smul a) (pk.smul b),Dk_smul a pi,Dk_smul b pk] at hz
    have l1:=h i (by omega)
    have l2:=h (i+2) hi
    rw [g1] at l1
    rw [g2] at l2
    rcases l1 with ⟨e1,o1⟩ | ⟨e1,o1⟩<;>rcases l2 with ⟨e2,o2⟩ | ⟨e2,o2⟩
    · exact absurd ((o1.2.smul ha).add (o2.2.smul hb)) hz.not_Ps
    · rw [e1,e2]
    · rw [e1,e2]; decide
    · have q1:=o1.2
      have q2:=o2.2
      rw [Dk_neg pi] at q1
      rw [Dk_neg pk] at q2
      have:=(q1.smul ha).add (q2.smul hb)
      rw [show (fun x=>a*-Dk (m r) (p i) x+b*-Dk (m r) (p (i+2)) x)=fun x=>-(a*Dk (m r) (p i) x+b*Dk (m r) (p (i+2)) x) from funext fun x=>by grind] at this
      exact absurd this hz.neg.not_Ps
  have one:∀ i,i≤r→s i=1∨s i=-1:=fun i hi=>(h i hi).one
  have tail : ∀ n d j,d≤n→j+d=r→m j=m r→cnt (fun i=>s i*alti (m i)) j d=cnt s j d:=by
    intro n
    induction n with
    | zero=>intro d j hd _ _; rw [show d=0 by omega]; rfl
    | succ n ih =>
      intro d j hd hj hm
      cases d with
      | zero=>rfl
      | succ d =>
        show ind (s j*alti (m j)) (s (j+1)*alti (m (j+1)))+cnt _ (j+1) d=ind (s j) (s (j+1))+cnt s (j+1) d
        by_cases h1:m (j+1)=m r
        · rw [ih d (j+1) (by omega) (by omega) h1,hm,h1,ind_flip]
        · have hlt:m r < m (j+1):=by have:=a1 (j+1) (by omega); omega
          have hd0:d≠0:=fun e=>by subst e; exact h1 (by rw [show j+1=r by omega])
          cases d with
          | zero=>exact absurd rfl hd0
          | succ d =>
            obtain ⟨g1,g2,g3⟩:=opp j (by omega) hlt
            show ind (s j*alti (m j)) (s (j+1)*alti (m (j+1)))+(ind (s (j+1)*alti (m (j+1))) (s (j+2)*alti (m (j+2)))+cnt _ (j+2) d)=ind (s j) (s (j+1))+(ind (s (j+1)) (s (j+2))+cnt s (j+2) d)
            rw [ih d (j+2) (by omega) (by omega) g2]
            have i1:=ind_two (one j (by omega)) (one (j+1) (by omega)) g3
            have i2:=ind_two (c:=s (j+2)*alti (m (j+2))) (one_mul_alti (one j (by omega)) (m j)) (one_mul_alti (one (j+1) (by omega)) (m (j+1))) (by rw [g1,g2,g3,Int.neg_mul])
            omega
  by_cases h0:m 0=0
  · rw [if_pos h0,tail r r 0 (Nat.le_refl _) (by omega) (by rw [h0,a4 h0]),Int.add_zero]
  · rw [if_neg h0]
    obtain ⟨b1,b2,b3⟩:=a3 (by omega)
    obtain ⟨d,hd⟩:∃ d,r=d+1:=⟨r - 1,by have:=C.one; omega⟩
    have ht:=tail d d 1 (Nat.le_refl _) (by omega) b2
    have hc:∀ t:Nat→Int,cnt t 0 r=ind (t 0) (t 1)+cnt t 1 d:=fun t=>by rw [hd]; rfl
    rw [hc,hc,ht,b2,← b1,b3]
    have i1:ind (s 0*alti (m r+1)) (s 0*alti (m r))=1:=by
      unfold ind
      rw [show alti (m r+1)=-alti (m r) from rfl,Int.mul_neg,Int.neg_neg,if_pos rfl]
    have i2:ind (s 0) (s 0)=0:=by
      unfold ind
      rw [if_neg]
      rcases one 0 (Nat.zero_le _) with e | e<;>rw [e]<;>decide
    rw [i1,i2]
    omega
end
end Go.Sturm

namespace Go.Sturm

def pw:Nat→Rat
  | 0=>1
  | n+1=>2*pw n
theorem pw_ge:∀ n:Nat,(n:Rat)+1≤pw n
  | 0=>by show ((0:Nat):Rat)+1≤1; simp; grind
  | n + 1=>by
    have:=pw_ge n
    have h0:(0:Rat)≤(n:Rat):=by
      have:((0:Nat):Rat)≤(n:Rat):=Rat.natCast_le_natCast.2 (Nat.zero_le _)
      simpa using this
    have e:((n+1:Nat):Rat)=(n:Rat)+1:=by simp
    rw [e]
    show (n:Rat)+1+1≤2*pw n
    grind
section
variable {Bad:Rat→Rat→Prop} {a b:Rat}
def BS (Bad:Rat→Rat→Prop) (a b:Rat):Type:={ q:Rat × Rat // a≤q.1∧q.1 < q.2∧q.2≤b∧Bad q.1 q.2 }
theorem bnext_ex (st:∀ u v,a≤u→u < v→v≤b→Bad u v→Bad u ((u+v) / 2)∨Bad ((u+v) / 2) v) (q:BS Bad a b):∃ q':BS Bad a b,q.1.1≤q'.1.1∧q'.1.2≤q.1.2∧2*(q'.1.2 - q'.1.1)=q.1.2 - q.1.1:=by
  obtain ⟨⟨u,v⟩,h1,h2,h3,h4⟩:=q
  replace h1:a≤u:=h1
  replace h2:u < v:=h2
  replace h3:v≤b:=h3
  rcases st u v h1 h2 h3 h4 with h | h
  · exact ⟨⟨(u,(u+v) / 2),h1,by grind,by grind,h⟩,Rat.le_refl,show (u+v) / 2≤v by grind,show 2*((u+v) / 2 - u)=v - u by grind⟩
  · exact ⟨⟨((u+v) / 2,v),by grind,by grind,h3,h⟩,show u≤(u+v) / 2 by grind,Rat.le_refl,show 2*(v - (u+v) / 2)=v - u by grind⟩
noncomputable def bnext (st:∀ u v,a≤u→u < v→v≤b→Bad u v→Bad u ((u+v) / 2)∨Bad ((u+v) / 2) v) (q:BS Bad a b):BS Bad a b:=(bnext_ex st q).choose
theorem bnext_ok (st:∀ u v,a≤u→u < v→v≤b→Bad u v→Bad u ((u+v) / 2)∨Bad ((u+v) / 2) v) (q:BS Bad a b):q.1.1≤(bnext st q).1.1∧(bnext st q).1.2≤q.1.2∧2*((bnext st q).1.2 - (bnext st q).1.1)=q.1.2 - q.1.1:=(bnext_ex st q).choose_spec
noncomputable def bseq (st:∀ u v,a≤u→u < v→v≤b→Bad u v→Bad u ((u+v) / 2)∨Bad ((u+v) / 2) v) (q:BS Bad a b):Nat→BS Bad a b
  | 0=>q
  | n+1=>bnext st (bseq st q n)
theorem bseq_len (st:∀ u v,a≤u→u < v→v≤b→Bad u v→Bad u ((u+v) / 2)∨Bad ((u+v) / 2) v) (q:BS Bad a b):∀ n,pw n*((bseq st q n).1.2 - (bseq st q n).1.1)=q.1.2 - q.1.1
  | 0=>by show 1*(q.1.2 - q.1.1)=_; grind
  | n+1=>by
    have h1:=bseq_len st q n
    have h2:=(bnext_ok st (bseq st q n)).2.2
    show 2*pw n*((bnext st (bseq st q n)).1.2 - (bnext st (bseq st q n)).1.1)=_
    rw [← h1,← h2]
    grind
theorem bisect (hab:a < b) (h:Bad a b) (st:∀ u v,a≤u→u < v→v≤b→Bad u v→Bad u ((u+v) / 2)∨Bad ((u+v) / 2) v):∃ N:Nest,(∀ n,Bad (N.u n) (N.v n))∧∀ n,a≤N.u n∧N.v n≤b:=by
  let q:BS Bad a b:=⟨(a,b),Rat.le_refl,hab,Rat.le_refl,h⟩
  refine ⟨⟨fun n=>(bseq st q n).1.1,fun n=>(bseq st q n).1.2,fun n=>(bnext_ok st (bseq st q n)).1,fun n=>(bnext_ok st (bseq st q n)).2.1,fun n=>(bseq st q n).2.2.1,fun e he=>?_⟩,fun n=>(bseq st q n).2.2.2.2,fun n=>⟨(bseq st q n).2.1,(bseq st q n).2.2.2.1⟩⟩
  obtain ⟨n,t,ht,hn,_,hc⟩:=parts (b - a) he
  refine ⟨n,Decidable.byContradiction fun hh=>?_⟩
  have h1:=bseq_len st q n
  have h2:=pw_ge n
  have e0:q.1.2 - q.1.1=b - a:=rfl
  rw [e0] at h1
  generalize (bseq st q n).1.2 - (bseq st q n).1.1=l at *
  have h3:=Rat.mul_le_mul_of_nonneg_left (show e≤l by grind) (show 0≤pw n by grind)
  have h4:=Rat.mul_le_mul_of_nonneg_right h2 (show 0≤e by grind)
  grind
end
theorem nest_at (a:Rat):∃ N:Nest,∀ n,N.In n a:=by
  obtain ⟨N,h,_⟩:=bisect (Bad:=fun u v=>u≤a∧a≤v) (a:=a - 1) (b:=a+1) (by grind) ⟨by grind,by grind⟩ fun u v _ _ _ h=>by
    by_cases hm:a≤(u+v) / 2
    · exact Or.inl ⟨h.1,hm⟩
    · exact Or.inr ⟨by grind,h.2⟩
  exact ⟨N,h⟩
theorem Nest.ge_u {N:Nest} {x:Rat} (h:∀ n,N.In n x) {y:Rat} (hy:x < y):N.Rt y:=by
  obtain ⟨n,hn⟩:=N.sm (y - x) (by grind)
  exact ⟨n,by have:=(h n).1; grind⟩
theorem Nest.le_v {N:Nest} {x:Rat} (h:∀ n,N.In n x) {y:Rat} (hy:y < x):N.Lf y:=by
  obtain ⟨n,hn⟩:=N.sm (x - y) (by grind)
  exact ⟨n,by have:=(h n).2; grind⟩
/-- How often signs change ahead of a place, and behind it. -/
noncomputable def cA (p:Nat→Fn) (r:Nat) (a:Rat):Int:=cnt (fun i=>SA (p i) a) 0 r
noncomputable def cB (p:Nat→Fn) (r:Nat) (a:Rat):Int:=cnt (fun i=>SB (p i) a) 0 r
/-- What holds near a place. -/
structure Near (N:Nest) (p:Nat→Fn) (r:Nat) (L R:Int) (k:Nat):Prop where
  lf:∀ x,N.In k x→N.Lf x→cA p r x=L∧cB p r x=L
  rt:∀ x,N.In k x→N.Rt x→cA p r x=R∧cB p r x=R
  on:∀ x,(∀ n,N.In n x)→cA p r x=L∧cB p r x=R
structure NearS (N:Nest) (f:Fn) (L R:Int) (k:Nat):Prop where
  lf:∀ x,N.In k x→N.Lf x→SA f x=L∧SB f x=L
  rt:∀ x,N.In k x→N.Rt x→SA f x=R∧SB f x=R
  on:∀ x,(∀ n,N.In n x)→SA f x=L∧SB f x=R
theorem near_s {N:Nest} {f:Fn} (hf:Pol f) (h0:f≠fun _=>0):∃ L R k,NearS N f L R k∧(¬ N.Zr f→L=R):=by
  obtain ⟨m,s,hl⟩:=Nest.has_loc (N:=N) hf h0
  obtain ⟨k,hk⟩:=Nest.loc_at hf hl
  refine ⟨s*alti m,s,k,⟨fun x hx h=>(hk x hx).1 h,fun x hx h=>(hk x hx).2 h,fun x hx=>(Nest.loc_on hf hl hx).2⟩,fun hz=>?_⟩
  have:m=0:=by
    refine Decidable.byContradiction fun h=>hz ((Nest.zr_iff hf hl).2 (by omega))
  rw [this]
  show s*1=s
  omega
theorem common {P:Nat→Nat→Prop} (mono:∀ i k l,k≤l→P i k→P i l):∀ r,(∀ i,i≤r→∃ k,P i k)→∃ k,∀ i,i≤r→P i k
  | 0,h=>by
    obtain ⟨k,hk⟩:=h 0 (Nat.le_refl _)
    exact ⟨k,fun i hi=>by rw [show i=0 by omega]; exact hk⟩
  | r+1,h=>by
    obtain ⟨k,hk⟩:=common mono r fun i hi=>h i (by omega)
    obtain ⟨l,hl⟩:=h (r+1) (Nat.le_refl _)
    refine ⟨max k l,fun i hi=>?_⟩
    by_cases e:i=r+1
    · subst e; exact mono _ _ _ (Nat.le_max_right _ _) hl
    · exact mono _ _ _ (Nat.le_max_left _ _) (hk i (by omega))
section
variable {p:Nat→Fn} {r:Nat}
theorem Chain.near (C:Chain p r) (N:Nest):∃ L R k,Near N p r L R k∧((L=R∧¬ N.Zr (p 0))∨(L=R+1∧N.Zr (p 0))):=by
  have hex:∀ i,∃ q:Nat × Int,i≤r→N.Loc (p i) q.1 q.2:=fun i=>by
    by_cases hi:i≤r
    · obtain ⟨m,s,h⟩:=Nest.has_loc (N:=N) (C.pol i hi) (C.nz i hi)
      exact ⟨(m,s),fun _=>h⟩
    · exact ⟨(0,0),fun h=>absurd h hi⟩
  obtain ⟨q,hq⟩:=Classical.axiomOfChoice hex
  have hl:∀ i,i≤r→N.Loc (p i) (q i).1 (q i).2:=fun i hi=>hq i hi
  have hloc:=C.local (m:=fun i=>(q i).1) (s:=fun i=>(q i).2) hl
  obtain ⟨k,hk⟩:=common (P:=fun i k=>∀ x,N.In k x→(N.Lf x→SA (p i) x=(q i).2*alti (q i).1∧SB (p i) x=(q i).2*alti (q i).1)∧(N.Rt x→SA (p i) x=(q i).2∧SB (p i) x=(q i).2)) (fun i k l h hp x hx=>hp x (hx.mono N h)) r fun i hi=>Nest.loc_at (C.pol i hi) (hl i hi)
  refine ⟨cnt (fun i=>(q i).2*alti (q i).1) 0 r,cnt (fun i=>(q i).2) 0 r,k,⟨fun x hx h=>?_,fun x hx h=>?_,fun x hx=>?_⟩,?_⟩
  · exact ⟨cnt_congr fun i _ hi=>((hk i (by omega) x hx).1 h).1,cnt_congr fun i _ hi=>((hk i (by omega) x hx).1 h).2⟩
  · exact ⟨cnt_congr fun i _ hi=>((hk i (by omega) x hx).2 h).1,cnt_congr fun i _ hi=>((hk i (by omega) x hx).2 h).2⟩
  · exact ⟨cnt_congr fun i _ hi=>(Nest.loc_on (C.pol i (by omega)) (hl i (by omega)) hx).2.1,cnt_congr fun i _ hi=>(Nest.loc_on (C.pol i (by omega)) (hl i (by omega)) hx).2.2⟩
  · have hz:=Nest.zr_iff (C.pol 0 (Nat.zero_le _)) (hl 0 (Nat.zero_le _))
    by_cases h0:(q 0).1=0
    · rw [if_pos h0,Int.add_zero] at hloc
      exact Or.inl ⟨hloc,fun h=>by have:=hz.1 h; omega⟩
    · rw [if_neg h0] at hloc
      exact Or.inr ⟨hloc,hz.2 (by omega)⟩
theorem zr_on {N:Nest} {f:Fn} (hf:Pol f) {a:Rat} (ha:∀ n,N.In n a):N.Zr f ↔ f a=0:=by
  refine ⟨fun h=>h.at ha,fun h=>?_⟩
  rcases Nest.tri (N:=N) hf with g | ⟨c,hc,n,g⟩ | ⟨c,hc,n,g⟩
  · exact g
  · have:=g a (ha n); grind
  · have:=g a (ha n); grind
variable (C:Chain p r)
include C
theorem Chain.ab (a:Rat):cA p r a=cB p r a+if p 0 a=0 then 1 else 0:=by
  obtain ⟨N,hN⟩:=nest_at a
  obtain ⟨L,R,k,hn,h⟩:=C.near N
  obtain ⟨e1,e2⟩:=hn.on a hN
  have hz:=zr_on (C.pol 0 (Nat.zero_le _)) hN
  rw [e1,e2]
  rcases h with ⟨h1,h2⟩ | ⟨h1,h2⟩
  · rw [if_neg fun h=>h2 (hz.2 h),h1,Int.add_zero]
  · rw [if_pos (hz.1 h2),h1]
theorem Chain.ab_le (a:Rat):cB p r a≤cA p r a:=by
  rw [C.ab a]
  by_cases h:p 0 a=0
  · rw [if_pos h]; omega
  · rw [if_neg h]; omega
theorem Chain.down {a b:Rat} (hab:a < b):cA p r b≤cB p r a:=by
  refine Decidable.byContradiction fun hn=>?_
  obtain ⟨N,h,_⟩:=bisect (Bad:=fun u v=>¬ cA p r v≤cB p r u) hab hn fun u v _ _ _ h=>by
    have:=C.ab_le ((u+v) / 2)
    by_cases h1:cA p r ((u+v) / 2)≤cB p r u
    · exact Or.inr (by omega)
    · exact Or.inl h1
  obtain ⟨L,R,k,hk,hLR⟩:=C.near N
  have hle:R≤L:=by rcases hLR with ⟨h,_⟩ | ⟨h,_⟩<;>omega
  have hb:=h k
  have iu:=N.in_u (Nat.le_refl k)
  have iv:=N.in_v (Nat.le_refl k)
  rcases N.three (N.u k) with hu | ⟨j,hu⟩ | hu
  · rw [(hk.lf _ iu hu).2] at hb
    rcases N.three (N.v k) with ⟨j,hv⟩ | hv | hv
    · exact absurd (N.u_lt_v j k) (by grind)
    · rw [(hk.rt _ iv hv).1] at hb; omega
    · rw [(hk.on _ hv).1] at hb; omega
  · exact absurd (N.u_lt_v k j) (by grind)
  · rw [(hk.on _ hu).2,(hk.rt _ iv (Nest.ge_u hu (N.lt k))).1] at hb
    omega
theorem Chain.mono {a b:Rat} (hab:a≤b):cA p r b≤cA p r a:=by
  by_cases h:a=b
  · rw [h]; exact Int.le_refl _
  · have:=C.down (show a < b by grind)
    have:=C.ab_le a
    omega
/-- Where no root is passed, the sign is the same. -/
theorem Chain.same {a b:Rat} (hab:a≤b) (h:cA p r a=cA p r b):SA (p 0) a=SA (p 0) b:=by
  by_cases hne:a=b
  · rw [hne]
  refine Decidable.byContradiction fun hn=>?_
  obtain ⟨N,hB,hi⟩:=bisect (Bad:=fun u v=>SA (p 0) u≠SA (p 0) v) (show a < b by grind) hn fun u v _ _ _ h=>by
    by_cases h1:SA (p 0) u=SA (p 0) ((u+v) / 2)
    · exact Or.inr (by rwa [← h1])
    · exact Or.inl h1
  obtain ⟨L,R,k,hk,hLR⟩:=C.near N
  obtain ⟨l,t,k',hk',hz⟩:=near_s (N:=N) (C.pol 0 (Nat.zero_le _)) (C.nz 0 (Nat.zero_le _))
  have hb:=hB (max k k')
  have iu:=N.in_u (Nat.le_max_left k k')
  have iv:=N.in_v (Nat.le_max_left k k')
  have iu':=N.in_u (Nat.le_max_right k k')
  have iv':=N.in_v (Nat.le_max_right k k')
  have hlt:=N.lt (max k k')
  obtain ⟨i1,i2⟩:=hi (max k k')
  generalize N.u (max k k')=u at *
  generalize N.v (max k k')=v at *
  have m1:=C.mono i1
  have m2:=C.mono i2
  have hA:cA p r u=L∧SA (p 0) u=l:=by
    rcases N.three u with hu | ⟨j,hu⟩ | hu
    · exact ⟨(hk.lf _ iu hu).1,(hk'.lf _ iu' hu).1⟩
    · exfalso
      rcases N.three v with ⟨i,hv⟩ | ⟨i,hv⟩ | hv
      · have:=N.u_lt_v i j; grind
      · refine hb ?_
        rw [(hk'.rt _ iu' ⟨j,hu⟩).1,(hk'.rt _ iv' ⟨i,hv⟩).1]
      · have:=(hv j).2; grind
    · exact ⟨(hk.on _ hu).1,(hk'.on _ hu).1⟩
  rcases N.three v with hv | hv | hv
  · exact hb (by rw [hA.2,(hk'.lf _ iv' hv).1])
  · rw [(hk.rt _ iv hv).1] at m2
    rw [hA.1] at m1
    rcases hLR with ⟨e,hz'⟩ | ⟨e,_⟩
    · exact hb (by rw [hA.2,(hk'.rt _ iv' hv).1]; exact hz hz')
    · have:=C.mono (Rat.le_of_lt hlt)
      omega
  · exact hb (by rw [hA.2,(hk'.on _ hv).1])
/-- Where there is no root between, no count is passed. -/
theorem Chain.none {a b:Rat} (hab:a < b) (h1:∀ x,a < x→x < b→p 0 x≠0) (h2:∀ N:Nest,(∀ n,a≤N.u n∧N.v n≤b)→N.Zr (p 0)→(∀ n,N.In n a)∨∀ n,N.In n b):cB p r a=cA p r b:=by
  refine Decidable.byContradiction fun hn=>?_
  obtain ⟨N,hB,hi⟩:=bisect (Bad:=fun u v=>cB p r u≠cA p r v) hab hn fun u v g1 g2 g3 h=>by
    have e:=C.ab ((u+v) / 2)
    rw [if_neg (h1 _ (by grind) (by grind)),Int.add_zero] at e
    by_cases g:cB p r u=cA p r ((u+v) / 2)
    · exact Or.inr (by rw [← e,← g]; exact h)
    · exact Or.inl g
  obtain ⟨L,R,k,hk,hLR⟩:=C.near N
  have hb:=hB k
  have iu:=N.in_u (Nat.le_refl k)
  have iv:=N.in_v (Nat.le_refl k)
  have hlt:=N.lt k
  obtain ⟨i1,i2⟩:=hi k
  rcases hLR with ⟨e,_⟩ | ⟨e,hz⟩
  · have e1:cB p r (N.u k)=L:=by
      rcases N.three (N.u k) with hu | hu | hu
      · exact (hk.lf _ iu hu).2
      · rw [e]; exact (hk.rt _ iu hu).2
      · rw [e]; exact (hk.on _ hu).2
    have e2:cA p r (N.v k)=L:=by
      rcases N.three (N.v k) with hu | hu | hu
      · exact (hk.lf _ iv hu).1
      · rw [e]; exact (hk.rt _ iv hu).1
      · exact (hk.on _ hu).1
    exact hb (by rw [e1,e2])
  · rcases h2 N hi hz with ha | hb'
    · have eu:N.u k=a:=Rat.le_antisymm (ha k).1 i1
      rw [eu] at hlt hb
      exact hb (by rw [(hk.on _ ha).2,(hk.rt _ iv (Nest.ge_u ha hlt)).1])
    · have ev:N.v k=b:=Rat.le_antisymm i2 (hb' k).2
      rw [ev] at hlt hb
      exact hb (by rw [(hk.lf _ iu (Nest.le_v hb' hlt)).2,(hk.on _ hb').1])
end
end Go.Sturm

namespace Go.Sturm

/-- The value of so many numbers, from the i-th on. -/
def hq (f:Nat→Int) (x:Rat):Nat→Nat→Rat
  | _,0=>0
  | i,d+1=>hq f x (i+1) d*x+(f i:Rat)
theorem hq_pol (f:Nat→Int):∀ d i,Pol (fun x=>hq f x i d)
  | 0,_=>Pol.zero
  | d + 1,i=>by
    have:=(hq_pol f d (i+1)).cons (f i:Rat)
    rwa [show (fun x=>(f i:Rat)+x*hq f x (i+1) d)=fun x=>hq f x i (d+1) from funext fun x=>by
      show _=hq f x (i+1) d*x+(f i:Rat); grind] at this
/-- Weighted. -/
def eq' (f:Nat→Int) (x:Rat):Nat→Nat→Rat→Rat
  | 0,_,_=>0
  | d+1,i,w=>w*(f (i+1):Rat)+x*eq' f x d (i+1) (w+1)
theorem eq_step (f:Nat→Int) (x:Rat):∀ d i w,eq' f x d i (w+1)=eq' f x d i w+hq f x (i+1) d
  | 0,_,_=>by show (0:Rat)=0+0; grind
  | d+1,i,w=>by
    show (w+1)*(f (i+1):Rat)+x*eq' f x d (i+1) (w+1+1)=w*(f (i+1):Rat)+x*eq' f x d (i+1) (w+1)+(hq f x (i+1+1) d*x+(f (i+1):Rat))
    rw [eq_step f x d (i+1) (w+1)]
    grind
theorem D_hq (f:Nat→Int):∀ d i,D (fun x=>hq f x i (d+1))=fun x=>eq' f x d i 1
  | 0,i=>by
    rw [show (fun x=>hq f x i 1)=fun _=>(f i:Rat) from funext fun x=>by show (0:Rat)*x+_=_; grind,D_const]
    rfl
  | d + 1,i=>by
    rw [show (fun x=>hq f x i (d+2))=fun x=>(f i:Rat)+x*hq f x (i+1) (d+1) from funext fun x=>by
      show hq f x (i+1) (d+1)*x+(f i:Rat)=_; grind,D_cons _ (hq_pol f (d+1) (i+1)),D_hq f d (i+1)]
    refine funext fun x=>?_
    show hq f x (i+1+1) d*x+(f (i+1):Rat)+x*eq' f x d (i+1) 1=1*(f (i+1):Rat)+x*eq' f x d (i+1) (1+1)
    rw [eq_step f x d (i+1) 1]
    grind
theorem eq_slope {f g:Nat→Int} (h:∀ q,g q=f (q+1)*((q+1:Nat):Int)) (x:Rat):∀ d i,hq g x i d=eq' f x d i ((i:Rat)+1)
  | 0,_=>rfl
  | d+1,i=>by
    show hq g x (i+1) d*x+(g i:Rat)=((i:Rat)+1)*(f (i+1):Rat)+x*eq' f x d (i+1) ((i:Rat)+1+1)
    rw [eq_slope h x d (i+1),h i,Rat.intCast_mul,Rat.intCast_natCast]
    have e:((i+1:Nat):Rat)=(i:Rat)+1:=by simp
    rw [e]
    grind
theorem D_poly {f g:Nat→Int} (h:∀ q,g q=f (q+1)*((q+1:Nat):Int)):∀ n,D (fun x=>hq f x 0 n)=fun x=>hq g x 0 (n - 1)
  | 0=>D_const 0
  | n+1=>by
    rw [D_hq]
    refine funext fun x=>?_
    have:=eq_slope h x n 0
    rw [show n+1 - 1=n by omega,this]
    congr 1
    simp
    grind
theorem hq_int {h:(Nat→Int)→Int→Nat→Nat→Int} (h0:∀ f x i,h f x i 0=0) (h1:∀ f x i d,h f x i (d+1)=h f x (i+1) d*x+f i) (f:Nat→Int) (x:Int):∀ d i,hq f (x:Rat) i d=((h f x i d:Int):Rat)
  | 0,i=>by rw [h0]; rfl
  | d+1,i=>by
    show hq f (x:Rat) (i+1) d*(x:Rat)+(f i:Rat)=_
    rw [hq_int h0 h1 f x d (i+1),h1,Rat.intCast_add,Rat.intCast_mul]
theorem hq_more {f:Nat→Int} {x:Rat}:∀ d i k,(∀ j,i+d≤j→f j=0)→hq f x i (d+k)=hq f x i d
  | 0,i,0,_=>rfl
  | 0,i,k+1,h=>by
    have:=hq_more (f:=f) (x:=x) 0 (i+1) k fun j hj=>h j (by omega)
    rw [Nat.zero_add] at this ⊢
    show hq f x (i+1) k*x+(f i:Rat)=0
    rw [this,h i (by omega)]
    show (0:Rat)*x+((0:Int):Rat)=0
    grind
  | d+1,i,k,h=>by
    rw [show d+1+k=d+k+1 by omega]
    show hq f x (i+1) (d+k)*x+(f i:Rat)=hq f x (i+1) d*x+(f i:Rat)
    rw [hq_more d (i+1) k fun j hj=>h j (by omega)]
theorem hq_len {f:Nat→Int} {x:Rat} {n m:Nat} (h:∀ j,n≤j→f j=0) (hm:n≤m):hq f x 0 m=hq f x 0 n:=by
  obtain ⟨k,rfl⟩:=Nat.le.dest hm
  exact hq_more n 0 k fun j hj=>h j (by omega)
theorem hq_add (f g:Nat→Int) (x:Rat):∀ d i,hq (fun q=>f q+g q) x i d=hq f x i d+hq g x i d
  | 0,_=>by show (0:Rat)=0+0; grind
  | d+1,i=>by
    show hq (fun q=>f q+g q) x (i+1) d*x+((f i+g i:Int):Rat)=hq f x (i+1) d*x+(f i:Rat)+(hq g x (i+1) d*x+(g i:Rat))
    rw [hq_add f g x d (i+1),Rat.intCast_add]
    grind
theorem hq_smul (c:Int) (f:Nat→Int) (x:Rat):∀ d i,hq (fun q=>f q*c) x i d=hq f x i d*(c:Rat)
  | 0,_=>by show (0:Rat)=0*_; grind
  | d+1,i=>by
    show hq (fun q=>f q*c) x (i+1) d*x+((f i*c:Int):Rat)=(hq f x (i+1) d*x+(f i:Rat))*(c:Rat)
    rw [hq_smul c f x d (i+1),Rat.intCast_mul]
    grind
def sh (s:Nat) (g:Nat→Int) (q:Nat):Int:=if s≤q then g (q - s) else 0
theorem hq_sh (s:Nat) (g:Nat→Int) (x:Rat):∀ d i,hq (sh s g) x (s+i) d=hq g x i d
  | 0,_=>rfl
  | d+1,i=>by
    show hq (sh s g) x (s+i+1) d*x+((sh s g (s+i):Int):Rat)=hq g x (i+1) d*x+(g i:Rat)
    rw [show s+i+1=s+(i+1) by omega,hq_sh s g x d (i+1)]
    unfold sh
    rw [if_pos (by omega),show s+i - s=i by omega]
def xp (x:Rat):Nat→Rat
  | 0=>1
  | k+1=>xp x k*x
theorem xp_pol:∀ k,Pol (fun x=>xp x k)
  | 0=>Pol.const 1
  | k+1=>by
    have:=(xp_pol k).xmul
    rwa [show (fun x=>x*xp x k)=fun x=>xp x (k+1) from funext fun x=>by show _=xp x k*x; grind] at this
theorem hq_sh0 (s:Nat) (g:Nat→Int) (x:Rat) (d:Nat):∀ k,k≤s→hq (sh s g) x (s - k) (k+d)=xp x k*hq g x 0 d
  | 0,_=>by
    have:=hq_sh s g x d 0
    rw [Nat.add_zero] at this
    rw [Nat.sub_zero,Nat.zero_add,this]
    show _=1*_
    grind
  | k+1,hk=>by
    rw [show k+1+d=k+d+1 by omega]
    show hq (sh s g) x (s - (k+1)+1) (k+d)*x+((sh s g (s - (k+1)):Int):Rat)=xp x k*x*hq g x 0 d
    rw [show s - (k+1)+1=s - k by omega,hq_sh0 s g x d k (by omega)]
    unfold sh
    rw [if_neg (by omega)]
    show xp x k*hq g x 0 d*x+((0:Int):Rat)=_
    have e:((0:Int):Rat)=0:=rfl
    rw [e]
    grind
theorem hq_shift (s:Nat) (g:Nat→Int) (x:Rat) (d:Nat):hq (sh s g) x 0 (s+d)=xp x s*hq g x 0 d:=by
  have:=hq_sh0 s g x d s (Nat.le_refl _)
  rwa [Nat.sub_self] at this
theorem cnt_snoc (s:Nat→Int):∀ d j,cnt s j (d+1)=cnt s j d+ind (s (j+d)) (s (j+d+1))
  | 0,j=>by show ind (s j) (s (j+1))+0=0+ind (s j) (s (j+1)); omega
  | d+1,j=>by
    show ind (s j) (s (j+1))+cnt s (j+1) (d+1)=ind (s j) (s (j+1))+cnt s (j+1) d+_
    rw [cnt_snoc s d (j+1),show j+1+d=j+(d+1) by omega]
    omega
end Go.Sturm

namespace Go.Proofs.YtancjnambbkhmaaGreat
open Go.Gv
open Go.Sturm (Pol hq SA SB cA cB FirstAt Dk alti cnt ind Chain Chain0 xp sh)

def fnP (p:Ply):Go.Sturm.Fn:=fun x=>hq p.2 x 0 p.1
theorem fnP_pol (p:Ply):Pol (fnP p):=Go.Sturm.hq_pol p.2 p.1 0
theorem fnP_D (p:Ply):Go.Sturm.D (fnP p)=fnP (p.1 - 1,dsl p.2):=Go.Sturm.D_poly (fun _=>rfl) p.1
theorem fnP_Dk (p:Ply):∀ j,Dk j (fnP p)=fnP (p.1 - j,dit p.2 j)
  | 0=>rfl
  | j+1=>by
    rw [Go.Sturm.Dk_succ,fnP_Dk p j,fnP_D]
    show fnP (p.1 - j - 1,dsl (dit p.2 j))=_
    rw [Nat.sub_sub]
    rfl
theorem hq_hor (f:Nat→Int) (x:Int) (d i:Nat):hq f (x:Rat) i d=((hor f x i d:Int):Rat):=Go.Sturm.hq_int (h:=hor) (fun _ _ _=>by simp only [hor]) (fun _ _ _ _=>by simp only [hor]) f x d i
theorem fnP_at (p:Ply) (x:Int) (j:Nat):Dk j (fnP p) (x:Rat)=((hv p.2 p.1 x j:Int):Rat):=by
  rw [fnP_Dk]
  exact hq_hor _ _ _ _
theorem sg_cast (n:Int):Go.Sturm.sg (n:Rat)=n.sign:=by
  rcases sign_cases n with ⟨h,e⟩ | ⟨h,e⟩ | ⟨h,e⟩
  all_goals first
    | (rw [e]; subst h; exact Go.Sturm.sg_zero)
    | (rw [e]; exact Go.Sturm.sg_neg (Rat.intCast_lt_intCast.2 h))
    | (rw [e]; exact Go.Sturm.sg_pos (Rat.intCast_lt_intCast.2 h))
theorem pw1_alt:∀ k,pw1 (-1) k=alti k
  | 0=>rfl
  | k+1=>by show pw1 (-1) k*-1=-alti k; rw [pw1_alt k]; omega
theorem pw1_one:∀ k,pw1 1 k=1
  | 0=>rfl
  | k+1=>by show pw1 1 k*1=1; rw [pw1_one k]; rfl
theorem cast_ne {n:Int} (h:n≠0):((n:Int):Rat)≠0:=fun e=>h (Rat.intCast_inj.1 (by rw [e]; rfl))
section
variable {p:Ply} (hp:0 < p.1) (ht:Tp p)
include hp ht
theorem fnP_first (x:Int):FirstAt (fnP p) (x:Rat) (fnz (hv p.2 p.1 x) p.1):=by
  obtain ⟨_,h2,h3⟩:=nz_at hp ht x
  refine ⟨fun j hj=>?_,?_⟩
  · rw [fnP_at,h2 j hj]; rfl
  · rw [fnP_at]; exact cast_ne h3
theorem sgSd_A (x:Int):sgSd (-1) p x=SA (fnP p) (x:Rat):=by
  rw [Go.Sturm.SA_of (fnP_first hp ht x),fnP_at,sg_cast,← pw1_alt]
  rfl
theorem sgSd_B (x:Int):sgSd 1 p x=SB (fnP p) (x:Rat):=by
  rw [Go.Sturm.SB_of (fnP_first hp ht x),fnP_at,sg_cast]
  unfold sgSd
  rw [pw1_one,Int.mul_one]
theorem fnP_nz:fnP p≠fun _=>0:=fun e=>by
  have:=(fnP_first hp ht 0).2
  rw [e,Go.Sturm.Dk_zero] at this
  exact this rfl
end
theorem fn_rstep {m:Nat} {g:Nat→Int} {p:Ply} (hm:1≤m) (hmp:m≤p.1) (hp:Cn p.1 p.2) (hg:Cn m g) (x:Rat):fnP (rstep m g p) x=(tpA g m:Rat)*fnP p x+(ldA p.2 p.1 g m:Rat)*(xp x (p.1 - m)*hq g x 0 m):=by
  have hc:=tl_Cn (rst_Cn hm hmp hp hg)
  have hl:=tl_le (rst p.2 p.1 g m) (p.1 - 1)
  have e1:fnP (rstep m g p) x=hq (rst p.2 p.1 g m) x 0 p.1:=(Go.Sturm.hq_len (fun j hj=>hc j hj) (by omega)).symm
  have e2:rst p.2 p.1 g m=fun q=>p.2 q*tpA g m+sh (p.1 - m) g q*ldA p.2 p.1 g m:=funext fun q=>by
    unfold rst sh
    by_cases h:p.1 - m≤q
    · rw [if_pos h,if_pos h,Int.mul_comm (ldA _ _ _ _)]
    · rw [if_neg h,if_neg h,Int.zero_mul]
  rw [e1,e2,Go.Sturm.hq_add (fun q=>p.2 q*tpA g m) (fun q=>sh (p.1 - m) g q*ldA p.2 p.1 g m),Go.Sturm.hq_smul,Go.Sturm.hq_smul]
  have e3:=Go.Sturm.hq_shift (p.1 - m) g x m
  rw [show p.1 - m+m=p.1 by omega] at e3
  rw [e3]
  show hq p.2 x 0 p.1*_+_=_*hq p.2 x 0 p.1+_
  grind
theorem fn_rit {m:Nat} {g:Nat→Int} {p:Ply} (hm:1≤m) (hp:Cn p.1 p.2) (hg:Cn m g) (ht:g (m - 1)≠0):∀ t,(∀ j,j < t→m≤(rit m g j p).1)→∃ (a:Rat) (Q:Go.Sturm.Fn),0 < a∧Pol Q∧∀ x,fnP (rit m g t p) x=a*fnP p x+Q x*fnP (m,g) x
  | 0,_=>⟨1,fun _=>0,by decide,Pol.zero,fun x=>by show fnP p x=_; grind⟩
  | t + 1,h=>by
    obtain ⟨a,Q,ha,hQ,e⟩:=fn_rit hm hp hg ht t fun j hj=>h j (by omega)
    have hc:=(rit_Cn hm hg hp (k:=t) (fun j hj=>h j (by omega)) t (Nat.le_refl _)).1
    have hT:(0:Rat) < (tpA g m:Rat):=by
      have:0 < tpA g m:=by unfold tpA; omega
      exact Rat.intCast_lt_intCast.2 this
    refine ⟨(tpA g m:Rat)*a,fun x=>(tpA g m:Rat)*Q x+(ldA (rit m g t p).2 (rit m g t p).1 g m:Rat)*xp x ((rit m g t p).1 - m),Rat.mul_pos hT ha,(hQ.smul _).add ((Go.Sturm.xp_pol _).smul _),fun x=>?_⟩
    rw [rit_succ,fn_rstep hm (h t (by omega)) hc hg,e x]
    show _+_*(_*fnP (m,g) x)=_
    grind
theorem fn_neg (n:Nat) (f:Nat→Int) (x:Rat):fnP (n,pneg f) x=-fnP (n,f) x:=by
  have h:=Go.Sturm.hq_smul (-1) f x n 0
  have e:pneg f=fun q=>f q*-1:=funext fun q=>by unfold pneg; omega
  show hq (pneg f) x 0 n=-hq f x 0 n
  rw [e,h]
  have:((-1:Int):Rat)=-1:=rfl
  rw [this]
  grind
theorem fn_nxt {a b:Ply} (hb:0 < b.1) (ha:Cn a.1 a.2) (hc:Cn b.1 b.2) (ht:Tp b):∃ (c:Rat) (Q:Go.Sturm.Fn),0 < c∧Pol Q∧∀ x,c*fnP a x+fnP (nxt a b) x=Q x*fnP b x:=by
  obtain ⟨h1,h2⟩:=rcn_ok (m:=b.1) hb b.2 a.1 a (Nat.le_refl _)
  obtain ⟨c,Q,h3,hQ,e⟩:=fn_rit hb ha hc (ht.resolve_left (by omega)) _ h1
  refine ⟨c,fun x=>-Q x,h3,hQ.neg,fun x=>?_⟩
  have e2:fnP (nxt a b) x=-fnP (rrem b.1 b.2 a) x:=fn_neg _ _ x
  have e3:fnP (rrem b.1 b.2 a) x=_:=e x
  rw [e2,e3]
  grind
theorem nxt_Cn {a b:Ply} (hb:0 < b.1) (ha:Cn a.1 a.2) (hc:Cn b.1 b.2):Cn (nxt a b).1 (nxt a b).2:=by
  obtain ⟨h1,h2⟩:=rcn_ok (m:=b.1) hb b.2 a.1 a (Nat.le_refl _)
  have:=(rit_Cn hb hc ha h1 _ (Nat.le_refl _)).1
  intro i hi
  show -(rrem b.1 b.2 a).2 i=0
  rw [show (rrem b.1 b.2 a).2 i=0 from this i hi]
  rfl
section
variable {P:Ply} (h2:2≤P.1) (hc:Cn P.1 P.2) (ht:Tp P)
include hc in
theorem cq_Cn:∀ j,j≤chN' P→Cn (cq P j).1 (cq P j).2∧Cn (cq P (j+1)).1 (cq P (j+1)).2
  | 0,_=>⟨hc,dsl_Cn hc⟩
  | j+1,hj=>by
    obtain ⟨a,b⟩:=cq_Cn j (by omega)
    exact ⟨b,nxt_Cn ((chN'_ok P).2.1 j (by omega)) a b⟩
include h2 in
theorem chN'_one:1≤chN' P:=by
  obtain ⟨_,_,h3⟩:=chN'_ok P
  refine Nat.pos_of_ne_zero fun e=>?_
  rw [e] at h3
  have:P.1 - 1=0:=h3
  omega
include h2 in
theorem cq_pos {j:Nat} (hj:j≤chN' P):0 < (cq P j).1:=by
  cases j with
  | zero=>show 0 < P.1; omega
  | succ j=>exact (chN'_ok P).2.1 j (by omega)
include h2 hc ht
theorem cq_step {i:Nat} (hi:i+1≤chN' P):∃ (c:Rat) (Q:Go.Sturm.Fn),0 < c∧Pol Q∧∀ x,c*fnP (cq P i) x+fnP (cq P (i+2)) x=Q x*fnP (cq P (i+1)) x:=fn_nxt (cq_pos h2 hi) (cq_Cn hc i (by omega)).1 (cq_Cn hc i (by omega)).2 (cq_Tp ht i).2
theorem cq_chain:Chain (fun i=>fnP (cq P i)) (chN' P):=by
  have st:∀ i,i+2≤chN' P→∃ (a b:Rat) (Q:Go.Sturm.Fn),0 < a∧0 < b∧Pol Q∧∀ x,a*fnP (cq P i) x+b*fnP (cq P (i+2)) x=Q x*fnP (cq P (i+1)) x:=fun i hi=>by
    obtain ⟨c,Q,h1,h3,h4⟩:=cq_step h2 hc ht (i:=i) (by omega)
    exact ⟨c,1,Q,h1,by decide,h3,fun x=>by rw [← h4 x]; grind⟩
  refine ⟨⟨fun i _=>fnP_pol _,fun i hi=>fnP_nz (cq_pos h2 hi) (cq_Tp ht i).1,chN'_one h2,⟨1,by decide,fun x=>?_⟩,fun i hi=>?_,?_⟩,st⟩
  · show fnP (cq P 1) x=1*Go.Sturm.D (fnP P) x
    rw [fnP_D]
    show fnP (P.1 - 1,dsl P.2) x=_
    grind
  · obtain ⟨a,b,Q,h1,h3,h4,h5⟩:=st i hi
    exact ⟨a,b,Q,h1,by grind,h4,h5⟩
  · have h1:=chN'_one h2
    obtain ⟨c,Q,h3,h4,h5⟩:=cq_step h2 hc ht (i:=chN' P - 1) (by omega)
    refine ⟨c,Q,h3,h4,fun x=>?_⟩
    have h6:=h5 x
    rw [show chN' P - 1+2=chN' P+1 by omega,show chN' P - 1+1=chN' P by omega] at h6
    have e:fnP (cq P (chN' P+1)) x=0:=by
      show hq _ x 0 (cq P (chN' P+1)).1=0
      rw [(chN'_ok P).2.2]
      rfl
    rw [e] at h6
    rw [← h6]
    grind
omit h2 hc ht in
theorem cgC_cnt {s:Nat→Int} (h0:s 0≠0):∀ k,cgC s (k+1)=cnt s 0 k
  | 0=>by
    show 0+(if s 0=-0 then 1 else 0)=0
    rw [if_neg (by simpa using h0)]
    rfl
  | k+1=>by
    rw [Go.Sturm.cnt_snoc,Nat.zero_add]
    show cgC s (k+1)+(if s (k+1)=-s k then 1 else 0)=cnt s 0 k+(if s (k+1)=-s k then 1 else 0)
    rw [cgC_cnt h0 k]
omit hc in
theorem rtN_eq (a:Int):rtN P a=cA (fun i=>fnP (cq P i)) (chN' P) (a:Rat):=by
  have h0:sgSd (-1) (cq P 0) a≠0:=by rcases sgSd_one (cq_pos h2 (Nat.zero_le _)) (cq_Tp ht 0).1 (Or.inr rfl) a with e | e<;>rw [e]<;>decide
  show cgC (fun q=>sgSd (-1) (cq P q) a) (chN' P+1)=_
  rw [cgC_cnt h0]
  exact Go.Sturm.cnt_congr fun i _ hi=>sgSd_A (cq_pos h2 (by omega)) (cq_Tp ht i).1 a
omit hc in
theorem rtC_eq (a:Int):rtC P a=cB (fun i=>fnP (cq P i)) (chN' P) (a:Rat):=by
  have h0:sgSd 1 (cq P 0) a≠0:=by rcases sgSd_one (cq_pos h2 (Nat.zero_le _)) (cq_Tp ht 0).1 (Or.inl rfl) a with e | e<;>rw [e]<;>decide
  show cgC (fun q=>sgSd 1 (cq P q) a) (chN' P+1)=_
  rw [cgC_cnt h0]
  exact Go.Sturm.cnt_congr fun i _ hi=>sgSd_B (cq_pos h2 (by omega)) (cq_Tp ht i).1 a
theorem rt_mono {a b:Int} (h:a≤b):rtN P b≤rtN P a:=by
  rw [rtN_eq h2 ht,rtN_eq h2 ht]
  exact (cq_chain h2 hc ht).mono (Rat.intCast_le_intCast.2 h)
theorem rt_down {a b:Int} (h:a < b):rtN P b≤rtC P a:=by
  rw [rtN_eq h2 ht,rtC_eq h2 ht]
  exact (cq_chain h2 hc ht).down (Rat.intCast_lt_intCast.2 h)
theorem rt_ab (a:Int):rtN P a=rtC P a+if hor P.2 a 0 P.1=0 then 1 else 0:=by
  rw [rtN_eq h2 ht,rtC_eq h2 ht,(cq_chain h2 hc ht).ab]
  have e:fnP (cq P 0) (a:Rat)=((hor P.2 a 0 P.1:Int):Rat):=hq_hor _ _ _ _
  rw [e]
  by_cases h:hor P.2 a 0 P.1=0
  · rw [if_pos h,if_pos (by rw [h]; rfl)]
  · rw [if_neg h,if_neg (cast_ne h)]
theorem rt_same {a b:Int} (h:a≤b) (e:rtN P a=rtN P b):sgSd (-1) P a=sgSd (-1) P b:=by
  rw [rtN_eq h2 ht,rtN_eq h2 ht] at e
  rw [sgSd_A (show 0 < P.1 by omega) ht,sgSd_A (show 0 < P.1 by omega) ht]
  exact (cq_chain h2 hc ht).same (Rat.intCast_le_intCast.2 h) e
end
end Go.Proofs.YtancjnambbkhmaaGreat

namespace Go.Proofs.YtancjnambbkhmaaGreat
open Go.Gv

/-- Each place as often as the count falls there. -/
def can (N:Int→Int):Int→Nat→List Int
  | _,0=>[]
  | a,d+1=>List.replicate (N a - N (a+1)).toNat a ++ can N (a+1) d
theorem can_app (N:Int→Int):∀ d a e,can N a (d+e)=can N a d ++ can N (a+(d:Nat)) e
  | 0,a,e=>by
    rw [Nat.zero_add]
    show can N a e=[] ++ can N (a+((0:Nat):Int)) e
    rw [List.nil_append]
    congr 1
    omega
  | d+1,a,e=>by
    rw [show d+1+e=d+e+1 by omega]
    show _ ++ can N (a+1) (d+e)=(_ ++ can N (a+1) d) ++ _
    rw [can_app N d (a+1) e,List.append_assoc,show a+((d+1:Nat):Int)=a+1+(d:Nat) by omega]
theorem can_nil {N:Int→Int}:∀ (d:Nat) (a:Int),(∀ y,a≤y→y < a+(d:Nat)→N y=N (y+1))→can N a d=[]
  | 0,_,_=>rfl
  | d+1,a,h=>by
    show List.replicate (N a - N (a+1)).toNat a ++ can N (a+1) d=[]
    rw [can_nil d (a+1) fun y h1 h2=>h y (by omega) (by omega),h a (by omega) (by omega),Int.sub_self]
    rfl
theorem can_flat {N:Int→Int} {a:Int} {d:Nat} (mono:∀ x y,a≤x→x≤y→y≤a+(d:Nat)→N y≤N x) (h:N a=N (a+(d:Nat))):can N a d=[]:=can_nil d a fun y h1 h2=>by
  have m1:=mono a y (by omega) h1 (by omega)
  have m2:=mono y (y+1) h1 (by omega) (by omega)
  have m3:=mono (y+1) (a+(d:Nat)) (by omega) (by omega) (by omega)
  omega
theorem can_one {N:Int→Int} {a q:Int} {d:Nat} (mono:∀ x y,a≤x→x≤y→y≤a+(d:Nat)→N y≤N x) (h:N a - N (a+(d:Nat))=1) (h1:a≤q) (h2:q < a+(d:Nat)) (hq:N q≠N (q+1)):can N a d=[q]:=by
  have m1:=mono a q (by omega) h1 (by omega)
  have m2:=mono q (q+1) h1 (by omega) (by omega)
  have m3:=mono (q+1) (a+(d:Nat)) (by omega) (by omega) (by omega)
  obtain ⟨k,hk⟩:∃ k:Nat,q=a+(k:Nat):=⟨(q - a).toNat,by omega⟩
  have ed:d=k+(1+(d - k - 1)):=by omega
  have e1:can N a k=[]:=can_flat (fun x y g1 g2 g3=>mono x y g1 g2 (by omega)) (by rw [← hk]; omega)
  have e2:can N (q+1) (d - k - 1)=[]:=can_flat (fun x y g1 g2 g3=>mono x y (by omega) g2 (by omega)) (by rw [show q+1+((d - k - 1:Nat):Int)=a+(d:Nat) by omega]; omega)
  rw [ed,can_app,e1,can_app,← hk]
  show [] ++ ((List.replicate (N q - N (q+1)).toNat q ++ []) ++ can N (q+((1:Nat):Int)) (d - k - 1))=[q]
  rw [show q+((1:Nat):Int)=q+1 from rfl,e2,show (N q - N (q+1)).toNat=1 by omega]
  rfl
theorem sgi_sg {S:Int→Int} {s:Int}:∀ j p,S p.1=s→S p.2≠s→S (sgi S s j p).1=s∧S (sgi S s j p).2≠s
  | 0,_,h1,h2=>⟨h1,h2⟩
  | j+1,p,h1,h2=>by
    obtain ⟨g1,g2⟩:=sgi_sg j p h1 h2
    rw [sgi_succ]
    unfold sgs
    by_cases h:S (mdI (sgi S s j p).1 (sgi S s j p).2)=s
    · rw [if_pos h]; exact ⟨h,g2⟩
    · rw [if_neg h]; exact ⟨g1,h⟩
theorem sgl_ok {S:Int→Int} {a b:Int} (hab:a < b) (hne:S a≠S b):a≤sgl S (S a) a b∧sgl S (S a) a b < b∧S (sgl S (S a) a b)≠S (sgl S (S a) a b+1):=by
  obtain ⟨h1,h2,h3⟩:=sgn_ok S (S a) (b - a).toNat (a,b) hab (Nat.le_refl _)
  obtain ⟨g1,g2,g3⟩:=h3 _ (Nat.le_refl _)
  obtain ⟨k1,k2⟩:=sgi_sg (S:=S) (s:=S a) (sgn S (S a) (b - a).toNat (a,b)) (a,b) rfl (Ne.symm hne)
  have e:sgl S (S a) a b=(sgi S (S a) (sgn S (S a) (b - a).toNat (a,b)) (a,b)).1:=rfl
  replace g1:a≤(sgi S (S a) (sgn S (S a) (b - a).toNat (a,b)) (a,b)).1:=g1
  replace g2:(sgi S (S a) (sgn S (S a) (b - a).toNat (a,b)) (a,b)).2≤b:=g2
  rw [e]
  refine ⟨g1,by omega,?_⟩
  rw [k1,show (sgi S (S a) (sgn S (S a) (b - a).toNat (a,b)) (a,b)).1+1=(sgi S (S a) (sgn S (S a) (b - a).toNat (a,b)) (a,b)).2 by omega]
  exact Ne.symm k2
theorem skL_can {N S:Int→Int} {lo hi:Int} (mono:∀ x y,lo≤x→x≤y→y≤hi→N y≤N x) (same:∀ x y,lo≤x→x≤y→y≤hi→N x=N y→S x=S y):∀ d a b,lo≤a→a≤b→b≤hi→b - a≤(d:Nat)→skL N S (d+1) a b=can N a (b - a).toNat:=by
  intro d
  induction d with
  | zero =>
    intro a b h1 h2 h3 h4
    have e:a=b:=by omega
    subst e
    show (if N a=N a then [] else _)=_
    rw [if_pos rfl,show (a - a).toNat=0 by omega]
    rfl
  | succ d ih =>
    intro a b h1 h2 h3 h4
    have eb:a+(((b - a).toNat:Nat):Int)=b:=by omega
    have mono':∀ x y,a≤x→x≤y→y≤a+(((b - a).toNat:Nat):Int)→N y≤N x:=fun x y g1 g2 g3=>mono x y (by omega) g2 (by omega)
    show (if N a=N b then [] else if b - a=1 then List.replicate (N a - N b).toNat a else if N a - N b=1∧S a≠S b then [sgl S (S a) a b] else skL N S (d+1) a (mdI a b) ++ skL N S (d+1) (mdI a b) b)=_
    by_cases c1:N a=N b
    · rw [if_pos c1,can_flat mono' (by rw [eb]; exact c1)]
    rw [if_neg c1]
    by_cases c2:b - a=1
    · rw [if_pos c2,c2]
      show _=List.replicate (N a - N (a+1)).toNat a ++ []
      rw [List.append_nil,show a+1=b by omega]
    rw [if_neg c2]
    have hlt:a < b:=by
      rcases Int.lt_or_le a b with h | h
      · exact h
      · exact absurd (by rw [show a=b by omega]) c1
    by_cases c3:N a - N b=1∧S a≠S b
    · rw [if_pos c3]
      obtain ⟨q1,q2,q3⟩:=sgl_ok hlt c3.2
      exact (can_one mono' (by rw [eb]; exact c3.1) q1 (by omega) fun e=>q3 (same _ _ (by omega) (by omega) (by omega) e)).symm
    rw [if_neg c3]
    have hm:a < mdI a b∧mdI a b < b:=by unfold mdI; omega
    rw [ih a (mdI a b) h1 (by omega) (by omega) (by omega),ih (mdI a b) b (by omega) (by omega) h3 (by omega)]
    rw [show (b - a).toNat=(mdI a b - a).toNat+(b - mdI a b).toNat by omega,can_app]
    congr 2
    omega
/-- The code's places. -/
theorem plcP_can {p:Ply} (h2:2≤p.1) (hc:Cn p.1 p.2) (ht:Tp p) {lo hi:Int} (hlh:lo≤hi):plcP p lo hi=can (rtN (finP p)) lo (hi - lo).toNat ++ if rtN (finP p) hi > rtC (finP p) hi then [hi] else []:=by
  unfold plcP plcs
  rw [skL_can (fun x y _ h _=>rt_mono (P:=finP p) h2 (fin_Cn hc) (fin_Tp ht) h) (fun x y _ h _ e=>rt_same (P:=finP p) h2 (fin_Cn hc) (fin_Tp ht) h e) _ lo hi (Int.le_refl _) hlh (Int.le_refl _) (by omega)]
end Go.Proofs.YtancjnambbkhmaaGreat

namespace Go.Proofs.YtancjnambbkhmaaGreat
open Go.Gv
open Go.Em (wB wB_pos wB_eq nw nw_lt nw_le nw_zero nw_mul_le nw_add_le nw_mono)

def I64 (x:Int):Prop:=-9223372036854775808≤x∧x≤9223372036854775807
theorem nw_of {x:Int} (h:I64 x):nw (bOf x).2≤4:=nw_le (by
  show x.natAbs < wB ^ 4
  have:=h.1
  have:=h.2
  rw [wB_eq]
  omega)
def a6V:Nat→Bg
  | 0=>bOf 1
  | k+1=>bmul (a6V k) (bOf 65536)
theorem a6m_eq (a b:Bg):a6m a b=bmul a b:=by unfold a6m; rw [decB_b,decB_b]
theorem a6a_eq (a b:Bg):a6a a b=badd a b:=by unfold a6a; rw [decB_b,decB_b]
theorem bv_V:∀ k,bv (a6V k)=65536 ^ k
  | 0=>rfl
  | k+1=>by show bv (bmul (a6V k) (bOf 65536))=_; rw [bv_mul,bv_V k,bv_of,Int.pow_succ]
theorem nw_bmul (a b:Bg):nw (bmul a b).2≤nw a.2+nw b.2:=nw_mul_le a.2 b.2
theorem nw_badd {a b:Bg} {n:Nat} (ha:nw a.2≤n) (hb:nw b.2≤n):nw (badd a b).2≤n+1:=by
  unfold badd
  split
  · exact nw_add_le ha hb
  · split
    · have:=Go.Em.nw_mono (Nat.sub_le a.2 b.2); show nw (a.2 - b.2)≤_; omega
    · have:=Go.Em.nw_mono (Nat.sub_le b.2 a.2); show nw (b.2 - a.2)≤_; omega
theorem nw_V:∀ k,nw (a6V k).2≤4*k+4
  | 0=>nw_of ⟨by decide,by decide⟩
  | k+1=>by
    have h1:=nw_bmul (a6V k) (bOf 65536)
    have h2:=nw_V k
    have h3:=nw_of (x:=65536) ⟨by decide,by decide⟩
    show nw (bmul (a6V k) (bOf 65536)).2≤_
    omega
end Go.Proofs.YtancjnambbkhmaaGreat

namespace Go.Proofs.YtancjnambbkhmaaGreat
open Go.Gv
open Go.Em (wB wB_pos wB_eq nw nw_lt nw_le nw_zero nw_mul_le nw_add_le)

/-- No number has more parts than that. -/
def PB (n:Nat) (f:Nat→Bg) (B:Nat):Prop:=∀ i,i < n→nw (f i).2≤B
theorem bgZ_like {E:Env} {v:Value} (h:rel E (.agg bgZ) v):rel E (bgA (false,0)) v:=by
  obtain ⟨vs,h1,h2⟩:=rel_agg.1 h
  refine rel_agg.2 ⟨vs,h1,?_⟩
  obtain ⟨u0,t0,e0,r0,h2⟩:=rels_cons.1 h2
  obtain ⟨u1,t1,e1,r1,h2⟩:=rels_cons.1 h2
  refine rels_cons.2 ⟨u0,t0,e0,r0,rels_cons.2 ⟨u1,t1,e1,?_,h2⟩⟩
  show rel E (sJ (nw 0) (mI 0)) u1
  rw [nw_zero]
  exact nil_like r1
theorem ba_specZ {y:Bg} (hy:nw y.2≤1000000000000):FSpec Tryz.prog 147 [.agg bgZ,bgA y] (bgA (badd (false,0) y)):=by
  have h:FSpec Tryz.prog 147 [bgA (false,0),bgA y] (bgA (badd (false,0) y)):=ba_spec (by rw [nw_zero]; omega) (by omega) (by rw [Nat.zero_add]; omega)
  refine FSpec.of_args h fun E vs hr=>?_
  obtain ⟨u0,t0,e0,r0,hr⟩:=rels_cons.1 hr
  exact rels_cons.2 ⟨u0,t0,e0,bgZ_like r0,hr⟩
theorem ba_specN {x y:Bg} (hx:nw x.2≤1000000000000) (hy:nw y.2≤1000000000000):FSpec Tryz.prog 147 [bgA x,bgA y] (bgA (badd x y)):=by
  have:=nw_add_le hx hy
  exact ba_spec (by omega) (by omega) (by omega)
theorem mixBg (b:Bool) (x y:Bg):mixL b (bgc x) (bgc y)=bgc (cond b x y):=by
  unfold bgc bA msA sJ iA
  cases b<;>simp only [mixL,mixA,decide_true,cond_true,cond_false,Nat.beq_refl]
theorem app_b {g:Nat→Bg} {m q:Nat} {v:Bg} (hq:q < m+1) (hv:g m=v):mixL (Nat.blt q m) (bgc (g q)) (bgc v)=bgc (g q):=by
  rw [mixBg]
  cases h:Nat.blt q m
  · have:=not_blt h
    have:q=m:=by omega
    subst this
    rw [hv]
    rfl
  · rfl
def padB (n:Nat) (f:Nat→Bg) (m:Nat) (g:Nat→Bg) (i:Nat):Bg:=if i < n then (if i < m then badd (f i) (g i) else f i) else badd (false,0) (g i)
theorem pa_leads {n:Nat} {f:Nat→Bg} {m:Nat} {g:Nat→Bg} {B:Nat} (hn:n≤1000) (hm:m≤1000) (hB:B≤100000000000) (hf:PB n f B) (hg:PB m g B):Leads Tryz.prog (.loop (loopAt Tryz.f145 0)) (paS n f m g 0 0 fun q=>bgc (padB n f m g q)) (.exit 0) (paS n f m g (max n m:Nat) (max n m) fun q=>bgc (padB n f m g q)):=by
  refine loop_rule (fun i=>paS n f m g (i:Nat) i fun q=>bgc (padB n f m g q)) (max n m) (.exit 0) _ (by simp) (fun i hi=>?_) ?_
  · have st:=pa_step n f m g (i:Nat) i fun q=>bgc (padB n f m g q)
    have e:evC Tryz.prog [] [kS Tryz.prog 147 baG] noL (loopAt Tryz.f145 0) (paS n f m g (i:Nat) i fun q=>bgc (padB n f m g q)) (finN keepPA [some 3])=some ⟨.normal,paS n f m g ((i+1:Nat):Int) (i+1) (fun q=>mixL (Nat.blt q i) (bgc (padB n f m g q)) (bgc (padB n f m g i))),.any⟩:=by
      rw [st]
      unfold paT paM paN
      rw [apB_t (by omega),w64_next (by omega),Int.toNat_natCast,decB_b]
      by_cases h1:i < n
      · have b1:=hf i h1
        rw [dec_lt h1,ixB_t h1,show decC (bgc (f i))=f i from decB_b (f i)]
        by_cases h2:i < m
        · have b2:=hg i h2
          rw [dec_lt h2,ixB_t h2,gate_pos (show FSpec Tryz.prog 147 [.agg (bgc (f i)),bgA (g i)] (bgA (badd (f i) (g i))) from ba_specN (by omega) (by omega)),show padB n f m g i=badd (f i) (g i) by unfold padB; rw [if_pos h1,if_pos h2]]
          rfl
        · rw [show decide (((i:Nat):Int) < ((m:Nat):Int))=false from decide_eq_false (by omega),show padB n f m g i=f i by unfold padB; rw [if_pos h1,if_neg h2]]
          rfl
      · have h2:i < m:=by omega
        have b2:=hg i h2
        rw [show decide (((i:Nat):Int) < ((n:Nat):Int))=false from decide_eq_false (by omega),dec_lt h2,ixB_t h2,show decC bgZ=(false,0) from rfl,gate_pos (ba_specZ (y:=g i) (by omega)),show padB n f m g i=badd (false,0) (g i) by unfold padB; rw [if_neg h1]]
        rfl
    refine (leads_ev (finN_sub _ _) e_nil (k_cons kS_ok k_nil) noL_ok e).sub (Sub.refl _) ?_
    exact sub_same ⟨Or.inr ⟨174,2,i+1,_,_,rfl,rfl,fun q hq=>(app_b hq rfl).symm ▸ rfl⟩,trivial⟩
  · refine leads_ev (finE_sub _ _) e_nil (k_cons kS_ok k_nil) noL_ok ((pa_end n f m g (max n m:Nat) (max n m) _).trans ?_)
    unfold paT
    rw [show decide (((max n m:Nat):Int) < ((n:Nat):Int))=false from decide_eq_false (by omega),show decide (((max n m:Nat):Int) < ((m:Nat):Int))=false from decide_eq_false (by omega)]
    rfl
theorem pa_spec {n:Nat} {f:Nat→Bg} {m:Nat} {g:Nat→Bg} {B:Nat} (hn:n≤1000) (hm:m≤1000) (hB:B≤100000000000) (hf:PB n f B) (hg:PB m g B):FSpec Tryz.prog 145 [bpA n f,bpA m g] (bpA (btl (padB n f m g) (max n m)) (padB n f m g)):=by
  have hL:=lok_hd (c:=bodyOf Tryz.f145) (i:=3) 0 (by kernel_rfl) (by kernel_rfl) (toldN_sound (keep:=keepPA) (nils:=[(5,0,2)]) (nr:=.a 174 2 0 fun q=>bgc (padB n f m g q)) (τ:=[none]) (pa_leads hn hm hB hf hg))
  refine gspecZ (oneZ_ok (frzK_ok 0)) e_nil (k_cons kS_ok (k_cons kS_ok k_nil)) m_nil Tryz.func145 (by kernel_rfl) (by kernel_rfl) hL rfl ((pa_ev n f m g (max n m) (padB n f m g) (max n m:Nat) (btl (padB n f m g) (max n m)) (padB n f m g)).trans ?_)
  rw [gate_pos (Sub.refl _),fz1_t,gate_pos (pc_spec (padB n f m g) (by omega))]
  rfl
theorem bm_specN {x y:Bg} (hx:nw x.2≤1000000000000) (hy:nw y.2≤1000000000000):FSpec Tryz.prog 146 [bgA x,bgA y] (bgA (bmul x y)):=bm_spec (by omega)
theorem gMul_pos {a b:Bg} {o:Option Out} (ha:nw a.2≤1000000000000) (hb:nw b.2≤1000000000000):gMul a b o=o:=by unfold gMul; rw [a6m_eq]; exact gate_pos (bm_specN ha hb)
theorem gOf_pos {m:Int} {o:Option Out} (h:I64 m):gOf m o=o:=gate_pos (bo_spec h.1 h.2)
theorem bigK_ok:∀ e,e ∈ bigK Tryz.prog→KOk Tryz.prog e:=k_cons kS_ok (k_cons kS_ok (k_cons kS_ok k_nil))
def pbyB (f:Nat→Bg) (k:Bg) (i:Nat):Bg:=bmul (f i) k
theorem pb_leads {n:Nat} {f:Nat→Bg} {k:Bg} {B:Nat} (hn:n≤1000) (hB:B≤100000000000) (hf:PB n f B) (hk:nw k.2≤B):Leads Tryz.prog (.loop (loopAt Tryz.f149 0)) (pbS n f k 0 0 fun q=>bgc (pbyB f k q)) (.exit 0) (pbS n f k (n:Nat) n fun q=>bgc (pbyB f k q)):=by
  refine loop_rule (fun i=>pbS n f k (i:Nat) i fun q=>bgc (pbyB f k q)) n (.exit 0) _ (by simp) (fun i hi=>?_) ?_
  · have st:=pb_step n f k (i:Nat) i fun q=>bgc (pbyB f k q)
    have b1:=hf i hi
    unfold pbT at st
    rw [dec_lt hi,Int.toNat_natCast,gMul_pos (by omega) (by omega),ixB_t hi,apB_t (by omega),w64_next (by omega),a6m_eq] at st
    refine (leads_ev (finN_sub _ _) e_nil bigK_ok noL_ok st).sub (Sub.refl _) ?_
    exact sub_same ⟨Or.inl rfl,Or.inr ⟨174,2,i+1,_,_,rfl,rfl,fun q hq=>(app_b hq rfl).symm ▸ rfl⟩,trivial⟩
  · refine leads_ev (finE_sub _ _) e_nil bigK_ok noL_ok ((pb_end n f k (n:Nat) n _).trans ?_)
    unfold pbT
    rw [dec_self,cond_false]
theorem pb_spec {n:Nat} {f:Nat→Bg} {k:Bg} {B:Nat} (hn:n≤1000) (hB:B≤100000000000) (hf:PB n f B) (hk:nw k.2≤B):FSpec Tryz.prog 149 [bpA n f,bgA k] (bpA (btl (pbyB f k) n) (pbyB f k)):=by
  have hL:=lok_hd (c:=bodyOf Tryz.f149) (i:=3) 0 (by kernel_rfl) (by kernel_rfl) (toldN_sound (keep:=keepPB) (nils:=[(5,1,2)]) (nr:=.a 174 2 0 fun q=>bgc (pbyB f k q)) (τ:=[some 0,none]) (pb_leads hn hB hf hk))
  refine gspecZ (oneZ_ok (frzK_ok 1)) e_nil (k_cons kS_ok bigK_ok) m_nil Tryz.func149 (by kernel_rfl) (by kernel_rfl) hL rfl ((pb_ev n f k n (pbyB f k) (n:Nat) (btl (pbyB f k) n) (pbyB f k)).trans ?_)
  rw [gate_pos (Sub.refl _),fz1_t,gate_pos (pc_spec (pbyB f k) (by omega))]
  rfl
def pslB (f:Nat→Bg) (i:Nat):Bg:=bmul (f (i+1)) (bOf ((i+1:Nat):Int))
theorem ps_leads {n:Nat} {f:Nat→Bg} {B:Nat} (hn:n≤1000) (hB:B≤100000000000) (hf:PB n f B):Leads Tryz.prog (.loop (loopAt Tryz.f170 0)) (psS n f 1 0 fun q=>bgc (pslB f q)) (.exit 0) (psS n f ((n - 1+1:Nat):Int) (n - 1) fun q=>bgc (pslB f q)):=by
  have key:Leads Tryz.prog (.loop (loopAt Tryz.f170 0)) (psS n f ((0+1:Nat):Int) 0 fun q=>bgc (pslB f q)) (.exit 0) (psS n f ((n - 1+1:Nat):Int) (n - 1) fun q=>bgc (pslB f q)):=by
    refine loop_rule (fun i=>psS n f ((i+1:Nat):Int) i fun q=>bgc (pslB f q)) (n - 1) (.exit 0) _ (by simp) (fun i hi=>?_) ?_
    · have st:=ps_step n f ((i+1:Nat):Int) i fun q=>bgc (pslB f q)
      have b1:=hf (i+1) (by omega)
      have hI:I64 ((i+1:Nat):Int):=⟨by omega,by omega⟩
      have b2:=nw_of hI
      unfold psT at st
      rw [dec_lt (show i+1 < n by omega),Int.toNat_natCast,gOf_pos hI,gMul_pos (by omega) (by omega),ixB_t (show i+1 < n by omega),apB_t (by omega),w64_next (by omega),a6m_eq] at st
      refine (leads_ev (finN_sub _ _) e_nil bigK_ok noL_ok st).sub (Sub.refl _) ?_
      exact sub_same ⟨Or.inr ⟨174,2,i+1,_,_,rfl,rfl,fun q hq=>(app_b hq rfl).symm ▸ rfl⟩,trivial⟩
    · refine leads_ev (finE_sub _ _) e_nil bigK_ok noL_ok ((ps_end n f ((n - 1+1:Nat):Int) (n - 1) _).trans ?_)
      unfold psT
      rw [decide_eq_false (by omega),cond_false]
  exact key
theorem ps_spec {n:Nat} {f:Nat→Bg} {B:Nat} (hn:n≤1000) (hB:B≤100000000000) (hf:PB n f B):FSpec Tryz.prog 170 [bpA n f] (bpA (btl (pslB f) (n - 1)) (pslB f)):=by
  have hL:=lok_hd (c:=bodyOf Tryz.f170) (i:=3) 0 (by kernel_rfl) (by kernel_rfl) (toldN_sound (keep:=keepPS) (nils:=[(3,0,2)]) (nr:=.a 174 2 0 fun q=>bgc (pslB f q)) (τ:=[none]) (ps_leads hn hB hf))
  refine gspecZ (oneZ_ok (frzK_ok 0)) e_nil (k_cons kS_ok bigK_ok) m_nil Tryz.func170 (by kernel_rfl) (by kernel_rfl) hL rfl ((ps_ev n f (n - 1) (pslB f) ((n - 1+1:Nat):Int) (btl (pslB f) (n - 1)) (pslB f)).trans ?_)
  rw [gate_pos (Sub.refl _),fz1_t,gate_pos (pc_spec (pslB f) (by omega))]
  rfl
end Go.Proofs.YtancjnambbkhmaaGreat

namespace Go.Gv

def SlotLike (x y:AV × Chain):Prop:=x.2=[]∧y.2=[]∧∀ (E:Env) (v:Value),rel E x.1 v→rel E y.1 v
def SlotsLike:List (AV × Chain)→List (AV × Chain)→Prop
  | [],[]=>True
  | x::xs,y::ys=>SlotLike x y∧SlotsLike xs ys
  | _,_=>False
theorem slots_like:∀ {xs ys:List (AV × Chain)},SlotsLike xs ys→ys.length=xs.length∧∀ t,SlotLike (xs.getD t dflt) (ys.getD t dflt)
  | [],[],_=>⟨rfl,fun _=>⟨rfl,rfl,fun _ _ h=>h⟩⟩
  | x::xs,y::ys,h=>by
    obtain ⟨h1,h2⟩:=slots_like (xs:=xs) (ys:=ys) h.2
    refine ⟨by simp [h1],fun t=>?_⟩
    cases t with
    | zero=>exact h.1
    | succ t=>exact h2 t
  | [],_::_,h=>h.elim
  | _::_,[],h=>h.elim
theorem sub_slots {np:Nat} {sl sl':List (AV × Chain)} {mem:List Row} (h:SlotsLike sl sl'):SubN np ⟨sl,mem⟩ ⟨sl',mem⟩:=by
  obtain ⟨hl,hs⟩:=slots_like h
  intro A0 R w0 E a hp hI
  refine ⟨E,rfl,hI.defers,?_,hI.wd⟩
  have hf:=hI.frame
  refine ⟨⟨by rw [hf.1.1]; exact hl.symm,hf.1.2⟩,fun t=>?_⟩
  have h0:=hf.2 t
  obtain ⟨h1,h2,h3⟩:=hs t
  have h1':(sl.getD t dflt).2=[]:=h1
  have h2':(sl'.getD t dflt).2=[]:=h2
  show (tru sl' (sl'.getD t dflt).2=true→_)∧(tru sl' (sl'.getD t dflt).2=false→_)
  rw [h2']
  refine ⟨fun _=>h3 E _ (h0.1 ?_),fun h'=>by cases h'⟩
  show tru sl (sl.getD t dflt).2=true
  rw [h1']
  rfl
theorem slotsLike_map {f g:Nat→AV × Chain} (h:∀ i,SlotLike (f i) (g i)):∀ l:List Nat,SlotsLike (l.map f) (l.map g)
  | []=>trivial
  | i::l=>⟨h i,slotsLike_map h l⟩
/-- The last slot that is told, told more weakly. -/
theorem sub_mk1 {np n k:Nat} {l:List (Nat × AV)} {x y:AV} {mem:List Row} (h:∀ (E:Env) (v:Value),rel E x v→rel E y v):SubN np (mkS n (l ++ [(k,x)]) mem) (mkS n (l ++ [(k,y)]) mem):=by
  refine sub_slots (slotsLike_map (fun i=>?_) _)
  refine ⟨rfl,rfl,fun E v hv=>?_⟩
  simp only [List.find?_append] at hv ⊢
  cases hf:l.find? (fun p=>Nat.beq p.1 i) with
  | some p=>rw [hf] at hv; exact hv
  | none =>
    rw [hf] at hv
    simp only [Option.none_or,List.find?_cons,List.find?_nil] at hv ⊢
    cases hb:Nat.beq k i with
    | true=>rw [hb] at hv; exact h E v hv
    | false=>rw [hb] at hv; exact hv
end Go.Gv
