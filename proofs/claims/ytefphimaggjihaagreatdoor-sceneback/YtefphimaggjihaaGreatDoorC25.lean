/-
  Yl Ym Yn Gyn Yo0 Gyz Yo Yp Yp1 Yq Yr Ys Yu Yv Yw0 Yw Yx Yt Ue Uf Ug Uh Ui Hm1 Mk0 Sx1 Fl2 Fl4 Fl5 Fl3 Fl6 Fl7 Fl8 Fl9 Fl10 Fl11 Fl12 Fl13 Fl14 Wh0, one behind the other.
-/
import Derived.Test.YtefphimaggjihaaGreatDoorC24
import Derived.Test.YtefphimaggjihaaGreatDoorC21
import Derived.Defers
import Derived.Recover
import Derived.Tactics
import Derived.Test.YtefphimaggjihaaGreatDoorC23
namespace Go.Proofs.YtefphimaggjihaaGreatDoor.Pi.Rd
open Go.Shelf Go.RowKit Go.Gv
open Hs.So (Prt)
def rdQ (t:Tk) (a:Nat) (z:Nat→Int) (p:AV) (o:Nat→AV):Row:=rdR t a z (oP p o)
def rdP (t:Tk) (a:Nat) (z:Nat→Int) (k m:Nat) (o:Nat→AV):Row:=rdQ t a z (.osl k 16 0 m) o
def rP (m:Nat) (P:Nat→Prt):Row:=.a 71 16 m fun q=>(P q).c
def mP (t:Tk) (a:Nat) (z:Nat→Int) (m:Nat) (P:Nat→Prt) (o:Nat→AV):List Row:=[rdP t a z 1 m o,rP m P]
def mQ (t:Tk) (a:Nat) (z:Nat→Int) (m:Nat) (P:Nat→Prt) (o:Nat→AV):List Row:=[rdP t a z 2 m o,dd,rP m P]
def eqS (l:List UInt8) (s:ByteArray):Bool:=((lB l).toList==s.toList)
def nest:List Bool→Option Out
  | []=>none
  | b::r=>cond b none (nest r)
def wBa:List UInt8:=[98,97,108,108]
def wBk:List UInt8:=[98,108,111,99,107]
def wTu:List UInt8:=[116,117,98,101]
def wTr:List UInt8:=[116,114,105]
def wPl:List UInt8:=[112,108,97,116,101]
def wRi:List UInt8:=[114,105,110,103]
def wBo:List UInt8:=[98,111,116,104]
def wEi:List UInt8:=[101,105,116,104,101,114]
def wLe:List UInt8:=[108,101,115,115]
def ifB (l:List UInt8) (s:ByteArray) (b:Bool):Bool:=cond (eqS l s) b false
section
variable (t:Tk) (a:Nat) (z:Nat→Int) (m:Nat) (P:Nat→Prt) (v:Nat→Value) (y:Int→Nat) (s:ByteArray) (p:Prt) (r:Int)
theorem kpt_ev:evGW Tryz.prog [] [] [] [wRm] [] noL Tryz.f235 [.own 0 0,.agg p.c] (mP t a z m P (vX v)) [some 0,some 1,some 4] =
  qC 196 [iA m,iA 16] (.tup []) (mP t a z m P (vX v) ++ [.c p.c]) (mP t a z m P (vX v) ++ [.c p.c]) (cond ((apB m 128||false)&&true) (gout (iA (w64 (((m+1:Nat):Int) - 1))) [rdP t a z 2 (m+1) (vX v),dd,apR 71 16 m (fun q=>(P q).c) p.c]) none):=by kernel_rfl
noncomputable def wNxS (s:ByteArray):WEntry:=wQ Tryz.prog 167 (fun _ _=>zA s) (fun _ mem=>adv 1 mem)
noncomputable def kMa:KEntry:=kS Tryz.prog 169 (fun _=>maV)
noncomputable def gMa (x:Option Out):Option Out:=gate (FSpec Tryz.prog 169 [] maV) x
def maR (l:List UInt8) (b:Bool) (f:Nat):Row:=.c [zA (lB l),bA b,fnA f]
def R1:List Row:=[maR wBa true 187]
def R2:List Row:=R1 ++ [maR wBk true 188]
def R3:List Row:=R2 ++ [maR wTu true 189]
def R6:List Row:=R3 ++ [maR wTr false 190,maR wPl false 191,maR wRi false 192]
noncomputable def wKp (f d k:Nat) (cs:List AV) (X:List Row):List WEntry:=[wNxS s,wQ Tryz.prog f (fun _ _=>.agg cs) (fun _ mem=>adv d mem),wQ Tryz.prog 235 (fun _ _=>iA r) (fun _ _=>[rdP t (a+1+d) z k (m+1) (vX v),dd] ++ X ++ [rP (m+1) P])]
/-- A leaf is read. -/
noncomputable def lfX (f d k:Nat) (cs:List AV) (X:List Row):Option Out :=
  qC f [] (.agg cs) (mP t (a+1) z m P (vX v) ++ X) (mP t (a+1+d) z m P (vX v) ++ X) (qC 235 [.agg (iA 0::iA 0::iA 0::cs)] (iA r) (mP t (a+1+d) z m P (vX v) ++ X) ([rdP t (a+1+d) z k (m+1) (vX v),dd] ++ X ++ [rP (m+1) P]) (gout (iA r) (mQ t (a+1+d) z (m+1) P (vX v))))
noncomputable def ptN (x:Option Out):Option Out:=qC 167 [] (zA s) (mP t a z m P (vX v)) (mP t (a+1) z m P (vX v)) (gMa x)
def ndO (s:ByteArray):List Bool:=[eqS [] s,eqS wBo s,eqS wEi s,eqS wLe s]
variable (j:Int) (a0 a1 a2 b0 b1 b2 c0 c1 c2 q0 q1:Nat)
theorem pa_ba:evGW Tryz.prog [] [kMa] [] (wKp t a z m P v s r 187 5 3 (scK j a0 a1 a2 b0 b1 b2 c0 c1 c2 q0 q1 0) R1) [] noL Tryz.f216 [.own 0 0] (mP t a z m P (vX v)) [some 0,some 1,some 3] =
  ptN t a z m P v s (cond (ifB wBa s true) (lfX t a z m P v r 187 5 3 (scK j a0 a1 a2 b0 b1 b2 c0 c1 c2 q0 q1 0) R1) (nest ([ifB wBk s true,ifB wTu s true,ifB wTr s false,ifB wPl s false,ifB wRi s false] ++ ndO s))):=by kernel_rfl
theorem pa_bk:evGW Tryz.prog [] [kMa] [] (wKp t a z m P v s r 188 7 4 (scK j a0 a1 a2 b0 b1 b2 c0 c1 c2 q0 q1 0) R2) [] noL Tryz.f216 [.own 0 0] (mP t a z m P (vX v)) [some 0,some 1,some 4] =
  ptN t a z m P v s (cond (ifB wBa s true) none (cond (ifB wBk s true) (lfX t a z m P v r 188 7 4 (scK j a0 a1 a2 b0 b1 b2 c0 c1 c2 q0 q1 0) R2) (nest ([ifB wTu s true,ifB wTr s false,ifB wPl s false,ifB wRi s false] ++ ndO s)))):=by kernel_rfl
theorem pa_tu:evGW Tryz.prog [] [kMa] [] (wKp t a z m P v s r 189 9 5 (scK j a0 a1 a2 b0 b1 b2 c0 c1 c2 q0 q1 0) R3) [] noL Tryz.f216 [.own 0 0] (mP t a z m P (vX v)) [some 0,some 1,some 5] =
  ptN t a z m P v s (cond (ifB wBa s true) none (cond (ifB wBk s true) none (cond (ifB wTu s true) (lfX t a z m P v r 189 9 5 (scK j a0 a1 a2 b0 b1 b2 c0 c1 c2 q0 q1 0) R3) (nest ([ifB wTr s false,ifB wPl s false,ifB wRi s false] ++ ndO s))))):=by kernel_rfl
variable (b m1:Nat)
noncomputable def wPr:List WEntry:=[wNxS s,wQ Tryz.prog 236 (fun _ _=>iA r) (fun _ _=>[rdP t b z 8 m1 (vX v),dd] ++ R6 ++ [rP m1 P])]
noncomputable def prX (op:Int):Option Out:=qC 236 [iA op] (iA r) (mP t (a+1) z m P (vX v) ++ R6) ([rdP t b z 8 m1 (vX v),dd] ++ R6 ++ [rP m1 P]) (gout (iA r) (mQ t b z m1 P (vX v)))
noncomputable def noM (s:ByteArray) (x0 x:Option Out):Option Out:=cond (ifB wBa s true) none (cond (ifB wBk s true) none (cond (ifB wTu s true) none (cond (ifB wTr s false) none (cond (ifB wPl s false) none (cond (ifB wRi s false) none (cond (eqS [] s) x0 x))))))
theorem pa_nd:evGW Tryz.prog [] [kMa] [] (wPr t z P v s r b m1) [] noL Tryz.f216 [.own 0 0] (mP t a z m P (vX v)) [some 0,some 1,some 8] =
  ptN t a z m P v s (noM s (prX t a z m P v r b m1 0) (cond (eqS wBo s) (prX t a z m P v r b m1 1) (cond (eqS wEi s) (prX t a z m P v r b m1 2) (cond (eqS wLe s) (prX t a z m P v r b m1 3) none)))):=by kernel_rfl
variable (b1 b2 m2:Nat) (l k:Int) (op:Int)
def zU (z:Nat→Int):Nat→Int:=setZ z 28 (w64 (z 28+1))
def zD (z:Nat→Int):Nat→Int:=setZ z 28 (w64 (z 28 - 1))
def nodC (op l r:Int):List AV:=[iA op,iA l,iA r,iA 0,.f 0,.f 0,.f 0,.f 0,.f 0,.f 0,.f 0,.f 0,.f 0,.f 0,.f 0,iA 0]
def mP3 (a:Nat) (z:Nat→Int) (m:Nat):List Row:=[rdP t a z 3 m (vX v),dd,dd,rP m P]
def mP4 (a:Nat) (z:Nat→Int) (m:Nat):List Row:=[rdP t a z 4 m (vX v),dd,dd,dd,rP m P]
noncomputable def wPp (z:Nat→Int):List WEntry:=[wAk,wQ Tryz.prog 219 (fun _ _=>.tup []) (fun _ mem=>adv 1 mem),wQ Tryz.prog 216 (fun _ mem=>cond (Nat.beq mem.length 2) (iA l) (iA r)) (fun _ mem=>cond (Nat.beq mem.length 2) (mQ t b1 (zU z) m1 P (vX v)) (mP3 t P v b2 (zU z) m2)),wQ Tryz.prog 235 (fun _ _=>iA k) (fun _ _=>mP4 t P v (b2+1) (zD (zU z)) (m2+1))]
theorem pr_ev:evGW Tryz.prog [] [] [] (wPp t P v r m1 b1 b2 m2 l k z) [] noL Tryz.f236 [.own 0 0,iA op] (mP t a z m P (vX v)) [some 0,some 1,some 4] =
  qC 219 [iA (z 28)] (.tup []) (mP t a z m P (vX v)) (mP t (a+1) z m P (vX v)) (
  qC 216 [] (iA l) (mP t (a+1) (zU z) m P (vX v)) (mQ t b1 (zU z) m1 P (vX v)) (
  qC 216 [] (iA r) (mQ t b1 (zU z) m1 P (vX v)) (mP3 t P v b2 (zU z) m2) (
  qAsk [125] (mP3 t P v b2 (zU z) m2) (mP3 t P v (b2+1) (zU z) m2) (
  qC 235 [.agg (nodC op l r)] (iA k) (mP3 t P v (b2+1) (zD (zU z)) m2) (mP4 t P v (b2+1) (zD (zU z)) (m2+1)) (
  gout (iA k) (mQ t (b2+1) (zD (zU z)) (m2+1) P (vX v))))))):=by kernel_rfl
end
end Go.Proofs.YtefphimaggjihaaGreatDoor.Pi.Rd

namespace Go.Proofs.YtefphimaggjihaaGreatDoor.Pi.Rd
open Go.Shelf Go.RowKit Go.Gv
open Hs.So (Prt)
def rdM27 (t:Tk) (x:Int) (z:Nat→Int) (p:AV):List (Option AV):=[some (tkSl t),some (iA x),none,none,none,none,none,none,none,none,none,none,none,none,none,none,none,none,none,none,none,some (iA (z 21)),some (iA (z 22)),some (iA (z 23)),some (iA (z 24)),some (iA (z 25)),some (iA (z 26)),some p,some (iA (z 28))]
theorem rdQ_ren (σ:Nat→Option Nat) (t:Tk) (a:Nat) (z:Nat→Int) (p:AV) (v:Nat→Value):renRow σ (rdQ t a z p (vX v))=rdQ t a z (renA σ p) (vX v):=rfl
section
variable {t:Tk} {a:Nat} {z:Nat→Int}
/-- A method that changes the parts: among all rows. -/
theorem liftP {f b m m':Nat} {args:List AV} {r:AV} {z':Nat→Int} {P:Nat→Prt} (ha:∀ σ,renL σ args=args) (hr:∀ σ,renA σ r=r) (h:∀ v,GSpec Tryz.prog f (.own 0 0::args) (mP t a z m P (vX v)) r (mQ t b z' m' P (vX v))) {k:Nat} {rs:List Row} (hrow:rs[k]?=some (rP m P)) (o:Nat→AV) :
    WSpec Tryz.prog f (.own 0 0::args) (rdP t a z (k+1) m o::rs) r (rdP t b z' (rs.length+1) m' o::(rs.set k dd ++ [rP m' P])):=by
  have hk:k < rs.length:=(List.getElem?_eq_some_iff.1 hrow).1
  refine holW (l:=rdM27 t (a:Nat) z (.osl (k+1) 16 0 m)) (l':=rdM27 t (b:Nat) z' (.osl (rs.length+1) 16 0 m')) rfl fun v=>?_
  have hw:=wframe (args:=.own 0 0::args) (mem:=rdP t a z (k+1) m (vX v)::rs) (mem':=(rdP t b z' (rs.length+1) m' (vX v)::rs.set k dd) ++ [rP m' P]) (h v) [0,k+1] rfl (by show (_&&(_&&true))=true; simp) (by show _=_::renL _ args; rw [ha]; rfl) (fun i j hi=>?_) ⟨fun j hj hl=>?_,fun i j r hi hr=>?_,fun i r hi hr=>?_⟩
  · rw [hr] at hw
    exact hw
  · match i,hi with
    | 0,hi =>
      simp at hi; subst hi
      refine ⟨_,rfl,rfl,?_⟩
      show some _=some (renRow _ (rdQ t a z (.osl (k+1) 16 0 m) (vX v)))
      rw [rdQ_ren]
      simp [renA,ixOf,List.findIdx?_cons,rdP]
    | 1,hi =>
      simp at hi
      subst hi
      exact ⟨rP m P,by simpa using hrow,rfl,rfl⟩
    | n+2,hi=>simp at hi
  · have h0:j≠0:=fun e=>hj (by simp [e])
    have h1:j≠k+1:=fun e=>hj (by simp [e])
    obtain ⟨q,rfl⟩:∃ q,j=q+1:=⟨j - 1,by omega⟩
    have hq:q < rs.length:=by simpa using hl
    rw [List.getElem?_append_left (by simpa using hq)]
    simp only [List.getElem?_cons_succ]
    rw [List.getElem?_set_ne (by omega)]
  · match i,hi with
    | 0,hi =>
      simp at hi; subst hi
      cases hr
      show some (rdQ t b z' (.osl (rs.length+1) 16 0 m') (vX v))=some (renRow _ (rdQ t b z' (.osl 2 16 0 m') (vX v)))
      rw [rdQ_ren]
      simp [renA,putF]
    | 1,hi =>
      simp at hi; subst hi
      cases hr
      show ((_::rs.set k dd) ++ [rP m' P])[k+1]?=some .dead
      rw [List.getElem?_append_left (by simpa using hk)]
      simp only [List.getElem?_cons_succ]
      rw [List.getElem?_set_self hk]
      rfl
    | n+2,hi=>simp at hi
  · match i,hi,hr with
    | 0,hi,_=>exact absurd hi (by show ¬ 2≤0; omega)
    | 1,hi,_=>exact absurd hi (by show ¬ 2≤1; omega)
    | 2,_,hr =>
      cases hr
      show ((_::rs.set k dd) ++ [rP m' P])[rs.length+1+0]?=some _
      rw [List.getElem?_append_right (by simp)]
      simp [renRow,rP]
    | n+3,_,hr=>cases hr
theorem row_prt {P:Nat→Prt} {m:Nat} {p:Prt} (hp:P m=p) {q:Nat} (hq:q < m+1):(P q).c=mixL (Nat.blt q m) (P q).c (spread m [p.c] q):=by
  by_cases h:q < m
  · rw [show Nat.blt q m=true from Nat.ble_eq_true_of_le h]
    rfl
  · have h2:q=m:=by omega
    have:Nat.blt q m=false:=by
      cases hb:Nat.blt q m
      · rfl
      · exact absurd (Nat.le_of_ble_eq_true hb) (by omega)
    rw [this,h2,hp]
    rfl
theorem keepPart_spec {m:Nat} {P:Nat→Prt} {p:Prt} (hp:P m=p) (hm:m < 16) (v:Nat→Value):GSpec Tryz.prog 235 [.own 0 0,.agg p.c] (mP t a z m P (vX v)) (iA (m:Nat)) (mQ t a z (m+1) P (vX v)):=by
  have k:GSpec Tryz.prog 235 [.own 0 0,.agg p.c] (mP t a z m P (vX v)) (iA (w64 (((m+1:Nat):Int) - 1))) [rdP t a z 2 (m+1) (vX v),dd,apR 71 16 m (fun q=>(P q).c) p.c]:=by
    refine gspecGW e_nil k_nil m_nil (w_cons wQ_ok w_nil) r_nil Tryz.func235 (by kernel_rfl) (by kernel_rfl) (mem:=mP t a z m P (vX v)) noL_okN rfl (τ:=[some 0,some 1,some 4]) (by rfl) ((kpt_ev t a z m P v p).trans ?_)
    refine (qC_lf (room_spec t a z (x:=m) (y:=16) (by omega)) (fun _=>rfl) (fun _=>rfl) _ _ _).trans ?_
    rw [apB_t (by omega)]
    rfl
  rw [w64_id (by omega) (by omega),show ((m+1:Nat):Int) - 1=(m:Nat) by omega] at k
  exact k.of_rows ⟨Or.inl rfl,Or.inl rfl,Or.inr ⟨71,16,m+1,_,_,rfl,rfl,fun q hq=>row_prt hp hq⟩,trivial⟩
theorem keepPart_w {m:Nat} {P:Nat→Prt} {p:Prt} (hp:P m=p) (hm:m < 16) {k:Nat} {rs:List Row} (hrow:rs[k]?=some (rP m P)) (o:Nat→AV):WSpec Tryz.prog 235 [.own 0 0,.agg p.c] (rdP t a z (k+1) m o::rs) (iA (m:Nat)) (rdP t a z (rs.length+1) (m+1) o::(rs.set k dd ++ [rP (m+1) P])) :=
  liftP (fun _=>rfl) (fun _=>rfl) (fun v=>keepPart_spec hp hm v) hrow o
end
end Go.Proofs.YtefphimaggjihaaGreatDoor.Pi.Rd

namespace Go.Proofs.YtefphimaggjihaaGreatDoor.Pi.Rd
open Go.Shelf Go.RowKit Go.Gv
open Hs.So (Prt)
open Hs (shC)
theorem eqS_eq (l l':List UInt8):eqS l (lB l')=decide (l=l'):=by
  unfold eqS
  rw [sEq,bL_lB,bL_lB]
theorem ifB_eq (l l':List UInt8) (b:Bool):ifB l (lB l') b=(decide (l=l')&&b):=by
  unfold ifB
  rw [eqS_eq]
  cases decide (l=l')<;>rfl
/-- The tokens of a leaf. -/
inductive LfOk (t:Tk) (z:Nat→Int) (a:Nat) (k:Int) (α:Nat→Nat):Nat→Prop where
  | ba (h:Has t a 1) (w:Is t a wBa) (l:∀ x,Lf t 187 [] (.agg (shC k α 0)) (a+1) 5 (setZ z 28 x) (setZ z 28 x)):LfOk t z a k α 6
  | bk (h:Has t a 1) (w:Is t a wBk) (l:∀ x,Lf t 188 [] (.agg (shC k α 0)) (a+1) 7 (setZ z 28 x) (setZ z 28 x)):LfOk t z a k α 8
  | tu (h:Has t a 1) (w:Is t a wTu) (l:∀ x,Lf t 189 [] (.agg (shC k α 0)) (a+1) 9 (setZ z 28 x) (setZ z 28 x)):LfOk t z a k α 10
/-- The tokens of a part, and the parts that they are: how deep, from which token, which part on; up to which. -/
inductive PtOk (t:Tk) (z:Nat→Int) (P:Nat→Prt):Nat→Nat→Nat→Nat→Nat→Prop where
  | leaf {d a m n:Nat} {k:Int} {α:Nat→Nat} (h:LfOk t z a k α n) (hp:P m=⟨0,0,0,k,α,0⟩) (hm:m < 16):PtOk t z P d a m (a+n) (m+1)
  | node {d a m b1 m1 b2 m2:Nat} {op:Int} (hop:(op=1∧Is t a wBo)∨(op=2∧Is t a wEi)∨(op=3∧Is t a wLe)) (hh:Has t a 2) (hb:Is t (a+1) [123]) (l:PtOk t z P d (a+2) m b1 m1) (r:PtOk t z P d b1 m1 b2 m2) (he:Has t b2 1) (hc:Is t b2 [125])
      (hp:P m2=⟨op,((m1 - 1:Nat):Int),((m2 - 1:Nat):Int),0,fun _=>0,0⟩) (hm:m2 < 16):PtOk t z P (d+1) a m (b2+1) (m2+1)
section
variable {t:Tk} {z:Nat→Int} {P:Nat→Prt}
theorem wKp_ok {a m f d k:Nat} {v:Nat→Value} {s:ByteArray} {r:Int} {cs:List AV} {X:List Row}:∀ e,e ∈ wKp t a z m P v s r f d k cs X→WEOk Tryz.prog e:=w_cons wQ_ok (w_cons wQ_ok (w_cons wQ_ok w_nil))
theorem kMa_ok:∀ e,e ∈ [kMa]→KOk Tryz.prog e:=k_cons kS_ok k_nil
theorem ptN_t {a m:Nat} {v:Nat→Value} {s:ByteArray} (h:Has t a 1) (hs:t.T a=s) (x:Option Out):ptN t a z m P v s x=x:=by
  unfold ptN gMa
  rw [show ∀ k,qC 167 [] (zA s) (mP t a z m P (vX v)) (mP t (a+1) z m P (vX v)) k=k from fun k=>qC_lf (by rw [← hs]; exact next_spec z h) (fun _=>rfl) (fun _=>rfl) _ _ k,gate_pos ma_spec]
theorem lfX_t {a m f d k:Nat} {v:Nat→Value} {kk:Int} {α:Nat→Nat} {X:List Row} (hl:Lf t f [] (.agg (shC kk α 0)) (a+1) d z z) (hp:P m=⟨0,0,0,kk,α,0⟩) (hm:m < 16) (hk:X.length+2=k):lfX t a z m P v (m:Nat) f d k (shC kk α 0) X=gout (iA (m:Nat)) (mQ t (a+1+d) z (m+1) P (vX v)):=by
  unfold lfX
  refine (qC_lf hl (fun _=>rfl) (fun _=>rfl) _ _ _).trans ?_
  have hw:=keepPart_w (t:=t) (a:=a+1+d) (z:=z) hp hm (k:=0) (rs:=rP m P::X) rfl (vX v)
  rw [show (rP m P::X).length+1=k by simp; omega] at hw
  exact qC_t hw _
theorem leaf_spec {a m n:Nat} {k:Int} {α:Nat→Nat} (h:LfOk t z a k α n) (hp:P m=⟨0,0,0,k,α,0⟩) (hm:m < 16) (x:Int) (v:Nat→Value):GSpec Tryz.prog 216 [.own 0 0] (mP t a (setZ z 28 x) m P (vX v)) (iA (m:Nat)) (mQ t (a+n) (setZ z 28 x) (m+1) P (vX v)):=by
  cases h with
  | ba h w l =>
    refine gspecGW e_nil kMa_ok m_nil wKp_ok r_nil Tryz.func216 (by kernel_rfl) (by kernel_rfl) (mem:=mP t a (setZ z 28 x) m P (vX v)) noL_okN rfl (τ:=[some 0,some 1,some 3]) (by rfl) ((pa_ba t a (setZ z 28 x) m P v (lB wBa) (m:Nat) k (α 0) (α 1) (α 2) (α 3) (α 4) (α 5) (α 6) (α 7) (α 8) (α 9) (α 10)).trans ?_)
    rw [ptN_t h w,ifB_eq]
    exact lfX_t (l x) hp hm rfl
  | bk h w l =>
    refine gspecGW e_nil kMa_ok m_nil wKp_ok r_nil Tryz.func216 (by kernel_rfl) (by kernel_rfl) (mem:=mP t a (setZ z 28 x) m P (vX v)) noL_okN rfl (τ:=[some 0,some 1,some 4]) (by rfl) ((pa_bk t a (setZ z 28 x) m P v (lB wBk) (m:Nat) k (α 0) (α 1) (α 2) (α 3) (α 4) (α 5) (α 6) (α 7) (α 8) (α 9) (α 10)).trans ?_)
    rw [ptN_t h w,ifB_eq,ifB_eq]
    exact lfX_t (l x) hp hm rfl
  | tu h w l =>
    refine gspecGW e_nil kMa_ok m_nil wKp_ok r_nil Tryz.func216 (by kernel_rfl) (by kernel_rfl) (mem:=mP t a (setZ z 28 x) m P (vX v)) noL_okN rfl (τ:=[some 0,some 1,some 5]) (by rfl) ((pa_tu t a (setZ z 28 x) m P v (lB wTu) (m:Nat) k (α 0) (α 1) (α 2) (α 3) (α 4) (α 5) (α 6) (α 7) (α 8) (α 9) (α 10)).trans ?_)
    rw [ptN_t h w,ifB_eq,ifB_eq,ifB_eq]
    exact lfX_t (l x) hp hm rfl
theorem setZ_at (z:Nat→Int) (i:Nat) (x:Int):setZ z i x i=x:=by unfold setZ; rw [Nat.beq_refl]; rfl
theorem setZ_set (z:Nat→Int) (i:Nat) (x y:Int):setZ (setZ z i x) i y=setZ z i y:=by
  funext q
  unfold setZ
  cases Nat.beq q i<;>rfl
theorem zU_eq (z:Nat→Int) {x:Int} (h0:0≤x) (h1:x≤3):zU (setZ z 28 x)=setZ z 28 (x+1):=by
  unfold zU
  rw [setZ_at,setZ_set,w64_id (by omega) (by omega)]
theorem zD_eq (z:Nat→Int) {x:Int} (h0:0≤x) (h1:x≤3):zD (setZ z 28 (x+1))=setZ z 28 x:=by
  unfold zD
  rw [setZ_at,setZ_set,w64_id (by omega) (by omega),show x+1 - 1=x by omega]
def PSpec (t:Tk) (z:Nat→Int) (P:Nat→Prt) (a m b m':Nat):Prop:=∀ v:Nat→Value,GSpec Tryz.prog 216 [.own 0 0] (mP t a z m P (vX v)) (iA ((m' - 1:Nat):Int)) (mQ t b z m' P (vX v))
theorem pair_spec {a m b1 m1 b2 m2:Nat} {op x:Int} (hx0:0≤x) (hx:x < 3) (hh:Has t a 1) (hb:Is t a [123]) (l:PSpec t (setZ z 28 (x+1)) P (a+1) m b1 m1) (r:PSpec t (setZ z 28 (x+1)) P b1 m1 b2 m2) (he:Has t b2 1) (hc:Is t b2 [125])
    (hp:P m2=⟨op,((m1 - 1:Nat):Int),((m2 - 1:Nat):Int),0,fun _=>0,0⟩) (hm:m2 < 16) (v:Nat→Value):GSpec Tryz.prog 236 [.own 0 0,iA op] (mP t a (setZ z 28 x) m P (vX v)) (iA (m2:Nat)) (mQ t (b2+1) (setZ z 28 x) (m2+1) P (vX v)):=by
  have e:=pr_ev t a (setZ z 28 x) m P v ((m2 - 1:Nat):Int) m1 b1 b2 m2 ((m1 - 1:Nat):Int) (m2:Nat) op
  have hU:=zU_eq z hx0 (by omega)
  rw [hU,zD_eq z hx0 (by omega)] at e
  refine gspecGW e_nil k_nil m_nil (w_cons wQ_ok (w_cons wQ_ok (w_cons wQ_ok (w_cons wQ_ok w_nil)))) r_nil Tryz.func236 (by kernel_rfl) (by kernel_rfl) (mem:=mP t a (setZ z 28 x) m P (vX v)) noL_okN rfl (τ:=[some 0,some 1,some 4]) (by rfl) (e.trans ?_)
  refine (qC_lf (brace_spec (setZ z 28 x) hh hb (by rw [setZ_at]; omega)) (fun _=>rfl) (fun _=>rfl) _ _ _).trans ?_
  refine (qC_t (wspec_of (l v)) _).trans ?_
  refine (qC_t (liftP (fun _=>rfl) (fun _=>rfl) r (k:=1) (rs:=[dd,rP m1 P]) rfl (vX v)) _).trans ?_
  refine (qAsk_t he hc _ _ _).trans ?_
  exact qC_t (keepPart_w hp hm (k:=2) (rs:=[dd,dd,rP m2 P]) rfl (vX v)) _
theorem part_spec {d a m b m':Nat} (h:PtOk t z P d a m b m'):∀ x:Int,0≤x→x+(d:Nat)≤3→PSpec t (setZ z 28 x) P a m b m':=by
  induction h with
  | leaf h hp hm=>intro x _ _ v; exact leaf_spec h hp hm x v
  | @node d a m b1 m1 b2 m2 op hop hh hb l r he hc hp hm ihl ihr =>
    intro x hx0 hx v
    have hl:=ihl (x+1) (by omega) (by omega)
    have hr:=ihr (x+1) (by omega) (by omega)
    have hpr:∀ v,GSpec Tryz.prog 236 [.own 0 0,iA op] (mP t (a+1) (setZ z 28 x) m P (vX v)) (iA (m2:Nat)) (mQ t (b2+1) (setZ z 28 x) (m2+1) P (vX v)):=pair_spec hx0 (by omega) (hh.sub 1 1 (by omega)) hb hl hr he hc hp hm
    have hwp:=liftP (fun _=>rfl) (fun _=>rfl) hpr (k:=0) (rs:=rP m P::R6) rfl (vX v)
    have hx:∀ k,qC 236 [iA op] (iA (m2:Nat)) (mP t (a+1) (setZ z 28 x) m P (vX v) ++ R6) ([rdP t (b2+1) (setZ z 28 x) 8 (m2+1) (vX v),dd] ++ R6 ++ [rP (m2+1) P]) k=k:=fun k=>qC_t hwp k
    have go:∀ s,t.T a=lB s→(s=wBo∨s=wEi∨s=wLe)→(cond (eqS wBo (lB s)) (prX t a (setZ z 28 x) m P v (m2:Nat) (b2+1) (m2+1) 1) (cond (eqS wEi (lB s)) (prX t a (setZ z 28 x) m P v (m2:Nat) (b2+1) (m2+1) 2) (cond (eqS wLe (lB s)) (prX t a (setZ z 28 x) m P v (m2:Nat) (b2+1) (m2+1) 3) none))=gout (iA (m2:Nat)) (mQ t (b2+1) (setZ z 28 x) (m2+1) P (vX v))) →
        GSpec Tryz.prog 216 [.own 0 0] (mP t a (setZ z 28 x) m P (vX v)) (iA (m2:Nat)) (mQ t (b2+1) (setZ z 28 x) (m2+1) P (vX v)):=fun s hs hw2 hk=>by
      refine gspecGW e_nil kMa_ok m_nil (w_cons wQ_ok (w_cons wQ_ok w_nil)) r_nil Tryz.func216 (by kernel_rfl) (by kernel_rfl) (mem:=mP t a (setZ z 28 x) m P (vX v)) noL_okN rfl (τ:=[some 0,some 1,some 8]) (by rfl) ((pa_nd t a (setZ z 28 x) m P v (lB s) (m2:Nat) (b2+1) (m2+1)).trans ?_)
      rw [ptN_t (a:=a) (hh.sub 0 1 (by omega)) hs]
      unfold noM
      rw [ifB_eq,ifB_eq,ifB_eq,ifB_eq,ifB_eq,ifB_eq,eqS_eq [] s]
      rw [show (decide (wBa=s))=false by rcases hw2 with rfl | rfl | rfl<;>decide,show (decide (wBk=s))=false by rcases hw2 with rfl | rfl | rfl<;>decide,show (decide (wTu=s))=false by rcases hw2 with rfl | rfl | rfl<;>decide,show (decide ([]=s))=false by rcases hw2 with rfl | rfl | rfl<;>decide]
      rw [Bool.and_false,Bool.and_false,Bool.and_false]
      exact hk
    rcases hop with ⟨rfl,hq⟩ | ⟨rfl,hq⟩ | ⟨rfl,hq⟩
    · exact go wBo hq (Or.inl rfl) (by rw [eqS_eq]; exact hx _)
    · exact go wEi hq (Or.inr (Or.inl rfl)) (by rw [eqS_eq,eqS_eq]; exact hx _)
    · exact go wLe hq (Or.inr (Or.inr rfl)) (by rw [eqS_eq,eqS_eq,eqS_eq]; exact hx _)
end
end Go.Proofs.YtefphimaggjihaaGreatDoor.Pi.Rd

namespace Go.Gv

end Go.Gv

namespace Go.Gv
open Go.RowKit Go.Ev
theorem wd_like {A0 R:Nat→Prop} {w0 E:Env} {mem mem':List Row} (hW:Wd A0 R w0 E mem) (h:RowsLike mem mem'):Wd A0 R w0 E mem':=by
  have lives:∀ k,liveAt mem' k=liveAt mem k:=fun k=>by
    unfold liveAt
    rcases h.get k with ⟨h1,h2⟩ | ⟨r,r',h1,h2,h3⟩
    · rw [h1,h2]
    · rw [h1,h2]
      rcases h3 with rfl | ⟨e,sz,n,el,el',rfl,rfl,_⟩ | ⟨l,l',rfl,rfl,_⟩<;>rfl
  refine ⟨fun k b c hb=>?_,hW.small,hW.old,fun k b c hb hl=>hW.own k b c hb (by rw [← lives]; exact hl),fun k k' b c c' hb hb' hl hl'=>hW.one k k' b c c' hb hb' (by rw [← lives]; exact hl) (by rw [← lives]; exact hl'),hW.below,hW.le0⟩
  obtain ⟨row,h1,h2⟩:=hW.rows k b c hb
  rcases h.get k with ⟨g1,_⟩ | ⟨r,r',g1,g2,g3⟩
  · have:mem[k]?=some row:=h1
    rw [g1] at this; cases this
  · have:mem[k]?=some row:=h1
    rw [g1] at this
    cases this
    refine ⟨r',g2,?_⟩
    rcases g3 with rfl | ⟨e,sz,n,el,el',rfl,rfl,g4⟩ | ⟨l,l',rfl,rfl,g4⟩
    · exact h2
    · obtain ⟨cs,k1,k2,k3,k4,k5,k6⟩:=h2
      exact ⟨cs,k1,k2,k3,k4,k5,fun i hi=>⟨(g4 i hi).1.trans (k6 i hi).1,(g4 i hi).2 _ _ (k6 i hi).2⟩⟩
    · obtain ⟨cs,e,k1,k2⟩:=h2
      exact ⟨cs,e,k1,g4 _ _ k2⟩
theorem wd_ext {A0 R:Nat→Prop} {w0 E:Env} {mem:List Row} (X:List Row) (hW:Wd A0 R w0 E mem):Wd A0 R w0 E (mem ++ X):=by
  have hg:∀ k p,E.O k=some p→(mem ++ X)[k]?=mem[k]?:=fun k p hk=>List.getElem?_append_left (hW.dom k p.1 p.2 hk)
  have lives:∀ k p,E.O k=some p→liveAt (mem ++ X) k=liveAt mem k:=fun k p hk=>by unfold liveAt; rw [hg k p hk]
  refine ⟨fun k b c hb=>?_,hW.small,hW.old,fun k b c hb hl=>hW.own k b c hb (by rw [← lives k _ hb]; exact hl),fun k k' b c c' hb hb' hl hl'=>hW.one k k' b c c' hb hb' (by rw [← lives k _ hb]; exact hl) (by rw [← lives k' _ hb']; exact hl'),hW.below,hW.le0⟩
  obtain ⟨row,h1,h2⟩:=hW.rows k b c hb
  exact ⟨row,(hg k _ hb).trans h1,h2⟩
/-- A call that is handed rows of which more is known. -/
theorem WSpec.pre_like {P:Program} {f:Nat} {args:List AV} {mem mem' mem1:List Row} {v:AV} (h:WSpec P f args mem' v mem1) (hl:RowsLike mem mem'):WSpec P f args mem v mem1 :=
  ⟨h.1,fun A0 R w0 E cargs hW hg hr=>h.2 A0 R w0 E cargs (wd_like hW hl) hg hr⟩
theorem WSpec.pre_ext {P:Program} {f:Nat} {args:List AV} {mem mem1:List Row} {v:AV} {X:List Row} (h:WSpec P f args (mem ++ X) v mem1):WSpec P f args mem v mem1 :=
  ⟨h.1,fun A0 R w0 E cargs hW hg hr=>h.2 A0 R w0 E cargs (wd_ext X hW) hg hr⟩
theorem sub_ext {np:Nat} {sl:List (AV × Chain)} {mem:List Row} (X:List Row):SubN np ⟨sl,mem⟩ ⟨sl,mem ++ X⟩:=fun _ _ _ E _ _ hI=>⟨E,rfl,hI.defers,hI.frame,wd_ext X hI.wd⟩
/-- Cells that say no more. -/
def CL:List AV→List AV→Prop
  | [],[]=>True
  | x::xs,y::ys=>(y=x∨∀ (E:Env) (u:Value),rel E x u→rel E y u)∧CL xs ys
  | _,_=>False
theorem CL.pre:∀ {l l':List AV},CL l l'→∀ (E:Env) (us:List Value),pre E l us→pre E l' us
  | [],[],_,_,_,_=>pre_nil
  | x::xs,y::ys,h,E,us,hp=>by
    obtain ⟨u,us',rfl,h1,h2⟩:=pre_cons.1 hp
    refine pre_cons.2 ⟨u,us',rfl,?_,CL.pre h.2 E us' h2⟩
    rcases h.1 with rfl | g
    · exact h1
    · exact g E u h1
  | [],_::_,h,_,_,_=>h.elim
  | _::_,[],h,_,_,_=>h.elim
theorem likeC {l l':List AV} (h:CL l l'):RowLike (.c l) (.c l'):=Or.inr (Or.inr ⟨l,l',rfl,rfl,h.pre⟩)
theorem likeA {e sz n:Nat} {el el':Nat→List AV} (h:∀ i,i < n→el' i=el i):RowLike (.a e sz n el) (.a e sz n el'):=Or.inr (Or.inl ⟨e,sz,n,el,el',rfl,rfl,fun i hi=>by rw [h i hi]; exact ⟨rfl,fun _ _ h=>h⟩⟩)
/-- A CALL THAT GIVES A NEW ROW: told as frozen behind it. -/
theorem wspec_frz {P:Program} {f:Nat} {args:List AV} {mem mem1 mem2:List Row} {v:AV} {k:Nat} {e:TypeId} {sz n:Nat} {el:Nat→List AV} (h:WSpec P f args mem v mem1) (hl:∀ j,j < mem.length→liveAt mem j=true→liveAt mem1 j=true) (hK:mem.length≤k) (hk:mem1[k]?=some (.a e sz n el))
    (hM:∀ j row,mem1[j]?=some row→∃ row',mem2[j]?=some row'∧((j=k∧row'=.dead)∨(j≠k∧(row'=row∨∃ l l',row=.c l∧row'=.c l'∧FrzL k sz n el l l')))):WSpec P f args mem v mem2:=by
  refine ⟨h.1,fun A0 R w0 E cargs hW hg hr=>?_⟩
  let R':Nat→Prop:=fun b=>∃ k c,E.O k=some (b,c)∧liveAt mem k=true
  have hW1:Wd E.A R' E E mem:=⟨hW.rows,hW.small,fun _ h=>h,fun k b c hb hl=>⟨(hW.own k b c hb hl).1,Or.inl ⟨k,c,hb,hl⟩⟩,hW.one,BelowR.refl _ _,Env.le.refl _⟩
  refine (h.2 E.A R' E E cargs hW1 hg hr).mono ?_
  rintro e' w' ⟨u,E',rfl,rfl,hle1,hwd,hu⟩
  have hlk:liveAt mem1 k=true:=by unfold liveAt; rw [hk]; rfl
  have hnew:∀ b c,E'.O k=some (b,c)→E.w.heap.size≤b:=fun b c hb=>by
    rcases (hwd.own k b c hb hlk).2 with ⟨j,c',hj,hlj⟩ | h2
    · have hjl:=hW.dom j b c' hj
      have h1:=hl j hjl hlj
      have:=hwd.one k j b c c' hb (hle1.own j _ hj) hlk h1
      omega
    · exact h2
  let E2:Env:={ E' with A:=fun b=>E'.A b∧∀ c,E'.O k≠some (b,c) }
  have hle:E'.le E2:=⟨fun b hb ob hob=>⟨fun h=>hb h.1,hob⟩,fun _ _ h=>h⟩
  have hrow:∀ u,rel E' (.osl k sz 0 n) u→rel E2 (.sl sz n el) u:=fun u hu=>by
    rcases rel_osl.1 hu with ⟨_,h0,rfl⟩ | ⟨b,c,n0,hO,h1,h2,rfl⟩
    · exact rel_sl.2 ⟨none,0,by rw [h0],by omega,Or.inl h0⟩
    · obtain ⟨row,g1,g2⟩:=hwd.rows k b (c,n0) hO
      rw [hk] at g1
      cases g1
      obtain ⟨cs,h3,h4,h5,h6,h7,h8⟩:=g2
      refine rel_sl.2 ⟨_,_,rfl,by omega,Or.inr ⟨b,0,cs,e,(0,0),by rw [Nat.zero_mul],fun h=>h.2 _ hO,h3,fun i hi=>?_⟩⟩
      obtain ⟨h9,h10⟩:=h8 i hi
      refine ⟨h9,?_⟩
      rw [Nat.zero_add]
      exact pre_le hle.fz h10
  have hlive:∀ j,liveAt mem2 j=true→(∃ p,E'.O j=some p)→j≠k∧liveAt mem1 j=true:=fun j hj ⟨p,hp⟩=>by
    obtain ⟨row,g1,_⟩:=hwd.rows j p.1 p.2 hp
    obtain ⟨row',g2,g3⟩:=hM j row g1
    unfold liveAt at hj ⊢
    rw [g2] at hj
    rw [g1]
    rcases g3 with ⟨_,rfl⟩ | ⟨hne,rfl | ⟨l,l',rfl,rfl,_⟩⟩
    · cases hj
    · exact ⟨hne,hj⟩
    · exact ⟨hne,rfl⟩
  refine ⟨u,E2,rfl,rfl,hle1.trans hle,⟨fun j b c hb=>?_,fun b hb=>hwd.small b hb.1,fun b hb=>⟨hwd.old b (hW.old b hb),fun c hc=>?_⟩,fun j b c hb hl=>?_,fun j j' b c c' hb hb' hl hl'=>?_,?_,hW.le0.trans (hle1.trans hle)⟩,rel_le hle hu⟩
  · obtain ⟨row,g1,g2⟩:=hwd.rows j b c hb
    obtain ⟨row',g3,g4⟩:=hM j row g1
    refine ⟨row',g3,?_⟩
    rcases g4 with ⟨_,rfl⟩ | ⟨hne,rfl | ⟨l,l',rfl,rfl,hf⟩⟩
    · trivial
    · exact rowRel_keep hle g2 fun _=>rfl
    · obtain ⟨cs,e0,h3,h4⟩:=g2
      exact ⟨cs,e0,h3,frzL_pre hle hrow hf h4⟩
  · have:=hnew b c hc
    have:=hW.small b (hW.old b hb)
    omega
  · obtain ⟨hne,hl2⟩:=hlive j hl ⟨_,hb⟩
    obtain ⟨h1,h2⟩:=hwd.own j b c hb hl2
    refine ⟨⟨h1,fun c' hc=>hne (hwd.one j k b c c' hb hc hl2 hlk)⟩,?_⟩
    rcases h2 with ⟨k',c',hb',hl'⟩ | h2
    · exact (hW.own k' b c' hb' hl').2
    · exact Or.inr (Nat.le_trans hW.below.size h2)
  · exact hwd.one j j' b c c' hb hb' (hlive j hl ⟨_,hb⟩).2 (hlive j' hl' ⟨_,hb'⟩).2
  · refine ⟨hwd.below.os.trans hW.below.os,hwd.below.tape.trans hW.below.tape,hwd.below.output.trans hW.below.output,Nat.le_trans hW.below.size hwd.below.size,fun b hb hn=>(hwd.below.block b (Nat.lt_of_lt_of_le hb hW.below.size) ?_).trans (hW.below.block b hb hn)⟩
    rintro ⟨k,c,hb',hl⟩
    rcases (hW.own k b c hb' hl).2 with h | h
    · exact hn h
    · omega
end Go.Gv

namespace Go.Gv
open Go.RowKit Go.Ev
noncomputable section
theorem anyS_fun2 {P:Program} {T:Tab} {ops:Array Oper} {K:St→Prop} (st:List Bool→St) (hlow:∀ i,i < ops.size→∀ d,d ∈ depsOf ops i→d < i)
    (hstep:∀ (bs:List Bool) (i:Nat),bs.length=ops.size→i < ops.size→bs[i]?=some false→(∀ d,d ∈ depsOf ops i→bs[d]?=some true)→(∀ j d,bs[j]?=some true→d ∈ depsOf ops j→bs[d]?=some true)→∃ o,ops[i]?=some o∧AStep P T ops.toList (st bs) o (st (bs.set i true)))
    (hend:K (st (List.replicate ops.size true))):∀ (fuel:Nat) (listed:Array Bool),listed.size=ops.size→listed.toList.count false≤fuel→(∀ j d,listed.toList[j]?=some true→d ∈ depsOf ops j→listed.toList[d]?=some true)→AnyS P T ops K fuel listed (st listed.toList):=by
  have done:∀ listed:Array Bool,listed.size=ops.size→(∀ i,i < ops.size→listed.toList[i]?=some true)→listed.toList=List.replicate ops.size true:=fun listed hs h=>by
    apply List.ext_getElem?
    intro i
    by_cases hi:i < ops.size
    · rw [h i hi,List.getElem?_replicate,if_pos hi]
    · rw [List.getElem?_eq_none (by simp; omega),List.getElem?_eq_none (by simp; omega)]
  intro fuel
  induction fuel with
  | zero =>
    intro listed hs hc _
    have hall:∀ i,i < ops.size→listed.toList[i]?=some true:=fun i hi=>by
      rw [List.getElem?_eq_getElem (by simp; omega)]
      cases hb:listed.toList[i]'(by simp; omega) with
      | true=>rfl
      | false =>
        have:false ∈ listed.toList:=by rw [← hb]; exact List.getElem_mem _
        have:=List.count_pos_iff.2 this
        omega
    refine ⟨?_,by rw [done listed hs hall]; exact hend⟩
    cases hr:Region.ready .any ops listed with
    | nil=>rfl
    | cons i r =>
      obtain ⟨h1,h2,_⟩:=ready_in (i:=i) (by rw [hr]; simp) hs
      rw [hall i h1] at h2
      cases h2
  | succ fuel ih =>
    intro listed hs hc hcl
    refine ⟨fun h0=>by rw [done listed hs (ready_least hs hlow h0)]; exact hend,fun i hi=>?_⟩
    obtain ⟨h1,h2,h3⟩:=ready_in hi hs
    obtain ⟨o,ho,hA⟩:=hstep listed.toList i (by simpa using hs) h1 h2 h3 hcl
    have e:(listed.setIfInBounds i true).toList=listed.toList.set i true:=by simp
    refine ⟨o,_,ho,hA,?_⟩
    rw [← e]
    have hl':i < listed.toList.length:=by simpa [hs] using h1
    refine ih _ (by simpa using hs) ?_ (fun j d hj hd=>?_)
    rotate_left
    · rw [e] at hj ⊢
      by_cases hji:j=i
      · subst hji
        have:=h3 d hd
        by_cases hdi:d=j
        · rw [hdi,List.getElem?_set_self hl']
        · rw [List.getElem?_set_ne (fun c=>hdi c.symm)]; exact this
      · rw [List.getElem?_set_ne (fun c=>hji c.symm)] at hj
        have:=hcl j d hj hd
        by_cases hdi:d=i
        · rw [hdi,List.getElem?_set_self hl']
        · rw [List.getElem?_set_ne (fun c=>hdi c.symm)]; exact this
    rw [e]
    have hl:i < listed.toList.length:=by simpa [hs] using h1
    have hb:listed.toList[i]=false:=by rw [List.getElem?_eq_getElem hl] at h2; simpa using h2
    have hp:0 < listed.toList.count false:=List.count_pos_iff.2 (by rw [← hb]; exact List.getElem_mem hl)
    rw [List.count_set hl,hb]
    show listed.toList.count false - 1+0≤fuel
    omega
end
end Go.Gv

namespace Go.Proofs.YtefphimaggjihaaGreatDoor.Pi.Rd
open Go.Shelf Go.RowKit Go.Gv
open Hs.So (Prt prS)
/-- The reader's rows behind a solid's parts: these are frozen. -/
def mO (t:Tk) (a:Nat) (z:Nat→Int) (c:Ct) (n:Nat) (P:Nat→Prt):List Row:=M7p (prS n P) t a z c ++ [dd,dd]
def soK (n:Nat) (P:Nat→Prt) (w:Int):List AV:=[prS n P,iA w]
def so0:List AV:=[.x (.slice none 0 0),iA 0]
noncomputable def soTb (w:Int):Tab:=tabW [] [] [] [wWr w] []
noncomputable def soO:Array Oper:=((opsAt (bodyOf Tryz.f184) 2).getD #[])
theorem soO_size:soO.size=9:=by kernel_rfl
theorem sod0:depsOf soO 0=[]:=by kernel_rfl
theorem sod1:depsOf soO 1=[0]:=by kernel_rfl
theorem sod2:depsOf soO 2=[1]:=by kernel_rfl
theorem sod3:depsOf soO 3=[2]:=by kernel_rfl
theorem sod4:depsOf soO 4=[]:=by kernel_rfl
theorem sod5:depsOf soO 5=[4]:=by kernel_rfl
theorem sod6:depsOf soO 6=[3,5]:=by kernel_rfl
theorem sod7:depsOf soO 7=[]:=by kernel_rfl
theorem sod8:depsOf soO 8=[7,6,5,0,1,2,3,4,5,6,7]:=by kernel_rfl
section
variable (t:Tk) (a:Nat) (z:Nat→Int) (c:Ct) (n:Nat) (P:Nat→Prt) (w r:Int)
def soV (b0 b1 b2 b3 b4 b5 b6 b7 b8:Bool):St:=mkV 41 [(0,.own 0 0),(3,.own 0 0),(4,.own 0 0),(5,.own 0 27),(6,.own 0 0),(7,iA r),(8,cb b0 (.own 0 0)),(9,cb b1 (.own 0 0)),(10,cb b2 (.own 0 27)),(11,cb b3 (prS n P)),(12,cb b4 (.own 0 0)),(13,cb b5 (iA w)),(14,cb b6 (.agg (soK n P w))),(2,cb b7 (.own 9 0))] ((cond b5 (mO t (a+1) z c n P) (mO t a z c n P)) ++ (cond b7 [.c (cond b8 (soK n P w) so0)] []))
noncomputable def soX (i : Nat) (s : St) : Option Out := aopsK Tryz.prog (soTb w) soO.toList [(soO[i]?).getD ⟨none, .move (.const undef), 0, "", #[], none⟩] s stK
theorem sox0 (b2 b3 b4 b5 b6 b7:Bool):soX w 0 (soV t a z c n P w r false false b2 b3 b4 b5 b6 b7 false)=some ⟨.normal,soV t a z c n P w r true false b2 b3 b4 b5 b6 b7 false,.any⟩:=by cases b5<;>cases b7<;>kernel_rfl
theorem sox1 (b3 b4 b5 b6 b7:Bool):soX w 1 (soV t a z c n P w r true false false b3 b4 b5 b6 b7 false)=some ⟨.normal,soV t a z c n P w r true true false b3 b4 b5 b6 b7 false,.any⟩:=by cases b5<;>cases b7<;>kernel_rfl
theorem sox2 (b0 b4 b5 b6 b7:Bool):soX w 2 (soV t a z c n P w r b0 true false false b4 b5 b6 b7 false)=some ⟨.normal,soV t a z c n P w r b0 true true false b4 b5 b6 b7 false,.any⟩:=by cases b5<;>cases b7<;>kernel_rfl
theorem sox3 (b0 b1 b4 b5 b7:Bool):soX w 3 (soV t a z c n P w r b0 b1 true false b4 b5 false b7 false)=some ⟨.normal,soV t a z c n P w r b0 b1 true true b4 b5 false b7 false,.any⟩:=by cases b5<;>cases b7<;>kernel_rfl
theorem sox4 (b0 b1 b2 b3 b6 b7:Bool):soX w 4 (soV t a z c n P w r b0 b1 b2 b3 false false b6 b7 false)=some ⟨.normal,soV t a z c n P w r b0 b1 b2 b3 true false b6 b7 false,.any⟩:=by cases b7<;>kernel_rfl
theorem sox5 (b0 b1 b2 b3 b7:Bool):soX w 5 (soV t a z c n P w r b0 b1 b2 b3 true false false b7 false)=cond (propB (WSpec Tryz.prog 193 [.own 0 0] (mO t a z c n P ++ (cond b7 [.c so0] [])) (iA w) (mO t (a+1) z c n P ++ (cond b7 [.c so0] [])))) (some ⟨.normal,soV t a z c n P w r b0 b1 b2 b3 true true false b7 false,.any⟩) none:=by cases b7<;>kernel_rfl
theorem sox6 (b0 b1 b2 b4 b7:Bool):soX w 6 (soV t a z c n P w r b0 b1 b2 true b4 true false b7 false)=some ⟨.normal,soV t a z c n P w r b0 b1 b2 true b4 true true b7 false,.any⟩:=by cases b7<;>kernel_rfl
theorem sox7 (b0 b1 b2 b3 b4 b5 b6:Bool):soX w 7 (soV t a z c n P w r b0 b1 b2 b3 b4 b5 b6 false false)=some ⟨.normal,soV t a z c n P w r b0 b1 b2 b3 b4 b5 b6 true false,.any⟩:=by cases b5<;>kernel_rfl
theorem sox8 :soX w 8 (soV t a z c n P w r true true true true true true true true false)=some ⟨.normal,soV t a z c n P w r true true true true true true true true true,.any⟩:=by kernel_rfl
def soSt:List Bool→St
  | [b0,b1,b2,b3,b4,b5,b6,b7,b8]=>soV t a z c n P w r b0 b1 b2 b3 b4 b5 b6 b7 b8
  | _=>soV t a z c n P w r false false false false false false false false false
abbrev soZ0:St:=soV t a z c n P w r false false false false false false false false false
abbrev soZ1:St:=soV t a z c n P w r true true true true true true true true true
end
theorem so_get {i : Nat} (h : i < 9) : soO[i]? = some ((soO[i]?).getD ⟨none, .move (.const undef), 0, "", #[], none⟩) := by
  rw [Array.getElem?_eq_getElem (by rw [soO_size]; exact h)]
  rfl
theorem so_reg (t:Tk) (a:Nat) (z:Nat→Int) (c:Ct) (n:Nat) (P:Nat→Prt) (w r:Int) (h5_0:∀ b7:Bool,WSpec Tryz.prog 193 [.own 0 0] (mO t a z c n P ++ (cond b7 [.c so0] [])) (iA w) (mO t (a+1) z c n P ++ (cond b7 [.c so0] []))):RegOk Tryz.prog soO (soZ0 t a z c n P w r) (soZ1 t a z c n P w r):=by
  have st : ∀ {i : Nat} {s s1 : St}, soX w i s = some ⟨.normal, s1, .any⟩ → AStep Tryz.prog (soTb w) soO.toList s ((soO[i]?).getD ⟨none, .move (.const undef), 0, "", #[], none⟩) s1 := fun h => astep_of (tabW_ok e_nil k_nil m_nil (w_cons wQ_ok w_nil) r_nil).par h
  refine reg_any (T:=(soTb w)) (tabW_ok e_nil k_nil m_nil (w_cons wQ_ok w_nil) r_nil) (by kernel_rfl) ?_
  have hlow:∀ i,i < soO.size→∀ d,d ∈ depsOf soO i→d < i:=fun i hi d hd=>by
    rw [soO_size] at hi
    match i,hi with
    | 0,_=>rw [sod0] at hd; cases hd
    | 1,_=>rw [sod1] at hd; simp at hd; omega
    | 2,_=>rw [sod2] at hd; simp at hd; omega
    | 3,_=>rw [sod3] at hd; simp at hd; omega
    | 4,_=>rw [sod4] at hd; cases hd
    | 5,_=>rw [sod5] at hd; simp at hd; omega
    | 6,_=>rw [sod6] at hd; simp at hd; omega
    | 7,_=>rw [sod7] at hd; cases hd
    | 8,_=>rw [sod8] at hd; simp at hd; omega
    | n+9,hi=>exact absurd hi (by omega)
  have:=anyS_fun2 (P:=Tryz.prog) (T:=(soTb w)) (ops:=soO) (K:=fun s'=>clr s'=clr (soZ1 t a z c n P w r)) (soSt t a z c n P w r) hlow (fun bs i hl hi hb hd hcl=>?_) (by rw [soO_size]; rfl) soO.size (Array.replicate soO.size false) (by simp) (by rw [soO_size]; decide) (fun j d hj _=>by have hm:=List.mem_of_getElem? hj; rw [soO_size] at hm; simp at hm)
  · rw [soO_size] at this ⊢
    exact this
  · rw [soO_size] at hl hi
    match bs,hl with
    | [b0,b1,b2,b3,b4,b5,b6,b7,b8],_ =>
      refine ⟨_,so_get hi,?_⟩
      match i,hi,hb,hd with
      | 0,_,hb,hd =>
        simp at hb
        subst hb
        have f1:b1=false:=by
          cases b1 with
          | false=>rfl
          | true=>exact absurd (hcl 1 0 rfl (by rw [sod1]; simp)) (by simp)
        subst f1
        have f8:b8=false:=by
          cases b8 with
          | false=>rfl
          | true=>exact absurd (hcl 8 0 rfl (by rw [sod8]; simp)) (by simp)
        subst f8
        exact st (sox0 t a z c n P w r _ _ _ _ _ _)
      | 1,_,hb,hd =>
        simp at hb
        have d0:=hd 0 (by rw [sod1]; simp)
        simp at d0
        subst hb d0
        have f2:b2=false:=by
          cases b2 with
          | false=>rfl
          | true=>exact absurd (hcl 2 1 rfl (by rw [sod2]; simp)) (by simp)
        subst f2
        have f8:b8=false:=by
          cases b8 with
          | false=>rfl
          | true=>exact absurd (hcl 8 1 rfl (by rw [sod8]; simp)) (by simp)
        subst f8
        exact st (sox1 t a z c n P w r _ _ _ _ _)
      | 2,_,hb,hd =>
        simp at hb
        have d1:=hd 1 (by rw [sod2]; simp)
        simp at d1
        subst hb d1
        have f3:b3=false:=by
          cases b3 with
          | false=>rfl
          | true=>exact absurd (hcl 3 2 rfl (by rw [sod3]; simp)) (by simp)
        subst f3
        have f8:b8=false:=by
          cases b8 with
          | false=>rfl
          | true=>exact absurd (hcl 8 2 rfl (by rw [sod8]; simp)) (by simp)
        subst f8
        exact st (sox2 t a z c n P w r _ _ _ _ _)
      | 3,_,hb,hd =>
        simp at hb
        have d2:=hd 2 (by rw [sod3]; simp)
        simp at d2
        subst hb d2
        have f6:b6=false:=by
          cases b6 with
          | false=>rfl
          | true=>exact absurd (hcl 6 3 rfl (by rw [sod6]; simp)) (by simp)
        subst f6
        have f8:b8=false:=by
          cases b8 with
          | false=>rfl
          | true=>exact absurd (hcl 8 3 rfl (by rw [sod8]; simp)) (by simp)
        subst f8
        exact st (sox3 t a z c n P w r _ _ _ _ _)
      | 4,_,hb,hd =>
        simp at hb
        subst hb
        have f5:b5=false:=by
          cases b5 with
          | false=>rfl
          | true=>exact absurd (hcl 5 4 rfl (by rw [sod5]; simp)) (by simp)
        subst f5
        have f8:b8=false:=by
          cases b8 with
          | false=>rfl
          | true=>exact absurd (hcl 8 4 rfl (by rw [sod8]; simp)) (by simp)
        subst f8
        exact st (sox4 t a z c n P w r _ _ _ _ _ _)
      | 5,_,hb,hd =>
        simp at hb
        have d4:=hd 4 (by rw [sod5]; simp)
        simp at d4
        subst hb d4
        have f6:b6=false:=by
          cases b6 with
          | false=>rfl
          | true=>exact absurd (hcl 6 5 rfl (by rw [sod6]; simp)) (by simp)
        subst f6
        have f8:b8=false:=by
          cases b8 with
          | false=>rfl
          | true=>exact absurd (hcl 8 5 rfl (by rw [sod8]; simp)) (by simp)
        subst f8
        refine st ((sox5 t a z c n P w r _ _ _ _ _).trans ?_)
        rw [propB_t (h5_0 _)]
        rfl
      | 6,_,hb,hd =>
        simp at hb
        have d3:=hd 3 (by rw [sod6]; simp)
        simp at d3
        have d5:=hd 5 (by rw [sod6]; simp)
        simp at d5
        subst hb d3 d5
        have f8:b8=false:=by
          cases b8 with
          | false=>rfl
          | true=>exact absurd (hcl 8 6 rfl (by rw [sod8]; simp)) (by simp)
        subst f8
        exact st (sox6 t a z c n P w r _ _ _ _ _)
      | 7,_,hb,hd =>
        simp at hb
        subst hb
        have f8:b8=false:=by
          cases b8 with
          | false=>rfl
          | true=>exact absurd (hcl 8 7 rfl (by rw [sod8]; simp)) (by simp)
        subst f8
        exact st (sox7 t a z c n P w r _ _ _ _ _ _ _)
      | 8,_,hb,hd =>
        simp at hb
        have d7:=hd 7 (by rw [sod8]; simp)
        simp at d7
        have d6:=hd 6 (by rw [sod8]; simp)
        simp at d6
        have d5:=hd 5 (by rw [sod8]; simp)
        simp at d5
        have d0:=hd 0 (by rw [sod8]; simp)
        simp at d0
        have d1:=hd 1 (by rw [sod8]; simp)
        simp at d1
        have d2:=hd 2 (by rw [sod8]; simp)
        simp at d2
        have d3:=hd 3 (by rw [sod8]; simp)
        simp at d3
        have d4:=hd 4 (by rw [sod8]; simp)
        simp at d4
        subst hb d7 d6 d5 d0 d1 d2 d3 d4
        exact st (sox8 t a z c n P w r)
      | n+9,hi,_,_=>exact absurd hi (by omega)
section
variable (t:Tk) (a b:Nat) (z:Nat→Int) (c:Ct) (n:Nat) (P:Nat→Prt) (w r:Int)
def nilA:AV:=.x (.slice none 0 0)
def mO' (b:Nat):List Row:=mO t b z c n P ++ [.c (soK n P w)]
def MO (a:Nat):List Row:=[rdR t a z (oP (prS n P) (oX { pl0 with o:=7 } { c with nO:=c.nO+1 })),rS c,dd,rF c,rK c,rL c,rN c,apR 69 2 c.nO c.O (soK n P w)]
noncomputable def wPa:WEntry:=wQ Tryz.prog 216 (fun _ _=>iA r) (fun _ _=>mO t b z c n P)
theorem so_ev:evGWD Tryz.prog [] [kS Tryz.prog 99 (fun _=>iA 0)] [] [wWr w,wPa t b z c n P r,wAk,wMu,wRm] [] 8 soO.toList (soZ0 t b z c n P w r) (soZ1 t b z c n P w r) noL Tryz.f184 [.own 0 0] (M7 t a z c) (τ7 11) =
  qC 216 [] (iA r) (M7p nilA t a z c) (mO t b z c n P) (
  gate (soO.toList=soO.toList∧soZ0 t b z c n P w r=soZ0 t b z c n P w r) (
  qAsk [59] (mO' t z c n P w (b+1)) (mO' t z c n P w (b+2)) (
  gate (FSpec Tryz.prog 99 [.agg (soK n P w)] (iA 0)) (
  qC 195 [iA 0] (.tup []) (mO' t z c n P w (b+2)) (mO' t z c n P w (b+2)) (
  qC 196 [iA c.nO,iA 8] (.tup []) (mO' t z c n P w (b+2)) (mO' t z c n P w (b+2)) (
  cond ((apB c.nO 32||false)&&true) (gout (.tup []) (MO t z c n P w (b+2))) none)))))):=by kernel_rfl
end
section
variable {t:Tk} {z:Nat→Int} {c:Ct} {P:Nat→Prt}
theorem partS {a b n:Nat} (h:PSpec t z P a 0 b n):WSpec Tryz.prog 216 [.own 0 0] (M7p nilA t a z c) (iA ((n - 1:Nat):Int)) (mO t b z c n P):=by
  have h1:=liftP (fun _=>rfl) (fun _=>rfl) h (k:=6) (rs:=rows c ++ [rP 0 P]) rfl (oX pl0 c)
  have h2:WSpec Tryz.prog 216 [.own 0 0] (rdP t a z 7 0 (oX pl0 c)::rows c) (iA ((n - 1:Nat):Int)) (rdP t b z 8 n (oX pl0 c)::(rows c ++ [dd,rP n P])):=WSpec.pre_ext (X:=[rP 0 P]) h1
  have h3:WSpec Tryz.prog 216 [.own 0 0] (M7p nilA t a z c) (iA ((n - 1:Nat):Int)) (rdP t b z 8 n (oX pl0 c)::(rows c ++ [dd,rP n P])):=by
    refine h2.pre_like ⟨likeC ?_,Or.inl rfl,Or.inl rfl,Or.inl rfl,Or.inl rfl,Or.inl rfl,Or.inl rfl,trivial⟩
    iterate 27 refine And.intro (Or.inl rfl) ?_
    exact ⟨Or.inr fun E u hu=>rel_osl.2 (Or.inl ⟨rfl,rfl,rel_x.1 hu⟩),Or.inl rfl,trivial⟩
  refine wspec_frz h3 (fun j hj _=>?_) (k:=8) (by show 7≤8; omega) rfl fun j row hj=>?_
  · match j,hj with
    | 0,_=>rfl
    | 1,_=>rfl
    | 2,_=>rfl
    | 3,_=>rfl
    | 4,_=>rfl
    | 5,_=>rfl
    | 6,_=>rfl
    | q+7,hj=>exact absurd hj (by show ¬ q+7 < 7; omega)
  · match j,hj with
    | 0,hj =>
      cases hj
      refine ⟨_,rfl,Or.inr ⟨by omega,Or.inr ⟨_,_,rfl,rfl,?_⟩⟩⟩
      iterate 27 refine And.intro (Or.inl rfl) ?_
      exact ⟨Or.inr ⟨rfl,rfl⟩,Or.inl rfl,trivial⟩
    | 1,hj=>cases hj; exact ⟨_,rfl,Or.inr ⟨by omega,Or.inl rfl⟩⟩
    | 2,hj=>cases hj; exact ⟨_,rfl,Or.inr ⟨by omega,Or.inl rfl⟩⟩
    | 3,hj=>cases hj; exact ⟨_,rfl,Or.inr ⟨by omega,Or.inl rfl⟩⟩
    | 4,hj=>cases hj; exact ⟨_,rfl,Or.inr ⟨by omega,Or.inl rfl⟩⟩
    | 5,hj=>cases hj; exact ⟨_,rfl,Or.inr ⟨by omega,Or.inl rfl⟩⟩
    | 6,hj=>cases hj; exact ⟨_,rfl,Or.inr ⟨by omega,Or.inl rfl⟩⟩
    | 7,hj=>cases hj; exact ⟨_,rfl,Or.inr ⟨by omega,Or.inl rfl⟩⟩
    | 8,hj=>exact ⟨_,rfl,Or.inl ⟨rfl,rfl⟩⟩
    | q+9,hj=>cases hj
theorem solid_spec {a b n w:Nat} (hp:PSpec t z P a 0 b n) (h:Has t b 2) (hk:Nam t c b w) (h1:Is t (b+1) [59]) (hm:FSpec Tryz.prog 99 [.agg (soK n P (w:Nat))] (iA 0)) (hn:c.nO < 8):GSpec Tryz.prog 184 [.own 0 0] (M7 t a z c) (.tup []) (MO t z c n P (w:Nat) (b+2)):=by
  have hw:∀ b7:Bool,WSpec Tryz.prog 193 [.own 0 0] (mO t b z c n P ++ (cond b7 [.c so0] [])) (iA (w:Nat)) (mO t (b+1) z c n P ++ (cond b7 [.c so0] [])):=fun b7=>by
    have:=wear_p (t:=t) (a:=b) (z:=z) (c:=c) (prS n P) (h.sub 0 1 (by omega)) hk ([dd,dd] ++ (cond b7 [.c so0] []))
    rw [← List.append_assoc,← List.append_assoc] at this
    exact this
  refine gspecGWD e_nil (k_cons kS_ok k_nil) m_nil (w_cons wQ_ok (w_cons wQ_ok (w_cons wQ_ok (w_cons wQ_ok (w_cons wQ_ok w_nil))))) r_nil (so_reg t b z c n P (w:Nat) ((n - 1:Nat):Int) hw) Tryz.func184 (by kernel_rfl) (by kernel_rfl) (mem:=M7 t a z c) noL_okN rfl (τ:=τ7 11) (by rfl) ((so_ev t a b z c n P (w:Nat) ((n - 1:Nat):Int)).trans ?_)
  refine (qC_t (partS hp) _).trans ?_
  refine (gate_pos ⟨rfl,rfl⟩).trans ?_
  refine (qAsk_t (a:=b+1) (h.sub 1 1 (by omega)) h1 _ _ _).trans ?_
  refine (gate_pos hm).trans ?_
  refine (qC_lf (must_spec t (b+2) z) (fun _=>rfl) (fun _=>rfl) _ _ _).trans ?_
  refine (qC_lf (room_spec t (b+2) z (x:=c.nO) (y:=8) (by omega)) (fun _=>rfl) (fun _=>rfl) _ _ _).trans ?_
  rw [apB_t (by omega)]
  rfl
end
end Go.Proofs.YtefphimaggjihaaGreatDoor.Pi.Rd

namespace Go.Proofs.YtefphimaggjihaaGreatDoor.Pi.Rd
open Go.Shelf Go.RowKit Go.Gv
/-- The cells of a field that is being read. -/
def fdK (W H:Int) (x y u s:Nat) (h:AV) (k:Int):List AV:=[iA W,iA H,.f x,.f y,.f u,.f s,h,iA k]
def nilI:AV:=.x (.slice none 0 0)
def hiR (n:Nat) (hs:Nat→Int):Row:=.a 3 1 n fun q=>[iA (hs q)]
def oneR (x:Int):Row:=.a 3 1 1 (chunk [iA x] 1)
def hiN (n:Nat) (hs:Nat→Int) (x:Int):Row:=apR 3 1 n (fun q=>[iA (hs q)]) [iA x]
def mkA (n:Nat) (l:List (Nat × AV)) (mem:List Row):St:=mkS n l mem
def cbA (b:Bool) (v:AV):AV:=cond b v .any
/-- The operations of a region, wherever it stands. -/
def opsA:Code→Nat→Option (Array Oper)
  | .region id ops _,i=>cond (Nat.beq id i) (some ops) none
  | .seq a b,i=>match opsA a i with
    | some o=>some o
    | none=>opsA b i
  | .loop c,i=>opsA c i
  | .block _ c,i=>opsA c i
  | .scope c,i=>opsA c i
  | .cond _ a b,i=>match opsA a i with
    | some o=>some o
    | none=>opsA b i
  | _,_=>none
def apB3 (m:Nat):Bool:=Nat.ble m m&&Nat.ble ((m+1)*8) 140737488355328
theorem apB3_t {m:Nat} (h:m≤1000000):apB3 m=true:=by
  unfold apB3
  rw [Nat.ble_eq_true_of_le (Nat.le_refl _),Nat.ble_eq_true_of_le (by omega)]
  rfl
noncomputable def flTb (t:Tk):Tab:=tabW [] [] [] [wNu t] []
noncomputable def flO:Array Oper:=((opsA (bodyOf Tryz.f185) 10).getD #[])
theorem flO_size:flO.size=8:=by kernel_rfl
theorem fld0:depsOf flO 0=[]:=by kernel_rfl
theorem fld1:depsOf flO 1=[0]:=by kernel_rfl
theorem fld2:depsOf flO 2=[]:=by kernel_rfl
theorem fld3:depsOf flO 3=[2]:=by kernel_rfl
theorem fld4:depsOf flO 4=[3]:=by kernel_rfl
theorem fld5:depsOf flO 5=[1,4,3]:=by kernel_rfl
theorem fld6:depsOf flO 6=[0,1,2,3,4,5]:=by kernel_rfl
theorem fld7:depsOf flO 7=[6,5,5,0,1,2,3,4,5]:=by kernel_rfl
section
variable (t:Tk) (a:Nat) (z:Nat→Int) (c:Ct) (W H:Int) (x y u sd:Nat) (n j:Nat) (hv:Nat→Int)
def flV (b0 b1 b2 b3 b4 b5 b6 b7:Bool):St:=mkA 65 [(0,.own 0 0),(2,.own 7 0),(25,iA n),(26,iA j),(27,bA (decide ((j:Int) < n))),(28,cbA b0 (.own 7 6)),(29,cbA b1 (.osl 8 1 0 j)),(30,cbA b2 (.own 0 0)),(31,cbA b3 (iA (t.N a))),(32,cbA b4 (.osl 9 1 0 1)),(33,cbA b5 (.osl 10 1 0 (j+1))),(34,cbA b6 (.own 7 6))] ((cond b3 (M7 t (a+1) z c) (M7 t a z c)) ++ ([.c (fdK W H x y u sd (cond b7 (.osl 10 1 0 (j+1)) (.osl 8 1 0 j)) 0),cond b5 dd (hiR j hv)] ++ (cond b4 ([oneR (t.N a)] ++ (cond b5 [hiN j hv (t.N a)] [])) [])))
noncomputable def flX (i : Nat) (s : St) : Option Out := aopsK Tryz.prog (flTb t) flO.toList [(flO[i]?).getD ⟨none, .move (.const undef), 0, "", #[], none⟩] s stK
theorem flx0 (b2 b3 b4 b5:Bool):flX t 0 (flV t a z c W H x y u sd n j hv false false b2 b3 b4 b5 false false)=some ⟨.normal,flV t a z c W H x y u sd n j hv true false b2 b3 b4 b5 false false,.any⟩:=by cases b3<;>cases b4<;>cases b5<;>kernel_rfl
theorem flx1 (b2 b3 b4:Bool):flX t 1 (flV t a z c W H x y u sd n j hv true false b2 b3 b4 false false false)=some ⟨.normal,flV t a z c W H x y u sd n j hv true true b2 b3 b4 false false false,.any⟩:=by cases b3<;>cases b4<;>kernel_rfl
theorem flx2 (b0 b1 b4 b5:Bool):flX t 2 (flV t a z c W H x y u sd n j hv b0 b1 false false b4 b5 false false)=some ⟨.normal,flV t a z c W H x y u sd n j hv b0 b1 true false b4 b5 false false,.any⟩:=by cases b4<;>cases b5<;>kernel_rfl
theorem flx3 (b0 b1:Bool):flX t 3 (flV t a z c W H x y u sd n j hv b0 b1 true false false false false false)=cond (propB (WSpec Tryz.prog 215 [.own 0 0] (M7 t a z c ++ [.c (fdK W H x y u sd (.osl 8 1 0 j) 0),hiR j hv]) (iA (t.N a)) (M7 t (a+1) z c ++ [.c (fdK W H x y u sd (.osl 8 1 0 j) 0),hiR j hv]))) (some ⟨.normal,flV t a z c W H x y u sd n j hv b0 b1 true true false false false false,.any⟩) none:=by kernel_rfl
theorem flx4 (b0 b1 b2:Bool):flX t 4 (flV t a z c W H x y u sd n j hv b0 b1 b2 true false false false false)=some ⟨.normal,flV t a z c W H x y u sd n j hv b0 b1 b2 true true false false false,.any⟩:=by kernel_rfl
theorem flx5 (b0 b2:Bool):flX t 5 (flV t a z c W H x y u sd n j hv b0 true b2 true true false false false)=cond ((or (apB3 j) false)) (some ⟨.normal,flV t a z c W H x y u sd n j hv b0 true b2 true true true false false,.any⟩) none:=by kernel_rfl
theorem flx6 :flX t 6 (flV t a z c W H x y u sd n j hv true true true true true true false false)=some ⟨.normal,flV t a z c W H x y u sd n j hv true true true true true true true false,.any⟩:=by kernel_rfl
theorem flx7 :flX t 7 (flV t a z c W H x y u sd n j hv true true true true true true true false)=some ⟨.normal,flV t a z c W H x y u sd n j hv true true true true true true true true,.any⟩:=by kernel_rfl
def flSt:List Bool→St
  | [b0,b1,b2,b3,b4,b5,b6,b7]=>flV t a z c W H x y u sd n j hv b0 b1 b2 b3 b4 b5 b6 b7
  | _=>flV t a z c W H x y u sd n j hv false false false false false false false false
abbrev flZ0:St:=flV t a z c W H x y u sd n j hv false false false false false false false false
abbrev flZ1:St:=flV t a z c W H x y u sd n j hv true true true true true true true true
end
theorem fl_get {i : Nat} (h : i < 8) : flO[i]? = some ((flO[i]?).getD ⟨none, .move (.const undef), 0, "", #[], none⟩) := by
  rw [Array.getElem?_eq_getElem (by rw [flO_size]; exact h)]
  rfl
theorem fl_reg (t:Tk) (a:Nat) (z:Nat→Int) (c:Ct) (W H:Int) (x y u sd:Nat) (n j:Nat) (hv:Nat→Int) (h3_0:WSpec Tryz.prog 215 [.own 0 0] (M7 t a z c ++ [.c (fdK W H x y u sd (.osl 8 1 0 j) 0),hiR j hv]) (iA (t.N a)) (M7 t (a+1) z c ++ [.c (fdK W H x y u sd (.osl 8 1 0 j) 0),hiR j hv])) (h5_0:((or (apB3 j) false))=true):RegOk Tryz.prog flO (flZ0 t a z c W H x y u sd n j hv) (flZ1 t a z c W H x y u sd n j hv):=by
  have st : ∀ {i : Nat} {s s1 : St}, flX t i s = some ⟨.normal, s1, .any⟩ → AStep Tryz.prog (flTb t) flO.toList s ((flO[i]?).getD ⟨none, .move (.const undef), 0, "", #[], none⟩) s1 := fun h => astep_of (tabW_ok e_nil k_nil m_nil (w_cons wQ_ok w_nil) r_nil).par h
  refine reg_any (T:=(flTb t)) (tabW_ok e_nil k_nil m_nil (w_cons wQ_ok w_nil) r_nil) (by kernel_rfl) ?_
  have hlow:∀ i,i < flO.size→∀ d,d ∈ depsOf flO i→d < i:=fun i hi d hd=>by
    rw [flO_size] at hi
    match i,hi with
    | 0,_=>rw [fld0] at hd; cases hd
    | 1,_=>rw [fld1] at hd; simp at hd; omega
    | 2,_=>rw [fld2] at hd; cases hd
    | 3,_=>rw [fld3] at hd; simp at hd; omega
    | 4,_=>rw [fld4] at hd; simp at hd; omega
    | 5,_=>rw [fld5] at hd; simp at hd; omega
    | 6,_=>rw [fld6] at hd; simp at hd; omega
    | 7,_=>rw [fld7] at hd; simp at hd; omega
    | n+8,hi=>exact absurd hi (by omega)
  have:=anyS_fun2 (P:=Tryz.prog) (T:=(flTb t)) (ops:=flO) (K:=fun s'=>clr s'=clr (flZ1 t a z c W H x y u sd n j hv)) (flSt t a z c W H x y u sd n j hv) hlow (fun bs i hl hi hb hd hcl=>?_) (by rw [flO_size]; rfl) flO.size (Array.replicate flO.size false) (by simp) (by rw [flO_size]; decide) (fun j d hj _=>by have hm:=List.mem_of_getElem? hj; rw [flO_size] at hm; simp at hm)
  · rw [flO_size] at this ⊢
    exact this
  · rw [flO_size] at hl hi
    match bs,hl with
    | [b0,b1,b2,b3,b4,b5,b6,b7],_ =>
      refine ⟨_,fl_get hi,?_⟩
      match i,hi,hb,hd with
      | 0,_,hb,hd =>
        simp at hb
        subst hb
        have f1:b1=false:=by
          cases b1 with
          | false=>rfl
          | true=>exact absurd (hcl 1 0 rfl (by rw [fld1]; simp)) (by simp)
        subst f1
        have f6:b6=false:=by
          cases b6 with
          | false=>rfl
          | true=>exact absurd (hcl 6 0 rfl (by rw [fld6]; simp)) (by simp)
        subst f6
        have f7:b7=false:=by
          cases b7 with
          | false=>rfl
          | true=>exact absurd (hcl 7 0 rfl (by rw [fld7]; simp)) (by simp)
        subst f7
        exact st (flx0 t a z c W H x y u sd n j hv _ _ _ _)
      | 1,_,hb,hd =>
        simp at hb
        have d0:=hd 0 (by rw [fld1]; simp)
        simp at d0
        subst hb d0
        have f5:b5=false:=by
          cases b5 with
          | false=>rfl
          | true=>exact absurd (hcl 5 1 rfl (by rw [fld5]; simp)) (by simp)
        subst f5
        have f6:b6=false:=by
          cases b6 with
          | false=>rfl
          | true=>exact absurd (hcl 6 1 rfl (by rw [fld6]; simp)) (by simp)
        subst f6
        have f7:b7=false:=by
          cases b7 with
          | false=>rfl
          | true=>exact absurd (hcl 7 1 rfl (by rw [fld7]; simp)) (by simp)
        subst f7
        exact st (flx1 t a z c W H x y u sd n j hv _ _ _)
      | 2,_,hb,hd =>
        simp at hb
        subst hb
        have f3:b3=false:=by
          cases b3 with
          | false=>rfl
          | true=>exact absurd (hcl 3 2 rfl (by rw [fld3]; simp)) (by simp)
        subst f3
        have f6:b6=false:=by
          cases b6 with
          | false=>rfl
          | true=>exact absurd (hcl 6 2 rfl (by rw [fld6]; simp)) (by simp)
        subst f6
        have f7:b7=false:=by
          cases b7 with
          | false=>rfl
          | true=>exact absurd (hcl 7 2 rfl (by rw [fld7]; simp)) (by simp)
        subst f7
        exact st (flx2 t a z c W H x y u sd n j hv _ _ _ _)
      | 3,_,hb,hd =>
        simp at hb
        have d2:=hd 2 (by rw [fld3]; simp)
        simp at d2
        subst hb d2
        have f4:b4=false:=by
          cases b4 with
          | false=>rfl
          | true=>exact absurd (hcl 4 3 rfl (by rw [fld4]; simp)) (by simp)
        subst f4
        have f5:b5=false:=by
          cases b5 with
          | false=>rfl
          | true=>exact absurd (hcl 5 3 rfl (by rw [fld5]; simp)) (by simp)
        subst f5
        have f6:b6=false:=by
          cases b6 with
          | false=>rfl
          | true=>exact absurd (hcl 6 3 rfl (by rw [fld6]; simp)) (by simp)
        subst f6
        have f7:b7=false:=by
          cases b7 with
          | false=>rfl
          | true=>exact absurd (hcl 7 3 rfl (by rw [fld7]; simp)) (by simp)
        subst f7
        refine st ((flx3 t a z c W H x y u sd n j hv _ _).trans ?_)
        rw [propB_t h3_0]
        rfl
      | 4,_,hb,hd =>
        simp at hb
        have d3:=hd 3 (by rw [fld4]; simp)
        simp at d3
        subst hb d3
        have f5:b5=false:=by
          cases b5 with
          | false=>rfl
          | true=>exact absurd (hcl 5 4 rfl (by rw [fld5]; simp)) (by simp)
        subst f5
        have f6:b6=false:=by
          cases b6 with
          | false=>rfl
          | true=>exact absurd (hcl 6 4 rfl (by rw [fld6]; simp)) (by simp)
        subst f6
        have f7:b7=false:=by
          cases b7 with
          | false=>rfl
          | true=>exact absurd (hcl 7 4 rfl (by rw [fld7]; simp)) (by simp)
        subst f7
        exact st (flx4 t a z c W H x y u sd n j hv _ _ _)
      | 5,_,hb,hd =>
        simp at hb
        have d1:=hd 1 (by rw [fld5]; simp)
        simp at d1
        have d4:=hd 4 (by rw [fld5]; simp)
        simp at d4
        have d3:=hd 3 (by rw [fld5]; simp)
        simp at d3
        subst hb d1 d4 d3
        have f6:b6=false:=by
          cases b6 with
          | false=>rfl
          | true=>exact absurd (hcl 6 5 rfl (by rw [fld6]; simp)) (by simp)
        subst f6
        have f7:b7=false:=by
          cases b7 with
          | false=>rfl
          | true=>exact absurd (hcl 7 5 rfl (by rw [fld7]; simp)) (by simp)
        subst f7
        refine st ((flx5 t a z c W H x y u sd n j hv _ _).trans ?_)
        rw [h5_0]
        rfl
      | 6,_,hb,hd =>
        simp at hb
        have d0:=hd 0 (by rw [fld6]; simp)
        simp at d0
        have d1:=hd 1 (by rw [fld6]; simp)
        simp at d1
        have d2:=hd 2 (by rw [fld6]; simp)
        simp at d2
        have d3:=hd 3 (by rw [fld6]; simp)
        simp at d3
        have d4:=hd 4 (by rw [fld6]; simp)
        simp at d4
        have d5:=hd 5 (by rw [fld6]; simp)
        simp at d5
        subst hb d0 d1 d2 d3 d4 d5
        have f7:b7=false:=by
          cases b7 with
          | false=>rfl
          | true=>exact absurd (hcl 7 6 rfl (by rw [fld7]; simp)) (by simp)
        subst f7
        exact st (flx6 t a z c W H x y u sd n j hv)
      | 7,_,hb,hd =>
        simp at hb
        have d6:=hd 6 (by rw [fld7]; simp)
        simp at d6
        have d5:=hd 5 (by rw [fld7]; simp)
        simp at d5
        have d0:=hd 0 (by rw [fld7]; simp)
        simp at d0
        have d1:=hd 1 (by rw [fld7]; simp)
        simp at d1
        have d2:=hd 2 (by rw [fld7]; simp)
        simp at d2
        have d3:=hd 3 (by rw [fld7]; simp)
        simp at d3
        have d4:=hd 4 (by rw [fld7]; simp)
        simp at d4
        subst hb d6 d5 d0 d1 d2 d3 d4
        exact st (flx7 t a z c W H x y u sd n j hv)
      | n+8,hi,_,_=>exact absurd hi (by omega)
section
variable (t:Tk) (a:Nat) (z:Nat→Int) (c:Ct) (W H:Int) (x y u sd:Nat) (n j:Nat) (hv:Nat→Int)
noncomputable def evCWD (P:Program) (l:List Entry) (ks:List KEntry) (ms:List MEntry) (ws:List WEntry) (rs:List REntry) (d:Nat) (ops0:List Oper) (s0 s1:St) (L:Nat→Option LFun) (c:Code) (s:St) (k:Kont):Option Out:=aCode P (tabW l ks ms ws rs) (toldD d ops0 s0 s1 (drawnK P (tabW l ks ms ws rs))) L 40 c s k
def hiS (a:Nat):St:=mkS 65 [(0,.own 0 0),(2,.own 7 0),(25,iA n),(26,iA j)] (M7 t a z c ++ [.c (fdK W H x y u sd (.osl 8 1 0 j) 0),hiR j hv])
def hiS' (a:Nat):St:=mkS 65 [(0,.own 0 0),(2,.own 7 0),(25,iA n),(26,iA (w64 ((j:Int)+1)))] (M7 t a z c ++ [.c (fdK W H x y u sd (.osl 8 1 0 (j+1)) 0),hiN j hv (t.N (a - 1))])
theorem hi_on:evCWD Tryz.prog [] [] [] [wNu t] [] 28 flO.toList (flZ0 t a z c W H x y u sd n j hv) (flZ1 t a z c W H x y u sd n j hv) noL (loopAt Tryz.f185 0) (hiS t z c W H x y u sd n j hv a) (finN [0,2,25,26] [some 0,some 1,some 2,some 3,some 4,some 5,some 6,some 7,some 10]) =
  cond (decide ((j:Int) < n)) (gate (flO.toList=flO.toList∧flZ0 t a z c W H x y u sd n j hv=flZ0 t a z c W H x y u sd n j hv) (some ⟨.normal,hiS' t z c W H x y u sd n j hv (a+1),.any⟩)) none:=by kernel_rfl
theorem hi_end:evCW Tryz.prog [] [] [] [wNu t] [] noL (loopAt Tryz.f185 0) (hiS t z c W H x y u sd n n hv a) (finE [0,2,25,26] [some 0,some 1,some 2,some 3,some 4,some 5,some 6,some 7,some 8]) =
  cond (decide ((n:Int) < n)) none (some ⟨.exit 0,hiS t z c W H x y u sd n n hv a,.any⟩):=by kernel_rfl
end
end Go.Proofs.YtefphimaggjihaaGreatDoor.Pi.Rd

namespace Go.Proofs.YtefphimaggjihaaGreatDoor.Pi.Rd
open Go.Shelf Go.RowKit Go.Gv
section
variable (t:Tk) (a:Nat) (z:Nat→Int) (c:Ct) (K:Nat→Int) (x y u sd n b:Nat) (hv:Nat→Int) (w:Int)
noncomputable def wCt:WEntry:=wQ Tryz.prog 217 (fun _ mem=>iA (K (atM mem))) (fun _ mem=>adv 1 mem)
noncomputable def wPg:WEntry:=wQ Tryz.prog 210 (fun _ _=>vA x y u) (fun _ mem=>adv 3 mem)
noncomputable def wFg:WEntry:=wQ Tryz.prog 212 (fun _ _=>.f sd) (fun _ mem=>adv 1 mem)
def mF (a:Nat) (l:List AV):List Row:=M7 t a z c ++ [.c l]
def mH (a:Nat) (l:List AV):List Row:=M7 t a z c ++ [.c l,hiR n hv]
def mZ (a:Nat) (l:List AV):List Row:=M7 t a z c ++ [.c l,dd]
def slI (n:Nat) (hv:Nat→Int):AV:=.sl 1 n fun q=>[iA (hv q)]
def MF (a:Nat) (x:List AV):List Row:=[rdX t a z { pl0 with f:=7 } { c with nF:=c.nF+1 },rS c,rO c,dd,rK c,rL c,rN c,apR 74 8 c.nF c.F x]
noncomputable def fdL:Nat→Option LFun:=oneL 9 (toldP 7 [0,2,25,26] [some 0,some 1,some 2,some 3,some 4,some 5,some 6,some 7] (hiS t z c (K a) (K (a+1)) x y u sd n 0 hv (a+9)) (.exit 0) (hiS t z c (K a) (K (a+1)) x y u sd n n hv b))
def fdS0:St:=mkS 65 [(0,.own 0 0),(2,.own 7 0),(25,iA (w64 (K a*K (a+1)))),(26,iA 0)] (mF t z c (a+9) (fdK (K a) (K (a+1)) x y u sd nilI 0))
theorem fe_ev:evGWZ Tryz.prog [] [kS Tryz.prog 100 (fun _=>iA 0)] [] [wCt K,wAk,wPg x y u,wFg sd,wWr w,wMu,wRm] [] (fdL t a z c K x y u sd n b hv) (oneZ 14 (frzKN 7 8)) Tryz.f185 [.own 0 0] (M7 t a z c) (τ7 10) =
  qC 217 [iA 8] (iA (K a)) (mF t z c a (fdK 0 0 0 0 0 0 nilI 0)) (mF t z c (a+1) (fdK 0 0 0 0 0 0 nilI 0)) (
  qC 217 [iA 8] (iA (K (a+1))) (mF t z c (a+1) (fdK (K a) 0 0 0 0 0 nilI 0)) (mF t z c (a+2) (fdK (K a) 0 0 0 0 0 nilI 0)) (
  qAsk [97,116] (mF t z c (a+2) (fdK (K a) (K (a+1)) 0 0 0 0 nilI 0)) (mF t z c (a+3) (fdK (K a) (K (a+1)) 0 0 0 0 nilI 0)) (
  qC 210 [] (vA x y u) (mF t z c (a+3) (fdK (K a) (K (a+1)) 0 0 0 0 nilI 0)) (mF t z c (a+6) (fdK (K a) (K (a+1)) 0 0 0 0 nilI 0)) (
  qAsk [115,105,100,101] (mF t z c (a+6) (fdK (K a) (K (a+1)) x y u 0 nilI 0)) (mF t z c (a+7) (fdK (K a) (K (a+1)) x y u 0 nilI 0)) (
  qC 212 [] (.f sd) (mF t z c (a+7) (fdK (K a) (K (a+1)) x y u 0 nilI 0)) (mF t z c (a+8) (fdK (K a) (K (a+1)) x y u 0 nilI 0)) (
  qAsk [104,105,103,104] (mF t z c (a+8) (fdK (K a) (K (a+1)) x y u sd nilI 0)) (mF t z c (a+9) (fdK (K a) (K (a+1)) x y u sd nilI 0)) (
  gate (SubN 7 (fdS0 t a z c K x y u sd) (hiS t z c (K a) (K (a+1)) x y u sd n 0 hv (a+9))) (
  qC 193 [] (iA w) (mH t z c n hv b (fdK (K a) (K (a+1)) x y u sd (.osl 8 1 0 n) 0)) (mH t z c n hv (b+1) (fdK (K a) (K (a+1)) x y u sd (.osl 8 1 0 n) 0)) (
  qAsk [59] (mH t z c n hv (b+1) (fdK (K a) (K (a+1)) x y u sd (.osl 8 1 0 n) w)) (mH t z c n hv (b+2) (fdK (K a) (K (a+1)) x y u sd (.osl 8 1 0 n) w)) (
  cond ((Nat.beq n n&&true)&&true) (gate (FSpec Tryz.prog 100 [.agg (fdK (K a) (K (a+1)) x y u sd (slI n hv) w)] (iA 0)) (
  qC 195 [iA 0] (.tup []) (mZ t z c (b+2) (fdK (K a) (K (a+1)) x y u sd (slI n hv) w)) (mZ t z c (b+2) (fdK (K a) (K (a+1)) x y u sd (slI n hv) w)) (
  qC 196 [iA c.nF,iA 2] (.tup []) (mZ t z c (b+2) (fdK (K a) (K (a+1)) x y u sd (slI n hv) w)) (mZ t z c (b+2) (fdK (K a) (K (a+1)) x y u sd (slI n hv) w)) (
  cond ((apB c.nF 80||false)&&true) (gout (.tup []) (MF t z c (b+2) (fdK (K a) (K (a+1)) x y u sd (slI n hv) w))) none)))) none)))))))))):=by kernel_rfl
end
section
variable {t:Tk} {a:Nat} {z:Nat→Int} {c:Ct}
theorem hi_leads {W H:Int} {x y u sd n b:Nat} {hv:Nat→Int} (hn:n≤1000) (h:Has t b n) (hN:∀ j,j < n→NumAt t (b+j)∧hv j=t.N (b+j)):LeadsN 7 Tryz.prog (.loop (loopAt Tryz.f185 0)) (hiS t z c W H x y u sd n 0 hv b) (.exit 0) (hiS t z c W H x y u sd n n hv (b+n)):=by
  refine loop_rule (fun j=>hiS t z c W H x y u sd n j hv (b+j)) n (.exit 0) _ (by simp) (fun j hj=>?_) ?_
  · obtain ⟨h1,h2⟩:=hN j hj
    have hreg:RegOk Tryz.prog flO (flZ0 t (b+j) z c W H x y u sd n j hv) (flZ1 t (b+j) z c W H x y u sd n j hv):=fl_reg t (b+j) z c W H x y u sd n j hv ((number_spec z (h.sub j 1 (by omega)) h1).w (fun _=>rfl) (fun _=>rfl) _ _) (by rw [apB3_t (by omega)]; rfl)
    have hl:LeadsN 7 Tryz.prog (loopAt Tryz.f185 0) (hiS t z c W H x y u sd n j hv (b+j)) .normal (hiS' t z c W H x y u sd n j hv (b+j+1)):=by
      refine leads_ofKN (finN_subN _ (by rfl)) (tabW_ok e_nil k_nil m_nil (w_cons wQ_ok w_nil) r_nil) (toldD_ok (drawnK_ok (tabW_ok e_nil k_nil m_nil (w_cons wQ_ok w_nil) r_nil) (by kernel_rfl)) hreg) noL_okN ((hi_on t (b+j) z c W H x y u sd n j hv).trans ?_)
      rw [dec_lt hj,gate_pos ⟨rfl,rfl⟩]
      rfl
    refine LeadsN.sub hl (SubN.refl _) ?_
    unfold hiS' hiS
    rw [w64_next (by omega),show b+j+1 - 1=b+j by omega,show b+(j+1)=b+j+1 by omega]
    refine sub_like ⟨Or.inl rfl,Or.inl rfl,Or.inl rfl,Or.inl rfl,Or.inl rfl,Or.inl rfl,Or.inl rfl,Or.inl rfl,likeA fun q hq=>?_,trivial⟩
    by_cases c1:q < j
    · rw [show Nat.blt q j=true from Nat.ble_eq_true_of_le c1]
      rfl
    · have c2:q=j:=by omega
      have:Nat.blt q j=false:=by
        cases hb:Nat.blt q j
        · rfl
        · exact absurd (Nat.le_of_ble_eq_true hb) (by omega)
      rw [this,c2,h2]
      rfl
  · refine leads_evWN (finE_subN _ (by rfl)) e_nil k_nil m_nil (w_cons wQ_ok w_nil) r_nil noL_okN ((hi_end t (b+n) z c W H x y u sd n hv).trans ?_)
    rw [dec_self]
    rfl
theorem field_spec {K:Nat→Int} {x y u sd n w:Nat} {hv:Nat→Int} (h:Has t a (9+n+2)) (hk1:Lf t 217 [iA 8] (iA (K a)) a 1 z z) (hk2:Lf t 217 [iA 8] (iA (K (a+1))) (a+1) 1 z z) (hWH:K a*K (a+1)=(n:Nat)) (hn:n≤1000)
    (h1:Is t (a+2) [97,116]) (h2:Lf t 210 [] (vA x y u) (a+3) 3 z z) (h3:Is t (a+6) [115,105,100,101]) (h4:Lf t 212 [] (.f sd) (a+7) 1 z z) (h5:Is t (a+8) [104,105,103,104]) (hN:∀ j,j < n→NumAt t (a+9+j)∧hv j=t.N (a+9+j))
    (hw:Nam t c (a+9+n) w) (h6:Is t (a+9+n+1) [59]) (hm:FSpec Tryz.prog 100 [.agg (fdK (K a) (K (a+1)) x y u sd (slI n hv) (w:Nat))] (iA 0)) (hf:c.nF < 2) :
    GSpec Tryz.prog 185 [.own 0 0] (M7 t a z c) (.tup []) (MF t z c (a+9+n+2) (fdK (K a) (K (a+1)) x y u sd (slI n hv) (w:Nat))):=by
  have hl:=hi_leads (t:=t) (z:=z) (c:=c) (W:=K a) (H:=K (a+1)) (x:=x) (y:=y) (u:=u) (sd:=sd) (b:=a+9) hn (h.sub 9 n (by omega)) hN
  have hL:LOkN (M7 t a z c).length Tryz.prog (fdL t a z c K x y u sd n (a+9+n) hv) (bodyOf Tryz.f185):=by
    refine lokN_one (i:=9) 1 (by kernel_rfl) fun j hj _=>?_
    have:j=0:=by omega
    subst this
    exact toldP_sound (by rfl) hl
  have hs:SubN 7 (fdS0 t a z c K x y u sd) (hiS t z c (K a) (K (a+1)) x y u sd n 0 hv (a+9)):=by
    unfold fdS0 hiS
    rw [hWH,w64_nat (by omega)]
    refine SubN.trans (sub_ext [hiR 0 hv]) (sub_like ⟨Or.inl rfl,Or.inl rfl,Or.inl rfl,Or.inl rfl,Or.inl rfl,Or.inl rfl,Or.inl rfl,likeC ?_,Or.inl rfl,trivial⟩)
    iterate 6 refine And.intro (Or.inl rfl) ?_
    exact ⟨Or.inr fun E u hu=>rel_osl.2 (Or.inl ⟨rfl,rfl,rel_x.1 hu⟩),Or.inl rfl,trivial⟩
  refine gspecGWZ e_nil (k_cons kS_ok k_nil) m_nil (w_cons wQ_ok (w_cons wQ_ok (w_cons wQ_ok (w_cons wQ_ok (w_cons wQ_ok (w_cons wQ_ok (w_cons wQ_ok w_nil))))))) r_nil Tryz.func185 (by kernel_rfl) (by kernel_rfl) (mem:=M7 t a z c) (oneZ_ok (frzKN_ok 7 8 (by omega))) hL rfl (τ:=τ7 10) (by rfl) ((fe_ev t a z c K x y u sd n (a+9+n) hv (w:Nat)).trans ?_)
  refine (qC_lf hk1 (fun _=>rfl) (fun _=>rfl) _ _ _).trans ?_
  refine (qC_lf hk2 (fun _=>rfl) (fun _=>rfl) _ _ _).trans ?_
  refine (qAsk_t (a:=a+2) (h.sub 2 1 (by omega)) h1 _ _ _).trans ?_
  refine (qC_lf h2 (fun _=>rfl) (fun _=>rfl) _ _ _).trans ?_
  refine (qAsk_t (a:=a+6) (h.sub 6 1 (by omega)) h3 _ _ _).trans ?_
  refine (qC_lf h4 (fun _=>rfl) (fun _=>rfl) _ _ _).trans ?_
  refine (qAsk_t (a:=a+8) (h.sub 8 1 (by omega)) h5 _ _ _).trans ?_
  refine (gate_pos hs).trans ?_
  have hb:Has t (a+9+n) 2:=⟨by have:=h.1; omega,h.2⟩
  refine (qC_t (wear_w (a:=a+9+n) (hb.sub 0 1 (by omega)) hw _) _).trans ?_
  refine (qAsk_t (a:=a+9+n+1) (hb.sub 1 1 (by omega)) h6 _ _ _).trans ?_
  rw [show ((Nat.beq n n&&true)&&true)=true by rw [Nat.beq_refl]; rfl]
  refine (gate_pos hm).trans ?_
  refine (qC_lf (must_spec t (a+9+n+2) z) (fun _=>rfl) (fun _=>rfl) _ _ _).trans ?_
  refine (qC_lf (room_spec t (a+9+n+2) z (x:=c.nF) (y:=2) (by omega)) (fun _=>rfl) (fun _=>rfl) _ _ _).trans ?_
  rw [apB_t (by omega)]
  rfl
end
end Go.Proofs.YtefphimaggjihaaGreatDoor.Pi.Rd

namespace Go.Proofs.YtefphimaggjihaaGreatDoor.Pi.Rd
open Go.Shelf Go.RowKit Go.Gv
open Hs.So (Prt prS)
def wEy:List UInt8:=[101,121,101]
def wSy:List UInt8:=[115,107,121]
def wSk:List UInt8:=[115,107,105,110]
def wLa:List UInt8:=[108,97,109,112]
def wSo:List UInt8:=[115,111,108,105,100]
def wFi:List UInt8:=[102,105,101,108,100]
def wRe:List UInt8:=[114,101,112,101,97,116]
def teR (l:List UInt8) (f:Nat):Row:=.c [zA (lB l),fnA f]
def T1:List Row:=[teR wEy 180]
def T2:List Row:=T1 ++ [teR wSy 181]
def T3:List Row:=T2 ++ [teR wSk 182]
def T4:List Row:=T3 ++ [teR wLa 183]
def T5:List Row:=T4 ++ [teR wSo 184]
def T6:List Row:=T5 ++ [teR wFi 185]
def T7:List Row:=T6 ++ [teR wRe 186]
def nestK:List Bool→Option Out→Option Out
  | [],x=>x
  | b::r,x=>cond b none (nestK r x)
section
variable (t:Tk) (a:Nat) (z:Nat→Int) (c:Ct) (s:ByteArray) (m' m'':List Row)
noncomputable def kTe:KEntry:=kS Tryz.prog 168 (fun _=>teV)
noncomputable def gTe (x:Option Out):Option Out:=gate (FSpec Tryz.prog 168 [] teV) x
noncomputable def thX (x:Option Out):Option Out:=qC 167 [] (zA s) (M7 t a z c) (M7 t (a+1) z c) (gTe x)
def mkS':List Bool:=[eqS wBa s,eqS wBk s,eqS wTu s,eqS wTr s,eqS wPl s,eqS wRi s]
/-- One of the tellers. -/
noncomputable def wTe (f:Nat):List WEntry:=[wNxS s,wQ Tryz.prog f (fun _ _=>.tup []) (fun _ _=>m')]
noncomputable def teX (f:Nat) (X:List Row) (x:Option Out):Option Out:=qC f [] (.tup []) (M7 t (a+1) z c ++ X) m' x
noncomputable def enX:Option Out:=gMa (nest (mkS' s))
variable (b:Nat) (z':Nat→Int) (c':Ct) (x:List AV) (nm:ByteArray) (n:Nat) (P:Nat→Prt) (w:Int)
theorem th_ey:evGW Tryz.prog [] [kTe,kMa] [] (wTe s (M7 t b z' c' ++ T1) 180) [] noL Tryz.f148 [.own 0 0] (M7 t a z c) τ6 =
  thX t a z c s (cond (eqS wEy s) (teX t a z c (M7 t b z' c' ++ T1) 180 T1 (gout (.tup []) (M7 t b z' c'))) (nestK [eqS wSy s,eqS wSk s,eqS wLa s,eqS wSo s,eqS wFi s,eqS wRe s] (enX s))):=by kernel_rfl
theorem th_sy:evGW Tryz.prog [] [kTe,kMa] [] (wTe s (M7 t b z' c' ++ T2) 181) [] noL Tryz.f148 [.own 0 0] (M7 t a z c) τ6 =
  thX t a z c s (nestK [eqS wEy s] (cond (eqS wSy s) (teX t a z c (M7 t b z' c' ++ T2) 181 T2 (gout (.tup []) (M7 t b z' c'))) (nestK [eqS wSk s,eqS wLa s,eqS wSo s,eqS wFi s,eqS wRe s] (enX s)))):=by kernel_rfl
def xK:List Row:=[rdX t b z' { pl0 with n:=10,k:=11 } { c with nN:=c.nN+1,nK:=c.nK+1 },rS c,rO c,rF c,dd,rL c,dd] ++ (T3 ++ [apR 9 1 c.nN (fun q=>[zA (c.N q)]) [zA nm],apR 47 10 c.nK c.K x])
theorem th_sk:evGW Tryz.prog [] [kTe,kMa] [] (wTe s (xK t c b z' x nm) 182) [] noL Tryz.f148 [.own 0 0] (M7 t a z c) [some 0,some 1,some 2,some 3,some 4,some 5,some 6,some 10,some 11] =
  thX t a z c s (nestK [eqS wEy s,eqS wSy s] (cond (eqS wSk s) (teX t a z c (xK t c b z' x nm) 182 T3 (gout (.tup []) (MK t z' c nm b x))) (nestK [eqS wLa s,eqS wSo s,eqS wFi s,eqS wRe s] (enX s)))):=by kernel_rfl
def xL:List Row:=[rdX t b z' { pl0 with l:=11 } { c with nL:=c.nL+1 },rS c,rO c,rF c,rK c,dd,rN c] ++ (T4 ++ [apR 76 6 c.nL c.L x])
theorem th_la:evGW Tryz.prog [] [kTe,kMa] [] (wTe s (xL t c b z' x) 183) [] noL Tryz.f148 [.own 0 0] (M7 t a z c) (τ7 11) =
  thX t a z c s (nestK [eqS wEy s,eqS wSy s,eqS wSk s] (cond (eqS wLa s) (teX t a z c (xL t c b z' x) 183 T4 (gout (.tup []) (ML t z' c b x))) (nestK [eqS wSo s,eqS wFi s,eqS wRe s] (enX s)))):=by kernel_rfl
def xO:List Row:=[rdR t b z' (oP (prS n P) (oX { pl0 with o:=12 } { c with nO:=c.nO+1 })),rS c,dd,rF c,rK c,rL c,rN c] ++ (T5 ++ [apR 69 2 c.nO c.O (soK n P w)])
theorem th_so:evGW Tryz.prog [] [kTe,kMa] [] (wTe s (xO t c b z' n P w) 184) [] noL Tryz.f148 [.own 0 0] (M7 t a z c) (τ7 12) =
  thX t a z c s (nestK [eqS wEy s,eqS wSy s,eqS wSk s,eqS wLa s] (cond (eqS wSo s) (teX t a z c (xO t c b z' n P w) 184 T5 (gout (.tup []) (MO t z' c n P w b))) (nestK [eqS wFi s,eqS wRe s] (enX s)))):=by kernel_rfl
def xF:List Row:=[rdX t b z' { pl0 with f:=13 } { c with nF:=c.nF+1 },rS c,rO c,dd,rK c,rL c,rN c] ++ (T6 ++ [apR 74 8 c.nF c.F x])
theorem th_fi:evGW Tryz.prog [] [kTe,kMa] [] (wTe s (xF t c b z' x) 185) [] noL Tryz.f148 [.own 0 0] (M7 t a z c) (τ7 13) =
  thX t a z c s (nestK [eqS wEy s,eqS wSy s,eqS wSk s,eqS wLa s,eqS wSo s] (cond (eqS wFi s) (teX t a z c (xF t c b z' x) 185 T6 (gout (.tup []) (MF t z' c b x))) (nestK [eqS wRe s] (enX s)))):=by kernel_rfl
variable (d k:Nat) (cs:List AV) (X:List Row)
def xS:List Row:=[rdX t b z { pl0 with s:=k } { c with nS:=c.nS+1 },dd,rO c,rF c,rK c,rL c,rN c] ++ (X ++ [apR 67 13 c.nS c.S x])
noncomputable def wSh (f:Nat):List WEntry:=[wNxS s,wQ Tryz.prog f (fun _ _=>.agg cs) (fun _ mem=>adv d mem),wQ Tryz.prog 170 (fun _ _=>.tup []) (fun _ _=>xS t z c b x k X)]
noncomputable def shX' (f:Nat):Option Out:=qC f [] (.agg cs) (M7 t (a+1) z c ++ X) (M7 t (a+1+d) z c ++ X) (qC 170 [.agg cs] (.tup []) (M7 t (a+1+d) z c ++ X) (xS t z c b x k X) (gout (.tup []) (MS t z c b x)))
noncomputable def noTe:Option Out→Option Out:=nestK [eqS wEy s,eqS wSy s,eqS wSk s,eqS wLa s,eqS wSo s,eqS wFi s,eqS wRe s]
def S1:List Row:=T7 ++ [maR wBa true 187]
def S2:List Row:=S1 ++ [maR wBk true 188]
def S3:List Row:=S2 ++ [maR wTu true 189]
def S4:List Row:=S3 ++ [maR wTr false 190]
def S5:List Row:=S4 ++ [maR wPl false 191]
def S6:List Row:=S5 ++ [maR wRi false 192]
theorem th_s1:evGW Tryz.prog [] [kTe,kMa] [] (wSh t z c s b x 5 15 cs S1 187) [] noL Tryz.f148 [.own 0 0] (M7 t a z c) (τ7 15) =
  thX t a z c s (noTe s (gMa (cond (eqS wBa s) (shX' t a z c b x 5 15 cs S1 187) (nest [eqS wBk s,eqS wTu s,eqS wTr s,eqS wPl s,eqS wRi s])))):=by kernel_rfl
theorem th_s2:evGW Tryz.prog [] [kTe,kMa] [] (wSh t z c s b x 7 16 cs S2 188) [] noL Tryz.f148 [.own 0 0] (M7 t a z c) (τ7 16) =
  thX t a z c s (noTe s (gMa (nestK [eqS wBa s] (cond (eqS wBk s) (shX' t a z c b x 7 16 cs S2 188) (nest [eqS wTu s,eqS wTr s,eqS wPl s,eqS wRi s]))))):=by kernel_rfl
theorem th_s3:evGW Tryz.prog [] [kTe,kMa] [] (wSh t z c s b x 9 17 cs S3 189) [] noL Tryz.f148 [.own 0 0] (M7 t a z c) (τ7 17) =
  thX t a z c s (noTe s (gMa (nestK [eqS wBa s,eqS wBk s] (cond (eqS wTu s) (shX' t a z c b x 9 17 cs S3 189) (nest [eqS wTr s,eqS wPl s,eqS wRi s]))))):=by kernel_rfl
theorem th_s4:evGW Tryz.prog [] [kTe,kMa] [] (wSh t z c s b x 11 18 cs S4 190) [] noL Tryz.f148 [.own 0 0] (M7 t a z c) (τ7 18) =
  thX t a z c s (noTe s (gMa (nestK [eqS wBa s,eqS wBk s,eqS wTu s] (cond (eqS wTr s) (shX' t a z c b x 11 18 cs S4 190) (nest [eqS wPl s,eqS wRi s]))))):=by kernel_rfl
theorem th_s5:evGW Tryz.prog [] [kTe,kMa] [] (wSh t z c s b x 9 19 cs S5 191) [] noL Tryz.f148 [.own 0 0] (M7 t a z c) (τ7 19) =
  thX t a z c s (noTe s (gMa (nestK [eqS wBa s,eqS wBk s,eqS wTu s,eqS wTr s] (cond (eqS wPl s) (shX' t a z c b x 9 19 cs S5 191) (nest [eqS wRi s]))))):=by kernel_rfl
theorem th_s6:evGW Tryz.prog [] [kTe,kMa] [] (wSh t z c s b x 10 20 cs S6 192) [] noL Tryz.f148 [.own 0 0] (M7 t a z c) (τ7 20) =
  thX t a z c s (noTe s (gMa (nestK [eqS wBa s,eqS wBk s,eqS wTu s,eqS wTr s,eqS wPl s] (cond (eqS wRi s) (shX' t a z c b x 10 20 cs S6 192) (nest []))))):=by kernel_rfl
end
end Go.Proofs.YtefphimaggjihaaGreatDoor.Pi.Rd

namespace Go.Proofs.YtefphimaggjihaaGreatDoor.Pi.Rd
open Go.Shelf Go.RowKit Go.Gv
open Hs.So (Prt prS)
open Hs (shC)
theorem eqN {l l':List UInt8} (h:decide (l=l')=false):eqS l (lB l')=false:=by rw [eqS_eq,h]
theorem eqY (l:List UInt8):eqS l (lB l)=true:=by rw [eqS_eq,decide_eq_true rfl]
section
variable {t:Tk} {a:Nat} {z:Nat→Int} {c:Ct}
theorem M7_live0:∀ (i:Nat) (r:Row),(M7 t a z c)[i]?=some r→r.live=true∧renRow (ixOf (List.range 7)) r=r:=fun i r h=>by
  match i,h with
  | 0,h=>cases h; exact ⟨rfl,rfl⟩
  | 1,h=>cases h; exact ⟨rfl,rfl⟩
  | 2,h=>cases h; exact ⟨rfl,rfl⟩
  | 3,h=>cases h; exact ⟨rfl,rfl⟩
  | 4,h=>cases h; exact ⟨rfl,rfl⟩
  | 5,h=>cases h; exact ⟨rfl,rfl⟩
  | 6,h=>cases h; exact ⟨rfl,rfl⟩
  | n+7,h=>cases h
theorem th_frame {f:Nat} {mem1 mem' X:List Row} (h:GSpec Tryz.prog f [.own 0 0] (M7 t a z c) (.tup []) mem1) (hm:7≤mem1.length) (he:mem'=(mem1.take 7).map (renRow (shX 7 X.length)) ++ (X ++ (mem1.drop 7).map (renRow (shX 7 X.length)))):WSpec Tryz.prog f [.own 0 0] (M7 t a z c ++ X) (.tup []) mem' :=
  wframeX 7 rfl h X rfl M7_live0 rfl hm rfl he
theorem thX_t {s:ByteArray} (h:Has t a 1) (hs:t.T a=s) (x:Option Out):thX t a z c s x=x:=by
  unfold thX gTe
  rw [show ∀ k,qC 167 [] (zA s) (M7 t a z c) (M7 t (a+1) z c) k=k from fun k=>qC_lf (by rw [← hs]; exact next_spec z h) (fun _=>rfl) (fun _=>rfl) _ _ k,gate_pos te_spec]
theorem kk_ok:∀ e,e ∈ [kTe,kMa]→KOk Tryz.prog e:=k_cons kS_ok (k_cons kS_ok k_nil)
theorem wTe_ok {s:ByteArray} {m':List Row} {f:Nat}:∀ e,e ∈ wTe s m' f→WEOk Tryz.prog e:=w_cons wQ_ok (w_cons wQ_ok w_nil)
theorem teX_t {m' X:List Row} {f:Nat} (h:WSpec Tryz.prog f [.own 0 0] (M7 t (a+1) z c ++ X) (.tup []) m') (x:Option Out):teX t a z c m' f X x=x:=qC_t h x

theorem thing_eye {b:Nat} {z':Nat→Int} {c':Ct} (h:Has t a 1) (hw:Is t a wEy) (hc:GSpec Tryz.prog 180 [.own 0 0] (M7 t (a+1) z c) (.tup []) (M7 t b z' c')):GSpec Tryz.prog 148 [.own 0 0] (M7 t a z c) (.tup []) (M7 t b z' c'):=by
  refine gspecGW e_nil kk_ok m_nil wTe_ok r_nil Tryz.func148 (by kernel_rfl) (by kernel_rfl) (mem:=M7 t a z c) noL_okN rfl (τ:=τ6) (by rfl) ((th_ey t a z c (lB wEy) b z' c').trans ?_)
  rw [thX_t h hw]
  rw [eqY]
  exact teX_t (th_frame hc (by show 7≤7; omega) rfl) _
theorem thing_sky {b:Nat} {z':Nat→Int} {c':Ct} (h:Has t a 1) (hw:Is t a wSy) (hc:GSpec Tryz.prog 181 [.own 0 0] (M7 t (a+1) z c) (.tup []) (M7 t b z' c')):GSpec Tryz.prog 148 [.own 0 0] (M7 t a z c) (.tup []) (M7 t b z' c'):=by
  refine gspecGW e_nil kk_ok m_nil wTe_ok r_nil Tryz.func148 (by kernel_rfl) (by kernel_rfl) (mem:=M7 t a z c) noL_okN rfl (τ:=τ6) (by rfl) ((th_sy t a z c (lB wSy) b z' c').trans ?_)
  rw [thX_t h hw]
  unfold nestK
  simp only [nestK,show eqS wEy (lB wSy)=false from eqN (by decide),eqY]
  exact teX_t (th_frame hc (by show 7≤7; omega) rfl) _
theorem thing_skin {b:Nat} {z':Nat→Int} {nm:ByteArray} {x:List Int} (h:Has t a 1) (hw:Is t a wSk) (hc:GSpec Tryz.prog 182 [.own 0 0] (M7 t (a+1) z c) (.tup []) (MK t z' c nm b (skK x))):GSpec Tryz.prog 148 [.own 0 0] (M7 t a z c) (.tup []) (MK t z' c nm b (skK x)):=by
  refine gspecGW e_nil kk_ok m_nil wTe_ok r_nil Tryz.func148 (by kernel_rfl) (by kernel_rfl) (mem:=M7 t a z c) noL_okN rfl (τ:=[some 0,some 1,some 2,some 3,some 4,some 5,some 6,some 10,some 11]) (by rfl) ((th_sk t a z c (lB wSk) b z' (skK x) nm).trans ?_)
  rw [thX_t h hw]
  unfold nestK
  simp only [nestK,show eqS wEy (lB wSk)=false from eqN (by decide),show eqS wSy (lB wSk)=false from eqN (by decide),eqY]
  exact teX_t (th_frame hc (by show 7≤9; omega) rfl) _
theorem thing_lamp {b:Nat} {z':Nat→Int} {x:List AV} (h:Has t a 1) (hw:Is t a wLa) (hc:GSpec Tryz.prog 183 [.own 0 0] (M7 t (a+1) z c) (.tup []) (ML t z' c b x)):GSpec Tryz.prog 148 [.own 0 0] (M7 t a z c) (.tup []) (ML t z' c b x):=by
  refine gspecGW e_nil kk_ok m_nil wTe_ok r_nil Tryz.func148 (by kernel_rfl) (by kernel_rfl) (mem:=M7 t a z c) noL_okN rfl (τ:=τ7 11) (by rfl) ((th_la t a z c (lB wLa) b z' x).trans ?_)
  rw [thX_t h hw]
  unfold nestK
  simp only [nestK,show eqS wEy (lB wLa)=false from eqN (by decide),show eqS wSy (lB wLa)=false from eqN (by decide),show eqS wSk (lB wLa)=false from eqN (by decide),eqY]
  exact teX_t (th_frame hc (by show 7≤8; omega) rfl) _
theorem thing_solid {b:Nat} {z':Nat→Int} {n:Nat} {P:Nat→Prt} {w:Int} (h:Has t a 1) (hw:Is t a wSo) (hc:GSpec Tryz.prog 184 [.own 0 0] (M7 t (a+1) z c) (.tup []) (MO t z' c n P w b)):GSpec Tryz.prog 148 [.own 0 0] (M7 t a z c) (.tup []) (MO t z' c n P w b):=by
  refine gspecGW e_nil kk_ok m_nil wTe_ok r_nil Tryz.func148 (by kernel_rfl) (by kernel_rfl) (mem:=M7 t a z c) noL_okN rfl (τ:=τ7 12) (by rfl) ((th_so t a z c (lB wSo) b z' n P w).trans ?_)
  rw [thX_t h hw]
  unfold nestK
  simp only [nestK,show eqS wEy (lB wSo)=false from eqN (by decide),show eqS wSy (lB wSo)=false from eqN (by decide),show eqS wSk (lB wSo)=false from eqN (by decide),show eqS wLa (lB wSo)=false from eqN (by decide),eqY]
  exact teX_t (th_frame hc (by show 7≤8; omega) rfl) _
theorem thing_field {b:Nat} {z':Nat→Int} {x:List AV} (h:Has t a 1) (hw:Is t a wFi) (hc:GSpec Tryz.prog 185 [.own 0 0] (M7 t (a+1) z c) (.tup []) (MF t z' c b x)):GSpec Tryz.prog 148 [.own 0 0] (M7 t a z c) (.tup []) (MF t z' c b x):=by
  refine gspecGW e_nil kk_ok m_nil wTe_ok r_nil Tryz.func148 (by kernel_rfl) (by kernel_rfl) (mem:=M7 t a z c) noL_okN rfl (τ:=τ7 13) (by rfl) ((th_fi t a z c (lB wFi) b z' x).trans ?_)
  rw [thX_t h hw]
  unfold nestK
  simp only [nestK,show eqS wEy (lB wFi)=false from eqN (by decide),show eqS wSy (lB wFi)=false from eqN (by decide),show eqS wSk (lB wFi)=false from eqN (by decide),show eqS wLa (lB wFi)=false from eqN (by decide),show eqS wSo (lB wFi)=false from eqN (by decide),eqY]
  exact teX_t (th_frame hc (by show 7≤8; omega) rfl) _
/-- The tokens of a shape. -/
inductive ShTk (t:Tk) (z:Nat→Int) (a:Nat) (k:Int) (α:Nat→Nat):Nat→Prop where
  | ba (h:Has t a 1) (w:Is t a wBa) (l:Lf t 187 [] (.agg (shC k α 0)) (a+1) 5 z z):ShTk t z a k α 6
  | bk (h:Has t a 1) (w:Is t a wBk) (l:Lf t 188 [] (.agg (shC k α 0)) (a+1) 7 z z):ShTk t z a k α 8
  | tu (h:Has t a 1) (w:Is t a wTu) (l:Lf t 189 [] (.agg (shC k α 0)) (a+1) 9 z z):ShTk t z a k α 10
  | tr (h:Has t a 1) (w:Is t a wTr) (l:Lf t 190 [] (.agg (shC k α 0)) (a+1) 11 z z):ShTk t z a k α 12
  | pl (h:Has t a 1) (w:Is t a wPl) (l:Lf t 191 [] (.agg (shC k α 0)) (a+1) 9 z z):ShTk t z a k α 10
  | ri (h:Has t a 1) (w:Is t a wRi) (l:Lf t 192 [] (.agg (shC k α 0)) (a+1) 10 z z):ShTk t z a k α 11
theorem wSh_ok {s:ByteArray} {b d k:Nat} {x cs:List AV} {X:List Row} {f:Nat}:∀ e,e ∈ wSh t z c s b x d k cs X f→WEOk Tryz.prog e:=w_cons wQ_ok (w_cons wQ_ok (w_cons wQ_ok w_nil))
theorem ks_frame {b k w:Nat} {kk:Int} {α:Nat→Nat} {X:List Row} (hk:k=7+X.length) (h:GSpec Tryz.prog 170 [.own 0 0,.agg (shC kk α 0)] (M7 t a z c) (.tup []) (MS t z c b (shC kk α (w:Nat)))):WSpec Tryz.prog 170 [.own 0 0,.agg (shC kk α 0)] (M7 t a z c ++ X) (.tup []) (xS t z c b (shC kk α (w:Nat)) k X):=by
  refine wframeX 7 rfl h X rfl M7_live0 rfl (by show 7≤8; omega) rfl ?_
  subst hk
  rfl
theorem shX_t {b d k w:Nat} {kk:Int} {α:Nat→Nat} {X:List Row} {f:Nat} (hk:k=7+X.length) (hl:Lf t f [] (.agg (shC kk α 0)) (a+1) d z z) (h:GSpec Tryz.prog 170 [.own 0 0,.agg (shC kk α 0)] (M7 t (a+1+d) z c) (.tup []) (MS t z c b (shC kk α (w:Nat)))):shX' t a z c b (shC kk α (w:Nat)) d k (shC kk α 0) X f=gout (.tup []) (MS t z c b (shC kk α (w:Nat))):=by
  unfold shX'
  refine (qC_lf hl (fun _=>rfl) (fun _=>rfl) _ _ _).trans ?_
  exact qC_t (ks_frame hk h) _
theorem thing_shape {n w:Nat} {k:Int} {α:Nat→Nat} (hs:ShTk t z a k α n) (h:Has t (a+n) 2) (hk:Nam t c (a+n) w) (h1:Is t (a+n+1) [59]) (hm:FSpec Tryz.prog 98 [.agg (shC k α (w:Nat))] (iA 0)) (hn:c.nS < 64):GSpec Tryz.prog 148 [.own 0 0] (M7 t a z c) (.tup []) (MS t z c (a+n+2) (shC k α (w:Nat))):=by
  have hks:=keepShape_spec (t:=t) (a:=a+n) (z:=z) (c:=c) (j:=k) (a0:=α 0) (a1:=α 1) (a2:=α 2) (b0:=α 3) (b1:=α 4) (b2:=α 5) (c0:=α 6) (c1:=α 7) (c2:=α 8) (r:=α 9) (q:=α 10) h hk h1 hm hn
  cases hs with
  | ba h0 hw l =>
    refine gspecGW e_nil kk_ok m_nil wSh_ok r_nil Tryz.func148 (by kernel_rfl) (by kernel_rfl) (mem:=M7 t a z c) noL_okN rfl (τ:=τ7 15) (by rfl) ((th_s1 t a z c (lB wBa) (a+6+2) (shC k α (w:Nat)) (shC k α 0)).trans ?_)
    rw [thX_t h0 hw]
    unfold noTe gMa
    simp only [nestK,show eqS wEy (lB wBa)=false from eqN (by decide),show eqS wSy (lB wBa)=false from eqN (by decide),show eqS wSk (lB wBa)=false from eqN (by decide),show eqS wLa (lB wBa)=false from eqN (by decide),show eqS wSo (lB wBa)=false from eqN (by decide),show eqS wFi (lB wBa)=false from eqN (by decide),show eqS wRe (lB wBa)=false from eqN (by decide),eqY]
    refine (gate_pos ma_spec).trans ?_
    exact shX_t (k:=15) rfl l hks
  | bk h0 hw l =>
    refine gspecGW e_nil kk_ok m_nil wSh_ok r_nil Tryz.func148 (by kernel_rfl) (by kernel_rfl) (mem:=M7 t a z c) noL_okN rfl (τ:=τ7 16) (by rfl) ((th_s2 t a z c (lB wBk) (a+8+2) (shC k α (w:Nat)) (shC k α 0)).trans ?_)
    rw [thX_t h0 hw]
    unfold noTe gMa
    simp only [nestK,show eqS wEy (lB wBk)=false from eqN (by decide),show eqS wSy (lB wBk)=false from eqN (by decide),show eqS wSk (lB wBk)=false from eqN (by decide),show eqS wLa (lB wBk)=false from eqN (by decide),show eqS wSo (lB wBk)=false from eqN (by decide),show eqS wFi (lB wBk)=false from eqN (by decide),show eqS wRe (lB wBk)=false from eqN (by decide),show eqS wBa (lB wBk)=false from eqN (by decide),eqY]
    refine (gate_pos ma_spec).trans ?_
    exact shX_t (k:=16) rfl l hks
  | tu h0 hw l =>
    refine gspecGW e_nil kk_ok m_nil wSh_ok r_nil Tryz.func148 (by kernel_rfl) (by kernel_rfl) (mem:=M7 t a z c) noL_okN rfl (τ:=τ7 17) (by rfl) ((th_s3 t a z c (lB wTu) (a+10+2) (shC k α (w:Nat)) (shC k α 0)).trans ?_)
    rw [thX_t h0 hw]
    unfold noTe gMa
    simp only [nestK,show eqS wEy (lB wTu)=false from eqN (by decide),show eqS wSy (lB wTu)=false from eqN (by decide),show eqS wSk (lB wTu)=false from eqN (by decide),show eqS wLa (lB wTu)=false from eqN (by decide),show eqS wSo (lB wTu)=false from eqN (by decide),show eqS wFi (lB wTu)=false from eqN (by decide),show eqS wRe (lB wTu)=false from eqN (by decide),show eqS wBa (lB wTu)=false from eqN (by decide),show eqS wBk (lB wTu)=false from eqN (by decide),eqY]
    refine (gate_pos ma_spec).trans ?_
    exact shX_t (k:=17) rfl l hks
  | tr h0 hw l =>
    refine gspecGW e_nil kk_ok m_nil wSh_ok r_nil Tryz.func148 (by kernel_rfl) (by kernel_rfl) (mem:=M7 t a z c) noL_okN rfl (τ:=τ7 18) (by rfl) ((th_s4 t a z c (lB wTr) (a+12+2) (shC k α (w:Nat)) (shC k α 0)).trans ?_)
    rw [thX_t h0 hw]
    unfold noTe gMa
    simp only [nestK,show eqS wEy (lB wTr)=false from eqN (by decide),show eqS wSy (lB wTr)=false from eqN (by decide),show eqS wSk (lB wTr)=false from eqN (by decide),show eqS wLa (lB wTr)=false from eqN (by decide),show eqS wSo (lB wTr)=false from eqN (by decide),show eqS wFi (lB wTr)=false from eqN (by decide),show eqS wRe (lB wTr)=false from eqN (by decide),show eqS wBa (lB wTr)=false from eqN (by decide),show eqS wBk (lB wTr)=false from eqN (by decide),show eqS wTu (lB wTr)=false from eqN (by decide),eqY]
    refine (gate_pos ma_spec).trans ?_
    exact shX_t (k:=18) rfl l hks
  | pl h0 hw l =>
    refine gspecGW e_nil kk_ok m_nil wSh_ok r_nil Tryz.func148 (by kernel_rfl) (by kernel_rfl) (mem:=M7 t a z c) noL_okN rfl (τ:=τ7 19) (by rfl) ((th_s5 t a z c (lB wPl) (a+10+2) (shC k α (w:Nat)) (shC k α 0)).trans ?_)
    rw [thX_t h0 hw]
    unfold noTe gMa
    simp only [nestK,show eqS wEy (lB wPl)=false from eqN (by decide),show eqS wSy (lB wPl)=false from eqN (by decide),show eqS wSk (lB wPl)=false from eqN (by decide),show eqS wLa (lB wPl)=false from eqN (by decide),show eqS wSo (lB wPl)=false from eqN (by decide),show eqS wFi (lB wPl)=false from eqN (by decide),show eqS wRe (lB wPl)=false from eqN (by decide),show eqS wBa (lB wPl)=false from eqN (by decide),show eqS wBk (lB wPl)=false from eqN (by decide),show eqS wTu (lB wPl)=false from eqN (by decide),show eqS wTr (lB wPl)=false from eqN (by decide),eqY]
    refine (gate_pos ma_spec).trans ?_
    exact shX_t (k:=19) rfl l hks
  | ri h0 hw l =>
    refine gspecGW e_nil kk_ok m_nil wSh_ok r_nil Tryz.func148 (by kernel_rfl) (by kernel_rfl) (mem:=M7 t a z c) noL_okN rfl (τ:=τ7 20) (by rfl) ((th_s6 t a z c (lB wRi) (a+11+2) (shC k α (w:Nat)) (shC k α 0)).trans ?_)
    rw [thX_t h0 hw]
    unfold noTe gMa
    simp only [nestK,show eqS wEy (lB wRi)=false from eqN (by decide),show eqS wSy (lB wRi)=false from eqN (by decide),show eqS wSk (lB wRi)=false from eqN (by decide),show eqS wLa (lB wRi)=false from eqN (by decide),show eqS wSo (lB wRi)=false from eqN (by decide),show eqS wFi (lB wRi)=false from eqN (by decide),show eqS wRe (lB wRi)=false from eqN (by decide),show eqS wBa (lB wRi)=false from eqN (by decide),show eqS wBk (lB wRi)=false from eqN (by decide),show eqS wTu (lB wRi)=false from eqN (by decide),show eqS wTr (lB wRi)=false from eqN (by decide),show eqS wPl (lB wRi)=false from eqN (by decide),eqY]
    refine (gate_pos ma_spec).trans ?_
    exact shX_t (k:=20) rfl l hks
end
end Go.Proofs.YtefphimaggjihaaGreatDoor.Pi.Rd

namespace Go.Proofs.YtefphimaggjihaaGreatDoor.Pi.Rd
open Go.Shelf Go.RowKit Go.Gv
open Hs.So (Prt prS)
open Hs (shC)
section
variable (t:Tk) (a:Nat) (z:Nat→Int) (c:Ct) (b:Nat) (z':Nat→Int) (c':Ct) (x:List AV) (nm:ByteArray) (n:Nat) (P:Nat→Prt) (w:Int)
def thS (mem:List Row):St:=mkS 27 [(0,.own 0 0)] mem
noncomputable def wTg (m:List Row):List WEntry:=[wQ Tryz.prog 148 (fun _ _=>.tup []) (fun _ _=>m)]
def tlI:Bool:=(ixB (a:Nat) t.n||!(decide (decide ((a:Int) < (t.n:Nat))=true)&&true))&&true
def tlT:Bool:=cond (decide ((a:Int) < (t.n:Nat))) (!((t.T a).toList==(lB [125]).toList)) false
noncomputable def tlX (m:List Row) (x:Option Out):Option Out:=cond (tlI t a) (cond (tlT t a) (qC 148 [] (.tup []) (M7 t a z c) m x) none) none
noncomputable def tlE (m:List Row) (τ:List (Option Nat)):Option Out:=evCW Tryz.prog [] [] [] (wTg m) [] noL (loopAt Tryz.f113 0) (thS (M7 t a z c)) (finN [0] τ)
theorem tl_m:tlE t a z c (M7 t b z' c') τ6=tlX t a z c (M7 t b z' c') (some ⟨.normal,thS (M7 t b z' c'),.any⟩):=by kernel_rfl
def sS' (x:List AV):List Row:=[rdX t b z' pl0 { c with nS:=c.nS+1 },apR 67 13 c.nS c.S x,rO c,rF c,rK c,rL c,rN c]
theorem tl_s:tlE t a z c (MS t z' c b x) [some 0,some 7,some 2,some 3,some 4,some 5,some 6]=tlX t a z c (MS t z' c b x) (some ⟨.normal,thS (sS' t c b z' x),.any⟩):=by kernel_rfl
def sL' (x:List AV):List Row:=[rdX t b z' pl0 { c with nL:=c.nL+1 },rS c,rO c,rF c,rK c,apR 76 6 c.nL c.L x,rN c]
theorem tl_l:tlE t a z c (ML t z' c b x) [some 0,some 1,some 2,some 3,some 4,some 7,some 6]=tlX t a z c (ML t z' c b x) (some ⟨.normal,thS (sL' t c b z' x),.any⟩):=by kernel_rfl
def sF' (x:List AV):List Row:=[rdX t b z' pl0 { c with nF:=c.nF+1 },rS c,rO c,apR 74 8 c.nF c.F x,rK c,rL c,rN c]
theorem tl_f:tlE t a z c (MF t z' c b x) [some 0,some 1,some 2,some 7,some 4,some 5,some 6]=tlX t a z c (MF t z' c b x) (some ⟨.normal,thS (sF' t c b z' x),.any⟩):=by kernel_rfl
def sO':List Row:=[rdR t b z' (oP (prS n P) (oX pl0 { c with nO:=c.nO+1 })),rS c,apR 69 2 c.nO c.O (soK n P w),rF c,rK c,rL c,rN c]
theorem tl_o:tlE t a z c (MO t z' c n P w b) [some 0,some 1,some 7,some 3,some 4,some 5,some 6]=tlX t a z c (MO t z' c n P w b) (some ⟨.normal,thS (sO' t c b z' n P w),.any⟩):=by kernel_rfl
def sK' (x:List AV):List Row:=[rdX t b z' pl0 { c with nN:=c.nN+1,nK:=c.nK+1 },rS c,rO c,rF c,apR 47 10 c.nK c.K x,rL c,apR 9 1 c.nN (fun q=>[zA (c.N q)]) [zA nm]]
theorem tl_k:tlE t a z c (MK t z' c nm b x) [some 0,some 1,some 2,some 3,some 8,some 5,some 7]=tlX t a z c (MK t z' c nm b x) (some ⟨.normal,thS (sK' t c b z' nm x),.any⟩):=by kernel_rfl
theorem tl_end:evCW Tryz.prog [] [] [] [] [] noL (loopAt Tryz.f113 0) (thS (M7 t a z c)) (finE [0] τ6)=cond (tlI t a) (cond (tlT t a) none (some ⟨.exit 0,thS (M7 t a z c),.any⟩)) none:=by kernel_rfl
end
end Go.Proofs.YtefphimaggjihaaGreatDoor.Pi.Rd

namespace Go.Proofs.YtefphimaggjihaaGreatDoor.Pi.Rd
open Go.Shelf Go.RowKit Go.Gv
open Hs.So (Prt prS)
open Hs (shC)
def RunsN (np:Nat) (c:Code) (s:St) (e:Exit) (sf:St):Prop:=∃ (S:Nat→St) (n:Nat),S 0=s∧(∀ j,j < n→LeadsN np Tryz.prog c (S j) .normal (S (j+1)))∧LeadsN np Tryz.prog c (S n) e sf
theorem RunsN.last {np:Nat} {c:Code} {s sf:St} {e:Exit} (h:LeadsN np Tryz.prog c s e sf):RunsN np c s e sf:=⟨fun _=>s,0,rfl,fun j hj=>absurd hj (Nat.not_lt_zero j),h⟩
theorem RunsN.cons {np:Nat} {c:Code} {s s1 sf:St} {e:Exit} (h:LeadsN np Tryz.prog c s .normal s1) (g:RunsN np c s1 e sf):RunsN np c s e sf:=by
  obtain ⟨S,n,h0,h1,h2⟩:=g
  refine ⟨fun j=>match j with | 0=>s | j+1=>S j,n+1,rfl,fun j hj=>?_,h2⟩
  cases j with
  | zero=>show LeadsN np Tryz.prog c s .normal (S 0); rw [h0]; exact h
  | succ j=>exact h1 j (by omega)
theorem RunsN.loop {np:Nat} {c:Code} {s sf:St} {e:Exit} (he:e≠.normal) (h:RunsN np c s e sf):LeadsN np Tryz.prog (.loop c) s e sf:=by
  obtain ⟨S,n,rfl,h1,h2⟩:=h
  exact loop_rule S n e sf he h1 h2
/-- One thing is read. -/
def Stp (t:Tk) (a:Nat) (z:Nat→Int) (c:Ct) (b:Nat) (z':Nat→Int) (c':Ct):Prop:=LeadsN 1 Tryz.prog (loopAt Tryz.f113 0) (thS (M7 t a z c)) .normal (thS (M7 t b z' c'))
/-- The rest is read. -/
def Rest (t:Tk) (zf:Nat→Int) (cf:Ct) (a:Nat) (z:Nat→Int) (c:Ct):Prop:=RunsN 1 (loopAt Tryz.f113 0) (thS (M7 t a z c)) (.exit 0) (thS (M7 t t.n zf cf))
section
variable {t:Tk} {a:Nat} {z:Nat→Int} {c:Ct} {b:Nat} {z':Nat→Int}
theorem Stp.go {zf:Nat→Int} {cf c':Ct} (h:Stp t a z c b z' c') (g:Rest t zf cf b z' c'):Rest t zf cf a z c:=RunsN.cons h g
theorem tlI_t:Has t a 1→tlI t a=true:=fun h=>by
  unfold tlI
  rw [ixB_t (by have:=h.1; omega)]
  rfl
/-- A token with which a thing may begin. -/
def Not (w:List UInt8):Prop:=decide (w=[125])=false
theorem tlT_t {w:List UInt8} (h:Has t a 1) (hw:Is t a w) (hn:Not w):tlT t a=true:=by
  unfold tlT
  have hT:t.T a=lB w:=hw
  rw [dec_lt (by have:=h.1; omega),hT,sEq,bL_lB,bL_lB,hn]
  rfl
theorem end_ok (z:Nat→Int) (c:Ct):Rest t z c t.n z c:=by
  refine RunsN.last (leads_evWN (finE_subN _ (by rfl)) e_nil k_nil m_nil w_nil r_nil noL_okN ((tl_end t t.n z c).trans ?_))
  unfold tlI tlT
  rw [dec_self]
  have:ixB ((t.n:Nat):Int) t.n=false:=by unfold ixB; rw [dec_self,Bool.and_false]
  rw [this]
  rfl
theorem tl_go {m m':List Row} {τ:List (Option Nat)} {w:List UInt8} (h:Has t a 1) (hw:Is t a w) (hn:Not w) (hth:GSpec Tryz.prog 148 [.own 0 0] (M7 t a z c) (.tup []) m) (hτ:pinT 1 τ=true) (he:tlE t a z c m τ=tlX t a z c m (some ⟨.normal,thS m',.any⟩)):LeadsN 1 Tryz.prog (loopAt Tryz.f113 0) (thS (M7 t a z c)) .normal (thS m'):=by
  refine leads_evWN (finN_subN _ hτ) e_nil k_nil m_nil (w_cons wQ_ok w_nil) r_nil noL_okN (he.trans ?_)
  unfold tlX
  rw [tlI_t h,tlT_t h hw hn]
  exact qC_t (wspec_of hth) _
/-- Cells of one kind: mixing them gives one or the other. -/
def Mx (x y:List AV):Prop:=mixL true x y=x∧mixL false x y=y
theorem ap_el {T:Nat→List AV} {n:Nat} {x:List AV} (hx:T n=x) (hm:∀ q,q≤n→Mx (T q) x) {q:Nat} (hq:q < n+1):T q=mixL (Nat.blt q n) (T q) (spread n [x] q):=by
  by_cases h:q < n
  · rw [show Nat.blt q n=true from Nat.ble_eq_true_of_le h]
    exact (hm q (by omega)).1.symm
  · have h2:q=n:=by omega
    have:Nat.blt q n=false:=by
      cases hb:Nat.blt q n
      · rfl
      · exact absurd (Nat.le_of_ble_eq_true hb) (by omega)
    rw [this,h2]
    show T n=mixL false (T n) x
    rw [(hm n (Nat.le_refl _)).2,hx]
section
variable {w:List UInt8} (h:Has t a 1) (hw:Is t a w) (hn:Not w)
include h hw hn
theorem stp_m {c':Ct} (hth:GSpec Tryz.prog 148 [.own 0 0] (M7 t a z c) (.tup []) (M7 t b z' c')):Stp t a z c b z' c':=tl_go h hw hn hth (by rfl) (tl_m t a z c b z' c')
theorem stp_s {x:List AV} (hth:GSpec Tryz.prog 148 [.own 0 0] (M7 t a z c) (.tup []) (MS t z' c b x)) (hx:c.S c.nS=x) (hm:∀ q,q≤c.nS→Mx (c.S q) x):Stp t a z c b z' { c with nS:=c.nS+1 } :=
  LeadsN.sub (tl_go h hw hn hth (by rfl) (tl_s t a z c b z' x)) (SubN.refl _) (sub_like ⟨Or.inl rfl,likeA fun _ hq=>ap_el hx hm hq,Or.inl rfl,Or.inl rfl,Or.inl rfl,Or.inl rfl,Or.inl rfl,trivial⟩)
theorem stp_l {x:List AV} (hth:GSpec Tryz.prog 148 [.own 0 0] (M7 t a z c) (.tup []) (ML t z' c b x)) (hx:c.L c.nL=x) (hm:∀ q,q≤c.nL→Mx (c.L q) x):Stp t a z c b z' { c with nL:=c.nL+1 } :=
  LeadsN.sub (tl_go h hw hn hth (by rfl) (tl_l t a z c b z' x)) (SubN.refl _) (sub_like ⟨Or.inl rfl,Or.inl rfl,Or.inl rfl,Or.inl rfl,Or.inl rfl,likeA fun _ hq=>ap_el hx hm hq,Or.inl rfl,trivial⟩)
theorem stp_f {x:List AV} (hth:GSpec Tryz.prog 148 [.own 0 0] (M7 t a z c) (.tup []) (MF t z' c b x)) (hx:c.F c.nF=x) (hm:∀ q,q≤c.nF→Mx (c.F q) x):Stp t a z c b z' { c with nF:=c.nF+1 } :=
  LeadsN.sub (tl_go h hw hn hth (by rfl) (tl_f t a z c b z' x)) (SubN.refl _) (sub_like ⟨Or.inl rfl,Or.inl rfl,Or.inl rfl,likeA fun _ hq=>ap_el hx hm hq,Or.inl rfl,Or.inl rfl,Or.inl rfl,trivial⟩)
theorem stp_o {n:Nat} {P:Nat→Prt} {k:Int} (hth:GSpec Tryz.prog 148 [.own 0 0] (M7 t a z c) (.tup []) (MO t z' c n P k b)) (hx:c.O c.nO=soK n P k) (hm:∀ q,q≤c.nO→Mx (c.O q) (soK n P k)):Stp t a z c b z' { c with nO:=c.nO+1 }:=by
  refine LeadsN.sub (tl_go h hw hn hth (by rfl) (tl_o t a z c b z' n P k)) (SubN.refl _) (sub_like ⟨likeC ?_,Or.inl rfl,likeA fun _ hq=>ap_el hx hm hq,Or.inl rfl,Or.inl rfl,Or.inl rfl,Or.inl rfl,trivial⟩)
  iterate 27 refine And.intro (Or.inl rfl) ?_
  exact ⟨Or.inr fun _ _ _=>rel_any,Or.inl rfl,trivial⟩
theorem stp_k {nm:ByteArray} {x:List AV} (hth:GSpec Tryz.prog 148 [.own 0 0] (M7 t a z c) (.tup []) (MK t z' c nm b x)) (hx:c.K c.nK=x) (hm:∀ q,q≤c.nK→Mx (c.K q) x) (hN:c.N c.nN=nm):Stp t a z c b z' { c with nN:=c.nN+1,nK:=c.nK+1 } :=
  LeadsN.sub (tl_go h hw hn hth (by rfl) (tl_k t a z c b z' x nm)) (SubN.refl _) (sub_like ⟨Or.inl rfl,Or.inl rfl,Or.inl rfl,Or.inl rfl,likeA fun _ hq=>ap_el hx hm hq,Or.inl rfl,likeA fun q hq=>ap_el (T:=fun q=>[zA (c.N q)]) (by rw [hN]) (fun _ _=>⟨rfl,rfl⟩) hq,trivial⟩)
end
end
end Go.Proofs.YtefphimaggjihaaGreatDoor.Pi.Rd

namespace Go.Proofs.YtefphimaggjihaaGreatDoor.Pi.Rd
open Go.Shelf Go.RowKit Go.Gv
open Hs.So (Prt prS)
open Hs (shC)
def oN (q:Nat):AV:=match q with
  | 2=>nilA
  | 3=>nilA
  | 4=>nilA
  | 5=>nilA
  | 6=>nilA
  | 7=>iA 0
  | 8=>iA 0
  | 9=>iA 0
  | 20=>nilA
  | 27=>nilA
  | _=>.f 0
def z0 (_:Nat):Int:=0
/-- A reader as it is made. -/
def rdN (t:Tk):Row:=rdR t 0 z0 oN
def ct0 (c:Ct):Ct:={ c with nS:=0,nO:=0,nF:=0,nK:=0,nL:=0,nN:=0,sky:=fun _=>0,eye:=fun _=>0 }
section
variable (t:Tk) (zf:Nat→Int) (c cf:Ct)
theorem ts_ev:evGW Tryz.prog [] [] [] [] [] (oneL 0 (toldP 1 [0] [some 0] (thS (M7 t 0 z0 (ct0 c))) (.exit 0) (thS (M7 t t.n zf cf)))) Tryz.f113 [.own 0 0] [rdN t] τ6=gate (SubN 1 (thS [rdN t]) (thS (M7 t 0 z0 (ct0 c)))) (gout (.tup []) (M7 t t.n zf cf)):=by kernel_rfl
noncomputable def wTs:WEntry:=wQ Tryz.prog 113 (fun _ _=>.tup []) (fun _ _=>M7 t t.n zf cf)
theorem al_ev:evGW Tryz.prog [] [] [] [wTs t zf cf] [] noL Tryz.f69 [.own 0 0] [rdN t] τ6=qC 113 [] (.tup []) [rdN t] (M7 t t.n zf cf) (cond (decide (((t.n:Nat):Int) < ((t.n:Nat):Int))) none (cond (zf 21==0) none (gout (.tup []) (M7 t t.n zf cf)))):=by kernel_rfl
end
section
variable {t:Tk} {zf:Nat→Int} {c cf:Ct}
theorem sub_0:SubN 1 (thS [rdN t]) (thS (M7 t 0 z0 (ct0 c))):=by
  refine SubN.trans (sub_ext (rows (ct0 c))) (sub_like ⟨likeC ?_,Or.inl rfl,Or.inl rfl,Or.inl rfl,Or.inl rfl,Or.inl rfl,Or.inl rfl,trivial⟩)
  have ho:∀ k sz,∀ (E:Env) (u:Value),rel E nilA u→rel E (.osl k sz 0 0) u:=fun k sz E u hu=>rel_osl.2 (Or.inl ⟨rfl,rfl,rel_x.1 hu⟩)
  iterate 2 refine And.intro (Or.inl rfl) ?_
  iterate 5 refine And.intro (Or.inr (ho _ _)) ?_
  iterate 13 refine And.intro (Or.inl rfl) ?_
  refine And.intro (Or.inr (ho _ _)) ?_
  iterate 6 refine And.intro (Or.inl rfl) ?_
  exact ⟨Or.inr fun _ _ _=>rel_any,Or.inl rfl,trivial⟩
theorem things_spec (h:Rest t zf cf 0 z0 (ct0 c)):GSpec Tryz.prog 113 [.own 0 0] [rdN t] (.tup []) (M7 t t.n zf cf):=by
  refine gspecGW e_nil k_nil m_nil w_nil r_nil Tryz.func113 (by kernel_rfl) (by kernel_rfl) (mem:=[rdN t]) (lokN_one (i:=0) 1 (by kernel_rfl) fun j hj _=>?_) rfl (τ:=τ6) (by rfl) ((ts_ev t zf c cf).trans (gate_pos sub_0))
  have:j=0:=by omega
  subst this
  exact toldP_sound (by rfl) (RunsN.loop (by simp) h)
theorem all_spec (h:Rest t zf cf 0 z0 (ct0 c)) (hz:zf 21=1):GSpec Tryz.prog 69 [.own 0 0] [rdN t] (.tup []) (M7 t t.n zf cf):=by
  refine gspecGW e_nil k_nil m_nil (w_cons wQ_ok w_nil) r_nil Tryz.func69 (by kernel_rfl) (by kernel_rfl) (mem:=[rdN t]) noL_okN rfl (τ:=τ6) (by rfl) ((al_ev t zf cf).trans ?_)
  refine (qC_t (wspec_of (things_spec h)) _).trans ?_
  rw [dec_self,hz]
  rfl
end
end Go.Proofs.YtefphimaggjihaaGreatDoor.Pi.Rd

namespace Go.Gv
open Go.RowKit Go.Ev
noncomputable section
def _root_.Go.Act.app (D:List Deferred) (a:Act):Act:=⟨a.tmps,a.defers ++ D⟩
theorem app_put (D:List Deferred) (a:Act) (d:Option Nat) (v:Value):(a.app D).put d v=(a.put d v).app D:=by cases d<;>rfl
theorem upon_app {P:Program} {o:Oper} {a:Act} {next next2:Act→World→Prop} {Q Q2:Exit→Act→World→Prop} (D:List Deferred) {r:Result Next} (hn:∀ a w,next a w→next2 (a.app D) w) (hq:∀ e a w,Q e a w→Q2 e (a.app D) w)
    (h:o.upon P a next Q r):o.upon P (a.app D) next2 Q2 r:=by
  unfold Oper.upon at h ⊢
  split<;>simp only [] at h
  · rw [app_put]; exact hn _ _ h
  · rw [app_put]; exact hn _ _ h
  · rename_i d w'
    have:=hn ({ a with defers:=d::a.defers }.put o.dst undef) w' h
    rw [← app_put] at this
    exact this
  · refine h.mono fun e w' he=>?_
    cases e with
    | returned v=>simp only at he ⊢; rw [app_put]; exact hn _ _ he
    | panicked chain=>exact hq _ _ _ he
    | outgrown =>
      obtain ⟨a',w'',h'⟩:=he
      exact ⟨_,_,hq _ _ _ h'⟩
  · exact h.mono fun v w' h'=>by rw [app_put]; exact hn _ _ h'
  · exact hq _ _ _ h
theorem wpList_app {P:Program} {ops:Array Oper} {Q Q2:Exit→Act→World→Prop} (D:List Deferred) (hq:∀ e a w,Q e a w→Q2 e (a.app D) w):∀ (l:List Oper) (a:Act) (w:World),wpList P ops Q l a w→wpList P ops Q2 l (a.app D) w
  | [],a,w,h=>hq _ _ _ h
  | o :: rest,a,w,h=>by
    unfold wpList at h ⊢
    have e:yielded ops (a.app D).tmps=yielded ops a.tmps:=rfl
    rw [e]
    split at h
    · rename_i hw
      rw [if_pos hw]
      rcases h with h | ⟨h,a',w',h'⟩
      · exact .inl (upon_app D (wpList_app D hq rest) hq h)
      · exact .inr ⟨h,_,_,hq _ _ _ h'⟩
    · rename_i hw
      rw [if_neg hw,app_put]
      exact wpList_app D hq rest _ _ h
def kR:SK:=fun s'=>some ⟨.normal,clr s',.any⟩
def rR (s:St):Option Out:=some ⟨.normal,s,.any⟩
theorem region_app {P:Program} {T:Tab} {A0 R:Nat→Prop} {w0 E:Env} {s s2:St} {a:Act} {ops:Array Oper} (hT:TOk P T) (hI:Inv A0 R w0 E s a) (h:aopsK P T ops.toList ops.toList s kR=rR s2) (D:List Deferred) (id:Nat) :
    (Code.region id ops false).wp P (fun e a' w'=>∃ E' a0,e=.normal∧E'.w=w'∧Inv A0 R w0 E' s2 a0∧a'=a0.app D) (a.app D) E.w:=by
  obtain ⟨s',h1,h2,_⟩:=aopsK_some hT.par h
  have e:s2=clr s':=by
    have:=h2
    simp only [kR] at this
    simp only [Option.some.injEq,Out.mk.injEq,true_and,and_true] at this
    exact this.symm
  subst e
  refine wp_region_list (wpList_app (Q:=fun e a' w'=>∃ E',e=.normal∧E'.w=w'∧Inv A0 R w0 E' (clr s') a') D (fun e a w=>?_) _ _ _ (asteps_wp hT ops.toList hI h1 fun E' a' hI'=>⟨E',rfl,rfl,hI'.clear⟩))
  rintro ⟨E',h1,h2,h3⟩
  exact ⟨E',a,h1,h2,h3,rfl⟩
theorem app_nil (a:Act) (h:a.defers=[]):a.app []=a:=by
  cases a
  simp only at h
  subst h
  rfl
theorem gspec_defer {P : Program} {T : Tab} (hT : TOk P T) {f g : Nat} {fn : Func} (hf : P.funcs[f]? = some fn) (hnm : (fn.name == "runtime.NumGoroutine") = false) (hent : Entered P g) {i0 i1 i2 i3 : Nat} {o0 o2 o3 : Array Oper} {mk df : Oper}
    (hb:fn.body=some (.seq (.region i0 o0 false) (.seq (.region i1 #[mk,df] false) (.seq (.region i2 o2 false) (.seq (.region i3 o3 false) .ret)))))
    {k x y:Nat} (hm1:mk.op=.makeFunc (.func g) #[] #[.tmp x,.tmp y]) (hm2:mk.dst=some k) (hm3:mk.guard=none) (hd1:df.op=.defer { callee:=.value (.tmp k),args:=#[],argTypes:=#[] }) (hd2:df.dst=none) (hd3:df.guard=none)
    (idle:∀ p q w,CallsD P g #[p,q] .returning w fun e u' w'=>e=.returned (.tuple #[])∧u'=.returning∧w'=w)
    {args:List AV} {mem mem1:List Row} {v:AV} {τ:List (Option Nat)} (hlen:Nat.ble args.length fn.ntmps=true) (hpin:pinT mem.length τ=true) {s1 s2 s3:St}
    (h0:aopsK P T o0.toList o0.toList (start fn mem args) kR=rR s1) (hk:dstOk s1.slots [] (some k)=true) (hk2:Nat.blt k s1.slots.length=true)
    (h2:aopsK P T o2.toList o2.toList ⟨putS s1.slots (some k) (.any,[]),s1.mem⟩ kR=rR s2)
    (h3:aopsK P T o3.toList o3.toList s2 kR=rR s3) (ho:outG P fn τ s3=some ⟨.normal,⟨[],mem1⟩,v⟩):GSpec P f args mem v mem1:=by
  refine ⟨⟨fn,hf,hnm,by rw [hb]; rfl⟩,fun R E cargs hp hW hg hv=>?_⟩
  have hlen':args.length≤fn.ntmps:=Nat.le_of_ble_eq_true hlen
  refine calls_of_wp_defers hf hb ?_
  have hI:Inv E.A R E E (start fn mem args) { tmps:=cargs ++ Array.replicate (fn.ntmps - cargs.size) undef,defers:=[] }:=⟨rfl,start_frel hg hv hlen',hW⟩
  have r0:=region_app hT hI h0 [] i0
  rw [app_nil _ rfl] at r0
  refine wp_seq (Go.Code.wp_mono ?_ r0)
  rintro e a1 w1 ⟨E1,a1,rfl,rfl,hI1,rfl⟩
  rw [app_nil _ hI1.defers]
  simp only [Exit.then]
  refine wp_seq (wp_region_list ?_)
  have hsz:k < a1.tmps.size:=by
    have:=hI1.frame.1.1
    have h':=Nat.le_of_ble_eq_true hk2
    omega
  have hw:∀ (o:Oper) (a:Act),o.guard=none→Region.wanted o (yielded #[mk,df] a.tmps)=true:=fun o a h=>wanted_none (by rw [h]; rfl)
  have rm:∀ w,(execOp a1.eval mk).run P w=.ok (.value (.func (.func g) #[] #[a1.eval (.tmp x),a1.eval (.tmp y)])) w:=by
    intro w
    unfold execOp
    rw [hm1]
    simp [go_sem]
  have rd:∀ (a2:Act) (p q:Value) (w:World),(a2.tmps[k]?).getD undef=.func (.func g) #[] #[p,q]→(execOp a2.eval df).run P w=.ok (.defer ⟨.fn (.func g) #[p,q],#[]⟩) w:=by
    intro a2 p q w h
    unfold execOp
    rw [hd1]
    simp [go_sem,h]
  generalize a1.eval (.tmp x)=p at rm
  generalize a1.eval (.tmp y)=q at rm
  show wpList P #[mk,df] _ [mk,df] a1 E1.w
  unfold wpList
  rw [if_pos (hw mk a1 hm3)]
  refine .inl ?_
  unfold Oper.wp
  rw [rm,Oper.upon_value,hm2]
  unfold wpList
  rw [if_pos (hw df _ hd3)]
  refine .inl ?_
  unfold Oper.wp
  rw [rd _ p q _ (by show ((a1.tmps.set! k _)[k]?).getD undef=_; simp [hsz]),Oper.upon_defer,hd2]
  have hI2:Inv E.A R E E1 ⟨putS s1.slots (some k) (.any,[]),s1.mem⟩ (a1.put (some k) (.func (.func g) #[] #[p,q])):=⟨by rw [put_defers]; exact hI1.defers,frel_put hI1.frame hk (fun _=>rel_any) (fun h=>by cases h),hI1.wd⟩
  generalize hD:(⟨.fn (.func g) #[p,q],#[]⟩:Deferred)=d
  generalize a1.put (some k) (.func (.func g) #[] #[p,q])=a2 at hI2
  have ea:({ a2 with defers:=d::a2.defers }:Act).put none undef=a2.app [d]:=by
    show (⟨a2.tmps,d::a2.defers⟩:Act)=⟨a2.tmps,a2.defers ++ [d]⟩
    rw [hI2.defers]
    rfl
  rw [ea]
  unfold wpList
  show (Code.seq _ _).wp P _ _ _
  refine wp_seq (Go.Code.wp_mono ?_ (region_app hT hI2 h2 [d] i2))
  rintro e a' w' ⟨E2,a3,rfl,rfl,hI3,rfl⟩
  simp only [Exit.then]
  refine wp_seq (Go.Code.wp_mono ?_ (region_app hT hI3 h3 [d] i3))
  rintro e a' w' ⟨E3,a4,rfl,rfl,hI4,rfl⟩
  simp only [Exit.then]
  refine wp_ret ?_
  obtain ⟨u,E5,g1,g2,g3,g4⟩:=outG_run hpin hp hI4 ho
  show Leaves P fn a4.tmps _ (a4.defers ++ [d]) .returning E3.w
  rw [hI4.defers,← hD]
  refine leaves_cons (f:=g) (args:=#[p,q]) (by simp) (by
    obtain ⟨gn,e1,e2,e3⟩:=hent
    simp only [invoke,callFunc,Sem.run_bind,run_program,Result.andThen_ok,e1,e2,e3,Bool.false_eq_true,if_false]
    rfl) ((idle p q _).mono ?_)
  rintro e u' w'' ⟨rfl,rfl,rfl⟩
  exact ⟨u,g1,u,E5,rfl,g2,g3,g4⟩
end
end Go.Gv

namespace Go.Proofs.YtefphimaggjihaaGreatDoor.Pi.Rd
open Go.Shelf Go.RowKit Go.Gv
open Hs.So (Prt prS)
def u11 (l:List (Nat × AV)) (mem:List Row):St:=⟨(List.range 11).map fun i=>(match l.find? (fun p=>Nat.beq p.1 i) with
  | some p=>p.2
  | none=>.x undef,[]),mem⟩
def scZ:List AV:=[nilA,nilA,nilA,nilA,nilA,iA 0,iA 0,iA 0,.f 0,.f 0,.f 0,.f 0,.f 0,.f 0,.f 0,.f 0,.f 0,.f 0]
def rdX0 (t:Tk):List Row:=[rdN t,.c scZ,.c [iA 0]]
def pl3:Pl:=⟨3,4,5,6,7,8⟩
/-- The scene that was read. -/
def scR (i:Pl) (c:Ct):List AV:=[oX i c 2,oX i c 3,oX i c 4,oX i c 5,oX i c 6,oX i c 7,oX i c 8,oX i c 9,oX i c 10,oX i c 11,oX i c 12,oX i c 13,oX i c 14,oX i c 15,oX i c 16,oX i c 17,oX i c 18,oX i c 19]
def rdX1 (t:Tk) (z:Nat→Int) (c:Ct) (l:List AV):List Row:=rdX t t.n z pl3 c::.c l::.c [iA 0]::rows c
noncomputable def wAl (t:Tk) (zf:Nat→Int) (cf:Ct):WEntry:=wQ Tryz.prog 69 (fun _ _=>.tup []) (fun _ _=>rdX1 t zf cf scZ)
noncomputable def tAl (t:Tk) (zf:Nat→Int) (cf:Ct):Tab:=tabW [] [] [] [wAl t zf cf] []
noncomputable def rdo (i:Nat):Array Oper:=((opsAt (bodyOf Tryz.f24) i).getD #[])
def rs1 (t:Tk):St:=u11 [(0,.own 0 0),(2,.own 1 0),(3,.own 2 0)] (rdX0 t)
def rs1' (t:Tk):St:=u11 [(0,.own 0 0),(2,.own 1 0),(3,.own 2 0),(4,.any)] (rdX0 t)
def rs2 (t:Tk) (z:Nat→Int) (c:Ct):St:=u11 [(0,.own 0 0),(2,.own 1 0),(3,.own 2 0),(4,.any),(5,.own 0 0),(6,.tup [])] (rdX1 t z c scZ)
def rs3 (t:Tk) (z:Nat→Int) (c:Ct):St:=u11 [(0,.own 0 0),(2,.own 1 0),(3,.own 2 0),(4,.any),(5,.own 0 0),(6,.tup []),(7,.own 0 0),(8,.own 0 0),(9,.own 0 2),(10,.agg (scR pl3 c))] (rdX1 t z c (scR pl3 c))
def τr:List (Option Nat):=[some 0,some 3,some 4,some 5,some 6,some 7,some 8]
section
variable (t:Tk) (zf:Nat→Int) (cf:Ct)
theorem rd_0:aopsK Tryz.prog (tAl t zf cf) (rdo 0).toList (rdo 0).toList (Gv.start Tryz.f24 [rdN t] [.own 0 0]) kR=rR (rs1 t):=by kernel_rfl
theorem rd_1:(⟨putS (rs1 t).slots (some 4) (.any,[]),(rs1 t).mem⟩:St)=rs1' t:=by kernel_rfl
theorem rd_2:aopsK Tryz.prog (tAl t zf cf) (rdo 2).toList (rdo 2).toList (rs1' t) kR=qC 69 [] (.tup []) (rdX0 t) (rdX1 t zf cf scZ) (rR (rs2 t zf cf)):=by kernel_rfl
theorem rd_3:aopsK Tryz.prog (tAl t zf cf) (rdo 3).toList (rdo 3).toList (rs2 t zf cf) kR=rR (rs3 t zf cf):=by kernel_rfl
theorem rd_4:outG Tryz.prog Tryz.f24 τr (rs3 t zf cf)=some ⟨.normal,⟨[],M7 t t.n zf cf⟩,.tup [.agg (scR pl0 cf),iA 0]⟩:=by kernel_rfl
end
/-- The deferred closure, where nothing was raised. -/
theorem idle (p q:Value) (w:World):CallsD Tryz.prog 68 #[p,q] .returning w fun e u' w'=>e=.returned (.tuple #[])∧u'=.returning∧w'=w:=by
  refine callsD_of_wpS Tryz.func68 rfl fun c₀ cs hu=>?_
  apply wpS_seq
  apply wpS_region
  simp [wpOpsS,go_sem,recoverD,hu,Exit.thenS]
  apply wpS_seq
  apply wpS_seq
  apply wpS_region
  simp [wpOpsS,go_sem,Exit.thenS]
  refine wpS_cond (t:=true) (by simp [Act.eval,Array.replicate]) ?_
  simp only [if_true]
  refine wpS_of_wp (wp_ret ?_)
  cases c₀
  simp_all [Exit.thenS,bodyPostS,results]
section
variable {t:Tk} {zf:Nat→Int} {c cf:Ct}
theorem read_spec (h:Rest t zf cf 0 z0 (ct0 c)) (hz:zf 21=1):GSpec Tryz.prog 24 [.own 0 0] [rdN t] (.tup [.agg (scR pl0 cf),iA 0]) (M7 t t.n zf cf):=by
  refine gspec_defer (tabW_ok e_nil k_nil m_nil (w_cons (wQ_ok (g:=fun _ _=>.tup []) (m:=fun _ _=>rdX1 t zf cf scZ)) w_nil) r_nil) Tryz.func24 (by kernel_rfl) ⟨_,Tryz.func68,rfl,rfl⟩ (o0:=rdo 0) (o2:=rdo 2) (o3:=rdo 3) (k:=4) (x:=2) (y:=3) (g:=68) (by rfl) rfl rfl rfl rfl rfl rfl idle (by rfl) (τ:=τr) (by rfl) (rd_0 t zf cf) (by rfl) (by rfl) (s2:=rs2 t zf cf) ?_ (rd_3 t zf cf) (rd_4 t zf cf)
  rw [rd_1]
  refine (rd_2 t zf cf).trans ?_
  refine qC_t (wframeX 1 rfl (all_spec h hz) [.c scZ,.c [iA 0]] (by rfl) (fun i r hi=>?_) (by rfl) (by simp [M7]) (by rfl) (by kernel_rfl)) _
  have:i=0:=by have:=(List.getElem?_eq_some_iff.1 hi).1; simpa using this
  subst this
  cases hi
  exact ⟨rfl,by kernel_rfl⟩
end
end Go.Proofs.YtefphimaggjihaaGreatDoor.Pi.Rd

namespace Go.Gv
open Go.RowKit Go.Ev
/-- What is not looked at again is forgotten. -/
def fgZ (keep:List Nat) (τ:List (Option Nat)):ZFun:=fun s k=>cond (fgtOk τ s) (k (fgt keep τ s)) none
theorem fgZ_ok {keep:List Nat} {τ:List (Option Nat)}:ZSoundN 0 (fgZ keep τ):=fun s k r h=>by
  unfold fgZ at h
  cases hf:fgtOk τ s
  · rw [hf] at h; cases h
  · rw [hf] at h
    exact ⟨_,h,fgt_subN (by rfl) hf⟩
def zSeq (h g:ZFun):ZFun:=fun s k=>h s fun s1=>g s1 k
theorem zSeq_ok {np:Nat} {h g:ZFun} (hh:ZSoundN np h) (hg:ZSoundN np g):ZSoundN np (zSeq h g):=fun s k r e=>by
  obtain ⟨s1,e1,p1⟩:=hh s _ r e
  obtain ⟨s2,e2,p2⟩:=hg s1 k r e1
  exact ⟨s2,e2,p1.trans p2⟩
end Go.Gv
namespace Go.Proofs.YtefphimaggjihaaGreatDoor.Pi.Rd
open Go.Shelf Go.RowKit Go.Gv
open Hs.So (Prt prS)
def pl2:Pl:=⟨2,3,4,5,6,7⟩
def pX1 (t:Tk) (z:Nat→Int) (c:Ct):List Row:=.c scZ::rdX t t.n z pl2 c::rows c
def vX1 (c:Ct):AV:=.tup [.agg (scR pl2 c),iA 0]
/-- A scene that was read, frozen. -/
def scF (c:Ct):List AV:=[.sl 13 c.nS c.S,.sl 2 c.nO c.O,.sl 8 c.nF c.F,.sl 10 c.nK c.K,.sl 6 c.nL c.L,iA (c.sky 0),iA (c.sky 1),iA (c.sky 2),.f (c.eye 0),.f (c.eye 1),.f (c.eye 2),.f (c.eye 3),.f (c.eye 4),.f (c.eye 5),.f (c.eye 6),.f (c.eye 7),.f (c.eye 8),.f (c.eye 9)]
noncomputable def wRd (t:Tk) (zf:Nat→Int) (cf:Ct):WEntry:=wQ Tryz.prog 24 (fun _ _=>vX1 cf) (fun _ _=>pX1 t zf cf)
noncomputable def kTk (t:Tk):KEntry:=kS Tryz.prog 25 (fun _=>tkSl t)
noncomputable def tPa (t:Tk) (zf:Nat→Int) (cf:Ct):Tab:=tabW [] [kTk t] [] [wRd t zf cf] []
def paZ:Nat→Option ZFun:=oneZ 9003 (zSeq (fgZ [2,3] [some 0,some 2,some 3,some 4,some 5,some 6]) (zSeq (frzK 1) (zSeq (frzK 2) (zSeq (frzK 3) (zSeq (frzK 4) (frzK 5))))))
theorem paZ_ok:∀ i h,paZ i=some h→ZSoundN 0 h:=oneZ_ok (zSeq_ok fgZ_ok (zSeq_ok (frzK_ok 1) (zSeq_ok (frzK_ok 2) (zSeq_ok (frzK_ok 3) (zSeq_ok (frzK_ok 4) (frzK_ok 5))))))
def frB (n:Nat) (x:Option Out):Option Out:=cond ((Nat.beq n n&&true)&&true) x none
theorem frB_t (n:Nat) (x:Option Out):frB n x=x:=by unfold frB; rw [Nat.beq_refl]; rfl
section
variable (s:ByteArray) (t:Tk) (zf:Nat→Int) (cf:Ct)
theorem pa_ev:abodyZ Tryz.prog (tPa t zf cf) (drawnK Tryz.prog (tPa t zf cf)) noL paZ 40 Tryz.f8 [zA s] (fun v=>some (Out.of v)) =
  cond (decide (20000 < ((s.size:Nat):Int))) (some (Out.of (.tup [.agg scZ,iA 4]))) (gate (FSpec Tryz.prog 25 [zA s] (tkSl t)) (cond (propB (WSpec Tryz.prog 24 [.own 1 0] [.c scZ,rdN t] (vX1 cf) (pX1 t zf cf))) (frB cf.nS (frB cf.nO (frB cf.nF (frB cf.nK (frB cf.nL (some (Out.of (.tup [.agg (scF cf),iA 0]))))))) ) none)):=by kernel_rfl
end
section
variable {s:ByteArray} {t:Tk} {zf:Nat→Int} {c cf:Ct}
theorem read_frame (h:Rest t zf cf 0 z0 (ct0 c)) (hz:zf 21=1):WSpec Tryz.prog 24 [.own 1 0] [.c scZ,rdN t] (vX1 cf) (pX1 t zf cf):=by
  have hw:=wframe (args:=[.own 1 0]) (mem:=[.c scZ,rdN t]) (mem':=pX1 t zf cf) (read_spec h hz) [1] (by rfl) (by rfl) (by rfl) (fun i k hi=>?_) ⟨fun k hk hlt=>?_,fun i k r hi hr=>?_,fun i r hi hr=>?_⟩
  · exact hw
  · have:i=0:=by have:=(List.getElem?_eq_some_iff.1 hi).1; simpa using this
    subst this
    cases hi
    exact ⟨rdN t,rfl,rfl,by show some (rdN t)=some _; congr 1⟩
  · have:k=0:=by simp at hlt hk; omega
    subst this
    rfl
  · have:i=0:=by have:=(List.getElem?_eq_some_iff.1 hi).1; simpa using this
    subst this
    cases hi
    cases hr
    show some _=some _
    congr 1
  · match i,hr with
    | 1,hr=>cases hr; rfl
    | 2,hr=>cases hr; rfl
    | 3,hr=>cases hr; rfl
    | 4,hr=>cases hr; rfl
    | 5,hr=>cases hr; rfl
    | 6,hr=>cases hr; rfl
    | n+7,hr=>cases hr
/-- PARSE: what is read of a text that is cut into these tokens. -/
theorem parse_spec (hs:s.size≤20000) (ht:FSpec Tryz.prog 25 [zA s] (tkSl t)) (h:Rest t zf cf 0 z0 (ct0 c)) (hz:zf 21=1):FSpec Tryz.prog 8 [zA s] (.tup [.agg (scF cf),iA 0]):=by
  refine spec_of_bodyZ paZ_ok (tabW_ok e_nil (k_cons kS_ok k_nil) m_nil (w_cons (wQ_ok (g:=fun _ _=>vX1 cf) (m:=fun _ _=>pX1 t zf cf)) w_nil) r_nil) (drawnK_ok (tabW_ok e_nil (k_cons kS_ok k_nil) m_nil (w_cons wQ_ok w_nil) r_nil) (by kernel_rfl)) 40 Tryz.func8 (by kernel_rfl) (c:=bodyOf Tryz.f8) (by kernel_rfl) noL_ok rfl ((pa_ev s t zf cf).trans ?_)
  rw [decide_eq_false (by omega),gate_pos ht,propB_t (read_frame h hz)]
  show frB _ _=_
  simp only [frB_t]
end
end Go.Proofs.YtefphimaggjihaaGreatDoor.Pi.Rd

namespace Go.Proofs.YtefphimaggjihaaGreatDoor.Pi
open Go.Shelf Go.RowKit Go.Gv
def inW (b:UInt8):Bool:=iwB (b.toNat:Int)&&decide (b.toNat < 128)
def Pnc (b:UInt8):Prop:=b=59∨b=44∨b=123∨b=125
def GpC (b:UInt8):Prop:=b=32∨b=10
/-- A token: a word, or a sign by itself. -/
def Tok1 (t:List UInt8):Prop:=(t≠[]∧∀ b,b ∈ t→inW b=true)∨∃ c,Pnc c∧t=[c]
theorem at_pre {F pre rest:List UInt8} {b:UInt8} (hF:F=pre ++ b::rest) (hb:b.toNat < 128):pre.length < (lB F).size∧dcI (lB F) pre.length=(b.toNat:Int)∧dcW (lB F) pre.length=pre.length+1:=by
  have hs:pre.length < (lB F).size:=by rw [size_lB,hF]; simp
  have hg:(bL (lB F)).getD pre.length 0=b:=by rw [bL_lB,hF,List.getD_eq_getElem?_getD,List.getElem?_append_right (Nat.le_refl _),Nat.sub_self]; rfl
  obtain ⟨h1,h2⟩:=dcX_low hs (by rw [hg]; exact hb)
  rw [hg] at h1
  exact ⟨hs,h1,h2⟩
theorem gap_at {F pre rest:List UInt8} {c:UInt8} (hF:F=pre ++ c::rest) (hc:GpC c):Gap (lB F) pre.length∧dcW (lB F) pre.length=pre.length+1:=by
  obtain ⟨h1,h2,h3⟩:=at_pre hF (by rcases hc with rfl | rfl<;>decide)
  refine ⟨⟨h1,?_,?_⟩,h3⟩<;>rw [h2]<;>rcases hc with rfl | rfl<;>decide
theorem pun_at {F pre rest:List UInt8} {c:UInt8} (hF:F=pre ++ c::rest) (hc:Pnc c):Pun (lB F) pre.length∧dcW (lB F) pre.length=pre.length+1∧Utf8.encode (dcI (lB F) pre.length)=lB [c]:=by
  obtain ⟨h1,h2,h3⟩:=at_pre hF (by rcases hc with rfl | rfl | rfl | rfl<;>decide)
  refine ⟨⟨h1,?_,?_⟩,h3,?_⟩<;>rw [h2]<;>rcases hc with rfl | rfl | rfl | rfl<;>first | decide | rfl
theorem wrd_at:∀ (w:List UInt8) {F pre rest:List UInt8},F=pre ++ (w ++ rest)→(∀ b,b ∈ w→inW b=true)→Wrd (lB F) pre.length w.length (pre.length+w.length)
  | [],F,pre,rest,_,_=>by show pre.length=pre.length+0; omega
  | b::w,F,pre,rest,hF,h=>by
    have hb:=h b (by simp)
    unfold inW at hb
    simp only [Bool.and_eq_true,decide_eq_true_eq] at hb
    obtain ⟨h1,h2,h3⟩:=at_pre (F:=F) (pre:=pre) (rest:=w ++ rest) (b:=b) (by rw [hF]; rfl) hb.2
    refine ⟨h1,by rw [h2]; exact hb.1,?_⟩
    have ih:=wrd_at w (F:=F) (pre:=pre ++ [b]) (rest:=rest) (by rw [hF]; simp) fun x hx=>h x (by simp [hx])
    rw [List.length_append,List.length_singleton] at ih
    rw [h3,List.length_cons,show pre.length+(w.length+1)=pre.length+1+w.length by omega]
    exact ih
theorem cut_inv {s:ByteArray} {p:Nat} {l:List ByteArray} (h:Cut s p l) (g:Gap s p):Cut s (dcW s p) l:=by
  obtain ⟨g1,g2,g3⟩:=g
  cases h with
  | fin h=>omega
  | gap _ r=>exact r
  | pun h _=>rw [h.2.2] at g3; cases g3
  | wrd h _ _ _=>rw [h.2.1] at g2; cases g2
theorem cut_one {F pre t rest:List UInt8} {c:UInt8} {l:List ByteArray} (hF:F=pre ++ (t ++ c::rest)) (ht:Tok1 t) (hc:GpC c) (h:Cut (lB F) (pre ++ t).length l):Cut (lB F) pre.length (lB t::l):=by
  have hg:=gap_at (F:=F) (pre:=pre ++ t) (rest:=rest) (c:=c) (by rw [hF]; simp) hc
  rcases ht with ⟨hne,hw⟩ | ⟨d,hd,rfl⟩
  · obtain ⟨k,hk⟩:∃ k,t.length=k+1:=⟨t.length - 1,by have:=List.length_pos_iff.2 hne; omega⟩
    have hW:=wrd_at t (F:=F) (pre:=pre) (rest:=c::rest) hF hw
    have hl:(pre ++ t).length=pre.length+t.length:=List.length_append
    have e:(lB F).extract pre.length (pre.length+t.length)=lB t:=by
      rw [← lB_bL ((lB F).extract _ _),bL_extract,bL_lB,hF,← List.append_assoc,List.take_append_of_le_length (by rw [hl]; omega),List.take_of_length_le (by rw [hl]; omega)]
      simp
    rw [hk] at hW
    have:=Cut.wrd (s:=lB F) (p:=pre.length) (k:=k) (q:=pre.length+(k+1)) hW (by omega) (by rw [← hk,← hl]; exact hg.1) (by rw [← hk,← hl]; exact cut_inv h hg.1)
    rw [← hk,e] at this
    exact this
  · obtain ⟨h1,h2,h3⟩:=pun_at (F:=F) (pre:=pre) (rest:=c::rest) (c:=d) (by rw [hF]; rfl) hd
    have:=Cut.pun h1 (l:=l) (by rw [h2]; rw [List.length_append] at h; exact h)
    rw [h3] at this
    exact this
theorem cut_tks:∀ (ts:List (List UInt8)),(∀ t,t ∈ ts→Tok1 t)→∀ {b:Bool} {F pre rest:List UInt8} {c:UInt8} {l:List ByteArray},F=pre ++ (tks b ts ++ c::rest)→GpC c→Cut (lB F) (pre ++ tks b ts).length l→Cut (lB F) pre.length (ts.map lB ++ l)
  | [],_,b,F,pre,rest,c,l,_,_,h=>by simpa [tks] using h
  | t :: r,ht,b,F,pre,rest,c,l,hF,hc,h=>by
    have key:∀ pre1:List UInt8,F=pre1 ++ (t ++ (tks true r ++ c::rest))→(pre1 ++ (t ++ tks true r)).length=(pre ++ tks b (t::r)).length→Cut (lB F) pre1.length ((t::r).map lB ++ l):=fun pre1 e1 e2=>by
      have ih:=cut_tks r (fun x hx=>ht x (by simp [hx])) (b:=true) (F:=F) (pre:=pre1 ++ t) (rest:=rest) (c:=c) (l:=l) (by rw [e1]; simp) hc (by rw [List.append_assoc,e2]; exact h)
      cases r with
      | nil=>exact cut_one (rest:=rest) (c:=c) (by rw [e1]; simp [tks]) (ht t (by simp)) hc ih
      | cons t2 r2=>exact cut_one (rest:=t2 ++ tks true r2 ++ c::rest) (c:=32) (by rw [e1]; simp [tks]) (ht t (by simp)) (Or.inl rfl) ih
    cases b with
    | false=>exact key pre (by rw [hF]; simp [tks]) (by simp [tks])
    | true =>
      obtain ⟨g1,g2⟩:=gap_at (F:=F) (pre:=pre) (rest:=t ++ (tks true r ++ c::rest)) (c:=32) (by rw [hF]; simp [tks]) (Or.inl rfl)
      have:=key (pre ++ [32]) (by rw [hF]; simp [tks]) (by simp [tks])
      refine Cut.gap g1 ?_
      rw [g2]
      rw [List.length_append] at this
      exact this
def lineT (ts:List (List UInt8)):List UInt8:=tks false (ts ++ [[59]]) ++ [10]
def lineK (ts:List (List UInt8)):List (List UInt8):=ts ++ [[59]]
theorem cut_lines:∀ (ls:List (List (List UInt8))),(∀ ts,ts ∈ ls→∀ t,t ∈ ts→Tok1 t)→∀ {F pre:List UInt8},F=pre ++ ls.flatMap lineT→Cut (lB F) pre.length ((ls.flatMap lineK).map lB)
  | [],_,F,pre,hF=>Cut.fin (by rw [size_lB,hF]; simp)
  | ts::r,h,F,pre,hF=>by
    have e:F=pre ++ (tks false (ts ++ [[59]]) ++ 10::r.flatMap lineT):=by rw [hF]; simp [lineT]
    have ih:=cut_lines r (fun x hx=>h x (by simp [hx])) (F:=F) (pre:=pre ++ lineT ts) (by rw [hF]; simp)
    obtain ⟨g1,g2⟩:=gap_at (F:=F) (pre:=pre ++ tks false (ts ++ [[59]])) (rest:=r.flatMap lineT) (c:=10) (by rw [e]; simp) (Or.inr rfl)
    have e2:((ts::r).flatMap lineK).map lB=(ts ++ [[59]]).map lB ++ (r.flatMap lineK).map lB:=by simp [lineK]
    rw [e2]
    refine cut_tks _ (fun t ht=>?_) e (Or.inr rfl) (Cut.gap g1 ?_)
    · rcases List.mem_append.1 ht with ht | ht
      · exact h ts (by simp) t ht
      · simp at ht
        exact Or.inr ⟨59,Or.inl rfl,ht⟩
    · rw [g2]
      have:(pre ++ tks false (ts ++ [[59]])).length+1=(pre ++ lineT ts).length:=by simp [lineT]; omega
      rw [this]
      exact ih
end Go.Proofs.YtefphimaggjihaaGreatDoor.Pi

namespace Go.Proofs.YtefphimaggjihaaGreatDoor.Pi
open Go.Shelf Go.RowKit Go.Gv
open Hs.Sc (Scn)
def scM (s:Scn) (l:List UInt8) (b u:Bool):List Row:=[prR 2 l.length b u,.c s.c,bR l]
def cmp3 (m:List Row):List Row:=match m with
  | .t T [a,.osl k s o n,b,u]::bx::r=>[.t T [a,.osl 2 s o n,b,u],bx,(bx::r).getD (k - 1) .dead]
  | _=>[]
def skyW:List UInt8:=[115,107,121]
section
variable (L:Nat→List UInt8) (U:Nat→Bool) (s:Scn) (l l1:List UInt8) (b u u1:Bool) (i:Int)
def q1 (i:Int) (mem:List Row):St:=mkS 96 [(0,.own 0 0),(3,.own 1 0),(28,s.vK),(29,iA s.nK),(30,iA i)] mem
def q2 (i:Int) (mem:List Row):St:=mkS 96 [(0,.own 0 0),(3,.own 1 0),(41,s.vL),(42,iA s.nL),(43,iA i)] mem
def q3 (i:Int) (mem:List Row):St:=mkS 96 [(0,.own 0 0),(3,.own 1 0),(52,s.vS),(53,iA s.nS),(54,iA i)] mem
def q4 (i:Int) (mem:List Row):St:=mkS 96 [(0,.own 0 0),(3,.own 1 0),(67,s.vO),(68,iA s.nO),(69,iA i)] mem
def q5 (i:Int) (mem:List Row):St:=mkS 96 [(0,.own 0 0),(3,.own 1 0),(82,s.vF),(83,iA s.nF),(84,iA i)] mem
def kq1:List Nat:=[0,3,28,29,30]
def kq2:List Nat:=[0,3,41,42,43]
def kq3:List Nat:=[0,3,52,53,54]
def kq4:List Nat:=[0,3,67,68,69]
def kq5:List Nat:=[0,3,82,83,84]
noncomputable def qC (n:Nat) (x y:Option Out):Option Out:=cond (decide (i < (n:Nat))) (cond (ixB i n||false) x none) y
noncomputable def scW:List WEntry:=[wP 90 false L U,wP 91 false L U,wP 92 true L U,wP 93 false L U,wP 94 true L U,wP 95 true L U]
def iWr (k:Int):Itm:=.w 93 [iA k] false
theorem q1_step:evCW Tryz.prog [] [] B57 (scW L U) [] noL (loopAt Tryz.f31 0) (q1 s i (scM s l b u)) (finN kq1 [some 0,some 1,some 4]) =
  qC i s.nK (chW L U [.w 90 [.agg (Hs.Sc.skC (s.K i.toNat)),iA i] false] (scM s l b u ++ [.c (Hs.Sc.skC (s.K i.toNat))]) fun m=>some ⟨.normal,q1 s (w64 (i+1)) (cmp3 m),.any⟩) none:=by kernel_rfl
theorem q1_end:evCW Tryz.prog [] [] B57 (scW L U) [] noL (loopAt Tryz.f31 0) (q1 s i (scM s l b u)) (finE kq1 [some 0,some 1,some 2]) =
  qC i s.nK (chW L U [.w 90 [.agg (Hs.Sc.skC (s.K i.toNat)),iA i] false] (scM s l b u ++ [.c (Hs.Sc.skC (s.K i.toNat))]) fun _=>none) (some ⟨.exit 0,q1 s i (scM s l b u),.any⟩):=by kernel_rfl
theorem q2_step:evCW Tryz.prog [] [] B57 (scW L U) [] noL (loopAt Tryz.f31 1) (q2 s i (scM s l b u)) (finN kq2 [some 0,some 1,some 4]) =
  qC i s.nL (chW L U [.w 91 [.agg (Hs.Sc.lmC (s.LA i.toNat) (s.LL i.toNat))] false] (scM s l b u ++ [.c (Hs.Sc.lmC (s.LA i.toNat) (s.LL i.toNat))]) fun m=>some ⟨.normal,q2 s (w64 (i+1)) (cmp3 m),.any⟩) none:=by kernel_rfl
theorem q2_end:evCW Tryz.prog [] [] B57 (scW L U) [] noL (loopAt Tryz.f31 1) (q2 s i (scM s l b u)) (finE kq2 [some 0,some 1,some 2]) =
  qC i s.nL (chW L U [.w 91 [.agg (Hs.Sc.lmC (s.LA i.toNat) (s.LL i.toNat))] false] (scM s l b u ++ [.c (Hs.Sc.lmC (s.LA i.toNat) (s.LL i.toNat))]) fun _=>none) (some ⟨.exit 2,q2 s i (scM s l b u),.any⟩):=by kernel_rfl
theorem q3_step:evCW Tryz.prog [] [] B57 (scW L U) [] noL (loopAt Tryz.f31 2) (q3 s i (scM s l b u)) (finN kq3 [some 0,some 1,some 5]) =
  qC i s.nS (chW L U [.w 92 [.agg (s.S i.toNat).c] true,iWr (s.S i.toNat).sk] (scM s l b u ++ [.c (s.S i.toNat).c]) fun m=>some ⟨.normal,q3 s (w64 (i+1)) (cmp3 m),.any⟩) none:=by kernel_rfl
theorem q3_end:evCW Tryz.prog [] [] B57 (scW L U) [] noL (loopAt Tryz.f31 2) (q3 s i (scM s l b u)) (finE kq3 [some 0,some 1,some 2]) =
  qC i s.nS (chW L U [.w 92 [.agg (s.S i.toNat).c] true,iWr (s.S i.toNat).sk] (scM s l b u ++ [.c (s.S i.toNat).c]) fun _=>none) (some ⟨.exit 4,q3 s i (scM s l b u),.any⟩):=by kernel_rfl
theorem q4_step:evCW Tryz.prog [] [] B57 (scW L U) [] noL (loopAt Tryz.f31 3) (q4 s i (scM s l b u)) (finN kq4 [some 0,some 1,some 5]) =
  qC i s.nO (chW L U [.w 94 [.agg (s.O i.toNat).c] true,iWr (s.O i.toNat).sk] (scM s l b u ++ [.c (s.O i.toNat).c]) fun m=>some ⟨.normal,q4 s (w64 (i+1)) (cmp3 m),.any⟩) none:=by kernel_rfl
theorem q4_end:evCW Tryz.prog [] [] B57 (scW L U) [] noL (loopAt Tryz.f31 3) (q4 s i (scM s l b u)) (finE kq4 [some 0,some 1,some 2]) =
  qC i s.nO (chW L U [.w 94 [.agg (s.O i.toNat).c] true,iWr (s.O i.toNat).sk] (scM s l b u ++ [.c (s.O i.toNat).c]) fun _=>none) (some ⟨.exit 6,q4 s i (scM s l b u),.any⟩):=by kernel_rfl
theorem q5_step:evCW Tryz.prog [] [] B57 (scW L U) [] noL (loopAt Tryz.f31 4) (q5 s i (scM s l b u)) (finN kq5 [some 0,some 1,some 5]) =
  qC i s.nF (chW L U [.w 95 [.agg (s.F i.toNat).c] true,iWr (s.F i.toNat).sk] (scM s l b u ++ [.c (s.F i.toNat).c]) fun m=>some ⟨.normal,q5 s (w64 (i+1)) (cmp3 m),.any⟩) none:=by kernel_rfl
theorem q5_end:evCW Tryz.prog [] [] B57 (scW L U) [] noL (loopAt Tryz.f31 4) (q5 s i (scM s l b u)) (finE kq5 [some 0,some 1,some 2]) =
  qC i s.nF (chW L U [.w 95 [.agg (s.F i.toNat).c] true,iWr (s.F i.toNat).sk] (scM s l b u ++ [.c (s.F i.toNat).c]) fun _=>none) (some ⟨.exit 8,q5 s i (scM s l b u),.any⟩):=by kernel_rfl
end
section
variable (L:Nat→List UInt8) (U:Nat→Bool) (s:Scn) (l1 k1 k2 k3 k4 k5:List UInt8) (u1 v1 v2 v3 v4 v5:Bool)
noncomputable def scL:Nat→Option LFun:=manyL [(6,toldP 1 kq1 [some 0,some 1,some 5] (q1 s 0 (scM s (L 5) false (U 5))) (.exit 0) (q1 s s.nK (scM s k1 false v1))),
  (11,toldP 1 kq2 [some 0,some 1,some 2] (q2 s 0 (scM s k1 false v1)) (.exit 2) (q2 s s.nL (scM s k2 false v2))),(16,toldP 1 kq3 [some 0,some 1,some 2] (q3 s 0 (scM s k2 false v2)) (.exit 4) (q3 s s.nS (scM s k3 false v3))),
  (22,toldP 1 kq4 [some 0,some 1,some 2] (q4 s 0 (scM s k3 false v3)) (.exit 6) (q4 s s.nO (scM s k4 false v4))),(28,toldP 1 kq5 [some 0,some 1,some 2] (q5 s 0 (scM s k4 false v4)) (.exit 8) (q5 s s.nF (scM s k5 false v5)))]
theorem sc_ev:evGW Tryz.prog [] [] B57 [wQ Tryz.prog 86 (fun _ _=>.tup []) (fun _ _=>scM s l1 false u1),wPut L U,wWh L U,wEnd L U] [] (scL L U s k1 k2 k3 k4 k5 v1 v2 v3 v4 v5) Tryz.f31 [.own 0 0,.agg s.c] (pM0 false false) [some 0,some 2] =
  cond (propB (WSpec Tryz.prog 86 [.own 0 0,.agg (eyA s.eye)] (pM0 false false ++ [.c s.c]) (.tup []) (scM s l1 false u1)))
   (chW L U [iPut [skyW],iWh s.sky,iEnd] (scM s l1 false u1) fun _=>gate (SubN 1 (q1 s 0 (scM s (L 5) false (U 5))) (q1 s 0 (scM s (L 5) false (U 5)))) (gate (SubN 1 (q2 s 0 (scM s k1 false v1)) (q2 s 0 (scM s k1 false v1))) (gate (SubN 1 (q3 s 0 (scM s k2 false v2)) (q3 s 0 (scM s k2 false v2)))
     (gate (SubN 1 (q4 s 0 (scM s k3 false v3)) (q4 s 0 (scM s k3 false v3))) (gate (SubN 1 (q5 s 0 (scM s k4 false v4)) (q5 s 0 (scM s k4 false v4))) (gout (.tup []) (pM k5 false v5))))))) none:=by kernel_rfl
end
structure InvS (s:Scn) (mem:List Row) (l:List UInt8) (b u:Bool):Prop where
  inv:Inv mem l b u
  two:2≤curK mem
  box:mem[1]?=some (.c s.c)
theorem InvS.stp {s:Scn} {mem:List Row} {l l':List UInt8} {b u b' u':Bool} (h:InvS s mem l b u):InvS s (stp mem l' b' u') l' b' u'∧(Pi.stp mem l' b' u').length=mem.length+1:=by
  obtain ⟨h1,h2⟩:=h.inv.stp (l':=l') (b':=b') (u':=u')
  obtain ⟨k,r,rfl,hk,hc⟩:=h.inv.cons
  have hkl:k < r.length:=(List.getElem?_eq_some_iff.1 hk).1
  have h2':2≤k+1:=by rw [← hc]; exact h.two
  refine ⟨⟨h1,by show 2≤r.length+1; omega,?_⟩,h2⟩
  show ((prR _ _ _ _::r.set (k+1 - 1) .dead) ++ [bR l'])[1]?=_
  rw [List.getElem?_append_left (by simp; omega),List.getElem?_cons_succ,List.getElem?_set_ne (by omega)]
  have:=h.box
  rwa [List.getElem?_cons_succ] at this
theorem InvS.need {s:Scn} {mem:List Row} {l:List UInt8} {b u:Bool} (h:InvS s mem l b u) (t:Bool):InvS s (needM t mem) l b (cond u true (!t))∧(needM t mem).length=mem.length:=by
  obtain ⟨h1,h2⟩:=h.inv.need t
  obtain ⟨k,r,rfl,hk,hc⟩:=h.inv.cons
  exact ⟨⟨h1,by have:=h.two; rw [hc] at this; exact this,h.box⟩,h2⟩
theorem InvS.cmp3 {s:Scn} {mem:List Row} {l:List UInt8} {b u:Bool} (h:InvS s mem l b u):cmp3 mem=scM s l b u:=by
  obtain ⟨k,r,rfl,hk,hc⟩:=h.inv.cons
  have hb:=h.box
  rw [List.getElem?_cons_succ] at hb
  cases r with
  | nil=>simp at hb
  | cons bx r =>
    simp at hb
    subst hb
    show [_,_,(_::r).getD (k+1 - 1) .dead]=_
    rw [List.getD_eq_getElem?_getD,Nat.add_sub_cancel,hk]
    rfl
theorem chW_runS {s:Scn}:∀ (its:List SI) (Z:List (List UInt8 × Bool)) (n0:Nat) (m:List Row) (l:List UInt8) (b u:Bool) (k:List Row→Option Out),InvS s m l b u→n0≤m.length→(∀ i,(LU its l b u)[i]?≠none→Z[m.length - n0+i]?=(LU its l b u)[i]?)→(∀ i,i ∈ its→i.ok)→l.length+(comp its b).length≤900000000 →
    ∃ m',InvS s m' (l ++ comp its b) (cbf its b) (u||cbad its)∧chW (fun n=>(Z.getD (n - n0) ([],false)).1) (fun n=>(Z.getD (n - n0) ([],false)).2) (its.map SI.itm) m k=k m'
  | [],Z,n0,m,l,b,u,k,hI,_,_,_,_=>⟨m,by simpa [cbf] using hI,rfl⟩
  | .g p::r,Z,n0,m,l,b,u,k,hI,h0,hZ,hok,hl=>by
    have hp:p:=hok (.g p) (by simp)
    obtain ⟨m',h1,h2⟩:=chW_runS r Z n0 m l b u k hI h0 hZ (fun i hi=>hok i (by simp [hi])) hl
    refine ⟨m',h1,?_⟩
    show gate p _=_
    rw [gate_pos hp]
    exact h2
  | .n t::r,Z,n0,m,l,b,u,k,hI,h0,hZ,hok,hl=>by
    obtain ⟨hI',hlen⟩:=hI.need t
    obtain ⟨m',h1,h2⟩:=chW_runS r Z n0 (needM t m) l b (cond u true (!t)) k hI' (by rw [hlen]; exact h0) (by rw [hlen]; exact hZ) (fun i hi=>hok i (by simp [hi])) hl
    refine ⟨m',?_,?_⟩
    · have e:(u||(!t||cbad r))=(cond u true (!t)||cbad r):=by cases u<;>rfl
      show InvS s m' (l ++ comp r b) (cbf r b) (u||(!t||cbad r))
      rw [e]
      exact h1
    · show cond (propB _) _ none=_
      rw [propB_t (need_lift hI.inv t)]
      exact h2
  | .w f a E bad bf::r,Z,n0,m,l,b,u,k,hI,h0,hZ,hok,hl=>by
    obtain ⟨hP,ha⟩:SI.ok (.w f a E bad bf):=hok (.w f a E bad bf) (by simp)
    have hl':l.length+((E b).length+(comp r bf).length)≤900000000:=by
      have:(comp (.w f a E bad bf::r) b).length=(E b).length+(comp r bf).length:=List.length_append
      omega
    obtain ⟨hI',hlen⟩:=hI.stp (l':=l ++ E b) (b':=bf) (u':=u||bad)
    have hz:Z.getD (m.length - n0) ([],false)=(l ++ E b,u||bad):=by
      have:=hZ 0 (by simp [LU])
      rw [Nat.add_zero] at this
      rw [List.getD_eq_getElem?_getD,this]
      rfl
    obtain ⟨m',h1,h2⟩:=chW_runS r Z n0 (stp m (l ++ E b) bf (u||bad)) (l ++ E b) bf (u||bad) k hI' (by rw [hlen]; omega) (fun i hi=>by
      have:=hZ (i+1) (by simpa [LU] using hi)
      rw [hlen,show m.length+1 - n0+i=m.length - n0+(i+1) by omega,this]
      rfl) (fun i hi=>hok i (by simp [hi])) (by rw [List.length_append]; omega)
    refine ⟨m',?_,?_⟩
    · have e1:l ++ comp (.w f a E bad bf::r) b=l ++ E b ++ comp r bf:=(List.append_assoc _ _ _).symm
      have e2:(u||cbad (.w f a E bad bf::r))=(u||bad||cbad r):=(Bool.or_assoc _ _ _).symm
      rw [e1,e2]
      exact h1
    · show cond (propB (WSpec Tryz.prog f (.own 0 0::a) m (.tup []) (stp m (Z.getD (m.length - n0) ([],false)).1 bf (Z.getD (m.length - n0) ([],false)).2))) (chW _ _ (r.map SI.itm) (stp m (Z.getD (m.length - n0) ([],false)).1 bf (Z.getD (m.length - n0) ([],false)).2) k) none=_
      rw [hz,propB_t (wl_lift hI.inv ha (fun _=>rfl) (hP l b u (by omega)))]
      exact h2
theorem invS_scM (s:Scn) (l:List UInt8) (b u:Bool) (r:List Row):InvS s (scM s l b u ++ r) l b u:=⟨⟨by show 0 < 2; omega,rfl,rfl⟩,by show 2≤2; omega,rfl⟩
def lineL (E:Nat→List UInt8):Nat→List UInt8
  | 0=>[]
  | j+1=>lineL E j ++ E j
def anyN (B:Nat→Bool):Nat→Bool
  | 0=>false
  | j+1=>anyN B j||B j
theorem lineL_le {E:Nat→List UInt8} {n:Nat}:∀ {j:Nat},j≤n→(lineL E j).length≤(lineL E n).length:=fun {j} h=>by
  induction n with
  | zero => have:j=0:=by omega
            subst this; exact Nat.le_refl _
  | succ n ih =>
    by_cases c:j=n+1
    · subst c; exact Nat.le_refl _
    · have:=ih (by omega)
      show _≤(lineL E n ++ E n).length
      rw [List.length_append]; omega
theorem qC_on {j n:Nat} (hj:j < n) (x y:Option Out):qC (j:Nat) n x y=x:=by unfold qC; rw [dec_lt hj,ixB_t hj]; rfl
theorem scW_ok (L:Nat→List UInt8) (U:Nat→Bool):∀ e,e ∈ scW L U→WEOk Tryz.prog e:=w_cons wP_ok <| w_cons wP_ok <| w_cons wP_ok <| w_cons wP_ok <| w_cons wP_ok <| w_cons wP_ok w_nil
theorem q_leads {s:Scn} {c:Code} {q:Int→List Row→St} {n:Nat} {ex:Exit} {kq:List Nat} {τ:List (Option Nat)} (hex:ex≠.normal) (hk:KSubN 1 (finN kq τ)) (hk2:KSubN 1 (finE kq [some 0,some 1,some 2])) (hn:n≤100000) (its:Nat→List SI) (bx:Nat→Row) (X:(Nat→List UInt8)→(Nat→Bool)→List UInt8→Bool→Option Out)
    (hS:∀ L U l u (j:Nat),evCW Tryz.prog [] [] B57 (scW L U) [] noL c (q (j:Nat) (scM s l false u)) (finN kq τ)=qC (j:Nat) n (chW L U ((its j).map SI.itm) (scM s l false u ++ [bx j]) fun m=>some ⟨.normal,q (w64 ((j:Nat)+1)) (cmp3 m),.any⟩) none)
    (hE:∀ L U l u,evCW Tryz.prog [] [] B57 (scW L U) [] noL c (q (n:Nat) (scM s l false u)) (finE kq [some 0,some 1,some 2])=qC (n:Nat) n (X L U l u) (some ⟨ex,q (n:Nat) (scM s l false u),.any⟩))
    (hok:∀ j,j < n→∀ i,i ∈ its j→i.ok) (hbf:∀ j,cbf (its j) false=false) {l:List UInt8} {u:Bool} (hl:l.length+(lineL (fun j=>comp (its j) false) n).length≤900000000) :
    LeadsN 1 Tryz.prog (.loop c) (q 0 (scM s l false u)) ex (q (n:Nat) (scM s (l ++ lineL (fun j=>comp (its j) false) n) false (u||anyN (fun j=>cbad (its j)) n))):=by
  suffices key:LeadsN 1 Tryz.prog (.loop c) (q ((0:Nat):Int) (scM s (l ++ lineL (fun j=>comp (its j) false) 0) false (u||anyN (fun j=>cbad (its j)) 0))) ex (q (n:Nat) (scM s (l ++ lineL (fun j=>comp (its j) false) n) false (u||anyN (fun j=>cbad (its j)) n))) by
    have e1:l ++ lineL (fun j=>comp (its j) false) 0=l:=List.append_nil _
    have e2:(u||anyN (fun j=>cbad (its j)) 0)=u:=Bool.or_false _
    rw [e1,e2] at key
    exact key
  have stepL:∀ (j:Nat) (lj:List UInt8) (uj:Bool),j < n→lj.length+(comp (its j) false).length≤900000000→LeadsN 1 Tryz.prog c (q (j:Nat) (scM s lj false uj)) .normal (q ((j+1:Nat):Int) (scM s (lj ++ comp (its j) false) false (uj||cbad (its j)))):=fun j lj uj hj hlj=>by
    obtain ⟨m',h1,h2⟩:=chW_runS (s:=s) (its j) (LU (its j) lj false uj) 4 (scM s lj false uj ++ [bx j]) lj false uj (fun m=>some ⟨.normal,q (w64 ((j:Nat)+1)) (cmp3 m),.any⟩) (invS_scM s _ _ _ _) (Nat.le_refl _) (fun i _=>by rw [show (scM s lj false uj ++ [bx j]).length - 4+i=i by show 4 - 4+i=i; omega]) (hok j hj) hlj
    refine leads_evWN hk e_nil k_nil B57_ok (scW_ok _ _) r_nil noL_okN ((hS (fun n=>((LU (its j) lj false uj).getD (n - 4) ([],false)).1) (fun n=>((LU (its j) lj false uj).getD (n - 4) ([],false)).2) lj uj j).trans ?_)
    rw [qC_on hj]
    refine h2.trans ?_
    rw [h1.cmp3,hbf,w64_next (by omega)]
  refine loop_rule (fun j=>q (j:Nat) (scM s (l ++ lineL (fun j=>comp (its j) false) j) false (u||anyN (fun j=>cbad (its j)) j))) n ex _ hex (fun j hj=>?_) ?_
  · have hle:=lineL_le (E:=fun j=>comp (its j) false) (n:=n) (j:=j+1) (by omega)
    have hnx:(lineL (fun j=>comp (its j) false) (j+1)).length=(lineL (fun j=>comp (its j) false) j).length+(comp (its j) false).length:=List.length_append
    have hlen:(l ++ lineL (fun j=>comp (its j) false) j).length=l.length+(lineL (fun j=>comp (its j) false) j).length:=List.length_append
    have:=stepL j (l ++ lineL (fun j=>comp (its j) false) j) (u||anyN (fun j=>cbad (its j)) j) hj (by omega)
    rw [List.append_assoc,Bool.or_assoc] at this
    exact this
  · refine leads_evWN hk2 e_nil k_nil B57_ok (scW_ok (fun _=>[]) (fun _=>false)) r_nil noL_okN ((hE (fun _=>[]) (fun _=>false) _ _).trans ?_)
    unfold qC
    rw [dec_self]
    rfl
end Go.Proofs.YtefphimaggjihaaGreatDoor.Pi

namespace Go.Proofs.YtefphimaggjihaaGreatDoor.Pi
open Go.Shelf Go.RowKit Go.Gv
open Hs.Sc (Scn)
section
variable (dc:Int→List UInt8) (tn:Nat→Int) (tb:Nat→Bool) (s:Scn)
def skI (j:Nat):List SI:=[.w 90 [.agg (Hs.Sc.skC (s.K j)),iA (j:Nat)] (fun b=>lineE b (skT dc (s.K j) (fun q=>s.K j (3+q)) (fun q=>s.K j (6+q)) (s.K j 9) (j:Nat))) false false]
def lmI (j:Nat):List SI:=[.w 91 [.agg (Hs.Sc.lmC (s.LA j) (s.LL j))] (fun b=>lineE b (lamT dc tn (s.LA j) (s.LL j))) (vB tb (s.LA j) 0) false]
def sWr (k:Int):SI:=.w 93 [iA k] (fun b=>lineE b [nmT k]) false false
def shI (j:Nat):List SI:=[.w 92 [.agg (s.S j).c] (fun b=>tks b (shT dc tn (s.S j).k (s.S j).a)) (shB tb (s.S j).k (s.S j).a (s.S j).sk) true,sWr (s.S j).sk]
noncomputable def soI (j:Nat):List SI:=[.w 94 [.agg (s.O j).c] (fun b=>tks b (soT dc tn (s.O j).n (s.O j).P)) (soB tb (s.O j).n (s.O j).P) true,sWr (s.O j).sk]
def feI (j:Nat):List SI:=[.w 95 [.agg (s.F j).c] (fun b=>tks b (fdT dc tn (s.F j))) (fdB tb (s.F j)) true,sWr (s.F j).sk]
def skyI:List SI:=[sPut skyW,sWh s.sky,sEnd]
def x0:List UInt8:=lineE false (eyT dc tn s.eye)
def x1:List UInt8:=x0 dc tn s ++ comp (skyI s) false
def x2:List UInt8:=x1 dc tn s ++ lineL (fun j=>comp (skI dc s j) false) s.nK
def x3:List UInt8:=x2 dc tn s ++ lineL (fun j=>comp (lmI dc tn tb s j) false) s.nL
def x4:List UInt8:=x3 dc tn tb s ++ lineL (fun j=>comp (shI dc tn tb s j) false) s.nS
noncomputable def x5:List UInt8:=x4 dc tn tb s ++ lineL (fun j=>comp (soI dc tn tb s j) false) s.nO
noncomputable def x6:List UInt8:=x5 dc tn tb s ++ lineL (fun j=>comp (feI dc tn tb s j) false) s.nF
def w1:Bool:=eyB tb s.eye||cbad (skyI s)
def w2:Bool:=w1 tb s||anyN (fun j=>cbad (skI dc s j)) s.nK
def w3:Bool:=w2 dc tb s||anyN (fun j=>cbad (lmI dc tn tb s j)) s.nL
def w4:Bool:=w3 dc tn tb s||anyN (fun j=>cbad (shI dc tn tb s j)) s.nS
noncomputable def w5:Bool:=w4 dc tn tb s||anyN (fun j=>cbad (soI dc tn tb s j)) s.nO
noncomputable def w6:Bool:=w5 dc tn tb s||anyN (fun j=>cbad (feI dc tn tb s j)) s.nF
/-- What is known of a scene's numbers. -/
structure ScN:Prop where
  e0:NV dc tn tb s.eye 0
  e3:NV dc tn tb s.eye 3
  e6:NV dc tn tb s.eye 6
  e9:Nu dc tn tb (s.eye 9)
  sky:Wh s.sky
  sk:∀ j,j < s.nK→FNm nmT (j:Nat)∧Wh (s.K j)∧Wh (fun q=>s.K j (3+q))∧Wh (fun q=>s.K j (6+q))∧FDc dc (s.K j 9)∧dc (s.K j 9)≠[]
  lm:∀ j,j < s.nL→NV dc tn tb (s.LA j) 0∧Wh (s.LL j)
  sh:∀ j,j < s.nS→ShN dc tn tb (s.S j).k (s.S j).a∧FNm nmT (s.S j).sk
  so:∀ j,j < s.nO→((1≤(s.O j).n∧(s.O j).n≤16)∧PM (s.O j).n (s.O j).P∧∀ i,i < (s.O j).n→((s.O j).P i).op=0→ShN dc tn tb ((s.O j).P i).k ((s.O j).P i).a)∧FNm nmT (s.O j).sk
  fd:∀ j,j < s.nF→((FIt (s.F j).W∧Lib.itoa (s.F j).W≠[])∧(FIt (s.F j).H∧Lib.itoa (s.F j).H≠[])∧NV dc tn tb (s.F j).at_ 0∧Nu dc tn tb (s.F j).sd∧(s.F j).n≤1000∧∀ q,q < (s.F j).n→FDc dc ((s.F j).hs q)∧dc ((s.F j).hs q)≠[])∧FNm nmT (s.F j).sk
  few:s.nS≤1000∧s.nO≤1000∧s.nF≤1000∧s.nK≤1000∧s.nL≤1000
end
section
variable {dc:Int→List UInt8} {tn:Nat→Int} {tb:Nat→Bool} {s:Scn}
theorem sWr_ok {k:Int} (h:FNm nmT k):(sWr k).ok:=⟨pr_wear h,fun _=>rfl⟩
theorem eye_lift {l:List UInt8} {u:Bool} (h:GSpec Tryz.prog 86 [.own 0 0,.agg (eyA s.eye)] (pM0 false false) (.tup []) (pM l false u)):WSpec Tryz.prog 86 [.own 0 0,.agg (eyA s.eye)] (pM0 false false ++ [.c s.c]) (.tup []) (scM s l false u):=by
  refine wframe (v:=.tup []) h [0] rfl rfl rfl (fun i j hi=>?_) ⟨fun j hj hl=>?_,fun i j r hi hr=>?_,fun i r hi hr=>?_⟩
  · match i,hi with
    | 0,hi=>simp at hi; subst hi; exact ⟨_,rfl,rfl,rfl⟩
    | n+1,hi=>simp at hi
  · match j,hj,hl with
    | 0,hj,_=>exact absurd (by simp) hj
    | 1,_,_=>rfl
    | n+2,_,hl=>exact absurd hl (by show ¬ n+2 < 2; omega)
  · match i,hi with
    | 0,hi=>simp at hi; subst hi; cases hr; rfl
    | n+1,hi=>simp at hi
  · match i,hi,hr with
    | 0,hi,_=>exact absurd hi (by show ¬ 1≤0; omega)
    | 1,_,hr=>cases hr; rfl
    | n+2,_,hr=>cases hr
theorem lokN_nil {np:Nat} {P:Program} {c:Code}:LOkN np P (manyL []) c:=fun _ _ _ _ _ h=>by cases h
theorem lokN_cons {np:Nat} {P:Program} {c:Code} {i:Nat} {g:LFun} {l:List (Nat × LFun)} (hg:LOkN np P (oneL i g) c) (hl:LOkN np P (manyL l) c):LOkN np P (manyL ((i,g)::l)) c:=by
  intro c' hc j f hj hf
  have hf:cond (Nat.beq j i) (some g) (manyL l j)=some f:=hf
  cases hb:Nat.beq j i
  · rw [hb,cond_false] at hf
    exact hl c' hc j f hj hf
  · rw [hb,cond_true] at hf
    refine hg c' hc j f hj ?_
    unfold oneL
    rw [hb,cond_true]
    exact hf
/-- A told loop, by its place among all. -/
theorem lokN_at {np:Nat} {P:Program} {c:Code} {i:Nat} {g:LFun} (q m:Nat) (hlen:(loopsOf c).length=m) (hid:((List.range m).all fun j=>Nat.beq j q||!(isId (firstId ((loopsOf c).getD j .skip)) i))=true) (h:LSoundN np P ((loopsOf c).getD q .skip) g):LOkN np P (oneL i g) c :=
  lokN_one m hlen fun j hj hf=>by
    have:=List.all_eq_true.1 hid j (List.mem_range.2 hj)
    cases hb:Nat.beq j q
    · rw [hb,hf] at this
      simp [isId] at this
    · rw [Nat.eq_of_beq_eq_true hb]
      exact h
theorem scene_spec (h:ScN dc tn tb s) (hl:(x6 dc tn tb s).length≤900000):GSpec Tryz.prog 31 [.own 0 0,.agg s.c] (pM0 false false) (.tup []) (pM (x6 dc tn tb s) false (w6 dc tn tb s)):=by
  have l6:(x6 dc tn tb s).length=(x5 dc tn tb s).length+(lineL (fun j=>comp (feI dc tn tb s j) false) s.nF).length:=List.length_append
  have l5:(x5 dc tn tb s).length=(x4 dc tn tb s).length+(lineL (fun j=>comp (soI dc tn tb s j) false) s.nO).length:=List.length_append
  have l4:(x4 dc tn tb s).length=(x3 dc tn tb s).length+(lineL (fun j=>comp (shI dc tn tb s j) false) s.nS).length:=List.length_append
  have l3:(x3 dc tn tb s).length=(x2 dc tn s).length+(lineL (fun j=>comp (lmI dc tn tb s j) false) s.nL).length:=List.length_append
  have l2:(x2 dc tn s).length=(x1 dc tn s).length+(lineL (fun j=>comp (skI dc s j) false) s.nK).length:=List.length_append
  have l1:(x1 dc tn s).length=(x0 dc tn s).length+(comp (skyI s) false).length:=List.length_append
  have hf:=h.few
  have hw:WSpec Tryz.prog 86 [.own 0 0,.agg (eyA s.eye)] (pM0 false false ++ [.c s.c]) (.tup []) (scM s (x0 dc tn s) false (eyB tb s.eye)):=eye_lift (eye_spec h.e0 h.e3 h.e6 h.e9 (show (x0 dc tn s).length≤900000 by omega))
  have k1:=q_leads (s:=s) (c:=loopAt Tryz.f31 0) (q:=q1 s) (n:=s.nK) (ex:=.exit 0) (kq:=kq1) (τ:=[some 0,some 1,some 4]) (by simp) (finN_subN _ (by rfl)) (finE_subN _ (by rfl)) (by omega) (skI dc s) (fun j=>.c (Hs.Sc.skC (s.K j))) _ (fun L U l u j=>q1_step L U s l false u (j:Nat)) (fun L U l u=>q1_end L U s l false u (s.nK:Nat))
    (fun j hj=>si_cons ⟨pr_skin (h.sk j hj).1 (h.sk j hj).2.1 (h.sk j hj).2.2.1 (h.sk j hj).2.2.2.1 (h.sk j hj).2.2.2.2.1 (h.sk j hj).2.2.2.2.2,fun _=>rfl⟩ si_nil) (fun _=>rfl) (l:=x1 dc tn s) (u:=w1 tb s) (by omega)
  have k2:=q_leads (s:=s) (c:=loopAt Tryz.f31 1) (q:=q2 s) (n:=s.nL) (ex:=.exit 2) (kq:=kq2) (τ:=[some 0,some 1,some 4]) (by simp) (finN_subN _ (by rfl)) (finE_subN _ (by rfl)) (by omega) (lmI dc tn tb s) (fun j=>.c (Hs.Sc.lmC (s.LA j) (s.LL j))) _ (fun L U l u j=>q2_step L U s l false u (j:Nat)) (fun L U l u=>q2_end L U s l false u (s.nL:Nat))
    (fun j hj=>si_cons ⟨pr_lamp (h.lm j hj).1 (h.lm j hj).2,fun _=>rfl⟩ si_nil) (fun _=>rfl) (l:=x2 dc tn s) (u:=w2 dc tb s) (by omega)
  have k3:=q_leads (s:=s) (c:=loopAt Tryz.f31 2) (q:=q3 s) (n:=s.nS) (ex:=.exit 4) (kq:=kq3) (τ:=[some 0,some 1,some 5]) (by simp) (finN_subN _ (by rfl)) (finE_subN _ (by rfl)) (by omega) (shI dc tn tb s) (fun j=>.c (s.S j).c) _ (fun L U l u j=>q3_step L U s l false u (j:Nat)) (fun L U l u=>q3_end L U s l false u (s.nS:Nat))
    (fun j hj=>si_cons ⟨pr_shape (h.sh j hj).1,fun _=>rfl⟩ (si_cons (sWr_ok (h.sh j hj).2) si_nil)) (fun _=>rfl) (l:=x3 dc tn tb s) (u:=w3 dc tn tb s) (by omega)
  have k4:=q_leads (s:=s) (c:=loopAt Tryz.f31 3) (q:=q4 s) (n:=s.nO) (ex:=.exit 6) (kq:=kq4) (τ:=[some 0,some 1,some 5]) (by simp) (finN_subN _ (by rfl)) (finE_subN _ (by rfl)) (by omega) (soI dc tn tb s) (fun j=>.c (s.O j).c) _ (fun L U l u j=>q4_step L U s l false u (j:Nat)) (fun L U l u=>q4_end L U s l false u (s.nO:Nat))
    (fun j hj=>si_cons ⟨pr_solid (h.so j hj).1.1.1 (h.so j hj).1.1.2 (h.so j hj).1.2.1 (h.so j hj).1.2.2,fun _=>rfl⟩ (si_cons (sWr_ok (h.so j hj).2) si_nil)) (fun _=>rfl) (l:=x4 dc tn tb s) (u:=w4 dc tn tb s) (by omega)
  have k5:=q_leads (s:=s) (c:=loopAt Tryz.f31 4) (q:=q5 s) (n:=s.nF) (ex:=.exit 8) (kq:=kq5) (τ:=[some 0,some 1,some 5]) (by simp) (finN_subN _ (by rfl)) (finE_subN _ (by rfl)) (by omega) (feI dc tn tb s) (fun j=>.c (s.F j).c) _ (fun L U l u j=>q5_step L U s l false u (j:Nat)) (fun L U l u=>q5_end L U s l false u (s.nF:Nat))
    (fun j hj=>si_cons ⟨pr_field (h.fd j hj).1.1 (h.fd j hj).1.2.1 (h.fd j hj).1.2.2.1 (h.fd j hj).1.2.2.2.1 (h.fd j hj).1.2.2.2.2.1 (h.fd j hj).1.2.2.2.2.2,fun _=>rfl⟩ (si_cons (sWr_ok (h.fd j hj).2) si_nil)) (fun _=>rfl) (l:=x5 dc tn tb s) (u:=w5 dc tn tb s) (by omega)
  obtain ⟨m',hm1,hm2⟩:=chW_runS (s:=s) (skyI s) (LU (skyI s) (x0 dc tn s) false (eyB tb s.eye)) 3 (scM s (x0 dc tn s) false (eyB tb s.eye)) (x0 dc tn s) false (eyB tb s.eye) (fun _=>gout (.tup []) (pM (x6 dc tn tb s) false (w6 dc tn tb s))) (by have:=invS_scM s (x0 dc tn s) false (eyB tb s.eye) []; rwa [List.append_nil] at this) (Nat.le_refl _) (fun i _=>by rw [show (scM s (x0 dc tn s) false (eyB tb s.eye)).length - 3+i=i by show 3 - 3+i=i; omega])
    (si_cons (sPut_ok (by simp [skyW])) <| si_cons (sWh_ok h.sky) <| si_cons sEnd_ok si_nil) (by omega)
  have e5:(LU (skyI s) (x0 dc tn s) false (eyB tb s.eye)).getD (5 - 3) ([],false)=(x1 dc tn s,w1 tb s):=by
    unfold x1 w1
    simp [LU,skyI]
  have hL:LOkN 1 Tryz.prog (scL (fun n=>((LU (skyI s) (x0 dc tn s) false (eyB tb s.eye)).getD (n - 3) ([],false)).1) (fun n=>((LU (skyI s) (x0 dc tn s) false (eyB tb s.eye)).getD (n - 3) ([],false)).2) s (x2 dc tn s) (x3 dc tn tb s) (x4 dc tn tb s) (x5 dc tn tb s) (x6 dc tn tb s) (w2 dc tb s) (w3 dc tn tb s) (w4 dc tn tb s) (w5 dc tn tb s) (w6 dc tn tb s)) (bodyOf Tryz.f31):=by
    refine lokN_cons (lokN_at 0 5 (by kernel_rfl) (by kernel_rfl) (toldP_sound (by rfl) ?_)) <| lokN_cons (lokN_at 1 5 (by kernel_rfl) (by kernel_rfl) (toldP_sound (by rfl) k2)) <| lokN_cons (lokN_at 2 5 (by kernel_rfl) (by kernel_rfl) (toldP_sound (by rfl) k3)) <| lokN_cons (lokN_at 3 5 (by kernel_rfl) (by kernel_rfl) (toldP_sound (by rfl) k4)) <| lokN_cons (lokN_at 4 5 (by kernel_rfl) (by kernel_rfl) (toldP_sound (by rfl) k5)) lokN_nil
    show LeadsN 1 Tryz.prog _ (q1 s 0 (scM s ((LU (skyI s) (x0 dc tn s) false (eyB tb s.eye)).getD (5 - 3) ([],false)).1 false ((LU (skyI s) (x0 dc tn s) false (eyB tb s.eye)).getD (5 - 3) ([],false)).2)) _ _
    rw [e5]
    exact k1
  refine gspecGW e_nil k_nil B57_ok (w_cons wQ_ok (w_cons wP_ok (w_cons wP_ok (w_cons wP_ok w_nil)))) r_nil Tryz.func31 (by kernel_rfl) (by kernel_rfl) (mem:=pM0 false false) hL rfl (τ:=[some 0,some 2]) (by rfl) ((sc_ev (fun n=>((LU (skyI s) (x0 dc tn s) false (eyB tb s.eye)).getD (n - 3) ([],false)).1) (fun n=>((LU (skyI s) (x0 dc tn s) false (eyB tb s.eye)).getD (n - 3) ([],false)).2) s (x0 dc tn s) (x2 dc tn s) (x3 dc tn tb s) (x4 dc tn tb s) (x5 dc tn tb s) (x6 dc tn tb s) (eyB tb s.eye) (w2 dc tb s) (w3 dc tn tb s) (w4 dc tn tb s) (w5 dc tn tb s) (w6 dc tn tb s)).trans ?_)
  rw [propB_t hw,gate_pos (SubN.refl _),gate_pos (SubN.refl _),gate_pos (SubN.refl _),gate_pos (SubN.refl _),gate_pos (SubN.refl _)]
  exact hm2
end
end Go.Proofs.YtefphimaggjihaaGreatDoor.Pi

namespace Go.Proofs.YtefphimaggjihaaGreatDoor
open Go.Shelf
def Tryz.lays169_ren:Go.Shelf.Ren:=⟨fun | 169=>32 | n=>n,fun | 0=>0 | 3=>3 | 5=>5 | 9=>9 | 37=>78 | 70=>77 | 72=>80 | 127=>135 | n=>n,fun  | n=>n⟩
theorem Tryz.lays169:Go.Proofs.Lays.n169 Tryz.prog Tryz.lays169_ren:={
  mixed:=by kernel_rfl
  f169:=Tryz.func32.trans (congrArg some (by kernel_rfl))
  t0:=Tryz.underlying0
  a0:=Tryz.isAgg0
  z0:=Tryz.sizeOf0
  v0:=Tryz.zeroValue0
  t3:=Tryz.underlying3
  a3:=Tryz.isAgg3
  z3:=Tryz.sizeOf3
  v3:=Tryz.zeroValue3
  t9:=Tryz.underlying9
  a9:=Tryz.isAgg9
  z9:=Tryz.sizeOf9
  v9:=Tryz.zeroValue9
  t37:=Tryz.underlying78
  a37:=Tryz.isAgg78
  z37:=Tryz.sizeOf78
  v37:=Tryz.zeroValue78
  t70:=Tryz.underlying77
  a70:=Tryz.isAgg77
  z70:=Tryz.sizeOf77
  v70:=Tryz.zeroValue77
  t72:=Tryz.underlying80
  a72:=Tryz.isAgg80
  z72:=Tryz.sizeOf80
  v72:=Tryz.zeroValue80
  t127:=Tryz.underlying135
  a127:=Tryz.isAgg135
  z127:=Tryz.sizeOf135
  v127:=Tryz.zeroValue135
}
end Go.Proofs.YtefphimaggjihaaGreatDoor
namespace Go.Proofs.YtefphimaggjihaaGreatDoor.Pi
open Go.Shelf Go.RowKit Go.Gv

theorem freeze_grown (w:World) (g n:Nat):w.grownBy (w.drew.freeze ⟨g,0,none⟩ n) (some g):=by
  unfold World.freeze
  split
  · exact ⟨rfl,rfl,rfl,Nat.le_refl _,fun _ _ _=>rfl⟩
  · refine ⟨rfl,rfl,rfl,by simp,fun k _ hk=>?_⟩
    have hne:g≠k:=fun e=>hk (by rw [e])
    show (w.heap.modify g _)[k]?=_
    rw [Array.getElem?_modify,if_neg hne]
/-- String of a builder whose bytes lie in a row. -/
theorem string_run (b g cap:Nat) (p y0 y1:Value) (cur:Array Value) (l:List UInt8) (w:World) (h0:l≠[]) (hbk:w.heap[b]?=some (.cells #[p,.slice (some ⟨g,0,none⟩) l.length cap,y0,y1] 82 (0,0)))
    (hg:w.heap[g]?=some (.cells cur 5 (0,0))) (hcap:l.length≤cap) (hsz:cur.size=cap) (hcm:cap≤maxLen) (hel:∀ (j:Nat) (x:UInt8),l[j]?=some x→cur[j]?=some (.int .u8 (x.toNat:Nat))) :
    Calls Tryz.prog 32 #[.pointer (some ⟨b,0,none⟩)] w fun e w'=>e=.returned (.string ⟨l.toArray⟩)∧w'=w.drew.freeze ⟨g,0,none⟩ l.length:=by
  have hl0:l.length≠0:=by simpa using h0
  have c1:w.drew.cell? ⟨b,1,none⟩=some (.slice (some ⟨g,0,none⟩) l.length cap):=by
    have h:w.drew.heap[b]?=some (.cells #[p,.slice (some ⟨g,0,none⟩) l.length cap,y0,y1] 82 (0,0)):=hbk
    rw [Lib.cell_of_heap h]; rfl
  have hSD:(Builtin.unsafeSliceData_ #[78] 135 #[.slice (some ⟨g,0,none⟩) l.length cap]).run Tryz.prog w.drew=.ok (.pointer (some ⟨g,0,none⟩)) w.drew :=
    Lib.run_unsafeSliceData_row _ _ _ _ _ _ (by omega)
  have hUS:(Builtin.unsafeString_ #[135,3] 9 #[.pointer (some ⟨g,0,none⟩),.int .i64 l.length]).run Tryz.prog w.drew=.ok (.string ⟨l.toArray⟩) (w.drew.freeze ⟨g,0,none⟩ l.length):=by
    have hg':w.drew.heap[g]?=some (.cells cur 5 (0,0)):=hg
    refine Lib.run_unsafeString_row w.drew 135 3 9 5 Tryz.underlying135 (by kernel_rfl) g cur.size (by simp [World.shape?,hg']) l h0 (by omega) (by unfold maxLen at hcm; omega) ?_
    intro j x hx
    rw [Addr.add_lit,Lib.cell_of_heap hg']
    simpa using hel j x hx
  have hlay:=Tryz.lays169
  have u80:=run_underlying Tryz.underlying80
  have u77:=run_underlying Tryz.underlying77
  have u78:=run_underlying Tryz.underlying78
  have u135:=run_underlying Tryz.underlying135
  have u3:=run_underlying Tryz.underlying3
  have u9:=run_underlying Tryz.underlying9
  have u5:=run_underlying Tryz.underlying5
  go_enter Tryz.func32,Tryz.ntmps32
  go_wp2
  go_region
  all_goals (go_wp2; go_ret; exact ⟨rfl,rfl⟩)
theorem string_w {mem:List Row} {k k2:Nat} {P0 Y0 Y1:AV} {l:List UInt8} (hk:mem[k]?=some (.t 82 [P0,.osl k2 1 0 l.length,Y0,Y1])) (hk2:mem[k2]?=some (bR l)) (h0:l≠[]):WSpec Tryz.prog 32 [.own k 0] mem (zA (lB l)) (mem.set k2 .dead):=by
  refine ⟨⟨_,Tryz.func32,by kernel_rfl,by kernel_rfl⟩,fun A0 R w0 E cargs hW hgl hr=>?_⟩
  obtain ⟨u0,t0,e0,r0,hr⟩:=rels_cons.1 hr
  have e1:=rels_nil.1 hr
  subst e1
  obtain ⟨b,c,hO,rfl⟩:=rel_own.1 r0
  have ec:cargs=#[.pointer (some ⟨b,0,none⟩)]:=by apply Array.ext'; simpa using e0
  subst ec
  obtain ⟨row,hrow,hrel⟩:=hW.rows k b c hO
  rw [hk] at hrow
  cases hrow
  obtain ⟨cs,hcs,hpre,hsz⟩:=hrel
  obtain ⟨p,us,e2,rp,hpre⟩:=pre_cons.1 hpre
  obtain ⟨v,us1,e3,rv,hpre⟩:=pre_cons.1 hpre
  obtain ⟨y0,us2,e4,ry0,hpre⟩:=pre_cons.1 hpre
  obtain ⟨y1,us3,e5,ry1,_⟩:=pre_cons.1 hpre
  have hus:us3=[]:=by
    have:=congrArg List.length e2
    rw [e3,e4,e5] at this
    simp only [Array.length_toList,List.length_cons,hsz] at this
    exact List.eq_nil_of_length_eq_zero (by simpa using this.symm)
  subst hus e5 e4 e3
  have hcs2:cs=#[p,v,y0,y1]:=by apply Array.ext'; simpa using e2
  subst hcs2
  have hl0:l.length≠0:=by simpa using h0
  rcases rel_osl.1 rv with ⟨_,h,_⟩ | ⟨g,cap,n,hO2,hn1,hn2,rfl⟩
  · exact absurd h hl0
  obtain ⟨row2,hrow2,hrel2⟩:=hW.rows k2 g (cap,n) hO2
  rw [hk2] at hrow2
  cases hrow2
  obtain ⟨cur,hcur,hcz,hn,hnc,hcm,hel⟩:=hrel2
  have hn:n=l.length:=hn
  subst hn
  have hlive:liveAt mem k2=true:=by unfold liveAt; rw [hk2]; rfl
  refine (string_run b g cap p y0 y1 cur l E.w h0 (by simpa using hcs) hcur hn2 (by simpa using hcz) hcm ?_).mono ?_
  · intro j x hx
    have hj:j < l.length:=(List.getElem?_eq_some_iff.1 hx).1
    obtain ⟨u,us,e4,r4,_⟩:=pre_cons.1 (hel j hj).2
    have e5:=rel_x.1 r4
    have e6:cur.toList[j]?=some u:=by
      have:=congrArg (fun l:List Value=>l[0]?) e4
      simpa using this
    rw [← Array.getElem?_toList,e6,e5,List.getD_eq_getElem?_getD,hx]
    rfl
  · rintro e w' ⟨rfl,rfl⟩
    have hg:=freeze_grown E.w g l.length
    obtain ⟨hA,hR⟩:=hW.own k2 g (cap,l.length) hO2 hlive
    have hlt:g < E.w.heap.size:=hW.small g hA
    refine ⟨_,E.row (E.w.drew.freeze ⟨g,0,none⟩ l.length) k2 g (cap,l.length),rfl,rfl,Env.row_le hg (Or.inl hA) (Or.inr hO2),?_,rel_x.2 rfl⟩
    refine hW.row (row1:=.dead) hg (Nat.lt_of_lt_of_le hlt hg.size) hR (Or.inl hA) (Or.inr hO2) (List.getElem?_set_self (List.getElem?_eq_some_iff.1 hk2).1) (fun k' hk' b' c' hb'=>Or.inl ⟨List.getElem?_set_ne (fun h=>hk' h.symm),fun hl e=>?_⟩) trivial
    subst e
    exact hk' (hW.one k' k2 b' c' (cap,l.length) hb' hO2 hl hlive)
end Go.Proofs.YtefphimaggjihaaGreatDoor.Pi

namespace Go.Proofs.YtefphimaggjihaaGreatDoor.Pi
open Go.Shelf Go.RowKit Go.Gv
open Hs.Sc (Scn)
section
variable (s:Scn) (l:List UInt8) (u:Bool) (e:Int)
def pnM0:List Row:=[.c s.c,.t 82 [.x (.pointer none),.x (.slice none 0 0),bA false,bA false]]
def pnM:List Row:=[.c s.c,.t 82 [.own 1 0,.osl 2 1 0 l.length,bA false,bA u],bR l]
def pnD:List Row:=[.c s.c,.t 82 [.own 1 0,.osl 2 1 0 l.length,bA false,bA u],.dead]
noncomputable def pnW:List WEntry:=[wQ Tryz.prog 31 (fun _ _=>.tup []) (fun _ _=>pnM s l u),wQ Tryz.prog 32 (fun _ _=>zA (lB l)) (fun _ _=>pnD s l u)]
theorem pn_ev:evW Tryz.prog [] [kS Tryz.prog 14 fun _=>iA e] [typed 82] (pnW s l u) [] noL Tryz.f12 [.agg s.c] ret =
  gate (FSpec Tryz.prog 14 [.agg s.c] (iA e)) (cond (!(e==0)) (some (Out.of (.tup [zA ⟨#[]⟩,iA e])))
    (cond (propB (WSpec Tryz.prog 31 [.own 1 0,.agg s.c] (pnM0 s) (.tup []) (pnM s l u))) (cond u (some (Out.of (.tup [zA ⟨#[]⟩,iA 11])))
      (cond (propB (WSpec Tryz.prog 32 [.own 1 0] (pnM s l u) (zA (lB l)) (pnD s l u))) (some (Out.of (.tup [zA (lB l),iA 0]))) none)) none)):=by kernel_rfl
end
open Hs.Sc (scE sc_spec)
theorem print_bad {s:Scn} (h:scE s≠0):FSpec Tryz.prog 12 [.agg s.c] (.tup [zA ⟨#[]⟩,iA (scE s)]):=by
  refine gspecW e_nil (k_cons kS_ok k_nil) (m_cons (typed_ok _) m_nil) (w_cons wQ_ok (w_cons wQ_ok w_nil)) r_nil Tryz.func12 (by kernel_rfl) (by kernel_rfl) noL_ok rfl ((pn_ev s [] false (scE s)).trans ?_)
  rw [gate_pos (sc_spec s),beq_false_of_ne h]
  rfl
section
variable {dc:Int→List UInt8} {tn:Nat→Int} {tb:Nat→Bool} {s:Scn}
theorem scene_lift {l:List UInt8} {u:Bool} (h:GSpec Tryz.prog 31 [.own 0 0,.agg s.c] (pM0 false false) (.tup []) (pM l false u)):WSpec Tryz.prog 31 [.own 1 0,.agg s.c] (pnM0 s) (.tup []) (pnM s l u):=by
  refine wframe (v:=.tup []) h [1] rfl rfl ?_ (fun i j hi=>?_) ⟨fun j hj hl=>?_,fun i j r hi hr=>?_,fun i r hi hr=>?_⟩
  · rfl
  · match i,hi with
    | 0,hi=>simp at hi; subst hi; exact ⟨_,rfl,rfl,rfl⟩
    | n+1,hi=>simp at hi
  · match j,hj,hl with
    | 0,_,_=>rfl
    | 1,hj,_=>exact absurd (by simp) hj
    | n+2,_,hl=>exact absurd hl (by show ¬ n+2 < 2; omega)
  · match i,hi with
    | 0,hi=>simp at hi; subst hi; cases hr; rfl
    | n+1,hi=>simp at hi
  · match i,hi,hr with
    | 0,hi,_=>exact absurd hi (by show ¬ 1≤0; omega)
    | 1,_,hr=>cases hr; rfl
    | n+2,_,hr=>cases hr
theorem x0_ne:x0 dc tn s≠[]:=by
  unfold x0 lineE eyT
  simp [eyW]
theorem x6_ne:x6 dc tn tb s≠[]:=fun h=>x0_ne (dc:=dc) (tn:=tn) (s:=s) (by
  unfold x6 x5 x4 x3 x2 x1 at h
  simp only [List.append_eq_nil_iff] at h
  exact h.1.1.1.1.1.1)
theorem print_good (h0:scE s=0) (h:ScN dc tn tb s) (hl:(x6 dc tn tb s).length≤900000):FSpec Tryz.prog 12 [.agg s.c] (cond (w6 dc tn tb s) (.tup [zA ⟨#[]⟩,iA 11]) (.tup [zA (lB (x6 dc tn tb s)),iA 0])):=by
  have hm:=sc_spec s
  rw [h0] at hm
  have hw:=scene_lift (scene_spec h hl)
  have hS:WSpec Tryz.prog 32 [.own 1 0] (pnM s (x6 dc tn tb s) (w6 dc tn tb s)) (zA (lB (x6 dc tn tb s))) (pnD s (x6 dc tn tb s) (w6 dc tn tb s)):=string_w (mem:=pnM s (x6 dc tn tb s) (w6 dc tn tb s)) (k:=1) (k2:=2) rfl rfl x6_ne
  refine gspecW e_nil (k_cons kS_ok k_nil) (m_cons (typed_ok _) m_nil) (w_cons wQ_ok (w_cons wQ_ok w_nil)) r_nil Tryz.func12 (by kernel_rfl) (by kernel_rfl) noL_ok rfl ((pn_ev s (x6 dc tn tb s) (w6 dc tn tb s) 0).trans ?_)
  rw [gate_pos hm,propB_t hw,propB_t hS]
  cases w6 dc tn tb s<;>rfl
end
end Go.Proofs.YtefphimaggjihaaGreatDoor.Pi

namespace Go.Gv
open Go.RowKit Go.Ev
/-- A number in a slot, told outright. -/
noncomputable def zSl (j:Nat) (v:Int):ZFun:=fun s k=>match s.slots[j]? with
  | some (.x (.int .u64 n),c)=>gate (n=v) (k ⟨s.slots.set j (.x (.int .u64 v),c),s.mem⟩)
  | _=>none
theorem zSl_ok {np:Nat} (j:Nat) (v:Int):ZSoundN np (zSl j v):=fun s k r h=>by
  unfold zSl at h
  split at h
  · rename_i n c hm
    obtain ⟨hp,h⟩:=gate_some h
    subst hp
    have e:s.slots.set j (.x (.int .u64 n),c)=s.slots:=by
      obtain ⟨hl,he⟩:=List.getElem?_eq_some_iff.1 hm
      rw [← he]
      exact List.set_getElem_self hl
    rw [e] at h
    exact ⟨s,h,SubN.refl s⟩
  · cases h
end Go.Gv
namespace Go.Proofs.YtefphimaggjihaaGreatDoor.Pi
open Go.Shelf Go.RowKit Go.Gv
def gFb:List AV→AV
  | [.f w]=>.x (.int .u64 (w:Int))
  | _=>.any
def cFb (nn:Nat→Bool):List AV→Bool
  | [.f w]=>nn w
  | _=>false
def gFf (ff:Int→Nat):List AV→AV
  | [.x (.int .u64 n)]=>.f (ff n)
  | _=>.any
def cFf:List AV→Bool
  | [.x (.int .u64 _)]=>true
  | _=>false
def kFb (nn:Nat→Bool):KEntry:=kIf 197 (cFb nn) gFb
def kFf (ff:Int→Nat):KEntry:=kIf 198 cFf (gFf ff)
def uB (op:BitVec 64→BitVec 64→BitVec 64) (x y:Int):Int:=IntKind.u64.wrap ((op (BitVec.ofInt 64 x) (BitVec.ofInt 64 y)).toNat:Nat)
def uAnd (x y:Int):Int:=uB (fun a b=>a &&& b) x y
def uOr (x y:Int):Int:=uB (fun a b=>a ||| b) x y
def uAn (x y:Int):Int:=uB (fun a b=>a &&& ~~~b) x y
section
variable (w:Nat) (ff:Int→Nat) (nn:Nat→Bool)
def rE (w:Nat):Int:=uAnd ((w:Int).fdiv (2 ^ 52)) 2047
noncomputable def rG (e c1 c2:Int):Option Out:=cond (nn w) (cond (decide (rE w < 1023)) (cond (rE w==1022) (some (Out.of (.f (ff (uOr (uAnd w 9223372036854775808) 4607182418800017408))))) (some (Out.of (.f (ff (uAnd w 9223372036854775808))))))
   (cond (decide (rE w < 1075)) (gate (IntKind.u64.wrap (rE w - 1023)=e) (some (Out.of (.f (ff (uAn (IntKind.u64.wrap ((w:Int)+c1)) c2))))))
     (some (Out.of (.f (ff (w:Int))))))) none
theorem rd0:evZ Tryz.prog [] [kFb nn,kFf ff] [] noL (oneZ 9 (zSl 4 0)) Tryz.f171 [.f w] ret=rG w ff nn 0 2251799813685248 4503599627370495:=by kernel_rfl
theorem rd1:evZ Tryz.prog [] [kFb nn,kFf ff] [] noL (oneZ 9 (zSl 4 1)) Tryz.f171 [.f w] ret=rG w ff nn 1 1125899906842624 2251799813685247:=by kernel_rfl
theorem rd2:evZ Tryz.prog [] [kFb nn,kFf ff] [] noL (oneZ 9 (zSl 4 2)) Tryz.f171 [.f w] ret=rG w ff nn 2 562949953421312 1125899906842623:=by kernel_rfl
theorem rd3:evZ Tryz.prog [] [kFb nn,kFf ff] [] noL (oneZ 9 (zSl 4 3)) Tryz.f171 [.f w] ret=rG w ff nn 3 281474976710656 562949953421311:=by kernel_rfl
theorem rd4:evZ Tryz.prog [] [kFb nn,kFf ff] [] noL (oneZ 9 (zSl 4 4)) Tryz.f171 [.f w] ret=rG w ff nn 4 140737488355328 281474976710655:=by kernel_rfl
theorem rd5:evZ Tryz.prog [] [kFb nn,kFf ff] [] noL (oneZ 9 (zSl 4 5)) Tryz.f171 [.f w] ret=rG w ff nn 5 70368744177664 140737488355327:=by kernel_rfl
theorem rd6:evZ Tryz.prog [] [kFb nn,kFf ff] [] noL (oneZ 9 (zSl 4 6)) Tryz.f171 [.f w] ret=rG w ff nn 6 35184372088832 70368744177663:=by kernel_rfl
theorem rd7:evZ Tryz.prog [] [kFb nn,kFf ff] [] noL (oneZ 9 (zSl 4 7)) Tryz.f171 [.f w] ret=rG w ff nn 7 17592186044416 35184372088831:=by kernel_rfl
theorem rd8:evZ Tryz.prog [] [kFb nn,kFf ff] [] noL (oneZ 9 (zSl 4 8)) Tryz.f171 [.f w] ret=rG w ff nn 8 8796093022208 17592186044415:=by kernel_rfl
theorem rd9:evZ Tryz.prog [] [kFb nn,kFf ff] [] noL (oneZ 9 (zSl 4 9)) Tryz.f171 [.f w] ret=rG w ff nn 9 4398046511104 8796093022207:=by kernel_rfl
theorem rd10:evZ Tryz.prog [] [kFb nn,kFf ff] [] noL (oneZ 9 (zSl 4 10)) Tryz.f171 [.f w] ret=rG w ff nn 10 2199023255552 4398046511103:=by kernel_rfl
theorem rd11:evZ Tryz.prog [] [kFb nn,kFf ff] [] noL (oneZ 9 (zSl 4 11)) Tryz.f171 [.f w] ret=rG w ff nn 11 1099511627776 2199023255551:=by kernel_rfl
theorem rd12:evZ Tryz.prog [] [kFb nn,kFf ff] [] noL (oneZ 9 (zSl 4 12)) Tryz.f171 [.f w] ret=rG w ff nn 12 549755813888 1099511627775:=by kernel_rfl
theorem rd13:evZ Tryz.prog [] [kFb nn,kFf ff] [] noL (oneZ 9 (zSl 4 13)) Tryz.f171 [.f w] ret=rG w ff nn 13 274877906944 549755813887:=by kernel_rfl
theorem rd14:evZ Tryz.prog [] [kFb nn,kFf ff] [] noL (oneZ 9 (zSl 4 14)) Tryz.f171 [.f w] ret=rG w ff nn 14 137438953472 274877906943:=by kernel_rfl
theorem rd15:evZ Tryz.prog [] [kFb nn,kFf ff] [] noL (oneZ 9 (zSl 4 15)) Tryz.f171 [.f w] ret=rG w ff nn 15 68719476736 137438953471:=by kernel_rfl
theorem rd16:evZ Tryz.prog [] [kFb nn,kFf ff] [] noL (oneZ 9 (zSl 4 16)) Tryz.f171 [.f w] ret=rG w ff nn 16 34359738368 68719476735:=by kernel_rfl
theorem rd17:evZ Tryz.prog [] [kFb nn,kFf ff] [] noL (oneZ 9 (zSl 4 17)) Tryz.f171 [.f w] ret=rG w ff nn 17 17179869184 34359738367:=by kernel_rfl
theorem rd18:evZ Tryz.prog [] [kFb nn,kFf ff] [] noL (oneZ 9 (zSl 4 18)) Tryz.f171 [.f w] ret=rG w ff nn 18 8589934592 17179869183:=by kernel_rfl
theorem rd19:evZ Tryz.prog [] [kFb nn,kFf ff] [] noL (oneZ 9 (zSl 4 19)) Tryz.f171 [.f w] ret=rG w ff nn 19 4294967296 8589934591:=by kernel_rfl
theorem rd20:evZ Tryz.prog [] [kFb nn,kFf ff] [] noL (oneZ 9 (zSl 4 20)) Tryz.f171 [.f w] ret=rG w ff nn 20 2147483648 4294967295:=by kernel_rfl
theorem rd21:evZ Tryz.prog [] [kFb nn,kFf ff] [] noL (oneZ 9 (zSl 4 21)) Tryz.f171 [.f w] ret=rG w ff nn 21 1073741824 2147483647:=by kernel_rfl
theorem rd22:evZ Tryz.prog [] [kFb nn,kFf ff] [] noL (oneZ 9 (zSl 4 22)) Tryz.f171 [.f w] ret=rG w ff nn 22 536870912 1073741823:=by kernel_rfl
theorem rd23:evZ Tryz.prog [] [kFb nn,kFf ff] [] noL (oneZ 9 (zSl 4 23)) Tryz.f171 [.f w] ret=rG w ff nn 23 268435456 536870911:=by kernel_rfl
theorem rd24:evZ Tryz.prog [] [kFb nn,kFf ff] [] noL (oneZ 9 (zSl 4 24)) Tryz.f171 [.f w] ret=rG w ff nn 24 134217728 268435455:=by kernel_rfl
theorem rd25:evZ Tryz.prog [] [kFb nn,kFf ff] [] noL (oneZ 9 (zSl 4 25)) Tryz.f171 [.f w] ret=rG w ff nn 25 67108864 134217727:=by kernel_rfl
theorem rd26:evZ Tryz.prog [] [kFb nn,kFf ff] [] noL (oneZ 9 (zSl 4 26)) Tryz.f171 [.f w] ret=rG w ff nn 26 33554432 67108863:=by kernel_rfl
theorem rd27:evZ Tryz.prog [] [kFb nn,kFf ff] [] noL (oneZ 9 (zSl 4 27)) Tryz.f171 [.f w] ret=rG w ff nn 27 16777216 33554431:=by kernel_rfl
theorem rd28:evZ Tryz.prog [] [kFb nn,kFf ff] [] noL (oneZ 9 (zSl 4 28)) Tryz.f171 [.f w] ret=rG w ff nn 28 8388608 16777215:=by kernel_rfl
theorem rd29:evZ Tryz.prog [] [kFb nn,kFf ff] [] noL (oneZ 9 (zSl 4 29)) Tryz.f171 [.f w] ret=rG w ff nn 29 4194304 8388607:=by kernel_rfl
theorem rd30:evZ Tryz.prog [] [kFb nn,kFf ff] [] noL (oneZ 9 (zSl 4 30)) Tryz.f171 [.f w] ret=rG w ff nn 30 2097152 4194303:=by kernel_rfl
theorem rd31:evZ Tryz.prog [] [kFb nn,kFf ff] [] noL (oneZ 9 (zSl 4 31)) Tryz.f171 [.f w] ret=rG w ff nn 31 1048576 2097151:=by kernel_rfl
theorem rd_all:∀ k:Nat,k < 32→evZ Tryz.prog [] [kFb nn,kFf ff] [] noL (oneZ 9 (zSl 4 (k:Nat))) Tryz.f171 [.f w] ret=rG w ff nn (k:Nat) ((2 ^ (51 - k):Nat):Int) ((2 ^ (52 - k) - 1:Nat):Int):=fun k hk=>by
  match k,hk with
  | 0,_=>exact rd0 w ff nn
  | 1,_=>exact rd1 w ff nn
  | 2,_=>exact rd2 w ff nn
  | 3,_=>exact rd3 w ff nn
  | 4,_=>exact rd4 w ff nn
  | 5,_=>exact rd5 w ff nn
  | 6,_=>exact rd6 w ff nn
  | 7,_=>exact rd7 w ff nn
  | 8,_=>exact rd8 w ff nn
  | 9,_=>exact rd9 w ff nn
  | 10,_=>exact rd10 w ff nn
  | 11,_=>exact rd11 w ff nn
  | 12,_=>exact rd12 w ff nn
  | 13,_=>exact rd13 w ff nn
  | 14,_=>exact rd14 w ff nn
  | 15,_=>exact rd15 w ff nn
  | 16,_=>exact rd16 w ff nn
  | 17,_=>exact rd17 w ff nn
  | 18,_=>exact rd18 w ff nn
  | 19,_=>exact rd19 w ff nn
  | 20,_=>exact rd20 w ff nn
  | 21,_=>exact rd21 w ff nn
  | 22,_=>exact rd22 w ff nn
  | 23,_=>exact rd23 w ff nn
  | 24,_=>exact rd24 w ff nn
  | 25,_=>exact rd25 w ff nn
  | 26,_=>exact rd26 w ff nn
  | 27,_=>exact rd27 w ff nn
  | 28,_=>exact rd28 w ff nn
  | 29,_=>exact rd29 w ff nn
  | 30,_=>exact rd30 w ff nn
  | 31,_=>exact rd31 w ff nn
  | n+32,h=>exact absurd h (by omega)
end
def bB (op:BitVec 64→BitVec 64→BitVec 64) (x y:Int):Int:=(((op (BitVec.ofInt 64 x) (BitVec.ofInt 64 y)).toNat:Nat):Int)
theorem wrapU {n:Int} (h0:0≤n) (h1:n < 18446744073709551616):IntKind.u64.wrap n=n:=by
  have e:IntKind.u64.wrap n=n % 18446744073709551616:=by
    unfold IntKind.wrap
    simp only [IntKind.bits,IntKind.signed,Bool.false_and]
    rfl
  rw [e]
  omega
theorem uB_eq (op:BitVec 64→BitVec 64→BitVec 64) (x y:Int):uB op x y=bB op x y:=by
  unfold uB bB
  exact wrapU (by omega) (by have:=(op (BitVec.ofInt 64 x) (BitVec.ofInt 64 y)).isLt; omega)
theorem bv_ofI {x:Nat} (h:x < 2 ^ 64):(BitVec.ofInt 64 (x:Int)).toNat=x:=by
  rw [BitVec.toNat_ofInt]
  omega
theorem and_mod {x:Nat} (h:x < 2 ^ 64):bB (fun a b=>a &&& b) (x:Int) 2047=((x % 2048:Nat):Int):=by
  unfold bB
  rw [BitVec.toNat_and,bv_ofI h,show (2047:Int)=((2047:Nat):Int) from rfl,bv_ofI (by decide)]
  congr 1
  exact Nat.and_two_pow_sub_one_eq_mod x 11
theorem and_top {x:Nat} (h:x < 2 ^ 64):bB (fun a b=>a &&& b) (x:Int) 9223372036854775808=((x / 9223372036854775808*9223372036854775808:Nat):Int):=by
  unfold bB
  rw [BitVec.toNat_and,bv_ofI h,show (9223372036854775808:Int)=((9223372036854775808:Nat):Int) from rfl,bv_ofI (by decide)]
  congr 1
  apply Nat.eq_of_testBit_eq
  intro i
  rw [show x / 9223372036854775808*9223372036854775808=(x >>> 63) <<< 63 by rw [Nat.shiftLeft_eq,Nat.shiftRight_eq_div_pow],Nat.testBit_shiftLeft,Nat.testBit_shiftRight,Nat.testBit_and,show (9223372036854775808:Nat)=2 ^ 63 from rfl,Nat.testBit_two_pow]
  by_cases hi:i < 63
  · simp [Nat.not_le.2 hi,show ¬ 63=i by omega]
  · by_cases h63:i=63
    · subst h63; simp
    · have:x.testBit i=false:=Nat.testBit_lt_two_pow (Nat.lt_of_lt_of_le h (Nat.pow_le_pow_right (by decide) (by omega)))
      rw [show 63+(i - 63)=i by omega,this]; simp
theorem an_low {x q:Nat} (h:x < 2 ^ 64) (hq:q≤52):bB (fun a b=>a &&& ~~~b) (x:Int) ((2 ^ q - 1:Nat):Int)=((x / 2 ^ q*2 ^ q:Nat):Int):=by
  unfold bB
  congr 1
  have hp:2 ^ q≤2 ^ 52:=Nat.pow_le_pow_right (by decide) hq
  have h0:0 < 2 ^ q:=Nat.two_pow_pos q
  apply Nat.eq_of_testBit_eq
  intro i
  rw [show x / 2 ^ q*2 ^ q=(x >>> q) <<< q by rw [Nat.shiftLeft_eq,Nat.shiftRight_eq_div_pow],Nat.testBit_shiftLeft,Nat.testBit_shiftRight]
  rw [BitVec.toNat_and,Nat.testBit_and,bv_ofI h,BitVec.testBit_toNat,BitVec.getLsbD_not,← BitVec.testBit_toNat,bv_ofI (by omega),Nat.testBit_two_pow_sub_one]
  by_cases hi:i < q
  · simp [hi,Nat.not_le.2 hi]
  · rw [decide_eq_false hi,decide_eq_true (show i ≥ q by omega)]
    by_cases h64:i < 64
    · rw [decide_eq_true h64]; simp; congr 1; omega
    · have:x.testBit i=false:=Nat.testBit_lt_two_pow (Nat.lt_of_lt_of_le h (Nat.pow_le_pow_right (by decide) (by omega)))
      rw [show q+(i - q)=i by omega,this]; simp
def rndR (w:Nat):Nat:=if w / 2 ^ 52 % 2048 < 1023 then (if w / 2 ^ 52 % 2048=1022 then w / 9223372036854775808*9223372036854775808+4607182418800017408 else w / 9223372036854775808*9223372036854775808) else (w+2 ^ (1074 - w / 2 ^ 52 % 2048)) / 2 ^ (1075 - w / 2 ^ 52 % 2048)*2 ^ (1075 - w / 2 ^ 52 % 2048)
open Go.Ev (cn isNan)
def nnF (w:Nat):Bool:=!(isNan w)&&decide (w < 18446744073709551616)
theorem cn_back {b w:Nat} (h:cn b=w) (hn:isNan w=false):b=w:=by
  unfold cn at h
  cases hb:isNan b
  · rw [hb] at h; exact h
  · rw [hb] at h
    have h:Go.Ev.nanB=w:=h
    subst h
    exact absurd hn (by decide +kernel)
theorem fb_X {w:Nat} (hn:isNan w=false):XSpec Tryz.prog 197 [.f w] (.x (.int .u64 (w:Int))):=fun E cargs hv=>by
  obtain ⟨l⟩:=cargs
  obtain ⟨v,t,e1,h1,h2⟩:=rels_cons.1 hv
  have e2:=rels_nil.1 h2
  obtain ⟨b,rfl,hb⟩:=rel_f.1 h1
  obtain rfl:=cn_back hb hn
  have e3:l=[.float .f64 b]:=by rw [e2] at e1; exact e1
  subst e3
  refine ⟨.int .u64 b,E.w,?_,Or.inl rfl,rel_x.2 rfl⟩
  rw [run_callFunc_extern Tryz.func197 (by kernel_rfl) rfl (by kernel_rfl) (e:=Extern.MathFloatBits.float64bits) (by kernel_rfl)]
  rfl
theorem ff_X (n:Int):XSpec Tryz.prog 198 [.x (.int .u64 n)] (.f (cn n.toNat)):=fun E cargs hv=>by
  obtain ⟨l⟩:=cargs
  obtain ⟨v,t,e1,h1,h2⟩:=rels_cons.1 hv
  have e2:=rels_nil.1 h2
  have e0:=rel_x.1 h1
  subst e0
  have e3:l=[.int .u64 n]:=by rw [e2] at e1; exact e1
  subst e3
  refine ⟨.float .f64 n.toNat,E.w,?_,Or.inl rfl,rel_f.2 ⟨_,rfl,rfl⟩⟩
  rw [run_callFunc_extern Tryz.func198 (by kernel_rfl) rfl (by kernel_rfl) (e:=Extern.MathFloatBits.float64frombits) (by kernel_rfl)]
  rfl
theorem kIf_X {P:Program} {f:Nat} {c:List AV→Bool} {g:List AV→AV} (h:∀ args,c args=true→XSpec P f args (g args)):KOk P (kIf f c g):=by
  constructor
  · intro args k o ho
    simp only [kIf] at ho ⊢
    cases hc:c args
    · rw [hc] at ho; cases ho
    · rw [hc] at ho
      exact ⟨g args,ho,fun k'=>rfl⟩
  · intro args v hv
    have h1:=hv fun x=>some (Out.of x)
    simp only [kIf] at h1
    cases hc:c args
    · rw [hc] at h1; cases h1
    · rw [hc] at h1
      simp only [cond_true,Option.some.injEq,Out.of,Out.mk.injEq,true_and] at h1
      subst h1
      exact Or.inr (h args hc)
theorem kFb_ok:KOk Tryz.prog (kFb nnF):=kIf_X fun args h=>by
  unfold cFb at h
  split at h
  · unfold nnF at h
    simp only [Bool.and_eq_true,Bool.not_eq_true'] at h
    exact fb_X h.1
  · cases h
theorem kFf_ok:KOk Tryz.prog (kFf fun n=>cn n.toNat):=kIf_X fun args h=>by
  unfold cFf at h
  split at h
  · exact ff_X _
  · cases h
theorem gspecZ {l : List Entry} {ks : List KEntry} {ms : List MEntry} {L : Nat → Option LFun} {Z : Nat → Option ZFun} (hZ : ∀ i h, Z i = some h → ZSoundN 0 h) (hl : ∀ e, e ∈ l → EOk Tryz.prog e) (hks : ∀ e, e ∈ ks → KOk Tryz.prog e) (hms : ∀ e, e ∈ ms → MEOk Tryz.prog e) {f : Nat} {fn : Func} (hf : Tryz.prog.funcs[f]? = some fn) (hnm : (fn.name == "runtime.NumGoroutine") = false) (hb : fn.body = some (bodyOf fn)) (hL : LOk Tryz.prog L (bodyOf fn))
    {args:List AV} (hlen:Nat.ble args.length fn.ntmps=true) {r:AV} (h:evZ Tryz.prog l ks ms L Z fn args ret=some (Out.of r)):FSpec Tryz.prog f args r:=spec_of_bodyZ hZ (tabM_ok hl hks hms) (drawnK_ok (tabM_ok hl hks hms) (by kernel_rfl)) 40 hf hnm hb hL hlen h
theorem rE_eq {w:Nat} (hw:w < 18446744073709551616):rE w=((w / 2 ^ 52 % 2048:Nat):Int):=by
  unfold rE uAnd
  have e:(w:Int).fdiv (2 ^ 52)=((w / 2 ^ 52:Nat):Int):=by
    rw [Int.fdiv_eq_ediv_of_nonneg _ (by decide)]
    rfl
  rw [e,uB_eq]
  exact and_mod (by omega)
theorem round_spec {w:Nat} (hw:w < 18446744073709551616) (hn:isNan w=false) (hE:w / 2 ^ 52 % 2048 < 1055):FSpec Tryz.prog 171 [.f w] (.f (cn (rndR w))):=by
  have hnn:nnF w=true:=by unfold nnF; rw [hn,decide_eq_true hw]; rfl
  have hr:=rE_eq hw
  by_cases h1:w / 2 ^ 52 % 2048 < 1023
  · refine gspecZ (oneZ_ok (zSl_ok 4 ((0:Nat):Int))) e_nil (k_cons kFb_ok (k_cons kFf_ok k_nil)) m_nil Tryz.func171 (by kernel_rfl) (by kernel_rfl) noL_ok rfl ((rd_all w (fun n=>cn n.toNat) nnF 0 (by omega)).trans ?_)
    unfold rG rndR
    have ht:uAnd (w:Int) 9223372036854775808=((w / 9223372036854775808*9223372036854775808:Nat):Int):=by unfold uAnd; rw [uB_eq]; exact and_top (by omega)
    rw [hnn,hr,decide_eq_true (by omega),if_pos h1,ht]
    by_cases h2:w / 2 ^ 52 % 2048=1022
    · rw [h2,if_pos rfl]
      have ho:uOr ((w / 9223372036854775808*9223372036854775808:Nat):Int) 4607182418800017408=((w / 9223372036854775808*9223372036854775808+4607182418800017408:Nat):Int):=by
        have:w / 9223372036854775808=0∨w / 9223372036854775808=1:=by omega
        rcases this with h | h<;>rw [h]<;>rfl
      rw [ho]
      rfl
    · rw [if_neg h2,beq_false_of_ne (by omega)]
      rfl
  · obtain ⟨k,hk⟩:∃ k,w / 2 ^ 52 % 2048=1023+k:=⟨w / 2 ^ 52 % 2048 - 1023,by omega⟩
    refine gspecZ (oneZ_ok (zSl_ok 4 ((k:Nat):Int))) e_nil (k_cons kFb_ok (k_cons kFf_ok k_nil)) m_nil Tryz.func171 (by kernel_rfl) (by kernel_rfl) noL_ok rfl ((rd_all w (fun n=>cn n.toNat) nnF k (by omega)).trans ?_)
    unfold rG rndR
    have h0:0 < 2 ^ (51 - k):=Nat.two_pow_pos _
    have hp:2 ^ (51 - k)≤2 ^ 51:=Nat.pow_le_pow_right (by decide) (by omega)
    have hw2:w < 2 ^ 63+2047*2 ^ 52:=by
      have h3:w / 2 ^ 52 % 2048≤1054:=by omega
      omega
    have hs:IntKind.u64.wrap ((w:Int)+((2 ^ (51 - k):Nat):Int))=((w+2 ^ (51 - k):Nat):Int):=by
      generalize 2 ^ (51 - k)=d at h0 hp ⊢
      rw [wrapU (by omega) (by omega)]; omega
    have ha:uAn ((w+2 ^ (51 - k):Nat):Int) ((2 ^ (52 - k) - 1:Nat):Int)=(((w+2 ^ (51 - k)) / 2 ^ (52 - k)*2 ^ (52 - k):Nat):Int):=by unfold uAn; rw [uB_eq]; exact an_low (by omega) (by omega)
    rw [hnn,hr,hk,decide_eq_false (by omega),decide_eq_true (by omega),if_neg (by omega),gate_pos (by rw [wrapU (by omega) (by omega)]; omega),hs,ha,show 1074 - (1023+k)=51 - k by omega,show 1075 - (1023+k)=52 - k by omega]
    rfl
end Go.Proofs.YtefphimaggjihaaGreatDoor.Pi

namespace Go.Proofs.YtefphimaggjihaaGreatDoor.Hs
open Go.Gv
open Go.Ev (cn fadd fsub fmul fdiv fsqrt fneg feq flt fle fgt fge fabs)

def k1000:Nat:=4652007308841189376
def mth (n:Int):Nat:=fdiv (cn (FloatKind.f64.nearest n)) k1000
section
variable (n:Nat) (hs:Nat→Int) (pf:Int→Int→Int) (tf:Int→Nat) (rf:Int→Int) (k fr mo c:Int)
end
section
variable (n:Nat) (hs:Nat→Int) (rf:Int→Int) (mf:Int→Int→Nat) (fr mo:Int)
end
section
variable (n:Nat) (hs:Nat→Int) (pf:Int→Int→Int) (tf:Int→Nat) (rf:Int→Int) (vf:Int→Int→Nat→Nat)
end
section
variable (n:Nat) (hs:Nat→Int) (pf:Int→Int→Int) (tf:Int→Nat) (rf:Int→Int) (vf:Int→Int→Nat→Nat) (x y w:Nat)
def z3:Nat→Nat:=fun _=>0
end
end Go.Proofs.YtefphimaggjihaaGreatDoor.Hs

namespace Go.Proofs.YtefphimaggjihaaGreatDoor.Hs.So
open Go.Gv
open Go.Ev (cn fadd fsub fmul fdiv fsqrt fneg feq flt fle fgt fge fabs isNan)

end Go.Proofs.YtefphimaggjihaaGreatDoor.Hs.So

namespace Go.Proofs.YtefphimaggjihaaGreatDoor.Hs.So
open Go.Gv
open Go.Ev (cn fadd fsub fmul fdiv fsqrt fneg feq flt fle fgt fge fabs)

section
variable (n:Nat) (hs:Nat→Int) (pf:Int→Int→Int) (tf:Int→Nat) (rf:Int→Int) (vf:Int→Int→Nat→Nat) (x y w:Nat) (fr:Int)
def xK:Int:=w64 (1+pf (rf fr) 6)
def xR:Nat:=tf (w64 (1+pf (rf (w64 (fr+8))) 2500))
def xA (B C:Nat→Nat) (R Q:Nat):List AV:=[iA (xK pf rf fr),.f (vf (w64 (fr+1)) 4000 0),.f (vf (w64 (fr+1)) 4000 1),.f (vf (w64 (fr+1)) 4000 2),.f (B 0),.f (B 1),.f (B 2),.f (C 0),.f (C 1),.f (C 2),.f R,.f Q,iA (pf (rf (w64 (fr+7))) 1)]
def xO (B C:Nat→Nat) (R Q:Nat):Option Out:=some (Out.of (.agg (xA pf rf vf fr B C R Q)))
def x4:Option Out:=cond (noughtB (vf (w64 (fr+4)) 3000 0) (vf (w64 (fr+4)) 3000 1) (vf (w64 (fr+4)) 3000 2)) (xO pf rf vf fr (ls [0,one,0]) z3 (xR pf tf rf fr) 0) (xO pf rf vf fr (vf (w64 (fr+4)) 3000) z3 (xR pf tf rf fr) 0)
end
end Go.Proofs.YtefphimaggjihaaGreatDoor.Hs.So

namespace Go.Ev
open Ieee

theorem sum_comm (d e:Datum):d.sum e=e.sum d:=by
  cases d<;>cases e<;>simp only [Datum.sum]
  · rename_i s m i t n j
    rw [Int.min_comm i j,Int.add_comm,Bool.and_comm]
  · rename_i s t
    by_cases h:s=t
    · subst h; rfl
    · rw [if_neg h,if_neg (Ne.symm h)]
theorem product_comm (d e:Datum):d.product e=e.product d:=by
  cases d<;>cases e<;>simp only [Datum.product]
  · rename_i s m i t n j
    rw [Nat.mul_comm,Int.add_comm,Bool.xor_comm]
  · rename_i s t; rw [Bool.xor_comm]
theorem leastP:double.leastPlace=-1074:=by decide +kernel
theorem fracB:(double.fractionBits:Int)=52:=rfl
theorem log2_shl {m:Nat} (k:Nat) (hm:m≠0):(m <<< k).log2=m.log2+k:=by
  have hp:0 < 2 ^ k:=Nat.two_pow_pos k
  have hne:m <<< k≠0:=by rw [Nat.shiftLeft_eq]; exact Nat.mul_ne_zero hm (Nat.pos_iff_ne_zero.1 hp)
  rw [Nat.log2_eq_iff hne,Nat.shiftLeft_eq]
  refine ⟨by rw [Nat.pow_add]; exact Nat.mul_le_mul_right _ (Nat.log2_self_le hm),?_⟩
  rw [show m.log2+k+1=m.log2+1+k by omega,Nat.pow_add]
  exact Nat.mul_lt_mul_of_pos_right Nat.lt_log2_self hp

theorem nearest_zero (s:Bool) (p:Int):double.nearest s 0 p=double.word s 0:=by simp [Format.nearest]

end Go.Ev

namespace Go.Ev
open Ieee

/-- 'a / g' to the nearest whole number, between two to the even one. -/
def rnd (a g:Nat):Nat:=a / g+(decide (g < 2*(a % g))||(g==2*(a % g)&&a / g % 2==1)).toNat

theorem rnd_small {a g:Nat} (h:2*a < g):rnd a g=0:=by
  have h1:a / g=0:=Nat.div_eq_of_lt (by omega)
  have h2:a % g=a:=Nat.mod_eq_of_lt (by omega)
  have h3:decide (g < 2*a)=false:=decide_eq_false (by omega)
  have h4:(g==2*a)=false:=by simp; omega
  unfold rnd
  rw [h1,h2,h3,h4]; rfl

theorem toNat_le_one (b:Bool):b.toNat≤1:=by cases b<;>decide
theorem rnd_le (a g:Nat):rnd a g≤a / g+1:=Nat.add_le_add_left (toNat_le_one _) _
theorem le_rnd (a g:Nat):a / g≤rnd a g:=Nat.le_add_right _ _

theorem rnd_mono {a b g:Nat} (h:a≤b):rnd a g≤rnd b g:=by
  have hd:a / g≤b / g:=Nat.div_le_div_right h
  rcases Nat.eq_or_lt_of_le hd with e | e
  · have h1:=Nat.div_add_mod a g
    have h2:=Nat.div_add_mod b g
    have hm:a % g≤b % g:=by rw [e] at h1; omega
    unfold rnd
    rw [e]
    refine Nat.add_le_add_left ?_ _
    cases hx:(decide (g < 2*(a % g))||(g==2*(a % g)&&b / g % 2==1))
    · exact Nat.zero_le _
    · have:(decide (g < 2*(b % g))||(g==2*(b % g)&&b / g % 2==1))=true:=by
        simp only [Bool.or_eq_true,Bool.and_eq_true,decide_eq_true_eq,beq_iff_eq] at hx ⊢
        omega
      rw [this]; exact Nat.le_refl _
  · exact Nat.le_trans (rnd_le a g) (Nat.le_trans e (le_rnd b g))

theorem rnd_mul (a g:Nat) {c:Nat} (hc:0 < c):rnd (a*c) (g*c)=rnd a g:=by
  unfold rnd
  rw [Nat.mul_div_mul_right _ _ hc,Nat.mul_mod_mul_right]
  have h1:decide (g*c < 2*(a % g*c))=decide (g < 2*(a % g)):=by
    rw [← Nat.mul_assoc]
    exact decide_eq_decide.2 (Nat.mul_lt_mul_right hc)
  have h2:(g*c==2*(a % g*c))=(g==2*(a % g)):=by
    rw [← Nat.mul_assoc,Bool.eq_iff_iff,beq_iff_eq,beq_iff_eq]
    exact Nat.mul_left_inj (by omega)
  rw [h1,h2]

theorem cut_rnd (s:Bool) (n d:Nat):Toward.even.cut s n d=rnd n (2 ^ d):=by
  have hn:n < 2 ^ (n.log2+1):=Nat.lt_log2_self
  by_cases h:d≤n.log2+2
  · unfold Toward.cut rnd
    rw [Nat.min_eq_left h,Nat.one_shiftLeft]
  · have hL:2*n < 2 ^ (n.log2+2):=by rw [Nat.pow_succ]; omega
    have hd:2*n < 2 ^ d:=Nat.lt_of_lt_of_le hL (Nat.pow_le_pow_right (by decide) (by omega))
    rw [rnd_small hd]
    have:=rnd_small hL
    unfold rnd at this
    unfold Toward.cut
    rw [Nat.min_eq_right (by omega),Nat.one_shiftLeft]
    exact this

/-- The rung of 'a / g' units, uncapped: 'b' bits of fraction. -/
def rq (b a g:Nat):Nat:=((a / g).log2 - b)*2 ^ b+rnd a (g*2 ^ ((a / g).log2 - b))

theorem rq_mul (b a g:Nat) {c:Nat} (hc:0 < c):rq b (a*c) (g*c)=rq b a g:=by
  unfold rq
  rw [Nat.mul_div_mul_right _ _ hc,Nat.mul_right_comm,rnd_mul _ _ hc]

theorem rq_mono1 (b:Nat) {a c g:Nat} (h:a≤c):rq b a g≤rq b c g:=by
  have hd:a / g≤c / g:=Nat.div_le_div_right h
  have hl:(a / g).log2≤(c / g).log2:=by
    by_cases h0:a / g=0
    · rw [h0]; simp
    · exact (Nat.le_log2 (fun hc=>h0 (Nat.le_zero.1 (hc ▸ hd)))).2 (Nat.le_trans (Nat.log2_self_le h0) hd)
  unfold rq
  have hl2:(a / g).log2 - b≤(c / g).log2 - b:=by omega
  rcases Nat.eq_or_lt_of_le hl2 with e | e
  · rw [e]
    exact Nat.add_le_add_left (rnd_mono h) _
  · -- the lower one is at most the next binade's first
    have h1:rnd a (g*2 ^ ((a / g).log2 - b))≤2 ^ (b+1):=by
      refine Nat.le_trans (rnd_le _ _) ?_
      rw [← Nat.div_div_eq_div_mul]
      have:a / g < 2 ^ ((a / g).log2+1):=Nat.lt_log2_self
      have h2:a / g / 2 ^ ((a / g).log2 - b) < 2 ^ (b+1):=by
        rw [Nat.div_lt_iff_lt_mul (Nat.two_pow_pos _),← Nat.pow_add]
        exact Nat.lt_of_lt_of_le this (Nat.pow_le_pow_right (by decide) (by omega))
      omega
    have h2:2 ^ b≤rnd c (g*2 ^ ((c / g).log2 - b)):=by
      refine Nat.le_trans ?_ (le_rnd _ _)
      rw [← Nat.div_div_eq_div_mul,Nat.le_div_iff_mul_le (Nat.two_pow_pos _),← Nat.pow_add]
      have h0:c / g≠0:=by
        intro h0; rw [h0] at e; simp at e
      refine Nat.le_trans (Nat.pow_le_pow_right (by decide) (by omega)) (Nat.log2_self_le h0)
    have h3:=Nat.mul_le_mul_right (2 ^ b) e
    rw [Nat.succ_mul] at h3
    rw [Nat.pow_succ] at h1
    omega

theorem rq_zero (b:Nat) {g:Nat} (hg:0 < g):rq b 0 g=0:=by
  unfold rq
  rw [Nat.zero_div,Nat.log2_zero,Nat.zero_sub,Nat.zero_mul,Nat.zero_add]
  exact rnd_small (by rw [Nat.mul_zero]; exact Nat.mul_pos hg (Nat.two_pow_pos _))
end Go.Ev

namespace Go.Ev
open Ieee

theorem log2_half (n:Nat):(n / 2).log2=n.log2 - 1:=by
  rw [Nat.log2_def n]
  by_cases h:n ≥ 2
  · rw [if_pos h]; simp
  · rw [if_neg h]
    have:n / 2=0:=by omega
    rw [this]; simp
theorem log2_div (n:Nat):∀ v,(n / 2 ^ v).log2=n.log2 - v
  | 0=>by simp
  | v+1=>by rw [Nat.pow_succ,← Nat.div_div_eq_div_mul,log2_half,log2_div n v]; omega

theorem nearest_rq0 (s:Bool) (m u:Nat) (p:Int) (hp:p=u - 1074):double.nearest s m p=double.word s (min (rq 52 (m*2 ^ u) 1) double.infRung):=by
  by_cases hm:m=0
  · subst hm; rw [nearest_zero,Nat.zero_mul,rq_zero 52 (by decide),Nat.zero_min]
  · have hl:(m*2 ^ u / 1).log2=m.log2+u:=by rw [Nat.div_one,← Nat.shiftLeft_eq,log2_shl u hm]
    have e1:(max (p+m.log2 - (double.fractionBits:Int)) double.leastPlace - double.leastPlace).toNat=m.log2+u - 52:=by rw [leastP,fracB]; omega
    have e2:(p - max (p+m.log2 - (double.fractionBits:Int)) double.leastPlace).toNat=u - (m.log2+u - 52):=by rw [leastP,fracB]; omega
    have e3:(max (p+m.log2 - (double.fractionBits:Int)) double.leastPlace - p).toNat=(m.log2+u - 52) - u:=by rw [leastP,fracB]; omega
    unfold Format.nearest rq
    rw [if_neg hm,hl]
    simp only [e1,e2,e3]
    generalize m.log2+u - 52=l
    rw [cut_rnd,Nat.shiftLeft_eq,Nat.one_mul]
    have:rnd (m*2 ^ (u - l)) (2 ^ (l - u))=rnd (m*2 ^ u) (2 ^ l):=by
      rw [← rnd_mul _ _ (Nat.two_pow_pos (min u l)),Nat.mul_assoc,← Nat.pow_add,← Nat.pow_add]
      congr 3<;>omega
    rw [this]
    rfl

theorem nearest_rq1 (s:Bool) (m v:Nat) (p:Int) (hp:p=-1074 - v):double.nearest s m p=double.word s (min (rq 52 m (2 ^ v)) double.infRung):=by
  by_cases hm:m=0
  · subst hm; rw [nearest_zero,rq_zero 52 (Nat.two_pow_pos _),Nat.zero_min]
  · have e1:(max (p+m.log2 - (double.fractionBits:Int)) double.leastPlace - double.leastPlace).toNat=m.log2 - v - 52:=by rw [leastP,fracB]; omega
    have e2:(p - max (p+m.log2 - (double.fractionBits:Int)) double.leastPlace).toNat=0:=by rw [leastP,fracB]; omega
    have e3:(max (p+m.log2 - (double.fractionBits:Int)) double.leastPlace - p).toNat=v+(m.log2 - v - 52):=by rw [leastP,fracB]; omega
    unfold Format.nearest rq
    rw [if_neg hm,log2_div]
    simp only [e1,e2,e3]
    rw [cut_rnd,Nat.shiftLeft_eq,Nat.pow_zero,Nat.mul_one,Nat.pow_add]
    rfl

/-- What is written of 'm * 2 ^ p', with 'p + 1074 = u - v'. -/
theorem nearest_rq (s:Bool) (m u v:Nat) (p:Int) (hp:p+1074=u - v):double.nearest s m p=double.word s (min (rq 52 (m*2 ^ u) (2 ^ v)) double.infRung):=by
  by_cases h:v≤u
  · rw [nearest_rq0 s m (u - v) p (by omega)]
    have:=rq_mul 52 (m*2 ^ (u - v)) 1 (Nat.two_pow_pos v)
    rw [Nat.mul_assoc,← Nat.pow_add,Nat.one_mul,Nat.sub_add_cancel h] at this
    rw [this]
  · rw [nearest_rq1 s m (v - u) p (by omega)]
    have:=rq_mul 52 m (2 ^ (v - u)) (Nat.two_pow_pos u)
    rw [← Nat.pow_add,Nat.sub_add_cancel (by omega)] at this
    rw [this]

end Go.Ev

namespace Go.Ev
open Ieee

theorem signed_mul (s:Bool) (m k:Nat):signed s m k=signed s 1 0*((m:Int)*2 ^ k):=by
  cases s<;>simp [signed,Nat.shiftLeft_eq]

theorem signed_split (s:Bool) (m a b:Nat):signed s m (a+b)=signed s m a*2 ^ b:=by
  rw [signed_mul,signed_mul s m a,Int.mul_assoc,Int.mul_assoc,Int.pow_add]

end Go.Ev

namespace Go.Ev
open Ieee

/-- The magnitude of a rung, in the least units: 'b' bits of fraction. -/
def rv (b r:Nat):Nat:=if r < 2 ^ b then r else (2 ^ b+r % 2 ^ b)*2 ^ (r / 2 ^ b - 1)

theorem rv_step (b r:Nat):rv b r < rv b (r+1):=by
  have hN:0 < 2 ^ b:=Nat.two_pow_pos b
  unfold rv
  generalize 2 ^ b=N at hN
  by_cases h1:r+1 < N
  · rw [if_pos (by omega),if_pos h1]; omega
  · rw [if_neg h1]
    by_cases h2:r < N
    · rw [if_pos h2]
      have e:r+1=N:=by omega
      rw [e,Nat.mod_self,Nat.div_self hN,Nat.sub_self,Nat.pow_zero]; omega
    · rw [if_neg h2]
      have hd:=Nat.div_add_mod r N
      have hm:r % N < N:=Nat.mod_lt _ hN
      have hq:1≤r / N:=(Nat.le_div_iff_mul_le hN).2 (by omega)
      by_cases h3:r % N+1 < N
      · have e1:(r+1) / N=r / N:=by
          rw [Nat.div_eq_iff hN]
          have:r / N*N=N*(r / N):=Nat.mul_comm _ _
          omega
        have e2:(r+1) % N=r % N+1:=by
          have:=Nat.div_add_mod (r+1) N
          rw [e1] at this; omega
        rw [e1,e2]
        exact Nat.mul_lt_mul_of_pos_right (by omega) (Nat.two_pow_pos _)
      · have h4:r % N+1=N:=by omega
        have e0:r+1=N*(r / N+1):=by rw [Nat.mul_add]; omega
        have e1:(r+1) / N=r / N+1:=by rw [e0,Nat.mul_div_cancel_left _ hN]
        have e2:(r+1) % N=0:=by rw [e0,Nat.mul_mod_right]
        rw [e1,e2]
        obtain ⟨q,hq'⟩:∃ q,r / N=q+1:=⟨r / N - 1,by omega⟩
        rw [hq',Nat.add_sub_cancel,Nat.add_sub_cancel,Nat.pow_succ,Nat.add_zero,Nat.mul_comm (2 ^ q) 2,← Nat.mul_assoc]
        exact Nat.mul_lt_mul_of_pos_right (by omega) (Nat.two_pow_pos _)
theorem rv_lt (b:Nat) {r:Nat}:∀ {q:Nat},r < q→rv b r < rv b q
  | 0,h=>by omega
  | q+1,h=>by
    rcases Nat.eq_or_lt_of_le (Nat.lt_succ_iff.1 h) with e | e
    · rw [e]; exact rv_step b q
    · exact Nat.lt_trans (rv_lt b e) (rv_step b q)
theorem rv_lt_iff (b r q:Nat):rv b r < rv b q ↔ r < q:=by
  constructor
  · intro h
    rcases Nat.lt_trichotomy r q with e | e | e
    · exact e
    · rw [e] at h; omega
    · have:=rv_lt b e; omega
  · exact rv_lt b
theorem rv_zero (b:Nat):rv b 0=0:=by unfold rv; rw [if_pos (Nat.two_pow_pos b)]

theorem log2_mul_pow {m:Nat} (k:Nat) (hm:m≠0):(m*2 ^ k).log2=m.log2+k:=by rw [← Nat.shiftLeft_eq,log2_shl k hm]
theorem rnd_one (a:Nat):rnd a 1=a:=by
  unfold rnd
  rw [Nat.div_one,Nat.mod_one]; rfl
/-- Rounding what is a rung's gives that rung. -/
theorem rq_rv (b r:Nat):rq b (rv b r) 1=r:=by
  have hN:0 < 2 ^ b:=Nat.two_pow_pos b
  unfold rq rv
  rw [Nat.div_one]
  by_cases h:r < 2 ^ b
  · rw [if_pos h]
    have hl:r.log2 - b=0:=by
      by_cases h0:r=0
      · rw [h0]; simp
      · have:=(Nat.log2_lt h0).2 h; omega
    rw [hl,Nat.zero_mul,Nat.zero_add,Nat.pow_zero,rnd_one]
  · rw [if_neg h]
    have hm:r % 2 ^ b < 2 ^ b:=Nat.mod_lt _ hN
    have hd:=Nat.div_add_mod r (2 ^ b)
    have hq:1≤r / 2 ^ b:=(Nat.le_div_iff_mul_le hN).2 (by omega)
    have hl:((2 ^ b+r % 2 ^ b)*2 ^ (r / 2 ^ b - 1)).log2=b+(r / 2 ^ b - 1):=by
      rw [log2_mul_pow _ (by omega)]
      congr 1
      rw [Nat.log2_eq_iff (by omega),Nat.pow_succ]
      omega
    rw [hl,Nat.add_sub_cancel_left,rnd_mul _ 1 (Nat.two_pow_pos _),rnd_one]
    obtain ⟨q,hq'⟩:∃ q,r / 2 ^ b=q+1:=⟨r / 2 ^ b - 1,by omega⟩
    rw [hq',Nat.mul_add] at hd
    rw [hq',Nat.add_sub_cancel,Nat.mul_comm q]
    omega

def sgn (x:Nat):Bool:=x / 9223372036854775808 % 2==1
def rung (x:Nat):Nat:=x % 9223372036854775808
def key (x:Nat):Int:=cond (sgn x) (-(rung x:Int)) (rung x)
def isFin (x:Nat):Bool:=Nat.blt (rung x) 9218868437227405312
def val (x:Nat):Int:=cond (sgn x) (-(rv 52 (rung x):Int)) (rv 52 (rung x))

theorem isFin_lt {x:Nat} (h:isFin x=true):rung x < 9218868437227405312:=Nat.le_of_ble_eq_true h

theorem rv_low {r:Nat} (h:r < 4503599627370496):rv 52 r=r:=by unfold rv; rw [if_pos (show r < 2 ^ 52 from h)]
theorem rv_high {r:Nat} (h:¬ r < 4503599627370496):rv 52 r=(4503599627370496+r % 4503599627370496)*2 ^ (r / 4503599627370496 - 1):=by
  unfold rv; rw [if_neg (show ¬ r < 2 ^ 52 from h)]

theorem signed_val (s:Bool) (m k:Nat):signed s m k=cond s (-((m*2 ^ k:Nat):Int)) ((m*2 ^ k:Nat):Int):=by
  unfold signed; rw [Nat.shiftLeft_eq]; cases s<;>rfl

/-- What a word that is a number stands for. -/
theorem read_fin {x:Nat} (h:isFin x=true):∃ m i,double.read x=.number (sgn x) m i∧-1074≤i∧m < 9007199254740992∧rv 52 (rung x)=m*2 ^ (i+1074).toNat:=by
  have hl:=isFin_lt h
  unfold rung at hl ⊢
  unfold Format.read sgn
  simp only [signW,infR,binadeV,leastP]
  by_cases h1:x % 9223372036854775808 < 4503599627370496
  · rw [if_pos h1]
    refine ⟨_,_,rfl,by omega,by omega,?_⟩
    rw [rv_low h1,show (-1074+1074:Int).toNat=0 from rfl,Nat.pow_zero,Nat.mul_one]
  · rw [if_neg h1,if_pos hl]
    have:=Nat.mod_lt (x % 9223372036854775808) (show 0 < 4503599627370496 by decide)
    refine ⟨_,_,rfl,by omega,by omega,?_⟩
    rw [rv_high h1]
    congr 2
    omega
theorem read_inf {x:Nat} (h:rung x=9218868437227405312):double.read x=.infinity (sgn x):=by
  unfold rung at h
  unfold Format.read sgn
  simp only [signW,infR,binadeV,leastP,h]
  rfl
theorem fin_or_inf {x:Nat} (h:isNan x=false):isFin x=true∨rung x=9218868437227405312:=by
  cases hf:isFin x
  · right
    have h1:¬ rung x < 9218868437227405312:=fun hl=>by
      have:isFin x=true:=Nat.ble_eq_true_of_le hl
      rw [hf] at this; cases this
    unfold rung at h1 ⊢
    unfold isNan Format.read at h
    simp only [signW,infR,binadeV,leastP] at h
    rw [if_neg (by omega),if_neg h1] at h
    by_cases he:x % 9223372036854775808=9218868437227405312
    · exact he
    · rw [if_neg he] at h; simp [Datum.isNaN] at h
  · exact Or.inl rfl
theorem fin_not_nan {x:Nat} (h:isFin x=true):isNan x=false:=by
  obtain ⟨m,i,hr,_⟩:=read_fin h
  unfold isNan; rw [hr]; rfl

theorem cmp_congr {a b c d:Int} (h1:a < b ↔ c < d) (h2:a=b ↔ c=d):compare a b=compare c d:=by
  show compareOfLessAndEq a b=compareOfLessAndEq c d
  unfold compareOfLessAndEq
  simp only [h1,h2]
theorem order_val {x y:Nat} (hx:isFin x=true) (hy:isFin y=true):double.order x y=some (compare (val x) (val y)):=by
  obtain ⟨m,i,hrx,hi,_,hvx⟩:=read_fin hx
  obtain ⟨n,j,hry,hj,_,hvy⟩:=read_fin hy
  unfold Format.order
  rw [hrx,hry]
  simp only [Datum.order,Option.some.injEq]
  have e1:val x=signed (sgn x) m (i - min i j).toNat*2 ^ (min i j+1074).toNat:=by
    rw [← signed_split,show (i - min i j).toNat+(min i j+1074).toNat=(i+1074).toNat by omega,signed_val,← hvx]; rfl
  have e2:val y=signed (sgn y) n (j - min i j).toNat*2 ^ (min i j+1074).toNat:=by
    rw [← signed_split,show (j - min i j).toNat+(min i j+1074).toNat=(j+1074).toNat by omega,signed_val,← hvy]; rfl
  have hp:(0:Int) < 2 ^ (min i j+1074).toNat:=Int.pow_pos (by decide)
  rw [e1,e2]
  generalize (2:Int) ^ (min i j+1074).toNat=c at hp
  refine cmp_congr ?_ ?_
  · exact (Int.mul_lt_mul_right hp).symm
  · exact (Int.mul_eq_mul_right_iff (by omega)).symm
theorem val_lt {x y:Nat}:val x < val y ↔ key x < key y:=by
  unfold val key
  have a1:=rv_lt_iff 52 (rung x) (rung y)
  have a2:=rv_lt_iff 52 (rung y) (rung x)
  have a3:=rv_lt_iff 52 0 (rung x)
  have a4:=rv_lt_iff 52 0 (rung y)
  rw [rv_zero] at a3 a4
  cases sgn x<;>cases sgn y<;>simp only [cond_true,cond_false]<;>omega
theorem val_le {x y:Nat}:val x≤val y ↔ key x≤key y:=by
  have:=val_lt (x:=y) (y:=x); omega
theorem order_key {x y:Nat} (hx:isNan x=false) (hy:isNan y=false):double.order x y=some (compare (key x) (key y)):=by
  rcases fin_or_inf hx with fx | ix
  · rcases fin_or_inf hy with fy | iy
    · rw [order_val fx fy]
      have:=val_lt (x:=x) (y:=y)
      have:=val_lt (x:=y) (y:=x)
      exact congrArg some (cmp_congr (by omega) (by omega))
    · obtain ⟨m,i,hr,_⟩:=read_fin fx
      have hl:=isFin_lt fx
      unfold Format.order
      rw [hr,read_inf iy]
      simp only [Datum.order,Option.some.injEq]
      unfold key
      rw [iy]
      cases sgn y
      · exact (show compare _ _=compare (0:Int) 1 from cmp_congr (by cases sgn x<;>simp only [cond_true,cond_false]<;>omega) (by cases sgn x<;>simp only [cond_true,cond_false]<;>omega)).symm
      · exact (show compare _ _=compare (1:Int) 0 from cmp_congr (by cases sgn x<;>simp only [cond_true,cond_false]<;>omega) (by cases sgn x<;>simp only [cond_true,cond_false]<;>omega)).symm
  · rcases fin_or_inf hy with fy | iy
    · obtain ⟨m,i,hr,_⟩:=read_fin fy
      have hl:=isFin_lt fy
      unfold Format.order
      rw [hr,read_inf ix]
      simp only [Datum.order,Option.some.injEq]
      unfold key
      rw [ix]
      cases sgn x
      · exact (show compare _ _=compare (1:Int) 0 from cmp_congr (by cases sgn y<;>simp only [cond_true,cond_false]<;>omega) (by cases sgn y<;>simp only [cond_true,cond_false]<;>omega)).symm
      · exact (show compare _ _=compare (0:Int) 1 from cmp_congr (by cases sgn y<;>simp only [cond_true,cond_false]<;>omega) (by cases sgn y<;>simp only [cond_true,cond_false]<;>omega)).symm
    · unfold Format.order key
      rw [read_inf ix,read_inf iy,ix,iy]
      cases sgn x<;>cases sgn y<;>decide
end Go.Ev

namespace Go.Ev
open Ieee

theorem cmp_lt (a b:Int):(compare a b==Ordering.lt)=decide (a < b):=by
  show (compareOfLessAndEq a b==Ordering.lt)=_
  unfold compareOfLessAndEq
  by_cases h:a < b
  · simp [h]
  · by_cases h2:a=b
    · simp [h2]
    · simp [h,h2]
theorem cmp_eq (a b:Int):(compare a b==Ordering.eq)=decide (a=b):=by
  show (compareOfLessAndEq a b==Ordering.eq)=_
  unfold compareOfLessAndEq
  by_cases h:a < b
  · have:a≠b:=by omega
    simp [h,this]
  · by_cases h2:a=b
    · simp [h2]
    · simp [h,h2]
theorem cmp_gt (a b:Int):(compare a b==Ordering.gt)=decide (b < a):=by
  show (compareOfLessAndEq a b==Ordering.gt)=_
  unfold compareOfLessAndEq
  by_cases h:a < b
  · have:¬ b < a:=by omega
    simp [h,this]
  · by_cases h2:a=b
    · simp [h2]
    · have:b < a:=by omega
      simp [h,h2,this]
theorem some_beq (a b:Ordering):(some a==some b)=(a==b):=rfl

theorem feq_key {x y:Nat} (hx:isNan x=false) (hy:isNan y=false):feq x y=decide (key x=key y):=by
  unfold feq; rw [order_key hx hy,some_beq,cmp_eq]
theorem fle_key {x y:Nat} (hx:isNan x=false) (hy:isNan y=false):fle x y=decide (key x≤key y):=by
  unfold fle; rw [order_key hx hy,some_beq,some_beq,cmp_lt,cmp_eq,Bool.eq_iff_iff]; simp; omega
theorem fge_key {x y:Nat} (hx:isNan x=false) (hy:isNan y=false):fge x y=decide (key y≤key x):=by
  unfold fge; rw [order_key hx hy,some_beq,some_beq,cmp_gt,cmp_eq,Bool.eq_iff_iff]; simp; omega
theorem not_nan_of {x y:Nat} {o:Ordering} (h:double.order x y=some o):isNan x=false∧isNan y=false:=by
  constructor
  · cases hx:isNan x
    · rfl
    · have:double.order x y=none:=order_nan_left hx
      rw [this] at h; cases h
  · cases hy:isNan y
    · rfl
    · have:double.order x y=none:=order_nan_right hy
      rw [this] at h; cases h
theorem fle_true {x y:Nat} (h:fle x y=true):isNan x=false∧isNan y=false∧key x≤key y:=by
  have h':=h
  unfold fle at h
  cases ho:double.order x y with
  | none=>rw [ho] at h; cases h
  | some o =>
    obtain ⟨a,b⟩:=not_nan_of ho
    rw [fle_key a b] at h'
    exact ⟨a,b,of_decide_eq_true h'⟩
theorem fge_true {x y:Nat} (h:fge x y=true):isNan x=false∧isNan y=false∧key y≤key x:=by
  have h':=h
  unfold fge at h
  cases ho:double.order x y with
  | none=>rw [ho] at h; cases h
  | some o =>
    obtain ⟨a,b⟩:=not_nan_of ho
    rw [fge_key a b] at h'
    exact ⟨a,b,of_decide_eq_true h'⟩
theorem feq_true {x y:Nat} (h:feq x y=true):isNan x=false∧isNan y=false∧key x=key y:=by
  have h':=h
  unfold feq at h
  cases ho:double.order x y with
  | none=>rw [ho] at h; cases h
  | some o =>
    obtain ⟨a,b⟩:=not_nan_of ho
    rw [feq_key a b] at h'
    exact ⟨a,b,of_decide_eq_true h'⟩

def KR (v:Int) (g:Nat):Int:=cond (decide (v < 0)) (-((min (rq 52 v.natAbs g) 9218868437227405312:Nat):Int)) ((min (rq 52 v.natAbs g) 9218868437227405312:Nat):Int)

theorem key_word (s:Bool) {r:Nat} (h:r≤9218868437227405312):key (double.word s r)=cond s (-(r:Int)) r:=by
  unfold key rung sgn Format.word
  rw [signW]
  cases s
  · have h1:r / 9223372036854775808=0:=Nat.div_eq_of_lt (by omega)
    have h2:r % 9223372036854775808=r:=Nat.mod_eq_of_lt (by omega)
    simp [h1,h2]
  · have h1:(9223372036854775808+r) / 9223372036854775808=1:=by omega
    have h2:(9223372036854775808+r) % 9223372036854775808=r:=by omega
    simp [h1,h2]

/-- What is written of an exact value 'v / g' units, where the sign is the value's (of nought either). -/
theorem key_nearest {s:Bool} {m u w:Nat} {p:Int} {v:Int} {g:Nat} (hg:0 < g) (hp:p+1074=u - w) (ha:rq 52 (m*2 ^ u) (2 ^ w)=rq 52 v.natAbs g) (hs:v≠0→s=decide (v < 0)):key (double.nearest s m p)=KR v g:=by
  rw [nearest_rq s m u w p hp,ha,infR,key_word _ (Nat.min_le_right _ _)]
  unfold KR
  by_cases h0:v=0
  · subst h0
    rw [Int.natAbs_zero,rq_zero 52 hg]
    cases s<;>decide
  · rw [hs h0]

theorem val_abs (x:Nat):(val x).natAbs=rv 52 (rung x):=by unfold val; cases sgn x<;>simp only [cond_true,cond_false]<;>omega
theorem val_neg {x:Nat} (h:val x≠0):sgn x=decide (val x < 0):=by
  unfold val at h ⊢
  cases hs:sgn x
  · rw [cond_false,decide_eq_false (by omega)]
  · rw [hs,cond_true] at h; rw [cond_true,decide_eq_true (by omega)]
theorem mul_sign {a b:Int} (h:a*b≠0):(decide (a < 0) ^^ decide (b < 0))=decide (a*b < 0):=by
  have ha:a≠0:=fun e=>h (by rw [e,Int.zero_mul])
  have hb:b≠0:=fun e=>h (by rw [e,Int.mul_zero])
  rcases Int.lt_or_gt_of_ne ha with h1 | h1<;>rcases Int.lt_or_gt_of_ne hb with h2 | h2
  · have:=Int.mul_pos_of_neg_of_neg h1 h2
    rw [decide_eq_true h1,decide_eq_true h2,decide_eq_false (by omega)]; rfl
  · have:=Int.mul_neg_of_neg_of_pos h1 h2
    rw [decide_eq_true h1,decide_eq_false (by omega),decide_eq_true this]; rfl
  · have:=Int.mul_neg_of_pos_of_neg h1 h2
    rw [decide_eq_false (by omega),decide_eq_true h2,decide_eq_true this]; rfl
  · have:=Int.mul_pos h1 h2
    rw [decide_eq_false (by omega),decide_eq_false (by omega),decide_eq_false (by omega)]; rfl

theorem key_mul {x y c:Nat} (hc:c=1074) (hx:isFin x=true) (hy:isFin y=true):key (fmul x y)=KR (val x*val y) (2 ^ c)∧isNan (fmul x y)=false:=by
  obtain ⟨m,i,hrx,hi,_,hvx⟩:=read_fin hx
  obtain ⟨n,j,hry,hj,_,hvy⟩:=read_fin hy
  constructor
  · unfold fmul Format.mul
    rw [hrx,hry]
    simp only [Datum.product,Option.map_some,Option.getD_some,Format.write]
    refine key_nearest (u:=(i+1074).toNat+(j+1074).toNat) (w:=c) (Nat.two_pow_pos _) (by omega) ?_ ?_
    · rw [Int.natAbs_mul,val_abs,val_abs,hvx,hvy,Nat.pow_add]
      congr 1
      rw [Nat.mul_assoc,Nat.mul_assoc,Nat.mul_left_comm n]
    · intro h
      have ha:val x≠0:=fun e=>h (by rw [e,Int.zero_mul])
      have hb:val y≠0:=fun e=>h (by rw [e,Int.mul_zero])
      rw [val_neg ha,val_neg hb,mul_sign h]
  · have:∃ r,double.mul x y=some r:=by unfold Format.mul; rw [hrx,hry]; exact ⟨_,rfl⟩
    obtain ⟨r,hr⟩:=this
    unfold fmul; rw [hr]; exact isNan_mul hr

/-- A number's sign, as a factor. -/
def sg (v:Int):Int:=cond (decide (v < 0)) (-1) 1

end Go.Ev

namespace Go.Ev
open Ieee

/-- A float between two numbers is a number. -/
theorem fin_between {x lo hi:Nat} (h0:isNan x=false) (h1:key lo≤key x) (h2:key x≤key hi) (hl:-9218868437227405312 < key lo) (hh:key hi < 9218868437227405312):isFin x=true:=by
  rcases fin_or_inf h0 with h | h
  · exact h
  · exfalso
    have e:key x=9218868437227405312∨key x=-9218868437227405312:=by
      unfold key; rw [h]; cases sgn x
      · exact Or.inl rfl
      · exact Or.inr rfl
    omega
end Go.Ev

namespace Go.Ev
open Ieee

/-- The word of a power of two, in units of the least float. -/
def pw (n:Nat):Nat:=(n - 51)*4503599627370496
theorem rv_pw {n:Nat} (h:52≤n):rv 52 (pw n)=2 ^ n:=by
  obtain ⟨k,rfl⟩:∃ k,n=52+k:=⟨n - 52,by omega⟩
  have e:pw (52+k)=(k+1)*4503599627370496:=by unfold pw; congr 1; omega
  rw [e,rv_high (by omega),Nat.mul_mod_left,Nat.mul_div_cancel _ (by decide),Nat.add_zero,Nat.add_sub_cancel,Nat.pow_add]
/-- At most that. -/
def Bd (n x:Nat):Prop:=rung x≤pw n
theorem Bd.fin {n x:Nat} (h:Bd n x) (hn:n≤2097):isFin x=true:=by
  unfold Bd pw at h
  unfold isFin
  exact Nat.ble_eq_true_of_le (by show rung x+1≤_; omega)
theorem Bd.val {n x:Nat} (h:Bd n x) (hn:52≤n):(val x).natAbs≤2 ^ n:=by
  rw [val_abs,← rv_pw hn]
  rcases Nat.lt_or_ge (rung x) (pw n) with e | e
  · exact Nat.le_of_lt (rv_lt 52 e)
  · rw [show rung x=pw n from Nat.le_antisymm h e]; exact Nat.le_refl _
theorem key_abs (x:Nat):(key x).natAbs=rung x:=by unfold key; cases sgn x<;>simp only [cond_true,cond_false]<;>omega
theorem KR_abs (v:Int) (g:Nat):(KR v g).natAbs≤rq 52 v.natAbs g:=by
  unfold KR
  cases decide (v < 0)
  · rw [cond_false,Int.natAbs_natCast]; exact Nat.min_le_left _ _
  · rw [cond_true,Int.natAbs_neg,Int.natAbs_natCast]; exact Nat.min_le_left _ _
theorem bd_of {x g n:Nat} {v:Int} (hk:key x=KR v g) (hg:0 < g) (hv:v.natAbs≤2 ^ n*g) (hn:52≤n):Bd n x:=by
  unfold Bd
  rw [← key_abs,hk]
  refine Nat.le_trans (KR_abs v g) (Nat.le_trans (rq_mono1 52 hv) ?_)
  have:=rq_mul 52 (2 ^ n) 1 hg
  rw [Nat.one_mul] at this
  rw [this,← rv_pw hn,rq_rv]
  exact Nat.le_refl _
theorem Bd.mono {n m x:Nat} (h:Bd n x) (hm:n≤m):Bd m x :=
  Nat.le_trans h (Nat.mul_le_mul_right _ (Nat.sub_le_sub_right hm _))
theorem rv_le {r q:Nat} (h:r≤q):rv 52 r≤rv 52 q:=by
  rcases Nat.lt_or_ge r q with e | e
  · exact Nat.le_of_lt (rv_lt 52 e)
  · rw [Nat.le_antisymm h e]; exact Nat.le_refl _
end Go.Ev

namespace Go.Ev
open Ieee

/-- y is 2^j times x, both nought or both normal numbers, of one sign. -/
structure Sc (j x y:Nat):Prop where
  s:sgn x=sgn y
  fx:isFin x=true
  fy:isFin y=true
  r:(rung x=0∧rung y=0)∨(2 ^ 52≤rung x∧rung y=rung x+j*2 ^ 52)
theorem rv_scale {r:Nat} (j:Nat) (h:2 ^ 52≤r):rv 52 (r+j*2 ^ 52)=rv 52 r*2 ^ j:=by
  have p:0 < 2 ^ 52:=Nat.two_pow_pos 52
  unfold rv
  generalize 2 ^ 52=b at *
  rw [if_neg (by have:r≤r+j*b:=Nat.le_add_right _ _; omega),if_neg (by omega),Nat.add_mul_mod_self_right,Nat.add_mul_div_right _ _ p]
  have:1≤r / b:=(Nat.le_div_iff_mul_le p).2 (by omega)
  rw [show r / b+j - 1=(r / b - 1)+j by omega,Nat.pow_add,Nat.mul_assoc]
theorem Sc.val {j x y:Nat} (h:Sc j x y):val y=val x*((2 ^ j:Nat):Int):=by
  unfold Go.Ev.val
  rw [← h.s]
  have e:rv 52 (rung y)=rv 52 (rung x)*2 ^ j:=by
    rcases h.r with ⟨a,b⟩ | ⟨a,b⟩
    · rw [a,b,rv_zero,Nat.zero_mul]
    · rw [b]; exact rv_scale j a
  rw [e]
  cases sgn x
  · simp only [cond_false]; push_cast; rfl
  · simp only [cond_true]; push_cast; rw [Int.neg_mul]
end Go.Ev

namespace Go.Ev
open Ieee

theorem KR_mul (v:Int) (g:Nat) {m:Nat} (hm:0 < m):KR (v*(m:Int)) (g*m)=KR v g:=by
  unfold KR
  have e:=rq_mul 52 v.natAbs g hm
  rw [Int.natAbs_mul,Int.natAbs_natCast,e]
  have hg':(0:Int) < (m:Int):=by omega
  by_cases h:v < 0
  · rw [decide_eq_true h,decide_eq_true (Int.mul_neg_of_neg_of_pos h hg')]
  · rw [decide_eq_false h,decide_eq_false (Int.not_lt.2 (Int.mul_nonneg (by omega) (by omega)))]
end Go.Ev

namespace Go.Ev
open Ieee

theorem read_nought {x:Nat} (h:rung x=0):double.read x=.number (sgn x) 0 (-1074):=by
  unfold rung at h
  unfold Format.read sgn
  simp only [signW,infR,binadeV,leastP]
  rw [h,if_pos (by decide)]
end Go.Ev

namespace Go.Ev
open Ieee

/-- A multiple of a power of two. -/
def Gr (k x:Nat):Prop:=2 ^ k ∣ (val x).natAbs
theorem Gr.mono {k l x:Nat} (h:Gr k x) (hl:l≤k):Gr l x:=Nat.dvd_trans (Nat.pow_dvd_pow 2 hl) h
end Go.Ev

namespace Go.Ev
open Ieee

end Go.Ev

namespace Go.Ev
open Ieee

/-- x is the whole number a (c stands for 1074; of nought the sign is left open). -/
structure Wh (c x:Nat) (a:Int):Prop where
  fin:isFin x=true
  val:val x=a*((2 ^ c:Nat):Int)
section
variable {c x y:Nat} {a b:Int} (hc:c=1074)
include hc
omit hc
end
end Go.Ev
