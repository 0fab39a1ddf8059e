/-
  Hg0 Hg1 Sx4 Sxa Er0 Uj Uk Ul Um Un Uo Up Yy Yz Za Zb Zc Zd Ze Zf Zg Zh Zi Zj Zk Zl Zm Zn Zo Zp Zq Arg0, one behind the other.
-/
import Derived.Test.YtefphimaggjihaaGreatDoorC25
import Derived.Test.YtefphimaggjihaaGreatDoorC23
import Derived.Test.YtefphimaggjihaaGreatDoorC21
import Derived.Test.YtefphimaggjihaaGreatDoorC18
namespace Go.Ev
open Ieee

def VB (a j x:Nat):Prop:=isFin x=true∧(val x).natAbs≤a*2 ^ j
theorem VB.up {a j k x:Nat} (h:VB a j x) (hk:a≤2 ^ k):VB 1 (j+k) x:=⟨h.1,Nat.le_trans h.2 (by rw [Nat.one_mul,Nat.pow_add,Nat.mul_comm]; exact Nat.mul_le_mul_left _ hk)⟩
section
variable {c x y a b i j:Nat} (hc:c=1074)
include hc
end
theorem cut_le (way:Toward) (s:Bool) (n d:Nat):way.cut s n d≤n+1:=by
  unfold Toward.cut
  exact Nat.add_le_add (Nat.div_le_self n _) (toNat_le_one _)
/-- A number of no more than 2^54, made whole. -/
theorem whole_le {c j x:Nat} (way:Toward) (hc:c=1074) (hx:VB 1 (c+j) x) (hj:53≤j):∃ s M,(double.read x).integral way=.number s M 0∧M≤2 ^ j+1:=by
  obtain ⟨m,i,h1,h2,h3,h4⟩:=read_fin hx.1
  have hv:=hx.2
  rw [val_abs,h4,Nat.one_mul] at hv
  rw [h1]
  refine ⟨_,_,rfl,Nat.le_trans (cut_le _ _ _ _) (Nat.add_le_add_right ?_ 1)⟩
  rw [Nat.shiftLeft_eq]
  by_cases hi:0≤i
  · obtain ⟨u,rfl⟩:∃ u:Nat,i=u:=⟨i.toNat,by omega⟩
    rw [show ((u:Int)+1074).toNat=u+c by omega,Nat.pow_add,← Nat.mul_assoc,Nat.add_comm c j,Nat.pow_add] at hv
    have:=Nat.le_of_mul_le_mul_right hv (Nat.two_pow_pos c)
    rw [Int.toNat_natCast]
    exact this
  · rw [show i.toNat=0 by omega,Nat.pow_zero,Nat.mul_one]
    have:2 ^ 53≤2 ^ j:=Nat.pow_le_pow_right (by decide) hj
    have e:2 ^ 53=9007199254740992:=by decide
    omega
theorem fit_vb {c j x:Nat} (hc:c=1074) (hx:VB 1 (c+j) x) (hj:53≤j) (hj':j≤60):Go.Gv.fitI .i64 x=true:=by
  obtain ⟨s,M,h1,h2⟩:=whole_le .zero hc hx hj
  have hM:M≤2 ^ 60+1:=Nat.le_trans h2 (Nat.add_le_add_right (Nat.pow_le_pow_right (by decide) hj') 1)
  have e60:2 ^ 60=1152921504606846976:=by decide
  unfold Go.Gv.fitI floatToIntVal
  have ht:(FloatKind.f64.decode x).toInt .zero=some (signed s M 0):=by
    show (double.read x).toInt .zero=_
    unfold Datum.toInt
    rw [h1]
  rw [ht]
  have hs:signed s M 0=cond s (-(M:Int)) (M:Int):=by
    rw [signed_val,Nat.pow_zero,Nat.mul_one]
  have h3:IntKind.i64.min≤signed s M 0∧signed s M 0≤IntKind.i64.max:=by
    rw [hs,show IntKind.i64.min=-9223372036854775808 by decide,show IntKind.i64.max=9223372036854775807 by decide]
    cases s
    · rw [cond_false]; omega
    · rw [cond_true]; omega
  simp only [h3,and_self,if_true]
  rfl
end Go.Ev

namespace Go.Ev
open Ieee
end Go.Ev
namespace Go.Proofs.YtefphimaggjihaaGreatDoor
open Go.Gv

end Go.Proofs.YtefphimaggjihaaGreatDoor
namespace Go.Proofs.YtefphimaggjihaaGreatDoor.Hs
open Go.Gv
open Go.Ev (cn fadd fsub fmul fdiv fsqrt fneg feq flt fle fgt fge fabs isNan VB)

end Go.Proofs.YtefphimaggjihaaGreatDoor.Hs

namespace Go.Ev
open Ieee
end Go.Ev
namespace Go.Proofs.YtefphimaggjihaaGreatDoor.Hs.So
open Go.Gv
open Go.Ev (cn fadd fsub fmul fdiv fsqrt fneg feq flt fle fgt fge fabs VB key isNan isFin val)

end Go.Proofs.YtefphimaggjihaaGreatDoor.Hs.So

namespace Go.Ev
open Ieee
end Go.Ev
namespace Go.Proofs.YtefphimaggjihaaGreatDoor.Hs.So
open Go.Gv
open Go.Ev (cn fadd fsub fmul fdiv fsqrt fneg feq flt fle fgt fge fabs VB key isNan isFin val)

end Go.Proofs.YtefphimaggjihaaGreatDoor.Hs.So

namespace Go.Ev
open Ieee

end Go.Ev

namespace Go.Ev
open Ieee
open Go.Proofs.YtefphimaggjihaaGreatDoor.Hs (mth)
open Go.Proofs.YtefphimaggjihaaGreatDoor.Pi (rndR)

theorem mul_lt {x y:Nat} (hx:isFin x=true) (hy:isFin y=true):fmul x y < 18446744073709551616:=by
  obtain ⟨m,i,hrx,hi,_,hvx⟩:=read_fin hx
  obtain ⟨n,j,hry,hj,_,hvy⟩:=read_fin hy
  unfold fmul Format.mul
  rw [hrx,hry]
  simp only [Datum.product,Option.map_some,Option.getD_some,Format.write]
  rw [nearest_rq _ _ ((i+1074).toNat+(j+1074).toNat) 1074 _ (by omega),infR]
  have hr:=Nat.min_le_right (rq 52 (m*n*2 ^ ((i+1074).toNat+(j+1074).toNat)) (2 ^ 1074)) 9218868437227405312
  generalize min (rq 52 (m*n*2 ^ ((i+1074).toNat+(j+1074).toNat)) (2 ^ 1074)) 9218868437227405312=r at hr ⊢
  unfold Format.word
  rw [signW]
  by_cases hs:sgn x=sgn y
  · simp [hs]; omega
  · simp [hs]; omega
section
variable {c:Nat}
theorem kr3 (v:Int) {P:Nat} (hP:0 < P):KR (v*((1000*P:Nat):Int)) P=KR (v*1000) 1:=by
  have:=KR_mul (v*1000) 1 hP
  rw [Nat.one_mul] at this
  rw [← this,Int.natCast_mul,← Int.mul_assoc]
  rfl
end
end Go.Ev

namespace Go.Ev
open Ieee
open Go.Proofs.YtefphimaggjihaaGreatDoor.Hs (mth)
open Go.Proofs.YtefphimaggjihaaGreatDoor.Pi (rndR)

section
end
end Go.Ev

namespace Go.Proofs.YtefphimaggjihaaGreatDoor.Pi
open Go.Shelf Go.RowKit Go.Gv
open Go.Ev (cn fadd fsub fmul fdiv fneg feq flt fle fgt fge isNan key val isFin)
open Hs (mth k1000)
def gRd (rf:Nat→Nat):List AV→AV
  | [.f w]=>.f (rf w)
  | _=>.any
def gBy (bf:Int→Bool):List AV→AV
  | [.x (.int _ n)]=>bA (bf n)
  | _=>.any
section
variable (x:Nat) (rf:Nat→Nat) (bf:Int→Bool) (n:Int) (it:Int→List UInt8) (s t:ByteArray)
def yX (x:Nat):Nat:=fmul x 4652007308841189376
def nX:Int:=f2i .i64 (rf (yX x))
theorem by_ev:ev Tryz.prog [] [] noL Tryz.f172 [iA n] ret=some (Out.of (bA (cond (decide (n < -1000000)) true (decide (n > 1000000))))):=by kernel_rfl
theorem th_ev:ev Tryz.prog [] [kS Tryz.prog 171 (gRd rf),kS Tryz.prog 172 (gBy bf)] noL Tryz.f153 [.f x] ret =
  gate (FSpec Tryz.prog 171 [.f (yX x)] (.f (rf (yX x)))) (cond (fitI .i64 (rf (yX x))||false) (gate (FSpec Tryz.prog 172 [iA (nX x rf)] (bA (bf (nX x rf))))
    (cond (cond (bf (nX x rf)) true (!(feq (mth (nX x rf)) x))) (some (Out.of (.tup [iA 0,bA false]))) (some (Out.of (.tup [iA (nX x rf),bA true]))))) none):=by kernel_rfl
theorem nm_ev (k:Int):ev Tryz.prog [] [kIt] noL Tryz.f130 [iA k] ret=gate (FIt k) (cond (catF ⟨#[115]⟩ (lB (Lib.itoa k))||false) (some (Out.of (zA (⟨#[115]⟩ ++ lB (Lib.itoa k))))) none):=by kernel_rfl
end
section
variable (n:Int) (tf:ByteArray→ByteArray)
def gTr (tf:ByteArray→ByteArray):List AV→AV
  | [.x (.string s),_]=>zA (tf s)
  | _=>.any
def dtS:ByteArray:=⟨#[46]⟩
def dQ (a:Int):ByteArray:=lB (Lib.itoa (w64 (a.tdiv 1000)))
def dR (a:Int):ByteArray:=lB (Lib.itoa (w64 (1000+a.tmod 1000)))
noncomputable def dSl (a:Int):ByteArray:=(dR a).extract 1 (dR a).size
noncomputable def dmR (sg:ByteArray) (a:Int):Option Out:=gate (FIt (w64 (a.tdiv 1000))) (cond (catF sg (dQ a)||false) (cond (a.tmod 1000==0) (some (Out.of (zA (sg ++ dQ a))))
  (gate (FIt (w64 (1000+a.tmod 1000))) (cond (sbB (some 1) none none (dR a).size||false) (cond (catF (sg ++ dQ a) dtS||false) (gate (FSpec Tryz.prog 156 [zA (dSl a),zA ⟨#[48]⟩] (zA (tf (dSl a)))) (cond (catF ((sg ++ dQ a) ++ dtS) (tf (dSl a))||false) (some (Out.of (zA (((sg ++ dQ a) ++ dtS) ++ tf (dSl a))))) none)) none) none))) none)
theorem dm_ev:ev Tryz.prog [] [kIt,kS Tryz.prog 156 (gTr tf)] noL Tryz.f131 [iA n] ret=cond (decide (n < 0)) (dmR tf ⟨#[45]⟩ (w64 (0 - n))) (dmR tf ⟨#[]⟩ n):=by kernel_rfl
end
theorem it_spec {n:Int} (h0:-9223372036854775808≤n) (h1:n≤9223372036854775807):FIt n:=itoa_spec h0 h1
theorem it_few {n:Int} (h0:0≤n) (h1:n < 100000000):Lib.itoa n≠[]∧(Lib.itoa n).length≤8:=by
  obtain ⟨k,rfl⟩:=Int.eq_ofNat_of_zero_le h0
  unfold Lib.itoa
  rw [if_neg (by omega),Int.toNat_natCast]
  have key:∀ (d k:Nat),k < 10 ^ (d+1)→Lib.decDigits k≠[]∧(Lib.decDigits k).length≤d+1:=fun d=>by
    induction d with
    | zero=>intro k hk; rw [Lib.decDigits_one (by omega)]; simp
    | succ d ih =>
      intro k hk
      by_cases h:k < 10
      · rw [Lib.decDigits_one h]; simp
      · rw [Lib.decDigits,dif_neg h]
        have:=ih (k / 10) (by rw [Nat.pow_succ] at hk; omega)
        simp only [ne_eq,List.append_eq_nil_iff,List.length_append]
        exact ⟨fun hc=>this.1 hc.1,by simp; omega⟩
  exact key 7 k (by omega)
theorem cat_t {a b:ByteArray} (h:a.size+b.size≤1000000000):catF a b=true:=by
  rw [catF_eq]
  exact decide_eq_true (by show ((a.size+b.size:Nat):Int)≤9223372036854775807; omega)
theorem lB_app (a b:List UInt8):lB a ++ lB b=lB (a ++ b):=by
  apply ByteArray.ext
  simp [lB]
theorem nm_spec {k:Int} (h0:0≤k) (h1:k < 100000000):FNm nmT k:=by
  have hi:=it_few h0 h1
  refine gspec e_nil (k_cons kS_ok k_nil) Tryz.func130 (by kernel_rfl) (by kernel_rfl) noL_ok rfl ((nm_ev k).trans ?_)
  have e:(⟨#[115]⟩:ByteArray)=lB [115]:=rfl
  rw [gate_pos (it_spec (by omega) (by omega)),e,cat_t (by rw [size_lB,size_lB]; simp; omega),lB_app]
  rfl
/-- A number of thousandths in decimal. -/
def dcA (a:Nat):List UInt8:=Lib.itoa ((a / 1000:Nat):Int) ++ (if a % 1000=0 then [] else 46::Lib.trimRightB ((Lib.itoa ((1000+a % 1000:Nat):Int)).drop 1) 48)
def dcT (n:Int):List UInt8:=(if n < 0 then [45] else []) ++ dcA n.natAbs
theorem trim_len (l:List UInt8) (b:UInt8):(Lib.trimRightB l b).length≤l.length:=by
  unfold Lib.trimRightB
  rw [List.length_reverse]
  exact Nat.le_trans (List.dropWhile_sublist _).length_le (by rw [List.length_reverse]; exact Nat.le_refl _)
def trF (s:ByteArray):ByteArray:=lB (Lib.trimRightB (bL s) 48)
theorem trF_lB (l:List UInt8):trF (lB l)=lB (Lib.trimRightB l 48):=by unfold trF; rw [bL_lB]
theorem dmR_spec {sg:List UInt8} {a:Nat} (hs:sg.length≤1) (ha:a≤10000000):dmR trF (lB sg) (a:Nat)=some (Out.of (zA (lB (sg ++ dcA a)))):=by
  have e1:w64 (((a:Nat):Int).tdiv 1000)=((a / 1000:Nat):Int):=by rw [Int.tdiv_eq_ediv_of_nonneg (by omega),w64_id (by omega) (by omega)]; omega
  have e2:((a:Nat):Int).tmod 1000=((a % 1000:Nat):Int):=by rw [Int.tmod_eq_emod_of_nonneg (by omega)]; omega
  have e3:w64 (1000+((a % 1000:Nat):Int))=((1000+a % 1000:Nat):Int):=by rw [w64_id (by omega) (by omega)]; omega
  have i1:=it_few (n:=((a / 1000:Nat):Int)) (by omega) (by omega)
  have i2:=it_few (n:=((1000+a % 1000:Nat):Int)) (by omega) (by omega)
  have l1:(lB sg ++ lB (Lib.itoa ((a / 1000:Nat):Int))).size≤20:=by rw [lB_app,size_lB,List.length_append]; omega
  unfold dmR dSl dQ dR
  rw [e1,e2,e3,gate_pos (it_spec (by omega) (by omega)),cat_t (by rw [size_lB,size_lB]; omega)]
  unfold dcA
  by_cases h0:a % 1000=0
  · rw [h0,if_pos rfl,List.append_nil,lB_app]
    rfl
  · have hx:(lB (Lib.itoa ((1000+a % 1000:Nat):Int))).extract 1 (lB (Lib.itoa ((1000+a % 1000:Nat):Int))).size=lB ((Lib.itoa ((1000+a % 1000:Nat):Int)).drop 1):=by
      apply bL_inj
      rw [bL_extract,bL_lB,bL_lB,size_lB,List.take_length]
    have hsb:sbB (some 1) none none (lB (Lib.itoa ((1000+a % 1000:Nat):Int))).size=true:=by
      unfold sbB
      have:1≤(Lib.itoa ((1000+a % 1000:Nat):Int)).length:=List.length_pos_iff.2 i2.1
      rw [size_lB]
      generalize (Lib.itoa ((1000+a % 1000:Nat):Int)).length=z at this ⊢
      show (decide ((0:Int)≤1)&&(decide ((1:Int)≤((z:Nat):Int))&&(decide (((z:Nat):Int)≤((z:Nat):Int))&&decide (((z:Nat):Int)≤((z:Nat):Int)))))=true
      rw [decide_eq_true (show (1:Int)≤((z:Nat):Int) by omega)]
      simp
    have ht:=trim_len ((Lib.itoa ((1000+a % 1000:Nat):Int)).drop 1) 48
    have hd:((Lib.itoa ((1000+a % 1000:Nat):Int)).drop 1).length≤8:=by rw [List.length_drop]; omega
    have hT:FSpec Tryz.prog 156 [zA (lB ((Lib.itoa ((1000+a % 1000:Nat):Int)).drop 1)),zA ⟨#[48]⟩] (zA (trF (lB ((Lib.itoa ((1000+a % 1000:Nat):Int)).drop 1)))):=trimR_spec (lB ((Lib.itoa ((1000+a % 1000:Nat):Int)).drop 1)) (by rw [size_lB]; omega)
    have edt:dtS=lB [46]:=rfl
    rw [beq_false_of_ne (by omega),gate_pos (it_spec (by omega) (by omega)),hsb,hx,gate_pos hT,if_neg h0,edt,cat_t (by have:(lB [46]).size=1:=rfl; omega),lB_app,lB_app,trF_lB,cat_t (by rw [size_lB,size_lB,List.length_append,List.length_append]; have:([46]:List UInt8).length=1:=rfl; omega),lB_app]
    simp
theorem dc_spec {n:Int} (h:n.natAbs≤10000000):FDc dcT n:=by
  refine gspec e_nil (k_cons kS_ok (k_cons kS_ok k_nil)) Tryz.func131 (by kernel_rfl) (by kernel_rfl) noL_ok rfl ((dm_ev n trF).trans ?_)
  unfold dcT
  by_cases h0:n < 0
  · have e:w64 (0 - n)=((n.natAbs:Nat):Int):=by rw [w64_id (by omega) (by omega)]; omega
    have es:(⟨#[45]⟩:ByteArray)=lB [45]:=rfl
    rw [decide_eq_true h0,if_pos h0,e,es,cond_true]
    exact dmR_spec (by simp) h
  · have e:n=((n.natAbs:Nat):Int):=by omega
    have es:(⟨#[]⟩:ByteArray)=lB []:=rfl
    rw [decide_eq_false h0,if_neg h0,es,cond_false]
    conv=>lhs; rw [e]
    exact dmR_spec (by simp) h
theorem dc_ne (n:Int) (h:n.natAbs≤10000000):dcT n≠[]∧(dcT n).length≤20:=by
  have i1:=it_few (n:=((n.natAbs / 1000:Nat):Int)) (by omega) (by omega)
  have i2:=it_few (n:=((1000+n.natAbs % 1000:Nat):Int)) (by omega) (by omega)
  have ht:=trim_len ((Lib.itoa ((1000+n.natAbs % 1000:Nat):Int)).drop 1) 48
  rw [List.length_drop] at ht
  unfold dcT dcA
  constructor
  · intro hc
    simp only [List.append_eq_nil_iff] at hc
    exact i1.1 hc.2.1
  · have h1:(if n < 0 then ([45]:List UInt8) else []).length≤1:=by split<;>simp
    have h2:(if n.natAbs % 1000=0 then ([]:List UInt8) else 46::Lib.trimRightB ((Lib.itoa ((1000+n.natAbs % 1000:Nat):Int)).drop 1) 48).length≤9:=by
      split
      · simp
      · rw [List.length_cons]; omega
    rw [List.length_append,List.length_append]
    omega
end Go.Proofs.YtefphimaggjihaaGreatDoor.Pi

namespace Go.Ev
open Ieee
open Go.Proofs.YtefphimaggjihaaGreatDoor.Hs (mth)
open Go.Proofs.YtefphimaggjihaaGreatDoor.Pi (rndR)

theorem rnd_neg {w:Nat} (hw:w < 9223372036854775808) (hE:w / 2 ^ 52 % 2048 < 1075):rndR (9223372036854775808+w)=9223372036854775808+rndR w:=by
  have e52:(2:Nat) ^ 52=4503599627370496:=by decide
  have e1:(9223372036854775808+w) / 2 ^ 52 % 2048=w / 2 ^ 52 % 2048:=by rw [e52]; omega
  unfold rndR
  rw [e1,show (9223372036854775808+w) / 9223372036854775808=1 by omega,show w / 9223372036854775808=0 by omega]
  by_cases h1:w / 2 ^ 52 % 2048 < 1023
  · rw [if_pos h1,if_pos h1]
    split<;>omega
  · rw [if_neg h1,if_neg h1]
    generalize w / 2 ^ 52 % 2048=E at *
    have hB:9223372036854775808=2 ^ (1075 - E)*2 ^ (E - 1012):=by rw [← Nat.pow_add,show 1075 - E+(E - 1012)=63 by omega]
    have hA:=Nat.two_pow_pos (1075 - E)
    rw [Nat.add_assoc]
    conv=>lhs; rw [hB]
    rw [Nat.mul_add_div hA,Nat.add_mul,Nat.mul_comm (2 ^ (E - 1012)),← hB]
theorem rnd_rung {w:Nat} (hw:w < 18446744073709551616) (hr:rung w≤1053*4503599627370496):rung (rndR w)≤1054*4503599627370496∧rndR w < 18446744073709551616:=by
  have e52:(2:Nat) ^ 52=4503599627370496:=by decide
  have base:∀ {v:Nat},v < 9223372036854775808→v≤1053*4503599627370496→rndR v≤1054*4503599627370496:=fun {v} hv hv2=>by
    unfold rndR
    rw [show v / 9223372036854775808=0 by omega]
    have hE:v / 2 ^ 52 % 2048≤1053:=by rw [e52]; omega
    by_cases h1:v / 2 ^ 52 % 2048 < 1023
    · rw [if_pos h1]
      clear e52
      generalize (v / 2 ^ 52 % 2048:Nat)=E at *
      rw [Nat.zero_mul,Nat.zero_add]
      have hu:∀ {p:Prop} [Decidable p],(if p then 4607182418800017408 else 0)≤4607182418800017408:=fun {p} _=>by
        by_cases hp:p
        · exact Nat.le_of_eq (if_pos hp)
        · exact Nat.le_trans (Nat.le_of_eq (if_neg hp)) (Nat.zero_le _)
      exact Nat.le_trans hu (by decide)
    · rw [if_neg h1]
      have h3:=Nat.div_mul_le_self (v+2 ^ (1074 - v / 2 ^ 52 % 2048)) (2 ^ (1075 - v / 2 ^ 52 % 2048))
      have h4:2 ^ (1074 - v / 2 ^ 52 % 2048)≤2 ^ 51:=Nat.pow_le_pow_right (by decide) (by omega)
      have e51:(2:Nat) ^ 51=2251799813685248:=by decide
      omega
  unfold rung at hr
  by_cases h:w < 9223372036854775808
  · have:=base h (by omega)
    unfold rung
    omega
  · obtain ⟨v,rfl⟩:∃ v,w=9223372036854775808+v:=⟨w - 9223372036854775808,by omega⟩
    have hv:v < 9223372036854775808:=by omega
    have:=base hv (by omega)
    rw [rnd_neg hv (by rw [e52]; omega)]
    unfold rung
    omega
section
variable {c:Nat}
/-- What of a float that is near can be said. -/
structure NearF (x:Nat):Prop where
  fin:isFin x=true
  le:(val x).natAbs≤1000000*2 ^ 1074
theorem y_fin (hc:c=1074) {x:Nat} (h:NearF x):isFin (fmul x 4652007308841189376)=true∧rung (fmul x 4652007308841189376)≤1053*4503599627370496∧fmul x 4652007308841189376 < 18446744073709551616∧key (fmul x 4652007308841189376)=KR (val x*1000) 1:=by
  have hfK:isFin 4652007308841189376=true:=by decide +kernel
  have ev:val 4652007308841189376=((1000*2 ^ c:Nat):Int):=by subst hc; decide +kernel
  have hp:=Nat.two_pow_pos c
  have hk:key (fmul x 4652007308841189376)=KR (val x*1000) 1:=by rw [(key_mul hc h.fin hfK).1,ev]; exact kr3 _ hp
  have hle:(val x).natAbs≤1000000*2 ^ c:=by rw [hc]; exact h.le
  have e30:2 ^ (c+30)=1073741824*2 ^ c:=by rw [Nat.pow_add,Nat.mul_comm]
  have hv:(val x*1000).natAbs≤2 ^ (c+30)*1:=by
    rw [e30]
    generalize 2 ^ c=P at *
    omega
  have hb:Bd (c+30) (fmul x 4652007308841189376):=bd_of hk (by decide) hv (by omega)
  refine ⟨hb.fin (by omega),?_,mul_lt h.fin hfK,hk⟩
  have h2:=hb.val (by omega)
  rw [val_abs] at h2
  have h3:rv 52 (1053*4503599627370496)=1073741824*2 ^ c:=by subst hc; decide +kernel
  apply Nat.le_of_not_lt
  intro hc2
  have:=rv_lt 52 hc2
  rw [h3,← e30] at this
  omega
end
end Go.Ev

namespace Go.Proofs.YtefphimaggjihaaGreatDoor.Pi
open Go.Shelf Go.RowKit Go.Gv
open Go.Ev (cn fadd fsub fmul fdiv fneg feq flt fle fgt fge isNan key val isFin rung NearF)
open Hs (mth k1000)
/-- Round, as the code does it. -/
def rfR (w:Nat):Nat:=cn (rndR w)
def bfR (n:Int):Bool:=cond (decide (n < -1000000)) true (decide (n > 1000000))
def nnX (x:Nat):Int:=nX x rfR
/-- Whether a float can be told in thousandths; and in how many. -/
def tbX (x:Nat):Bool:=!(cond (bfR (nnX x)) true (!(feq (mth (nnX x)) x)))
def tnX (x:Nat):Int:=cond (tbX x) (nnX x) 0
theorem byd_spec (n:Int):FSpec Tryz.prog 172 [iA n] (bA (bfR n)) :=
  gspec e_nil k_nil Tryz.func172 (by kernel_rfl) (by kernel_rfl) noL_ok rfl (by_ev n)
theorem fitR {x:Nat} (h:NearF x):fitI .i64 (rfR (yX x))=true∧isNan (rndR (yX x))=false:=by
  obtain ⟨c,hc⟩:∃ c,c=1074:=⟨_,rfl⟩
  obtain ⟨q1,q2,q3,q4⟩:=Go.Ev.y_fin hc h
  obtain ⟨r1,r2⟩:=Go.Ev.rnd_rung q3 q2
  have hf:isFin (rndR (yX x))=true:=by
    unfold isFin
    exact Nat.ble_eq_true_of_le (Nat.lt_of_le_of_lt r1 (by decide))
  have hn:=Go.Ev.fin_not_nan hf
  have hbig:(val (rndR (yX x))).natAbs≤2 ^ (c+53):=by
    rw [Go.Ev.val_abs]
    have h5:=Go.Ev.rv_le r1
    have h6:Go.Ev.rv 52 (1054*4503599627370496)=2147483648*2 ^ c:=by subst hc; decide +kernel
    rw [h6] at h5
    rw [Nat.pow_add,Nat.mul_comm]
    exact Nat.le_trans h5 (Nat.mul_le_mul_right _ (by decide))
  refine ⟨?_,hn⟩
  unfold rfR
  rw [Go.Ev.cn_of_not hn]
  exact Go.Ev.fit_vb hc (j:=53) ⟨hf,by rw [Nat.one_mul]; exact hbig⟩ (by decide) (by decide)
theorem th_spec {x:Nat} (h:NearF x):FTh tnX tbX x:=by
  obtain ⟨c,hc⟩:∃ c,c=1074:=⟨_,rfl⟩
  obtain ⟨q1,q2,q3,q4⟩:=Go.Ev.y_fin hc h
  obtain ⟨f1,f2⟩:=fitR h
  have hE:yX x / 2 ^ 52 % 2048 < 1055:=by
    have e52:(2:Nat) ^ 52=4503599627370496:=by decide
    unfold rung at q2
    unfold yX
    rw [e52]
    omega
  refine gspec e_nil (k_cons kS_ok (k_cons kS_ok k_nil)) Tryz.func153 (by kernel_rfl) (by kernel_rfl) noL_ok rfl ((th_ev x rfR bfR).trans ?_)
  have hr:FSpec Tryz.prog 171 [.f (yX x)] (.f (rfR (yX x))):=round_spec q3 (Go.Ev.fin_not_nan q1) hE
  rw [gate_pos hr,f1,gate_pos (byd_spec _)]
  show cond _ _ _=_
  unfold tnX tbX nnX
  cases cond (bfR (nX x rfR)) true (!(feq (mth (nX x rfR)) x))<;>rfl
theorem tb_has {x:Nat} (h:tbX x=true):(tnX x).natAbs≤1000000∧feq (mth (tnX x)) x=true:=by
  have e:tnX x=nnX x:=by unfold tnX; rw [h]; rfl
  rw [e]
  unfold tbX bfR at h
  by_cases h1:nnX x < -1000000
  · rw [decide_eq_true h1] at h; cases h
  · by_cases h2:nnX x > 1000000
    · rw [decide_eq_false h1,decide_eq_true h2] at h; cases h
    · rw [decide_eq_false h1,decide_eq_false h2] at h
      refine ⟨by omega,?_⟩
      cases hf:feq (mth (nnX x)) x
      · rw [hf] at h; cases h
      · rfl
theorem tn_few (x:Nat):(tnX x).natAbs≤1000000:=by
  cases h:tbX x
  · unfold tnX; rw [h,cond_false]; decide
  · exact (tb_has h).1
/-- A number that is near. -/
theorem nu_near {x:Nat} (h:NearF x):Nu dcT tnX tbX x:=⟨th_spec h,dc_spec (Nat.le_trans (tn_few x) (by decide)),(dc_ne _ (Nat.le_trans (tn_few x) (by decide))).1⟩
end Go.Proofs.YtefphimaggjihaaGreatDoor.Pi

namespace Go.Proofs.YtefphimaggjihaaGreatDoor.Pi
open Go.Shelf Go.RowKit Go.Gv
open Go.Ev (cn fadd fsub fmul fdiv fneg feq flt fle fgt fge isNan key val isFin NearF)
open Hs Hs.So Hs.Sc Hs.Fm
theorem near_of {x:Nat} (h:nearS x=true):NearF x:=by
  unfold nearS at h
  have e1:key 13920209183539462144=-4696837146684686336:=by decide +kernel
  have e2:key 4696837146684686336=4696837146684686336:=by decide +kernel
  cases h1:fge x 13920209183539462144
  · rw [h1] at h; cases h
  · rw [h1,cond_true] at h
    obtain ⟨n1,_,k1⟩:=Go.Ev.fge_true h1
    obtain ⟨_,_,k2⟩:=Go.Ev.fle_true h
    have hf:isFin x=true:=Go.Ev.fin_between n1 k1 k2 (by rw [e1]; decide) (by rw [e2]; decide)
    obtain ⟨c,hc⟩:∃ c,c=1074:=⟨_,rfl⟩
    have t1:val 4696837146684686336=((1000000*2 ^ c:Nat):Int):=by subst hc; decide +kernel
    have t2:val 13920209183539462144=-((1000000*2 ^ c:Nat):Int):=by subst hc; decide +kernel
    have a1:=Go.Ev.val_le.2 k1
    have a2:=Go.Ev.val_le.2 k2
    rw [t2] at a1
    rw [t1] at a2
    refine ⟨hf,?_⟩
    rw [← hc]
    generalize 1000000*2 ^ c=B at *
    omega
theorem nu_of {x:Nat} (h:nearS x=true):Nu dcT tnX tbX x:=nu_near (near_of h)
theorem fine_all {a b c:Nat} (h:fineS a b c=true):nearS a=true∧nearS b=true∧nearS c=true:=by
  unfold fineS at h
  revert h
  cases nearS a<;>cases nearS b<;>cases nearS c<;>intro h<;>first | exact ⟨rfl,rfl,rfl⟩ | (cases h; done)
theorem nv_of {a:Nat→Nat} {i:Nat} (h:fineS (a i) (a (i+1)) (a (i+2))=true):NV dcT tnX tbX a i:=by
  obtain ⟨h1,h2,h3⟩:=fine_all h
  exact ⟨nu_of h1,nu_of h2,nu_of h3⟩
theorem rc_all {a:Nat→Nat} (h:rcB a=false):fineS (a 0) (a 1) (a 2)=true∧fineS (a 3) (a 4) (a 5)=true∧fineS (a 6) (a 7) (a 8)=true∧nearS (a 9)=true∧nearS (a 10)=true:=by
  unfold rcB at h
  revert h
  cases fineS (a 0) (a 1) (a 2)<;>cases fineS (a 3) (a 4) (a 5)<;>cases fineS (a 6) (a 7) (a 8)<;>cases nearS (a 9)<;>cases nearS (a 10)<;>intro h<;>first | exact ⟨rfl,rfl,rfl,rfl,rfl⟩ | (cases h; done)
theorem sh_of {k:Int} {a:Nat→Nat} {sk:Int} (h:mayC (shC k a sk)=0):ShN dcT tnX tbX k a∧FNm nmT sk:=by
  obtain ⟨h1,h2,h3,h4⟩:=mayC_near h
  obtain ⟨r0,r3,r6,r9,r10⟩:=rc_all h1
  exact ⟨⟨h2,nv_of r0,fun _=>nv_of r3,fun _=>nv_of r6,fun _ _=>nu_of r9,fun _=>nu_of r10⟩,nm_spec h3 (by omega)⟩
theorem it_ok {n:Int} (h0:0≤n) (h1:n < 100000000):FIt n∧Lib.itoa n≠[]:=⟨it_spec (by omega) (by omega),(it_few h0 h1).1⟩
theorem c4 {b:Bool} {e x:Int} (he:e≠0) (h:cond b e x=0):b=false∧x=0:=by
  cases b
  · exact ⟨rfl,h⟩
  · exact absurd h he
theorem c0 {e x:Int} (h:cond (e==0) x e=0):e=0∧x=0:=by
  by_cases he:e=0
  · subst he; exact ⟨rfl,h⟩
  · rw [beq_false_of_ne he] at h; exact absurd h he
theorem cn0 {e x:Int} (h:cond (!(e==0)) e x=0):e=0∧x=0:=by
  by_cases he:e=0
  · subst he; exact ⟨rfl,h⟩
  · rw [beq_false_of_ne he] at h; exact absurd h he
theorem we0 {e sk:Int} {n:Nat} (h:weE e sk n=0):e=0:=(cn0 h).1
theorem or_no {a b:Bool} (h:cond a true b=false):a=false∧b=false:=by
  cases a
  · exact ⟨rfl,h⟩
  · cases h
theorem li_all {l:Nat→Int} (h:liB l=true):∀ q,q < 3→0≤l q∧l q≤65536:=by
  unfold liB at h
  have hb:∀ {x:Int} {b:Bool},cond (lbB x) false b=true→(0≤x∧x≤65536)∧b=true:=fun {x b} h=>by
    cases hx:lbB x
    · rw [hx] at h
      obtain ⟨h1,h2⟩:=or_no hx
      have h1:=of_decide_eq_false h1
      have h2:=of_decide_eq_false h2
      exact ⟨by omega,h⟩
    · rw [hx] at h; cases h
  obtain ⟨a0,h⟩:=hb h
  obtain ⟨a1,h⟩:=hb h
  obtain ⟨a2,_⟩:=hb h
  intro q hq
  match q,hq with
  | 0,_=>exact a0
  | 1,_=>exact a1
  | 2,_=>exact a2
theorem wh_of {l:Nat→Int} (h:∀ q,q < 3→0≤l q∧l q≤65536):Wh l:=⟨fun q hq=>it_ok (h q hq).1 (by have:=(h q hq).2; omega)⟩
theorem mc_all {s m g:Int} (h:(!mcB s m g)=false):(0≤s∧s≤1000)∧(0≤m∧m≤1000)∧0≤g∧g≤1000:=by
  unfold mcB at h
  have hb:∀ {x:Int} {b:Bool},(!cond (cbB x) false b)=false→(0≤x∧x≤1000)∧(!b)=false:=fun {x b} h=>by
    cases hx:cbB x
    · rw [hx] at h
      obtain ⟨h1,h2⟩:=or_no hx
      have h1:=of_decide_eq_false h1
      have h2:=of_decide_eq_false h2
      exact ⟨by omega,h⟩
    · rw [hx] at h; cases h
  obtain ⟨a0,h⟩:=hb h
  obtain ⟨a1,h⟩:=hb h
  obtain ⟨a2,_⟩:=hb h
  exact ⟨a0,a1,a2⟩
theorem sk_all {k:Nat→Int} (h:skE k=0):(∀ q,q < 9→0≤k q∧k q≤1000)∧100≤k 9∧k 9≤10000:=by
  unfold skE at h
  obtain ⟨h0,h⟩:=c4 (by decide) h
  obtain ⟨h1,h⟩:=c4 (by decide) h
  obtain ⟨h2,h⟩:=c4 (by decide) h
  obtain ⟨h3,_⟩:=c4 (by decide) h
  have m0:=mc_all h0
  have m1:=mc_all h1
  have m2:=mc_all h2
  obtain ⟨b1,b2⟩:=or_no h3
  have b1:=of_decide_eq_false b1
  have b2:=of_decide_eq_false b2
  refine ⟨fun q hq=>?_,by omega,by omega⟩
  match q,hq with
  | 0,_=>omega
  | 1,_=>omega
  | 2,_=>omega
  | 3,_=>omega
  | 4,_=>omega
  | 5,_=>omega
  | 6,_=>omega
  | 7,_=>omega
  | 8,_=>omega
theorem pm_of {n:Nat} {P:Nat→Prt} (h:∀ i,i < n→paE P i=0):PM n P∧∀ i,i < n→(P i).op=0→mayC (shC (P i).k (P i).a (P i).sk)=0:=by
  refine ⟨fun j hj=>?_,fun i hi h0=>?_⟩
  · have h1:=h j hj
    unfold paE ppE at h1
    by_cases h0:(P j).op=0
    · exact Or.inl h0
    · right
      rw [beq_false_of_ne h0,cond_false] at h1
      cases ho:opB (P j).op
      · rw [ho] at h1; exact absurd (show (11:Int)=0 from h1) (by decide)
      · rw [ho,cond_true] at h1
        obtain ⟨h2,_⟩:=c4 (by decide) h1
        unfold nmB at h2
        obtain ⟨h2,r2⟩:=or_no h2
        obtain ⟨h2,r1⟩:=or_no h2
        obtain ⟨l1,l2⟩:=or_no h2
        have r2:=of_decide_eq_false r2
        have r1:=of_decide_eq_false r1
        have l1:=of_decide_eq_false l1
        have l2:=of_decide_eq_false l2
        have:(P j).op=1∨(P j).op=2∨(P j).op=3:=by
          unfold opB at ho
          simpa using ho
        omega
  · have h1:=h i hi
    unfold paE ppE at h1
    rw [h0] at h1
    have h1:mlE (mayC (P i).s) (P i).k=0:=h1
    exact (cn0 h1).1
theorem so_of {n:Nat} {P:Nat→Prt} {sn:Int} (h:soE n P sn=0):((1≤n∧n≤16)∧PM n P∧∀ i,i < n→(P i).op=0→ShN dcT tnX tbX (P i).k (P i).a)∧FNm nmT sn:=by
  unfold soE at h
  obtain ⟨h1,h⟩:=c4 (by decide) h
  obtain ⟨h2,h⟩:=c4 (by decide) h
  obtain ⟨n1,n2⟩:=or_no h1
  have n1:=of_decide_eq_false n1
  have n2:=of_decide_eq_false n2
  obtain ⟨p1,p2⟩:=pm_of (seq_zero _ h)
  obtain ⟨s1,s2⟩:=skB_rng h2
  exact ⟨⟨by omega,p1,fun i hi h0=>(sh_of (p2 i hi h0)).1⟩,nm_spec s1 (by omega)⟩
theorem fd_of {F:Hs.Fm.Fd} (h:fFd F.c=0):((FIt F.W∧Lib.itoa F.W≠[])∧(FIt F.H∧Lib.itoa F.H≠[])∧NV dcT tnX tbX F.at_ 0∧Nu dcT tnX tbX F.sd∧F.n≤1000∧∀ q,q < F.n→FDc dcT (F.hs q)∧dcT (F.hs q)≠[])∧FNm nmT F.sk:=by
  obtain ⟨h1,h2,h3,h4,h5,h6,_⟩:fineS (F.at_ 0) (F.at_ 1) (F.at_ 2)=true∧nearS F.sd=true∧F.n≤64∧(2≤F.W∧F.W≤8∧2≤F.H∧F.H≤8)∧(0≤F.sk∧F.sk < 16)∧(∀ q,q < F.n→hBad (F.hs q)=false)∧F.mayN=0∧(mayS (bx F)==0)=true:=(fFd_ok F).2 h
  refine ⟨⟨it_ok (by omega) (by omega),it_ok (by omega) (by omega),nv_of h1,nu_of h2,by omega,fun q hq=>?_⟩,nm_spec h5.1 (by omega)⟩
  obtain ⟨b1,b2⟩:=or_no (h6 q hq)
  have b1:=of_decide_eq_false b1
  have b2:=of_decide_eq_false b2
  exact ⟨dc_spec (by omega),(dc_ne _ (by omega)).1⟩
theorem ey_of {e:Nat→Nat} (h:eyE e=0):fineS (e 0) (e 1) (e 2)=true∧fineS (e 3) (e 4) (e 5)=true∧fineS (e 6) (e 7) (e 8)=true∧nearS (e 9)=true:=by
  unfold eyE at h
  obtain ⟨h1,_⟩:=c4 (by decide) h
  unfold feB at h1
  revert h1
  cases fineS (e 0) (e 1) (e 2)<;>cases fineS (e 3) (e 4) (e 5)<;>cases fineS (e 6) (e 7) (e 8)<;>cases nearS (e 9)<;>intro h<;>first | exact ⟨rfl,rfl,rfl,rfl⟩ | (cases h; done)
theorem not_no {b:Bool} (h:(!b)=false):b=true:=by cases b<;>first | rfl | cases h
/-- Of a scene that may be all numbers can be told. -/
theorem scN_of {s:Scn} (h:scE s=0):ScN dcT tnX tbX s∧(s.nS≤64∧s.nO≤8∧s.nF≤2∧s.nK≤16∧s.nL≤4):=by
  unfold scE at h
  obtain ⟨h1,h⟩:=c4 (by decide) h
  obtain ⟨hK,h⟩:=c0 h
  obtain ⟨hT,h⟩:=c0 h
  obtain ⟨hL,h⟩:=c0 h
  obtain ⟨hY,h⟩:=c4 (by decide) h
  have few:=tm_few s h1
  unfold thE at hT
  obtain ⟨hS,hT⟩:=c0 hT
  obtain ⟨hO,hF⟩:=c0 hT
  obtain ⟨y0,y3,y6,y9⟩:=ey_of h
  refine ⟨⟨nv_of y0,nv_of y3,nv_of y6,nu_of y9,wh_of (li_all (not_no hY)),fun j hj=>?_,fun j hj=>?_,fun j hj=>?_,fun j hj=>?_,fun j hj=>?_,by omega⟩,few⟩
  · obtain ⟨k1,k2,k3⟩:=sk_all (k:=s.K j) (seq_zero _ hK j hj)
    refine ⟨nm_spec (by omega) (by omega),⟨fun q hq=>?_⟩,⟨fun q hq=>?_⟩,⟨fun q hq=>?_⟩,dc_spec (by omega),(dc_ne _ (by omega)).1⟩
    · have:=k1 q (by omega); exact it_ok this.1 (by omega)
    · have:=k1 (3+q) (by omega); exact it_ok this.1 (by omega)
    · have:=k1 (6+q) (by omega); exact it_ok this.1 (by omega)
  · have hl:lmE (s.LA j) (s.LL j)=0:=seq_zero _ hL j hj
    unfold lmE at hl
    obtain ⟨a1,hl⟩:=c4 (by decide) hl
    obtain ⟨a2,_⟩:=c4 (by decide) hl
    exact ⟨nv_of (not_no a1),wh_of (li_all (not_no a2))⟩
  · exact sh_of (we0 (seq_zero _ hS j hj))
  · exact so_of (we0 (seq_zero _ hO j hj))
  · exact fd_of (we0 (seq_zero _ hF j hj))
end Go.Proofs.YtefphimaggjihaaGreatDoor.Pi

namespace Go.Proofs.YtefphimaggjihaaGreatDoor.Pi
open Go.Shelf Go.RowKit Go.Gv
open Hs Hs.So Hs.Sc Hs.Fm
/-- Words, so many, none longer than 20 bytes. -/
structure Few (k:Nat) (ts:List (List UInt8)):Prop where
  n:ts.length≤k
  w:∀ t,t ∈ ts→t.length≤20
theorem few_nil:Few 0 []:=⟨Nat.le_refl _,fun _ h=>by cases h⟩
theorem few_cons {k:Nat} {t:List UInt8} {ts:List (List UInt8)} (ht:t.length≤20) (h:Few k ts):Few (k+1) (t::ts):=⟨by simp; exact h.n,fun x hx=>by
  rcases List.mem_cons.1 hx with rfl | hx
  · exact ht
  · exact h.w x hx⟩
theorem few_app {j k:Nat} {A B:List (List UInt8)} (ha:Few j A) (hb:Few k B):Few (j+k) (A ++ B):=⟨by simp; exact Nat.add_le_add ha.n hb.n,fun x hx=>by
  rcases List.mem_append.1 hx with hx | hx
  · exact ha.w x hx
  · exact hb.w x hx⟩
theorem Few.up {j k:Nat} {A:List (List UInt8)} (h:Few j A) (hk:j≤k):Few k A:=⟨Nat.le_trans h.n hk,h.w⟩
theorem tks_few:∀ {ts:List (List UInt8)} {k:Nat} (b:Bool),Few k ts→(tks b ts).length≤21*k
  | [],_,_,_=>by simp [tks]
  | t::r,k,b,h=>by
    have h1:=h.w t (by simp)
    have hn:=h.n
    simp at hn
    obtain ⟨k,rfl⟩:∃ j,k=j+1:=⟨k - 1,by omega⟩
    have h2:=tks_few (ts:=r) (k:=k) true ⟨by omega,fun x hx=>h.w x (List.mem_cons_of_mem _ hx)⟩
    simp only [tks,List.length_append]
    have:(if b then ([32]:List UInt8) else []).length≤1:=by cases b<;>simp
    omega
theorem line_few {ts:List (List UInt8)} {k:Nat} (b:Bool) (h:Few k ts):(lineE b ts).length≤21*k+22:=by
  unfold lineE
  have:=tks_few b (few_app h (few_cons (t:=[59]) (by decide) few_nil))
  rw [List.length_append]
  simp only [List.length_cons,List.length_nil]
  omega
theorem lineL_few {E:Nat→List UInt8} {m:Nat}:∀ n,(∀ j,j < n→(E j).length≤m)→(lineL E n).length≤n*m
  | 0,_=>by simp [lineL]
  | n+1,h=>by
    have:=lineL_few n fun j hj=>h j (by omega)
    have h1:=h n (by omega)
    simp only [lineL,List.length_append]
    rw [Nat.add_mul,Nat.one_mul]
    omega
theorem ntk_len (x:Nat):(ntk dcT tnX x).length≤20:=(dc_ne _ (Nat.le_trans (tn_few x) (by decide))).2
theorem vT_few (a:Nat→Nat) (i:Nat):Few 3 (vT dcT tnX a i):=few_cons (ntk_len _) (few_cons (ntk_len _) (few_cons (ntk_len _) few_nil))
theorem rnd_few {w t:List UInt8} (hw:w.length≤20) (ht:t.length≤20) (a:Nat→Nat):Few 10 (rndT dcT tnX w t a) :=
  few_cons hw (few_app (k:=6) (vT_few a 0) (few_cons ht (few_app (k:=2) (vT_few a 3) (few_cons (by decide) (few_cons (ntk_len _) few_nil))))) |>.up (by decide)
theorem shT_few (k:Int) (a:Nat→Nat):Few 13 (shT dcT tnX k a):=by
  unfold shT
  split
  · exact (few_cons (by decide) (few_app (vT_few a 0) (few_cons (by decide) (few_cons (ntk_len _) few_nil)))).up (by decide)
  · split
    · exact (few_cons (by decide) (few_app (vT_few a 0) (few_cons (by decide) (vT_few a 3)))).up (by decide)
    · split
      · exact (few_cons (by decide) (few_app (vT_few a 0) (few_cons (by decide) (few_app (vT_few a 3) (few_cons (by decide) (vT_few a 6)))))).up (by decide)
      · split
        · exact (rnd_few (by decide) (by decide) a).up (by decide)
        · split
          · exact (rnd_few (by decide) (by decide) a).up (by decide)
          · exact (few_app (rnd_few (by decide) (by decide) a) (few_cons (ntk_len _) few_nil)).up (by decide)
theorem opT_len (o:Int):(opT o).length≤20:=by unfold opT; split<;>(try split)<;>decide
theorem upd_ne (g:Nat→Int) {i j:Nat} (h:i≠j) (v:Int):upd g j v i=g i:=if_neg h
theorem sd_keep (P:Nat→Prt) (i:Nat):∀ d,(sd P (i+1+d)).1 i=(sd P (i+1)).1 i∧(sd P (i+1+d)).2 i=(sd P (i+1)).2 i
  | 0=>⟨rfl,rfl⟩
  | d+1=>by
    have h:=sd_keep P i d
    rw [show i+1+(d+1)=(i+1+d)+1 by omega,sd_succ]
    have hne:i≠i+1+d:=by omega
    split
    · exact ⟨(upd_ne _ hne _).trans h.1,h.2⟩
    · exact ⟨(upd_ne _ hne _).trans h.1,(upd_ne _ hne _).trans h.2⟩
theorem sd_at {P:Nat→Prt} {i j:Nat} (h:i < j):(sd P j).1 i=(sd P (i+1)).1 i∧(sd P j).2 i=(sd P (i+1)).2 i:=by
  have:=sd_keep P i (j - (i+1))
  rwa [show i+1+(j - (i+1))=j by omega] at this
theorem sd_dep {n:Nat} {P:Nat→Prt} (hP:PM n P) {i:Nat} (hi:i < n) (h0:(P i).op≠0):(sd P n).2 i=1+mx ((sd P n).2 (P i).l.toNat) ((sd P n).2 (P i).r.toNat):=by
  rcases hP i hi with h | ⟨_,⟨l0,l1⟩,r0,r1⟩
  · exact absurd h h0
  · rw [(sd_at hi).2,sd_succ,if_neg h0]
    show upd _ i _ i=_
    unfold upd
    rw [if_pos rfl,(sd_at (show (P i).l.toNat < n by omega)).2,(sd_at (show (P i).r.toNat < n by omega)).2,(sd_at (show (P i).l.toNat < i by omega)).2,(sd_at (show (P i).r.toNat < i by omega)).2]
theorem paT_few {n:Nat} {P:Nat→Prt} (hP:PM n P):∀ (f i d:Nat),i < n→(sd P n).2 i≤d→∃ k,Few k (paT dcT tnX P f i)∧k+3≤16*2 ^ d
  | 0,_,d,_,_=>⟨0,few_nil,by have:=Nat.two_pow_pos d; omega⟩
  | f + 1,i,d,hi,hd=>by
    unfold paT
    by_cases h0:(P i).op=0
    · rw [if_pos h0]
      exact ⟨13,shT_few _ _,by have:=Nat.two_pow_pos d; omega⟩
    · rw [if_neg h0]
      rcases hP i hi with h | ⟨_,⟨l0,l1⟩,r0,r1⟩
      · exact absurd h h0
      · rw [sd_dep hP hi h0] at hd
        have g1:=(sd_rng P n (P i).l.toNat).2.1
        have g2:=(sd_rng P n (P i).r.toNat).2.1
        obtain ⟨d,rfl⟩:∃ e,d=e+1:=⟨d - 1,by unfold mx at hd; split at hd<;>omega⟩
        obtain ⟨k1,f1,e1⟩:=paT_few hP f (P i).l.toNat d (by omega) (by unfold mx at hd; split at hd<;>omega)
        obtain ⟨k2,f2,e2⟩:=paT_few hP f (P i).r.toNat d (by omega) (by unfold mx at hd; split at hd<;>omega)
        refine ⟨_,few_app (few_cons (opT_len _) (few_cons (t:=[123]) (by decide) few_nil)) (few_app f1 (few_app f2 (few_cons (t:=[125]) (by decide) few_nil))),?_⟩
        rw [Nat.pow_succ]
        omega
theorem soT_few {n:Nat} {P:Nat→Prt} (h1:1≤n) (hP:PM n P):Few 130 (soT dcT tnX n P):=by
  unfold soT
  cases ha:arB n P
  · exact (few_cons (by decide) few_nil).up (by decide)
  · unfold arB at ha
    have ha:arP n P:=by simpa using ha
    obtain ⟨k,hk,he⟩:=paT_few hP n (n - 1) 3 (by omega) ha.2.2
    exact (few_cons (by decide) hk).up (by omega)
theorem it_len {n:Int} (h0:0≤n) (h1:n < 100000000):(Lib.itoa n).length≤20:=Nat.le_trans (it_few h0 h1).2 (by decide)
theorem nm_len {n:Int} (h0:0≤n) (h1:n < 100000000):(nmT n).length≤20:=by
  have:=(it_few h0 h1).2
  show (115::Lib.itoa n).length≤20
  simp
  omega
theorem wh_few {l:Nat→Int} (h:∀ q,q < 3→0≤l q∧l q≤65536):Few 3 (whT l):=by
  have a0:=h 0 (by decide)
  have a1:=h 1 (by decide)
  have a2:=h 2 (by decide)
  exact few_cons (it_len a0.1 (by omega)) (few_cons (it_len a1.1 (by omega)) (few_cons (it_len a2.1 (by omega)) few_nil))
theorem hi_few {F:Hs.Fm.Fd} (h:∀ q,q < F.n→hBad (F.hs q)=false):Few F.n (hiT dcT F F.n):=⟨by unfold hiT; simp,fun t ht=>by
  unfold hiT at ht
  obtain ⟨q,hq,rfl⟩:=List.mem_map.1 ht
  obtain ⟨b1,b2⟩:=or_no (h q (List.mem_range.1 hq))
  have b1:=of_decide_eq_false b1
  have b2:=of_decide_eq_false b2
  exact (dc_ne _ (by omega)).2⟩
theorem eyT_few (e:Nat→Nat):Few 14 (eyT dcT tnX e) :=
  (few_cons (by decide) (few_app (vT_few e 0) (few_cons (by decide) (few_app (vT_few e 3) (few_cons (by decide) (few_app (vT_few e 6) (few_cons (by decide) (few_cons (ntk_len _) few_nil)))))))).up (by decide)
theorem wear_len {k:Int} (h0:0≤k) (h1:k < 16) (b:Bool):(lineE b [nmT k]).length≤43:=line_few b (few_cons (nm_len h0 (by omega)) few_nil)
theorem sky_len {s:Scn} (h:∀ q,q < 3→0≤s.sky q∧s.sky q≤65536):(comp (skyI s) false).length≤110:=by
  have e:comp (skyI s) false=tks false [skyW] ++ (tks true (whT s.sky) ++ ((tks true [[59]] ++ [10]) ++ [])):=rfl
  rw [e]
  have h1:=tks_few false (few_cons (t:=skyW) (by decide) few_nil)
  have h2:=tks_few true (wh_few h)
  have h3:=tks_few true (few_cons (t:=[59]) (by decide) few_nil)
  simp only [List.length_append,List.length_cons,List.length_nil]
  omega
theorem skI_len {s:Scn} {j:Nat} (hj:j < 16) (h:skE (s.K j)=0):(comp (skI dcT s j) false).length≤400:=by
  obtain ⟨k1,k2,k3⟩:=sk_all h
  have e:comp (skI dcT s j) false=lineE false (skT dcT (s.K j) (fun q=>s.K j (3+q)) (fun q=>s.K j (6+q)) (s.K j 9) (j:Nat)) ++ []:=rfl
  rw [e,List.append_nil]
  have a:∀ d,d≤6→Few 3 (whT fun q=>s.K j (d+q)):=fun d hd=>wh_few fun q hq=>by have:=k1 (d+q) (by omega); omega
  have a0:Few 3 (whT (s.K j)):=wh_few fun q hq=>by have:=k1 q (by omega); omega
  have f:Few 16 (skT dcT (s.K j) (fun q=>s.K j (3+q)) (fun q=>s.K j (6+q)) (s.K j 9) (j:Nat)) :=
    (few_app (few_cons (by decide) (few_cons (nm_len (by omega) (by omega)) (few_cons (by decide) few_nil))) (few_app a0 (few_cons (by decide) (few_app (a 3 (by omega)) (few_cons (by decide) (few_app (a 6 (by omega)) (few_cons (by decide) (few_cons (dc_ne _ (by omega)).2 few_nil)))))))).up (by decide)
  exact Nat.le_trans (line_few false f) (by decide)
theorem lmI_len {s:Scn} {j:Nat} (h:∀ q,q < 3→0≤s.LL j q∧s.LL j q≤65536):(comp (lmI dcT tnX tbX s j) false).length≤200:=by
  have e:comp (lmI dcT tnX tbX s j) false=lineE false (lamT dcT tnX (s.LA j) (s.LL j)) ++ []:=rfl
  rw [e,List.append_nil]
  have f:Few 8 (lamT dcT tnX (s.LA j) (s.LL j)):=(few_cons (by decide) (few_app (vT_few _ 0) (few_cons (by decide) (wh_few h)))).up (by decide)
  exact Nat.le_trans (line_few false f) (by decide)
theorem shI_len {s:Scn} {j:Nat} (h0:0≤(s.S j).sk) (h1:(s.S j).sk < 16):(comp (shI dcT tnX tbX s j) false).length≤320:=by
  have e:comp (shI dcT tnX tbX s j) false=tks false (shT dcT tnX (s.S j).k (s.S j).a) ++ (lineE true [nmT (s.S j).sk] ++ []):=rfl
  rw [e]
  have a:=tks_few false (shT_few (s.S j).k (s.S j).a)
  have b:=wear_len h0 h1 true
  simp only [List.length_append,List.length_nil]
  omega
theorem soI_len {s:Scn} {j:Nat} (h0:0≤(s.O j).sk) (h1:(s.O j).sk < 16) (hn:1≤(s.O j).n) (hP:PM (s.O j).n (s.O j).P):(comp (soI dcT tnX tbX s j) false).length≤2800:=by
  have e:comp (soI dcT tnX tbX s j) false=tks false (soT dcT tnX (s.O j).n (s.O j).P) ++ (lineE true [nmT (s.O j).sk] ++ []):=rfl
  rw [e]
  have a:=tks_few false (soT_few hn hP)
  have b:=wear_len h0 h1 true
  simp only [List.length_append,List.length_nil]
  omega
theorem feI_len {s:Scn} {j:Nat} (h:fFd (s.F j).c=0):(comp (feI dcT tnX tbX s j) false).length≤1600:=by
  obtain ⟨h1,h2,h3,h4,h5,h6,_⟩:fineS ((s.F j).at_ 0) ((s.F j).at_ 1) ((s.F j).at_ 2)=true∧nearS (s.F j).sd=true∧(s.F j).n≤64∧(2≤(s.F j).W∧(s.F j).W≤8∧2≤(s.F j).H∧(s.F j).H≤8)∧(0≤(s.F j).sk∧(s.F j).sk < 16)∧(∀ q,q < (s.F j).n→hBad ((s.F j).hs q)=false)∧(s.F j).mayN=0∧(mayS (bx (s.F j))==0)=true:=(fFd_ok (s.F j)).2 h
  have e:comp (feI dcT tnX tbX s j) false=tks false (fdT dcT tnX (s.F j)) ++ (lineE true [nmT (s.F j).sk] ++ []):=rfl
  rw [e]
  have f:Few 74 (fdT dcT tnX (s.F j)):=(few_app (few_cons (by decide) (few_cons (it_len (by omega) (by omega)) (few_cons (it_len (by omega) (by omega)) (few_cons (by decide) few_nil)))) (few_app (vT_few _ 0) (few_cons (by decide) (few_cons (ntk_len _) (few_cons (by decide) (hi_few h6)))))).up (by omega)
  have a:=tks_few false f
  have b:=wear_len h5.1 h5.2 true
  simp only [List.length_append,List.length_nil]
  omega
/-- The text of a scene that may be is not long. -/
theorem x6_len {s:Scn} (h:scE s=0):(x6 dcT tnX tbX s).length≤900000:=by
  have few:=(scN_of h).2
  unfold scE at h
  obtain ⟨h1,h⟩:=c4 (by decide) h
  obtain ⟨hK,h⟩:=c0 h
  obtain ⟨hT,h⟩:=c0 h
  obtain ⟨hL,h⟩:=c0 h
  obtain ⟨hY,h⟩:=c4 (by decide) h
  unfold thE at hT
  obtain ⟨hS,hT⟩:=c0 hT
  obtain ⟨hO,hF⟩:=c0 hT
  have a0:(x0 dcT tnX s).length≤316:=line_few false (eyT_few s.eye)
  have a1:=sky_len (s:=s) (li_all (not_no hY))
  have a2:=lineL_few (E:=fun j=>comp (skI dcT s j) false) (m:=400) s.nK fun j hj=>skI_len (by omega) (seq_zero _ hK j hj)
  have a3:=lineL_few (E:=fun j=>comp (lmI dcT tnX tbX s j) false) (m:=200) s.nL fun j hj=>by
    have hl:lmE (s.LA j) (s.LL j)=0:=seq_zero _ hL j hj
    unfold lmE at hl
    obtain ⟨_,hl⟩:=c4 (by decide) hl
    obtain ⟨b2,_⟩:=c4 (by decide) hl
    exact lmI_len (li_all (not_no b2))
  have a4:=lineL_few (E:=fun j=>comp (shI dcT tnX tbX s j) false) (m:=320) s.nS fun j hj=>by
    have hm:mayC (shC (s.S j).k (s.S j).a (s.S j).sk)=0:=we0 (seq_zero _ hS j hj)
    have:=(mayC_near hm).2.2
    exact shI_len this.1 this.2
  have a5:=lineL_few (E:=fun j=>comp (soI dcT tnX tbX s j) false) (m:=2800) s.nO fun j hj=>by
    have hm:soE (s.O j).n (s.O j).P (s.O j).sk=0:=we0 (seq_zero _ hO j hj)
    have hm':=(so_of hm).1
    unfold soE at hm
    obtain ⟨_,hm⟩:=c4 (by decide) hm
    obtain ⟨b2,_⟩:=c4 (by decide) hm
    have:=skB_rng b2
    exact soI_len this.1 this.2 hm'.1.1 hm'.2.1
  have a6:=lineL_few (E:=fun j=>comp (feI dcT tnX tbX s j) false) (m:=1600) s.nF fun j hj=>feI_len (we0 (seq_zero _ hF j hj))
  unfold x6 x5 x4 x3 x2 x1
  simp only [List.length_append]
  omega
/-- The code's Print of a scene that may be. -/
theorem print_spec {s:Scn} (h:scE s=0):FSpec Tryz.prog 12 [.agg s.c] (cond (w6 dcT tnX tbX s) (.tup [zA ⟨#[]⟩,iA 11]) (.tup [zA (lB (x6 dcT tnX tbX s)),iA 0])):=print_good h (scN_of h).1 (x6_len h)
end Go.Proofs.YtefphimaggjihaaGreatDoor.Pi

namespace Go.Proofs.YtefphimaggjihaaGreatDoor.Pi.Rd
open Go.Shelf Go.RowKit Go.Gv
theorem u8_dig:∀ d:Fin 10,(UInt8.ofNat (48+d.val)).toNat=48+d.val:=by decide
theorem dg_nat {d:Nat} (h:d < 10):(UInt8.ofNat (48+d)).toNat=48+d:=u8_dig ⟨d,h⟩
theorem dg_48:∀ d:Fin 10,(UInt8.ofNat (48+d.val)=48) ↔ d.val=0:=by decide
theorem dd_of:∀ (d k:Nat),k < 10 ^ (d+1)→Dig (Lib.decDigits k)∧vaL (Lib.decDigits k)=(k:Int)∧(1≤(Lib.decDigits k).length∧(Lib.decDigits k).length≤d+1)∧(1≤k→(Lib.decDigits k).head?≠some 48)∧(k < 10→(Lib.decDigits k).length=1):=fun d=>by
  have one:∀ k,k < 10→Dig (Lib.decDigits k)∧vaL (Lib.decDigits k)=(k:Int)∧(Lib.decDigits k).length=1∧(1≤k→(Lib.decDigits k).head?≠some 48):=fun k h=>by
    rw [Lib.decDigits_one h]
    refine ⟨fun b hb=>?_,?_,rfl,fun h1=>?_⟩
    · simp only [List.mem_singleton] at hb
      subst hb
      rw [dg_nat h]
      omega
    · show dv 0 _=_
      unfold dv
      rw [dg_nat h]
      omega
    · simp only [List.head?_cons,ne_eq,Option.some.injEq]
      rw [dg_48 ⟨k,h⟩]
      show ¬ k=0
      omega
  induction d with
  | zero =>
    intro k hk
    obtain ⟨h1,h2,h3,h4⟩:=one k (by omega)
    exact ⟨h1,h2,by omega,h4,fun _=>h3⟩
  | succ d ih =>
    intro k hk
    by_cases h:k < 10
    · obtain ⟨h1,h2,h3,h4⟩:=one k h
      exact ⟨h1,h2,by omega,h4,fun _=>h3⟩
    · obtain ⟨h1,h2,h3,h4,_⟩:=ih (k / 10) (by rw [Nat.pow_succ] at hk; omega)
      have hm:=dg_nat (show k % 10 < 10 by omega)
      rw [Lib.decDigits,dif_neg h]
      refine ⟨fun b hb=>?_,?_,?_,fun _=>?_,fun hc=>absurd hc h⟩
      · rcases List.mem_append.1 hb with hb | hb
        · exact h1 b hb
        · simp only [List.mem_singleton] at hb
          subst hb
          rw [hm]
          omega
      · rw [val_snoc,h2]
        unfold dv
        rw [hm]
        omega
      · rw [List.length_append,List.length_singleton]; omega
      · have:=h4 (by omega)
        cases hx:Lib.decDigits (k / 10) with
        | nil=>rw [hx] at h3; simp at h3
        | cons a r=>rw [hx] at this; exact this
theorem it_nat (k:Nat):Lib.itoa (k:Int)=Lib.decDigits k:=by
  unfold Lib.itoa
  rw [if_neg (by omega),Int.toNat_natCast]
theorem it_pln {k:Nat} (h:k < 1000000000):Pln (Lib.itoa (k:Int))∧vaL (Lib.itoa (k:Int))=(k:Int):=by
  obtain ⟨h1,h2,h3,h4,h5⟩:=dd_of 8 k (by omega)
  rw [it_nat]
  refine ⟨⟨h3.1,h3.2,h1,fun hl=>?_⟩,h2⟩
  refine h4 ?_
  by_cases h':k < 10
  · have:=h5 h'; omega
  · omega
/-- The part behind the point. -/
def frT (r:Nat):List UInt8:=Lib.trimRightB ((Lib.itoa ((1000+r:Nat):Int)).drop 1) 48
theorem tr_zero (l:List UInt8):Lib.trimRightB (l ++ [48]) 48=Lib.trimRightB l 48:=by
  unfold Lib.trimRightB
  rw [List.reverse_append]
  rfl
theorem tr_digit {l:List UInt8} {b:UInt8} (h:b≠48):Lib.trimRightB (l ++ [b]) 48=l ++ [b]:=by
  unfold Lib.trimRightB
  rw [List.reverse_append]
  show (List.dropWhile (·==48) (b::l.reverse)).reverse=_
  rw [List.dropWhile_cons,if_neg (by simpa using h)]
  simp
theorem d3 {r:Nat} (h:r < 1000):(Lib.itoa ((1000+r:Nat):Int)).drop 1=[UInt8.ofNat (48+r / 100),UInt8.ofNat (48+r / 10 % 10),UInt8.ofNat (48+r % 10)]:=by
  rw [it_nat,Lib.decDigits,dif_neg (by omega),Lib.decDigits,dif_neg (by omega),Lib.decDigits,dif_neg (by omega),Lib.decDigits_one (by omega)]
  show [_,_,_]=_
  rw [show (1000+r) / 10 / 10 % 10=r / 100 by omega,show (1000+r) / 10 % 10=r / 10 % 10 by omega,show (1000+r) % 10=r % 10 by omega]
theorem fr_of {r:Nat} (h0:0 < r) (h:r < 1000):Dig (frT r)∧frT r≠[]∧(frT r).length≤3∧vaL (frT r)*(if (frT r).length=1 then 100 else if (frT r).length=2 then 10 else 1)=(r:Int):=by
  have n1:=dg_nat (show r / 100 < 10 by omega)
  have n2:=dg_nat (show r / 10 % 10 < 10 by omega)
  have n3:=dg_nat (show r % 10 < 10 by omega)
  have z3:=dg_48 ⟨r % 10,by omega⟩
  have z2:=dg_48 ⟨r / 10 % 10,by omega⟩
  have z1:=dg_48 ⟨r / 100,by omega⟩
  simp only at z1 z2 z3
  unfold frT
  rw [d3 h]
  generalize UInt8.ofNat (48+r / 100)=x at *
  generalize UInt8.ofNat (48+r / 10 % 10)=y at *
  generalize UInt8.ofNat (48+r % 10)=w at *
  by_cases c3:w=48
  · subst c3
    rw [show [x,y,48]=[x,y] ++ [48] from rfl,tr_zero]
    have e3:r % 10=0:=z3.1 rfl
    by_cases c2:y=48
    · subst c2
      have e2:r / 10 % 10=0:=z2.1 rfl
      rw [show [x,48]=[x] ++ [48] from rfl,tr_zero]
      have c1:x≠48:=fun c=>by have:=z1.1 c; omega
      rw [show [x]=[] ++ [x] from rfl,tr_digit c1]
      refine ⟨fun b hb=>?_,by simp,by simp,?_⟩
      · simp at hb; subst hb; omega
      · simp [vaL,dv]; omega
    · rw [show [x,y]=[x] ++ [y] from rfl,tr_digit c2]
      refine ⟨fun b hb=>?_,by simp,by simp,?_⟩
      · simp at hb; rcases hb with rfl | rfl<;>omega
      · simp [vaL,dv]; omega
  · rw [show [x,y,w]=[x,y] ++ [w] from rfl,tr_digit c3]
    refine ⟨fun b hb=>?_,by simp,by simp,?_⟩
    · simp at hb; rcases hb with rfl | rfl | rfl<;>omega
    · simp [vaL,dv]; omega
/-- A printed number, read. -/
def NumB (p:List UInt8 × Int):Prop:=FSpec Tryz.prog 234 [zA (lB p.1)] (.tup [iA p.2,bA true])∧-1000000≤p.2∧p.2≤1000000
def WhoB (m:Int) (p:List UInt8 × Int):Prop:=FSpec Tryz.prog 245 [zA (lB p.1)] (.tup [iA p.2,bA true])∧0≤p.2∧p.2≤m
theorem dc_num {n:Int} (h:n.natAbs≤1000000):NumB (dcT n,n):=by
  refine ⟨?_,by show -1000000≤n; omega,by show n≤1000000; omega⟩
  obtain ⟨h1,h2⟩:=it_pln (k:=n.natAbs / 1000) (by omega)
  have key:∀ b:List UInt8,Dig b→b.length≤3→vaL b*(if b.length=1 then 100 else if b.length=2 then 10 else 1)=((n.natAbs % 1000:Nat):Int)→dcA n.natAbs=Lib.itoa ((n.natAbs / 1000:Nat):Int) ++ (if b=[] then [] else 46::b)→FSpec Tryz.prog 234 [zA (lB (dcT n))] (.tup [iA n,bA true]):=fun b hb hl hv hd=>by
    have e1:dcT n=numT (decide (n < 0)) (Lib.itoa ((n.natAbs / 1000:Nat):Int)) b:=by
      unfold dcT numT sg
      rw [hd]
      by_cases h0:n < 0
      · simp [h0]
      · simp [h0]
    have e2:numV (decide (n < 0)) (Lib.itoa ((n.natAbs / 1000:Nat):Int)) b=n:=by
      unfold numV
      rw [hv,h2]
      by_cases h0:n < 0
      · simp only [h0,decide_true,if_true]; omega
      · simp only [h0,decide_false,Bool.false_eq_true,if_false]; omega
    have:=num_spec (neg:=decide (n < 0)) h1 hb hl
    rw [← e1,e2] at this
    exact this
  by_cases hr:n.natAbs % 1000=0
  · refine key [] (fun _ h=>by cases h) (by simp) (by rw [hr]; rfl) ?_
    unfold dcA
    rw [if_pos hr]
    rfl
  · obtain ⟨g1,g2,g3,g4⟩:=fr_of (r:=n.natAbs % 1000) (by omega) (by omega)
    refine key _ g1 g3 g4 ?_
    unfold dcA
    rw [if_neg hr,if_neg g2]
    rfl
theorem it_num {k:Nat} (h:k≤1000):NumB (Lib.itoa (k:Int),(k:Int)*1000):=by
  obtain ⟨h1,h2⟩:=it_pln (k:=k) (by omega)
  refine ⟨?_,by show -1000000≤(k:Int)*1000; omega,by show (k:Int)*1000≤1000000; omega⟩
  have:=num_spec (neg:=false) (b:=[]) h1 (fun _ h=>by cases h) (by simp)
  unfold numT numV sg at this
  simp [h2] at this
  simpa [vaL] using this
theorem it_who {k:Nat} {m:Int} (h:(k:Int)≤m) (hm:m≤100000000):WhoB m (Lib.itoa (k:Int),(k:Int)):=by
  obtain ⟨h1,h2⟩:=it_pln (k:=k) (by omega)
  have:=whole_spec h1
  rw [h2] at this
  exact ⟨this,by show 0≤(k:Int); omega,h⟩
end Go.Proofs.YtefphimaggjihaaGreatDoor.Pi.Rd

namespace Go.Proofs.YtefphimaggjihaaGreatDoor.Pi.Rd
open Go.Shelf Go.RowKit Go.Gv
theorem inW_dig {b:UInt8} (h:48≤b.toNat∧b.toNat≤57):inW b=true:=by
  unfold inW iwB dgB
  rw [decide_eq_true (show (48:Int)≤(b.toNat:Int) by omega),decide_eq_true (show ((b.toNat:Nat):Int)≤57 by omega),decide_eq_true (show b.toNat < 128 by omega)]
  cases ltB (b.toNat:Int)<;>rfl
theorem tok_dig {l:List UInt8} (h:Dig l) (h0:l≠[]):Tok1 l:=Or.inl ⟨h0,fun b hb=>inW_dig (h b hb)⟩
theorem tok_it {k:Nat} (h:k < 1000000000):Tok1 (Lib.itoa (k:Int)):=by
  obtain ⟨h1,_⟩:=it_pln h
  exact tok_dig h1.d (fun e=>by have:=h1.n; rw [e] at this; simp at this)
theorem inW_pt:inW 46=true∧inW 45=true∧inW 115=true:=by decide
theorem tok_dc {n:Int} (h:n.natAbs≤1000000):Tok1 (dcT n):=by
  refine Or.inl ⟨(dc_ne n (by omega)).1,fun b hb=>?_⟩
  obtain ⟨h1,_⟩:=it_pln (k:=n.natAbs / 1000) (by omega)
  unfold dcT dcA at hb
  rcases List.mem_append.1 hb with hb | hb
  · split at hb
    · simp at hb; subst hb; exact inW_pt.2.1
    · cases hb
  · rcases List.mem_append.1 hb with hb | hb
    · exact inW_dig (h1.d b hb)
    · split at hb
      · cases hb
      · rename_i hr
        rcases List.mem_cons.1 hb with rfl | hb
        · exact inW_pt.1
        · exact inW_dig ((fr_of (r:=n.natAbs % 1000) (by omega) (by omega)).1 b hb)
theorem tok_nm {k:Nat} (h:k < 1000000000):Tok1 (nmT (k:Int)):=by
  obtain ⟨h1,_⟩:=it_pln h
  refine Or.inl ⟨by unfold nmT; simp,fun b hb=>?_⟩
  unfold nmT at hb
  rcases List.mem_cons.1 hb with rfl | hb
  · exact inW_pt.2.2
  · exact inW_dig (h1.d b hb)
/-- A word of small letters. -/
def Low (l:List UInt8):Bool:=!l.isEmpty&&l.all inW
theorem tok_low {l:List UInt8} (h:Low l=true):Tok1 l:=by
  unfold Low at h
  simp only [Bool.and_eq_true,Bool.not_eq_true',List.all_eq_true] at h
  exact Or.inl ⟨fun e=>by rw [e] at h; simp at h,h.2⟩
theorem tok_pnc {c:UInt8} (h:Pnc c):Tok1 [c]:=Or.inr ⟨c,h,rfl⟩
theorem nms_dig:∀ (w:List UInt8) {F pre:List UInt8} (n:Nat),F=pre ++ w→1≤n→Dig w→Nms (lB F) pre.length n w.length
  | [],F,pre,n,hF,_,_=>by show (lB F).size≤pre.length; rw [size_lB,hF]; simp
  | b :: w,F,pre,n,hF,hn,h=>by
    have hb:=h b (by simp)
    obtain ⟨h1,h2,h3⟩:=at_pre (F:=F) (pre:=pre) (rest:=w) (b:=b) hF (by omega)
    refine ⟨h1,?_,?_⟩
    · rw [h2]
      unfold nlB dgB
      rw [decide_eq_true (show (48:Int)≤(b.toNat:Int) by omega),decide_eq_true (show ((b.toNat:Nat):Int)≤57 by omega),beq_false_of_ne (show ((n:Nat):Int)≠0 by omega)]
      cases ltB (b.toNat:Int)<;>rfl
    · have ih:=nms_dig w (F:=F) (pre:=pre ++ [b]) (n+1) (by rw [hF]; simp) (by omega) fun x hx=>h x (by simp [hx])
      rw [List.length_append,List.length_singleton] at ih
      rw [h3]
      exact ih
theorem nm_name {k:Nat} (h:k < 1000000000):FSpec Tryz.prog 237 [zA (lB (nmT (k:Int)))] (bA true):=by
  obtain ⟨h1,_⟩:=it_pln h
  have hm:=h1.m
  refine name_spec (k:=1+(Lib.itoa (k:Int)).length) (by omega) (by omega) ?_
  obtain ⟨g1,g2,g3⟩:=at_pre (F:=nmT (k:Int)) (pre:=[]) (rest:=Lib.itoa (k:Int)) (b:=115) rfl (by decide)
  rw [Nat.add_comm]
  refine ⟨g1,?_,?_⟩
  · show nlB (dcI _ 0) _=false
    have g2:dcI (lB (nmT (k:Int))) 0=((115:UInt8).toNat:Int):=g2
    rw [g2]
    decide
  · have g3:dcW (lB (nmT (k:Int))) 0=1:=g3
    rw [g3]
    exact nms_dig (Lib.itoa (k:Int)) (F:=nmT (k:Int)) (pre:=[115]) 1 rfl (Nat.le_refl _) h1.d
theorem it_inj {j k:Nat} (hj:j < 1000000000) (hk:k < 1000000000) (h:Lib.itoa (j:Int)=Lib.itoa (k:Int)):j=k:=by
  have h1:=(it_pln hj).2
  have h2:=(it_pln hk).2
  rw [h,h2] at h1
  omega
abbrev TP:=List UInt8 × Int
/-- From here on there stand these tokens. -/
def At (t:Tk):Nat→List TP→Prop
  | a,[]=>a≤t.n∧t.n≤1000000
  | a,p::r=>(t.T a=lB p.1∧t.N a=p.2)∧At t (a+1) r
theorem At.le {t:Tk}:∀ {l:List TP} {a:Nat},At t a l→a+l.length≤t.n∧t.n≤1000000
  | [],_,h=>h
  | _::r,a,h=>by have:=At.le h.2; rw [List.length_cons]; omega
theorem At.has {t:Tk} {l:List TP} {a:Nat} (h:At t a l) (k:Nat) (hk:k≤l.length):Has t a k:=⟨by have:=h.le; omega,h.le.2⟩
theorem At.app {t:Tk}:∀ {x y:List TP} {a:Nat},At t a (x ++ y)→At t a x∧At t (a+x.length) y
  | [],y,a,h=>⟨⟨by have:=h.le; omega,h.le.2⟩,h⟩
  | p::r,y,a,h=>by
    obtain ⟨h1,h2⟩:=At.app (x:=r) h.2
    refine ⟨⟨h.1,h1⟩,?_⟩
    rw [List.length_cons,show a+(r.length+1)=a+1+r.length by omega]
    exact h2
theorem At.get {t:Tk}:∀ {l:List TP} {a i:Nat} {p:TP},At t a l→l[i]?=some p→t.T (a+i)=lB p.1∧t.N (a+i)=p.2
  | [],_,_,_,_,h=>by simp at h
  | q::r,a,0,p,h,hp=>by simp at hp; subst hp; exact h.1
  | q::r,a,i+1,p,h,hp=>by
    have:=At.get (l:=r) h.2 (i:=i) (p:=p) (by simpa using hp)
    rw [show a+(i+1)=a+1+i by omega]
    exact this
theorem At.is {t:Tk} {l:List TP} {a i:Nat} {w:List UInt8} {x:Int} (h:At t a l) (hp:l[i]?=some (w,x)):Is t (a+i) w:=(h.get hp).1
theorem At.num {t:Tk} {l:List TP} {a i:Nat} {p:TP} (h:At t a l) (hp:l[i]?=some p) (hn:NumB p):NumAt t (a+i):=by
  obtain ⟨h1,h2⟩:=h.get hp
  unfold NumAt
  rw [h1,h2]
  exact hn
theorem At.who {t:Tk} {l:List TP} {a i:Nat} {p:TP} {m:Int} (h:At t a l) (hp:l[i]?=some p) (hn:WhoB m p):WhoAt t m (a+i):=by
  obtain ⟨h1,h2⟩:=h.get hp
  unfold WhoAt
  rw [h1,h2]
  exact hn
/-- The tokens of a text of lines. -/
def tkOf (ps:List TP):Tk:=⟨ps.length,fun q=>(ps.map fun p=>lB p.1).getD q eB,fun q=>(ps.map Prod.snd).getD q 0⟩
theorem at_tk:∀ (r pre:List TP) {ps:List TP},ps=pre ++ r→ps.length≤1000000→At (tkOf ps) pre.length r
  | [],pre,ps,h,hl=>⟨by show pre.length≤ps.length; rw [h]; simp,hl⟩
  | p :: r,pre,ps,h,hl=>by
    refine ⟨⟨?_,?_⟩,?_⟩
    · show (ps.map fun p=>lB p.1).getD pre.length eB=lB p.1
      rw [h,List.getD_eq_getElem?_getD,List.map_append,List.getElem?_append_right (by simp)]
      simp
    · show (ps.map Prod.snd).getD pre.length 0=p.2
      rw [h,List.getD_eq_getElem?_getD,List.map_append,List.getElem?_append_right (by simp)]
      simp
    · have:=at_tk r (pre ++ [p]) (ps:=ps) (by rw [h]; simp) hl
      rw [List.length_append,List.length_singleton] at this
      exact this
end Go.Proofs.YtefphimaggjihaaGreatDoor.Pi.Rd

namespace Go.Proofs.YtefphimaggjihaaGreatDoor.Pi.Rd
open Go.Shelf Go.RowKit Go.Gv
open Hs.So (Prt prS)
open Hs.Sc (Scn)
def nP (x:Nat):TP:=(dcT (tnX x),tnX x)
def vP (a:Nat→Nat) (i:Nat):List TP:=[nP (a i),nP (a (i+1)),nP (a (i+2))]
def hP (f:Nat→Int):List TP:=[(Lib.itoa (f 0),f 0),(Lib.itoa (f 1),f 1),(Lib.itoa (f 2),f 2)]
def kP (w:List UInt8):TP:=(w,0)
def mP' (k:Int):TP:=(nmT k,0)
def eyP (e:Nat→Nat):List TP:=kP eyW::(vP e 0 ++ (kP [116,111]::(vP e 3 ++ (kP [117,112]::(vP e 6 ++ [kP [119,105,100,101],nP (e 9)])))))
def skyP (f:Nat→Int):List TP:=kP skyW::hP f
def skP (f g h:Nat→Int) (bd k:Int):List TP:=[kP W1,mP' k,kP W2] ++ (hP f ++ (kP W3::(hP g ++ (kP W4::(hP h ++ [kP W5,(dcT bd,bd)])))))
def lmP (a:Nat→Nat) (f:Nat→Int):List TP:=kP [108,97,109,112]::(vP a 0 ++ (kP [108,105,103,104,116]::hP f))
def rnP (w t:List UInt8) (a:Nat→Nat):List TP:=kP w::(vP a 0 ++ (kP t::(vP a 3 ++ [kP rad,nP (a 9)])))
def shP (k:Int) (a:Nat→Nat):List TP:=if k=1 then kP [98,97,108,108]::(vP a 0 ++ [kP rad,nP (a 9)]) else if k=2 then kP [98,108,111,99,107]::(vP a 0 ++ (kP [116,111]::vP a 3)) else if k=3 then kP [116,114,105]::(vP a 0 ++ (kP [44]::(vP a 3 ++ (kP [44]::vP a 6)))) else if k=4 then rnP [112,108,97,116,101] [117,112] a else if k=5 then rnP [116,117,98,101] [97,108,111,110,103] a else rnP [114,105,110,103] [117,112] a ++ [nP (a 10)]
def paP (P:Nat→Prt):Nat→Nat→List TP
  | 0,_=>[]
  | f+1,i=>if (P i).op=0 then shP (P i).k (P i).a else [kP (opT (P i).op),kP [123]] ++ (paP P f (P i).l.toNat ++ (paP P f (P i).r.toNat ++ [kP [125]]))
noncomputable def soP (n:Nat) (P:Nat→Prt):List TP:=kP soW::cond (arB n P) (paP P n (n - 1)) []
def hiP (hs:Nat→Int) (j:Nat):List TP:=(List.range j).map fun q=>(dcT (hs q),hs q)
def fdP (F:Hs.Fm.Fd):List TP:=[kP [102,105,101,108,100],(Lib.itoa F.W,F.W*1000),(Lib.itoa F.H,F.H*1000),kP [97,116]] ++ (vP F.at_ 0 ++ (kP [115,105,100,101]::(nP F.sd::(kP [104,105,103,104]::hiP F.hs F.n))))
theorem shP_f (k:Int) (a:Nat→Nat):(shP k a).map Prod.fst=shT dcT tnX k a:=by
  unfold shP shT
  repeat' split
  all_goals rfl
theorem paP_f (P:Nat→Prt):∀ f i,(paP P f i).map Prod.fst=paT dcT tnX P f i
  | 0,_=>rfl
  | f + 1,i=>by
    unfold paP paT
    split
    · exact shP_f _ _
    · rw [List.map_append,List.map_append,List.map_append,paP_f P f,paP_f P f]
      rfl
theorem soP_f (n:Nat) (P:Nat→Prt):(soP n P).map Prod.fst=soT dcT tnX n P:=by
  unfold soP soT
  rw [List.map_cons]
  cases arB n P
  · rfl
  · show _::(paP P n (n - 1)).map Prod.fst=_
    rw [paP_f]
    rfl
theorem fdP_f (F:Hs.Fm.Fd):(fdP F).map Prod.fst=fdT dcT tnX F:=by
  unfold fdP fdT
  simp only [List.map_append,List.map_cons]
  have:(hiP F.hs F.n).map Prod.fst=hiT dcT F F.n:=by
    unfold hiP hiT
    rw [List.map_map]
    rfl
  rw [this]
  rfl
section
variable (s:Scn)
def ln1:List (List TP):=[eyP s.eye,skyP s.sky]
def ln2 (j:Nat):List TP:=skP (s.K j) (fun q=>s.K j (3+q)) (fun q=>s.K j (6+q)) (s.K j 9) (j:Nat)
def ln3 (j:Nat):List TP:=lmP (s.LA j) (s.LL j)
def ln4 (j:Nat):List TP:=shP (s.S j).k (s.S j).a ++ [mP' (s.S j).sk]
noncomputable def ln5 (j:Nat):List TP:=soP (s.O j).n (s.O j).P ++ [mP' (s.O j).sk]
def ln6 (j:Nat):List TP:=fdP (s.F j) ++ [mP' (s.F j).sk]
/-- The lines of a printed scene. -/
noncomputable def lns:List (List TP):=ln1 s ++ ((List.range s.nK).map (ln2 s) ++ ((List.range s.nL).map (ln3 s) ++ ((List.range s.nS).map (ln4 s) ++ ((List.range s.nO).map (ln5 s) ++ (List.range s.nF).map (ln6 s)))))
def lnT (l:List TP):List UInt8:=lineT (l.map Prod.fst)
theorem lineL_eq (E:Nat→List UInt8) (L:Nat→List TP) (h:∀ j,E j=lnT (L j)):∀ n,lineL E n=((List.range n).map L).flatMap lnT
  | 0=>rfl
  | n+1=>by
    rw [List.range_succ,List.map_append,List.flatMap_append,← lineL_eq E L h n]
    show _ ++ E n=_
    rw [h]
    simp
theorem two_eq {A:List (List UInt8)} (h:A≠[]) (k:Int):tks false A ++ (lineE true [nmT k] ++ [])=lineT (A ++ [nmT k]):=by
  show _ ++ ((tks true ([nmT k] ++ [[59]]) ++ [10]) ++ [])=tks false (A ++ [nmT k] ++ [[59]]) ++ [10]
  rw [List.append_nil,List.append_assoc,tks_app A _ false h,List.append_assoc]
theorem shT_ne (k:Int) (a:Nat→Nat):shT dcT tnX k a≠[]:=by
  unfold shT
  repeat' split
  all_goals exact fun h=>by cases h
theorem x6_lines:x6 dcT tnX tbX s=(lns s).flatMap lnT:=by
  have e2:∀ j,comp (skI dcT s j) false=lnT (ln2 s j):=fun j=>List.append_nil _
  have e3:∀ j,comp (lmI dcT tnX tbX s j) false=lnT (ln3 s j):=fun j=>List.append_nil _
  have e4:∀ j,comp (shI dcT tnX tbX s j) false=lnT (ln4 s j):=fun j=>by
    unfold lnT ln4
    rw [List.map_append,shP_f]
    exact two_eq (shT_ne _ _) _
  have e5:∀ j,comp (soI dcT tnX tbX s j) false=lnT (ln5 s j):=fun j=>by
    unfold lnT ln5
    rw [List.map_append,soP_f]
    exact two_eq (fun h=>by cases h) _
  have e6:∀ j,comp (feI dcT tnX tbX s j) false=lnT (ln6 s j):=fun j=>by
    unfold lnT ln6
    rw [List.map_append,fdP_f]
    exact two_eq (fun h=>by cases h) _
  have e1:comp (skyI s) false=lnT (skyP s.sky):=by
    show tks false [skyW] ++ (tks true (whT s.sky) ++ ((tks true [[59]] ++ [10]) ++ []))=tks false (skyW::whT s.sky ++ [[59]]) ++ [10]
    have:=tks_app [skyW] (whT s.sky ++ [[59]]) false (by simp)
    rw [List.append_nil,show skyW::whT s.sky ++ [[59]]=[skyW] ++ (whT s.sky ++ [[59]]) from rfl,this,tks_appT,List.append_assoc,List.append_assoc]
  unfold x6 x5 x4 x3 x2 x1 x0 lns ln1
  rw [lineL_eq _ _ e2,lineL_eq _ _ e3,lineL_eq _ _ e4,lineL_eq _ _ e5,lineL_eq _ _ e6,e1]
  simp only [List.flatMap_append,List.append_assoc]
  rw [List.flatMap_cons,List.flatMap_cons,List.flatMap_nil,List.append_nil,List.append_assoc]
  rfl
/-- All tokens of a printed scene. -/
noncomputable def tks6:List TP:=(lns s).flatMap fun l=>l ++ [kP [59]]
theorem tks6_f:(tks6 s).map Prod.fst=((lns s).map fun l=>l.map Prod.fst).flatMap lineK:=by
  unfold tks6
  rw [List.map_flatMap,List.flatMap_map]
  congr 1
  funext l
  rw [List.map_append]
  rfl
end
theorem cut_6 {s:Scn} (h:∀ l,l ∈ lns s→∀ p,p ∈ l→Tok1 p.1):Cut (lB (x6 dcT tnX tbX s)) 0 ((tks6 s).map fun p=>lB p.1):=by
  have:=cut_lines ((lns s).map fun l=>l.map Prod.fst) (fun ts hts t ht=>by
    obtain ⟨l,hl,rfl⟩:=List.mem_map.1 hts
    obtain ⟨p,hp,rfl⟩:=List.mem_map.1 ht
    exact h l hl p hp) (F:=x6 dcT tnX tbX s) (pre:=[]) (by rw [x6_lines,List.flatMap_map]; rfl)
  rw [← tks6_f,List.map_map] at this
  exact this
theorem tok_6 {s:Scn} (h:∀ l,l ∈ lns s→∀ p,p ∈ l→Tok1 p.1) (hl:(tks6 s).length≤1000000):FSpec Tryz.prog 25 [zA (lB (x6 dcT tnX tbX s))] (tkSl (tkOf (tks6 s))):=by
  have:=tokens_spec (cut_6 h) (by rw [List.length_map]; exact hl)
  rw [List.length_map] at this
  exact this
end Go.Proofs.YtefphimaggjihaaGreatDoor.Pi.Rd

namespace Go.Proofs.YtefphimaggjihaaGreatDoor.Pi.Rd
open Go.Shelf Go.RowKit Go.Gv
open Hs.So (Prt prS)
open Hs (shC)
/-- No group is open. -/
def Z0 (z:Nat→Int):Prop:=z 24=0∧z 25=0∧z 26=0
theorem tn_few (x:Nat):(tnX x).natAbs≤1000000:=by
  cases h:tbX x
  · unfold tnX
    rw [h]
    show (0:Int).natAbs≤_
    decide
  · exact (tb_has h).1
theorem nP_num (x:Nat):NumB (nP x):=dc_num (tn_few x)
/-- The float that is read of a printed number. -/
noncomputable def rdF (x:Nat):Nat:=yI (tnX x)
noncomputable def rd (b:Nat→Nat) (q:Nat):Nat:=rdF (b q)
def cX (k:Int) (a:Nat→Nat):Nat→Nat:=if k=1 then t1 a else if k=2 then t2 a else if k=3 then t3 a else if k=4 then t4 a else if k=5 then t4 a else t6 a
section
variable {t:Tk} {a:Nat} {z:Nat→Int} {b:Nat→Nat} {l:List TP}
theorem pt_at {i0:Nat} (h:At t a (vP b i0 ++ l)) (hz:Z0 z):ShOk t z a∧∀ i,i < 3→fS t z yI a i=rdF (b (i0+i)):=by
  have key:∀ i,i < 3→(vP b i0 ++ l)[i]?=some (nP (b (i0+i))):=fun i hi=>by
    match i,hi with
    | 0,_=>rfl
    | 1,_=>rfl
    | 2,_=>rfl
  have hs:∀ i,i < 3→shN t z a i=tnX (b (i0+i)):=fun i hi=>by
    have e:=(h.get (key i hi)).2
    have e:t.N (a+i)=tnX (b (i0+i)):=e
    have hf:=tn_few (b (i0+i))
    have ez:z (24+i)=0:=by
      match i,hi with
      | 0,_=>exact hz.1
      | 1,_=>exact hz.2.1
      | 2,_=>exact hz.2.2
    unfold shN
    rw [e,ez,w64_id (by omega) (by omega)]
    omega
  refine ⟨fun i hi=>⟨h.num (key i hi) (nP_num _),?_⟩,fun i hi=>?_⟩
  · rw [hs i hi]
    have hf:=tn_few (b (i0+i))
    omega
  · unfold fS
    rw [hs i hi]
    rfl
theorem dr_at {i0:Nat} (h:At t a (vP b i0 ++ l)):(∀ i,i < 3→NumAt t (a+i))∧∀ i,i < 3→fN t yI (a+i)=rdF (b (i0+i)):=by
  have key:∀ i,i < 3→(vP b i0 ++ l)[i]?=some (nP (b (i0+i))):=fun i hi=>by
    match i,hi with
    | 0,_=>rfl
    | 1,_=>rfl
    | 2,_=>rfl
  refine ⟨fun i hi=>h.num (key i hi) (nP_num _),fun i hi=>?_⟩
  unfold fN
  rw [(h.get (key i hi)).2]
  rfl
theorem fl_at {i:Nat} {x:Nat} (h:At t a l) (hp:l[i]?=some (nP x)):fN t yI (a+i)=rdF x:=by
  unfold fN
  rw [(h.get hp).2]
  rfl
theorem ba_tok (h:At t a (shP 1 b ++ l)) (hz:Z0 z):Lf t 187 [] (.agg (shC 1 (cX 1 (rd b)) 0)) (a+1) 5 z z:=by
  have hB:At t (a+1) (vP b 0 ++ ([kP rad,nP (b 9)] ++ l)):=h.2
  obtain ⟨p1,p2⟩:=pt_at hB hz
  have e:=ball_spec (hB.has 5 (by simp [vP])) p1 (hB.is (i:=3) rfl) (hB.num (i:=4) rfl (nP_num _))
  unfold cBa at e
  rw [p2 0 (by omega),p2 1 (by omega),p2 2 (by omega),fl_at hB (i:=4) rfl] at e
  exact e
theorem bk_tok (h:At t a (shP 2 b ++ l)) (hz:Z0 z):Lf t 188 [] (.agg (shC 2 (cX 2 (rd b)) 0)) (a+1) 7 z z:=by
  have hB:At t (a+1) (vP b 0 ++ ((kP [116,111]::vP b 3) ++ l)):=h.2
  have hC:At t (a+1+4) (vP b 3 ++ l):=(At.app (x:=vP b 0 ++ [kP [116,111]]) (y:=vP b 3 ++ l) hB).2
  obtain ⟨p1,p2⟩:=pt_at hB hz
  obtain ⟨q1,q2⟩:=pt_at hC hz
  have e:=block_spec (hB.has 7 (by simp [vP])) p1 (hB.is (i:=3) rfl) q1
  unfold cBk at e
  rw [p2 0 (by omega),p2 1 (by omega),p2 2 (by omega),q2 0 (by omega),q2 1 (by omega),q2 2 (by omega)] at e
  exact e
theorem tr_tok (h:At t a (shP 3 b ++ l)) (hz:Z0 z):Lf t 190 [] (.agg (shC 3 (cX 3 (rd b)) 0)) (a+1) 11 z z:=by
  have hB:At t (a+1) (vP b 0 ++ ((kP [44]::(vP b 3 ++ (kP [44]::vP b 6))) ++ l)):=h.2
  have hC:At t (a+1+4) (vP b 3 ++ ((kP [44]::vP b 6) ++ l)):=(At.app (x:=vP b 0 ++ [kP [44]]) (y:=vP b 3 ++ ((kP [44]::vP b 6) ++ l)) hB).2
  have hD:At t (a+1+8) (vP b 6 ++ l):=(At.app (x:=vP b 0 ++ [kP [44]] ++ vP b 3 ++ [kP [44]]) (y:=vP b 6 ++ l) hB).2
  obtain ⟨p1,p2⟩:=pt_at hB hz
  obtain ⟨q1,q2⟩:=pt_at hC hz
  obtain ⟨r1,r2⟩:=pt_at hD hz
  have e:=tri_spec (hB.has 11 (by simp [vP])) p1 (hB.is (i:=3) rfl) q1 (hB.is (i:=7) rfl) r1
  unfold cTr at e
  rw [p2 0 (by omega),p2 1 (by omega),p2 2 (by omega),q2 0 (by omega),q2 1 (by omega),q2 2 (by omega),r2 0 (by omega),r2 1 (by omega),r2 2 (by omega)] at e
  exact e
theorem ro_tok {w u:List UInt8} {k:Int} (h:At t a (rnP w u b ++ l)) (hz:Z0 z):Lf t 220 [iA k,zA (lB u)] (.agg (shC k (t4 (rd b)) 0)) (a+1) 9 z z∧cRo t z yI k (a+1)=shC k (t4 (rd b)) 0:=by
  have hB:At t (a+1) (vP b 0 ++ ((kP u::(vP b 3 ++ [kP rad,nP (b 9)])) ++ l)):=h.2
  have hC:At t (a+1+4) (vP b 3 ++ ([kP rad,nP (b 9)] ++ l)):=(At.app (x:=vP b 0 ++ [kP u]) (y:=vP b 3 ++ ([kP rad,nP (b 9)] ++ l)) hB).2
  obtain ⟨p1,p2⟩:=pt_at hB hz
  obtain ⟨q1,q2⟩:=dr_at hC
  have e:=round_spec (k:=k) (hB.has 9 (by simp [vP])) p1 (hB.is (i:=3) rfl) q1 (hB.is (i:=7) rfl) (hB.num (i:=8) rfl (nP_num _))
  have ec:cRo t z yI k (a+1)=shC k (t4 (rd b)) 0:=by
    have q0:fN t yI (a+1+4)=rdF (b 3):=q2 0 (by omega)
    have q1:fN t yI (a+1+5)=rdF (b 4):=q2 1 (by omega)
    have q3:fN t yI (a+1+6)=rdF (b 5):=q2 2 (by omega)
    unfold cRo
    rw [p2 0 (by omega),p2 1 (by omega),p2 2 (by omega),q0,q1,q3,fl_at hB (i:=8) rfl]
    rfl
  rw [ec] at e
  exact ⟨e,ec⟩
theorem pl_tok (h:At t a (shP 4 b ++ l)) (hz:Z0 z):Lf t 191 [] (.agg (shC 4 (cX 4 (rd b)) 0)) (a+1) 9 z z:=by
  have h:At t a (rnP [112,108,97,116,101] [117,112] b ++ l):=h
  obtain ⟨e,ec⟩:=ro_tok (k:=4) h hz
  have:=plate_spec (t:=t) (z:=z) (a:=a+1) (by rw [ec]; exact e)
  rw [ec] at this
  exact this
theorem tu_tok (h:At t a (shP 5 b ++ l)) (hz:Z0 z):Lf t 189 [] (.agg (shC 5 (cX 5 (rd b)) 0)) (a+1) 9 z z:=by
  have h:At t a (rnP [116,117,98,101] [97,108,111,110,103] b ++ l):=h
  obtain ⟨e,ec⟩:=ro_tok (k:=5) h hz
  have:=tube_spec (t:=t) (z:=z) (a:=a+1) (by rw [ec]; exact e)
  rw [ec] at this
  exact this
theorem ri_tok (h:At t a (shP 6 b ++ l)) (hz:Z0 z):Lf t 192 [] (.agg (shC 6 (cX 6 (rd b)) 0)) (a+1) 10 z z:=by
  have h:At t a (rnP [114,105,110,103] [117,112] b ++ ([nP (b 10)] ++ l)):=by
    have h:At t a ((rnP [114,105,110,103] [117,112] b ++ [nP (b 10)]) ++ l):=h
    rwa [List.append_assoc] at h
  obtain ⟨e,ec⟩:=ro_tok (k:=6) h hz
  have hB:At t (a+1) (vP b 0 ++ ((kP [117,112]::(vP b 3 ++ [kP rad,nP (b 9)])) ++ ([nP (b 10)] ++ l))):=h.2
  have:=ring_spec (t:=t) (z:=z) (a:=a+1) (by rw [ec]; exact e) ⟨by have:=(hB.has 10 (by simp [vP])).1; omega,hB.le.2⟩ (hB.num (i:=9) rfl (nP_num _))
  have er:cRi t z yI (a+1)=shC 6 (cX 6 (rd b)) 0:=by
    have h10:fN t yI (a+1+9)=rdF (b 10):=fl_at hB (i:=9) rfl
    have hC:At t (a+1+4) (vP b 3 ++ ([kP rad,nP (b 9)] ++ ([nP (b 10)] ++ l))):=(At.app (x:=vP b 0 ++ [kP [117,112]]) (y:=vP b 3 ++ ([kP rad,nP (b 9)] ++ ([nP (b 10)] ++ l))) hB).2
    obtain ⟨p1,p2⟩:=pt_at hB hz
    obtain ⟨q1,q2⟩:=dr_at hC
    have q0:fN t yI (a+1+4)=rdF (b 3):=q2 0 (by omega)
    have q1:fN t yI (a+1+5)=rdF (b 4):=q2 1 (by omega)
    have q3:fN t yI (a+1+6)=rdF (b 5):=q2 2 (by omega)
    unfold cRi
    rw [h10,p2 0 (by omega),p2 1 (by omega),p2 2 (by omega),q0,q1,q3,fl_at hB (i:=8) rfl]
    rfl
  rw [er] at this
  exact this
theorem sh_tok {k:Int} (hk:1≤k∧k≤6) (h:At t a (shP k b ++ l)) (hz:Z0 z):ShTk t z a k (cX k (rd b)) (shP k b).length:=by
  have hk':k=1∨k=2∨k=3∨k=4∨k=5∨k=6:=by omega
  rcases hk' with rfl | rfl | rfl | rfl | rfl | rfl
  · exact .ba (h.has 1 (by simp [shP])) (h.is (i:=0) rfl) (ba_tok h hz)
  · exact .bk (h.has 1 (by simp [shP])) (h.is (i:=0) rfl) (bk_tok h hz)
  · exact .tr (h.has 1 (by simp [shP])) (h.is (i:=0) rfl) (tr_tok h hz)
  · exact .pl (h.has 1 (by simp [shP,rnP])) (h.is (i:=0) rfl) (pl_tok h hz)
  · exact .tu (h.has 1 (by simp [shP,rnP])) (h.is (i:=0) rfl) (tu_tok h hz)
  · exact .ri (h.has 1 (by simp [shP,rnP])) (h.is (i:=0) rfl) (ri_tok h hz)
theorem Z0.set (hz:Z0 z) {i:Nat} (hi:i < 24∨26 < i) (x:Int):Z0 (setZ z i x):=by
  have key:∀ q,24≤q→q≤26→setZ z i x q=z q:=fun q h1 h2=>by
    unfold setZ
    rw [show Nat.beq q i=false from by
      cases hb:Nat.beq q i
      · rfl
      · have:=Nat.eq_of_beq_eq_true hb; omega]
    rfl
  exact ⟨(key 24 (by omega) (by omega)).trans hz.1,(key 25 (by omega) (by omega)).trans hz.2.1,(key 26 (by omega) (by omega)).trans hz.2.2⟩
theorem lf_tok {k:Int} (hk:k=1∨k=2∨k=5) (h:At t a (shP k b ++ l)) (hz:Z0 z):LfOk t z a k (cX k (rd b)) (shP k b).length:=by
  rcases hk with rfl | rfl | rfl
  · exact .ba (h.has 1 (by simp [shP])) (h.is (i:=0) rfl) fun x=>ba_tok h (hz.set (Or.inr (by omega)) x)
  · exact .bk (h.has 1 (by simp [shP])) (h.is (i:=0) rfl) fun x=>bk_tok h (hz.set (Or.inr (by omega)) x)
  · exact .tu (h.has 1 (by simp [shP,rnP])) (h.is (i:=0) rfl) fun x=>tu_tok h (hz.set (Or.inr (by omega)) x)
end
end Go.Proofs.YtefphimaggjihaaGreatDoor.Pi.Rd

namespace Go.Proofs.YtefphimaggjihaaGreatDoor.Pi.Rd
open Go.Shelf Go.RowKit Go.Gv
open Hs.So (Prt prS)
open Hs (shC)
variable {P:Nat→Prt}
def szQ (P:Nat→Prt) (k:Nat):Int:=(sd P (k+1)).1 k
def dpQ (P:Nat→Prt) (k:Nat):Int:=(sd P (k+1)).2 k
theorem sd_keep1 {j:Nat}:∀ {n:Nat},j < n→(sd P n).1 j=szQ P j∧(sd P n).2 j=dpQ P j:=fun {n} h=>by
  induction n with
  | zero=>omega
  | succ n ih =>
    by_cases hj:j=n
    · subst hj; exact ⟨rfl,rfl⟩
    · obtain ⟨h1,h2⟩:=ih (by omega)
      rw [sd_succ]
      by_cases h0:(P n).op=0
      · rw [if_pos h0]
        exact ⟨by show upd _ n 1 j=_; unfold upd; rw [if_neg hj]; exact h1,h2⟩
      · rw [if_neg h0]
        exact ⟨by show upd _ n _ j=_; unfold upd; rw [if_neg hj]; exact h1,by show upd _ n _ j=_; unfold upd; rw [if_neg hj]; exact h2⟩
theorem sd_out:∀ (j q:Nat),j≤q→(sd P j).2 q=0
  | 0,_,_=>rfl
  | j + 1,q,h=>by
    rw [sd_succ]
    split
    · exact sd_out j q (by omega)
    · show upd _ j _ q=0
      unfold upd
      rw [if_neg (by omega)]
      exact sd_out j q (by omega)
theorem szq_leaf {k:Nat} (h0:(P k).op=0):szQ P k=1∧dpQ P k=0:=by
  unfold szQ dpQ
  rw [sd_succ,if_pos h0]
  exact ⟨if_pos rfl,sd_out k k (Nat.le_refl _)⟩
theorem szq_node {k:Nat} (h0:(P k).op≠0) (l0:0≤(P k).l) (l1:(P k).l < (k:Nat)) (_:0≤(P k).r) (r1:(P k).r < (k:Nat)):szQ P k=1+(szQ P (P k).l.toNat+szQ P (P k).r.toNat)∧dpQ P k=1+mx (dpQ P (P k).l.toNat) (dpQ P (P k).r.toNat):=by
  obtain ⟨a1,a2⟩:=sd_keep1 (P:=P) (j:=(P k).l.toNat) (n:=k) (by omega)
  obtain ⟨b1,b2⟩:=sd_keep1 (P:=P) (j:=(P k).r.toNat) (n:=k) (by omega)
  rw [← a1,← a2,← b1,← b2]
  unfold szQ dpQ
  rw [sd_succ,if_neg h0]
  exact ⟨if_pos rfl,if_pos rfl⟩
theorem szq_nn (k:Nat):0≤szQ P k:=(sd_rng P (k+1) k).1.1
theorem dpq_nn (k:Nat):0≤dpQ P k:=(sd_rng P (k+1) k).2.1
theorem mx_leq {a b M:Int} (h:mx a b≤M):a≤M∧b≤M:=by unfold mx at h; split at h<;>omega
/-- A part that was read. -/
noncomputable def rdP' (p:Prt):Prt:=if p.op=0 then ⟨0,0,0,p.k,cX p.k (rd p.a),0⟩ else ⟨p.op,p.l,p.r,0,fun _=>0,0⟩
theorem szq_pos {n k:Nat} (hP:PM n P) (hk:k < n):1≤szQ P k:=by
  by_cases h0:(P k).op=0
  · rw [(szq_leaf h0).1]; omega
  · rcases hP k hk with h | ⟨_,h2,h3⟩
    · exact absurd h h0
    · rw [(szq_node h0 h2.1 h2.2 h3.1 h3.2).1]
      have:=szq_nn (P:=P) (P k).l.toNat
      have:=szq_nn (P:=P) (P k).r.toNat
      omega
theorem pt_tok {t:Tk} {z:Nat→Int} {n:Nat} (hn:n≤16) (hP:PM n P) (hz:Z0 z) (hS:∀ i,i < n→(P i).op=0→(P i).k=1∨(P i).k=2∨(P i).k=5):∀ (f k:Nat) (fr:Nat) (d a:Nat) (l:List TP),k < f→k < n→fr≤k→(∀ j,fr≤j→j≤k→okJ P j)→szQ P k=(k:Int) - fr+1→dpQ P k≤(d:Nat) →
    At t a (paP P f k ++ l)→PtOk t z (fun i=>rdP' (P i)) d a fr (a+(paP P f k).length) (k+1)
  | 0,_,_,_,_,_,h,_,_,_,_,_,_=>absurd h (Nat.not_lt_zero _)
  | f + 1,k,fr,d,a,l,hf,hk,hfr,hok,hsz,hd,hA=>by
    by_cases h0:(P k).op=0
    · have e:fr=k:=by have:=(szq_leaf h0).1; omega
      subst e
      have ep:paP P (f+1) fr=shP (P fr).k (P fr).a:=by show (if _ then _ else _)=_; rw [if_pos h0]
      rw [ep] at hA ⊢
      exact .leaf (lf_tok (hS fr hk h0) hA hz) (by show rdP' _=_; unfold rdP'; rw [if_pos h0]) (by omega)
    · have ep:paP P (f+1) k=[kP (opT (P k).op),kP [123]] ++ (paP P f (P k).l.toNat ++ (paP P f (P k).r.toNat ++ [kP [125]])):=by show (if _ then _ else _)=_; rw [if_neg h0]
      rcases hP k hk with h | ⟨ho,hl,hr⟩
      · exact absurd h h0
      obtain ⟨_,hj⟩:=hok k hfr (Nat.le_refl _)
      rcases hj with h | ⟨er,el⟩
      · exact absurd h h0
      obtain ⟨s1,s2⟩:=szq_node h0 hl.1 hl.2 hr.1 hr.2
      have hkp:0 < k:=by omega
      rw [show (sd P k).1 (k - 1)=szQ P (k - 1) from (sd_keep1 (by omega)).1] at el
      have er2:(P k).r.toNat=k - 1:=by omega
      have hlk:(P k).l.toNat < n:=by omega
      have p1:=szq_pos hP hlk
      rw [er2] at s1 s2
      have hl2:fr≤(P k).l.toNat:=by omega
      obtain ⟨d',rfl⟩:∃ d',d=d'+1:=⟨d - 1,by have:=dpq_nn (P:=P) (k - 1); have:=dpq_nn (P:=P) (P k).l.toNat; have:0≤mx (dpQ P (P k).l.toNat) (dpQ P (k - 1)):=by { unfold mx; split<;>omega }; omega⟩
      obtain ⟨m1,m2⟩:=mx_leq (a:=dpQ P (P k).l.toNat) (b:=dpQ P (k - 1)) (M:=(d':Nat)) (by omega)
      rw [ep,er2] at hA ⊢
      have hA0:At t a ([kP (opT (P k).op),kP [123]] ++ (paP P f (P k).l.toNat ++ (paP P f (k - 1) ++ ([kP [125]] ++ l)))):=by
        simpa only [List.append_assoc] using hA
      have hA1:At t (a+2) (paP P f (P k).l.toNat ++ (paP P f (k - 1) ++ ([kP [125]] ++ l))):=hA0.app.2
      have hA2:=hA1.app.2
      have hA3:=hA2.app.2
      have L:=pt_tok hn hP hz hS f (P k).l.toNat fr d' (a+2) _ (by omega) hlk hl2 (fun j h1 h2=>hok j h1 (by omega)) (by omega) m1 hA1
      have R:=pt_tok hn hP hz hS f (k - 1) ((P k).l.toNat+1) d' _ _ (by omega) (by omega) (by have:=szq_pos (P:=P) hP (show k - 1 < n by omega); omega) (fun j h1 h2=>hok j (by omega) (by omega)) (by omega) m2 hA2
      have eR:k - 1+1=k:=by omega
      rw [eR] at R
      have hop:((P k).op=1∧Is t a wBo)∨((P k).op=2∧Is t a wEi)∨((P k).op=3∧Is t a wLe):=by
        have hi:Is t a (opT (P k).op):=hA0.is (i:=0) rfl
        have ho':(P k).op=1∨(P k).op=2∨(P k).op=3:=by omega
        rcases ho' with h | h | h
        · rw [h] at hi; exact Or.inl ⟨h,hi⟩
        · rw [h] at hi; exact Or.inr (Or.inl ⟨h,hi⟩)
        · rw [h] at hi; exact Or.inr (Or.inr ⟨h,hi⟩)
      have N:=PtOk.node hop (hA0.has 2 (by simp)) (hA0.is (i:=1) rfl) L R (hA3.has 1 (by simp)) (hA3.is (i:=0) rfl) (by
        show rdP' _=_
        unfold rdP'
        rw [if_neg h0]
        have e1:(P k).l=(((P k).l.toNat+1 - 1:Nat):Int):=by omega
        have e2:(P k).r=((k - 1:Nat):Int):=by omega
        rw [← e1,← e2]) (by omega)
      have elen:a+([kP (opT (P k).op),kP [123]] ++ (paP P f (P k).l.toNat ++ (paP P f (k - 1) ++ [kP [125]]))).length=a+2+(paP P f (P k).l.toNat).length+(paP P f (k - 1)).length+1:=by
        simp only [List.length_append,List.length_cons,List.length_nil]
        omega
      rw [elen]
      exact N
end Go.Proofs.YtefphimaggjihaaGreatDoor.Pi.Rd

namespace Go.Proofs.YtefphimaggjihaaGreatDoor.Pi.Rd
open Go.Shelf Go.RowKit Go.Gv
open Hs.So (Prt prS)
open Hs (shC)
open Hs.Sc (Scn)
/-- A whole number of so many. -/
def Wn (m:Int) (x:Int):Prop:=∃ k:Nat,x=(k:Int)∧(k:Int)≤m
theorem wn_who {m x:Int} (h:Wn m x) (hm:m≤100000000):WhoB m (Lib.itoa x,x):=by
  obtain ⟨k,rfl,hk⟩:=h
  exact it_who hk hm
section
variable {t:Tk} {a:Nat} {z:Nat→Int} {c:Ct} {l:List TP}
theorem who3 {i0:Nat} {f:Nat→Int} {m:Int} (h:At t a l) (h0:l[i0]?=some (Lib.itoa (f 0),f 0)) (h1:l[i0+1]?=some (Lib.itoa (f 1),f 1)) (h2:l[i0+2]?=some (Lib.itoa (f 2),f 2)) (hf:∀ q,q < 3→Wn m (f q)) (hm:m≤100000000):∀ i,i < 3→WhoAt t m (a+i0+i):=fun i hi=>by
  match i,hi with
  | 0,_=>exact h.who h0 (wn_who (hf 0 (by omega)) hm)
  | 1,_=>exact h.who h1 (wn_who (hf 1 (by omega)) hm)
  | 2,_=>exact h.who h2 (wn_who (hf 2 (by omega)) hm)
/-- The names that were read so far are those of the first skins. -/
structure Nms0 (c:Ct) (j:Nat):Prop where
  n:c.nN=j
  few:j≤16
  N:∀ q,c.N q=lB (nmT (q:Nat))
theorem lB_inj {x y:List UInt8} (h:lB x=lB y):x=y:=by
  have:=congrArg bL h
  rwa [bL_lB,bL_lB] at this
theorem nm_ne {j k:Nat} (hj:j < 1000000000) (hk:k < 1000000000) (h:j≠k):lB (nmT (j:Nat))≠lB (nmT (k:Nat)):=fun e=>by
  have:=lB_inj e
  unfold nmT at this
  simp only [List.cons.injEq,true_and] at this
  exact h (it_inj hj hk this)
theorem nam_at {j w:Nat} {i:Nat} (hc:Nms0 c j) (h:At t a l) (hp:l[i]?=some (mP' (w:Nat))) (hw:w < j):Nam t c (a+i) w:=by
  have e:t.T (a+i)=lB (nmT (w:Nat)):=(h.get hp).1
  have hf:=hc.few
  exact ⟨by have:=hc.n; omega,by rw [e]; exact nm_name (by omega),by rw [hc.n]; exact hw,by rw [e]; exact hc.N w,fun q hq=>by rw [e,hc.N]; exact nm_ne (by omega) (by omega) (by omega)⟩
/-- A line, and what is behind it. -/
theorem eye_line {e:Nat→Nat} (h:At t a (eyP e ++ ([kP [59]] ++ l))) (hz:Z0 z) (h23:z 23=0) (h21:z 21=0) (hm:FSpec Tryz.prog 16 [.agg (eyK [rdF (e 0),rdF (e 1),rdF (e 2),rdF (e 3),rdF (e 4),rdF (e 5),rdF (e 6),rdF (e 7),rdF (e 8),rdF (e 9)])] (iA 0)) :
    Stp t a z c (a+15) (setZ z 21 1) (cEye c [rdF (e 0),rdF (e 1),rdF (e 2),rdF (e 3),rdF (e 4),rdF (e 5),rdF (e 6),rdF (e 7),rdF (e 8),rdF (e 9)]):=by
  have hB:At t (a+1) (vP e 0 ++ ((kP [116,111]::(vP e 3 ++ (kP [117,112]::(vP e 6 ++ [kP [119,105,100,101],nP (e 9)])))) ++ ([kP [59]] ++ l))):=h.2
  have hC:At t (a+1+4) (vP e 3 ++ ((kP [117,112]::(vP e 6 ++ [kP [119,105,100,101],nP (e 9)])) ++ ([kP [59]] ++ l))):=(At.app (x:=vP e 0 ++ [kP [116,111]]) hB).2
  have hD:At t (a+1+8) (vP e 6 ++ ([kP [119,105,100,101],nP (e 9)] ++ ([kP [59]] ++ l))):=(At.app (x:=vP e 0 ++ [kP [116,111]] ++ vP e 3 ++ [kP [117,112]]) hB).2
  have hz1:Z0 (setZ z 21 1):=hz.set (Or.inl (by omega)) 1
  obtain ⟨p1,p2⟩:=pt_at hB hz1
  obtain ⟨q1,q2⟩:=pt_at hC hz1
  obtain ⟨r1,r2⟩:=dr_at hD
  have r20:fN t yI (a+1+8)=rdF (e 6):=r2 0 (by omega)
  have r21:fN t yI (a+1+9)=rdF (e 7):=r2 1 (by omega)
  have r22:fN t yI (a+1+10)=rdF (e 8):=r2 2 (by omega)
  have e4:ey4 t z yI (a+1)=[rdF (e 0),rdF (e 1),rdF (e 2),rdF (e 3),rdF (e 4),rdF (e 5),rdF (e 6),rdF (e 7),rdF (e 8),rdF (e 9)]:=by
    unfold ey4
    rw [p2 0 (by omega),p2 1 (by omega),p2 2 (by omega),q2 0 (by omega),q2 1 (by omega),q2 2 (by omega),r20,r21,r22,fl_at hB (i:=12) rfl]
  have g:=eye_spec (c:=c) (hB.has 14 (by simp [vP])) h23 h21 p1 (hB.is (i:=3) rfl) q1 (hB.is (i:=7) rfl) r1 (hB.is (i:=11) rfl) (hB.num (i:=12) rfl (nP_num _)) (hB.is (i:=13) rfl) (by rw [e4]; exact hm)
  rw [e4] at g
  exact stp_m (h.has 1 (by simp [eyP])) (h.is (i:=0) rfl) (by rfl) (thing_eye (h.has 1 (by simp [eyP])) (h.is (i:=0) rfl) g)
theorem sky_line {f:Nat→Int} (h:At t a (skyP f ++ ([kP [59]] ++ l))) (h23:z 23=0) (h22:z 22=0) (hf:∀ q,q < 3→Wn 65536 (f q)):Stp t a z c (a+5) (setZ z 22 1) { c with sky:=fun q=>t.N (a+1+q) }:=by
  have hB:At t (a+1) (hP f ++ ([kP [59]] ++ l)):=h.2
  have g:=sky_spec (c:=c) (hB.has 4 (by simp [hP])) h23 h22 (who3 hB (i0:=0) rfl rfl rfl hf (by omega)) (hB.is (i:=3) rfl)
  exact stp_m (h.has 1 (by simp [skyP])) (h.is (i:=0) rfl) (by rfl) (thing_sky (h.has 1 (by simp [skyP])) (h.is (i:=0) rfl) g)
theorem skin_line {f g k:Nat→Int} {bd:Int} {j:Nat} (h:At t a (skP f g k bd (j:Nat) ++ ([kP [59]] ++ l))) (h23:z 23=0) (hc:Nms0 c j) (hj:j < 16) (hk:c.nK < 1000) (hf:∀ q,q < 3→Wn 1000 (f q)) (hg:∀ q,q < 3→Wn 1000 (g q)) (hh:∀ q,q < 3→Wn 1000 (k q)) (hb:bd.natAbs≤1000000)
    (hm:FSpec Tryz.prog 18 [.agg (skK [f 0,f 1,f 2,g 0,g 1,g 2,k 0,k 1,k 2,bd])] (iA 0)) (hx:c.K c.nK=skK [f 0,f 1,f 2,g 0,g 1,g 2,k 0,k 1,k 2,bd]) (hmx:∀ q,q≤c.nK→Mx (c.K q) (skK [f 0,f 1,f 2,g 0,g 1,g 2,k 0,k 1,k 2,bd])) :
    Stp t a z c (a+17) z { c with nN:=c.nN+1,nK:=c.nK+1 }:=by
  have hB:At t (a+1) ([mP' (j:Nat),kP W2] ++ ((hP f ++ (kP W3::(hP g ++ (kP W4::(hP k ++ [kP W5,(dcT bd,bd)]))))) ++ ([kP [59]] ++ l))):=h.2
  have e:t.T (a+1)=lB (nmT (j:Nat)):=hB.1.1
  have e4:sk4 t (a+1)=[f 0,f 1,f 2,g 0,g 1,g 2,k 0,k 1,k 2,bd]:=by
    have n:=fun (i:Nat) (x:TP) (hp:_=some x)=>(hB.get (i:=i) (p:=x) hp).2
    have n0:t.N (a+1+2)=f 0:=n 2 _ rfl
    have n1:t.N (a+1+3)=f 1:=n 3 _ rfl
    have n2:t.N (a+1+4)=f 2:=n 4 _ rfl
    have n3:t.N (a+1+6)=g 0:=n 6 _ rfl
    have n4:t.N (a+1+7)=g 1:=n 7 _ rfl
    have n5:t.N (a+1+8)=g 2:=n 8 _ rfl
    have n6:t.N (a+1+10)=k 0:=n 10 _ rfl
    have n7:t.N (a+1+11)=k 1:=n 11 _ rfl
    have n8:t.N (a+1+12)=k 2:=n 12 _ rfl
    have n9:t.N (a+1+14)=bd:=n 14 _ rfl
    unfold sk4
    rw [n0,n1,n2,n3,n4,n5,n6,n7,n8,n9]
  have s:=skin_spec (c:=c) (hB.has 16 (by simp [hP])) h23 (by rw [e]; exact nm_name (by omega)) (fun q hq=>by rw [e,hc.N]; have:=hc.n; exact nm_ne (by omega) (by omega) (by omega)) (by have:=hc.n; omega) hk (hB.is (i:=1) rfl) (who3 hB (i0:=2) rfl rfl rfl hf (by omega)) (hB.is (i:=5) rfl) (who3 hB (i0:=6) rfl rfl rfl hg (by omega)) (hB.is (i:=9) rfl) (who3 hB (i0:=10) rfl rfl rfl hh (by omega)) (hB.is (i:=13) rfl) (hB.num (i:=14) rfl (dc_num hb)) (hB.is (i:=15) rfl) (by rw [e4]; exact hm)
  rw [e4] at s
  exact stp_k (h.has 1 (by simp [skP])) (h.is (i:=0) rfl) (by rfl) (thing_skin (h.has 1 (by simp [skP])) (h.is (i:=0) rfl) s) hx hmx (by rw [e,hc.N,hc.n])
theorem lamp_line {b:Nat→Nat} {f:Nat→Int} (h:At t a (lmP b f ++ ([kP [59]] ++ l))) (hz:Z0 z) (hf:∀ q,q < 3→Wn 65536 (f q)) (hn:c.nL < 4) (hx:c.L c.nL=lmK (rdF (b 0)) (rdF (b 1)) (rdF (b 2)) (f 0) (f 1) (f 2)) (hmx:∀ q,q≤c.nL→Mx (c.L q) (lmK (rdF (b 0)) (rdF (b 1)) (rdF (b 2)) (f 0) (f 1) (f 2))):Stp t a z c (a+9) z { c with nL:=c.nL+1 }:=by
  have hB:At t (a+1) (vP b 0 ++ ((kP [108,105,103,104,116]::hP f) ++ ([kP [59]] ++ l))):=h.2
  obtain ⟨p1,p2⟩:=pt_at hB hz
  have e2:lm2 t z yI (a+1)=lmK (rdF (b 0)) (rdF (b 1)) (rdF (b 2)) (f 0) (f 1) (f 2):=by
    have n0:t.N (a+1+4)=f 0:=(hB.get (i:=4) rfl).2
    have n1:t.N (a+1+5)=f 1:=(hB.get (i:=5) rfl).2
    have n2:t.N (a+1+6)=f 2:=(hB.get (i:=6) rfl).2
    unfold lm2
    rw [n0,n1,n2,p2 0 (by omega),p2 1 (by omega),p2 2 (by omega)]
  have g:=lamp_spec (c:=c) (hB.has 8 (by simp [vP,hP])) p1 (hB.is (i:=3) rfl) (who3 hB (i0:=4) rfl rfl rfl hf (by omega)) (hB.is (i:=7) rfl) hn
  rw [e2] at g
  exact stp_l (h.has 1 (by simp [lmP])) (h.is (i:=0) rfl) (by rfl) (thing_lamp (h.has 1 (by simp [lmP])) (h.is (i:=0) rfl) g) hx hmx
end
end Go.Proofs.YtefphimaggjihaaGreatDoor.Pi.Rd

namespace Go.Proofs.YtefphimaggjihaaGreatDoor.Pi.Rd
open Go.Shelf Go.RowKit Go.Gv
open Hs.So (Prt prS)
open Hs (shC)
open Hs.Sc (Scn)
section
variable {t:Tk} {a:Nat} {z:Nat→Int} {c:Ct} {l:List TP}
theorem sh_first {k:Int} {b:Nat→Nat} (hk:1≤k∧k≤6):∃ w,(∀ r,(shP k b ++ r)[0]?=some (w,0))∧Not w:=by
  have hk':k=1∨k=2∨k=3∨k=4∨k=5∨k=6:=by omega
  rcases hk' with rfl | rfl | rfl | rfl | rfl | rfl
  · exact ⟨wBa,fun _=>rfl,by rfl⟩
  · exact ⟨wBk,fun _=>rfl,by rfl⟩
  · exact ⟨wTr,fun _=>rfl,by rfl⟩
  · exact ⟨wPl,fun _=>rfl,by rfl⟩
  · exact ⟨wTu,fun _=>rfl,by rfl⟩
  · exact ⟨wRi,fun _=>rfl,by rfl⟩
theorem shape_line {k:Int} {b:Nat→Nat} {j w:Nat} (hk:1≤k∧k≤6) (h:At t a (shP k b ++ ([mP' (w:Nat)] ++ ([kP [59]] ++ l)))) (hz:Z0 z) (hc:Nms0 c j) (hw:w < j) (hn:c.nS < 64) (hm:FSpec Tryz.prog 98 [.agg (shC k (cX k (rd b)) (w:Nat))] (iA 0))
    (hx:c.S c.nS=shC k (cX k (rd b)) (w:Nat)) (hmx:∀ q,q≤c.nS→Mx (c.S q) (shC k (cX k (rd b)) (w:Nat))):Stp t a z c (a+(shP k b).length+2) z { c with nS:=c.nS+1 }:=by
  obtain ⟨w',f1,f2⟩:=sh_first (b:=b) hk
  have hB:=h.app.2
  have hle:1≤(shP k b ++ ([mP' (w:Nat)] ++ ([kP [59]] ++ l))).length:=by simp only [List.length_append,List.length_cons]; omega
  have g:=thing_shape (c:=c) (w:=w) (sh_tok hk h hz) (hB.has 2 (by simp)) (nam_at (i:=0) hc hB rfl hw) (hB.is (i:=1) rfl) hm hn
  exact stp_s (h.has 1 hle) (h.is (i:=0) (f1 _)) f2 g hx hmx
theorem setZ_id {i:Nat} {x:Int} (h:z i=x):setZ z i x=z:=by
  funext q
  unfold setZ
  cases hb:Nat.beq q i
  · rfl
  · rw [Nat.eq_of_beq_eq_true hb]; exact h.symm
theorem solid_line {n:Nat} {P:Nat→Prt} {j w:Nat} (h1:1≤n) (hn:n≤16) (hP:PM n P) (har:arB n P=true) (hS:∀ i,i < n→(P i).op=0→(P i).k=1∨(P i).k=2∨(P i).k=5) (h:At t a (soP n P ++ ([mP' (w:Nat)] ++ ([kP [59]] ++ l)))) (hz:Z0 z) (h28:z 28=0) (hc:Nms0 c j) (hw:w < j) (hO:c.nO < 8)
    (hm:FSpec Tryz.prog 99 [.agg (soK n (fun i=>rdP' (P i)) (w:Nat))] (iA 0)) (hx:c.O c.nO=soK n (fun i=>rdP' (P i)) (w:Nat)) (hmx:∀ q,q≤c.nO→Mx (c.O q) (soK n (fun i=>rdP' (P i)) (w:Nat))):Stp t a z c (a+(soP n P).length+2) z { c with nO:=c.nO+1 }:=by
  have es:soP n P=kP soW::paP P n (n - 1):=by unfold soP; rw [har]; rfl
  have ha:arP n P:=by
    unfold arB at har
    exact @of_decide_eq_true _ (_) har
  rw [es] at h ⊢
  have hA:At t (a+1) (paP P n (n - 1) ++ ([mP' (w:Nat)] ++ ([kP [59]] ++ l))):=h.2
  have hB:=hA.app.2
  have e1:n - 1+1=n:=by omega
  have hsz:szQ P (n - 1)=(n:Nat):=by unfold szQ; rw [e1]; exact ha.2.1
  have hdp:dpQ P (n - 1)≤(3:Nat):=by unfold dpQ; rw [e1]; exact ha.2.2
  have hp:=part_spec (pt_tok hn hP hz hS n (n - 1) 0 3 (a+1) _ (by omega) (by omega) (by omega) (fun j _ hj=>ha.1 j (by omega)) (by omega) hdp hA) 0 (by omega) (by decide)
  rw [e1,setZ_id h28] at hp
  have g:=thing_solid (t:=t) (z:=z) (c:=c) (h.has 1 (by simp)) (h.is (i:=0) rfl) (solid_spec hp (hB.has 2 (by simp)) (nam_at (i:=0) hc hB rfl hw) (hB.is (i:=1) rfl) hm hO)
  have el:a+(kP soW::paP P n (n - 1)).length+2=a+1+(paP P n (n - 1)).length+2:=by rw [List.length_cons]; omega
  rw [el]
  exact stp_o (h.has 1 (by simp)) (h.is (i:=0) rfl) (by rfl) g hx hmx
theorem count_at {W:Nat} {i:Nat} (h:At t a l) (hp:l[i]?=some (Lib.itoa (W:Int),(W:Int)*1000)) (hW:W≤8):Lf t 217 [iA 8] (iA (W:Nat)) (a+i) 1 z z:=by
  have e:t.N (a+i)=(W:Int)*1000:=(h.get hp).2
  have hl:i < l.length:=(List.getElem?_eq_some_iff.1 hp).1
  have:=count_spec (m:=8) z ⟨by have:=h.le.1; omega,h.le.2⟩ (h.num hp (it_num (by omega))) (by rw [e,Int.mul_tmod_left]) (by rw [e]; omega) (by rw [e]; omega) (by omega)
  rw [e,Int.mul_tdiv_cancel _ (by omega)] at this
  exact this
theorem hi_at {hs:Nat→Int} {n q:Nat} (hq:q < n) (r:List TP):(hiP hs n ++ r)[q]?=some (dcT (hs q),hs q):=by
  unfold hiP
  rw [List.getElem?_append_left (by simpa using hq),List.getElem?_map,List.getElem?_range hq]
  rfl
theorem field_line {F:Hs.Fm.Fd} {W H j w:Nat} (eW:F.W=(W:Nat)) (eH:F.H=(H:Nat)) (hW:W≤8) (hH:H≤8) (hWH:W*H=F.n) (hh:∀ q,q < F.n→(F.hs q).natAbs≤1000000) (h:At t a (fdP F ++ ([mP' (w:Nat)] ++ ([kP [59]] ++ l)))) (hz:Z0 z) (hc:Nms0 c j) (hw:w < j) (hF:c.nF < 2)
    (hm:FSpec Tryz.prog 100 [.agg (fdK F.W F.H (rdF (F.at_ 0)) (rdF (F.at_ 1)) (rdF (F.at_ 2)) (rdF F.sd) (slI F.n F.hs) (w:Nat))] (iA 0))
    (hx:c.F c.nF=fdK F.W F.H (rdF (F.at_ 0)) (rdF (F.at_ 1)) (rdF (F.at_ 2)) (rdF F.sd) (slI F.n F.hs) (w:Nat)) (hmx:∀ q,q≤c.nF→Mx (c.F q) (fdK F.W F.H (rdF (F.at_ 0)) (rdF (F.at_ 1)) (rdF (F.at_ 2)) (rdF F.sd) (slI F.n F.hs) (w:Nat))):Stp t a z c (a+(fdP F).length+2) z { c with nF:=c.nF+1 }:=by
  have hn:F.n≤64:=by rw [← hWH]; exact Nat.mul_le_mul hW hH
  have elen:(fdP F).length=10+F.n:=by unfold fdP hiP vP; simp; omega
  have hA:At t (a+1) ([(Lib.itoa F.W,F.W*1000),(Lib.itoa F.H,F.H*1000),kP [97,116]] ++ (vP F.at_ 0 ++ ([kP [115,105,100,101],nP F.sd,kP [104,105,103,104]] ++ (hiP F.hs F.n ++ ([mP' (w:Nat)] ++ ([kP [59]] ++ l)))))):=by
    have e:fdP F ++ ([mP' (w:Nat)] ++ ([kP [59]] ++ l))=kP [102,105,101,108,100]::([(Lib.itoa F.W,F.W*1000),(Lib.itoa F.H,F.H*1000),kP [97,116]] ++ (vP F.at_ 0 ++ ([kP [115,105,100,101],nP F.sd,kP [104,105,103,104]] ++ (hiP F.hs F.n ++ ([mP' (w:Nat)] ++ ([kP [59]] ++ l)))))):=by
      unfold fdP
      simp only [List.cons_append,List.nil_append,List.append_assoc]
    rw [e] at h
    exact h.2
  have hP:At t (a+1+3) (vP F.at_ 0 ++ ([kP [115,105,100,101],nP F.sd,kP [104,105,103,104]] ++ (hiP F.hs F.n ++ ([mP' (w:Nat)] ++ ([kP [59]] ++ l))))):=hA.app.2
  have hH':At t (a+1+9) (hiP F.hs F.n ++ ([mP' (w:Nat)] ++ ([kP [59]] ++ l))):=(At.app (x:=[(Lib.itoa F.W,F.W*1000),(Lib.itoa F.H,F.H*1000),kP [97,116]] ++ vP F.at_ 0 ++ [kP [115,105,100,101],nP F.sd,kP [104,105,103,104]]) hA).2
  have hN':At t (a+1+9+F.n) ([mP' (w:Nat)] ++ ([kP [59]] ++ l)):=by
    have:=hH'.app.2
    have e:(hiP F.hs F.n).length=F.n:=by unfold hiP; simp
    rwa [e] at this
  obtain ⟨p1,p2⟩:=pt_at hP hz
  have hpt:=point_spec (hP.has 3 (by simp [vP])) p1
  unfold ptV at hpt
  have hpt:Lf t 210 [] (vA (fS t z yI (a+1+3) 0) (fS t z yI (a+1+3) 1) (fS t z yI (a+1+3) 2)) (a+1+3) 3 z z:=hpt
  rw [p2 0 (by omega),p2 1 (by omega),p2 2 (by omega)] at hpt
  have hfl:=float_spec (t:=t) (a:=a+1+7) z ⟨by have:=hN'.le.1; omega,hN'.le.2⟩ (hA.num (i:=7) rfl (nP_num F.sd))
  have hfl:Lf t 212 [] (.f (fN t yI (a+1+7))) (a+1+7) 1 z z:=hfl
  rw [fl_at hA (i:=7) rfl] at hfl
  obtain ⟨K,k1,k2⟩:∃ K:Nat→Int,K (a+1)=(W:Int)∧K (a+1+1)=(H:Int):=⟨fun q=>if q=a+1 then W else H,if_pos rfl,if_neg (by omega)⟩
  have c1:Lf t 217 [iA 8] (iA (K (a+1))) (a+1) 1 z z:=by rw [k1]; exact count_at hA (i:=0) (by rw [eW]; rfl) hW
  have c2:Lf t 217 [iA 8] (iA (K (a+1+1))) (a+1+1) 1 z z:=by rw [k2]; exact count_at hA (i:=1) (by rw [eH]; rfl) hH
  have hle:1≤(fdP F ++ ([mP' (w:Nat)] ++ ([kP [59]] ++ l))).length:=by rw [List.length_append,elen]; omega
  have g:=field_spec (c:=c) (K:=K) (n:=F.n) (w:=w) (hv:=F.hs) ⟨by have:=hN'.le.1; simp at this; omega,hN'.le.2⟩ c1 c2 (by rw [k1,k2,← hWH]; simp) (by omega) (hA.is (i:=2) rfl) hpt (hA.is (i:=6) rfl) hfl (hA.is (i:=8) rfl) (fun q hq=>⟨hH'.num (hi_at hq _) (dc_num (hh q hq)),((hH'.get (hi_at hq _)).2).symm⟩) (nam_at (i:=0) hc hN' rfl hw) (hN'.is (i:=1) rfl) (by rw [k1,k2,← eW,← eH]; exact hm) hF
  rw [k1,k2,← eW,← eH] at g
  have e:a+1+9+F.n+2=a+(fdP F).length+2:=by rw [elen]; omega
  rw [e] at g
  exact stp_f (h.has 1 hle) (h.is (i:=0) rfl) (by rfl) (thing_field (h.has 1 hle) (h.is (i:=0) rfl) g) hx hmx
end
end Go.Proofs.YtefphimaggjihaaGreatDoor.Pi.Rd

namespace Go.Proofs.YtefphimaggjihaaGreatDoor.Pi.Rd
open Go.Shelf Go.RowKit Go.Gv
open Hs.So (Prt prS)
open Hs (shC)
open Hs.Sc (Scn)
def AllT (l:List TP):Prop:=∀ p,p ∈ l→Tok1 p.1
theorem allT_nil:AllT []:=fun _ h=>by cases h
theorem allT_cons {p:TP} {l:List TP} (h:Tok1 p.1) (hl:AllT l):AllT (p::l):=fun q hq=>by
  rcases List.mem_cons.1 hq with rfl | hq
  · exact h
  · exact hl q hq
theorem allT_app {x y:List TP} (hx:AllT x) (hy:AllT y):AllT (x ++ y):=fun q hq=>(List.mem_append.1 hq).elim (hx q) (hy q)
theorem nP_tok (x:Nat):Tok1 (nP x).1:=tok_dc (tn_few x)
theorem vP_tok (a:Nat→Nat) (i:Nat):AllT (vP a i):=allT_cons (nP_tok _) (allT_cons (nP_tok _) (allT_cons (nP_tok _) allT_nil))
theorem wn_tok {m x:Int} (h:Wn m x) (hm:m≤100000000):Tok1 (Lib.itoa x):=by
  obtain ⟨k,rfl,hk⟩:=h
  exact tok_it (by omega)
theorem hP_tok {f:Nat→Int} {m:Int} (h:∀ q,q < 3→Wn m (f q)) (hm:m≤100000000):AllT (hP f):=allT_cons (wn_tok (h 0 (by omega)) hm) (allT_cons (wn_tok (h 1 (by omega)) hm) (allT_cons (wn_tok (h 2 (by omega)) hm) allT_nil))
theorem kP_tok {w:List UInt8} (h:Low w=true):Tok1 (kP w).1:=tok_low h
theorem mP_tok {k:Nat} (h:k < 1000000000):Tok1 (mP' (k:Nat)).1:=tok_nm h
theorem eyP_tok (e:Nat→Nat):AllT (eyP e):=allT_cons (kP_tok rfl) (allT_app (vP_tok _ _) (allT_cons (kP_tok rfl) (allT_app (vP_tok _ _) (allT_cons (kP_tok rfl) (allT_app (vP_tok _ _) (allT_cons (kP_tok rfl) (allT_cons (nP_tok _) allT_nil)))))))
theorem rnP_tok {w u:List UInt8} (hw:Low w=true) (hu:Low u=true) (a:Nat→Nat):AllT (rnP w u a):=allT_cons (kP_tok hw) (allT_app (vP_tok _ _) (allT_cons (kP_tok hu) (allT_app (vP_tok _ _) (allT_cons (kP_tok rfl) (allT_cons (nP_tok _) allT_nil)))))
theorem comma_tok:Tok1 (kP [44]).1:=tok_pnc (Or.inr (Or.inl rfl))
theorem shP_tok (k:Int) (a:Nat→Nat):AllT (shP k a):=by
  unfold shP
  split
  · exact allT_cons (kP_tok rfl) (allT_app (vP_tok _ _) (allT_cons (kP_tok rfl) (allT_cons (nP_tok _) allT_nil)))
  split
  · exact allT_cons (kP_tok rfl) (allT_app (vP_tok _ _) (allT_cons (kP_tok rfl) (vP_tok _ _)))
  split
  · exact allT_cons (kP_tok rfl) (allT_app (vP_tok _ _) (allT_cons comma_tok (allT_app (vP_tok _ _) (allT_cons comma_tok (vP_tok _ _)))))
  split
  · exact rnP_tok rfl rfl a
  split
  · exact rnP_tok rfl rfl a
  · exact allT_app (rnP_tok rfl rfl a) (allT_cons (nP_tok _) allT_nil)
theorem paP_tok (P:Nat→Prt):∀ f i,AllT (paP P f i)
  | 0,_=>allT_nil
  | f + 1,i=>by
    unfold paP
    split
    · exact shP_tok _ _
    · refine allT_app (allT_cons (kP_tok ?_) (allT_cons (p:=kP [123]) (tok_pnc (Or.inr (Or.inr (Or.inl rfl)))) allT_nil)) (allT_app (paP_tok P f _) (allT_app (paP_tok P f _) (allT_cons (p:=kP [125]) (tok_pnc (Or.inr (Or.inr (Or.inr rfl)))) allT_nil)))
      unfold opT
      split
      · rfl
      split<;>rfl
theorem soP_tok (n:Nat) (P:Nat→Prt):AllT (soP n P):=by
  unfold soP
  refine allT_cons (kP_tok rfl) ?_
  cases arB n P
  · exact allT_nil
  · exact paP_tok _ _ _
structure Good (s:Scn):Prop where
  fK:s.nK≤16
  fL:s.nL≤4
  fS:s.nS≤64
  fO:s.nO≤8
  fF:s.nF≤2
  sky:∀ q,q < 3→Wn 65536 (s.sky q)
  K:∀ j,j < s.nK→(∀ q,q < 9→Wn 1000 (s.K j q))∧(s.K j 9).natAbs≤1000000
  LL:∀ j,j < s.nL→∀ q,q < 3→Wn 65536 (s.LL j q)
  S:∀ j,j < s.nS→(1≤(s.S j).k∧(s.S j).k≤6)∧∃ w:Nat,(s.S j).sk=(w:Nat)∧w < s.nK
  O:∀ j,j < s.nO→(1≤(s.O j).n∧(s.O j).n≤16)∧PM (s.O j).n (s.O j).P∧arB (s.O j).n (s.O j).P=true∧(∀ i,i < (s.O j).n→((s.O j).P i).op=0→((s.O j).P i).k=1∨((s.O j).P i).k=2∨((s.O j).P i).k=5)∧∃ w:Nat,(s.O j).sk=(w:Nat)∧w < s.nK
  F:∀ j,j < s.nF→∃ W H w:Nat,(s.F j).W=(W:Nat)∧(s.F j).H=(H:Nat)∧W≤8∧H≤8∧W*H=(s.F j).n∧(∀ q,q < (s.F j).n→((s.F j).hs q).natAbs≤1000000)∧(s.F j).sk=(w:Nat)∧w < s.nK
noncomputable def eyL (e:Nat→Nat):List Nat:=[rdF (e 0),rdF (e 1),rdF (e 2),rdF (e 3),rdF (e 4),rdF (e 5),rdF (e 6),rdF (e 7),rdF (e 8),rdF (e 9)]
def skL' (f:Nat→Int):List Int:=[f 0,f 1,f 2,f 3,f 4,f 5,f 6,f 7,f 8,f 9]
noncomputable def shX6 (p:Hs.Sc.Shp):List AV:=shC p.k (cX p.k (rd p.a)) p.sk
noncomputable def soX6 (p:Hs.Sc.Sld):List AV:=soK p.n (fun i=>rdP' (p.P i)) p.sk
noncomputable def fdX6 (F:Hs.Fm.Fd):List AV:=fdK F.W F.H (rdF (F.at_ 0)) (rdF (F.at_ 1)) (rdF (F.at_ 2)) (rdF F.sd) (slI F.n F.hs) F.sk
structure Mays (s:Scn):Prop where
  eye:FSpec Tryz.prog 16 [.agg (eyK (eyL s.eye))] (iA 0)
  K:∀ j,j < s.nK→FSpec Tryz.prog 18 [.agg (skK (skL' (s.K j)))] (iA 0)
  S:∀ j,j < s.nS→FSpec Tryz.prog 98 [.agg (shX6 (s.S j))] (iA 0)
  O:∀ j,j < s.nO→FSpec Tryz.prog 99 [.agg (soX6 (s.O j))] (iA 0)
  F:∀ j,j < s.nF→FSpec Tryz.prog 100 [.agg (fdX6 (s.F j))] (iA 0)
/-- What is read of it. -/
noncomputable def cc (s:Scn) (k l m o f:Nat):Ct:={ nS:=m,nO:=o,nF:=f,nK:=k,nL:=l,nN:=k,S:=fun q=>shX6 (s.S q),O:=fun q=>soX6 (s.O q),F:=fun q=>fdX6 (s.F q),K:=fun q=>skK (skL' (s.K q)),L:=fun q=>lmK (rdF (s.LA q 0)) (rdF (s.LA q 1)) (rdF (s.LA q 2)) (s.LL q 0) (s.LL q 1) (s.LL q 2),N:=fun q=>lB (nmT (q:Nat)),sky:=fun q=>(tkOf (tks6 s)).N (15+1+q),eye:=lst (eyL s.eye) }
noncomputable def cf6 (s:Scn):Ct:=cc s s.nK s.nL s.nS s.nO s.nF
theorem lns_tok {s:Scn} (h:Good s):∀ l,l ∈ lns s→AllT l:=by
  intro l hl
  unfold lns at hl
  rcases List.mem_append.1 hl with hl | hl
  · unfold ln1 at hl
    simp only [List.mem_cons,List.not_mem_nil,or_false] at hl
    rcases hl with rfl | rfl
    · exact eyP_tok _
    · exact allT_cons (kP_tok rfl) (hP_tok h.sky (by omega))
  rcases List.mem_append.1 hl with hl | hl
  · obtain ⟨j,hj,rfl⟩:=List.mem_map.1 hl
    have hj:=List.mem_range.1 hj
    obtain ⟨h1,h2⟩:=h.K j hj
    have:=h.fK
    exact allT_app (allT_cons (kP_tok rfl) (allT_cons (mP_tok (by omega)) (allT_cons (kP_tok rfl) allT_nil))) (allT_app (hP_tok (m:=1000) (fun q hq=>h1 q (by omega)) (by omega)) (allT_cons (kP_tok rfl) (allT_app (hP_tok (m:=1000) (fun q hq=>h1 (3+q) (by omega)) (by omega)) (allT_cons (kP_tok rfl) (allT_app (hP_tok (m:=1000) (fun q hq=>h1 (6+q) (by omega)) (by omega)) (allT_cons (kP_tok rfl) (allT_cons (tok_dc h2) allT_nil)))))))
  rcases List.mem_append.1 hl with hl | hl
  · obtain ⟨j,hj,rfl⟩:=List.mem_map.1 hl
    have hj:=List.mem_range.1 hj
    exact allT_cons (kP_tok rfl) (allT_app (vP_tok _ _) (allT_cons (kP_tok rfl) (hP_tok (h.LL j hj) (by omega))))
  rcases List.mem_append.1 hl with hl | hl
  · obtain ⟨j,hj,rfl⟩:=List.mem_map.1 hl
    have hj:=List.mem_range.1 hj
    obtain ⟨_,w,e,hw⟩:=h.S j hj
    have:=h.fK
    unfold ln4
    rw [e]
    exact allT_app (shP_tok _ _) (allT_cons (mP_tok (by omega)) allT_nil)
  rcases List.mem_append.1 hl with hl | hl
  · obtain ⟨j,hj,rfl⟩:=List.mem_map.1 hl
    have hj:=List.mem_range.1 hj
    obtain ⟨_,_,_,_,w,e,hw⟩:=h.O j hj
    have:=h.fK
    unfold ln5
    rw [e]
    exact allT_app (soP_tok _ _) (allT_cons (mP_tok (by omega)) allT_nil)
  · obtain ⟨j,hj,rfl⟩:=List.mem_map.1 hl
    have hj:=List.mem_range.1 hj
    obtain ⟨W,H,w,eW,eH,hW,hH,_,hh,e,hw⟩:=h.F j hj
    have:=h.fK
    unfold ln6 fdP
    rw [e,eW,eH]
    refine allT_app (allT_app (allT_cons (kP_tok rfl) (allT_cons (tok_it (by omega)) (allT_cons (tok_it (by omega)) (allT_cons (kP_tok rfl) allT_nil)))) (allT_app (vP_tok _ _) (allT_cons (kP_tok rfl) (allT_cons (nP_tok _) (allT_cons (kP_tok rfl) ?_))))) (allT_cons (mP_tok (by omega)) allT_nil)
    intro p hp
    unfold hiP at hp
    obtain ⟨q,hq,rfl⟩:=List.mem_map.1 hp
    exact tok_dc (hh q (List.mem_range.1 hq))
section
variable {t:Tk} {z zf:Nat→Int} {cf:Ct}
def blk (L:Nat→List TP) (i m:Nat):List TP:=(List.range' i m).flatMap fun j=>L j ++ [kP [59]]
theorem many {L:Nat→List TP} {C:Nat→Ct} {n:Nat} {r:List TP} (hs:∀ j,j < n→∀ a l,At t a ((L j ++ [kP [59]]) ++ l)→Stp t a z (C j) (a+(L j ++ [kP [59]]).length) z (C (j+1))) (hr:∀ b,At t b r→b+r.length=t.n→Rest t zf cf b z (C n)) :
    ∀ m i,i+m=n→∀ a,At t a (blk L i m ++ r)→a+(blk L i m ++ r).length=t.n→Rest t zf cf a z (C i)
  | 0,i,h,a,hA,hl=>by
    have:i=n:=by omega
    subst this
    exact hr a hA hl
  | m + 1,i,h,a,hA,hl=>by
    have e:blk L i (m+1) ++ r=(L i ++ [kP [59]]) ++ (blk L (i+1) m ++ r):=by
      unfold blk
      rw [List.range'_succ,List.flatMap_cons,List.append_assoc]
    rw [e] at hA hl
    exact (hs i (by omega) a _ hA).go (many hs hr m (i+1) (by omega) _ hA.app.2 (by simp only [List.length_append] at hl ⊢; omega))
end
end Go.Proofs.YtefphimaggjihaaGreatDoor.Pi.Rd

namespace Go.Proofs.YtefphimaggjihaaGreatDoor.Pi.Rd
open Go.Shelf Go.RowKit Go.Gv
open Hs.So (Prt prS)
open Hs (shC)
open Hs.Sc (Scn)
theorem flat_blk (L:Nat→List TP) (n:Nat):((List.range n).map L).flatMap (fun l=>l ++ [kP [59]])=blk L 0 n:=by
  unfold blk
  rw [List.flatMap_map,List.range_eq_range']
theorem tks6_eq (s:Scn):tks6 s=(eyP s.eye ++ [kP [59]]) ++ ((skyP s.sky ++ [kP [59]]) ++ (blk (ln2 s) 0 s.nK ++ (blk (ln3 s) 0 s.nL ++ (blk (ln4 s) 0 s.nS ++ (blk (ln5 s) 0 s.nO ++ (blk (ln6 s) 0 s.nF ++ [])))))):=by
  unfold tks6 lns ln1
  rw [List.flatMap_append,List.flatMap_append,List.flatMap_append,List.flatMap_append,List.flatMap_append,flat_blk,flat_blk,flat_blk,flat_blk,flat_blk,List.append_nil]
  simp only [List.flatMap_cons,List.flatMap_nil,List.append_nil,List.append_assoc]
def z1:Nat→Int:=setZ z0 21 1
def z2:Nat→Int:=setZ z1 22 1
theorem z2_0:Z0 z2:=⟨rfl,rfl,rfl⟩
section
variable {s:Scn} {t:Tk} {k l m o f:Nat}
theorem nms_cc (hk:k≤16):Nms0 (cc s k l m o f) k:=⟨rfl,hk,fun _=>rfl⟩
theorem st_skin (h:Good s) (hm:Mays s) {j:Nat} (hj:j < s.nK) {a:Nat} {r:List TP} (hA:At t a ((ln2 s j ++ [kP [59]]) ++ r)):Stp t a z2 (cc s j l m o f) (a+(ln2 s j ++ [kP [59]]).length) z2 (cc s (j+1) l m o f):=by
  obtain ⟨h1,h2⟩:=h.K j hj
  have h3:=h.fK
  rw [List.append_assoc] at hA
  exact skin_line (f:=s.K j) (g:=fun q=>s.K j (3+q)) (k:=fun q=>s.K j (6+q)) hA rfl (nms_cc (by omega)) (by omega) (show j < 1000 by omega) (fun q hq=>h1 q (by omega)) (fun q hq=>h1 (3+q) (by omega)) (fun q hq=>h1 (6+q) (by omega)) h2 (hm.K j hj) rfl fun _ _=>⟨rfl,rfl⟩
theorem st_lamp (h:Good s) {j:Nat} (hj:j < s.nL) {a:Nat} {r:List TP} (hA:At t a ((ln3 s j ++ [kP [59]]) ++ r)):Stp t a z2 (cc s k j m o f) (a+(ln3 s j ++ [kP [59]]).length) z2 (cc s k (j+1) m o f):=by
  have h3:=h.fL
  rw [List.append_assoc] at hA
  exact lamp_line hA z2_0 (h.LL j hj) (show j < 4 by omega) rfl fun _ _=>⟨rfl,rfl⟩
theorem st_shape (h:Good s) (hm:Mays s) {j:Nat} (hj:j < s.nS) {a:Nat} {r:List TP} (hA:At t a ((ln4 s j ++ [kP [59]]) ++ r)):Stp t a z2 (cc s s.nK l j o f) (a+(ln4 s j ++ [kP [59]]).length) z2 (cc s s.nK l (j+1) o f):=by
  obtain ⟨h1,w,e,hw⟩:=h.S j hj
  have h3:=h.fS
  have hM:=hm.S j hj
  unfold ln4 at hA ⊢
  unfold shX6 at hM
  rw [e] at hA hM
  rw [List.append_assoc,List.append_assoc] at hA
  have:=shape_line (c:=cc s s.nK l j o f) h1 hA z2_0 (nms_cc h.fK) hw (show j < 64 by omega) hM (by show shX6 (s.S j)=_; unfold shX6; rw [e]) fun _ _=>⟨rfl,rfl⟩
  rw [List.length_append,List.length_append]
  exact this
theorem st_solid (h:Good s) (hm:Mays s) {j:Nat} (hj:j < s.nO) {a:Nat} {r:List TP} (hA:At t a ((ln5 s j ++ [kP [59]]) ++ r)):Stp t a z2 (cc s s.nK l m j f) (a+(ln5 s j ++ [kP [59]]).length) z2 (cc s s.nK l m (j+1) f):=by
  obtain ⟨h1,h2,h3,h4,w,e,hw⟩:=h.O j hj
  have h5:=h.fO
  have hM:=hm.O j hj
  unfold ln5 at hA ⊢
  unfold soX6 at hM
  rw [e] at hA hM
  rw [List.append_assoc,List.append_assoc] at hA
  have:=solid_line (c:=cc s s.nK l m j f) h1.1 h1.2 h2 h3 h4 hA z2_0 rfl (nms_cc h.fK) hw (show j < 8 by omega) hM (by show soX6 (s.O j)=_; unfold soX6; rw [e]) fun _ _=>⟨rfl,rfl⟩
  rw [List.length_append,List.length_append]
  exact this
theorem st_field (h:Good s) (hm:Mays s) {j:Nat} (hj:j < s.nF) {a:Nat} {r:List TP} (hA:At t a ((ln6 s j ++ [kP [59]]) ++ r)):Stp t a z2 (cc s s.nK l m o j) (a+(ln6 s j ++ [kP [59]]).length) z2 (cc s s.nK l m o (j+1)):=by
  obtain ⟨W,H,w,eW,eH,hW,hH,hWH,hh,e,hw⟩:=h.F j hj
  have h5:=h.fF
  have hM:=hm.F j hj
  unfold ln6 at hA ⊢
  unfold fdX6 at hM
  rw [e] at hA hM
  rw [List.append_assoc,List.append_assoc] at hA
  have:=field_line (c:=cc s s.nK l m o j) eW eH hW hH hWH hh hA z2_0 (nms_cc h.fK) hw (show j < 2 by omega) hM (by show fdX6 (s.F j)=_; unfold fdX6; rw [e]) fun _ _=>⟨rfl,rfl⟩
  rw [List.length_append,List.length_append]
  exact this
end
theorem rest_6 {s:Scn} (h:Good s) (hm:Mays s) (hl:(tks6 s).length≤1000000):Rest (tkOf (tks6 s)) z2 (cf6 s) 0 z0 (ct0 (cf6 s)):=by
  have hA:=at_tk (tks6 s) [] rfl hl
  have hA:At (tkOf (tks6 s)) 0 (tks6 s):=hA
  obtain ⟨t,ht⟩:∃ t,t=tkOf (tks6 s):=⟨_,rfl⟩
  have hn:t.n=(tks6 s).length:=by rw [ht]; rfl
  rw [← ht] at hA ⊢
  rw [tks6_eq] at hA hn
  have hA0:=hA
  rw [List.append_assoc] at hA0
  have hA1:=hA.app.2
  have hA1':=hA1
  rw [List.append_assoc] at hA1'
  have e1:Stp t 0 z0 (ct0 (cf6 s)) 15 z1 (cEye (ct0 (cf6 s)) (eyL s.eye)):=by
    have:=eye_line (c:=ct0 (cf6 s)) hA0 (z:=z0) ⟨rfl,rfl,rfl⟩ rfl rfl hm.eye
    exact this
  have e2:Stp t 15 z1 (cEye (ct0 (cf6 s)) (eyL s.eye)) 20 z2 (cc s 0 0 0 0 0):=by
    have:=sky_line (a:=15) (c:=cEye (ct0 (cf6 s)) (eyL s.eye)) hA1' (z:=z1) rfl rfl h.sky
    rw [ht] at this ⊢
    exact this
  refine e1.go (e2.go ?_)
  have hA2:At t 20 _:=hA1.app.2
  have hN:20+(blk (ln2 s) 0 s.nK ++ (blk (ln3 s) 0 s.nL ++ (blk (ln4 s) 0 s.nS ++ (blk (ln5 s) 0 s.nO ++ (blk (ln6 s) 0 s.nF ++ []))))).length=t.n:=by
    rw [hn,@List.length_append _ (eyP s.eye ++ [kP [59]]),@List.length_append _ (skyP s.sky ++ [kP [59]])]
    show 20+_=15+(5+_)
    omega
  refine many (C:=fun j=>cc s j 0 0 0 0) (n:=s.nK) (fun j hj a r hA=>st_skin h hm hj hA) (fun b hb hn=>?_) s.nK 0 (by omega) 20 hA2 hN
  refine many (C:=fun j=>cc s s.nK j 0 0 0) (n:=s.nL) (fun j hj a r hA=>st_lamp h hj hA) (fun b hb hn=>?_) s.nL 0 (by omega) b hb hn
  refine many (C:=fun j=>cc s s.nK s.nL j 0 0) (n:=s.nS) (fun j hj a r hA=>st_shape h hm hj hA) (fun b hb hn=>?_) s.nS 0 (by omega) b hb hn
  refine many (C:=fun j=>cc s s.nK s.nL s.nS j 0) (n:=s.nO) (fun j hj a r hA=>st_solid h hm hj hA) (fun b hb hn=>?_) s.nO 0 (by omega) b hb hn
  refine many (C:=fun j=>cc s s.nK s.nL s.nS s.nO j) (n:=s.nF) (fun j hj a r hA=>st_field h hm hj hA) (fun b hb hn=>?_) s.nF 0 (by omega) b hb hn
  have:b=t.n:=by simpa using hn
  rw [this]
  exact end_ok z2 (cf6 s)
theorem tks_long:∀ (ts:List (List UInt8)) (b:Bool),(∀ x,x ∈ ts→x≠[])→ts.length≤(tks b ts).length
  | [],_,_=>Nat.zero_le _
  | x::r,b,h=>by
    have ih:=tks_long r true fun y hy=>h y (by simp [hy])
    have hx:=List.length_pos_iff.2 (h x (by simp))
    show r.length+1≤((if b then [32] else []) ++ (x ++ tks true r)).length
    rw [List.length_append,List.length_append]
    omega
theorem tok_ne {x:List UInt8} (h:Tok1 x):x≠[]:=by
  rcases h with h | ⟨c,_,rfl⟩
  · exact h.1
  · simp
theorem few_tok {s:Scn} (h:Good s):(tks6 s).length≤(x6 dcT tnX tbX s).length:=by
  rw [x6_lines]
  unfold tks6
  have key:∀ ls:List (List TP),(∀ l,l ∈ ls→AllT l)→(ls.flatMap fun l=>l ++ [kP [59]]).length≤(ls.flatMap lnT).length:=fun ls=>by
    induction ls with
    | nil=>intro _; exact Nat.le_refl _
    | cons l r ih =>
      intro hl
      have i1:=ih fun x hx=>hl x (by simp [hx])
      have i2:=tks_long (l.map Prod.fst ++ [[59]]) false fun x hx=>by
        rcases List.mem_append.1 hx with hx | hx
        · obtain ⟨p,hp,rfl⟩:=List.mem_map.1 hx
          exact tok_ne (hl l (by simp) p hp)
        · simp at hx; subst hx; simp
      rw [List.length_append,List.length_map] at i2
      rw [List.flatMap_cons,List.flatMap_cons,List.length_append,List.length_append,List.length_append]
      have e:(lnT l).length=(tks false (l.map Prod.fst ++ [[59]])).length+1:=List.length_append
      simp only [List.length_cons,List.length_nil] at i2 ⊢
      omega
  exact key _ (lns_tok h)
/-- THE CODE'S PARSE OF A PRINTED SCENE. -/
theorem parse_6 {s:Scn} (h:Good s) (hm:Mays s) (hl:(x6 dcT tnX tbX s).length≤20000):FSpec Tryz.prog 8 [zA (lB (x6 dcT tnX tbX s))] (.tup [.agg (scF (cf6 s)),iA 0]):=by
  have hf:=few_tok h
  exact parse_spec (by rw [size_lB]; exact hl) (tok_6 (lns_tok h) (by omega)) (rest_6 h hm (by omega)) rfl
end Go.Proofs.YtefphimaggjihaaGreatDoor.Pi.Rd

namespace Go.Proofs.YtefphimaggjihaaGreatDoor.Pi.Rd
open Go.Shelf Go.RowKit Go.Gv
open Hs.So (Prt prS)
open Hs (shC)
open Hs.Sc (Scn)
open Hs Hs.So Hs.Sc Hs.Fm
theorem wn_of {m x:Int} (h0:0≤x) (h1:x≤m):Wn m x:=⟨x.toNat,by omega,by omega⟩
theorem any_no {B:Nat→Bool}:∀ {n:Nat},anyN B n=false→∀ j,j < n→B j=false
  | 0,_,j,hj=>absurd hj (Nat.not_lt_zero j)
  | n+1,h,j,hj=>by
    have h:(anyN B n||B n)=false:=h
    rw [Bool.or_eq_false_iff] at h
    by_cases e:j=n
    · subst e; exact h.2
    · exact any_no h.1 j (by omega)
theorem we_lt {e sk:Int} {n:Nat} (h:weE e sk n=0):sk < (n:Int):=by
  have h:=(cn0 h).2
  cases hb:decide (sk ≥ (n:Int))
  · have:=of_decide_eq_false hb; omega
  · rw [hb] at h; exact absurd h (by decide)
theorem kin_of {m k:Int} (h:mlE m k=0):k=1∨k=2∨k=5:=by
  have h:=(cn0 h).2
  cases hb:kin k
  · rw [hb] at h; exact absurd h (by decide)
  · unfold kin at hb
    simpa using hb
theorem fd_all {F:Hs.Fm.Fd} (h:fFd F.c=0):∃ W H:Nat,F.W=(W:Nat)∧F.H=(H:Nat)∧W≤8∧H≤8∧W*H=F.n∧∀ q,q < F.n→(F.hs q).natAbs≤1000000:=by
  obtain ⟨_,_,h3,h4,h5,h6,h7,_⟩:fineS (F.at_ 0) (F.at_ 1) (F.at_ 2)=true∧nearS F.sd=true∧F.n≤64∧(2≤F.W∧F.W≤8∧2≤F.H∧F.H≤8)∧(0≤F.sk∧F.sk < 16)∧(∀ q,q < F.n→hBad (F.hs q)=false)∧F.mayN=0∧(mayS (bx F)==0)=true:=(fFd_ok F).2 h
  have hn:(F.n:Int)=F.W*F.H:=by
    unfold Fd.mayN at h7
    obtain ⟨_,h7⟩:=c4 (by decide) h7
    obtain ⟨h8,_⟩:=c4 (by decide) h7
    have h8:((F.n:Int)==w64 (F.W*F.H))=true:=not_no h8
    have h9:=beq_iff_eq.1 h8
    have l1:F.W*F.H≤8*8:=Int.mul_le_mul h4.2.1 h4.2.2.2 (by omega) (by omega)
    have l0:0≤F.W*F.H:=Int.mul_nonneg (by omega) (by omega)
    rw [w64_id (by omega) (by omega)] at h9
    exact h9
  obtain ⟨W,eW⟩:=Int.eq_ofNat_of_zero_le (show 0≤F.W by omega)
  obtain ⟨H,eH⟩:=Int.eq_ofNat_of_zero_le (show 0≤F.H by omega)
  refine ⟨W,H,eW,eH,by omega,by omega,?_,fun q hq=>?_⟩
  · rw [eW,eH] at hn
    exact_mod_cast hn.symm
  · obtain ⟨b1,b2⟩:=or_no (h6 q hq)
    have b1:=of_decide_eq_false b1
    have b2:=of_decide_eq_false b2
    omega
theorem good_of {s:Scn} (h:scE s=0) (hw:w6 dcT tnX tbX s=false):Good s:=by
  unfold scE at h
  obtain ⟨h1,h⟩:=c4 (by decide) h
  obtain ⟨hK,h⟩:=c0 h
  obtain ⟨hT,h⟩:=c0 h
  obtain ⟨hL,h⟩:=c0 h
  obtain ⟨hY,h⟩:=c4 (by decide) h
  have few:=tm_few s h1
  unfold thE at hT
  obtain ⟨hS,hT⟩:=c0 hT
  obtain ⟨hO,hF⟩:=c0 hT
  have w5':w5 dcT tnX tbX s=false:=by unfold w6 at hw; exact (Bool.or_eq_false_iff.1 hw).1
  have wO:anyN (fun j=>cbad (soI dcT tnX tbX s j)) s.nO=false:=by unfold w5 at w5'; exact (Bool.or_eq_false_iff.1 w5').2
  have hsky:=li_all (not_no hY)
  refine ⟨few.2.2.2.1,few.2.2.2.2,few.1,few.2.1,few.2.2.1,fun q hq=>wn_of (hsky q hq).1 (hsky q hq).2,fun j hj=>?_,fun j hj=>?_,fun j hj=>?_,fun j hj=>?_,fun j hj=>?_⟩
  · obtain ⟨k1,k2,k3⟩:=sk_all (k:=s.K j) (seq_zero _ hK j hj)
    exact ⟨fun q hq=>wn_of (k1 q hq).1 (k1 q hq).2,by omega⟩
  · have hl:lmE (s.LA j) (s.LL j)=0:=seq_zero _ hL j hj
    unfold lmE at hl
    obtain ⟨a1,hl⟩:=c4 (by decide) hl
    obtain ⟨a2,_⟩:=c4 (by decide) hl
    have:=li_all (not_no a2)
    exact fun q hq=>wn_of (this q hq).1 (this q hq).2
  · have hs:weE (mayC (s.S j).c) (s.S j).sk s.nK=0:=seq_zero _ hS j hj
    obtain ⟨_,g2,g3,_⟩:=mayC_near (we0 hs)
    have:=we_lt hs
    exact ⟨g2,(s.S j).sk.toNat,by omega,by omega⟩
  · have hs:=seq_zero _ hO j hj
    have hso:soE (s.O j).n (s.O j).P (s.O j).sk=0:=we0 hs
    have hlt:(s.O j).sk < (s.nK:Int):=we_lt hs
    have har:arB (s.O j).n (s.O j).P=true:=by
      have:=any_no wO j hj
      have hb:soB tbX (s.O j).n (s.O j).P=false:=(Bool.or_eq_false_iff.1 this).1
      unfold soB at hb
      cases ha:arB (s.O j).n (s.O j).P
      · rw [ha] at hb; cases hb
      · rfl
    unfold soE at hso
    obtain ⟨g1,hso⟩:=c4 (by decide) hso
    obtain ⟨g2,hso⟩:=c4 (by decide) hso
    obtain ⟨n1,n2⟩:=or_no g1
    have n1:=of_decide_eq_false n1
    have n2:=of_decide_eq_false n2
    have hpa:=seq_zero _ hso
    obtain ⟨p1,_⟩:=pm_of hpa
    obtain ⟨s1,s2⟩:=skB_rng g2
    refine ⟨by omega,p1,har,fun i hi h0=>?_,(s.O j).sk.toNat,by omega,by omega⟩
    have h1:=hpa i hi
    unfold paE ppE at h1
    rw [h0] at h1
    exact kin_of (show mlE (mayC ((s.O j).P i).s) ((s.O j).P i).k=0 from h1)
  · have hs:=seq_zero _ hF j hj
    have hf:fFd (s.F j).c=0:=we0 hs
    have hlt:(s.F j).sk < (s.nK:Int):=we_lt hs
    obtain ⟨W,H,eW,eH,hW,hH,hWH,hh⟩:=fd_all hf
    have h5:0≤(s.F j).sk:=by
      obtain ⟨_,_,_,_,h5,_⟩:fineS ((s.F j).at_ 0) ((s.F j).at_ 1) ((s.F j).at_ 2)=true∧nearS (s.F j).sd=true∧(s.F j).n≤64∧(2≤(s.F j).W∧(s.F j).W≤8∧2≤(s.F j).H∧(s.F j).H≤8)∧(0≤(s.F j).sk∧(s.F j).sk < 16)∧(∀ q,q < (s.F j).n→hBad ((s.F j).hs q)=false)∧(s.F j).mayN=0∧(mayS (bx (s.F j))==0)=true:=(fFd_ok (s.F j)).2 hf
      exact h5.1
    exact ⟨W,H,(s.F j).sk.toNat,eW,eH,hW,hH,hWH,hh,by omega,by omega⟩
end Go.Proofs.YtefphimaggjihaaGreatDoor.Pi.Rd

namespace Go.Proofs.YtefphimaggjihaaGreatDoor.Pi.Rd
open Go.Shelf Go.RowKit Go.Gv
open Hs.So (Prt prS)
open Hs.Sc (Scn)
/-- How long tokens are, with a space each. -/
def wt:List TP→Nat
  | []=>0
  | p::r=>p.1.length+1+wt r
theorem wt_app:∀ x y:List TP,wt (x ++ y)=wt x+wt y
  | [],y=>by simp [wt]
  | p::r,y=>by show p.1.length+1+wt (r ++ y)=_; rw [wt_app r y]; show _=p.1.length+1+wt r+wt y; omega
theorem tks_wt:∀ (l:List TP) (b:Bool),(tks b (l.map Prod.fst)).length≤wt l
  | [],_=>Nat.le_refl _
  | p::r,b=>by
    have ih:=tks_wt r true
    show ((if b then [32] else []) ++ (p.1 ++ tks true (r.map Prod.fst))).length≤p.1.length+1+wt r
    rw [List.length_append,List.length_append]
    have:(if b then ([32]:List UInt8) else []).length≤1:=by cases b<;>simp
    omega
theorem ln_wt (l:List TP):(lnT l).length≤wt l+3:=by
  have h:=tks_wt (l ++ [kP [59]]) false
  rw [wt_app,List.map_append] at h
  have e:(lnT l).length=(tks false (l.map Prod.fst ++ [[59]])).length+1:=List.length_append
  have e2:wt [kP [59]]=2:=rfl
  rw [e2] at h
  have h:(tks false (l.map Prod.fst ++ [[59]])).length≤wt l+2:=h
  omega
theorem dd_len {d k:Nat} (h:k < 10 ^ (d+1)):(Lib.itoa (k:Int)).length≤d+1:=by rw [it_nat]; exact (dd_of d k h).2.2.1.2
theorem dc_len {n:Int} (h:n.natAbs≤1000000):(dcT n).length≤8:=by
  unfold dcT dcA
  have hs:(if n < 0 then ([45]:List UInt8) else []).length≤1:=by split<;>simp
  rw [List.length_append,List.length_append]
  by_cases hr:n.natAbs % 1000=0
  · have:=dd_len (d:=3) (k:=n.natAbs / 1000) (by omega)
    rw [if_pos hr]
    simp only [List.length_nil]
    omega
  · have:=dd_len (d:=2) (k:=n.natAbs / 1000) (by omega)
    obtain ⟨_,_,g3,_⟩:=fr_of (r:=n.natAbs % 1000) (by omega) (by omega)
    rw [if_neg hr,List.length_cons]
    have g3:(Lib.trimRightB ((Lib.itoa ((1000+n.natAbs % 1000:Nat):Int)).drop 1) 48).length≤3:=g3
    omega
theorem nP_wt (x:Nat):(nP x).1.length≤8:=dc_len (tn_few x)
theorem vP_wt (a:Nat→Nat) (i:Nat):wt (vP a i)≤27:=by
  have h1:=nP_wt (a i)
  have h2:=nP_wt (a (i+1))
  have h3:=nP_wt (a (i+2))
  show (nP (a i)).1.length+1+((nP (a (i+1))).1.length+1+((nP (a (i+2))).1.length+1+0))≤27
  omega
theorem wn_len {d:Nat} {m x:Int} (h:Wn m x) (hm:m < 10 ^ (d+1)):(Lib.itoa x).length≤d+1:=by
  obtain ⟨k,rfl,hk⟩:=h
  exact dd_len (by exact_mod_cast Int.lt_of_le_of_lt hk hm)
theorem hP_wt {d:Nat} {m:Int} {f:Nat→Int} (h:∀ q,q < 3→Wn m (f q)) (hm:m < 10 ^ (d+1)):wt (hP f)≤3*(d+2):=by
  have h1:=wn_len (h 0 (by omega)) hm
  have h2:=wn_len (h 1 (by omega)) hm
  have h3:=wn_len (h 2 (by omega)) hm
  show (Lib.itoa (f 0)).length+1+((Lib.itoa (f 1)).length+1+((Lib.itoa (f 2)).length+1+0))≤_
  omega
theorem mP_wt {k:Nat} (h:k < 16):wt [mP' (k:Nat)]≤4:=by
  have:=dd_len (d:=1) (k:=k) (by omega)
  show (115::Lib.itoa (k:Int)).length+1+0≤4
  rw [List.length_cons]
  omega
theorem wt_cons (p:TP) (r:List TP):wt (p::r)=p.1.length+1+wt r:=rfl
theorem wt_nil:wt []=0:=rfl
theorem shP_wt (k:Int) (a:Nat→Nat):wt (shP k a)≤89∧(k=1∨k=2∨k=5→wt (shP k a)≤81):=by
  have v0:=vP_wt a 0
  have v3:=vP_wt a 3
  have v6:=vP_wt a 6
  have n9:=nP_wt (a 9)
  have n10:=nP_wt (a 10)
  have hr:∀ w u,wt (rnP w u a)=w.length+1+(wt (vP a 0)+(u.length+1+(wt (vP a 3)+(7+((nP (a 9)).1.length+1))))):=fun w u=>by
    unfold rnP
    rw [wt_cons,wt_app,wt_cons,wt_app,wt_cons,wt_cons,wt_nil]
    rfl
  unfold shP
  split
  · rw [wt_cons,wt_app,wt_cons,wt_cons,wt_nil]
    simp only [kP,rad,List.length_cons,List.length_nil]
    omega
  split
  · rw [wt_cons,wt_app,wt_cons]
    simp only [kP,List.length_cons,List.length_nil]
    omega
  split
  · rw [wt_cons,wt_app,wt_cons,wt_app,wt_cons]
    simp only [kP,List.length_cons,List.length_nil]
    omega
  split
  · rw [hr]
    simp only [List.length_cons,List.length_nil]
    omega
  split
  · rw [hr]
    simp only [List.length_cons,List.length_nil]
    omega
  · rw [wt_app,hr,wt_cons,wt_nil]
    simp only [List.length_cons,List.length_nil]
    omega
theorem paP_wt {P:Nat→Prt} {n:Nat} (hP:PM n P) (hS:∀ i,i < n→(P i).op=0→(P i).k=1∨(P i).k=2∨(P i).k=5):∀ (f k d:Nat),k < n→dpQ P k≤(d:Nat)→wt (paP P f k)+11≤92*2 ^ d
  | 0,k,d,_,_=>by
    have:1≤2 ^ d:=Nat.one_le_two_pow
    show 0+11≤_
    omega
  | f + 1,k,d,hk,hd=>by
    have h2:1≤2 ^ d:=Nat.one_le_two_pow
    by_cases h0:(P k).op=0
    · have ep:paP P (f+1) k=shP (P k).k (P k).a:=by show (if _ then _ else _)=_; rw [if_pos h0]
      have:=(shP_wt (P k).k (P k).a).2 (hS k hk h0)
      rw [ep]
      omega
    · have ep:paP P (f+1) k=[kP (opT (P k).op),kP [123]] ++ (paP P f (P k).l.toNat ++ (paP P f (P k).r.toNat ++ [kP [125]])):=by show (if _ then _ else _)=_; rw [if_neg h0]
      rcases hP k hk with h | ⟨ho,hl,hr⟩
      · exact absurd h h0
      obtain ⟨_,s2⟩:=szq_node h0 hl.1 hl.2 hr.1 hr.2
      obtain ⟨d',rfl⟩:∃ d',d=d'+1:=⟨d - 1,by have:=dpq_nn (P:=P) (P k).r.toNat; have:=dpq_nn (P:=P) (P k).l.toNat; have:0≤mx (dpQ P (P k).l.toNat) (dpQ P (P k).r.toNat):=by { unfold mx; split<;>omega }; omega⟩
      obtain ⟨m1,m2⟩:=mx_leq (a:=dpQ P (P k).l.toNat) (b:=dpQ P (P k).r.toNat) (M:=(d':Nat)) (by omega)
      have i1:=paP_wt hP hS f (P k).l.toNat d' (by omega) m1
      have i2:=paP_wt hP hS f (P k).r.toNat d' (by omega) m2
      have ho':(opT (P k).op).length≤6:=by unfold opT; split<;>(try split)<;>simp
      rw [ep,wt_app,wt_app,wt_app,wt_cons,wt_cons,wt_cons,wt_nil,Nat.pow_succ]
      have e1:(kP (opT (P k).op)).1.length=(opT (P k).op).length:=rfl
      have e2:(kP [123]).1.length=1:=rfl
      have e3:(kP [125]).1.length=1:=rfl
      rw [e1,e2,e3]
      omega
theorem soP_wt {P:Nat→Prt} {n:Nat} (h1:1≤n) (hP:PM n P) (har:arB n P=true) (hS:∀ i,i < n→(P i).op=0→(P i).k=1∨(P i).k=2∨(P i).k=5):wt (soP n P)≤731:=by
  have ha:arP n P:=by
    unfold arB at har
    exact @of_decide_eq_true _ (_) har
  have e1:n - 1+1=n:=by omega
  have hdp:dpQ P (n - 1)≤(3:Nat):=by unfold dpQ; rw [e1]; exact ha.2.2
  have:=paP_wt hP hS n (n - 1) 3 (by omega) hdp
  have es:soP n P=kP soW::paP P n (n - 1):=by unfold soP; rw [har]; rfl
  rw [es,wt_cons]
  have e:(kP soW).1.length=5:=rfl
  omega
theorem hi_wt {hs:Nat→Int}:∀ n:Nat,(∀ q,q < n→(hs q).natAbs≤1000000)→wt (hiP hs n)≤9*n
  | 0,_=>Nat.le_refl _
  | n+1,h=>by
    have ih:=hi_wt n fun q hq=>h q (by omega)
    have:=dc_len (h n (by omega))
    unfold hiP at ih ⊢
    rw [List.range_succ,List.map_append,wt_app]
    show _+((dcT (hs n)).length+1+0)≤_
    omega
theorem fdP_wt {F:Hs.Fm.Fd} {W H:Nat} (eW:F.W=(W:Nat)) (eH:F.H=(H:Nat)) (hW:W≤8) (hH:H≤8) (hWH:W*H=F.n) (hh:∀ q,q < F.n→(F.hs q).natAbs≤1000000):wt (fdP F)≤635:=by
  have hn:F.n≤64:=by rw [← hWH]; exact Nat.mul_le_mul hW hH
  have h1:=hi_wt F.n hh
  have v:=vP_wt F.at_ 0
  have n9:=nP_wt F.sd
  have w1:=dd_len (d:=0) (k:=W) (by omega)
  have w2:=dd_len (d:=0) (k:=H) (by omega)
  unfold fdP
  rw [wt_app,wt_app,wt_cons,wt_cons,wt_cons,wt_cons,wt_nil,wt_cons,wt_cons,wt_cons,eW,eH]
  simp only [kP,List.length_cons,List.length_nil]
  omega
theorem flat_len {L:Nat→List TP} {B:Nat}:∀ n:Nat,(∀ j,j < n→wt (L j)+3≤B)→(((List.range n).map L).flatMap lnT).length≤n*B
  | 0,_=>Nat.zero_le _
  | n+1,h=>by
    have ih:=flat_len n fun j hj=>h j (by omega)
    have:=ln_wt (L n)
    have h2:=h n (by omega)
    rw [List.range_succ,List.map_append,List.flatMap_append,List.length_append,Nat.succ_mul]
    have e:(([n].map L).flatMap lnT).length=(lnT (L n)).length:=by simp
    omega
/-- A PRINTED SCENE IS READ: it is not too long. -/
theorem x6_short {s:Scn} (h:Good s):(x6 dcT tnX tbX s).length≤20000:=by
  rw [x6_lines]
  unfold lns
  rw [List.flatMap_append,List.flatMap_append,List.flatMap_append,List.flatMap_append,List.flatMap_append,List.length_append,List.length_append,List.length_append,List.length_append,List.length_append]
  have fK:=h.fK
  have fL:=h.fL
  have fS:=h.fS
  have fO:=h.fO
  have fF:=h.fF
  have b1:((ln1 s).flatMap lnT).length≤133:=by
    have a1:=ln_wt (eyP s.eye)
    have a2:=ln_wt (skyP s.sky)
    have v0:=vP_wt s.eye 0
    have v3:=vP_wt s.eye 3
    have v6:=vP_wt s.eye 6
    have n9:=nP_wt (s.eye 9)
    have hk:=hP_wt (d:=4) h.sky (by decide)
    have e1:wt (eyP s.eye)=4+(wt (vP s.eye 0)+(3+(wt (vP s.eye 3)+(3+(wt (vP s.eye 6)+(5+((nP (s.eye 9)).1.length+1))))))):=by
      unfold eyP
      rw [wt_cons,wt_app,wt_cons,wt_app,wt_cons,wt_app,wt_cons,wt_cons,wt_nil]
      rfl
    have e2:wt (skyP s.sky)=4+wt (hP s.sky):=rfl
    unfold ln1
    rw [List.flatMap_cons,List.flatMap_cons,List.flatMap_nil,List.append_nil,List.length_append]
    omega
  have b2:(((List.range s.nK).map (ln2 s)).flatMap lnT).length≤s.nK*91:=flat_len _ fun j hj=>by
    obtain ⟨k1,k2⟩:=h.K j hj
    have a1:=hP_wt (d:=3) (m:=1000) (f:=s.K j) (fun q hq=>k1 q (by omega)) (by decide)
    have a2:=hP_wt (d:=3) (m:=1000) (f:=fun q=>s.K j (3+q)) (fun q hq=>k1 (3+q) (by omega)) (by decide)
    have a3:=hP_wt (d:=3) (m:=1000) (f:=fun q=>s.K j (6+q)) (fun q hq=>k1 (6+q) (by omega)) (by decide)
    have a4:=dc_len k2
    have a5:=mP_wt (k:=j) (by omega)
    have a5:(mP' (j:Nat)).1.length+1+0≤4:=a5
    have e:wt (ln2 s j)=5+((mP' (j:Nat)).1.length+1+(7+0))+(wt (hP (s.K j))+(7+(wt (hP fun q=>s.K j (3+q))+(6+(wt (hP fun q=>s.K j (6+q))+(5+((dcT (s.K j 9)).length+1+0))))))):=by
      unfold ln2 skP
      rw [wt_app,wt_app,wt_cons (kP W3),wt_app,wt_cons (kP W4),wt_app]
      rfl
    rw [e]
    omega
  have b3:(((List.range s.nL).map (ln3 s)).flatMap lnT).length≤s.nL*59:=flat_len _ fun j hj=>by
    have a1:=hP_wt (d:=4) (h.LL j hj) (by decide)
    have v0:=vP_wt (s.LA j) 0
    have e:wt (ln3 s j)=5+(wt (vP (s.LA j) 0)+(6+wt (hP (s.LL j)))):=by
      unfold ln3 lmP
      rw [wt_cons,wt_app,wt_cons]
      rfl
    rw [e]
    omega
  have b4:(((List.range s.nS).map (ln4 s)).flatMap lnT).length≤s.nS*96:=flat_len _ fun j hj=>by
    obtain ⟨_,w,e,hw⟩:=h.S j hj
    have a1:=(shP_wt (s.S j).k (s.S j).a).1
    have a2:=mP_wt (k:=w) (by omega)
    unfold ln4
    rw [e,wt_app]
    omega
  have b5:(((List.range s.nO).map (ln5 s)).flatMap lnT).length≤s.nO*738:=flat_len _ fun j hj=>by
    obtain ⟨h1,h2,h3,h4,w,e,hw⟩:=h.O j hj
    have a1:=soP_wt h1.1 h2 h3 h4
    have a2:=mP_wt (k:=w) (by omega)
    unfold ln5
    rw [e,wt_app]
    omega
  have b6:(((List.range s.nF).map (ln6 s)).flatMap lnT).length≤s.nF*642:=flat_len _ fun j hj=>by
    obtain ⟨W,H,w,eW,eH,hW,hH,hWH,hh,e,hw⟩:=h.F j hj
    have a1:=fdP_wt eW eH hW hH hWH hh
    have a2:=mP_wt (k:=w) (by omega)
    unfold ln6
    rw [e,wt_app]
    omega
  omega
end Go.Proofs.YtefphimaggjihaaGreatDoor.Pi.Rd

namespace Go.Proofs.YtefphimaggjihaaGreatDoor.Pi.Rd
open Go.Shelf Go.RowKit Go.Gv
open Hs.Sc (Scn)
open Hs Hs.So Hs.Sc Hs.Fm
open Go.Ev (feq)
theorem rdF_eq {x:Nat} (h:tbX x=true):feq (rdF x) x=true:=(tb_has h).2
theorem vb_no {a:Nat→Nat} {i:Nat} (h:vB tbX a i=false):tbX (a i)=true∧tbX (a (i+1))=true∧tbX (a (i+2))=true:=by
  unfold vB vbad at h
  revert h
  cases tbX (a i)<;>cases tbX (a (i+1))<;>cases tbX (a (i+2))<;>intro h<;>first | exact ⟨rfl,rfl,rfl⟩ | (cases h; done)
theorem eyb_no {e:Nat→Nat} (h:eyB tbX e=false):∀ i,i < 10→tbX (e i)=true:=by
  unfold eyB at h
  obtain ⟨h0,h⟩:=Bool.or_eq_false_iff.1 h
  obtain ⟨h3,h⟩:=Bool.or_eq_false_iff.1 h
  obtain ⟨h6,h9⟩:=Bool.or_eq_false_iff.1 h
  obtain ⟨a0,a1,a2⟩:=vb_no h0
  obtain ⟨a3,a4,a5⟩:=vb_no h3
  obtain ⟨a6,a7,a8⟩:=vb_no h6
  have a9:=not_no h9
  intro i hi
  match i,hi with
  | 0,_=>exact a0
  | 1,_=>exact a1
  | 2,_=>exact a2
  | 3,_=>exact a3
  | 4,_=>exact a4
  | 5,_=>exact a5
  | 6,_=>exact a6
  | 7,_=>exact a7
  | 8,_=>exact a8
  | 9,_=>exact a9
/-- What is said of a scene that could be printed, thing by thing. -/
structure Told (s:Scn):Prop where
  eye:∀ i,i < 10→tbX (s.eye i)=true
  L:∀ j,j < s.nL→vB tbX (s.LA j) 0=false
  S:∀ j,j < s.nS→shB tbX (s.S j).k (s.S j).a (s.S j).sk=false
  O:∀ j,j < s.nO→soB tbX (s.O j).n (s.O j).P=false
  F:∀ j,j < s.nF→fdB tbX (s.F j)=false
theorem told_of {s:Scn} (hw:w6 dcT tnX tbX s=false):Told s:=by
  unfold w6 at hw
  obtain ⟨hw,h6⟩:=Bool.or_eq_false_iff.1 hw
  unfold w5 at hw
  obtain ⟨hw,h5⟩:=Bool.or_eq_false_iff.1 hw
  unfold w4 at hw
  obtain ⟨hw,h4⟩:=Bool.or_eq_false_iff.1 hw
  unfold w3 at hw
  obtain ⟨hw,h3⟩:=Bool.or_eq_false_iff.1 hw
  unfold w2 at hw
  obtain ⟨hw,_⟩:=Bool.or_eq_false_iff.1 hw
  unfold w1 at hw
  obtain ⟨h1,_⟩:=Bool.or_eq_false_iff.1 hw
  exact ⟨eyb_no h1,fun j hj=>(Bool.or_eq_false_iff.1 (any_no h3 j hj)).1,fun j hj=>(Bool.or_eq_false_iff.1 (any_no h4 j hj)).1,fun j hj=>(Bool.or_eq_false_iff.1 (any_no h5 j hj)).1,fun j hj=>(Bool.or_eq_false_iff.1 (any_no h6 j hj)).1⟩
/-- May of what was read of skins: the numbers are the same. -/
theorem may_skin {s:Scn} (h:scE s=0) {j:Nat} (hj:j < s.nK):FSpec Tryz.prog 18 [.agg (skK (skL' (s.K j)))] (iA 0):=by
  unfold scE at h
  obtain ⟨_,h⟩:=c4 (by decide) h
  obtain ⟨hK,_⟩:=c0 h
  have e:skE (s.K j)=0:=seq_zero _ hK j hj
  have:=sk_spec (s.K j)
  rw [e] at this
  exact this
end Go.Proofs.YtefphimaggjihaaGreatDoor.Pi.Rd

namespace Go.Proofs.YtefphimaggjihaaGreatDoor.Pi.Rd
open Go.Shelf Go.RowKit Go.Gv
open Hs.Sc (Scn)
open Hs Hs.So Hs.Sc Hs.Fm
open Go.Ev (feq)
theorem eqV_all {t a:Nat→Nat} {i:Nat} (h:eqV t a i=true):feq (t i) (a i)=true∧feq (t (i+1)) (a (i+1))=true∧feq (t (i+2)) (a (i+2))=true:=by
  unfold eqV at h
  simp only [Bool.and_eq_true] at h
  exact ⟨h.1,h.2.1,h.2.2.1⟩
theorem eqS_all {k:Int} {t a:Nat→Nat} {sk:Int} (h:(!(Pi.eqS k t a sk))=false):∀ i,i < 11→feq (t i) (a i)=true:=by
  have h:=not_no h
  unfold Pi.eqS at h
  simp only [Bool.and_eq_true] at h
  obtain ⟨_,h0,h3,h6,h9,h10,_⟩:=h
  obtain ⟨a0,a1,a2⟩:=eqV_all h0
  obtain ⟨a3,a4,a5⟩:=eqV_all h3
  obtain ⟨a6,a7,a8⟩:=eqV_all h6
  intro i hi
  match i,hi with
  | 0,_=>exact a0
  | 1,_=>exact a1
  | 2,_=>exact a2
  | 3,_=>exact a3
  | 4,_=>exact a4
  | 5,_=>exact a5
  | 6,_=>exact a6
  | 7,_=>exact a7
  | 8,_=>exact a8
  | 9,_=>exact h9
  | 10,_=>exact h10
/-- A cell: told, and read; or nought. -/
theorem cell_of {T:(Nat→Nat)→Nat→Nat} {a:Nat→Nat} {i:Nat} (h:feq (T a i) (a i)=true) (hT:(T (rd a) i=rd a i∧tbX (a i)=true)∨(T a i=0∧T (rd a) i=0)):feq (T (rd a) i) (a i)=true:=by
  rcases hT with ⟨h1,h2⟩ | ⟨h1,h2⟩
  · rw [h1]; exact rdF_eq h2
  · rw [h2,← h1]; exact h
theorem sh_same {k:Int} {a:Nat→Nat} {sk:Int} (hk:1≤k∧k≤6) (h:shB tbX k a sk=false):∀ i,i < 11→feq (cX k (rd a) i) (a i)=true:=by
  have hk':k=1∨k=2∨k=3∨k=4∨k=5∨k=6:=by omega
  have go:∀ (T:(Nat→Nat)→Nat→Nat),(∀ i,i < 11→feq (T a i) (a i)=true)→(∀ i,i < 11→(T (rd a) i=rd a i∧tbX (a i)=true)∨(T a i=0∧T (rd a) i=0))→∀ i,i < 11→feq (T (rd a) i) (a i)=true:=fun T h1 h2 i hi=>cell_of (h1 i hi) (h2 i hi)
  rcases hk' with rfl | rfl | rfl | rfl | rfl | rfl
  · have h:shB1 tbX a sk=false:=h
    unfold shB1 at h
    obtain ⟨h0,h⟩:=Bool.or_eq_false_iff.1 h
    obtain ⟨h9,he⟩:=Bool.or_eq_false_iff.1 h
    obtain ⟨a0,a1,a2⟩:=vb_no h0
    have a9:=not_no h9
    refine go t1 (eqS_all he) fun i hi=>?_
    match i,hi with
    | 0,_=>exact Or.inl ⟨rfl,a0⟩
    | 1,_=>exact Or.inl ⟨rfl,a1⟩
    | 2,_=>exact Or.inl ⟨rfl,a2⟩
    | 3,_=>exact Or.inr ⟨rfl,rfl⟩
    | 4,_=>exact Or.inr ⟨rfl,rfl⟩
    | 5,_=>exact Or.inr ⟨rfl,rfl⟩
    | 6,_=>exact Or.inr ⟨rfl,rfl⟩
    | 7,_=>exact Or.inr ⟨rfl,rfl⟩
    | 8,_=>exact Or.inr ⟨rfl,rfl⟩
    | 9,_=>exact Or.inl ⟨rfl,a9⟩
    | 10,_=>exact Or.inr ⟨rfl,rfl⟩
  · have h:shB2 tbX a sk=false:=h
    unfold shB2 at h
    obtain ⟨h0,h⟩:=Bool.or_eq_false_iff.1 h
    obtain ⟨h3,he⟩:=Bool.or_eq_false_iff.1 h
    obtain ⟨a0,a1,a2⟩:=vb_no h0
    obtain ⟨a3,a4,a5⟩:=vb_no h3
    refine go t2 (eqS_all he) fun i hi=>?_
    match i,hi with
    | 0,_=>exact Or.inl ⟨rfl,a0⟩
    | 1,_=>exact Or.inl ⟨rfl,a1⟩
    | 2,_=>exact Or.inl ⟨rfl,a2⟩
    | 3,_=>exact Or.inl ⟨rfl,a3⟩
    | 4,_=>exact Or.inl ⟨rfl,a4⟩
    | 5,_=>exact Or.inl ⟨rfl,a5⟩
    | 6,_=>exact Or.inr ⟨rfl,rfl⟩
    | 7,_=>exact Or.inr ⟨rfl,rfl⟩
    | 8,_=>exact Or.inr ⟨rfl,rfl⟩
    | 9,_=>exact Or.inr ⟨rfl,rfl⟩
    | 10,_=>exact Or.inr ⟨rfl,rfl⟩
  · have h:shB3 tbX a sk=false:=h
    unfold shB3 at h
    obtain ⟨h0,h⟩:=Bool.or_eq_false_iff.1 h
    obtain ⟨h3,h⟩:=Bool.or_eq_false_iff.1 h
    obtain ⟨h6,he⟩:=Bool.or_eq_false_iff.1 h
    obtain ⟨a0,a1,a2⟩:=vb_no h0
    obtain ⟨a3,a4,a5⟩:=vb_no h3
    obtain ⟨a6,a7,a8⟩:=vb_no h6
    refine go t3 (eqS_all he) fun i hi=>?_
    match i,hi with
    | 0,_=>exact Or.inl ⟨rfl,a0⟩
    | 1,_=>exact Or.inl ⟨rfl,a1⟩
    | 2,_=>exact Or.inl ⟨rfl,a2⟩
    | 3,_=>exact Or.inl ⟨rfl,a3⟩
    | 4,_=>exact Or.inl ⟨rfl,a4⟩
    | 5,_=>exact Or.inl ⟨rfl,a5⟩
    | 6,_=>exact Or.inl ⟨rfl,a6⟩
    | 7,_=>exact Or.inl ⟨rfl,a7⟩
    | 8,_=>exact Or.inl ⟨rfl,a8⟩
    | 9,_=>exact Or.inr ⟨rfl,rfl⟩
    | 10,_=>exact Or.inr ⟨rfl,rfl⟩
  · have h:shB4 tbX a sk=false:=h
    unfold shB4 at h
    obtain ⟨h,he⟩:=Bool.or_eq_false_iff.1 h
    obtain ⟨h0,h⟩:=Bool.or_eq_false_iff.1 h
    obtain ⟨h3,h9⟩:=Bool.or_eq_false_iff.1 h
    obtain ⟨a0,a1,a2⟩:=vb_no h0
    obtain ⟨a3,a4,a5⟩:=vb_no h3
    have a9:=not_no h9
    refine go t4 (eqS_all he) fun i hi=>?_
    match i,hi with
    | 0,_=>exact Or.inl ⟨rfl,a0⟩
    | 1,_=>exact Or.inl ⟨rfl,a1⟩
    | 2,_=>exact Or.inl ⟨rfl,a2⟩
    | 3,_=>exact Or.inl ⟨rfl,a3⟩
    | 4,_=>exact Or.inl ⟨rfl,a4⟩
    | 5,_=>exact Or.inl ⟨rfl,a5⟩
    | 6,_=>exact Or.inr ⟨rfl,rfl⟩
    | 7,_=>exact Or.inr ⟨rfl,rfl⟩
    | 8,_=>exact Or.inr ⟨rfl,rfl⟩
    | 9,_=>exact Or.inl ⟨rfl,a9⟩
    | 10,_=>exact Or.inr ⟨rfl,rfl⟩
  · have h:shB5 tbX a sk=false:=h
    unfold shB5 at h
    obtain ⟨h,he⟩:=Bool.or_eq_false_iff.1 h
    obtain ⟨h0,h⟩:=Bool.or_eq_false_iff.1 h
    obtain ⟨h3,h9⟩:=Bool.or_eq_false_iff.1 h
    obtain ⟨a0,a1,a2⟩:=vb_no h0
    obtain ⟨a3,a4,a5⟩:=vb_no h3
    have a9:=not_no h9
    refine go t4 (eqS_all he) fun i hi=>?_
    match i,hi with
    | 0,_=>exact Or.inl ⟨rfl,a0⟩
    | 1,_=>exact Or.inl ⟨rfl,a1⟩
    | 2,_=>exact Or.inl ⟨rfl,a2⟩
    | 3,_=>exact Or.inl ⟨rfl,a3⟩
    | 4,_=>exact Or.inl ⟨rfl,a4⟩
    | 5,_=>exact Or.inl ⟨rfl,a5⟩
    | 6,_=>exact Or.inr ⟨rfl,rfl⟩
    | 7,_=>exact Or.inr ⟨rfl,rfl⟩
    | 8,_=>exact Or.inr ⟨rfl,rfl⟩
    | 9,_=>exact Or.inl ⟨rfl,a9⟩
    | 10,_=>exact Or.inr ⟨rfl,rfl⟩
  · have h:shB6 tbX a sk=false:=h
    unfold shB6 at h
    obtain ⟨h,h'⟩:=Bool.or_eq_false_iff.1 h
    obtain ⟨h10,he⟩:=Bool.or_eq_false_iff.1 h'
    obtain ⟨h0,h⟩:=Bool.or_eq_false_iff.1 h
    obtain ⟨h3,h9⟩:=Bool.or_eq_false_iff.1 h
    obtain ⟨a0,a1,a2⟩:=vb_no h0
    obtain ⟨a3,a4,a5⟩:=vb_no h3
    have a9:=not_no h9
    have a10:=not_no h10
    refine go t6 (eqS_all he) fun i hi=>?_
    match i,hi with
    | 0,_=>exact Or.inl ⟨rfl,a0⟩
    | 1,_=>exact Or.inl ⟨rfl,a1⟩
    | 2,_=>exact Or.inl ⟨rfl,a2⟩
    | 3,_=>exact Or.inl ⟨rfl,a3⟩
    | 4,_=>exact Or.inl ⟨rfl,a4⟩
    | 5,_=>exact Or.inl ⟨rfl,a5⟩
    | 6,_=>exact Or.inr ⟨rfl,rfl⟩
    | 7,_=>exact Or.inr ⟨rfl,rfl⟩
    | 8,_=>exact Or.inr ⟨rfl,rfl⟩
    | 9,_=>exact Or.inl ⟨rfl,a9⟩
    | 10,_=>exact Or.inl ⟨rfl,a10⟩
end Go.Proofs.YtefphimaggjihaaGreatDoor.Pi.Rd

namespace Go.Ev
open Ieee
/-- They say the same, but for the sign of nought. -/
def Sm (x y:Nat):Prop:=double.read x=double.read y∨((double.read x).isZero=true∧(double.read y).isZero=true)
theorem Sm.refl (x:Nat):Sm x x:=Or.inl rfl
theorem Sm.trans {x y z:Nat} (h:Sm x y) (h':Sm y z):Sm x z:=by
  rcases h with h | ⟨h1,h2⟩
  · rcases h' with h' | ⟨h3,h4⟩
    · exact Or.inl (h.trans h')
    · exact Or.inr ⟨by rw [h]; exact h3,h4⟩
  · rcases h' with h' | ⟨h3,h4⟩
    · exact Or.inr ⟨h1,by rw [← h']; exact h2⟩
    · exact Or.inr ⟨h1,h4⟩
theorem read_at {x y:Nat} (hs:sgn x=sgn y) (hr:rung x=rung y):double.read x=double.read y:=by
  have key:∀ x,double.read x=(fun (n:Bool) (r:Nat)=>if r < double.binade then Datum.number n r double.leastPlace else if r < double.infRung then .number n (double.binade+r % double.binade) (double.leastPlace+(r / double.binade - 1:Nat)) else if r=double.infRung then .infinity n else .nan n (r - double.infRung)) (sgn x) (rung x):=fun x=>rfl
  rw [key x,key y,hs,hr]
theorem zero_read {x:Nat} (h:(double.read x).isZero=true):double.read x=.number (sgn x) 0 (-1074):=by
  by_cases hr:rung x=0
  · exact read_nought hr
  exfalso
  cases hn:isNan x
  · rcases fin_or_inf hn with hf | hf
    · obtain ⟨m,i,e,_,_,hv⟩:=read_fin hf
      have hp:rv 52 0 < rv 52 (rung x):=rv_lt 52 (by omega)
      rw [rv_zero,hv] at hp
      rw [e] at h
      cases m with
      | zero=>rw [Nat.zero_mul] at hp; exact absurd hp (Nat.lt_irrefl 0)
      | succ m=>cases h
    · rw [read_inf hf] at h; cases h
  · unfold isNan at hn
    cases hd:double.read x with
    | number s m i=>rw [hd] at hn; cases hn
    | infinity s=>rw [hd] at hn; cases hn
    | nan s f=>rw [hd] at h; cases h
/-- What compares as the same. -/
theorem sm_of {x y:Nat} (h:feq x y=true):Sm x y:=by
  obtain ⟨_,_,hk⟩:=feq_true h
  have ax:∀ x,(key x).natAbs=rung x:=fun x=>by unfold key; cases sgn x<;>simp only [cond_true,cond_false]<;>omega
  have sx:∀ x,key x≠0→sgn x=decide (key x < 0):=fun x h=>by
    have e:key x=cond (sgn x) (-(rung x:Int)) (rung x):=rfl
    cases hs:sgn x
    · rw [hs,cond_false] at e; rw [decide_eq_false (by omega)]
    · rw [hs,cond_true] at e; rw [decide_eq_true (by omega)]
  have hr:rung x=rung y:=by rw [← ax,← ax,hk]
  by_cases h0:key x=0
  · have r0:rung x=0:=by rw [← ax,h0]; rfl
    exact Or.inr ⟨by rw [read_nought r0]; rfl,by rw [read_nought (hr ▸ r0)]; rfl⟩
  · exact Or.inl (read_at (by rw [sx x h0,sx y (hk ▸ h0),hk]) hr)
theorem signed_zero (s:Bool) (k:Nat):signed s 0 k=0:=by cases s<;>simp [signed]
theorem order_sm {x x' y y':Nat} (hx:Sm x x') (hy:Sm y y'):double.order x y=double.order x' y':=by
  have L:∀ (s s':Bool) (e:Datum),(Datum.number s 0 (-1074)).order e=(Datum.number s' 0 (-1074)).order e:=fun s s' e=>by
    cases e with
    | nan=>rfl
    | infinity t=>rfl
    | number t n j=>simp only [Datum.order,signed_zero]
  have R:∀ (s s':Bool) (e:Datum),e.order (Datum.number s 0 (-1074))=e.order (Datum.number s' 0 (-1074)):=fun s s' e=>by
    cases e with
    | nan=>rfl
    | infinity t=>rfl
    | number t n j=>simp only [Datum.order,signed_zero]
  have a:(double.read x).order (double.read y)=(double.read x').order (double.read y):=by
    rcases hx with h | ⟨h1,h2⟩
    · rw [h]
    · rw [zero_read h1,zero_read h2]; exact L _ _ _
  have b:(double.read x').order (double.read y)=(double.read x').order (double.read y'):=by
    rcases hy with h | ⟨h1,h2⟩
    · rw [h]
    · rw [zero_read h1,zero_read h2]; exact R _ _ _
  exact a.trans b
theorem feq_sm {x x' y y':Nat} (hx:Sm x x') (hy:Sm y y'):feq x y=feq x' y':=by unfold feq; rw [order_sm hx hy]
theorem flt_sm {x x' y y':Nat} (hx:Sm x x') (hy:Sm y y'):flt x y=flt x' y':=by unfold flt; rw [order_sm hx hy]
theorem fle_sm {x x' y y':Nat} (hx:Sm x x') (hy:Sm y y'):fle x y=fle x' y':=by unfold fle; rw [order_sm hx hy]
theorem fgt_sm {x x' y y':Nat} (hx:Sm x x') (hy:Sm y y'):fgt x y=fgt x' y':=by unfold fgt; rw [order_sm hx hy]
theorem fge_sm {x x' y y':Nat} (hx:Sm x x') (hy:Sm y y'):fge x y=fge x' y':=by unfold fge; rw [order_sm hx hy]
/-- Two answers that say the same. -/
def SmO (o o':Option Datum):Prop:=o=o'∨∃ s s' i i',o=some (.number s 0 i)∧o'=some (.number s' 0 i')
theorem word_zero (s:Bool):(double.read (double.word s 0)).isZero=true:=by cases s<;>decide +kernel
theorem SmO.sm {o o':Option Datum} (h:SmO o o'):Sm ((o.map double.write).getD nanB) ((o'.map double.write).getD nanB):=by
  rcases h with h | ⟨s,s',i,i',h1,h2⟩
  · rw [h]; exact Sm.refl _
  · rw [h1,h2]
    have e:∀ s i,((some (Datum.number s 0 i)).map double.write).getD nanB=double.word s 0:=fun s i=>nearest_zero s i
    rw [e,e]
    exact Or.inr ⟨word_zero s,word_zero s'⟩
theorem op_sm {f:Datum→Datum→Option Datum} (hl:∀ s s' e,SmO (f (.number s 0 (-1074)) e) (f (.number s' 0 (-1074)) e)) (hr:∀ s s' e,SmO (f e (.number s 0 (-1074))) (f e (.number s' 0 (-1074)))) {x x' y y':Nat} (hx:Sm x x') (hy:Sm y y') :
    Sm (((f (double.read x) (double.read y)).map double.write).getD nanB) (((f (double.read x') (double.read y')).map double.write).getD nanB):=by
  refine Sm.trans (y:=((f (double.read x') (double.read y)).map double.write).getD nanB) ?_ ?_
  · rcases hx with h | ⟨h1,h2⟩
    · rw [h]; exact Sm.refl _
    · rw [zero_read h1,zero_read h2]; exact (hl _ _ _).sm
  · rcases hy with h | ⟨h1,h2⟩
    · rw [h]; exact Sm.refl _
    · rw [zero_read h1,zero_read h2]; exact (hr _ _ _).sm
theorem sum_zl (s s':Bool) (e:Datum):SmO ((Datum.number s 0 (-1074)).sum e) ((Datum.number s' 0 (-1074)).sum e):=by
  cases e with
  | nan=>exact Or.inl rfl
  | infinity t=>exact Or.inl rfl
  | number t n j =>
    have key:∀ s,(Datum.number s 0 (-1074)).sum (.number t n j)=some (.number (if (0:Int)+signed t n (j - min (-1074) j).toNat=0 then s&&t else decide ((0:Int)+signed t n (j - min (-1074) j).toNat < 0)) ((0:Int)+signed t n (j - min (-1074) j).toNat).natAbs (min (-1074) j)):=fun s=>by
      simp only [Datum.sum,signed_zero]
    rw [key s,key s']
    by_cases h:(0:Int)+signed t n (j - min (-1074) j).toNat=0
    · rw [if_pos h,if_pos h,h]
      exact Or.inr ⟨_,_,_,_,rfl,rfl⟩
    · rw [if_neg h,if_neg h]; exact Or.inl rfl
theorem sum_zr (s s':Bool) (e:Datum):SmO (e.sum (Datum.number s 0 (-1074))) (e.sum (Datum.number s' 0 (-1074))):=by
  rw [sum_comm e,sum_comm e]; exact sum_zl s s' e
theorem sm_add {x x' y y':Nat} (hx:Sm x x') (hy:Sm y y'):Sm (fadd x y) (fadd x' y'):=op_sm sum_zl sum_zr hx hy
theorem sm_sub {x x' y y':Nat} (hx:Sm x x') (hy:Sm y y'):Sm (fsub x y) (fsub x' y'):=by
  refine op_sm (f:=fun d e=>d.sum e.opposite) (fun s s' e=>sum_zl s s' _) (fun s s' e=>?_) hx hy
  exact sum_zr (!s) (!s') e
theorem product_zl (s s':Bool) (e:Datum):SmO ((Datum.number s 0 (-1074)).product e) ((Datum.number s' 0 (-1074)).product e):=by
  cases e with
  | nan=>exact Or.inl rfl
  | infinity t=>exact Or.inl rfl
  | number t n j =>
    refine Or.inr ⟨s ^^ t,s' ^^ t,-1074+j,-1074+j,?_,?_⟩
    · simp only [Datum.product,Nat.zero_mul]
    · simp only [Datum.product,Nat.zero_mul]
theorem product_zr (s s':Bool) (e:Datum):SmO (e.product (Datum.number s 0 (-1074))) (e.product (Datum.number s' 0 (-1074))):=by
  rw [product_comm e,product_comm e]; exact product_zl s s' e
theorem sm_mul {x x' y y':Nat} (hx:Sm x x') (hy:Sm y y'):Sm (fmul x y) (fmul x' y'):=op_sm product_zl product_zr hx hy
theorem sm_sqrt {x x':Nat} (hx:Sm x x'):Sm (fsqrt x) (fsqrt x'):=by
  have key:∀ x,fsqrt x=(((double.read x).root 54).map double.write).getD nanB:=fun x=>rfl
  rw [key,key]
  rcases hx with h | ⟨h1,h2⟩
  · rw [h]; exact Sm.refl _
  · rw [zero_read h1,zero_read h2]
    exact (show SmO _ _ from Or.inr ⟨_,_,_,_,rfl,rfl⟩).sm
theorem quot_zl (s s':Bool) (e:Datum):SmO ((Datum.number s 0 (-1074)).quotient 54 e) ((Datum.number s' 0 (-1074)).quotient 54 e):=by
  cases e with
  | nan=>exact Or.inl rfl
  | infinity t=>exact Or.inr ⟨_,_,_,_,rfl,rfl⟩
  | number t n j =>
    cases n with
    | zero=>exact Or.inl rfl
    | succ n =>
      have key:∀ s,(Datum.number s 0 (-1074)).quotient 54 (.number t (n+1) j)=some (.number (s ^^ t) 0 (-1074 - j - ((54+(n+1).log2 - (0:Nat).log2:Nat):Int) - 1)):=fun s=>by
        simp only [Datum.quotient,Nat.add_one_ne_zero,if_false,Nat.zero_shiftLeft,Nat.zero_div,Nat.zero_mod,Nat.mul_zero,bne_self_eq_false,Bool.toNat_false,Nat.add_zero]
      exact Or.inr ⟨_,_,_,_,key s,key s'⟩
/-- What is divided by a number that is not nought. -/
theorem sm_div {x x' y y':Nat} (hx:Sm x x') (hy:Sm y y') (h0:feq y 0=false):Sm (fdiv x y) (fdiv x' y'):=by
  have key:∀ x y,fdiv x y=(((double.read x).quotient 54 (double.read y)).map double.write).getD nanB:=fun x y=>rfl
  rw [key,key]
  have hy:double.read y=double.read y':=by
    rcases hy with h | ⟨h1,_⟩
    · exact h
    · exfalso
      have z0:(double.read 0).isZero=true:=by decide +kernel
      have:feq y 0=feq 0 0:=feq_sm (Or.inr ⟨h1,z0⟩) (Sm.refl 0)
      rw [this] at h0
      exact absurd h0 (by decide +kernel)
  rw [hy]
  rcases hx with h | ⟨h1,h2⟩
  · rw [h]; exact Sm.refl _
  · rw [zero_read h1,zero_read h2]
    exact (quot_zl _ _ _).sm
end Go.Ev

namespace Go.Proofs.YtefphimaggjihaaGreatDoor.Pi.Rd
open Go.Shelf Go.RowKit Go.Gv
open Hs.Sc (Scn)
open Hs Hs.So Hs.Sc Hs.Fm
open Go.Ev (feq flt fle fgt fge fadd fsub fmul fdiv fsqrt Sm sm_of feq_sm flt_sm fle_sm fgt_sm fge_sm sm_add sm_sub sm_mul sm_sqrt sm_div)
theorem near_sm {x y:Nat} (h:Sm x y):nearS x=nearS y:=by unfold nearS; rw [fge_sm h (Sm.refl _),fle_sm h (Sm.refl _)]
theorem fine_sm {a b c a' b' c':Nat} (ha:Sm a a') (hb:Sm b b') (hc:Sm c c'):fineS a b c=fineS a' b' c':=by unfold fineS; rw [near_sm ha,near_sm hb,near_sm hc]
theorem cond_sm {b b':Bool} {x y x' y':Nat} (hb:b=b') (hx:Sm x x') (hy:Sm y y'):Sm (cond b x y) (cond b' x' y'):=by
  subst hb
  cases b
  · exact hy
  · exact hx
theorem less_sm {x y x' y':Nat} (hx:Sm x x') (hy:Sm y y'):Sm (lessS x y) (lessS x' y'):=cond_sm (flt_sm hy hx) hy hx
theorem more_sm {x y x' y':Nat} (hx:Sm x x') (hy:Sm y y'):Sm (moreS x y) (moreS x' y'):=cond_sm (fgt_sm hy hx) hy hx
theorem neZ_sm {x y:Nat} (h:Sm x y):neZ x=neZ y:=by unfold neZ; rw [feq_sm h (Sm.refl _)]
/-- Six numbers that are the same. -/
abbrev Six (b b':Nat→Nat):Prop:=∀ i,i < 6→Sm (b i) (b' i)
theorem six {x0 x1 x2 x3 x4 x5 y0 y1 y2 y3 y4 y5:Nat} (h0:Sm x0 y0) (h1:Sm x1 y1) (h2:Sm x2 y2) (h3:Sm x3 y3) (h4:Sm x4 y4) (h5:Sm x5 y5):Six (ls [x0,x1,x2,x3,x4,x5]) (ls [y0,y1,y2,y3,y4,y5]):=fun i hi =>
  match i,hi with
  | 0,_=>h0
  | 1,_=>h1
  | 2,_=>h2
  | 3,_=>h3
  | 4,_=>h4
  | 5,_=>h5
theorem join_sm {b b' c c':Nat→Nat} (hb:Six b b') (hc:Six c c'):Six (joinS b c) (joinS b' c'):=by
  unfold joinS
  exact six (less_sm (hb 0 (by omega)) (hc 0 (by omega))) (less_sm (hb 1 (by omega)) (hc 1 (by omega))) (less_sm (hb 2 (by omega)) (hc 2 (by omega))) (more_sm (hb 3 (by omega)) (hc 3 (by omega))) (more_sm (hb 4 (by omega)) (hc 4 (by omega))) (more_sm (hb 5 (by omega)) (hc 5 (by omega)))
theorem mayS_sm {b b':Nat→Nat} (h:Six b b'):mayS b=mayS b':=by
  have h0:=h 0 (by omega)
  have h1:=h 1 (by omega)
  have h2:=h 2 (by omega)
  have h3:=h 3 (by omega)
  have h4:=h 4 (by omega)
  have h5:=h 5 (by omega)
  unfold mayS mayF mayG
  rw [fine_sm h0 h1 h2,fine_sm h3 h4 h5,fgt_sm h0 h3,fgt_sm h1 h4,fgt_sm h2 h5]
theorem len_sm {a b c a' b' c':Nat} (ha:Sm a a') (hb:Sm b b') (hc:Sm c c'):Sm (lengthS a b c) (lengthS a' b' c'):=by
  unfold lengthS dotS
  exact sm_sqrt (sm_add (sm_add (sm_mul ha ha) (sm_mul hb hb)) (sm_mul hc hc))
theorem unE_sm {a b c a' b' c':Nat} (ha:Sm a a') (hb:Sm b b') (hc:Sm c c'):unE a b c=unE a' b' c':=by
  unfold unE
  rw [fine_sm ha hb hc,feq_sm (len_sm ha hb hc) (Sm.refl 0)]
theorem unN_sm {a b c x a' b' c' x':Nat} (ha:Sm a a') (hb:Sm b b') (hc:Sm c c') (hx:Sm x x'):Sm (unN a b c x) (unN a' b' c' x'):=by
  unfold unN
  rw [← fine_sm ha hb hc,← feq_sm (len_sm ha hb hc) (Sm.refl 0)]
  cases fineS a b c
  · exact Sm.refl 0
  · cases h0:feq (lengthS a b c) 0
    · exact sm_div hx (len_sm ha hb hc) h0
    · exact Sm.refl 0
theorem crX_sm {b c e f b' c' e' f':Nat} (hb:Sm b b') (hc:Sm c c') (he:Sm e e') (hf:Sm f f'):Sm (crX b c e f) (crX b' c' e' f'):=sm_sub (sm_mul hb hf) (sm_mul hc he)
theorem eye_sm {e e':Nat→Nat} (h:∀ i,i < 10→Sm (e i) (e' i)):eyE e=eyE e':=by
  have h0:=h 0 (by omega)
  have h1:=h 1 (by omega)
  have h2:=h 2 (by omega)
  have h3:=h 3 (by omega)
  have h4:=h 4 (by omega)
  have h5:=h 5 (by omega)
  have h6:=h 6 (by omega)
  have h7:=h 7 (by omega)
  have h8:=h 8 (by omega)
  have h9:=h 9 (by omega)
  have dx:Sm (dX e) (dX e'):=sm_sub h3 h0
  have dy:Sm (dY e) (dY e'):=sm_sub h4 h1
  have dz:Sm (dZ e) (dZ e'):=sm_sub h5 h2
  have ux:Sm (uX e) (uX e'):=unN_sm dx dy dz dx
  have uy:Sm (uY e) (uY e'):=unN_sm dx dy dz dy
  have uz:Sm (uZ e) (uZ e'):=unN_sm dx dy dz dz
  have up:upB e=upB e':=by
    unfold upB
    exact feq_sm (len_sm (crX_sm uy uz h7 h8) (crX_sm uz ux h8 h6) (crX_sm ux uy h6 h7)) (Sm.refl 0)
  unfold eyE feB
  rw [fine_sm h0 h1 h2,fine_sm h3 h4 h5,fine_sm h6 h7 h8,near_sm h9,fgt_sm h9 (Sm.refl 0),unE_sm dx dy dz,up]
section
variable {a a':Nat→Nat} (h:∀ i,i < 11→Sm (a i) (a' i))
include h
theorem rc_sm:rcB a=rcB a':=by
  unfold rcB
  rw [fine_sm (h 0 (by omega)) (h 1 (by omega)) (h 2 (by omega)),fine_sm (h 3 (by omega)) (h 4 (by omega)) (h 5 (by omega)),fine_sm (h 6 (by omega)) (h 7 (by omega)) (h 8 (by omega)),near_sm (h 9 (by omega)),near_sm (h 10 (by omega))]
theorem knE_sm {sk m m':Int} {b b':Nat→Nat} (hm:m=m') (hb:Six b b'):knE a sk m b=knE a' sk m' b':=by
  unfold knE
  rw [rc_sm h,hm,mayS_sm hb]
theorem cube_sm:Six (cubeB a) (cubeB a'):=by
  have h9:=h 9 (by omega)
  unfold cubeB
  exact six (sm_sub (h 0 (by omega)) h9) (sm_sub (h 1 (by omega)) h9) (sm_sub (h 2 (by omega)) h9) (sm_add (h 0 (by omega)) h9) (sm_add (h 1 (by omega)) h9) (sm_add (h 2 (by omega)) h9)
theorem block_sm:Six (blockB a) (blockB a'):=by
  unfold blockB
  exact six (h 0 (by omega)) (h 1 (by omega)) (h 2 (by omega)) (h 3 (by omega)) (h 4 (by omega)) (h 5 (by omega))
theorem tri_sm:Six (triB a) (triB a'):=by
  unfold triB Hs.aroundS
  exact join_sm (join_sm (six (h 0 (by omega)) (h 1 (by omega)) (h 2 (by omega)) (h 0 (by omega)) (h 1 (by omega)) (h 2 (by omega))) (six (h 3 (by omega)) (h 4 (by omega)) (h 5 (by omega)) (h 3 (by omega)) (h 4 (by omega)) (h 5 (by omega)))) (six (h 6 (by omega)) (h 7 (by omega)) (h 8 (by omega)) (h 6 (by omega)) (h 7 (by omega)) (h 8 (by omega)))
theorem zB_sm:zB a=zB a':=by
  unfold zB
  rw [neZ_sm (h 5 (by omega)),neZ_sm (h 4 (by omega))]
theorem axO_sm:axO (a 3) (a 4) (a 5)=axO (a' 3) (a' 4) (a' 5):=by
  unfold axO
  rw [neZ_sm (h 3 (by omega)),neZ_sm (h 4 (by omega)),neZ_sm (h 5 (by omega))]
omit h in
theorem fl_sm (z i:Nat) {x y:Nat} (h:Sm x y):Sm (fl3 z i x) (fl3 z i y):=cond_sm rfl (Sm.refl 0) h
theorem tube_sm (z:Nat):Six (tubeB a z) (tubeB a' z):=by
  have h9:=h 9 (by omega)
  have t:Six (tuE a) (tuE a'):=by
    unfold tuE Hs.aroundS
    refine join_sm (six (h 0 (by omega)) (h 1 (by omega)) (h 2 (by omega)) (h 0 (by omega)) (h 1 (by omega)) (h 2 (by omega))) ?_
    have s0:=sm_add (h 0 (by omega)) (h 3 (by omega))
    have s1:=sm_add (h 1 (by omega)) (h 4 (by omega))
    have s2:=sm_add (h 2 (by omega)) (h 5 (by omega))
    exact six s0 s1 s2 s0 s1 s2
  unfold tubeB
  exact six (sm_sub (t 0 (by omega)) (fl_sm z 0 h9)) (sm_sub (t 1 (by omega)) (fl_sm z 1 h9)) (sm_sub (t 2 (by omega)) (fl_sm z 2 h9)) (sm_add (t 3 (by omega)) (fl_sm z 0 h9)) (sm_add (t 4 (by omega)) (fl_sm z 1 h9)) (sm_add (t 5 (by omega)) (fl_sm z 2 h9))
theorem ring_sm (z:Nat):Six (ringB a z) (ringB a' z):=by
  have r:∀ i,Sm (riA a z i) (riA a' z i):=fun i=>sm_add (fl_sm z i (h 9 (by omega))) (h 10 (by omega))
  unfold ringB
  exact six (sm_sub (h 0 (by omega)) (r 0)) (sm_sub (h 1 (by omega)) (r 1)) (sm_sub (h 2 (by omega)) (r 2)) (sm_add (h 0 (by omega)) (r 0)) (sm_add (h 1 (by omega)) (r 1)) (sm_add (h 2 (by omega)) (r 2))
theorem e1_sm (sk:Int):e1 a sk=e1 a' sk:=knE_sm h (by unfold ballM; rw [fgt_sm (h 9 (by omega)) (Sm.refl 0)]) (cube_sm h)
theorem e2_sm (sk:Int):e2 a sk=e2 a' sk:=knE_sm h (by unfold blockM blockG; rw [fgt_sm (h 0 (by omega)) (h 3 (by omega)),fgt_sm (h 1 (by omega)) (h 4 (by omega)),fgt_sm (h 2 (by omega)) (h 5 (by omega))]) (block_sm h)
theorem e3_sm (sk:Int):e3 a sk=e3 a' sk:=knE_sm h rfl (tri_sm h)
theorem e4_sm (sk:Int):e4 a sk=e4 a' sk:=knE_sm h (by unfold plateM; rw [fgt_sm (h 9 (by omega)) (Sm.refl 0),unE_sm (h 3 (by omega)) (h 4 (by omega)) (h 5 (by omega))]) (cube_sm h)
theorem e5_sm (sk:Int):e5 a sk=e5 a' sk:=knE_sm h (by unfold tubeM; rw [axO_sm h,fgt_sm (h 9 (by omega)) (Sm.refl 0)]) (by rw [zB_sm h]; exact tube_sm h _)
theorem e6_sm (sk:Int):e6 a sk=e6 a' sk:=knE_sm h (by unfold ringM; rw [axO_sm h,fgt_sm (h 10 (by omega)) (Sm.refl 0),fge_sm (h 9 (by omega)) (h 10 (by omega))]) (by rw [zB_sm h]; exact ring_sm h _)
end
/-- A shape whose numbers are those of one that may be: it may be. -/
theorem may_same {k:Int} {a a':Nat→Nat} {sk:Int} (h:∀ i,i < 11→Sm (a' i) (a i)) (hm:mayC (shC k a sk)=0):FSpec Tryz.prog 98 [SH k a' sk] (iA 0):=by
  obtain ⟨_,hk,_⟩:=mayC_near hm
  obtain ⟨z1,z2,z3,z4,z5,z6⟩:=mayC_kn hm
  have hk':k=1∨k=2∨k=3∨k=4∨k=5∨k=6:=by omega
  rcases hk' with rfl | rfl | rfl | rfl | rfl | rfl
  · exact may_g (kn1_good a' sk ((e1_sm h sk).trans (z1 rfl)))
  · exact may_g (kn2_good a' sk ((e2_sm h sk).trans (z2 rfl)))
  · exact may_g (kn3_good a' sk ((e3_sm h sk).trans (z3 rfl)))
  · exact may_g (kn4_good a' sk ((e4_sm h sk).trans (z4 rfl)))
  · exact may_g (kn5_good a' sk ((e5_sm h sk).trans (z5 rfl)))
  · exact may_g (kn6_good a' sk ((e6_sm h sk).trans (z6 rfl)))
section
variable {F G:Hs.Fm.Fd} (hW:F.W=G.W) (hH:F.H=G.H) (hn:F.n=G.n) (hs:F.hs=G.hs) (hk:F.sk=G.sk) (ha:∀ i,i < 3→Sm (F.at_ i) (G.at_ i)) (hd:Sm F.sd G.sd)
include hW hH hn hs hk ha hd
theorem mayN_sm:F.mayN=G.mayN:=by
  unfold Fd.mayN Fd.dims Fd.far Fd.okAll
  rw [hW,hH,hn,hs,hk,fine_sm (ha 0 (by omega)) (ha 1 (by omega)) (ha 2 (by omega)),near_sm hd,fgt_sm hd (Sm.refl 0)]
omit hH hn hk in
theorem pt_sm (q:Nat):∀ i,i < 3→Sm (pt F q i) (pt G q i):=by
  unfold pt
  rw [hW,hs]
  intro i hi
  match i,hi with
  | 0,_=>exact sm_add (ha 0 (by omega)) (sm_mul (Sm.refl _) hd)
  | 1,_=>exact sm_add (ha 1 (by omega)) (Sm.refl _)
  | 2,_=>exact sm_add (ha 2 (by omega)) (sm_mul (Sm.refl _) hd)
omit hH hk in
theorem bx_sm:Six (bx F) (bx G):=by
  have p:∀ q,Six (pp (pt F q)) (pp (pt G q)):=fun q=>by
    have t:=pt_sm hW hs ha hd q
    unfold pp
    exact six (t 0 (by omega)) (t 1 (by omega)) (t 2 (by omega)) (t 0 (by omega)) (t 1 (by omega)) (t 2 (by omega))
  unfold bx
  rw [hn]
  have key:∀ n,Six (boxQ (pt F) n) (boxQ (pt G) n):=fun n=>by
    induction n with
    | zero=>exact p 0
    | succ n ih=>exact join_sm ih (p n)
  exact key _
/-- A field whose numbers are those of one that may be: it may be. -/
theorem field_same (hm:G.mayN=0) (hb:(mayS (bx G)==0)=true):FSpec Tryz.prog 100 [.agg F.c] (iA 0):=by
  have e1:=(mayN_sm hW hH hn hs hk ha hd).trans hm
  have e2:(mayS (bx F)==0)=true:=by rw [mayS_sm (bx_sm hW hn hs ha hd)]; exact hb
  obtain ⟨⟨w,h,d⟩,_⟩:=mayN_dim e1
  have k:=known_ok d e1
  rw [e2] at k
  exact fm_good k
end
end Go.Proofs.YtefphimaggjihaaGreatDoor.Pi.Rd

namespace Go.Gv
open Go.RowKit
theorem calls_agree {P:Program} {f:FuncId} {args:Array Value} {w:World} {R R':Value→World→Prop}
    (h:Calls P f args w fun e w'=>∃ v,e=.returned v∧R v w') (h':Calls P f args w fun e w'=>∃ v,e=.returned v∧R' v w') (hi:P.inits.idxOf? f=none):∃ v w',R v w'∧R' v w':=by
  have g:Calls P f args w fun | .returned v,w'=>R v w' | _,_=>False:=h.mono fun e w' ⟨v,he,q⟩=>by subst he; exact q
  have g':Calls P f args w fun | .returned v,w'=>R' v w' | _,_=>False:=h'.mono fun e w' ⟨v,he,q⟩=>by subst he; exact q
  obtain ⟨n,v,w1,e1,r1⟩:=g.done hi
  obtain ⟨m,v',w2,e2,r2⟩:=g'.done hi
  have a:=runN_ended e1 m
  have b:=runN_ended e2 n
  rw [Nat.add_comm,a] at b
  injection b with ho hw
  injection ho with hv
  subst hv hw
  exact ⟨_,_,r1,r2⟩
/-- Some world holds what is known of variables. -/
def World0:Prop:=∃ (A:Nat→Prop) (w:World),(∀ b,A b→b < w.heap.size)∧glob ⟨w,A,fun _=>none⟩
/-- In a world where the arguments are, two contracts say the same number. -/
theorem spec_one {P:Program} {f:Nat} {args:List AV} {m m':Int} (h:FSpec P f args (.x (.int .i64 m))) (h':FSpec P f args (.x (.int .i64 m'))) (hi:P.inits.idxOf? f=none) (hw:World0) (ht:∀ E:Env,∃ cargs:Array Value,rels E args cargs.toList):m=m':=by
  obtain ⟨A,w,hA,hg⟩:=hw
  obtain ⟨cargs,hr⟩:=ht ⟨w,A,fun _=>none⟩
  obtain ⟨v,w',⟨r1,_⟩,⟨r2,_⟩⟩:=calls_agree (R:=fun v w'=>rel ⟨w',A,fun _=>none⟩ (.x (.int .i64 m)) v∧Below w.heap.size w w') (R':=fun v w'=>rel ⟨w',A,fun _=>none⟩ (.x (.int .i64 m')) v∧Below w.heap.size w w') (h.2 A w cargs hA hr hg) (h'.2 A w cargs hA hr hg) hi
  have e1:=rel_x.1 r1
  have e2:=rel_x.1 r2
  rw [e1] at e2
  injection e2
end Go.Gv
namespace Go.Proofs.YtefphimaggjihaaGreatDoor.Pi.Rd
open Go.Shelf Go.RowKit Go.Gv
open Hs.Sc (Scn)
open Hs Hs.So Hs.Sc Hs.Fm
open Go.Ev (feq isNan Sm sm_of feq_true)
theorem sh_here (k:Int) {a:Nat→Nat} (sk:Int) (hn:∀ i,i < 11→isNan (a i)=false) (E:Env):∃ cargs:Array Value,rels E [SH k a sk] cargs.toList:=by
  have f:∀ i,i < 11→rel E (.f (a i)) (.float .f64 (a i)):=fun i hi=>rel_f.2 ⟨a i,rfl,Go.Ev.cn_of_not (hn i hi)⟩
  refine ⟨#[.agg #[.int .i64 k,.float .f64 (a 0),.float .f64 (a 1),.float .f64 (a 2),.float .f64 (a 3),.float .f64 (a 4),.float .f64 (a 5),.float .f64 (a 6),.float .f64 (a 7),.float .f64 (a 8),.float .f64 (a 9),.float .f64 (a 10),.int .i64 sk]],rels_cons.2 ⟨_,[],rfl,rel_agg.2 ⟨_,rfl,?_⟩,rels_nil.2 rfl⟩⟩
  exact rels_cons.2 ⟨_,_,rfl,rel_x.2 rfl,rels_cons.2 ⟨_,_,rfl,f 0 (by decide),rels_cons.2 ⟨_,_,rfl,f 1 (by decide),rels_cons.2 ⟨_,_,rfl,f 2 (by decide),rels_cons.2 ⟨_,_,rfl,f 3 (by decide),rels_cons.2 ⟨_,_,rfl,f 4 (by decide),rels_cons.2 ⟨_,_,rfl,f 5 (by decide),rels_cons.2 ⟨_,_,rfl,f 6 (by decide),rels_cons.2 ⟨_,_,rfl,f 7 (by decide),rels_cons.2 ⟨_,_,rfl,f 8 (by decide),rels_cons.2 ⟨_,_,rfl,f 9 (by decide),rels_cons.2 ⟨_,_,rfl,f 10 (by decide),rels_cons.2 ⟨_,_,rfl,rel_x.2 rfl,rels_nil.2 rfl⟩⟩⟩⟩⟩⟩⟩⟩⟩⟩⟩⟩⟩
theorem mayC_0 {k:Int} {a:Nat→Nat} {sk:Int} (h:FSpec Tryz.prog 98 [SH k a sk] (iA 0)) (hn:∀ i,i < 11→isNan (a i)=false) (hw:World0):mayC (shC k a sk)=0 :=
  spec_one (mayC_spec k a sk).1 h (by kernel_rfl) hw (sh_here k sk hn)
theorem leaf_seen {tb:Nat→Bool} {P:Nat→Prt} {n:Nat} (hP:PM n P):∀ (f k fr:Nat),k < f→k < n→fr≤k→(∀ j,fr≤j→j≤k→okJ P j)→szQ P k=(k:Int) - fr+1→paBd tb P f k=false→∀ i,fr≤i→i≤k→(P i).op=0→shB tb (P i).k (P i).a (P i).sk=false
  | 0,_,_,h,_,_,_,_,_,_,_,_,_=>absurd h (Nat.not_lt_zero _)
  | f + 1,k,fr,hf,hk,hfr,hok,hsz,hb,i,hi,hik,hi0=>by
    by_cases h0:(P k).op=0
    · have e:fr=k:=by have:=(szq_leaf h0).1; omega
      have e2:i=k:=by omega
      subst e2
      have eb:paBd tb P (f+1) i=shB tb (P i).k (P i).a (P i).sk:=by show (if _ then _ else _)=_; rw [if_pos h0]
      rw [← eb]; exact hb
    · have eb:paBd tb P (f+1) k=(paBd tb P f (P k).l.toNat||paBd tb P f (P k).r.toNat):=by show (if _ then _ else _)=_; rw [if_neg h0]
      rw [eb] at hb
      obtain ⟨bl,br⟩:=Bool.or_eq_false_iff.1 hb
      rcases hP k hk with h | ⟨_,hl,hr⟩
      · exact absurd h h0
      obtain ⟨_,hj⟩:=hok k hfr (Nat.le_refl _)
      rcases hj with h | ⟨er,el⟩
      · exact absurd h h0
      obtain ⟨s1,_⟩:=szq_node h0 hl.1 hl.2 hr.1 hr.2
      rw [show (sd P k).1 (k - 1)=szQ P (k - 1) from (sd_keep1 (by omega)).1] at el
      have er2:(P k).r.toNat=k - 1:=by omega
      have hlk:(P k).l.toNat < n:=by omega
      have p1:=szq_pos hP hlk
      have p2:=szq_pos (P:=P) hP (show k - 1 < n by omega)
      rw [er2] at s1 br
      have hl2:fr≤(P k).l.toNat:=by omega
      have hk':i≠k:=fun e=>by subst e; exact h0 hi0
      by_cases hm:i≤(P k).l.toNat
      · exact leaf_seen hP f (P k).l.toNat fr (by omega) hlk hl2 (fun j h1 h2=>hok j h1 (by omega)) (by omega) bl i hi hm hi0
      · exact leaf_seen hP f (k - 1) ((P k).l.toNat+1) (by omega) (by omega) (by omega) (fun j h1 h2=>hok j (by omega) (by omega)) (by omega) br i (by omega) (by omega) hi0
theorem leaves {n:Nat} {P:Nat→Prt} (h1:1≤n) (hP:PM n P) (hb:soB tbX n P=false):(∀ j,j < n→bareB (P j)=true)∧∀ i,i < n→(P i).op=0→shB tbX (P i).k (P i).a (P i).sk=false:=by
  unfold soB at hb
  have har:arB n P=true:=by
    cases ha:arB n P
    · rw [ha] at hb; cases hb
    · rfl
  rw [har] at hb
  have ha:arP n P:=by
    unfold arB at har
    exact @of_decide_eq_true _ (_) har
  have e1:n - 1+1=n:=by omega
  have hsz:szQ P (n - 1)=(n:Nat):=by unfold szQ; rw [e1]; exact ha.2.1
  exact ⟨fun j hj=>(ha.1 j hj).1,fun i hi h0=>leaf_seen hP n (n - 1) 0 (by omega) (by omega) (by omega) (fun j _ hj=>ha.1 j (by omega)) (by omega) hb i (by omega) (by omega) h0⟩
theorem sh_sm {k:Int} {a:Nat→Nat} {sk:Int} (hk:1≤k∧k≤6) (h:shB tbX k a sk=false):∀ i,i < 11→Sm (cX k (rd a) i) (a i):=fun i hi=>sm_of (sh_same hk h i hi)
theorem bare_0 {p:Prt} (h:bareB p=true) (h0:p.op=0):p.l=0∧p.r=0∧p.sk=0:=by
  unfold bareB at h
  rw [h0] at h
  have h:cond (cond (p.l==0) (p.r==0) false) (p.sk==0) false=true:=h
  cases h1:(p.l==0)
  · rw [h1] at h; cases h
  · cases h2:(p.r==0)
    · rw [h1,h2] at h; cases h
    · rw [h1,h2] at h
      exact ⟨eq_of_beq h1,eq_of_beq h2,eq_of_beq h⟩
/-- A solid that was read may be. -/
theorem solid_may {n:Nat} {P:Nat→Prt} {sk:Int} (hs:soE n P sk=0) (hb:soB tbX n P=false):FSpec Tryz.prog 99 [.agg (soK n (fun i=>rdP' (P i)) sk)] (iA 0):=by
  have sp:=smay_spec n (fun i=>rdP' (P i)) sk
  by_cases H:World0
  · have e:soE n (fun i=>rdP' (P i)) sk=0:=by
      have h1:1≤n:=by
        unfold soE at hs
        obtain ⟨g1,_⟩:=c4 (by decide) hs
        have:=of_decide_eq_false (or_no g1).1
        omega
      have hp:∀ i,i < n→paE P i=0:=by
        unfold soE at hs
        obtain ⟨_,hs⟩:=c4 (by decide) hs
        obtain ⟨_,hs⟩:=c4 (by decide) hs
        exact seq_zero _ hs
      obtain ⟨pm,hm⟩:=pm_of hp
      obtain ⟨hbare,hsh⟩:=leaves h1 pm hb
      have hp':∀ i,i < n→paE (fun i=>rdP' (P i)) i=0:=fun i hi=>by
        have h:=hp i hi
        unfold paE at h ⊢
        by_cases h0:(P i).op=0
        · have e:rdP' (P i)=⟨0,0,0,(P i).k,cX (P i).k (rd (P i).a),0⟩:=by unfold rdP'; rw [if_pos h0]
          have m:=hm i hi h0
          obtain ⟨_,_,s0⟩:=bare_0 (hbare i hi) h0
          rw [s0] at m
          have hk:=(mayC_near m).2.1
          have S:=sh_same hk (hsh i hi h0)
          have m':mayC (shC (P i).k (cX (P i).k (rd (P i).a)) 0)=0:=mayC_0 (may_same (fun j hj=>sm_of (S j hj)) m) (fun j hj=>(feq_true (S j hj)).1) H
          unfold ppE at h
          rw [h0] at h
          have h:mlE (mayC (shC (P i).k (P i).a (P i).sk)) (P i).k=0:=h
          rw [s0,m] at h
          show ppE (rdP' (P i)) (i:Nat)=0
          rw [e]
          show mlE (mayC (shC (P i).k (cX (P i).k (rd (P i).a)) 0)) (P i).k=0
          rw [m']
          exact h
        · have e:rdP' (P i)=⟨(P i).op,(P i).l,(P i).r,0,fun _=>0,0⟩:=by unfold rdP'; rw [if_neg h0]
          show ppE (rdP' (P i)) (i:Nat)=0
          rw [e]
          unfold ppE at h ⊢
          rw [beq_false_of_ne h0] at h
          show cond ((P i).op==0) _ (cond (opB (P i).op) (cond (nmB (P i).l (P i).r (i:Nat)) 9 0) 11)=0
          rw [beq_false_of_ne h0]
          exact h
      have e2:=seq_all n hp'
      unfold soE at hs ⊢
      obtain ⟨g1,hs⟩:=c4 (by decide) hs
      obtain ⟨g2,_⟩:=c4 (by decide) hs
      rw [g1,g2,e2]
      rfl
    rw [e] at sp
    exact sp
  · exact ⟨sp.1,fun A w cargs hA _ hg=>absurd ⟨A,w,hA,hg⟩ H⟩
theorem fd_fine {F:Hs.Fm.Fd} (h:fFd F.c=0):F.mayN=0∧(mayS (bx F)==0)=true:=by
  obtain ⟨_,_,_,_,_,_,h7,h8⟩:fineS (F.at_ 0) (F.at_ 1) (F.at_ 2)=true∧nearS F.sd=true∧F.n≤64∧(2≤F.W∧F.W≤8∧2≤F.H∧F.H≤8)∧(0≤F.sk∧F.sk < 16)∧(∀ q,q < F.n→hBad (F.hs q)=false)∧F.mayN=0∧(mayS (bx F)==0)=true:=(fFd_ok F).2 h
  exact ⟨h7,h8⟩
/-- A field that was read. -/
noncomputable def rdFd (F:Hs.Fm.Fd):Hs.Fm.Fd:=⟨F.W,F.H,fun i=>rdF (F.at_ i),rdF F.sd,F.n,F.hs,F.sk⟩
theorem fd_sm {F:Hs.Fm.Fd} (h:fdB tbX F=false):(∀ i,i < 3→Sm (rdF (F.at_ i)) (F.at_ i))∧Sm (rdF F.sd) F.sd:=by
  unfold fdB at h
  obtain ⟨h1,h2⟩:=Bool.or_eq_false_iff.1 h
  obtain ⟨a0,a1,a2⟩:=vb_no h1
  refine ⟨fun i hi=>?_,sm_of (rdF_eq (not_no h2))⟩
  match i,hi with
  | 0,_=>exact sm_of (rdF_eq a0)
  | 1,_=>exact sm_of (rdF_eq a1)
  | 2,_=>exact sm_of (rdF_eq a2)
theorem eye_lst {e:Nat→Nat} (h:∀ i,i < 10→tbX (e i)=true):∀ i,i < 10→Sm (lst (eyL e) i) (e i):=fun i hi=>by
  match i,hi with
  | 0,hi=>exact sm_of (rdF_eq (h 0 hi))
  | 1,hi=>exact sm_of (rdF_eq (h 1 hi))
  | 2,hi=>exact sm_of (rdF_eq (h 2 hi))
  | 3,hi=>exact sm_of (rdF_eq (h 3 hi))
  | 4,hi=>exact sm_of (rdF_eq (h 4 hi))
  | 5,hi=>exact sm_of (rdF_eq (h 5 hi))
  | 6,hi=>exact sm_of (rdF_eq (h 6 hi))
  | 7,hi=>exact sm_of (rdF_eq (h 7 hi))
  | 8,hi=>exact sm_of (rdF_eq (h 8 hi))
  | 9,hi=>exact sm_of (rdF_eq (h 9 hi))
/-- What is read of a scene that may be and could be printed: all of it may be. -/
theorem mays_of {s:Scn} (h:scE s=0) (ht:Told s):Mays s:=by
  have hsk:=fun j hj=>may_skin (s:=s) h (j:=j) hj
  unfold scE at h
  obtain ⟨_,h⟩:=c4 (by decide) h
  obtain ⟨_,h⟩:=c0 h
  obtain ⟨hT,h⟩:=c0 h
  obtain ⟨_,h⟩:=c0 h
  obtain ⟨_,hE⟩:=c4 (by decide) h
  unfold thE at hT
  obtain ⟨hS,hT⟩:=c0 hT
  obtain ⟨hO,hF⟩:=c0 hT
  refine ⟨?_,hsk,fun j hj=>?_,fun j hj=>?_,fun j hj=>?_⟩
  · have e:=ey_spec (lst (eyL s.eye))
    rw [eye_sm (eye_lst ht.eye),hE] at e
    exact e
  · have m:mayC (shC (s.S j).k (s.S j).a (s.S j).sk)=0:=we0 (seq_zero _ hS j hj)
    exact may_same (sh_sm (mayC_near m).2.1 (ht.S j hj)) m
  · exact solid_may (we0 (seq_zero _ hO j hj)) (ht.O j hj)
  · have hf:fFd (s.F j).c=0:=we0 (seq_zero _ hF j hj)
    obtain ⟨h7,h8⟩:=fd_fine hf
    obtain ⟨g1,g2⟩:=fd_sm (ht.F j hj)
    exact field_same (F:=rdFd (s.F j)) (G:=s.F j) rfl rfl rfl rfl rfl g1 g2 h7 h8
end Go.Proofs.YtefphimaggjihaaGreatDoor.Pi.Rd

namespace Go.Proofs.YtefphimaggjihaaGreatDoor.Pi.Rd
open Go.Shelf Go.RowKit Go.Gv
open Hs Hs.So Hs.Sc Hs.Fm
open Go.Ev (feq)
def likeS (a b:Nat):Bool:=cond (feq a b) true (cond (!feq a a) (!feq b b) false)
theorem lk_spec (a b:Nat):FSpec Tryz.prog 85 [.f a,.f b] (bA (likeS a b)):=gspec e_nil k_nil Tryz.func85 (by kernel_rfl) (by kernel_rfl) noL_ok rfl (show ev Tryz.prog [] [] noL Tryz.f85 [.f a,.f b] ret=oB (likeS a b) by kernel_rfl)
def lkVS (a b c d e f:Nat):Bool:=cond (cond (likeS a d) (likeS b e) false) (likeS c f) false
def LK1:List Entry:=[⟨85,eFF fun a b=>bA (likeS a b)⟩]
theorem LK1_ok:∀ e,e ∈ LK1→EOk Tryz.prog e:=e_cons (eFF_ok lk_spec) e_nil
theorem lkV_spec (a b c d e f:Nat):FSpec Tryz.prog 84 [V a b c,V d e f] (bA (lkVS a b c d e f)):=gspec LK1_ok k_nil Tryz.func84 (by kernel_rfl) (by kernel_rfl) noL_ok rfl (show ev Tryz.prog LK1 [] noL Tryz.f84 [V a b c,V d e f] ret=oB (lkVS a b c d e f) by kernel_rfl)
def LK2:List Entry:=⟨84,eVV fun a b c d e f=>bA (lkVS a b c d e f)⟩::LK1
theorem LK2_ok:∀ e,e ∈ LK2→EOk Tryz.prog e:=e_cons (eVV_ok lkV_spec) LK1_ok
def sSh (s u:Shp):Bool:=cond (cond (cond (cond (cond (cond (s.k==u.k) (s.sk==u.sk) false) (lkVS (s.a 0) (s.a 1) (s.a 2) (u.a 0) (u.a 1) (u.a 2)) false) (lkVS (s.a 3) (s.a 4) (s.a 5) (u.a 3) (u.a 4) (u.a 5)) false) (lkVS (s.a 6) (s.a 7) (s.a 8) (u.a 6) (u.a 7) (u.a 8)) false) (likeS (s.a 9) (u.a 9)) false) (likeS (s.a 10) (u.a 10)) false
theorem ss_ev (s u:Shp):ev Tryz.prog LK2 [] noL Tryz.f29 [.agg s.c,.agg u.c] ret=oB (sSh s u):=by kernel_rfl
theorem ss_spec (s u:Shp):FSpec Tryz.prog 29 [.agg s.c,.agg u.c] (bA (sSh s u)):=gspec LK2_ok k_nil Tryz.func29 (by kernel_rfl) (by kernel_rfl) noL_ok rfl (ss_ev s u)
def dShp:List AV→Shp
  | [.x (.int .i64 k),.f a0,.f a1,.f a2,.f a3,.f a4,.f a5,.f a6,.f a7,.f a8,.f a9,.f a10,.x (.int .i64 sk)]=>⟨k,ls [a0,a1,a2,a3,a4,a5,a6,a7,a8,a9,a10],sk⟩
  | _=>⟨0,fun _=>0,0⟩
def gSS (c d:List AV):Bool:=sSh (dShp c) (dShp d)
def eSS (g:List AV→List AV→Bool):List AV→Option AV
  | [.agg [.x (.int .i64 k),.f a0,.f a1,.f a2,.f a3,.f a4,.f a5,.f a6,.f a7,.f a8,.f a9,.f a10,.x (.int .i64 sk)],.agg [.x (.int .i64 k'),.f b0,.f b1,.f b2,.f b3,.f b4,.f b5,.f b6,.f b7,.f b8,.f b9,.f b10,.x (.int .i64 sk')]]=>some (bA (g [.x (.int .i64 k),.f a0,.f a1,.f a2,.f a3,.f a4,.f a5,.f a6,.f a7,.f a8,.f a9,.f a10,.x (.int .i64 sk)] [.x (.int .i64 k'),.f b0,.f b1,.f b2,.f b3,.f b4,.f b5,.f b6,.f b7,.f b8,.f b9,.f b10,.x (.int .i64 sk')]))
  | _=>none
theorem eSS_ok:EOk Tryz.prog ⟨29,eSS gSS⟩:=fun args r hr=>by
  simp only [eSS] at hr
  split at hr
  · cases hr; exact Or.inl (ss_spec ⟨_,ls [_,_,_,_,_,_,_,_,_,_,_],_⟩ ⟨_,ls [_,_,_,_,_,_,_,_,_,_,_],_⟩)
  · cases hr
def dxB (i:Int) (n m:Nat):Bool:=(ixB i n||false)&&((ixB i m||false)&&true)
def v3B (a b c a' b' c':Nat):Bool:=feq a a'&&(feq b b'&&(feq c c'&&true))
section
variable (F G:Hs.Fm.Fd) (i:Int)
def fdN:Bool:=cond (cond (cond (cond (cond (!(F.W==G.W)) true (!(F.H==G.H))) true (!v3B (F.at_ 0) (F.at_ 1) (F.at_ 2) (G.at_ 0) (G.at_ 1) (G.at_ 2))) true (!feq F.sd G.sd)) true (!(F.sk==G.sk))) true (!((F.n:Int)==G.n))
def sfS:St:=mkS 66 [(2,.own 0 0),(3,.own 1 0),(5,iA i)] [.c F.c,.c G.c]
def sfC (o oe:Option Out):Option Out:=cond (decide (i < F.n)) (cond (dxB i F.n G.n) (cond (!(F.hs i.toNat==G.hs i.toNat)) none o) none) oe
theorem sf_step:evC Tryz.prog [] [] noL (loopAt Tryz.f30 0) (sfS F G i) (finN [2,3,5] [some 0,some 1])=sfC F G i (some ⟨.normal,sfS F G (w64 (i+1)),.any⟩) none:=by kernel_rfl
theorem sf_end:evC Tryz.prog [] [] noL (loopAt Tryz.f30 0) (sfS F G i) (finE [2,3,5] [some 0,some 1])=sfC F G i none (some ⟨.exit 0,sfS F G i,.any⟩):=by kernel_rfl
theorem sf_ev:ev Tryz.prog [] [] (oneL 4 (toldF [2,3,5] [some 0,some 1] (sfS F G 0) (.exit 0) (sfS F G F.n))) Tryz.f30 [.agg F.c,.agg G.c] ret=cond (fdN F G) (oB false) (gate (Sub (sfS F G 0) (sfS F G 0)) (oB true)):=by kernel_rfl
end
section
variable (s u:Scn) (i k:Int)
def e10 (e f:Nat→Nat):Bool:=v3B (e 0) (e 1) (e 2) (f 0) (f 1) (f 2)&&(v3B (e 3) (e 4) (e 5) (f 3) (f 4) (f 5)&&(v3B (e 6) (e 7) (e 8) (f 6) (f 7) (f 8)&&(feq (e 9) (f 9)&&true)))
def i3 (e f:Nat→Int):Bool:=(e 0==f 0)&&((e 1==f 1)&&((e 2==f 2)&&true))
def hdN:Bool:=cond (cond (cond (cond (cond (cond (!((s.nS:Int)==u.nS)) true (!((s.nK:Int)==u.nK))) true (!((s.nL:Int)==u.nL))) true (!((s.nO:Int)==u.nO))) true (!((s.nF:Int)==u.nF))) true (!i3 s.sky u.sky)) true (!e10 s.eye u.eye)
def snS (sl:Nat):St:=mkS 223 [(2,.own 0 0),(3,.own 1 0),(sl,iA i)] [.c s.c,.c u.c]
/-- Shapes. -/
def gB (b:Bool):List AV→AV:=fun _=>bA b
noncomputable def n1C (f n m:Nat) (c d:Nat→List AV) (o oe:Option Out):Option Out:=cond (decide (i < n)) (gate (FSpec Tryz.prog f [.agg (c i.toNat),.agg (d i.toNat)] (bA true)) (cond (dxB i n m) o none)) oe
theorem n1_step:evC Tryz.prog [] [kS Tryz.prog 29 (gB true)] noL (loopAt Tryz.f10 0) (snS s u i 5) (finN [2,3,5] [some 0,some 1])=n1C i 29 s.nS u.nS (fun q=>(s.S q).c) (fun q=>(u.S q).c) (some ⟨.normal,snS s u (w64 (i+1)) 5,.any⟩) none:=by kernel_rfl
theorem n1_end:evC Tryz.prog [] [kS Tryz.prog 29 (gB true)] noL (loopAt Tryz.f10 0) (snS s u i 5) (finE [2,3,5] [some 0,some 1])=n1C i 29 s.nS u.nS (fun q=>(s.S q).c) (fun q=>(u.S q).c) none (some ⟨.exit 0,snS s u i 5,.any⟩):=by kernel_rfl
/-- Fields. -/
theorem n4_step:evC Tryz.prog [] [kS Tryz.prog 30 (gB true)] noL (loopAt Tryz.f10 3) (snS s u i 12) (finN [2,3,12] [some 0,some 1])=n1C i 30 s.nF u.nF (fun q=>(s.F q).c) (fun q=>(u.F q).c) (some ⟨.normal,snS s u (w64 (i+1)) 12,.any⟩) none:=by kernel_rfl
theorem n4_end:evC Tryz.prog [] [kS Tryz.prog 30 (gB true)] noL (loopAt Tryz.f10 3) (snS s u i 12) (finE [2,3,12] [some 0,some 1])=n1C i 30 s.nF u.nF (fun q=>(s.F q).c) (fun q=>(u.F q).c) none (some ⟨.exit 6,snS s u i 12,.any⟩):=by kernel_rfl
/-- Skins. -/
def j3 (a b c a' b' c':Int):Bool:=(a==a')&&((b==b')&&((c==c')&&true))
def i10 (e f:Nat→Int):Bool:=j3 (e 0) (e 1) (e 2) (f 0) (f 1) (f 2)&&(j3 (e 3) (e 4) (e 5) (f 3) (f 4) (f 5)&&(j3 (e 6) (e 7) (e 8) (f 6) (f 7) (f 8)&&((e 9==f 9)&&true)))
def n5C (n m:Nat) (b:Bool) (o oe:Option Out):Option Out:=cond (decide (i < n)) (cond (dxB i n m) (cond (!b) none o) none) oe
theorem n5_step:evC Tryz.prog [] [] noL (loopAt Tryz.f10 4) (snS s u i 14) (finN [2,3,14] [some 0,some 1])=n5C i s.nK u.nK (i10 (s.K i.toNat) (u.K i.toNat)) (some ⟨.normal,snS s u (w64 (i+1)) 14,.any⟩) none:=by kernel_rfl
theorem n5_end:evC Tryz.prog [] [] noL (loopAt Tryz.f10 4) (snS s u i 14) (finE [2,3,14] [some 0,some 1])=n5C i s.nK u.nK (i10 (s.K i.toNat) (u.K i.toNat)) none (some ⟨.exit 8,snS s u i 14,.any⟩):=by kernel_rfl
/-- Lamps. -/
def lm6 (a b:Nat→Nat) (l m:Nat→Int):Bool:=v3B (a 0) (a 1) (a 2) (b 0) (b 1) (b 2)&&(j3 (l 0) (l 1) (l 2) (m 0) (m 1) (m 2)&&true)
theorem n6_step:evC Tryz.prog [] [] noL (loopAt Tryz.f10 5) (snS s u i 15) (finN [2,3,15] [some 0,some 1])=n5C i s.nL u.nL (lm6 (s.LA i.toNat) (u.LA i.toNat) (s.LL i.toNat) (u.LL i.toNat)) (some ⟨.normal,snS s u (w64 (i+1)) 15,.any⟩) none:=by kernel_rfl
theorem n6_end:evC Tryz.prog [] [] noL (loopAt Tryz.f10 5) (snS s u i 15) (finE [2,3,15] [some 0,some 1])=n5C i s.nL u.nL (lm6 (s.LA i.toNat) (u.LA i.toNat) (s.LL i.toNat) (u.LL i.toNat)) none (some ⟨.exit 10,snS s u i 15,.any⟩):=by kernel_rfl
end
section
variable (g:List AV→List AV→Bool) (s u:Scn) (i:Int) (o w:Sld) (k:Int)
def n3S:St:=mkS 223 [(2,.own 0 0),(3,.own 1 0),(6,iA i),(7,.own 2 0),(8,.own 3 0),(9,iA k)] [.c s.c,.c u.c,.c o.c,.c w.c]
def keep3':List Nat:=[2,3,6,7,8,9]
def tau4:List (Option Nat):=[some 0,some 1,some 2,some 3]
def pB (p q:Prt):Bool:=cond (cond (cond (!(p.op==q.op)) true (!(p.l==q.l))) true (!(p.r==q.r))) true (!g p.s q.s)
def n3C (x xe:Option Out):Option Out:=cond (decide (k < o.n)) (cond (ixB k o.n||false) (cond (ixB k w.n||false) (cond (pB g (o.P k.toNat) (w.P k.toNat)) none x) none) none) xe
theorem n3_step:evC Tryz.prog [⟨29,eSS g⟩] [] noL (loopAt Tryz.f10 2) (n3S s u i o w k) (finN keep3' tau4)=n3C g o w k (some ⟨.normal,n3S s u i o w (w64 (k+1)),.any⟩) none:=by kernel_rfl
theorem n3_end:evC Tryz.prog [⟨29,eSS g⟩] [] noL (loopAt Tryz.f10 2) (n3S s u i o w k) (finE keep3' tau4)=n3C g o w k none (some ⟨.exit 4,n3S s u i o w k,.any⟩):=by kernel_rfl
def n2C (x xe:Option Out):Option Out:=cond (decide (i < s.nO)) (cond (ixB i s.nO||false) (cond (ixB i u.nO||false) (cond (cond (!((s.O i.toNat).sk==(u.O i.toNat).sk)) true (!(((s.O i.toNat).n:Int)==(u.O i.toNat).n))) none x) none) none) xe
noncomputable def n2L (j:Nat):Nat→Option LFun:=oneL 16 (toldF keep3' tau4 (n3S s u i (s.O j) (u.O j) 0) (.exit 4) (n3S s u i (s.O j) (u.O j) (s.O j).n))
theorem n2_step:evC Tryz.prog [] [] (n2L s u i i.toNat) (loopAt Tryz.f10 1) (snS s u i 6) (finN [2,3,6] [some 0,some 1])=n2C s u i (gate (Sub (n3S s u i (s.O i.toNat) (u.O i.toNat) 0) (n3S s u i (s.O i.toNat) (u.O i.toNat) 0)) (some ⟨.normal,snS s u (w64 (i+1)) 6,.any⟩)) none:=by kernel_rfl
theorem n2_end:evC Tryz.prog [] [] (oneL 16 fun _ _=>none) (loopAt Tryz.f10 1) (snS s u i 6) (finE [2,3,6] [some 0,some 1])=n2C s u i none (some ⟨.exit 2,snS s u i 6,.any⟩):=by kernel_rfl
noncomputable def snT (sl:Nat) (ex:Exit) (n:Nat):LFun:=toldF [2,3,sl] [some 0,some 1] (snS s u 0 sl) ex (snS s u n sl)
noncomputable def snL:Nat→Option LFun:=manyL [(4,snT s u 5 (.exit 0) s.nS),(9,snT s u 6 (.exit 2) s.nO),(23,snT s u 12 (.exit 6) s.nF),(29,snT s u 14 (.exit 8) s.nK),(34,snT s u 15 (.exit 10) s.nL)]
noncomputable def sG (sl:Nat) (x:Option Out):Option Out:=gate (Sub (snS s u 0 sl) (snS s u 0 sl)) x
theorem sn_ev:ev Tryz.prog [] [] (snL s u) Tryz.f10 [.agg s.c,.agg u.c] ret=cond (hdN s u) (oB false) (sG s u 5 (sG s u 6 (sG s u 12 (sG s u 14 (sG s u 15 (oB true)))))):=by kernel_rfl
end
end Go.Proofs.YtefphimaggjihaaGreatDoor.Pi.Rd

namespace Go.Proofs.YtefphimaggjihaaGreatDoor.Pi.Rd
open Go.Shelf Go.RowKit Go.Gv
open Hs Hs.So Hs.Sc Hs.Fm
open Go.Ev (feq Sm sm_of feq_sm)
/-- Two scenes that are the same, thing by thing. -/
structure Alike (s u:Scn):Prop where
  few:s.nS≤1000∧s.nO≤1000∧s.nF≤1000∧s.nK≤1000∧s.nL≤1000
  n:s.nS=u.nS∧s.nO=u.nO∧s.nF=u.nF∧s.nK=u.nK∧s.nL=u.nL
  S:∀ q,q < s.nS→sSh (s.S q) (u.S q)=true
  O:∀ q,q < s.nO→(s.O q).n≤1000∧(s.O q).n=(u.O q).n∧(s.O q).sk=(u.O q).sk∧∀ i,i < (s.O q).n→pB gSS ((s.O q).P i) ((u.O q).P i)=false
  F:∀ q,q < s.nF→(s.F q).n≤1000∧fdN (s.F q) (u.F q)=false∧(s.F q).hs=(u.F q).hs∧(s.F q).n=(u.F q).n
  K:∀ q,q < s.nK→s.K q=u.K q
  LA:∀ q,q < s.nL→v3B (s.LA q 0) (s.LA q 1) (s.LA q 2) (u.LA q 0) (u.LA q 1) (u.LA q 2)=true
  LL:∀ q,q < s.nL→s.LL q=u.LL q
  sky:i3 s.sky u.sky=true
  eye:e10 s.eye u.eye=true
theorem dxB_t {k n m:Nat} (h:k < n) (e:n=m):dxB (k:Nat) n m=true:=by subst e; unfold dxB; rw [ixB_t h]; rfl
theorem sf_same {F G:Hs.Fm.Fd} (h:F.n≤1000) (hb:fdN F G=false) (hh:F.hs=G.hs) (hn:F.n=G.n):FSpec Tryz.prog 30 [.agg F.c,.agg G.c] (bA true):=by
  have lead:Leads Tryz.prog (.loop (loopAt Tryz.f30 0)) (sfS F G 0) (.exit 0) (sfS F G F.n):=by
    refine loop_rule (fun k=>sfS F G (k:Nat)) F.n (.exit 0) _ (by simp) (fun k hk=>?_) ?_
    · refine leads_ev (finN_sub _ _) e_nil k_nil noL_ok ((sf_step F G (k:Nat)).trans ?_)
      unfold sfC
      rw [dec_lt hk,dxB_t hk hn,hh,BEq.rfl,w64_next (by omega)]; rfl
    · refine leads_ev (finE_sub _ _) e_nil k_nil noL_ok ((sf_end F G (F.n:Nat)).trans ?_)
      unfold sfC
      rw [dec_self,cond_false]
  refine gspec e_nil k_nil Tryz.func30 (by kernel_rfl) (by kernel_rfl) (lok_at 0 1 (by kernel_rfl) (by kernel_rfl) (toldF_sound lead)) rfl ((sf_ev F G).trans ?_)
  rw [hb,gate_pos (Sub.refl _)]; rfl
section
variable {s u:Scn}
theorem n1_leads (ok:Alike s u):Leads Tryz.prog (.loop (loopAt Tryz.f10 0)) (snS s u 0 5) (.exit 0) (snS s u s.nS 5):=by
  have few:=ok.few
  refine loop_rule (fun k=>snS s u (k:Nat) 5) s.nS (.exit 0) _ (by simp) (fun k hk=>?_) ?_
  · have sp:=ss_spec (s.S k) (u.S k)
    rw [ok.S k hk] at sp
    refine leads_ev (finN_sub _ _) e_nil k1_ok noL_ok ((n1_step s u (k:Nat)).trans ?_)
    unfold n1C
    rw [dec_lt hk,dxB_t hk ok.n.1,Int.toNat_natCast,gate_pos sp,w64_next (by omega)]; rfl
  · refine leads_ev (finE_sub _ _) e_nil k1_ok noL_ok ((n1_end s u (s.nS:Nat)).trans ?_)
    unfold n1C
    rw [dec_self,cond_false]
theorem n4_leads (ok:Alike s u):Leads Tryz.prog (.loop (loopAt Tryz.f10 3)) (snS s u 0 12) (.exit 6) (snS s u s.nF 12):=by
  have few:=ok.few
  refine loop_rule (fun k=>snS s u (k:Nat) 12) s.nF (.exit 6) _ (by simp) (fun k hk=>?_) ?_
  · obtain ⟨h1,h2,h3,h4⟩:=ok.F k hk
    refine leads_ev (finN_sub _ _) e_nil k1_ok noL_ok ((n4_step s u (k:Nat)).trans ?_)
    unfold n1C
    rw [dec_lt hk,dxB_t hk ok.n.2.2.1,Int.toNat_natCast,gate_pos (sf_same h1 h2 h3 h4),w64_next (by omega)]; rfl
  · refine leads_ev (finE_sub _ _) e_nil k1_ok noL_ok ((n4_end s u (s.nF:Nat)).trans ?_)
    unfold n1C
    rw [dec_self,cond_false]
theorem j3_t (a b c:Int):j3 a b c a b c=true:=by unfold j3; rw [BEq.rfl,BEq.rfl,BEq.rfl]; rfl
theorem i10_t (e:Nat→Int):i10 e e=true:=by unfold i10; rw [j3_t,j3_t,j3_t,BEq.rfl]; rfl
theorem n5_leads (ok:Alike s u):Leads Tryz.prog (.loop (loopAt Tryz.f10 4)) (snS s u 0 14) (.exit 8) (snS s u s.nK 14):=by
  have few:=ok.few
  refine loop_rule (fun k=>snS s u (k:Nat) 14) s.nK (.exit 8) _ (by simp) (fun k hk=>?_) ?_
  · refine leads_ev (finN_sub _ _) e_nil k_nil noL_ok ((n5_step s u (k:Nat)).trans ?_)
    unfold n5C
    rw [dec_lt hk,dxB_t hk ok.n.2.2.2.1,Int.toNat_natCast,ok.K k hk,i10_t,w64_next (by omega)]; rfl
  · refine leads_ev (finE_sub _ _) e_nil k_nil noL_ok ((n5_end s u (s.nK:Nat)).trans ?_)
    unfold n5C
    rw [dec_self,cond_false]
theorem n6_leads (ok:Alike s u):Leads Tryz.prog (.loop (loopAt Tryz.f10 5)) (snS s u 0 15) (.exit 10) (snS s u s.nL 15):=by
  have few:=ok.few
  refine loop_rule (fun k=>snS s u (k:Nat) 15) s.nL (.exit 10) _ (by simp) (fun k hk=>?_) ?_
  · refine leads_ev (finN_sub _ _) e_nil k_nil noL_ok ((n6_step s u (k:Nat)).trans ?_)
    unfold n5C lm6
    rw [dec_lt hk,dxB_t hk ok.n.2.2.2.2,Int.toNat_natCast,ok.LA k hk,ok.LL k hk,j3_t,w64_next (by omega)]; rfl
  · refine leads_ev (finE_sub _ _) e_nil k_nil noL_ok ((n6_end s u (s.nL:Nat)).trans ?_)
    unfold n5C
    rw [dec_self,cond_false]
theorem n3_leads (i:Int) {o w:Sld} (h:o.n≤1000) (hn:o.n=w.n) (hp:∀ q,q < o.n→pB gSS (o.P q) (w.P q)=false):Leads Tryz.prog (.loop (loopAt Tryz.f10 2)) (n3S s u i o w 0) (.exit 4) (n3S s u i o w o.n):=by
  have en:=e_cons eSS_ok e_nil
  refine loop_rule (fun k=>n3S s u i o w (k:Nat)) o.n (.exit 4) _ (by simp) (fun k hk=>?_) ?_
  · refine leads_ev (finN_sub _ _) en k_nil noL_ok ((n3_step gSS s u i o w (k:Nat)).trans ?_)
    unfold n3C
    rw [dec_lt hk,ixB_t hk,ixB_t (show k < w.n by omega),Int.toNat_natCast,hp k hk,w64_next (by omega)]; rfl
  · refine leads_ev (finE_sub _ _) en k_nil noL_ok ((n3_end gSS s u i o w (o.n:Nat)).trans ?_)
    unfold n3C
    rw [dec_self,cond_false]
theorem n2L_ok {i:Int} {j:Nat} (ok:Alike s u) (hj:j < s.nO):LOk Tryz.prog (n2L s u i j) (loopAt Tryz.f10 1) :=
  lok_at 0 1 (by kernel_rfl) (by kernel_rfl) (toldF_sound (n3_leads i (ok.O j hj).1 (ok.O j hj).2.1 (ok.O j hj).2.2.2))
theorem n2_leads (ok:Alike s u):Leads Tryz.prog (.loop (loopAt Tryz.f10 1)) (snS s u 0 6) (.exit 2) (snS s u s.nO 6):=by
  have few:=ok.few
  refine loop_rule (fun k=>snS s u (k:Nat) 6) s.nO (.exit 2) _ (by simp) (fun k hk=>?_) ?_
  · obtain ⟨_,h2,h3,_⟩:=ok.O k hk
    refine leads_ev (finN_sub _ _) e_nil k_nil (n2L_ok ok (by rw [Int.toNat_natCast]; exact hk)) ((n2_step s u (k:Nat)).trans ?_)
    unfold n2C
    rw [dec_lt hk,ixB_t hk,ixB_t (show k < u.nO by have:=ok.n.2.1; omega),Int.toNat_natCast,h2,h3,BEq.rfl,BEq.rfl,gate_pos (Sub.refl _),w64_next (by omega)]; rfl
  · refine leads_ev (finE_sub _ _) e_nil k_nil (lok_none 16) ((n2_end s u (s.nO:Nat)).trans ?_)
    unfold n2C
    rw [dec_self,cond_false]
/-- Two scenes that are the same are the same. -/
theorem sn_same (ok:Alike s u):FSpec Tryz.prog 10 [.agg s.c,.agg u.c] (bA true):=by
  refine gspec e_nil k_nil Tryz.func10 (by kernel_rfl) (by kernel_rfl) (lok_cons (lok_at 0 6 (by kernel_rfl) (by kernel_rfl) (toldF_sound (n1_leads ok))) (lok_cons (lok_at 1 6 (by kernel_rfl) (by kernel_rfl) (toldF_sound (n2_leads ok))) (lok_cons (lok_at 3 6 (by kernel_rfl) (by kernel_rfl) (toldF_sound (n4_leads ok))) (lok_cons (lok_at 4 6 (by kernel_rfl) (by kernel_rfl) (toldF_sound (n5_leads ok))) (lok_cons (lok_at 5 6 (by kernel_rfl) (by kernel_rfl) (toldF_sound (n6_leads ok))) lok_nil))))) rfl ((sn_ev s u).trans ?_)
  have hd:hdN s u=false:=by
    unfold hdN
    rw [ok.eye,ok.sky,ok.n.1,ok.n.2.1,ok.n.2.2.1,ok.n.2.2.2.1,ok.n.2.2.2.2,BEq.rfl,BEq.rfl,BEq.rfl,BEq.rfl,BEq.rfl]; rfl
  unfold sG
  rw [hd,gate_pos (Sub.refl _),gate_pos (Sub.refl _),gate_pos (Sub.refl _),gate_pos (Sub.refl _),gate_pos (Sub.refl _)]; rfl
end
/-- What is read of a scene, as a scene. -/
noncomputable def rd6 (s:Scn):Scn:=⟨s.nS,fun q=>⟨(s.S q).k,cX (s.S q).k (rd (s.S q).a),(s.S q).sk⟩,s.nO,fun q=>⟨(s.O q).n,fun i=>rdP' ((s.O q).P i),(s.O q).sk⟩,s.nF,fun q=>rdFd (s.F q),s.nK,s.K,s.nL,fun q i=>rdF (s.LA q i),s.LL,s.sky,lst (eyL s.eye)⟩
theorem sky_at (s:Scn):∀ q,q < 3→(cf6 s).sky q=s.sky q:=fun q hq=>by
  show (((tks6 s).map Prod.snd).getD (15+1+q) 0)=s.sky q
  rw [tks6_eq]
  match q,hq with
  | 0,_=>rfl
  | 1,_=>rfl
  | 2,_=>rfl
theorem scF_rd (s:Scn):scF (cf6 s)=(rd6 s).c:=by
  have e:scF (cf6 s)=[(rd6 s).vS,(rd6 s).vO,(rd6 s).vF,(rd6 s).vK,(rd6 s).vL,iA ((cf6 s).sky 0),iA ((cf6 s).sky 1),iA ((cf6 s).sky 2),.f ((rd6 s).eye 0),.f ((rd6 s).eye 1),.f ((rd6 s).eye 2),.f ((rd6 s).eye 3),.f ((rd6 s).eye 4),.f ((rd6 s).eye 5),.f ((rd6 s).eye 6),.f ((rd6 s).eye 7),.f ((rd6 s).eye 8),.f ((rd6 s).eye 9)]:=rfl
  rw [e,sky_at s 0 (by omega),sky_at s 1 (by omega),sky_at s 2 (by omega)]
  rfl
theorem like_of {x y:Nat} (h:feq x y=true):likeS x y=true:=by unfold likeS; rw [h]; rfl
theorem sSh_of {s u:Shp} (hk:s.k=u.k) (hs:s.sk=u.sk) (h:∀ i,i < 11→feq (s.a i) (u.a i)=true):sSh s u=true:=by
  unfold sSh lkVS
  rw [hk,hs,BEq.rfl,BEq.rfl,like_of (h 0 (by omega)),like_of (h 1 (by omega)),like_of (h 2 (by omega)),like_of (h 3 (by omega)),like_of (h 4 (by omega)),like_of (h 5 (by omega)),like_of (h 6 (by omega)),like_of (h 7 (by omega)),like_of (h 8 (by omega)),like_of (h 9 (by omega)),like_of (h 10 (by omega))]
  rfl
theorem v3_of {a b c a' b' c':Nat} (h0:feq a a'=true) (h1:feq b b'=true) (h2:feq c c'=true):v3B a b c a' b' c'=true:=by unfold v3B; rw [h0,h1,h2]; rfl
theorem eqZ_of {p:Prt} (h:eqZ p=true):p.k=0∧p.sk=0∧∀ i,i < 11→feq 0 (p.a i)=true:=by
  unfold eqZ at h
  simp only [Bool.and_eq_true] at h
  obtain ⟨h0,h1,h2,h3,h4,h5,h6,_⟩:=h
  obtain ⟨a0,a1,a2⟩:=eqV_all h1
  obtain ⟨a3,a4,a5⟩:=eqV_all h2
  obtain ⟨a6,a7,a8⟩:=eqV_all h3
  have z:∀ {x:Nat},feq x 0=true→feq 0 x=true:=fun {x} h=>by
    rw [feq_sm (Sm.refl 0) (sm_of h)]
    decide +kernel
  refine ⟨eq_of_beq h0,eq_of_beq h6,fun i hi=>?_⟩
  match i,hi with
  | 0,_=>exact z a0
  | 1,_=>exact z a1
  | 2,_=>exact z a2
  | 3,_=>exact z a3
  | 4,_=>exact z a4
  | 5,_=>exact z a5
  | 6,_=>exact z a6
  | 7,_=>exact z a7
  | 8,_=>exact z a8
  | 9,_=>exact z h4
  | 10,_=>exact z h5
theorem pB_of {p q:Prt} (h1:p.op=q.op) (h2:p.l=q.l) (h3:p.r=q.r) (hk:p.k=q.k) (hs:p.sk=q.sk) (h:∀ i,i < 11→feq (p.a i) (q.a i)=true):pB gSS p q=false:=by
  have e:gSS p.s q.s=true:=sSh_of (s:=⟨p.k,ls [p.a 0,p.a 1,p.a 2,p.a 3,p.a 4,p.a 5,p.a 6,p.a 7,p.a 8,p.a 9,p.a 10],p.sk⟩) (u:=⟨q.k,ls [q.a 0,q.a 1,q.a 2,q.a 3,q.a 4,q.a 5,q.a 6,q.a 7,q.a 8,q.a 9,q.a 10],q.sk⟩) hk hs fun i hi=>by
    match i,hi with
    | 0,hi=>exact h 0 hi
    | 1,hi=>exact h 1 hi
    | 2,hi=>exact h 2 hi
    | 3,hi=>exact h 3 hi
    | 4,hi=>exact h 4 hi
    | 5,hi=>exact h 5 hi
    | 6,hi=>exact h 6 hi
    | 7,hi=>exact h 7 hi
    | 8,hi=>exact h 8 hi
    | 9,hi=>exact h 9 hi
    | 10,hi=>exact h 10 hi
  unfold pB
  rw [e,h1,h2,h3,BEq.rfl,BEq.rfl,BEq.rfl]
  rfl
theorem alike_of {s:Scn} (h:scE s=0) (g:Good s) (t:Told s):Alike (rd6 s) s:=by
  unfold scE at h
  obtain ⟨_,h⟩:=c4 (by decide) h
  obtain ⟨_,h⟩:=c0 h
  obtain ⟨hT,h⟩:=c0 h
  unfold thE at hT
  obtain ⟨hS,hT⟩:=c0 hT
  obtain ⟨hO,hF⟩:=c0 hT
  have k1:=g.fK
  have k2:=g.fL
  have k3:=g.fS
  have k4:=g.fO
  have k5:=g.fF
  refine ⟨⟨by show s.nS≤1000; omega,by show s.nO≤1000; omega,by show s.nF≤1000; omega,by show s.nK≤1000; omega,by show s.nL≤1000; omega⟩,⟨rfl,rfl,rfl,rfl,rfl⟩,fun q hq=>?_,fun q hq=>?_,fun q hq=>?_,fun _ _=>rfl,fun q hq=>?_,fun _ _=>rfl,?_,?_⟩
  · exact sSh_of rfl rfl (sh_same (g.S q hq).1 (t.S q hq))
  · obtain ⟨h1,pm,_,_,_⟩:=g.O q hq
    obtain ⟨hbare,hsh⟩:=leaves h1.1 pm (t.O q hq)
    have hso:soE (s.O q).n (s.O q).P (s.O q).sk=0:=we0 (seq_zero _ hO q hq)
    have hp:∀ i,i < (s.O q).n→paE (s.O q).P i=0:=by
      unfold soE at hso
      obtain ⟨_,hso⟩:=c4 (by decide) hso
      obtain ⟨_,hso⟩:=c4 (by decide) hso
      exact seq_zero _ hso
    obtain ⟨_,hm⟩:=pm_of hp
    refine ⟨by show (s.O q).n≤1000; omega,rfl,rfl,fun i hi=>?_⟩
    have hi:i < (s.O q).n:=hi
    show pB gSS (rdP' ((s.O q).P i)) ((s.O q).P i)=false
    by_cases h0:((s.O q).P i).op=0
    · obtain ⟨b1,b2,b3⟩:=bare_0 (hbare i hi) h0
      have hk:=(mayC_near (hm i hi h0)).2.1
      unfold rdP'
      rw [if_pos h0]
      exact pB_of h0.symm b1.symm b2.symm rfl b3.symm (sh_same hk (hsh i hi h0))
    · have hz:=hbare i hi
      unfold bareB at hz
      rw [beq_false_of_ne h0] at hz
      obtain ⟨z1,z2,z3⟩:=eqZ_of hz
      unfold rdP'
      rw [if_neg h0]
      exact pB_of rfl rfl rfl z1.symm z2.symm z3
  · have hf:fFd (s.F q).c=0:=we0 (seq_zero _ hF q hq)
    have fb:=t.F q hq
    unfold fdB at fb
    obtain ⟨f1,f2⟩:=Bool.or_eq_false_iff.1 fb
    obtain ⟨a0,a1,a2⟩:=vb_no f1
    obtain ⟨W,H,_,_,_,hW,hH,hWH,_⟩:=g.F q hq
    have hn:(s.F q).n≤1000:=by
      have:W*H≤8*8:=Nat.mul_le_mul hW hH
      omega
    refine ⟨hn,?_,rfl,rfl⟩
    show fdN (rdFd (s.F q)) (s.F q)=false
    have e3:v3B (rdF ((s.F q).at_ 0)) (rdF ((s.F q).at_ 1)) (rdF ((s.F q).at_ 2)) ((s.F q).at_ 0) ((s.F q).at_ 1) ((s.F q).at_ 2)=true:=v3_of (rdF_eq a0) (rdF_eq a1) (rdF_eq a2)
    have e4:=rdF_eq (not_no f2)
    unfold fdN
    show cond (cond (cond (cond (cond (!((s.F q).W==(s.F q).W)) true (!((s.F q).H==(s.F q).H))) true (!v3B (rdF ((s.F q).at_ 0)) (rdF ((s.F q).at_ 1)) (rdF ((s.F q).at_ 2)) ((s.F q).at_ 0) ((s.F q).at_ 1) ((s.F q).at_ 2))) true (!feq (rdF (s.F q).sd) (s.F q).sd)) true (!((s.F q).sk==(s.F q).sk))) true (!(((s.F q).n:Int)==(s.F q).n))=false
    rw [e3,e4,BEq.rfl,BEq.rfl,BEq.rfl,BEq.rfl]
    rfl
  · obtain ⟨a0,a1,a2⟩:=vb_no (t.L q hq)
    exact v3_of (rdF_eq a0) (rdF_eq a1) (rdF_eq a2)
  · show i3 s.sky s.sky=true
    unfold i3
    rw [BEq.rfl,BEq.rfl,BEq.rfl]
    rfl
  · have e:=t.eye
    show e10 (lst (eyL s.eye)) s.eye=true
    have r:∀ i,i < 10→feq (rdF (s.eye i)) (s.eye i)=true:=fun i hi=>rdF_eq (e i hi)
    unfold e10
    show (v3B (rdF (s.eye 0)) (rdF (s.eye 1)) (rdF (s.eye 2)) (s.eye 0) (s.eye 1) (s.eye 2)&&(v3B (rdF (s.eye 3)) (rdF (s.eye 4)) (rdF (s.eye 5)) (s.eye 3) (s.eye 4) (s.eye 5)&&(v3B (rdF (s.eye 6)) (rdF (s.eye 7)) (rdF (s.eye 8)) (s.eye 6) (s.eye 7) (s.eye 8)&&(feq (rdF (s.eye 9)) (s.eye 9)&&true))))=true
    rw [v3_of (r 0 (by omega)) (r 1 (by omega)) (r 2 (by omega)),v3_of (r 3 (by omega)) (r 4 (by omega)) (r 5 (by omega)),v3_of (r 6 (by omega)) (r 7 (by omega)) (r 8 (by omega)),r 9 (by omega)]
    rfl
end Go.Proofs.YtefphimaggjihaaGreatDoor.Pi.Rd

namespace Go.Proofs.YtefphimaggjihaaGreatDoor.Pi.Rd
open Go.Shelf Go.RowKit Go.Gv
open Hs Hs.So Hs.Sc Hs.Fm
def hvB (s:Scn):Bool:=decide (w64 (w64 (w64 (w64 ((s.nS:Int)+s.nK)+s.nL)+s.nO)+s.nF) > 99)
theorem hvB_spec (s:Scn):FSpec Tryz.prog 11 [.agg s.c] (bA (hvB s)):=gspec e_nil k_nil Tryz.func11 (by kernel_rfl) (by kernel_rfl) noL_ok rfl (show ev Tryz.prog [] [] noL Tryz.f11 [.agg s.c] ret=oB (hvB s) by kernel_rfl)
section
variable (s u:Scn) (e:Int) (hv b:Bool) (t:ByteArray)
noncomputable def bkK0:List KEntry:=[kS Tryz.prog 11 (fun _=>bA hv),kS Tryz.prog 12 (fun _=>.tup [zA ⟨#[]⟩,iA e])]
theorem sbk_bad:ev Tryz.prog [] (bkK0 e hv) noL Tryz.f5 [.agg s.c] ret =
  gate (FSpec Tryz.prog 11 [.agg s.c] (bA hv)) (cond hv (oB true) (gate (FSpec Tryz.prog 12 [.agg s.c] (.tup [zA ⟨#[]⟩,iA e])) (cond (!(e==0)) (oB true) none))):=by kernel_rfl
noncomputable def bkK:List KEntry:=[kS Tryz.prog 11 (fun _=>bA hv),kS Tryz.prog 12 (fun _=>.tup [zA t,iA 0]),kS Tryz.prog 8 (fun _=>.tup [.agg u.c,iA 0]),kS Tryz.prog 10 (fun _=>bA b)]
theorem sbk_ev:ev Tryz.prog [] (bkK u hv b t) noL Tryz.f5 [.agg s.c] ret =
  gate (FSpec Tryz.prog 11 [.agg s.c] (bA hv)) (cond hv (oB true) (gate (FSpec Tryz.prog 12 [.agg s.c] (.tup [zA t,iA 0])) (gate (FSpec Tryz.prog 8 [zA t] (.tup [.agg u.c,iA 0])) (gate (FSpec Tryz.prog 10 [.agg u.c,.agg s.c] (bA b)) (oB (cond b (decide ((t.size:Int) > 40)) false)))))):=by kernel_rfl
end
theorem tks_two:∀ (ts:List (List UInt8)),(∀ x,x ∈ ts→x≠[])→2*ts.length≤(tks true ts).length
  | [],_=>Nat.zero_le _
  | x::r,h=>by
    have ih:=tks_two r fun y hy=>h y (by simp [hy])
    have hx:=List.length_pos_iff.2 (h x (by simp))
    show 2*(r.length+1)≤([32] ++ (x ++ tks true r)).length
    rw [List.length_append,List.length_append,List.length_singleton]
    omega
theorem ln_long {p:TP} {l:List TP} (h:AllT (p::l)):p.1.length+2*l.length+3≤(lnT (p::l)).length:=by
  have h2:=tks_two (l.map Prod.fst ++ [[59]]) fun x hx=>by
    rcases List.mem_append.1 hx with hx | hx
    · obtain ⟨q,hq,rfl⟩:=List.mem_map.1 hx
      exact tok_ne (h q (by simp [hq]))
    · simp at hx; subst hx; simp
  have e:(lnT (p::l)).length=(p.1 ++ tks true (l.map Prod.fst ++ [[59]])).length+1:=List.length_append
  rw [e,List.length_append]
  rw [List.length_append,List.length_map,List.length_singleton] at h2
  omega
theorem x6_long {s:Scn} (h:Good s):40 < (x6 dcT tnX tbX s).length:=by
  rw [x6_lines]
  unfold lns ln1
  have ht:=lns_tok h
  have t1:AllT (eyP s.eye):=eyP_tok _
  have t2:AllT (skyP s.sky):=allT_cons (kP_tok rfl) (hP_tok h.sky (by omega))
  have a1:3+2*13+3≤(lnT (eyP s.eye)).length:=ln_long (p:=kP eyW) t1
  have a2:3+2*3+3≤(lnT (skyP s.sky)).length:=ln_long (p:=kP skyW) t2
  rw [List.flatMap_append,List.flatMap_cons,List.flatMap_cons,List.length_append,List.length_append,List.length_append]
  omega
/-- THE LAW: whatever can be printed is read back as the same. -/
theorem sceneBack_law (s:Scn):FSpec Tryz.prog 5 [.agg s.c] (bA true):=by
  have bad:∀ e:Int,e≠0→FSpec Tryz.prog 12 [.agg s.c] (.tup [zA ⟨#[]⟩,iA e])→FSpec Tryz.prog 5 [.agg s.c] (bA true):=fun e he hp=>by
    refine gspec e_nil (k_cons kS_ok (k_cons kS_ok k_nil)) Tryz.func5 (by kernel_rfl) (by kernel_rfl) noL_ok rfl ((sbk_bad s e (hvB s)).trans ?_)
    rw [gate_pos (hvB_spec s),gate_pos hp,beq_false_of_ne he]
    cases hvB s<;>rfl
  by_cases h:scE s=0
  · have p:=print_spec h
    cases hw:w6 dcT tnX tbX s
    · rw [hw,cond_false] at p
      have g:=good_of h hw
      have t:=told_of hw
      have r:=parse_6 g (mays_of h t) (x6_short g)
      rw [scF_rd] at r
      refine gspec e_nil (k_cons kS_ok (k_cons kS_ok (k_cons kS_ok (k_cons kS_ok k_nil)))) Tryz.func5 (by kernel_rfl) (by kernel_rfl) noL_ok rfl ((sbk_ev s (rd6 s) (hvB s) true (lB (x6 dcT tnX tbX s))).trans ?_)
      rw [gate_pos (hvB_spec s),gate_pos p,gate_pos r,gate_pos (sn_same (alike_of h g t)),size_lB,decide_eq_true (by have:=x6_long g; omega)]
      cases hvB s<;>rfl
    · rw [hw,cond_true] at p
      exact bad 11 (by decide) p
  · exact bad _ h (print_bad h)
end Go.Proofs.YtefphimaggjihaaGreatDoor.Pi.Rd

namespace Go.Proofs.YtefphimaggjihaaGreatDoor
open Go.Gv Go.RowKit Go.ChangeShapes Go.WideShapes Go.ChangeAt

end Go.Proofs.YtefphimaggjihaaGreatDoor
