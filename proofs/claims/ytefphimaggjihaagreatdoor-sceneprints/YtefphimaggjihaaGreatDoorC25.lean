/-
  Sxa Er0 Uj Uk Ul Um Un Uo Up Uq Ur Us Ut Uu Uv Uw Ux Uy Uz Va Vb Vc Vd Ve Vf Vg Vh Vi Vj Vk Vl Vm Vn Vo Arg0, one behind the other.
-/
import Derived.Test.YtefphimaggjihaaGreatDoorC24
import Derived.Test.YtefphimaggjihaaGreatDoorC18
namespace Go.Ev
open Ieee
theorem cut_tz (s:Bool) (n d:Nat):Toward.zero.cut s n d=n / 2 ^ d:=by
  unfold Toward.cut
  show n / (1 <<< min d (n.log2+2))+0=n / 2 ^ d
  rw [Nat.add_zero,Nat.one_shiftLeft]
  by_cases h:d≤n.log2+2
  · rw [Nat.min_eq_left h]
  · rw [Nat.min_eq_right (by omega)]
    have h1:n < 2 ^ (n.log2+1):=Nat.lt_log2_self
    have h2:2 ^ (n.log2+1)≤2 ^ (n.log2+2):=Nat.pow_le_pow_right (by decide) (by omega)
    have h3:2 ^ (n.log2+1)≤2 ^ d:=Nat.pow_le_pow_right (by decide) (by omega)
    rw [Nat.div_eq_of_lt (by omega),Nat.div_eq_of_lt (by omega)]
/-- A number, cut off. -/
theorem whole_zero {c x:Nat} (hc:c=1074) (hx:isFin x=true):(double.read x).integral .zero=.number (sgn x) ((val x).natAbs / 2 ^ c) 0:=by
  obtain ⟨m,i,h1,h2,h3,h4⟩:=read_fin hx
  rw [h1,val_abs,h4]
  show Datum.number (sgn x) (Toward.zero.cut (sgn x) (m <<< i.toNat) (-i).toNat) 0=_
  congr 1
  rw [cut_tz,Nat.shiftLeft_eq]
  by_cases hi:0≤i
  · obtain ⟨u,rfl⟩:∃ u:Nat,i=u:=⟨i.toNat,by omega⟩
    rw [show (-(u:Int)).toNat=0 by omega,Nat.pow_zero,Nat.div_one,Int.toNat_natCast,show ((u:Int)+1074).toNat=u+c by omega,Nat.pow_add,← Nat.mul_assoc,Nat.mul_div_cancel _ (Nat.two_pow_pos c)]
  · obtain ⟨d,hd⟩:∃ d:Nat,i=-(d:Int)∧d≤c:=⟨(-i).toNat,by omega,by omega⟩
    rw [hd.1,show (-(d:Int)).toNat=0 by omega,Nat.pow_zero,Nat.mul_one,show (- -(d:Int)).toNat=d by omega,show (-(d:Int)+1074).toNat=c - d by omega]
    have e:2 ^ c=2 ^ d*2 ^ (c - d):=by rw [← Nat.pow_add]; congr 1; omega
    rw [e,Nat.mul_div_mul_right _ _ (Nat.two_pow_pos _)]
theorem f2i_exact {c x:Nat} (hc:c=1074) (hx:isFin x=true) (hb:(val x).natAbs / 2 ^ c≤4611686018427387904):Go.Gv.f2i .i64 x=cond (sgn x) (-(((val x).natAbs / 2 ^ c:Nat):Int)) (((val x).natAbs / 2 ^ c:Nat):Int):=by
  have h1:=whole_zero hc hx
  generalize (val x).natAbs / 2 ^ c=M at h1 hb ⊢
  unfold Go.Gv.f2i floatToIntVal
  have ht:(FloatKind.f64.decode x).toInt .zero=some (signed (sgn x) M 0):=by
    show (double.read x).toInt .zero=_
    unfold Datum.toInt
    rw [h1]
  rw [ht]
  have hs:signed (sgn x) M 0=cond (sgn x) (-(M:Int)) (M:Int):=by
    rw [signed_val,Nat.pow_zero,Nat.mul_one]
  have h3:IntKind.i64.min≤signed (sgn x) M 0∧signed (sgn x) M 0≤IntKind.i64.max:=by
    rw [hs,show IntKind.i64.min=-9223372036854775808 by decide,show IntKind.i64.max=9223372036854775807 by decide]
    cases sgn x
    · rw [cond_false]; omega
    · rw [cond_true]; omega
  simp only [h3,and_self,if_true,Option.getD_some]
  exact hs
/-- A number that is not negative, cut off. -/
theorem f2i_pos {c x:Nat} (hc:c=1074) (hx:isFin x=true) (h0:0≤val x) (hb:(val x).natAbs / 2 ^ c≤4611686018427387904):Go.Gv.f2i .i64 x=(((val x).natAbs / 2 ^ c:Nat):Int):=by
  rw [f2i_exact hc hx hb]
  cases hs:sgn x
  · rfl
  · have e:val x=-(rv 52 (rung x):Int):=by unfold val; rw [hs]; rfl
    have z:(val x).natAbs=0:=by omega
    rw [z,Nat.zero_div]; rfl
theorem f2i_mono {c x y:Nat} (hc:c=1074) (hx:isFin x=true) (hy:isFin y=true) (h0:0≤val x) (h:key x≤key y) (hb:(val y).natAbs / 2 ^ c≤4611686018427387904):Go.Gv.f2i .i64 x≤Go.Gv.f2i .i64 y:=by
  have hv:=val_le.2 h
  have h1:(val x).natAbs / 2 ^ c≤(val y).natAbs / 2 ^ c:=Nat.div_le_div_right (by omega)
  rw [f2i_pos hc hx h0 (by omega),f2i_pos hc hy (by omega) hb]
  omega
theorem VB.cut {c a j x:Nat} (h:VB a j x):(val x).natAbs / 2 ^ c≤a*2 ^ j / 2 ^ c:=Nat.div_le_div_right h.2
end Go.Ev
namespace Go.Proofs.YtefphimaggjihaaGreatDoor.Hs.So
open Go.Gv
open Go.Ev (cn fadd fsub fmul fdiv fsqrt fneg feq flt fle fgt fge fabs VB key isNan isFin val)

theorem mth_mono {c:Nat} (hc:c=1074) {m n:Int} (h:m≤n) (h1:m.natAbs≤2 ^ 60) (h2:n.natAbs≤2 ^ 60):key (mth m)≤key (mth n):=by
  have f1:=(Go.Ev.near_vb hc (j:=60) (by decide) h1).1
  have f2:=(Go.Ev.near_vb hc (j:=60) (by decide) h2).1
  unfold mth
  refine Go.Ev.fdiv_mono f1 f2 (by decide +kernel) (by decide +kernel) ?_
  rw [(Go.Ev.mth_whole hc m).1,(Go.Ev.mth_whole hc n).1]
  exact Go.Ev.KR_mono 1 (Int.mul_le_mul_of_nonneg_right h (Int.natCast_nonneg _))
end Go.Proofs.YtefphimaggjihaaGreatDoor.Hs.So

namespace Go.Ev
open Ieee

theorem rnd_err (a:Nat) {g:Nat} (hg:0 < g):2*(rnd a g*g)≤2*a+g∧2*a≤2*(rnd a g*g)+g:=by
  have hd:=Nat.div_add_mod a g
  have hm:=Nat.mod_lt a hg
  unfold rnd
  generalize ha:a / g=q at *
  generalize hr:a % g=r at *
  rw [Nat.mul_comm g q] at hd
  cases hb:(decide (g < 2*r)||(g==2*r&&q % 2==1)) with
  | true =>
    have h2:g≤2*r:=by
      simp only [Bool.or_eq_true,decide_eq_true_eq,Bool.and_eq_true,beq_iff_eq] at hb
      omega
    have e:(q+true.toNat)*g=q*g+g:=by rw [Nat.add_mul]; simp
    rw [e]
    generalize q*g=Q at *
    omega
  | false =>
    have h2:2*r≤g:=by
      simp only [Bool.or_eq_false_iff,decide_eq_false_iff_not] at hb
      omega
    have e:(q+false.toNat)*g=q*g:=by simp
    rw [e]
    generalize q*g=Q at *
    omega
/-- The value of what is rounded. -/
theorem rv_rqg {a g:Nat} (hg:0 < g):rv 52 (rq 52 a g)=rnd a (g*2 ^ ((a / g).log2 - 52))*2 ^ ((a / g).log2 - 52):=by
  unfold rq
  generalize hE:(a / g).log2 - 52=E
  have hG:0 < g*2 ^ E:=Nat.mul_pos hg (Nat.two_pow_pos E)
  have hup:rnd a (g*2 ^ E)≤2 ^ 53:=by
    refine Nat.le_trans (rnd_le _ _) ?_
    rw [← Nat.div_div_eq_div_mul]
    have h1:a / g / 2 ^ E < 2 ^ 53:=by
      rw [Nat.div_lt_iff_lt_mul (Nat.two_pow_pos E),← Nat.pow_add]
      by_cases h0:a / g=0
      · rw [h0]; exact Nat.two_pow_pos _
      · exact (Nat.log2_lt h0).1 (by omega)
    omega
  have hlo:E=0∨2 ^ 52≤rnd a (g*2 ^ E):=by
    by_cases h:E=0
    · exact Or.inl h
    · refine Or.inr (Nat.le_trans ?_ (le_rnd _ _))
      rw [← Nat.div_div_eq_div_mul,Nat.le_div_iff_mul_le (Nat.two_pow_pos E),← Nat.pow_add]
      have h0:a / g≠0:=fun h0=>by rw [h0] at hE; simp at hE; omega
      exact (Nat.le_log2 h0).1 (by omega)
  have e52:(2:Nat) ^ 52=4503599627370496:=by decide
  have e53:(2:Nat) ^ 53=9007199254740992:=by decide
  generalize rnd a (g*2 ^ E)=R at *
  rw [e52] at hlo ⊢
  rw [e53] at hup
  by_cases hR:R < 4503599627370496
  · have h0:E=0:=by omega
    subst h0
    rw [Nat.zero_mul,Nat.zero_add,rv_low hR]; omega
  · rw [rv_high (by omega)]
    by_cases hS:R=9007199254740992
    · subst hS
      rw [show (E*4503599627370496+9007199254740992) % 4503599627370496=0 by omega,show (E*4503599627370496+9007199254740992) / 4503599627370496 - 1=E+1 by omega,Nat.pow_succ]
      generalize 2 ^ E=P
      omega
    · rw [show (E*4503599627370496+R) % 4503599627370496=R - 4503599627370496 by omega,show (E*4503599627370496+R) / 4503599627370496 - 1=E by omega,show 4503599627370496+(R - 4503599627370496)=R by omega]
theorem rq_err {a g b:Nat} (hg:0 < g) (hb:53≤b) (ha:a≤2 ^ b*g):rv 52 (rq 52 a g)*g≤a+2 ^ (b - 53)*g∧a≤rv 52 (rq 52 a g)*g+2 ^ (b - 53)*g:=by
  rw [rv_rqg hg]
  generalize hE:(a / g).log2 - 52=E
  have hG:0 < g*2 ^ E:=Nat.mul_pos hg (Nat.two_pow_pos E)
  obtain ⟨h1,h2⟩:=rnd_err a hG
  have hle:2 ^ E≤2*2 ^ (b - 53):=by
    rw [← Nat.pow_succ']
    refine Nat.pow_le_pow_right (by decide) ?_
    by_cases h0:a / g=0
    · rw [h0] at hE; simp at hE; omega
    · have:a / g≤2 ^ b:=Nat.div_le_of_le_mul (by rw [Nat.mul_comm]; exact ha)
      have h3:(a / g).log2 < b+1:=(Nat.log2_lt h0).2 (by rw [Nat.pow_succ]; have:=Nat.two_pow_pos b; omega)
      omega
  have hg2:g*2 ^ E≤2*(2 ^ (b - 53)*g):=by
    rw [Nat.mul_comm g,← Nat.mul_assoc]
    exact Nat.mul_le_mul_right g hle
  have e:rnd a (g*2 ^ E)*2 ^ E*g=rnd a (g*2 ^ E)*(g*2 ^ E):=by rw [Nat.mul_assoc,Nat.mul_comm (2 ^ E) g]
  rw [e]
  generalize rnd a (g*2 ^ E)*(g*2 ^ E)=Q at *
  generalize g*2 ^ E=G at *
  generalize 2 ^ (b - 53)*g=W at *
  omega
/-- ROUNDING: what comes out, against the exact. -/
theorem round_err {z g b:Nat} {v:Int} (hz:key z=KR v g) (hf:isFin z=true) (hg:0 < g) (hb:53≤b) (hv:v.natAbs≤2 ^ b*g):(val z*(g:Int) - v).natAbs≤2 ^ (b - 53)*g:=by
  have hlt:rung z < 9218868437227405312:=isFin_lt hf
  have hq:rq 52 v.natAbs g < 9218868437227405312∨(KR v g).natAbs=9218868437227405312:=by
    by_cases h:rq 52 v.natAbs g < 9218868437227405312
    · exact Or.inl h
    · refine Or.inr ?_
      unfold KR
      rw [Nat.min_eq_right (by omega)]
      cases decide (v < 0)
      · rw [cond_false,Int.natAbs_natCast]
      · rw [cond_true,Int.natAbs_neg,Int.natAbs_natCast]
  have hrz:rung z=rq 52 v.natAbs g:=by
    rcases hq with h | h
    · rw [← key_abs,hz,KR_big h]
    · rw [← key_abs,hz,h] at hlt; omega
  obtain ⟨h1,h2⟩:=rq_err hg hb hv
  rw [← hrz,← val_abs] at h1 h2
  have hpos:0≤v→0≤val z:=fun h=>by
    have:=(KR_sign (v:=v) (g:=g)).1 h
    rw [← hz] at this
    have hn:¬ val z < 0:=fun hc=>by have:=val_negative.1 hc; omega
    omega
  have hneg:v≤0→val z≤0:=fun h=>by
    have:=(KR_sign (v:=v) (g:=g)).2 h hg
    rw [← hz] at this
    have hn:¬ 0 < val z:=fun hc=>by have:=val_pos.1 hc; omega
    omega
  generalize 2 ^ (b - 53)*g=W at *
  rcases Int.le_total 0 v with h | h
  · have h3:=hpos h
    have e:(((val z).natAbs*g:Nat):Int)=val z*(g:Int):=by rw [Int.natCast_mul,show (((val z).natAbs:Nat):Int)=val z by omega]
    generalize (val z).natAbs*g=Q at *
    omega
  · have h3:=hneg h
    have e:(((val z).natAbs*g:Nat):Int)=-(val z*(g:Int)):=by rw [Int.natCast_mul,show (((val z).natAbs:Nat):Int)=-val z by omega,Int.neg_mul]
    generalize (val z).natAbs*g=Q at *
    omega
end Go.Ev

namespace Go.Ev
open Ieee
open Go.Proofs.YtefphimaggjihaaGreatDoor.Hs (mth)
open Go.Proofs.YtefphimaggjihaaGreatDoor.Pi (rndR)

theorem mul_lt {x y:Nat} (hx:isFin x=true) (hy:isFin y=true):fmul x y < 18446744073709551616:=by
  obtain ⟨m,i,hrx,hi,_,hvx⟩:=read_fin hx
  obtain ⟨n,j,hry,hj,_,hvy⟩:=read_fin hy
  unfold fmul Format.mul
  rw [hrx,hry]
  simp only [Datum.product,Option.map_some,Option.getD_some,Format.write]
  rw [nearest_rq _ _ ((i+1074).toNat+(j+1074).toNat) 1074 _ (by omega),infR]
  have hr:=Nat.min_le_right (rq 52 (m*n*2 ^ ((i+1074).toNat+(j+1074).toNat)) (2 ^ 1074)) 9218868437227405312
  generalize min (rq 52 (m*n*2 ^ ((i+1074).toNat+(j+1074).toNat)) (2 ^ 1074)) 9218868437227405312=r at hr ⊢
  unfold Format.word
  rw [signW]
  by_cases hs:sgn x=sgn y
  · simp [hs]; omega
  · simp [hs]; omega
section
variable {c:Nat}
theorem pw_split (hc:c=1074):2 ^ c=8796093022208*2 ^ (c - 43)∧2 ^ (c+10 - 53)=2 ^ (c - 43)∧2 ^ (c+10)=9007199254740992*2 ^ (c - 43)∧2 ^ (c+21)=18446744073709551616*2 ^ (c - 43)∧2 ^ (c+21 - 53)=2048*2 ^ (c - 43)∧2 ^ (c - 1)=4398046511104*2 ^ (c - 43):=by
  have f:∀ a b:Nat,a=b+(c - 43)→2 ^ a=2 ^ b*2 ^ (c - 43):=fun a b h=>by rw [h,Nat.pow_add]
  refine ⟨f c 43 (by omega),by rw [show c+10 - 53=c - 43 by omega],f (c+10) 53 (by omega),f (c+21) 64 (by omega),f (c+21 - 53) 11 (by omega),f (c - 1) 42 (by omega)⟩
theorem kr3 (v:Int) {P:Nat} (hP:0 < P):KR (v*((1000*P:Nat):Int)) P=KR (v*1000) 1:=by
  have:=KR_mul (v*1000) 1 hP
  rw [Nat.one_mul] at this
  rw [← this,Int.natCast_mul,← Int.mul_assoc]
  rfl
/-- A thousandth, times a thousand. -/
def yOf (n:Int):Nat:=fmul (mth n) 4652007308841189376
theorem mth_key (hc:c=1074) {n:Int} (h:n.natAbs≤1000000):key (mth n)=KR (n*((2 ^ c:Nat):Int)) 1000∧isFin (mth n)=true:=by
  have hp:=Nat.two_pow_pos c
  have hw:=(mth_whole hc n)
  have hW:Wh c (cn (FloatKind.f64.nearest n)) n:=wh_of hc hw.1 (by omega)
  have ev:val 4652007308841189376=((1000*2 ^ c:Nat):Int):=by subst hc; decide +kernel
  have hk:=(key_div hc hW.fin (show isFin 4652007308841189376=true by decide +kernel) (by rw [ev]; omega)).1
  refine ⟨?_,(Go.Proofs.YtefphimaggjihaaGreatDoor.Hs.So.mth_vb hc (j:=12) (by omega) (show n.natAbs≤2 ^ 21 by omega)).1⟩
  have es:sg ((1000*2 ^ c:Nat):Int)=1:=by unfold sg; rw [decide_eq_false (by omega)]; rfl
  rw [hW.val,ev,es,Int.mul_one,Int.natAbs_natCast,KR_mul _ _ hp] at hk
  exact hk
theorem y_near (hc:c=1074) {n:Int} (h:n.natAbs≤1000000):isFin (yOf n)=true∧(val (yOf n) - n*((2 ^ c:Nat):Int)).natAbs≤8192*2 ^ (c - 43):=by
  obtain ⟨hk,hf⟩:=mth_key hc h
  obtain ⟨p0,p1,p2,p3,p4,_⟩:=pw_split hc
  have hq:=Nat.two_pow_pos (c - 43)
  have e1:=round_err hk hf (by decide) (b:=c+10) (by omega) (by
    rw [Int.natAbs_mul,Int.natAbs_natCast,p0,p2]
    generalize 2 ^ (c - 43)=Q at hq ⊢
    calc n.natAbs*(8796093022208*Q)≤1000000*(8796093022208*Q):=Nat.mul_le_mul_right _ h
      _≤9007199254740992*Q*1000:=by omega)
  rw [p1,p0] at e1
  have ev:val 4652007308841189376=((1000*2 ^ c:Nat):Int):=by subst hc; decide +kernel
  have hfK:isFin 4652007308841189376=true:=by decide +kernel
  have hk2:=(key_mul hc hf hfK).1
  have hp:=Nat.two_pow_pos c
  have hk3:key (yOf n)=KR (val (mth n)*1000) 1:=by
    unfold yOf
    rw [hk2,ev]
    exact kr3 _ hp
  have hv:(val (mth n)*1000).natAbs≤2 ^ (c+21)*1:=by
    have hn:(n*((8796093022208*2 ^ (c - 43):Nat):Int)).natAbs≤1000000*(8796093022208*2 ^ (c - 43)):=by rw [Int.natAbs_mul,Int.natAbs_natCast]; exact Nat.mul_le_mul_right _ h
    rw [p3]
    generalize n*((8796093022208*2 ^ (c - 43):Nat):Int)=z at *
    generalize 2 ^ (c - 43)=Q at *
    omega
  have hF:isFin (yOf n)=true:=by
    have hb:Bd (c+21) (yOf n):=bd_of hk3 (by decide) hv (by omega)
    exact hb.fin (by omega)
  have e2:=round_err hk3 hF (by decide) (b:=c+21) (by omega) hv
  rw [p4] at e2
  refine ⟨hF,?_⟩
  rw [p0]
  generalize n*((8796093022208*2 ^ (c - 43):Nat):Int)=z at *
  generalize 2 ^ (c - 43)=Q at *
  omega
/-- The answer's way back. -/
theorem back_add (hc:c=1074) {n:Nat} (h:n≤1000000):Go.Gv.f2i .i64 (fadd (yOf n) 4602678819172646912)=(n:Int)∧isFin (fadd (yOf n) 4602678819172646912)=true:=by
  obtain ⟨hf,hy⟩:=y_near hc (n:=(n:Int)) (by simpa using h)
  obtain ⟨p0,p1,p2,p3,p4,p5⟩:=pw_split hc
  have hq:=Nat.two_pow_pos (c - 43)
  have ev:val 4602678819172646912=((2 ^ (c - 1):Nat):Int):=by subst hc; decide +kernel
  have hk:=(key_add hf (show isFin 4602678819172646912=true by decide +kernel)).1
  rw [ev,p5] at hk
  have hn:(n:Int)*((2 ^ c:Nat):Int)=((n*(8796093022208*2 ^ (c - 43)):Nat):Int):=by rw [p0,Int.natCast_mul n]
  have hn2:n*(8796093022208*2 ^ (c - 43))≤1000000*(8796093022208*2 ^ (c - 43)):=Nat.mul_le_mul_right _ h
  rw [hn] at hy
  have hv:(val (yOf n)+((4398046511104*2 ^ (c - 43):Nat):Int)).natAbs≤2 ^ (c+21)*1:=by
    rw [p3]
    generalize n*(8796093022208*2 ^ (c - 43))=z at *
    generalize 2 ^ (c - 43)=Q at *
    omega
  have hF:isFin (fadd (yOf n) 4602678819172646912)=true:=by
    have hb:Bd (c+21) (fadd (yOf n) 4602678819172646912):=bd_of hk (by decide) hv (by omega)
    exact hb.fin (by omega)
  have e2:=round_err hk hF (by decide) (b:=c+21) (by omega) hv
  rw [p4] at e2
  have hlo:n*(8796093022208*2 ^ (c - 43))≤(val (fadd (yOf n) 4602678819172646912)).natAbs∧(val (fadd (yOf n) 4602678819172646912)).natAbs < (n+1)*(8796093022208*2 ^ (c - 43))∧0≤val (fadd (yOf n) 4602678819172646912):=by
    rw [Nat.succ_mul n]
    generalize n*(8796093022208*2 ^ (c - 43))=z at *
    generalize 2 ^ (c - 43)=Q at *
    omega
  have hd:(val (fadd (yOf n) 4602678819172646912)).natAbs / 2 ^ c=n:=by
    rw [p0]
    exact Nat.div_eq_of_lt_le hlo.1 hlo.2.1
  rw [f2i_pos hc hF hlo.2.2 (by rw [hd]; omega),hd]
  exact ⟨rfl,hF⟩
end
end Go.Ev

namespace Go.Ev
open Ieee
open Go.Proofs.YtefphimaggjihaaGreatDoor.Hs (mth)
open Go.Proofs.YtefphimaggjihaaGreatDoor.Pi (rndR)

theorem rnd_core {E K A H m n t:Nat} (hKA:K*A=4503599627370496) (hH:A=2*H) (ht:t < H) (h1:n*A≤4503599627370496+m+t) (h2:4503599627370496+m≤n*A+t) (hA:0 < A):(E*4503599627370496+m+H) / A*A=E*4503599627370496+(n*A - 4503599627370496)∧4503599627370496≤n*A:=by
  have hn:K≤n:=by
    apply Nat.le_of_not_lt
    intro hc
    have h3:(n+1)*A≤K*A:=Nat.mul_le_mul_right _ hc
    rw [Nat.succ_mul n] at h3
    omega
  have hKn:K*A≤n*A:=Nat.mul_le_mul_right _ hn
  have hq:(E*K+(n - K))*A=E*4503599627370496+(n*A - 4503599627370496):=by rw [Nat.add_mul,Nat.mul_assoc,hKA,Nat.sub_mul,hKA]
  have hd:(E*4503599627370496+m+H) / A=E*K+(n - K):=by
    refine Nat.div_eq_of_lt_le ?_ ?_
    · rw [hq]; omega
    · rw [Nat.succ_mul (E*K+(n - K)),hq]; omega
  rw [hd,hq]
  exact ⟨rfl,by omega⟩
theorem rv_at {E g:Nat} (hE:1≤E) (hg:g≤4503599627370496):rv 52 (E*4503599627370496+g)=(4503599627370496+g)*2 ^ (E - 1):=by
  by_cases h:g=4503599627370496
  · subst h
    rw [show E*4503599627370496+4503599627370496=(E+1)*4503599627370496 by omega,rv_high (by omega),Nat.mul_mod_left,Nat.mul_div_cancel _ (by decide),show E+1 - 1=(E - 1)+1 by omega,Nat.pow_succ]
    generalize 2 ^ (E - 1)=D
    omega
  · rw [rv_high (by omega),show (E*4503599627370496+g) % 4503599627370496=g by omega,show (E*4503599627370496+g) / 4503599627370496=E by omega]
section
variable {c:Nat}
/-- The code's way back. -/
theorem back_rnd (hc:c=1074) {n:Nat} (h0:1≤n) (h:n≤1000000):yOf n < 9223372036854775808∧yOf n / 2 ^ 52 % 2048 < 1055∧isFin (rndR (yOf n))=true∧Go.Gv.f2i .i64 (rndR (yOf n))=(n:Int)∧rndR (yOf n) < 9223372036854775808:=by
  obtain ⟨hf,hy⟩:=y_near hc (n:=(n:Int)) (by simpa using h)
  obtain ⟨p0,_,_,_,_,_⟩:=pw_split hc
  have hq:=Nat.two_pow_pos (c - 43)
  have hlt:=mul_lt (mth_key hc (n:=(n:Int)) (by simpa using h)).2 (show isFin 4652007308841189376=true by decide +kernel)
  have hlt:yOf n < 18446744073709551616:=hlt
  have hn:(n:Int)*((2 ^ c:Nat):Int)=((n*2 ^ c:Nat):Int):=by rw [Int.natCast_mul n]
  have hnP:2 ^ c≤n*2 ^ c:=Nat.le_mul_of_pos_left _ h0
  have hnP2:n*2 ^ c≤1000000*2 ^ c:=Nat.mul_le_mul_right _ h
  rw [hn] at hy
  have hpos:0 < val (yOf n):=by
    rw [p0] at hnP hy
    generalize n*(8796093022208*2 ^ (c - 43))=z at *
    generalize 2 ^ (c - 43)=Q at *
    omega
  have hsg:sgn (yOf n)=false:=by
    cases hs:sgn (yOf n)
    · rfl
    · unfold val at hpos; rw [hs] at hpos; simp at hpos; omega
  have hw:yOf n < 9223372036854775808:=by
    unfold sgn at hsg
    have:yOf n / 9223372036854775808 % 2≠1:=by simpa using hsg
    omega
  have hr:rung (yOf n)=yOf n:=by unfold rung; omega
  have hval:val (yOf n)=((rv 52 (yOf n):Nat):Int):=by unfold val; rw [hsg,hr]; rfl
  rw [hval] at hy
  generalize yOf n=y at hf hy hlt hsg hw hr hval ⊢
  have hb1:n*2 ^ c≤rv 52 y+8192*2 ^ (c - 43):=by omega
  have hb2:rv 52 y≤n*2 ^ c+8192*2 ^ (c - 43):=by omega
  have hE0:1022*4503599627370496≤y:=by
    apply Nat.le_of_not_lt
    intro hc'
    have h1:=rv_lt 52 hc'
    have h2:rv 52 (1022*4503599627370496)=4398046511104*2 ^ (c - 43):=by subst hc; decide +kernel
    rw [p0] at hnP hb1
    generalize n*(8796093022208*2 ^ (c - 43))=z at *
    generalize 2 ^ (c - 43)=Q at *
    omega
  have hE1:y < 1044*4503599627370496:=by
    apply Nat.lt_of_not_le
    intro hc'
    have h1:=rv_le hc'
    have h2:rv 52 (1044*4503599627370496)=18446744073709551616*2 ^ (c - 43):=by subst hc; decide +kernel
    rw [p0] at hnP2 hb2
    generalize n*(8796093022208*2 ^ (c - 43))=z at *
    generalize 2 ^ (c - 43)=Q at *
    omega
  have e52:(2:Nat) ^ 52=4503599627370496:=by decide
  obtain ⟨E,m,hym,hm⟩:∃ E m,y=E*4503599627370496+m∧m < 4503599627370496:=⟨y / 4503599627370496,y % 4503599627370496,by omega,by omega⟩
  have hEd:y / 4503599627370496=E:=by omega
  have hEr:1022≤E∧E≤1043:=by omega
  have hEm:y / 2 ^ 52 % 2048=E:=by rw [e52,hEd]; omega
  refine ⟨hw,by rw [hEm]; omega,?_⟩
  by_cases hc1:E=1022
  · have hn1:n=1:=by
      have h1:y < 1023*4503599627370496:=by omega
      have h2:=rv_lt 52 h1
      have h3:rv 52 (1023*4503599627370496)=8796093022208*2 ^ (c - 43):=by subst hc; decide +kernel
      apply Nat.le_antisymm _ h0
      apply Nat.le_of_not_lt
      intro hc2
      have h4:2*2 ^ c≤n*2 ^ c:=Nat.mul_le_mul_right _ hc2
      rw [p0] at h4 hb1
      generalize n*(8796093022208*2 ^ (c - 43))=z at *
      generalize 2 ^ (c - 43)=Q at *
      omega
    have hR:rndR y=4607182418800017408:=by
      unfold rndR
      rw [hEm,hc1,if_pos (by omega),if_pos rfl,show y / 9223372036854775808=0 by omega]
    rw [hR,hn1]
    decide +kernel
  · obtain ⟨k,hk,hk2⟩:∃ k,E=1023+k∧k≤20:=⟨E - 1023,by omega,by omega⟩
    have hA:2 ^ (1075 - E)=2*2 ^ (51 - k):=by rw [show 1075 - E=(51 - k)+1 by omega,Nat.pow_succ,Nat.mul_comm]
    have hAk:2 ^ k*2 ^ (1075 - E)=4503599627370496:=by rw [← Nat.pow_add,show k+(1075 - E)=52 by omega]
    have hPD:2 ^ c=2 ^ (1075 - E)*2 ^ (E - 1):=by rw [← Nat.pow_add,show 1075 - E+(E - 1)=c by omega]
    have hQD:8192*2 ^ (c - 43)=2 ^ (22 - k)*2 ^ (E - 1):=by rw [show (8192:Nat)=2 ^ 13 from rfl,← Nat.pow_add,← Nat.pow_add,show 13+(c - 43)=22 - k+(E - 1) by omega]
    have ht:2 ^ (22 - k) < 2 ^ (51 - k):=Nat.pow_lt_pow_right (by decide) (by omega)
    have hD:=Nat.two_pow_pos (E - 1)
    have hrv:rv 52 y=(4503599627370496+m)*2 ^ (E - 1):=by rw [hym]; exact rv_at (by omega) (by omega)
    rw [hrv,hPD,hQD,← Nat.mul_assoc,← Nat.add_mul] at hb1
    rw [hrv,hPD,hQD,← Nat.mul_assoc,← Nat.add_mul] at hb2
    have g1:=Nat.le_of_mul_le_mul_right hb1 hD
    have g2:=Nat.le_of_mul_le_mul_right hb2 hD
    obtain ⟨r1,r2⟩:=rnd_core (E:=E) hAk hA ht g1 g2 (Nat.two_pow_pos _)
    have hR:rndR y=E*4503599627370496+(n*2 ^ (1075 - E) - 4503599627370496):=by
      unfold rndR
      rw [hEm,if_neg (by omega),show 1074 - E=51 - k by omega,hym]
      exact r1
    have hsm:2 ^ (22 - k)≤4194304:=Nat.pow_le_pow_right (n:=2) (by decide) (show 22 - k≤22 by omega)
    have hn52:n*2 ^ (1075 - E) - 4503599627370496≤4503599627370496:=by
      obtain ⟨j,hj⟩:∃ j,n*2 ^ (1075 - E)≤(2 ^ k*2+j)*2 ^ (1075 - E)∧j=0:=by
        refine ⟨0,?_,rfl⟩
        refine Nat.mul_le_mul_right _ ?_
        apply Nat.le_of_not_lt
        intro hc3
        have h5:(2 ^ k*2+1)*2 ^ (1075 - E)≤n*2 ^ (1075 - E):=Nat.mul_le_mul_right _ (by omega)
        rw [Nat.add_mul,Nat.mul_right_comm,hAk,Nat.one_mul,hA] at h5
        rw [hA] at g1
        omega
      rw [hj.2,Nat.add_zero,Nat.mul_right_comm,hAk] at hj
      omega
    have hRv:rv 52 (rndR y)=n*2 ^ c:=by
      have e3:4503599627370496+(n*2 ^ (1075 - E) - 4503599627370496)=n*2 ^ (1075 - E):=by omega
      rw [hR,rv_at (by omega) hn52,hPD,← Nat.mul_assoc,e3]
    have hRlt:rndR y < 9223372036854775808:=by rw [hR]; omega
    have hRr:rung (rndR y)=rndR y:=by unfold rung; omega
    have hRs:sgn (rndR y)=false:=by
      unfold sgn
      rw [show rndR y / 9223372036854775808=0 by omega]
      rfl
    have hRf:isFin (rndR y)=true:=by
      unfold isFin
      rw [hRr,hR]
      exact Nat.ble_eq_true_of_le (by omega)
    have hRval:val (rndR y)=((n*2 ^ c:Nat):Int):=by unfold val; rw [hRs,hRr,hRv]; rfl
    have hdv:(val (rndR y)).natAbs / 2 ^ c=n:=by rw [hRval,Int.natAbs_natCast,Nat.mul_div_cancel _ (Nat.two_pow_pos c)]
    refine ⟨hRf,?_,hRlt⟩
    rw [f2i_pos hc hRf (by rw [hRval]; omega) (by rw [hdv]; omega),hdv]
end
end Go.Ev

namespace Go.Proofs.YtefphimaggjihaaGreatDoor.Pi
open Go.Shelf Go.RowKit Go.Gv
open Go.Ev (cn fadd fsub fmul fdiv fneg feq flt fle fgt fge isNan key val isFin)
open Hs (mth k1000)
def gRd (rf:Nat→Nat):List AV→AV
  | [.f w]=>.f (rf w)
  | _=>.any
def gBy (bf:Int→Bool):List AV→AV
  | [.x (.int _ n)]=>bA (bf n)
  | _=>.any
section
variable (x:Nat) (rf:Nat→Nat) (bf:Int→Bool) (n:Int) (it:Int→List UInt8) (s t:ByteArray)
def yX (x:Nat):Nat:=fmul x 4652007308841189376
def nX:Int:=f2i .i64 (rf (yX x))
theorem by_ev:ev Tryz.prog [] [] noL Tryz.f172 [iA n] ret=some (Out.of (bA (cond (decide (n < -1000000)) true (decide (n > 1000000))))):=by kernel_rfl
theorem th_ev:ev Tryz.prog [] [kS Tryz.prog 171 (gRd rf),kS Tryz.prog 172 (gBy bf)] noL Tryz.f153 [.f x] ret =
  gate (FSpec Tryz.prog 171 [.f (yX x)] (.f (rf (yX x)))) (cond (fitI .i64 (rf (yX x))||false) (gate (FSpec Tryz.prog 172 [iA (nX x rf)] (bA (bf (nX x rf))))
    (cond (cond (bf (nX x rf)) true (!(feq (mth (nX x rf)) x))) (some (Out.of (.tup [iA 0,bA false]))) (some (Out.of (.tup [iA (nX x rf),bA true]))))) none):=by kernel_rfl
theorem nm_ev (k:Int):ev Tryz.prog [] [kIt] noL Tryz.f130 [iA k] ret=gate (FIt k) (cond (catF ⟨#[115]⟩ (lB (Lib.itoa k))||false) (some (Out.of (zA (⟨#[115]⟩ ++ lB (Lib.itoa k))))) none):=by kernel_rfl
end
section
variable (n:Int) (tf:ByteArray→ByteArray)
def gTr (tf:ByteArray→ByteArray):List AV→AV
  | [.x (.string s),_]=>zA (tf s)
  | _=>.any
def dtS:ByteArray:=⟨#[46]⟩
def dQ (a:Int):ByteArray:=lB (Lib.itoa (w64 (a.tdiv 1000)))
def dR (a:Int):ByteArray:=lB (Lib.itoa (w64 (1000+a.tmod 1000)))
noncomputable def dSl (a:Int):ByteArray:=(dR a).extract 1 (dR a).size
noncomputable def dmR (sg:ByteArray) (a:Int):Option Out:=gate (FIt (w64 (a.tdiv 1000))) (cond (catF sg (dQ a)||false) (cond (a.tmod 1000==0) (some (Out.of (zA (sg ++ dQ a))))
  (gate (FIt (w64 (1000+a.tmod 1000))) (cond (sbB (some 1) none none (dR a).size||false) (cond (catF (sg ++ dQ a) dtS||false) (gate (FSpec Tryz.prog 156 [zA (dSl a),zA ⟨#[48]⟩] (zA (tf (dSl a)))) (cond (catF ((sg ++ dQ a) ++ dtS) (tf (dSl a))||false) (some (Out.of (zA (((sg ++ dQ a) ++ dtS) ++ tf (dSl a))))) none)) none) none))) none)
theorem dm_ev:ev Tryz.prog [] [kIt,kS Tryz.prog 156 (gTr tf)] noL Tryz.f131 [iA n] ret=cond (decide (n < 0)) (dmR tf ⟨#[45]⟩ (w64 (0 - n))) (dmR tf ⟨#[]⟩ n):=by kernel_rfl
end
theorem it_spec {n:Int} (h0:-9223372036854775808≤n) (h1:n≤9223372036854775807):FIt n:=itoa_spec h0 h1
theorem it_few {n:Int} (h0:0≤n) (h1:n < 100000000):Lib.itoa n≠[]∧(Lib.itoa n).length≤8:=by
  obtain ⟨k,rfl⟩:=Int.eq_ofNat_of_zero_le h0
  unfold Lib.itoa
  rw [if_neg (by omega),Int.toNat_natCast]
  have key:∀ (d k:Nat),k < 10 ^ (d+1)→Lib.decDigits k≠[]∧(Lib.decDigits k).length≤d+1:=fun d=>by
    induction d with
    | zero=>intro k hk; rw [Lib.decDigits_one (by omega)]; simp
    | succ d ih =>
      intro k hk
      by_cases h:k < 10
      · rw [Lib.decDigits_one h]; simp
      · rw [Lib.decDigits,dif_neg h]
        have:=ih (k / 10) (by rw [Nat.pow_succ] at hk; omega)
        simp only [ne_eq,List.append_eq_nil_iff,List.length_append]
        exact ⟨fun hc=>this.1 hc.1,by simp; omega⟩
  exact key 7 k (by omega)
theorem cat_t {a b:ByteArray} (h:a.size+b.size≤1000000000):catF a b=true:=by
  rw [catF_eq]
  exact decide_eq_true (by show ((a.size+b.size:Nat):Int)≤9223372036854775807; omega)
theorem lB_app (a b:List UInt8):lB a ++ lB b=lB (a ++ b):=by
  apply ByteArray.ext
  simp [lB]
theorem nm_spec {k:Int} (h0:0≤k) (h1:k < 100000000):FNm nmT k:=by
  have hi:=it_few h0 h1
  refine gspec e_nil (k_cons kS_ok k_nil) Tryz.func130 (by kernel_rfl) (by kernel_rfl) noL_ok rfl ((nm_ev k).trans ?_)
  have e:(⟨#[115]⟩:ByteArray)=lB [115]:=rfl
  rw [gate_pos (it_spec (by omega) (by omega)),e,cat_t (by rw [size_lB,size_lB]; simp; omega),lB_app]
  rfl
/-- A number of thousandths in decimal. -/
def dcA (a:Nat):List UInt8:=Lib.itoa ((a / 1000:Nat):Int) ++ (if a % 1000=0 then [] else 46::Lib.trimRightB ((Lib.itoa ((1000+a % 1000:Nat):Int)).drop 1) 48)
def dcT (n:Int):List UInt8:=(if n < 0 then [45] else []) ++ dcA n.natAbs
theorem trim_len (l:List UInt8) (b:UInt8):(Lib.trimRightB l b).length≤l.length:=by
  unfold Lib.trimRightB
  rw [List.length_reverse]
  exact Nat.le_trans (List.dropWhile_sublist _).length_le (by rw [List.length_reverse]; exact Nat.le_refl _)
def trF (s:ByteArray):ByteArray:=lB (Lib.trimRightB (bL s) 48)
theorem trF_lB (l:List UInt8):trF (lB l)=lB (Lib.trimRightB l 48):=by unfold trF; rw [bL_lB]
theorem dmR_spec {sg:List UInt8} {a:Nat} (hs:sg.length≤1) (ha:a≤10000000):dmR trF (lB sg) (a:Nat)=some (Out.of (zA (lB (sg ++ dcA a)))):=by
  have e1:w64 (((a:Nat):Int).tdiv 1000)=((a / 1000:Nat):Int):=by rw [Int.tdiv_eq_ediv_of_nonneg (by omega),w64_id (by omega) (by omega)]; omega
  have e2:((a:Nat):Int).tmod 1000=((a % 1000:Nat):Int):=by rw [Int.tmod_eq_emod_of_nonneg (by omega)]; omega
  have e3:w64 (1000+((a % 1000:Nat):Int))=((1000+a % 1000:Nat):Int):=by rw [w64_id (by omega) (by omega)]; omega
  have i1:=it_few (n:=((a / 1000:Nat):Int)) (by omega) (by omega)
  have i2:=it_few (n:=((1000+a % 1000:Nat):Int)) (by omega) (by omega)
  have l1:(lB sg ++ lB (Lib.itoa ((a / 1000:Nat):Int))).size≤20:=by rw [lB_app,size_lB,List.length_append]; omega
  unfold dmR dSl dQ dR
  rw [e1,e2,e3,gate_pos (it_spec (by omega) (by omega)),cat_t (by rw [size_lB,size_lB]; omega)]
  unfold dcA
  by_cases h0:a % 1000=0
  · rw [h0,if_pos rfl,List.append_nil,lB_app]
    rfl
  · have hx:(lB (Lib.itoa ((1000+a % 1000:Nat):Int))).extract 1 (lB (Lib.itoa ((1000+a % 1000:Nat):Int))).size=lB ((Lib.itoa ((1000+a % 1000:Nat):Int)).drop 1):=by
      apply bL_inj
      rw [bL_extract,bL_lB,bL_lB,size_lB,List.take_length]
    have hsb:sbB (some 1) none none (lB (Lib.itoa ((1000+a % 1000:Nat):Int))).size=true:=by
      unfold sbB
      have:1≤(Lib.itoa ((1000+a % 1000:Nat):Int)).length:=List.length_pos_iff.2 i2.1
      rw [size_lB]
      generalize (Lib.itoa ((1000+a % 1000:Nat):Int)).length=z at this ⊢
      show (decide ((0:Int)≤1)&&(decide ((1:Int)≤((z:Nat):Int))&&(decide (((z:Nat):Int)≤((z:Nat):Int))&&decide (((z:Nat):Int)≤((z:Nat):Int)))))=true
      rw [decide_eq_true (show (1:Int)≤((z:Nat):Int) by omega)]
      simp
    have ht:=trim_len ((Lib.itoa ((1000+a % 1000:Nat):Int)).drop 1) 48
    have hd:((Lib.itoa ((1000+a % 1000:Nat):Int)).drop 1).length≤8:=by rw [List.length_drop]; omega
    have hT:FSpec Tryz.prog 156 [zA (lB ((Lib.itoa ((1000+a % 1000:Nat):Int)).drop 1)),zA ⟨#[48]⟩] (zA (trF (lB ((Lib.itoa ((1000+a % 1000:Nat):Int)).drop 1)))):=trimR_spec (lB ((Lib.itoa ((1000+a % 1000:Nat):Int)).drop 1)) (by rw [size_lB]; omega)
    have edt:dtS=lB [46]:=rfl
    rw [beq_false_of_ne (by omega),gate_pos (it_spec (by omega) (by omega)),hsb,hx,gate_pos hT,if_neg h0,edt,cat_t (by have:(lB [46]).size=1:=rfl; omega),lB_app,lB_app,trF_lB,cat_t (by rw [size_lB,size_lB,List.length_append,List.length_append]; have:([46]:List UInt8).length=1:=rfl; omega),lB_app]
    simp
theorem dc_spec {n:Int} (h:n.natAbs≤10000000):FDc dcT n:=by
  refine gspec e_nil (k_cons kS_ok (k_cons kS_ok k_nil)) Tryz.func131 (by kernel_rfl) (by kernel_rfl) noL_ok rfl ((dm_ev n trF).trans ?_)
  unfold dcT
  by_cases h0:n < 0
  · have e:w64 (0 - n)=((n.natAbs:Nat):Int):=by rw [w64_id (by omega) (by omega)]; omega
    have es:(⟨#[45]⟩:ByteArray)=lB [45]:=rfl
    rw [decide_eq_true h0,if_pos h0,e,es,cond_true]
    exact dmR_spec (by simp) h
  · have e:n=((n.natAbs:Nat):Int):=by omega
    have es:(⟨#[]⟩:ByteArray)=lB []:=rfl
    rw [decide_eq_false h0,if_neg h0,es,cond_false]
    conv=>lhs; rw [e]
    exact dmR_spec (by simp) h
theorem dc_ne (n:Int) (h:n.natAbs≤10000000):dcT n≠[]∧(dcT n).length≤20:=by
  have i1:=it_few (n:=((n.natAbs / 1000:Nat):Int)) (by omega) (by omega)
  have i2:=it_few (n:=((1000+n.natAbs % 1000:Nat):Int)) (by omega) (by omega)
  have ht:=trim_len ((Lib.itoa ((1000+n.natAbs % 1000:Nat):Int)).drop 1) 48
  rw [List.length_drop] at ht
  unfold dcT dcA
  constructor
  · intro hc
    simp only [List.append_eq_nil_iff] at hc
    exact i1.1 hc.2.1
  · have h1:(if n < 0 then ([45]:List UInt8) else []).length≤1:=by split<;>simp
    have h2:(if n.natAbs % 1000=0 then ([]:List UInt8) else 46::Lib.trimRightB ((Lib.itoa ((1000+n.natAbs % 1000:Nat):Int)).drop 1) 48).length≤9:=by
      split
      · simp
      · rw [List.length_cons]; omega
    rw [List.length_append,List.length_append]
    omega
end Go.Proofs.YtefphimaggjihaaGreatDoor.Pi

namespace Go.Ev
open Ieee
open Go.Proofs.YtefphimaggjihaaGreatDoor.Hs (mth)
open Go.Proofs.YtefphimaggjihaaGreatDoor.Pi (rndR)

theorem rnd_neg {w:Nat} (hw:w < 9223372036854775808) (hE:w / 2 ^ 52 % 2048 < 1075):rndR (9223372036854775808+w)=9223372036854775808+rndR w:=by
  have e52:(2:Nat) ^ 52=4503599627370496:=by decide
  have e1:(9223372036854775808+w) / 2 ^ 52 % 2048=w / 2 ^ 52 % 2048:=by rw [e52]; omega
  unfold rndR
  rw [e1,show (9223372036854775808+w) / 9223372036854775808=1 by omega,show w / 9223372036854775808=0 by omega]
  by_cases h1:w / 2 ^ 52 % 2048 < 1023
  · rw [if_pos h1,if_pos h1]
    split<;>omega
  · rw [if_neg h1,if_neg h1]
    generalize w / 2 ^ 52 % 2048=E at *
    have hB:9223372036854775808=2 ^ (1075 - E)*2 ^ (E - 1012):=by rw [← Nat.pow_add,show 1075 - E+(E - 1012)=63 by omega]
    have hA:=Nat.two_pow_pos (1075 - E)
    rw [Nat.add_assoc]
    conv=>lhs; rw [hB]
    rw [Nat.mul_add_div hA,Nat.add_mul,Nat.mul_comm (2 ^ (E - 1012)),← hB]
theorem rnd_rung {w:Nat} (hw:w < 18446744073709551616) (hr:rung w≤1053*4503599627370496):rung (rndR w)≤1054*4503599627370496∧rndR w < 18446744073709551616:=by
  have e52:(2:Nat) ^ 52=4503599627370496:=by decide
  have base:∀ {v:Nat},v < 9223372036854775808→v≤1053*4503599627370496→rndR v≤1054*4503599627370496:=fun {v} hv hv2=>by
    unfold rndR
    rw [show v / 9223372036854775808=0 by omega]
    have hE:v / 2 ^ 52 % 2048≤1053:=by rw [e52]; omega
    by_cases h1:v / 2 ^ 52 % 2048 < 1023
    · rw [if_pos h1]
      clear e52
      generalize (v / 2 ^ 52 % 2048:Nat)=E at *
      rw [Nat.zero_mul,Nat.zero_add]
      have hu:∀ {p:Prop} [Decidable p],(if p then 4607182418800017408 else 0)≤4607182418800017408:=fun {p} _=>by
        by_cases hp:p
        · exact Nat.le_of_eq (if_pos hp)
        · exact Nat.le_trans (Nat.le_of_eq (if_neg hp)) (Nat.zero_le _)
      exact Nat.le_trans hu (by decide)
    · rw [if_neg h1]
      have h3:=Nat.div_mul_le_self (v+2 ^ (1074 - v / 2 ^ 52 % 2048)) (2 ^ (1075 - v / 2 ^ 52 % 2048))
      have h4:2 ^ (1074 - v / 2 ^ 52 % 2048)≤2 ^ 51:=Nat.pow_le_pow_right (by decide) (by omega)
      have e51:(2:Nat) ^ 51=2251799813685248:=by decide
      omega
  unfold rung at hr
  by_cases h:w < 9223372036854775808
  · have:=base h (by omega)
    unfold rung
    omega
  · obtain ⟨v,rfl⟩:∃ v,w=9223372036854775808+v:=⟨w - 9223372036854775808,by omega⟩
    have hv:v < 9223372036854775808:=by omega
    have:=base hv (by omega)
    rw [rnd_neg hv (by rw [e52]; omega)]
    unfold rung
    omega
section
variable {c:Nat}
/-- What of a float that is near can be said. -/
structure NearF (x:Nat):Prop where
  fin:isFin x=true
  le:(val x).natAbs≤1000000*2 ^ 1074
theorem y_fin (hc:c=1074) {x:Nat} (h:NearF x):isFin (fmul x 4652007308841189376)=true∧rung (fmul x 4652007308841189376)≤1053*4503599627370496∧fmul x 4652007308841189376 < 18446744073709551616∧key (fmul x 4652007308841189376)=KR (val x*1000) 1:=by
  have hfK:isFin 4652007308841189376=true:=by decide +kernel
  have ev:val 4652007308841189376=((1000*2 ^ c:Nat):Int):=by subst hc; decide +kernel
  have hp:=Nat.two_pow_pos c
  have hk:key (fmul x 4652007308841189376)=KR (val x*1000) 1:=by rw [(key_mul hc h.fin hfK).1,ev]; exact kr3 _ hp
  have hle:(val x).natAbs≤1000000*2 ^ c:=by rw [hc]; exact h.le
  have e30:2 ^ (c+30)=1073741824*2 ^ c:=by rw [Nat.pow_add,Nat.mul_comm]
  have hv:(val x*1000).natAbs≤2 ^ (c+30)*1:=by
    rw [e30]
    generalize 2 ^ c=P at *
    omega
  have hb:Bd (c+30) (fmul x 4652007308841189376):=bd_of hk (by decide) hv (by omega)
  refine ⟨hb.fin (by omega),?_,mul_lt h.fin hfK,hk⟩
  have h2:=hb.val (by omega)
  rw [val_abs] at h2
  have h3:rv 52 (1053*4503599627370496)=1073741824*2 ^ c:=by subst hc; decide +kernel
  apply Nat.le_of_not_lt
  intro hc2
  have:=rv_lt 52 hc2
  rw [h3,← e30] at this
  omega
theorem word_of {x y:Nat} (hx:x < 18446744073709551616) (hy:y < 18446744073709551616) (h:key x=key y) (h0:key x≠0):x=y:=by
  have h1:rung x=rung y:=by rw [← key_abs,← key_abs,h]
  have hs:sgn x=sgn y:=by
    unfold key at h h0
    cases a:sgn x<;>cases b:sgn y
    · rfl
    · rw [a,b] at h; rw [a] at h0; simp only [cond_true,cond_false] at h h0; omega
    · rw [a,b] at h; rw [a] at h0; simp only [cond_true,cond_false] at h h0; omega
    · rfl
  unfold rung at h1
  unfold sgn at hs
  have:x / 9223372036854775808 % 2=1 ↔ y / 9223372036854775808 % 2=1:=by
    constructor
    · intro hh; rw [hh] at hs; simpa using hs.symm
    · intro hh; rw [hh] at hs; simpa using hs
  omega
theorem val_key {x y:Nat} (h:key x=key y):val x=val y:=Int.le_antisymm (val_le.2 (by omega)) (val_le.2 (by omega))
theorem key_zero {x:Nat} (h:key x=0):val x=0:=by
  have h0:key 0=0:=by decide +kernel
  have:=val_key (h.trans h0.symm)
  rw [this]
  decide +kernel
theorem val_nk {x y:Nat} (h:key x=- key y):val x=- val y:=by
  have h1:rung x=rung y:=by rw [← key_abs,← key_abs,h,Int.natAbs_neg]
  have h2:(val x).natAbs=(val y).natAbs:=by rw [val_abs,val_abs,h1]
  have a1:=@val_pos x
  have a2:=@val_pos y
  have a3:=@val_negative x
  have a4:=@val_negative y
  omega
theorem key_hi {y:Nat} (h:y < 9223372036854775808):key (9223372036854775808+y)=- key y:=by
  have hrg:rung (9223372036854775808+y)=rung y:=by unfold rung; omega
  have hs1:sgn y=false:=by unfold sgn; rw [Nat.div_eq_of_lt h]; rfl
  have hs2:sgn (9223372036854775808+y)=true:=by unfold sgn; rw [show (9223372036854775808+y) / 9223372036854775808=1 by omega]; rfl
  unfold key
  rw [hs1,hs2,hrg]
  rfl
/-- What is found of a thousandth is its number. -/
theorem tell (hc:c=1074) {x:Nat} (h:NearF x) {n:Int} (hn:n.natAbs≤1000000) (hk:key (mth n)=key x):Go.Gv.f2i .i64 (rndR (fmul x 4652007308841189376))=n:=by
  obtain ⟨hyf,hyr,hyl,hyk⟩:=y_fin hc h
  obtain ⟨hmk,hmf⟩:=mth_key hc hn
  have hv:=val_key hk.symm
  have hm:NearF (mth n):=⟨hmf,by rw [← hv]; exact h.le⟩
  obtain ⟨hyf',hyr',hyl',hyk'⟩:=y_fin hc hm
  have hkk:key (fmul x 4652007308841189376)=key (yOf n):=by unfold yOf; rw [hyk,hyk',hv]
  by_cases h0:key (yOf n)=0
  · have z1:key (fmul x 4652007308841189376)=0:=hkk.trans h0
    have z2:rung (fmul x 4652007308841189376)=0:=by rw [← key_abs,z1]; rfl
    have hyn:=(y_near hc hn).2
    have hz:val (yOf n)=0:=key_zero h0
    have hn0:n=0:=by
      obtain ⟨p0,_,_,_,_,_⟩:=pw_split hc
      have hq:=Nat.two_pow_pos (c - 43)
      rw [hz,p0] at hyn
      apply Classical.byContradiction
      intro hne
      have h1:8796093022208*2 ^ (c - 43)≤(n*((8796093022208*2 ^ (c - 43):Nat):Int)).natAbs:=by
        rw [Int.natAbs_mul,Int.natAbs_natCast]
        exact Nat.le_mul_of_pos_left _ (by omega)
      generalize n*((8796093022208*2 ^ (c - 43):Nat):Int)=z at *
      generalize 2 ^ (c - 43)=Q at *
      omega
    have hw:fmul x 4652007308841189376=0∨fmul x 4652007308841189376=9223372036854775808:=by
      unfold rung at z2
      omega
    rw [hn0]
    rcases hw with hw | hw<;>rw [hw]<;>decide +kernel
  · have hyw:fmul x 4652007308841189376=yOf n:=word_of hyl hyl' hkk (by rw [hkk]; exact h0)
    rw [hyw]
    have hn0:n≠0:=by
      intro e
      apply h0
      subst e
      unfold yOf
      decide +kernel
    by_cases hp:0 < n
    · obtain ⟨k,rfl⟩:=Int.eq_ofNat_of_zero_le (show 0≤n by omega)
      exact (back_rnd hc (n:=k) (by omega) (by omega)).2.2.2.1
    · obtain ⟨k,hk'⟩:=Int.eq_ofNat_of_zero_le (show 0≤-n by omega)
      have hkn:n=-(k:Int):=by omega
      subst hkn
      obtain ⟨b1,b2,b3,b4,b5⟩:=back_rnd hc (n:=k) (by omega) (by omega)
      obtain ⟨mk2,mf2⟩:=mth_key hc (n:=(k:Int)) (by simp at hn; simpa using hn)
      have hneg:val (mth (-(k:Int)))=- val (mth k):=val_nk (by rw [hmk,mk2,Int.neg_mul,KR_neg _ (by decide)])
      have hm2:NearF (mth k):=⟨mf2,by have:=hm.le; rw [hneg,Int.natAbs_neg] at this; exact this⟩
      obtain ⟨q1,q2,q3,q4⟩:=y_fin hc hm2
      have hyy:yOf (-(k:Int))=9223372036854775808+yOf k:=by
        apply word_of hyl' (by omega) _ h0
        rw [key_hi b1]
        unfold yOf
        rw [hyk',q4,hneg,Int.neg_mul,KR_neg _ (by decide)]
      rw [hyy,rnd_neg b1 (by omega)]
      obtain ⟨r1,_⟩:=rnd_rung (show yOf k < 18446744073709551616 by omega) q2
      have hbig:(val (rndR (yOf k))).natAbs / 2 ^ c≤4611686018427387904:=by
        rw [val_abs]
        have h5:=rv_le r1
        have h6:rv 52 (1054*4503599627370496)=2147483648*2 ^ c:=by subst hc; decide +kernel
        have hp:=Nat.two_pow_pos c
        rw [h6] at h5
        exact Nat.div_le_of_le_mul (Nat.le_trans h5 (by rw [Nat.mul_comm]; exact Nat.mul_le_mul_left _ (by decide)))
      generalize rndR (yOf k)=r at *
      have hrg:rung (9223372036854775808+r)=rung r:=by unfold rung; omega
      have hfr:isFin (9223372036854775808+r)=true:=by
        unfold isFin at b3 ⊢
        rw [hrg]; exact b3
      have hs1:sgn r=false:=by unfold sgn; rw [Nat.div_eq_of_lt b5]; rfl
      have hs2:sgn (9223372036854775808+r)=true:=by unfold sgn; rw [show (9223372036854775808+r) / 9223372036854775808=1 by omega]; rfl
      rw [f2i_exact hc b3 hbig,hs1,cond_false] at b4
      rw [f2i_exact hc hfr (by rw [val_abs,hrg,← val_abs]; exact hbig),hs2,cond_true,val_abs,hrg,← val_abs,b4]
end
end Go.Ev

namespace Go.Proofs.YtefphimaggjihaaGreatDoor.Pi
open Go.Shelf Go.RowKit Go.Gv
open Go.Ev (cn fadd fsub fmul fdiv fneg feq flt fle fgt fge isNan key val isFin rung NearF yOf)
open Hs (mth k1000)
/-- Round, as the code does it. -/
def rfR (w:Nat):Nat:=cn (rndR w)
def bfR (n:Int):Bool:=cond (decide (n < -1000000)) true (decide (n > 1000000))
def nnX (x:Nat):Int:=nX x rfR
/-- Whether a float can be told in thousandths; and in how many. -/
def tbX (x:Nat):Bool:=!(cond (bfR (nnX x)) true (!(feq (mth (nnX x)) x)))
def tnX (x:Nat):Int:=cond (tbX x) (nnX x) 0
theorem by_spec (n:Int):FSpec Tryz.prog 172 [iA n] (bA (bfR n)) :=
  gspec e_nil k_nil Tryz.func172 (by kernel_rfl) (by kernel_rfl) noL_ok rfl (by_ev n)
theorem fitR {x:Nat} (h:NearF x):fitI .i64 (rfR (yX x))=true∧isNan (rndR (yX x))=false:=by
  obtain ⟨c,hc⟩:∃ c,c=1074:=⟨_,rfl⟩
  obtain ⟨q1,q2,q3,q4⟩:=Go.Ev.y_fin hc h
  obtain ⟨r1,r2⟩:=Go.Ev.rnd_rung q3 q2
  have hf:isFin (rndR (yX x))=true:=by
    unfold isFin
    exact Nat.ble_eq_true_of_le (Nat.lt_of_le_of_lt r1 (by decide))
  have hn:=Go.Ev.fin_not_nan hf
  have hbig:(val (rndR (yX x))).natAbs≤2 ^ (c+53):=by
    rw [Go.Ev.val_abs]
    have h5:=Go.Ev.rv_le r1
    have h6:Go.Ev.rv 52 (1054*4503599627370496)=2147483648*2 ^ c:=by subst hc; decide +kernel
    rw [h6] at h5
    rw [Nat.pow_add,Nat.mul_comm]
    exact Nat.le_trans h5 (Nat.mul_le_mul_right _ (by decide))
  refine ⟨?_,hn⟩
  unfold rfR
  rw [Go.Ev.cn_of_not hn]
  exact Go.Ev.fit_vb hc (j:=53) ⟨hf,by rw [Nat.one_mul]; exact hbig⟩ (by decide) (by decide)
theorem th_spec {x:Nat} (h:NearF x):FTh tnX tbX x:=by
  obtain ⟨c,hc⟩:∃ c,c=1074:=⟨_,rfl⟩
  obtain ⟨q1,q2,q3,q4⟩:=Go.Ev.y_fin hc h
  obtain ⟨f1,f2⟩:=fitR h
  have hE:yX x / 2 ^ 52 % 2048 < 1055:=by
    have e52:(2:Nat) ^ 52=4503599627370496:=by decide
    unfold rung at q2
    unfold yX
    rw [e52]
    omega
  refine gspec e_nil (k_cons kS_ok (k_cons kS_ok k_nil)) Tryz.func153 (by kernel_rfl) (by kernel_rfl) noL_ok rfl ((th_ev x rfR bfR).trans ?_)
  have hr:FSpec Tryz.prog 171 [.f (yX x)] (.f (rfR (yX x))):=round_spec q3 (Go.Ev.fin_not_nan q1) hE
  rw [gate_pos hr,f1,gate_pos (by_spec _)]
  show cond _ _ _=_
  unfold tnX tbX nnX
  cases cond (bfR (nX x rfR)) true (!(feq (mth (nX x rfR)) x))<;>rfl
/-- What can be told. -/
theorem tb_of {x:Nat} (h:NearF x) {n:Int} (hn:n.natAbs≤1000000) (he:feq (mth n) x=true):tbX x=true∧tnX x=n:=by
  obtain ⟨c,hc⟩:∃ c,c=1074:=⟨_,rfl⟩
  obtain ⟨_,_,hk⟩:=Go.Ev.feq_true he
  have ht:=Go.Ev.tell hc h hn hk
  have hx:nnX x=n:=by
    unfold nnX nX rfR
    rw [Go.Ev.cn_of_not (fitR h).2]
    exact ht
  have hb:bfR n=false:=by
    unfold bfR
    rw [decide_eq_false (by omega),cond_false,decide_eq_false (by omega)]
  have h1:tbX x=true:=by unfold tbX; rw [hx,hb,he]; rfl
  exact ⟨h1,by unfold tnX; rw [h1,cond_true,hx]⟩
theorem tb_has {x:Nat} (h:tbX x=true):(tnX x).natAbs≤1000000∧feq (mth (tnX x)) x=true:=by
  have e:tnX x=nnX x:=by unfold tnX; rw [h]; rfl
  rw [e]
  unfold tbX bfR at h
  by_cases h1:nnX x < -1000000
  · rw [decide_eq_true h1] at h; cases h
  · by_cases h2:nnX x > 1000000
    · rw [decide_eq_false h1,decide_eq_true h2] at h; cases h
    · rw [decide_eq_false h1,decide_eq_false h2] at h
      refine ⟨by omega,?_⟩
      cases hf:feq (mth (nnX x)) x
      · rw [hf] at h; cases h
      · rfl
theorem tn_few (x:Nat):(tnX x).natAbs≤1000000:=by
  cases h:tbX x
  · unfold tnX; rw [h,cond_false]; decide
  · exact (tb_has h).1
/-- A number that is near. -/
theorem nu_near {x:Nat} (h:NearF x):Nu dcT tnX tbX x:=⟨th_spec h,dc_spec (Nat.le_trans (tn_few x) (by decide)),(dc_ne _ (Nat.le_trans (tn_few x) (by decide))).1⟩
end Go.Proofs.YtefphimaggjihaaGreatDoor.Pi

namespace Go.Proofs.YtefphimaggjihaaGreatDoor.Pi
open Go.Shelf Go.RowKit Go.Gv
open Go.Ev (cn fadd fsub fmul fdiv fneg feq flt fle fgt fge isNan key val isFin NearF)
open Hs Hs.So Hs.Sc Hs.Fm
theorem near_of {x:Nat} (h:nearS x=true):NearF x:=by
  unfold nearS at h
  have e1:key 13920209183539462144=-4696837146684686336:=by decide +kernel
  have e2:key 4696837146684686336=4696837146684686336:=by decide +kernel
  cases h1:fge x 13920209183539462144
  · rw [h1] at h; cases h
  · rw [h1,cond_true] at h
    obtain ⟨n1,_,k1⟩:=Go.Ev.fge_true h1
    obtain ⟨_,_,k2⟩:=Go.Ev.fle_true h
    have hf:isFin x=true:=Go.Ev.fin_between n1 k1 k2 (by rw [e1]; decide) (by rw [e2]; decide)
    obtain ⟨c,hc⟩:∃ c,c=1074:=⟨_,rfl⟩
    have t1:val 4696837146684686336=((1000000*2 ^ c:Nat):Int):=by subst hc; decide +kernel
    have t2:val 13920209183539462144=-((1000000*2 ^ c:Nat):Int):=by subst hc; decide +kernel
    have a1:=Go.Ev.val_le.2 k1
    have a2:=Go.Ev.val_le.2 k2
    rw [t2] at a1
    rw [t1] at a2
    refine ⟨hf,?_⟩
    rw [← hc]
    generalize 1000000*2 ^ c=B at *
    omega
theorem nu_of {x:Nat} (h:nearS x=true):Nu dcT tnX tbX x:=nu_near (near_of h)
theorem fine_all {a b c:Nat} (h:fineS a b c=true):nearS a=true∧nearS b=true∧nearS c=true:=by
  unfold fineS at h
  revert h
  cases nearS a<;>cases nearS b<;>cases nearS c<;>intro h<;>first | exact ⟨rfl,rfl,rfl⟩ | (cases h; done)
theorem nv_of {a:Nat→Nat} {i:Nat} (h:fineS (a i) (a (i+1)) (a (i+2))=true):NV dcT tnX tbX a i:=by
  obtain ⟨h1,h2,h3⟩:=fine_all h
  exact ⟨nu_of h1,nu_of h2,nu_of h3⟩
theorem rc_all {a:Nat→Nat} (h:rcB a=false):fineS (a 0) (a 1) (a 2)=true∧fineS (a 3) (a 4) (a 5)=true∧fineS (a 6) (a 7) (a 8)=true∧nearS (a 9)=true∧nearS (a 10)=true:=by
  unfold rcB at h
  revert h
  cases fineS (a 0) (a 1) (a 2)<;>cases fineS (a 3) (a 4) (a 5)<;>cases fineS (a 6) (a 7) (a 8)<;>cases nearS (a 9)<;>cases nearS (a 10)<;>intro h<;>first | exact ⟨rfl,rfl,rfl,rfl,rfl⟩ | (cases h; done)
theorem sh_of {k:Int} {a:Nat→Nat} {sk:Int} (h:mayC (shC k a sk)=0):ShN dcT tnX tbX k a∧FNm nmT sk:=by
  obtain ⟨h1,h2,h3,h4⟩:=mayC_near h
  obtain ⟨r0,r3,r6,r9,r10⟩:=rc_all h1
  exact ⟨⟨h2,nv_of r0,fun _=>nv_of r3,fun _=>nv_of r6,fun _ _=>nu_of r9,fun _=>nu_of r10⟩,nm_spec h3 (by omega)⟩
theorem it_ok {n:Int} (h0:0≤n) (h1:n < 100000000):FIt n∧Lib.itoa n≠[]:=⟨it_spec (by omega) (by omega),(it_few h0 h1).1⟩
theorem c4 {b:Bool} {e x:Int} (he:e≠0) (h:cond b e x=0):b=false∧x=0:=by
  cases b
  · exact ⟨rfl,h⟩
  · exact absurd h he
theorem c0 {e x:Int} (h:cond (e==0) x e=0):e=0∧x=0:=by
  by_cases he:e=0
  · subst he; exact ⟨rfl,h⟩
  · rw [beq_false_of_ne he] at h; exact absurd h he
theorem cn0 {e x:Int} (h:cond (!(e==0)) e x=0):e=0∧x=0:=by
  by_cases he:e=0
  · subst he; exact ⟨rfl,h⟩
  · rw [beq_false_of_ne he] at h; exact absurd h he
theorem we0 {e sk:Int} {n:Nat} (h:weE e sk n=0):e=0:=(cn0 h).1
theorem or_no {a b:Bool} (h:cond a true b=false):a=false∧b=false:=by
  cases a
  · exact ⟨rfl,h⟩
  · cases h
theorem li_all {l:Nat→Int} (h:liB l=true):∀ q,q < 3→0≤l q∧l q≤65536:=by
  unfold liB at h
  have hb:∀ {x:Int} {b:Bool},cond (lbB x) false b=true→(0≤x∧x≤65536)∧b=true:=fun {x b} h=>by
    cases hx:lbB x
    · rw [hx] at h
      obtain ⟨h1,h2⟩:=or_no hx
      have h1:=of_decide_eq_false h1
      have h2:=of_decide_eq_false h2
      exact ⟨by omega,h⟩
    · rw [hx] at h; cases h
  obtain ⟨a0,h⟩:=hb h
  obtain ⟨a1,h⟩:=hb h
  obtain ⟨a2,_⟩:=hb h
  intro q hq
  match q,hq with
  | 0,_=>exact a0
  | 1,_=>exact a1
  | 2,_=>exact a2
theorem wh_of {l:Nat→Int} (h:∀ q,q < 3→0≤l q∧l q≤65536):Wh l:=⟨fun q hq=>it_ok (h q hq).1 (by have:=(h q hq).2; omega)⟩
theorem mc_all {s m g:Int} (h:(!mcB s m g)=false):(0≤s∧s≤1000)∧(0≤m∧m≤1000)∧0≤g∧g≤1000:=by
  unfold mcB at h
  have hb:∀ {x:Int} {b:Bool},(!cond (cbB x) false b)=false→(0≤x∧x≤1000)∧(!b)=false:=fun {x b} h=>by
    cases hx:cbB x
    · rw [hx] at h
      obtain ⟨h1,h2⟩:=or_no hx
      have h1:=of_decide_eq_false h1
      have h2:=of_decide_eq_false h2
      exact ⟨by omega,h⟩
    · rw [hx] at h; cases h
  obtain ⟨a0,h⟩:=hb h
  obtain ⟨a1,h⟩:=hb h
  obtain ⟨a2,_⟩:=hb h
  exact ⟨a0,a1,a2⟩
theorem sk_all {k:Nat→Int} (h:skE k=0):(∀ q,q < 9→0≤k q∧k q≤1000)∧100≤k 9∧k 9≤10000:=by
  unfold skE at h
  obtain ⟨h0,h⟩:=c4 (by decide) h
  obtain ⟨h1,h⟩:=c4 (by decide) h
  obtain ⟨h2,h⟩:=c4 (by decide) h
  obtain ⟨h3,_⟩:=c4 (by decide) h
  have m0:=mc_all h0
  have m1:=mc_all h1
  have m2:=mc_all h2
  obtain ⟨b1,b2⟩:=or_no h3
  have b1:=of_decide_eq_false b1
  have b2:=of_decide_eq_false b2
  refine ⟨fun q hq=>?_,by omega,by omega⟩
  match q,hq with
  | 0,_=>omega
  | 1,_=>omega
  | 2,_=>omega
  | 3,_=>omega
  | 4,_=>omega
  | 5,_=>omega
  | 6,_=>omega
  | 7,_=>omega
  | 8,_=>omega
theorem pm_of {n:Nat} {P:Nat→Prt} (h:∀ i,i < n→paE P i=0):PM n P∧∀ i,i < n→(P i).op=0→mayC (shC (P i).k (P i).a (P i).sk)=0:=by
  refine ⟨fun j hj=>?_,fun i hi h0=>?_⟩
  · have h1:=h j hj
    unfold paE ppE at h1
    by_cases h0:(P j).op=0
    · exact Or.inl h0
    · right
      rw [beq_false_of_ne h0,cond_false] at h1
      cases ho:opB (P j).op
      · rw [ho] at h1; exact absurd (show (11:Int)=0 from h1) (by decide)
      · rw [ho,cond_true] at h1
        obtain ⟨h2,_⟩:=c4 (by decide) h1
        unfold nmB at h2
        obtain ⟨h2,r2⟩:=or_no h2
        obtain ⟨h2,r1⟩:=or_no h2
        obtain ⟨l1,l2⟩:=or_no h2
        have r2:=of_decide_eq_false r2
        have r1:=of_decide_eq_false r1
        have l1:=of_decide_eq_false l1
        have l2:=of_decide_eq_false l2
        have:(P j).op=1∨(P j).op=2∨(P j).op=3:=by
          unfold opB at ho
          simpa using ho
        omega
  · have h1:=h i hi
    unfold paE ppE at h1
    rw [h0] at h1
    have h1:mlE (mayC (P i).s) (P i).k=0:=h1
    exact (cn0 h1).1
theorem so_of {n:Nat} {P:Nat→Prt} {sn:Int} (h:soE n P sn=0):((1≤n∧n≤16)∧PM n P∧∀ i,i < n→(P i).op=0→ShN dcT tnX tbX (P i).k (P i).a)∧FNm nmT sn:=by
  unfold soE at h
  obtain ⟨h1,h⟩:=c4 (by decide) h
  obtain ⟨h2,h⟩:=c4 (by decide) h
  obtain ⟨n1,n2⟩:=or_no h1
  have n1:=of_decide_eq_false n1
  have n2:=of_decide_eq_false n2
  obtain ⟨p1,p2⟩:=pm_of (seq_zero _ h)
  obtain ⟨s1,s2⟩:=skB_rng h2
  exact ⟨⟨by omega,p1,fun i hi h0=>(sh_of (p2 i hi h0)).1⟩,nm_spec s1 (by omega)⟩
theorem fd_of {F:Hs.Fm.Fd} (h:fFd F.c=0):((FIt F.W∧Lib.itoa F.W≠[])∧(FIt F.H∧Lib.itoa F.H≠[])∧NV dcT tnX tbX F.at_ 0∧Nu dcT tnX tbX F.sd∧F.n≤1000∧∀ q,q < F.n→FDc dcT (F.hs q)∧dcT (F.hs q)≠[])∧FNm nmT F.sk:=by
  obtain ⟨h1,h2,h3,h4,h5,h6⟩:fineS (F.at_ 0) (F.at_ 1) (F.at_ 2)=true∧nearS F.sd=true∧F.n≤64∧(2≤F.W∧F.W≤8∧2≤F.H∧F.H≤8)∧(0≤F.sk∧F.sk < 16)∧∀ q,q < F.n→hBad (F.hs q)=false:=(fFd_ok F).2 h
  refine ⟨⟨it_ok (by omega) (by omega),it_ok (by omega) (by omega),nv_of h1,nu_of h2,by omega,fun q hq=>?_⟩,nm_spec h5.1 (by omega)⟩
  obtain ⟨b1,b2⟩:=or_no (h6 q hq)
  have b1:=of_decide_eq_false b1
  have b2:=of_decide_eq_false b2
  exact ⟨dc_spec (by omega),(dc_ne _ (by omega)).1⟩
theorem ey_of {e:Nat→Nat} (h:eyE e=0):fineS (e 0) (e 1) (e 2)=true∧fineS (e 3) (e 4) (e 5)=true∧fineS (e 6) (e 7) (e 8)=true∧nearS (e 9)=true:=by
  unfold eyE at h
  obtain ⟨h1,_⟩:=c4 (by decide) h
  unfold feB at h1
  revert h1
  cases fineS (e 0) (e 1) (e 2)<;>cases fineS (e 3) (e 4) (e 5)<;>cases fineS (e 6) (e 7) (e 8)<;>cases nearS (e 9)<;>intro h<;>first | exact ⟨rfl,rfl,rfl,rfl⟩ | (cases h; done)
theorem not_no {b:Bool} (h:(!b)=false):b=true:=by cases b<;>first | rfl | cases h
/-- Of a scene that may be all numbers can be told. -/
theorem scN_of {s:Scn} (h:scE s=0):ScN dcT tnX tbX s∧(s.nS≤64∧s.nO≤8∧s.nF≤2∧s.nK≤16∧s.nL≤4):=by
  unfold scE at h
  obtain ⟨h1,h⟩:=c4 (by decide) h
  obtain ⟨hK,h⟩:=c0 h
  obtain ⟨hT,h⟩:=c0 h
  obtain ⟨hL,h⟩:=c0 h
  obtain ⟨hY,h⟩:=c4 (by decide) h
  have few:=tm_few s h1
  unfold thE at hT
  obtain ⟨hS,hT⟩:=c0 hT
  obtain ⟨hO,hF⟩:=c0 hT
  obtain ⟨y0,y3,y6,y9⟩:=ey_of h
  refine ⟨⟨nv_of y0,nv_of y3,nv_of y6,nu_of y9,wh_of (li_all (not_no hY)),fun j hj=>?_,fun j hj=>?_,fun j hj=>?_,fun j hj=>?_,fun j hj=>?_,by omega⟩,few⟩
  · obtain ⟨k1,k2,k3⟩:=sk_all (k:=s.K j) (seq_zero _ hK j hj)
    refine ⟨nm_spec (by omega) (by omega),⟨fun q hq=>?_⟩,⟨fun q hq=>?_⟩,⟨fun q hq=>?_⟩,dc_spec (by omega),(dc_ne _ (by omega)).1⟩
    · have:=k1 q (by omega); exact it_ok this.1 (by omega)
    · have:=k1 (3+q) (by omega); exact it_ok this.1 (by omega)
    · have:=k1 (6+q) (by omega); exact it_ok this.1 (by omega)
  · have hl:lmE (s.LA j) (s.LL j)=0:=seq_zero _ hL j hj
    unfold lmE at hl
    obtain ⟨a1,hl⟩:=c4 (by decide) hl
    obtain ⟨a2,_⟩:=c4 (by decide) hl
    exact ⟨nv_of (not_no a1),wh_of (li_all (not_no a2))⟩
  · exact sh_of (we0 (seq_zero _ hS j hj))
  · exact so_of (we0 (seq_zero _ hO j hj))
  · exact fd_of (we0 (seq_zero _ hF j hj))
end Go.Proofs.YtefphimaggjihaaGreatDoor.Pi

namespace Go.Proofs.YtefphimaggjihaaGreatDoor.Pi
open Go.Shelf Go.RowKit Go.Gv
open Hs Hs.So Hs.Sc Hs.Fm
/-- Words, so many, none longer than 20 bytes. -/
structure Few (k:Nat) (ts:List (List UInt8)):Prop where
  n:ts.length≤k
  w:∀ t,t ∈ ts→t.length≤20
theorem few_nil:Few 0 []:=⟨Nat.le_refl _,fun _ h=>by cases h⟩
theorem few_cons {k:Nat} {t:List UInt8} {ts:List (List UInt8)} (ht:t.length≤20) (h:Few k ts):Few (k+1) (t::ts):=⟨by simp; exact h.n,fun x hx=>by
  rcases List.mem_cons.1 hx with rfl | hx
  · exact ht
  · exact h.w x hx⟩
theorem few_app {j k:Nat} {A B:List (List UInt8)} (ha:Few j A) (hb:Few k B):Few (j+k) (A ++ B):=⟨by simp; exact Nat.add_le_add ha.n hb.n,fun x hx=>by
  rcases List.mem_append.1 hx with hx | hx
  · exact ha.w x hx
  · exact hb.w x hx⟩
theorem Few.up {j k:Nat} {A:List (List UInt8)} (h:Few j A) (hk:j≤k):Few k A:=⟨Nat.le_trans h.n hk,h.w⟩
theorem tks_few:∀ {ts:List (List UInt8)} {k:Nat} (b:Bool),Few k ts→(tks b ts).length≤21*k
  | [],_,_,_=>by simp [tks]
  | t::r,k,b,h=>by
    have h1:=h.w t (by simp)
    have hn:=h.n
    simp at hn
    obtain ⟨k,rfl⟩:∃ j,k=j+1:=⟨k - 1,by omega⟩
    have h2:=tks_few (ts:=r) (k:=k) true ⟨by omega,fun x hx=>h.w x (List.mem_cons_of_mem _ hx)⟩
    simp only [tks,List.length_append]
    have:(if b then ([32]:List UInt8) else []).length≤1:=by cases b<;>simp
    omega
theorem line_few {ts:List (List UInt8)} {k:Nat} (b:Bool) (h:Few k ts):(lineE b ts).length≤21*k+22:=by
  unfold lineE
  have:=tks_few b (few_app h (few_cons (t:=[59]) (by decide) few_nil))
  rw [List.length_append]
  simp only [List.length_cons,List.length_nil]
  omega
theorem lineL_few {E:Nat→List UInt8} {m:Nat}:∀ n,(∀ j,j < n→(E j).length≤m)→(lineL E n).length≤n*m
  | 0,_=>by simp [lineL]
  | n+1,h=>by
    have:=lineL_few n fun j hj=>h j (by omega)
    have h1:=h n (by omega)
    simp only [lineL,List.length_append]
    rw [Nat.add_mul,Nat.one_mul]
    omega
theorem ntk_len (x:Nat):(ntk dcT tnX x).length≤20:=(dc_ne _ (Nat.le_trans (tn_few x) (by decide))).2
theorem vT_few (a:Nat→Nat) (i:Nat):Few 3 (vT dcT tnX a i):=few_cons (ntk_len _) (few_cons (ntk_len _) (few_cons (ntk_len _) few_nil))
theorem rnd_few {w t:List UInt8} (hw:w.length≤20) (ht:t.length≤20) (a:Nat→Nat):Few 10 (rndT dcT tnX w t a) :=
  few_cons hw (few_app (k:=6) (vT_few a 0) (few_cons ht (few_app (k:=2) (vT_few a 3) (few_cons (by decide) (few_cons (ntk_len _) few_nil))))) |>.up (by decide)
theorem shT_few (k:Int) (a:Nat→Nat):Few 13 (shT dcT tnX k a):=by
  unfold shT
  split
  · exact (few_cons (by decide) (few_app (vT_few a 0) (few_cons (by decide) (few_cons (ntk_len _) few_nil)))).up (by decide)
  · split
    · exact (few_cons (by decide) (few_app (vT_few a 0) (few_cons (by decide) (vT_few a 3)))).up (by decide)
    · split
      · exact (few_cons (by decide) (few_app (vT_few a 0) (few_cons (by decide) (few_app (vT_few a 3) (few_cons (by decide) (vT_few a 6)))))).up (by decide)
      · split
        · exact (rnd_few (by decide) (by decide) a).up (by decide)
        · split
          · exact (rnd_few (by decide) (by decide) a).up (by decide)
          · exact (few_app (rnd_few (by decide) (by decide) a) (few_cons (ntk_len _) few_nil)).up (by decide)
theorem opT_len (o:Int):(opT o).length≤20:=by unfold opT; split<;>(try split)<;>decide
theorem upd_ne (g:Nat→Int) {i j:Nat} (h:i≠j) (v:Int):upd g j v i=g i:=if_neg h
theorem sd_keep (P:Nat→Prt) (i:Nat):∀ d,(sd P (i+1+d)).1 i=(sd P (i+1)).1 i∧(sd P (i+1+d)).2 i=(sd P (i+1)).2 i
  | 0=>⟨rfl,rfl⟩
  | d+1=>by
    have h:=sd_keep P i d
    rw [show i+1+(d+1)=(i+1+d)+1 by omega,sd_succ]
    have hne:i≠i+1+d:=by omega
    split
    · exact ⟨(upd_ne _ hne _).trans h.1,h.2⟩
    · exact ⟨(upd_ne _ hne _).trans h.1,(upd_ne _ hne _).trans h.2⟩
theorem sd_at {P:Nat→Prt} {i j:Nat} (h:i < j):(sd P j).1 i=(sd P (i+1)).1 i∧(sd P j).2 i=(sd P (i+1)).2 i:=by
  have:=sd_keep P i (j - (i+1))
  rwa [show i+1+(j - (i+1))=j by omega] at this
theorem sd_dep {n:Nat} {P:Nat→Prt} (hP:PM n P) {i:Nat} (hi:i < n) (h0:(P i).op≠0):(sd P n).2 i=1+mx ((sd P n).2 (P i).l.toNat) ((sd P n).2 (P i).r.toNat):=by
  rcases hP i hi with h | ⟨_,⟨l0,l1⟩,r0,r1⟩
  · exact absurd h h0
  · rw [(sd_at hi).2,sd_succ,if_neg h0]
    show upd _ i _ i=_
    unfold upd
    rw [if_pos rfl,(sd_at (show (P i).l.toNat < n by omega)).2,(sd_at (show (P i).r.toNat < n by omega)).2,(sd_at (show (P i).l.toNat < i by omega)).2,(sd_at (show (P i).r.toNat < i by omega)).2]
theorem paT_few {n:Nat} {P:Nat→Prt} (hP:PM n P):∀ (f i d:Nat),i < n→(sd P n).2 i≤d→∃ k,Few k (paT dcT tnX P f i)∧k+3≤16*2 ^ d
  | 0,_,d,_,_=>⟨0,few_nil,by have:=Nat.two_pow_pos d; omega⟩
  | f + 1,i,d,hi,hd=>by
    unfold paT
    by_cases h0:(P i).op=0
    · rw [if_pos h0]
      exact ⟨13,shT_few _ _,by have:=Nat.two_pow_pos d; omega⟩
    · rw [if_neg h0]
      rcases hP i hi with h | ⟨_,⟨l0,l1⟩,r0,r1⟩
      · exact absurd h h0
      · rw [sd_dep hP hi h0] at hd
        have g1:=(sd_rng P n (P i).l.toNat).2.1
        have g2:=(sd_rng P n (P i).r.toNat).2.1
        obtain ⟨d,rfl⟩:∃ e,d=e+1:=⟨d - 1,by unfold mx at hd; split at hd<;>omega⟩
        obtain ⟨k1,f1,e1⟩:=paT_few hP f (P i).l.toNat d (by omega) (by unfold mx at hd; split at hd<;>omega)
        obtain ⟨k2,f2,e2⟩:=paT_few hP f (P i).r.toNat d (by omega) (by unfold mx at hd; split at hd<;>omega)
        refine ⟨_,few_app (few_cons (opT_len _) (few_cons (t:=[123]) (by decide) few_nil)) (few_app f1 (few_app f2 (few_cons (t:=[125]) (by decide) few_nil))),?_⟩
        rw [Nat.pow_succ]
        omega
theorem soT_few {n:Nat} {P:Nat→Prt} (h1:1≤n) (hP:PM n P):Few 130 (soT dcT tnX n P):=by
  unfold soT
  cases ha:arB n P
  · exact (few_cons (by decide) few_nil).up (by decide)
  · unfold arB at ha
    have ha:arP n P:=by simpa using ha
    obtain ⟨k,hk,he⟩:=paT_few hP n (n - 1) 3 (by omega) ha.2.2
    exact (few_cons (by decide) hk).up (by omega)
theorem it_len {n:Int} (h0:0≤n) (h1:n < 100000000):(Lib.itoa n).length≤20:=Nat.le_trans (it_few h0 h1).2 (by decide)
theorem nm_len {n:Int} (h0:0≤n) (h1:n < 100000000):(nmT n).length≤20:=by
  have:=(it_few h0 h1).2
  show (115::Lib.itoa n).length≤20
  simp
  omega
theorem wh_few {l:Nat→Int} (h:∀ q,q < 3→0≤l q∧l q≤65536):Few 3 (whT l):=by
  have a0:=h 0 (by decide)
  have a1:=h 1 (by decide)
  have a2:=h 2 (by decide)
  exact few_cons (it_len a0.1 (by omega)) (few_cons (it_len a1.1 (by omega)) (few_cons (it_len a2.1 (by omega)) few_nil))
theorem hi_few {F:Hs.Fm.Fd} (h:∀ q,q < F.n→hBad (F.hs q)=false):Few F.n (hiT dcT F F.n):=⟨by unfold hiT; simp,fun t ht=>by
  unfold hiT at ht
  obtain ⟨q,hq,rfl⟩:=List.mem_map.1 ht
  obtain ⟨b1,b2⟩:=or_no (h q (List.mem_range.1 hq))
  have b1:=of_decide_eq_false b1
  have b2:=of_decide_eq_false b2
  exact (dc_ne _ (by omega)).2⟩
theorem eyT_few (e:Nat→Nat):Few 14 (eyT dcT tnX e) :=
  (few_cons (by decide) (few_app (vT_few e 0) (few_cons (by decide) (few_app (vT_few e 3) (few_cons (by decide) (few_app (vT_few e 6) (few_cons (by decide) (few_cons (ntk_len _) few_nil)))))))).up (by decide)
theorem wear_len {k:Int} (h0:0≤k) (h1:k < 16) (b:Bool):(lineE b [nmT k]).length≤43:=line_few b (few_cons (nm_len h0 (by omega)) few_nil)
theorem sky_len {s:Scn} (h:∀ q,q < 3→0≤s.sky q∧s.sky q≤65536):(comp (skyI s) false).length≤110:=by
  have e:comp (skyI s) false=tks false [skyW] ++ (tks true (whT s.sky) ++ ((tks true [[59]] ++ [10]) ++ [])):=rfl
  rw [e]
  have h1:=tks_few false (few_cons (t:=skyW) (by decide) few_nil)
  have h2:=tks_few true (wh_few h)
  have h3:=tks_few true (few_cons (t:=[59]) (by decide) few_nil)
  simp only [List.length_append,List.length_cons,List.length_nil]
  omega
theorem skI_len {s:Scn} {j:Nat} (hj:j < 16) (h:skE (s.K j)=0):(comp (skI dcT s j) false).length≤400:=by
  obtain ⟨k1,k2,k3⟩:=sk_all h
  have e:comp (skI dcT s j) false=lineE false (skT dcT (s.K j) (fun q=>s.K j (3+q)) (fun q=>s.K j (6+q)) (s.K j 9) (j:Nat)) ++ []:=rfl
  rw [e,List.append_nil]
  have a:∀ d,d≤6→Few 3 (whT fun q=>s.K j (d+q)):=fun d hd=>wh_few fun q hq=>by have:=k1 (d+q) (by omega); omega
  have a0:Few 3 (whT (s.K j)):=wh_few fun q hq=>by have:=k1 q (by omega); omega
  have f:Few 16 (skT dcT (s.K j) (fun q=>s.K j (3+q)) (fun q=>s.K j (6+q)) (s.K j 9) (j:Nat)) :=
    (few_app (few_cons (by decide) (few_cons (nm_len (by omega) (by omega)) (few_cons (by decide) few_nil))) (few_app a0 (few_cons (by decide) (few_app (a 3 (by omega)) (few_cons (by decide) (few_app (a 6 (by omega)) (few_cons (by decide) (few_cons (dc_ne _ (by omega)).2 few_nil)))))))).up (by decide)
  exact Nat.le_trans (line_few false f) (by decide)
theorem lmI_len {s:Scn} {j:Nat} (h:∀ q,q < 3→0≤s.LL j q∧s.LL j q≤65536):(comp (lmI dcT tnX tbX s j) false).length≤200:=by
  have e:comp (lmI dcT tnX tbX s j) false=lineE false (lamT dcT tnX (s.LA j) (s.LL j)) ++ []:=rfl
  rw [e,List.append_nil]
  have f:Few 8 (lamT dcT tnX (s.LA j) (s.LL j)):=(few_cons (by decide) (few_app (vT_few _ 0) (few_cons (by decide) (wh_few h)))).up (by decide)
  exact Nat.le_trans (line_few false f) (by decide)
theorem shI_len {s:Scn} {j:Nat} (h0:0≤(s.S j).sk) (h1:(s.S j).sk < 16):(comp (shI dcT tnX tbX s j) false).length≤320:=by
  have e:comp (shI dcT tnX tbX s j) false=tks false (shT dcT tnX (s.S j).k (s.S j).a) ++ (lineE true [nmT (s.S j).sk] ++ []):=rfl
  rw [e]
  have a:=tks_few false (shT_few (s.S j).k (s.S j).a)
  have b:=wear_len h0 h1 true
  simp only [List.length_append,List.length_nil]
  omega
theorem soI_len {s:Scn} {j:Nat} (h0:0≤(s.O j).sk) (h1:(s.O j).sk < 16) (hn:1≤(s.O j).n) (hP:PM (s.O j).n (s.O j).P):(comp (soI dcT tnX tbX s j) false).length≤2800:=by
  have e:comp (soI dcT tnX tbX s j) false=tks false (soT dcT tnX (s.O j).n (s.O j).P) ++ (lineE true [nmT (s.O j).sk] ++ []):=rfl
  rw [e]
  have a:=tks_few false (soT_few hn hP)
  have b:=wear_len h0 h1 true
  simp only [List.length_append,List.length_nil]
  omega
theorem feI_len {s:Scn} {j:Nat} (h:fFd (s.F j).c=0):(comp (feI dcT tnX tbX s j) false).length≤1600:=by
  obtain ⟨h1,h2,h3,h4,h5,h6⟩:fineS ((s.F j).at_ 0) ((s.F j).at_ 1) ((s.F j).at_ 2)=true∧nearS (s.F j).sd=true∧(s.F j).n≤64∧(2≤(s.F j).W∧(s.F j).W≤8∧2≤(s.F j).H∧(s.F j).H≤8)∧(0≤(s.F j).sk∧(s.F j).sk < 16)∧∀ q,q < (s.F j).n→hBad ((s.F j).hs q)=false:=(fFd_ok (s.F j)).2 h
  have e:comp (feI dcT tnX tbX s j) false=tks false (fdT dcT tnX (s.F j)) ++ (lineE true [nmT (s.F j).sk] ++ []):=rfl
  rw [e]
  have f:Few 74 (fdT dcT tnX (s.F j)):=(few_app (few_cons (by decide) (few_cons (it_len (by omega) (by omega)) (few_cons (it_len (by omega) (by omega)) (few_cons (by decide) few_nil)))) (few_app (vT_few _ 0) (few_cons (by decide) (few_cons (ntk_len _) (few_cons (by decide) (hi_few h6)))))).up (by omega)
  have a:=tks_few false f
  have b:=wear_len h5.1 h5.2 true
  simp only [List.length_append,List.length_nil]
  omega
/-- The text of a scene that may be is not long. -/
theorem x6_len {s:Scn} (h:scE s=0):(x6 dcT tnX tbX s).length≤900000:=by
  have few:=(scN_of h).2
  unfold scE at h
  obtain ⟨h1,h⟩:=c4 (by decide) h
  obtain ⟨hK,h⟩:=c0 h
  obtain ⟨hT,h⟩:=c0 h
  obtain ⟨hL,h⟩:=c0 h
  obtain ⟨hY,h⟩:=c4 (by decide) h
  unfold thE at hT
  obtain ⟨hS,hT⟩:=c0 hT
  obtain ⟨hO,hF⟩:=c0 hT
  have a0:(x0 dcT tnX s).length≤316:=line_few false (eyT_few s.eye)
  have a1:=sky_len (s:=s) (li_all (not_no hY))
  have a2:=lineL_few (E:=fun j=>comp (skI dcT s j) false) (m:=400) s.nK fun j hj=>skI_len (by omega) (seq_zero _ hK j hj)
  have a3:=lineL_few (E:=fun j=>comp (lmI dcT tnX tbX s j) false) (m:=200) s.nL fun j hj=>by
    have hl:lmE (s.LA j) (s.LL j)=0:=seq_zero _ hL j hj
    unfold lmE at hl
    obtain ⟨_,hl⟩:=c4 (by decide) hl
    obtain ⟨b2,_⟩:=c4 (by decide) hl
    exact lmI_len (li_all (not_no b2))
  have a4:=lineL_few (E:=fun j=>comp (shI dcT tnX tbX s j) false) (m:=320) s.nS fun j hj=>by
    have hm:mayC (shC (s.S j).k (s.S j).a (s.S j).sk)=0:=we0 (seq_zero _ hS j hj)
    have:=(mayC_near hm).2.2
    exact shI_len this.1 this.2
  have a5:=lineL_few (E:=fun j=>comp (soI dcT tnX tbX s j) false) (m:=2800) s.nO fun j hj=>by
    have hm:soE (s.O j).n (s.O j).P (s.O j).sk=0:=we0 (seq_zero _ hO j hj)
    have hm':=(so_of hm).1
    unfold soE at hm
    obtain ⟨_,hm⟩:=c4 (by decide) hm
    obtain ⟨b2,_⟩:=c4 (by decide) hm
    have:=skB_rng b2
    exact soI_len this.1 this.2 hm'.1.1 hm'.2.1
  have a6:=lineL_few (E:=fun j=>comp (feI dcT tnX tbX s j) false) (m:=1600) s.nF fun j hj=>feI_len (we0 (seq_zero _ hF j hj))
  unfold x6 x5 x4 x3 x2 x1
  simp only [List.length_append]
  omega
/-- The code's Print of a scene that may be. -/
theorem print_spec {s:Scn} (h:scE s=0):FSpec Tryz.prog 12 [.agg s.c] (cond (w6 dcT tnX tbX s) (.tup [zA ⟨#[]⟩,iA 11]) (.tup [zA (lB (x6 dcT tnX tbX s)),iA 0])):=print_good h (scN_of h).1 (x6_len h)
end Go.Proofs.YtefphimaggjihaaGreatDoor.Pi

namespace Go.Proofs.YtefphimaggjihaaGreatDoor.Pi
open Go.Shelf Go.RowKit Go.Gv
open Go.Ev (cn fadd fsub fmul fdiv fneg feq flt fle fgt fge isNan key val isFin NearF)
open Hs (mth k1000)
def by8 (n:Int):Int:=IntKind.u8.wrap n
noncomputable def dcC (c:Int):ByteArray:=strF 1 fun i=>Go.Gv.byteOf (chunk [yA c] 1 i)
noncomputable def dcK (s:ByteArray):List KEntry:=[kS Tryz.prog 23 fun _=>zA s]
theorem dec_ev (n:Int) (s:ByteArray):evM Tryz.prog [] (dcK s) [born 78] noL Tryz.f23 [iA n] ret =
    cond (decide (n < 0)) (gate (FSpec Tryz.prog 23 [iA (w64 (0 - n))] (zA s)) (cond (catF ⟨#[45]⟩ s||false) (some (Out.of (zA (⟨#[45]⟩ ++ s)))) none))
      (cond (decide (n < 10)) (some (Out.of (zA (dcC (by8 (w64 (48+n)))))))
        (gate (FSpec Tryz.prog 23 [iA (w64 (n.tdiv 10))] (zA s)) (cond ((catF s (dcC (by8 (w64 (48+n.tmod 10))))||false)&&true) (some (Out.of (zA (s ++ dcC (by8 (w64 (48+n.tmod 10))))))) none))):=by kernel_rfl
theorem dcC_eq (c:Nat):dcC (c:Nat)=lB [UInt8.ofNat c]:=by
  unfold dcC
  rw [strF_eq]
  show ByteArray.push ByteArray.empty (UInt8.ofNat ((c:Int)).toNat)=_
  rw [Int.toNat_natCast]
  rfl
theorem dec_dig {k:Nat} (h:k < 10):dcC (by8 (w64 (48+(k:Int))))=lB [UInt8.ofNat (48+k)]:=by
  rw [w64_id (by omega) (by omega),show by8 (48+(k:Int))=((48+k:Nat):Int) by unfold by8; rw [u8_id (by omega) (by omega)]; omega,dcC_eq]
theorem itoa_nat (k:Nat):Lib.itoa (k:Int)=Lib.decDigits k:=by unfold Lib.itoa; rw [if_neg (by omega),Int.toNat_natCast]
theorem decs:∀ (d k:Nat),d≤7→k < 10 ^ (d+1)→FSpec Tryz.prog 23 [iA (k:Nat)] (zA (lB (Lib.itoa (k:Nat))))
  | d,k,hd,hk=>by
    by_cases h:k < 10
    · rw [itoa_nat,Lib.decDigits_one h]
      refine gspecM e_nil (k_cons kS_ok k_nil) (m_cons (born_ok _) m_nil) Tryz.func23 (by kernel_rfl) (by kernel_rfl) noL_ok rfl ((dec_ev (k:Nat) ⟨#[]⟩).trans ?_)
      rw [decide_eq_false (show ¬ (k:Int) < 0 by omega),decide_eq_true (show (k:Int) < 10 by omega),dec_dig h]
      rfl
    · match d with
      | 0=>exact absurd hk (by omega)
      | d+1 =>
        have ih:=decs d (k / 10) (by omega) (by rw [Nat.pow_succ] at hk; omega)
        have hk8:k < 100000000:=Nat.lt_of_lt_of_le hk (Nat.le_trans (Nat.pow_le_pow_right (by decide) (show d+1+1≤8 by omega)) (by decide))
        have hl:=(it_few (n:=((k / 10:Nat):Int)) (by omega) (by omega)).2
        refine gspecM e_nil (k_cons kS_ok k_nil) (m_cons (born_ok _) m_nil) Tryz.func23 (by kernel_rfl) (by kernel_rfl) noL_ok rfl ((dec_ev (k:Nat) (lB (Lib.itoa ((k / 10:Nat):Int)))).trans ?_)
        have e1:w64 ((k:Int).tdiv 10)=((k / 10:Nat):Int):=by rw [Int.tdiv_eq_ediv_of_nonneg (by omega),w64_id (by omega) (by omega)]; omega
        have e2:(k:Int).tmod 10=((k % 10:Nat):Int):=by rw [Int.tmod_eq_emod_of_nonneg (by omega)]; omega
        have e3:Lib.itoa (k:Int)=Lib.itoa ((k / 10:Nat):Int) ++ [UInt8.ofNat (48+k % 10)]:=by rw [itoa_nat,itoa_nat,Lib.decDigits,dif_neg h]
        rw [decide_eq_false (show ¬ (k:Int) < 0 by omega),cond_false,decide_eq_false (show ¬ (k:Int) < 10 by omega),cond_false,e1,e2,gate_pos ih,dec_dig (k:=k % 10) (by omega),cat_t (by rw [size_lB,size_lB]; show _+1≤_; omega),lB_app,e3]
        rfl
/-- Dec of a number that is no less than 0. -/
theorem dec_spec {n:Int} (h0:0≤n) (h1:n < 100000000):FSpec Tryz.prog 23 [iA n] (zA (lB (Lib.itoa n))):=by
  obtain ⟨k,rfl⟩:=Int.eq_ofNat_of_zero_le h0
  exact decs 7 k (by decide) (by omega)
end Go.Proofs.YtefphimaggjihaaGreatDoor.Pi

namespace Go.Proofs.YtefphimaggjihaaGreatDoor.Pi
open Go.Shelf Go.RowKit Go.Gv
open Go.Ev (cn fadd fsub fmul fdiv fneg feq flt fle fgt fge isNan key val isFin NearF)
open Hs (mth k1000)
def gDd (dd:Int→ByteArray):List AV→AV
  | [.x (.int _ n)]=>zA (dd n)
  | _=>.any
def gTf (tf:Int→Nat):List AV→AV
  | [.x (.int _ n)]=>.f (tf n)
  | _=>.any
section
variable (dd:Int→ByteArray) (tf:Int→Nat) (x:Nat)
def FDd (n:Int):Prop:=FSpec Tryz.prog 23 [iA n] (zA (dd n))
def toNo:Option Out:=some (Out.of (.tup [zA ⟨#[]⟩,bA false]))
noncomputable def toF (s:ByteArray):Option Out:=cond (flt x 0) (cond (catF ⟨#[45]⟩ s||false) (some (Out.of (.tup [zA (⟨#[45]⟩ ++ s),bA true]))) none) (some (Out.of (.tup [zA s,bA true])))
noncomputable def toD (n:Int) (s:ByteArray) (K:ByteArray→Option Out):Option Out:=gate (FDd dd n) (cond (catF s (dd n)||false) (K (s ++ dd n)) none)
noncomputable def toE (d:Int) (s:ByteArray):Option Out:=cond (decide (d.tmod 10 > 0)) (toD dd (d.tmod 10) s (toF x)) (toF x s)
noncomputable def toG (d:Int) (s:ByteArray):Option Out:=cond (decide (d.tmod 100 > 0)) (toD dd ((w64 (d.tdiv 10)).tmod 10) s (toE dd x d)) (toE dd x d s)
noncomputable def toC (d:Int) (s:ByteArray):Option Out:=cond (decide (d > 0)) (cond (catF s dtS||false) (toD dd (w64 (d.tdiv 100)) (s ++ dtS) (toG dd x d)) none) (toF x s)
noncomputable def toB (n:Int):Option Out:=gate (FDd dd (w64 (n.tdiv 1000))) (toC dd x (n.tmod 1000) (dd (w64 (n.tdiv 1000))))
def tN0 (a:Nat):Nat:=fadd (fmul a 4652007308841189376) 4602678819172646912
def tNn (a:Nat):Int:=f2i .i64 (tN0 a)
noncomputable def toA (a:Nat):Option Out:=cond (fitI .i64 (tN0 a)||false) (gate (FSpec Tryz.prog 37 [iA (tNn a)] (.f (tf (tNn a)))) (cond (!(feq (tf (tNn a)) a)) toNo (toB dd x (tNn a)))) none
theorem to_ev:ev Tryz.prog [] [kS Tryz.prog 23 (gDd dd),kS Tryz.prog 37 (gTf tf)] noL Tryz.f36 [.f x] ret =
  cond (!(cond (fge x 13875379345695965184) (fle x 4652007308841189376) false)) toNo (cond (flt x 0) (toA dd tf x (fneg x)) (toA dd tf x x)):=by kernel_rfl
end
end Go.Proofs.YtefphimaggjihaaGreatDoor.Pi

namespace Go.Proofs.YtefphimaggjihaaGreatDoor.Pi
open Go.Shelf Go.RowKit Go.Gv
def dg (k:Nat):UInt8:=UInt8.ofNat (48+k)
theorem dg_zero:∀ k,k < 10→(dg k==48)=decide (k=0):=by decide
theorem it_one {k:Nat} (h:k < 10):Lib.itoa ((k:Nat):Int)=[dg k]:=by rw [itoa_nat,Lib.decDigits_one h]; rfl
theorem it_four {d:Nat} (h:d < 1000):Lib.itoa ((1000+d:Nat):Int)=[49,dg (d / 100),dg (d / 10 % 10),dg (d % 10)]:=by
  rw [itoa_nat,Lib.decDigits,dif_neg (by omega),Lib.decDigits,dif_neg (by omega),Lib.decDigits,dif_neg (by omega),Lib.decDigits_one (by omega)]
  have e0:(1000+d) / 10 / 10 / 10=1:=by omega
  have e1:(1000+d) / 10 / 10 % 10=d / 100:=by omega
  have e2:(1000+d) / 10 % 10=d / 10 % 10:=by omega
  have e3:(1000+d) % 10=d % 10:=by omega
  rw [e0,e1,e2,e3]
  rfl
/-- The digits behind the dot, as the answer has them. -/
def frT (d:Nat):List UInt8:=dg (d / 100)::((if d % 100 > 0 then [dg (d / 10 % 10)] else []) ++ (if d % 10 > 0 then [dg (d % 10)] else []))
theorem fr_eq {d:Nat} (h0:0 < d) (h:d < 1000):Lib.trimRightB ((Lib.itoa ((1000+d:Nat):Int)).drop 1) 48=frT d:=by
  rw [it_four h]
  unfold Lib.trimRightB frT
  have z1:=dg_zero (d % 10) (by omega)
  have z2:=dg_zero (d / 10 % 10) (by omega)
  have z3:=dg_zero (d / 100) (by omega)
  show (List.dropWhile _ [dg (d % 10),dg (d / 10 % 10),dg (d / 100)]).reverse=_
  by_cases c1:d % 10=0
  · rw [decide_eq_true c1] at z1
    by_cases c2:d / 10 % 10=0
    · rw [decide_eq_true c2] at z2
      rw [decide_eq_false (show ¬ d / 100=0 by omega)] at z3
      rw [if_neg (by omega),if_neg (by omega)]
      simp [List.dropWhile,z1,z2,z3]
    · rw [decide_eq_false c2] at z2
      rw [if_pos (by omega),if_neg (by omega)]
      simp [List.dropWhile,z1,z2]
  · rw [decide_eq_false c1] at z1
    rw [if_pos (by omega),if_pos (by omega)]
    simp [List.dropWhile,z1]
end Go.Proofs.YtefphimaggjihaaGreatDoor.Pi

namespace Go.Proofs.YtefphimaggjihaaGreatDoor.Pi
open Go.Shelf Go.RowKit Go.Gv
open Go.Ev (cn fadd fsub fmul fdiv fneg feq flt fle fgt fge isNan key val isFin NearF)
open Hs (mth k1000)
def ddL (n:Int):ByteArray:=lB (Lib.itoa n)
theorem toF_eq (x:Nat) {l:List UInt8} (h:l.length≤100):toF x (lB l)=some (Out.of (.tup [zA (lB ((if flt x 0 then [45] else []) ++ l)),bA true])):=by
  unfold toF
  cases flt x 0
  · rfl
  · rw [show (⟨#[45]⟩:ByteArray)=lB [45] from rfl,cat_t (by rw [size_lB,size_lB]; show 1+_≤_; omega),lB_app]
    rfl
theorem toD_eq {n:Nat} (hn:n < 10) {l:List UInt8} (h:l.length≤100) (K:ByteArray→Option Out):toD ddL (n:Nat) (lB l) K=K (lB (l ++ [dg n])):=by
  unfold toD
  have hd:FDd ddL (n:Nat):=dec_spec (by omega) (by omega)
  have e:ddL (n:Nat)=lB [dg n]:=by unfold ddL; rw [it_one hn]
  rw [gate_pos hd,e,cat_t (by rw [size_lB,size_lB]; show _+1≤_; omega),lB_app]
  rfl
theorem tq (d k:Nat) (hd:d < 100000000):w64 (((d:Nat):Int).tdiv (k:Nat))=((d / k:Nat):Int):=by
  rw [Int.tdiv_eq_ediv_of_nonneg (by omega),← Int.natCast_ediv]
  have:d / k≤d:=Nat.div_le_self _ _
  generalize d / k=q at *
  exact w64_id (by omega) (by omega)
theorem tm (d k:Nat):((d:Nat):Int).tmod (k:Nat)=((d % k:Nat):Int):=by
  rw [Int.tmod_eq_emod_of_nonneg (by omega),Int.natCast_emod]
theorem tm10 (d:Nat):((d:Nat):Int).tmod 10=((d % 10:Nat):Int):=tm d 10
theorem tq10 {d:Nat} (h:d < 100000000):w64 (((d:Nat):Int).tdiv 10)=((d / 10:Nat):Int):=tq d 10 h
theorem tm100 (d:Nat):((d:Nat):Int).tmod 100=((d % 100:Nat):Int):=tm d 100
theorem tq100 {d:Nat} (h:d < 100000000):w64 (((d:Nat):Int).tdiv 100)=((d / 100:Nat):Int):=tq d 100 h
theorem tm1000 (d:Nat):((d:Nat):Int).tmod 1000=((d % 1000:Nat):Int):=tm d 1000
theorem tq1000 {d:Nat} (h:d < 100000000):w64 (((d:Nat):Int).tdiv 1000)=((d / 1000:Nat):Int):=tq d 1000 h
theorem toE_eq (x:Nat) {d:Nat} {l:List UInt8} (h:l.length≤50):toE ddL x (d:Nat) (lB l)=toF x (lB (l ++ (if d % 10 > 0 then [dg (d % 10)] else []))):=by
  unfold toE
  rw [tm10]
  by_cases h0:d % 10 > 0
  · rw [decide_eq_true (by omega),cond_true,toD_eq (by omega) (by omega),if_pos h0]
  · rw [decide_eq_false (by omega),cond_false,if_neg h0,List.append_nil]
theorem toG_eq (x:Nat) {d:Nat} {l:List UInt8} (hd:d < 1000) (h:l.length≤40):toG ddL x (d:Nat) (lB l)=toF x (lB (l ++ ((if d % 100 > 0 then [dg (d / 10 % 10)] else []) ++ (if d % 10 > 0 then [dg (d % 10)] else [])))):=by
  unfold toG
  rw [tm100,tq10 (by omega),tm10]
  by_cases h0:d % 100 > 0
  · rw [decide_eq_true (by omega),cond_true,toD_eq (by omega) (by omega),if_pos h0,toE_eq x (by simp; omega),List.append_assoc]
  · rw [decide_eq_false (by omega),cond_false,toE_eq x (by omega),if_neg h0,List.nil_append]
theorem toC_eq (x:Nat) {d:Nat} {l:List UInt8} (hd:d < 1000) (h:l.length≤30):toC ddL x (d:Nat) (lB l)=toF x (lB (l ++ (if d=0 then [] else 46::frT d))):=by
  unfold toC
  by_cases h0:d=0
  · rw [decide_eq_false (by omega),cond_false,if_pos h0,List.append_nil]
  · rw [decide_eq_true (by omega),cond_true,show dtS=lB [46] from rfl,cat_t (by rw [size_lB,size_lB]; show _+1≤_; omega),lB_app,tq100 (by omega)]
    show toD ddL _ _ _=_
    rw [toD_eq (by omega) (by simp; omega),toG_eq x hd (by simp; omega),if_neg h0]
    unfold frT
    simp
theorem dcA_eq (n:Nat):dcA n=Lib.itoa ((n / 1000:Nat):Int) ++ (if n % 1000=0 then [] else 46::frT (n % 1000)):=by
  unfold dcA
  by_cases h:n % 1000=0
  · rw [if_pos h,if_pos h]
  · rw [if_neg h,if_neg h,fr_eq (by omega) (by omega)]
theorem frT_len (d:Nat):(frT d).length≤3:=by
  unfold frT
  split<;>split<;>simp
theorem toB_eq (x:Nat) {n:Nat} (hn:n≤1000000):toB ddL x (n:Nat)=some (Out.of (.tup [zA (lB ((if flt x 0 then [45] else []) ++ dcA n)),bA true])):=by
  unfold toB
  have hd:FDd ddL ((n / 1000:Nat):Int):=dec_spec (by omega) (by omega)
  have hl:=(it_few (n:=((n / 1000:Nat):Int)) (by omega) (by omega)).2
  have hf:=frT_len (n % 1000)
  rw [tq1000 (by omega),tm1000,gate_pos hd]
  show toC ddL x _ (lB _)=_
  rw [toC_eq x (by omega) (by omega),← dcA_eq,toF_eq]
  rw [dcA_eq,List.length_append]
  split
  · rw [List.length_nil]; omega
  · rw [List.length_cons]; omega
end Go.Proofs.YtefphimaggjihaaGreatDoor.Pi

namespace Go.Ev
open Ieee
open Go.Proofs.YtefphimaggjihaaGreatDoor.Hs (mth)
open Go.Proofs.YtefphimaggjihaaGreatDoor.Pi (tN0 tNn)
section
variable {c:Nat}
theorem near_k {a:Nat} (hf:isFin a=true) (h0:-4652007308841189376≤key a) (h1:key a≤4652007308841189376):NearF a:=by
  obtain ⟨c,hc⟩:∃ c,c=1074:=⟨_,rfl⟩
  have e1:key 13875379345695965184=-4652007308841189376:=by decide +kernel
  have e2:key 4652007308841189376=4652007308841189376:=by decide +kernel
  have t1:val 4652007308841189376=((1000*2 ^ c:Nat):Int):=by subst hc; decide +kernel
  have t2:val 13875379345695965184=-((1000*2 ^ c:Nat):Int):=by subst hc; decide +kernel
  have a1:=val_le.2 (show key 13875379345695965184≤key a by omega)
  have a2:=val_le.2 (show key a≤key 4652007308841189376 by omega)
  refine ⟨hf,?_⟩
  rw [← hc]
  have:1000*2 ^ c≤1000000*2 ^ c:=Nat.mul_le_mul_right _ (by decide)
  generalize 1000*2 ^ c=A at *
  generalize 1000000*2 ^ c=B at *
  omega
theorem half_fin:isFin 4602678819172646912=true:=by decide +kernel
theorem tn_core (hc:c=1074) {a:Nat} (hf:isFin a=true) (h0:0≤key a) (h1:key a≤4652007308841189376) :
    isFin (tN0 a)=true∧0≤val (tN0 a)∧key (tN0 a)≤key (tN0 4652007308841189376)∧(0≤tNn a∧tNn a≤1000000)∧Go.Gv.fitI .i64 (tN0 a)=true:=by
  have hK:isFin 4652007308841189376=true:=by decide +kernel
  have e2:key 4652007308841189376=4652007308841189376:=by decide +kernel
  obtain ⟨a1,_,_,a4⟩:=y_fin hc (near_k hf (by omega) h1)
  obtain ⟨b1,_,_,b4⟩:=y_fin hc (near_k hK (by omega) (by omega))
  obtain ⟨d1,_,_,d4⟩:=y_fin hc (near_k (a:=0) (by decide +kernel) (by decide +kernel) (by decide +kernel))
  have v0 := val_le.2 (show key 0 ≤ key a by have:key 0=0:=by decide +kernel
                                             omega)
  have v1:=val_le.2 (show key a≤key 4652007308841189376 by omega)
  have k1:key (fmul a 4652007308841189376)≤key (fmul 4652007308841189376 4652007308841189376):=by rw [a4,b4]; exact KR_mono 1 (by omega)
  have k0:key (fmul 0 4652007308841189376)≤key (fmul a 4652007308841189376):=by rw [a4,d4]; exact KR_mono 1 (by omega)
  have m1:key (tN0 a)≤key (tN0 4652007308841189376):=fadd_mono a1 b1 half_fin k1
  have m0:key (tN0 0)≤key (tN0 a):=fadd_mono d1 a1 half_fin k0
  have z0:key (tN0 0)=4602678819172646912:=by decide +kernel
  have z1:key (tN0 4652007308841189376) < 9218868437227405312:=by decide +kernel
  have hfn:isFin (tN0 a)=true:=fin_between (key_add a1 half_fin).2 m0 m1 (by omega) z1
  have hv:0≤val (tN0 a):=Int.le_of_lt (val_pos.2 (by omega))
  have hB:(val (tN0 4652007308841189376)).natAbs / 2 ^ c≤4611686018427387904:=by subst hc; decide +kernel
  have hm:=f2i_mono hc hfn (show isFin (tN0 4652007308841189376)=true by decide +kernel) hv m1 hB
  have hM:Go.Gv.f2i .i64 (tN0 4652007308841189376)=1000000:=by decide +kernel
  have v2:=val_le.2 m1
  have hb:(val (tN0 a)).natAbs / 2 ^ c≤4611686018427387904:=Nat.le_trans (Nat.div_le_div_right (by omega)) hB
  have hp:=f2i_pos hc hfn hv hb
  refine ⟨hfn,hv,m1,⟨by unfold tNn; rw [hp]; exact Int.natCast_nonneg _,by unfold tNn; omega⟩,?_⟩
  refine fit_vb hc (j:=53) ⟨hfn,?_⟩ (by decide) (by decide)
  have hC:(val (tN0 4652007308841189376)).natAbs≤1*2 ^ (c+53):=by subst hc; decide +kernel
  omega
theorem tn_of (hc:c=1074) {a:Nat} (hf:isFin a=true) (h0:0≤key a) (h1:key a≤4652007308841189376) {m:Nat} (hm:m≤1000000) (hk:key (mth m)=key a):tNn a=m:=by
  obtain ⟨f1,p1,k1,_,_⟩:=tn_core hc hf h0 h1
  obtain ⟨a1,_,_,a4⟩:=y_fin hc (near_k hf (by omega) h1)
  obtain ⟨mk,mf⟩:=mth_key hc (n:=(m:Int)) (by simpa using hm)
  obtain ⟨b1,_,_,b4⟩:=y_fin hc (near_k mf (by omega) (by omega))
  have hv:=val_key hk
  have hkk:key (fmul a 4652007308841189376)=key (yOf m):=by unfold yOf; rw [a4,b4,hv]
  have hkk2:key (tN0 a)=key (fadd (yOf m) 4602678819172646912):=by
    unfold tN0
    rw [(key_add a1 half_fin).1,(key_add (x:=yOf m) b1 half_fin).1,val_key hkk]
  obtain ⟨r1,r2⟩:=back_add hc hm
  have hB:(val (tN0 4652007308841189376)).natAbs / 2 ^ c≤4611686018427387904:=by subst hc; decide +kernel
  have v2:=val_le.2 k1
  have hb:(val (tN0 a)).natAbs / 2 ^ c≤4611686018427387904:=Nat.le_trans (Nat.div_le_div_right (by omega)) hB
  have hvv:=val_key hkk2
  unfold tNn
  rw [f2i_pos hc f1 p1 hb,← r1,f2i_pos hc r2 (by rw [← hvv]; exact p1) (by rw [← hvv]; exact hb),hvv]
end
end Go.Ev

namespace Go.Proofs.YtefphimaggjihaaGreatDoor.Pi
open Go.Shelf Go.RowKit Go.Gv
open Go.Ev (cn fadd fsub fmul fdiv fneg feq flt fle fgt fge isNan key val isFin NearF)
open Hs (mth k1000)
/-- What is told of a number. -/
def toV (x:Nat):AV:=cond (tbX x) (.tup [zA (lB (dcT (tnX x))),bA true]) (.tup [zA ⟨#[]⟩,bA false])
theorem thou_spec (n:Int):FSpec Tryz.prog 37 [iA n] (.f (mth n)):=gspec e_nil k_nil Tryz.func37 (by kernel_rfl) (by kernel_rfl) noL_ok rfl (show ev Tryz.prog [] [] noL Tryz.f37 [iA n] ret=some (Out.of (.f (mth n))) by kernel_rfl)
theorem key0:key 0=0:=by decide +kernel
theorem mth_nan {n:Int} (h:n.natAbs≤1000000):isNan (mth n)=false:=by
  obtain ⟨c,hc⟩:∃ c,c=1074:=⟨_,rfl⟩
  exact Go.Ev.fin_not_nan (Go.Ev.mth_key hc h).2
theorem mth_rng {n:Int} (h:n.natAbs≤1000000):-4652007308841189376≤key (mth n)∧key (mth n)≤4652007308841189376:=by
  obtain ⟨c,hc⟩:∃ c,c=1074:=⟨_,rfl⟩
  have a:=Hs.So.mth_mono hc (m:=-1000000) (n:=n) (by omega) (by decide) (by omega)
  have b:=Hs.So.mth_mono hc (m:=n) (n:=1000000) (by omega) (by omega) (by decide)
  have e1:key (mth (-1000000))=-4652007308841189376:=by decide +kernel
  have e2:key (mth 1000000)=4652007308841189376:=by decide +kernel
  omega
theorem mth_negk {n:Int} (h:n.natAbs≤1000000):key (mth (-n))=- key (mth n):=by
  obtain ⟨c,hc⟩:∃ c,c=1074:=⟨_,rfl⟩
  rw [(Go.Ev.mth_key hc (n:=-n) (by omega)).1,(Go.Ev.mth_key hc h).1,Int.neg_mul,Go.Ev.KR_neg _ (by decide)]
theorem mth_sign {n:Int} (h:n.natAbs≤1000000) (h0:0≤n):0≤key (mth n):=by
  obtain ⟨c,hc⟩:∃ c,c=1074:=⟨_,rfl⟩
  have a:=Hs.So.mth_mono hc (m:=0) (n:=n) h0 (by decide) (by omega)
  have e1:key (mth 0)=0:=by decide +kernel
  omega
/-- A number is of so many thousandths. -/
def IsT (x:Nat) (n:Int):Prop:=n.natAbs≤1000000∧key (mth n)=key x
theorem isT_feq {x:Nat} (hx:isNan x=false) {n:Int} (h:n.natAbs≤1000000):feq (mth n) x=decide (key (mth n)=key x):=Go.Ev.feq_key (mth_nan h) hx
theorem isT_tb {x:Nat} (h:NearF x) {n:Int} (ht:IsT x n):tbX x=true∧tnX x=n:=tb_of h ht.1 (by rw [isT_feq (Go.Ev.fin_not_nan h.fin) ht.1]; exact decide_eq_true ht.2)
theorem tb_isT {x:Nat} (h:tbX x=true):IsT x (tnX x):=by
  obtain ⟨a,b⟩:=tb_has h
  exact ⟨a,(Go.Ev.feq_true b).2.2⟩
/-- The way of a number that is no less than 0. -/
theorem toA_eq {a:Nat} (hf:isFin a=true) (h0:0≤key a) (h1:key a≤4652007308841189376) (y:Nat) :
    (∃ m:Nat,IsT a m∧toA ddL mth y a=some (Out.of (.tup [zA (lB ((if flt y 0 then [45] else []) ++ dcA m)),bA true])))∨((∀ m:Nat,¬ IsT a m)∧toA ddL mth y a=toNo):=by
  obtain ⟨c,hc⟩:∃ c,c=1074:=⟨_,rfl⟩
  obtain ⟨_,_,_,⟨n0,n1⟩,hfit⟩:=Go.Ev.tn_core hc hf h0 h1
  obtain ⟨m,hm⟩:=Int.eq_ofNat_of_zero_le n0
  have hmr:m≤1000000:=by omega
  have e:toA ddL mth y a=cond (!(feq (mth (m:Nat)) a)) toNo (toB ddL y (m:Nat)):=by
    unfold toA
    rw [hfit,gate_pos (thou_spec _),hm]
    rfl
  rw [e,isT_feq (Go.Ev.fin_not_nan hf) (n:=(m:Int)) (by omega)]
  by_cases hk:key (mth (m:Nat))=key a
  · exact Or.inl ⟨m,⟨by omega,hk⟩,by rw [decide_eq_true hk,toB_eq y hmr]; rfl⟩
  · refine Or.inr ⟨fun m' ht=>hk ?_,by rw [decide_eq_false hk]; rfl⟩
    have:=Go.Ev.tn_of hc hf h0 h1 (m:=m') (by have:=ht.1; omega) ht.2
    rw [show m=m' by omega]
    exact ht.2
theorem told_spec {x:Nat} (h:NearF x):FSpec Tryz.prog 36 [.f x] (toV x):=by
  refine gspec e_nil (k_cons kS_ok (k_cons kS_ok k_nil)) Tryz.func36 (by kernel_rfl) (by kernel_rfl) noL_ok rfl ((to_ev ddL mth x).trans ?_)
  have hx:=Go.Ev.fin_not_nan h.fin
  have n1:isNan 13875379345695965184=false:=by decide +kernel
  have n2:isNan 4652007308841189376=false:=by decide +kernel
  have n3:isNan 0=false:=by decide +kernel
  have c1:key 13875379345695965184=-4652007308841189376:=by decide +kernel
  have c2:key 4652007308841189376=4652007308841189376:=by decide +kernel
  rw [Go.Ev.fge_key hx n1,Go.Ev.fle_key hx n2,Go.Ev.flt_key hx n3,c1,c2,key0]
  have no:tbX x=false→toNo=some (Out.of (toV x)):=fun hb=>by unfold toV; rw [hb]; rfl
  have yes:tbX x=true→some (Out.of (.tup [zA (lB (dcT (tnX x))),bA true]))=some (Out.of (toV x)):=fun hb=>by unfold toV; rw [hb]; rfl
  by_cases hr:-4652007308841189376≤key x∧key x≤4652007308841189376
  · rw [decide_eq_true hr.1,cond_true,decide_eq_true hr.2]
    by_cases hs:key x < 0
    · rw [decide_eq_true hs]
      obtain ⟨fk,fn⟩:=Go.Ev.key_fneg hx
      have ff:isFin (fneg x)=true:=Go.Ev.fin_between (lo:=13875379345695965184) (hi:=4652007308841189376) fn (by omega) (by omega) (by omega) (by omega)
      show toA ddL mth x (fneg x)=_
      rcases toA_eq ff (by omega) (by omega) x with ⟨m,ht,he⟩ | ⟨hn,he⟩
      · have ht':IsT x (-(m:Int)):=⟨by have:=ht.1; omega,by rw [mth_negk ht.1,ht.2,fk]; omega⟩
        obtain ⟨b1,b2⟩:=isT_tb h ht'
        rw [he,← yes b1,b2,Go.Ev.flt_key hx n3,key0,decide_eq_true hs,if_pos rfl]
        have hm0:m≠0:=by
          intro e0
          subst e0
          have e1:key (mth 0)=0:=by decide +kernel
          have:=ht.2
          have:key (mth 0)=key (fneg x):=this
          omega
        unfold dcT
        rw [if_pos (by omega),show (-(m:Int)).natAbs=m by omega]
      · rw [he]
        apply no
        cases hb:tbX x
        · rfl
        · have ht:=tb_isT hb
          by_cases hn0:0≤tnX x
          · have:=mth_sign ht.1 hn0
            have:=ht.2
            omega
          · exact absurd (show IsT (fneg x) ((tnX x).natAbs:Nat) from ⟨by have:=ht.1; omega,by rw [show (((tnX x).natAbs:Nat):Int)=-(tnX x) by omega,mth_negk ht.1,ht.2,fk]⟩) (hn _)
    · rw [decide_eq_false hs]
      show toA ddL mth x x=_
      rcases toA_eq h.fin (by omega) hr.2 x with ⟨m,ht,he⟩ | ⟨hn,he⟩
      · obtain ⟨b1,b2⟩:=isT_tb h ht
        rw [he,← yes b1,b2,Go.Ev.flt_key hx n3,key0,decide_eq_false hs,if_neg (by decide)]
        unfold dcT
        rw [if_neg (by omega),Int.natAbs_natCast]
      · rw [he]
        apply no
        cases hb:tbX x
        · rfl
        · have ht:=tb_isT hb
          by_cases hn0:0≤tnX x
          · obtain ⟨k,hk⟩:=Int.eq_ofNat_of_zero_le hn0
            rw [hk] at ht
            exact absurd ht (hn k)
          · have a:=mth_sign (n:=-(tnX x)) (by have:=ht.1; omega) (by omega)
            rw [mth_negk ht.1] at a
            have kz:key x=0:=by have:=ht.2; omega
            have:IsT x 0:=⟨by decide,by rw [kz]; decide +kernel⟩
            exact absurd this (hn 0)
  · have hb:tbX x=false:=by
      cases hb:tbX x
      · rfl
      · have ht:=tb_isT hb
        have:=mth_rng ht.1
        have:=ht.2
        omega
    rw [← no hb]
    by_cases h1:-4652007308841189376≤key x
    · rw [decide_eq_true h1,cond_true,decide_eq_false (by omega)]; rfl
    · rw [decide_eq_false h1]; rfl
end Go.Proofs.YtefphimaggjihaaGreatDoor.Pi

namespace Go.Proofs.YtefphimaggjihaaGreatDoor.Pi
open Go.Shelf Go.RowKit Go.Gv
def gTo (ts:Nat→ByteArray) (tb:Nat→Bool):List AV→AV
  | [.f w]=>.tup [zA (ts w),bA (tb w)]
  | _=>.any
def spS:ByteArray:=⟨#[32]⟩
section
variable (ts:Nat→ByteArray) (tb:Nat→Bool) (dd:Int→ByteArray)
def FTo (x:Nat):Prop:=FSpec Tryz.prog 36 [.f x] (.tup [zA (ts x),bA (tb x)])
noncomputable def taS (x:Nat) (s:ByteArray) (K:ByteArray→Option Out):Option Out:=gate (FTo ts tb x) (cond (!(tb x)) toNo (cond (catF s spS||false) (cond (catF (s ++ spS) (ts x)||false) (K ((s ++ spS) ++ ts x)) none) none))
def taE (s:ByteArray):Option Out:=some (Out.of (.tup [zA s,bA true]))
theorem ta1_ev (x:Nat):ev Tryz.prog [] [kS Tryz.prog 36 (gTo ts tb)] noL Tryz.f34 [flL [x]] ret=taS ts tb x ⟨#[]⟩ taE:=by kernel_rfl
theorem ta3_ev (x y z:Nat):ev Tryz.prog [] [kS Tryz.prog 36 (gTo ts tb)] noL Tryz.f34 [flL [x,y,z]] ret=taS ts tb x ⟨#[]⟩ fun s=>taS ts tb y s fun s=>taS ts tb z s taE:=by kernel_rfl
theorem ts_ev (k:Int):ev Tryz.prog [] [kS Tryz.prog 23 (gDd dd)] noL Tryz.f39 [iA k] ret=gate (FDd dd k) (cond (catF ⟨#[32,115]⟩ (dd k)||false) (cond (catF (⟨#[32,115]⟩ ++ dd k) ⟨#[32,59,10]⟩||false) (some (Out.of (zA ((⟨#[32,115]⟩ ++ dd k) ++ ⟨#[32,59,10]⟩)))) none) none):=by kernel_rfl
end
end Go.Proofs.YtefphimaggjihaaGreatDoor.Pi

namespace Go.Proofs.YtefphimaggjihaaGreatDoor.Pi
open Go.Shelf Go.RowKit Go.Gv
open Go.Ev (NearF)
/-- What is told of a number: its bytes, where it can be told. -/
def tsX (x:Nat):ByteArray:=cond (tbX x) (lB (dcT (tnX x))) ⟨#[]⟩
theorem to_ok {x:Nat} (h:NearF x):FTo tsX tbX x:=by
  have:=told_spec h
  unfold FTo tsX
  unfold toV at this
  cases hb:tbX x
  · rw [hb] at this; exact this
  · rw [hb] at this; exact this
/-- Numbers told, each with a blank ahead. -/
def spT (xs:List Nat):List UInt8:=tks true (xs.map fun x=>dcT (tnX x))
theorem spT_cons (x:Nat) (xs:List Nat):spT (x::xs)=32::(dcT (tnX x) ++ spT xs):=rfl
theorem taS_eq {x:Nat} (h:NearF x) {l:List UInt8} (hl:l.length≤1000) (K:ByteArray→Option Out):taS tsX tbX x (lB l) K=cond (tbX x) (K (lB (l ++ (32::dcT (tnX x))))) toNo:=by
  unfold taS
  rw [gate_pos (to_ok h)]
  cases hb:tbX x
  · rfl
  · have e:tsX x=lB (dcT (tnX x)):=by unfold tsX; rw [hb]; rfl
    have hd:=(dc_ne _ (Nat.le_trans (tn_few x) (by decide))).2
    rw [e,show spS=lB [32] from rfl,cat_t (by rw [size_lB,size_lB]; show _+1≤_; omega),lB_app,cat_t (by rw [size_lB,size_lB,List.length_append]; show _+1+_≤_; omega),lB_app,List.append_assoc]
    rfl
def taV (ok:Bool) (l:List UInt8):AV:=cond ok (.tup [zA (lB l),bA true]) (.tup [zA (lB []),bA false])
theorem ta1_spec {x:Nat} (h:NearF x):FSpec Tryz.prog 34 [flL [x]] (taV (tbX x) (spT [x])):=by
  refine gspec e_nil (k_cons kS_ok k_nil) Tryz.func34 (by kernel_rfl) (by kernel_rfl) noL_ok rfl ((ta1_ev tsX tbX x).trans ?_)
  rw [show (⟨#[]⟩:ByteArray)=lB [] from rfl,taS_eq h (by simp)]
  have e:spT [x]=32::dcT (tnX x):=by rw [spT_cons]; show 32::(dcT (tnX x) ++ [])=_; rw [List.append_nil]
  rw [e]
  cases tbX x<;>rfl
theorem ta3_spec {x y z:Nat} (hx:NearF x) (hy:NearF y) (hz:NearF z):FSpec Tryz.prog 34 [flL [x,y,z]] (taV (tbX x&&(tbX y&&tbX z)) (spT [x,y,z])):=by
  refine gspec e_nil (k_cons kS_ok k_nil) Tryz.func34 (by kernel_rfl) (by kernel_rfl) noL_ok rfl ((ta3_ev tsX tbX x y z).trans ?_)
  have dx:=(dc_ne _ (Nat.le_trans (tn_few x) (by decide))).2
  have dy:=(dc_ne _ (Nat.le_trans (tn_few y) (by decide))).2
  rw [show (⟨#[]⟩:ByteArray)=lB [] from rfl,taS_eq hx (by simp)]
  cases tbX x
  · rfl
  · rw [cond_true,taS_eq hy (by simp; omega)]
    cases tbX y
    · rfl
    · rw [cond_true,taS_eq hz (by simp; omega)]
      have e:spT [x,y,z]=(([] ++ (32::dcT (tnX x))) ++ (32::dcT (tnX y))) ++ (32::dcT (tnX z)):=by simp [spT,tks]
      rw [e]
      cases tbX z<;>rfl
/-- The end of a thing: its skin. -/
def wearT (k:Int):List UInt8:=[32,115] ++ (Lib.itoa k ++ [32,59,10])
theorem ts_spec {k:Int} (h0:0≤k) (h1:k < 100000000):FSpec Tryz.prog 39 [iA k] (zA (lB (wearT k))):=by
  refine gspec e_nil (k_cons kS_ok k_nil) Tryz.func39 (by kernel_rfl) (by kernel_rfl) noL_ok rfl ((ts_ev ddL k).trans ?_)
  have hd:FDd ddL k:=dec_spec h0 h1
  have hl:=(it_few h0 h1).2
  rw [gate_pos hd,show (⟨#[32,115]⟩:ByteArray)=lB [32,115] from rfl,show (⟨#[32,59,10]⟩:ByteArray)=lB [32,59,10] from rfl,show ddL k=lB (Lib.itoa k) from rfl,cat_t (by rw [size_lB,size_lB]; show 2+_≤_; omega),lB_app,cat_t (by rw [size_lB,size_lB,List.length_append]; show 2+_+3≤_; omega),lB_app,List.append_assoc]
  rfl
theorem wear_eq (k:Int):lineE true [nmT k]=wearT k:=by simp [lineE,tks,wearT,nmT]
end Go.Proofs.YtefphimaggjihaaGreatDoor.Pi

namespace Go.Proofs.YtefphimaggjihaaGreatDoor.Pi
open Go.Shelf Go.RowKit Go.Gv
section
variable (x y z:Nat) (s:ByteArray) (b:Bool)
theorem tv_ev:evM Tryz.prog [] [kS Tryz.prog 34 (fun _=>.tup [zA s,bA b])] [born 88] noL Tryz.f33 [.agg [.f x,.f y,.f z]] ret=gate (FSpec Tryz.prog 34 [flL [x,y,z]] (.tup [zA s,bA b])) (some (Out.of (.tup [zA s,bA b]))):=by kernel_rfl
end
end Go.Proofs.YtefphimaggjihaaGreatDoor.Pi

namespace Go.Proofs.YtefphimaggjihaaGreatDoor.Pi
open Go.Shelf Go.RowKit Go.Gv
section
variable (dd:Int→ByteArray) (a b c:Int)
def tw1:ByteArray:=spS ++ dd a
def tw2:ByteArray:=tw1 dd a ++ spS
def tw3:ByteArray:=tw2 dd a ++ dd b
def tw4:ByteArray:=tw3 dd a b ++ spS
def tw5:ByteArray:=tw4 dd a b ++ dd c
noncomputable def twB:Bool:=((catF spS (dd a)||false)&&((catF (tw1 dd a) spS||false)&&((catF (tw2 dd a) (dd b)||false)&&((catF (tw3 dd a b) spS||false)&&((catF (tw4 dd a b) (dd c)||false)&&true)))))
theorem tw_ev:ev Tryz.prog [] [kS Tryz.prog 23 (gDd dd)] noL Tryz.f35 [.agg [iA a,iA b,iA c]] ret=gate (FDd dd a) (gate (FDd dd b) (gate (FDd dd c) (cond (twB dd a b c) (some (Out.of (zA (tw5 dd a b c)))) none))):=by kernel_rfl
end
end Go.Proofs.YtefphimaggjihaaGreatDoor.Pi

namespace Go.Proofs.YtefphimaggjihaaGreatDoor.Pi
open Go.Shelf Go.RowKit Go.Gv
open Go.Ev (NearF)
theorem taV_tup (ok:Bool) (l:List UInt8):taV ok l=.tup [zA (lB (cond ok l [])),bA ok]:=by cases ok<;>rfl
theorem tv_spec {x y z:Nat} (hx:NearF x) (hy:NearF y) (hz:NearF z):FSpec Tryz.prog 33 [.agg [.f x,.f y,.f z]] (taV (tbX x&&(tbX y&&tbX z)) (spT [x,y,z])):=by
  have h:=ta3_spec hx hy hz
  rw [taV_tup] at h ⊢
  exact gspecM e_nil (k_cons kS_ok k_nil) (m_cons (born_ok _) m_nil) Tryz.func33 (by kernel_rfl) (by kernel_rfl) noL_ok rfl ((tv_ev x y z _ _).trans (gate_pos h))
/-- Three whole numbers, each with a blank ahead. -/
theorem tw_spec {f:Nat→Int} (h:∀ q,q < 3→0≤f q∧f q≤65536):FSpec Tryz.prog 35 [.agg [iA (f 0),iA (f 1),iA (f 2)]] (zA (lB (tks true (whT f)))):=by
  have a0:=h 0 (by decide)
  have a1:=h 1 (by decide)
  have a2:=h 2 (by decide)
  refine gspec e_nil (k_cons kS_ok k_nil) Tryz.func35 (by kernel_rfl) (by kernel_rfl) noL_ok rfl ((tw_ev ddL (f 0) (f 1) (f 2)).trans ?_)
  have h0:FDd ddL (f 0):=dec_spec a0.1 (by omega)
  have h1:FDd ddL (f 1):=dec_spec a1.1 (by omega)
  have h2:FDd ddL (f 2):=dec_spec a2.1 (by omega)
  have l0:=(it_few (n:=f 0) a0.1 (by omega)).2
  have l1:=(it_few (n:=f 1) a1.1 (by omega)).2
  have l2:=(it_few (n:=f 2) a2.1 (by omega)).2
  have e0:spS=lB [32]:=rfl
  have d0:ddL (f 0)=lB (Lib.itoa (f 0)):=rfl
  have d1:ddL (f 1)=lB (Lib.itoa (f 1)):=rfl
  have d2:ddL (f 2)=lB (Lib.itoa (f 2)):=rfl
  have t1:tw1 ddL (f 0)=lB ([32] ++ Lib.itoa (f 0)):=by unfold tw1; rw [e0,d0,lB_app]
  have t2:tw2 ddL (f 0)=lB (([32] ++ Lib.itoa (f 0)) ++ [32]):=by unfold tw2; rw [t1,e0,lB_app]
  have t3:tw3 ddL (f 0) (f 1)=lB ((([32] ++ Lib.itoa (f 0)) ++ [32]) ++ Lib.itoa (f 1)):=by unfold tw3; rw [t2,d1,lB_app]
  have t4:tw4 ddL (f 0) (f 1)=lB (((([32] ++ Lib.itoa (f 0)) ++ [32]) ++ Lib.itoa (f 1)) ++ [32]):=by unfold tw4; rw [t3,e0,lB_app]
  have t5:tw5 ddL (f 0) (f 1) (f 2)=lB (tks true (whT f)):=by unfold tw5; rw [t4,d2,lB_app]; congr 1; simp [tks,whT]
  have hB:twB ddL (f 0) (f 1) (f 2)=true:=by
    unfold twB
    rw [t1,t2,t3,t4,e0,d0,d1,d2,cat_t (by rw [size_lB,size_lB]; simp; omega),cat_t (by rw [size_lB,size_lB]; simp; omega),cat_t (by rw [size_lB,size_lB]; simp; omega),cat_t (by rw [size_lB,size_lB]; simp; omega),cat_t (by rw [size_lB,size_lB]; simp; omega)]
    rfl
  rw [gate_pos h0,gate_pos h1,gate_pos h2,hB,t5]
  rfl
end Go.Proofs.YtefphimaggjihaaGreatDoor.Pi

namespace Go.Proofs.YtefphimaggjihaaGreatDoor.Pi
open Go.Shelf Go.RowKit Go.Gv Hs
open Go.Ev (feq)
def gTv (vs:Nat→Nat→Nat→ByteArray) (vb:Nat→Nat→Nat→Bool):List AV→AV
  | [.agg [.f x,.f y,.f z]]=>.tup [zA (vs x y z),bA (vb x y z)]
  | _=>.any
def gT1 (ws:Nat→ByteArray) (wb:Nat→Bool):List AV→AV
  | [.sl _ _ el]=>match el 0 with
    | [.f x]=>.tup [zA (ws x),bA (wb x)]
    | _=>.any
  | _=>.any
/-- Strings laid together, one behind the other. -/
noncomputable def catL:ByteArray→List ByteArray→Bool
  | _,[]=>true
  | s,t::r=>(catF s t||false)&&catL (s ++ t) r
def apL:ByteArray→List ByteArray→ByteArray
  | s,[]=>s
  | s,t::r=>apL (s ++ t) r
section
variable (vs:Nat→Nat→Nat→ByteArray) (vb:Nat→Nat→Nat→Bool) (ws:Nat→ByteArray) (wb:Nat→Bool) (a:Nat→Nat) (sk:Int)
def FTv (i:Nat):Prop:=FSpec Tryz.prog 33 [.agg [.f (a i),.f (a (i+1)),.f (a (i+2))]] (.tup [zA (vs (a i) (a (i+1)) (a (i+2))),bA (vb (a i) (a (i+1)) (a (i+2)))])
def FT1 (i:Nat):Prop:=FSpec Tryz.prog 34 [flL [a i]] (.tup [zA (ws (a i)),bA (wb (a i))])
def noB (i:Nat):Bool:=noughtB (a i) (a (i+1)) (a (i+2))
def vS (i:Nat):ByteArray:=vs (a i) (a (i+1)) (a (i+2))
def vK (i:Nat):Bool:=vb (a i) (a (i+1)) (a (i+2))
noncomputable def tfX (o:Option Out):Option Out:=gate (FTv vs vb a 0) (gate (FTv vs vb a 3) (gate (FTv vs vb a 6) (gate (FT1 ws wb a 9) (gate (FT1 ws wb a 10)
  (cond (cond (cond (cond (cond (!(vK vb a 0)) true (!(vK vb a 3))) true (!(vK vb a 6))) true (!(wb (a 9)))) true (!(wb (a 10)))) toNo o)))))
noncomputable def tfK:List KEntry:=[kS Tryz.prog 33 (gTv vs vb),kS Tryz.prog 34 (gT1 ws wb)]
/-- The same, one check after the other. -/
noncomputable def tfP (b:Bool):ByteArray→List ByteArray→Option Out
  | s,[]=>some (Out.of (.tup [zA s,bA b]))
  | s,t::r=>cond (catF s t||false) (tfP b (s ++ t) r) none
noncomputable def tfO (s:ByteArray) (l:List ByteArray) (b:Bool):Option Out:=cond (catL s l) (some (Out.of (.tup [zA (apL s l),bA b]))) none
theorem tf1_ev:evM Tryz.prog [⟨96,eV fun a b c=>bA (noughtB a b c)⟩] (tfK vs vb ws wb) [born 88] noL Tryz.f38 [.agg (shC 1 a sk)] ret =
  tfX vs vb ws wb a (tfO ⟨#[98,97,108,108]⟩ [vS vs a 0,⟨#[32,114,97,100,105,117,115]⟩,ws (a 9)] (cond (cond (noB a 3) (noB a 6) false) (feq (a 10) 0) false)):=by kernel_rfl
theorem tf2_ev:evM Tryz.prog [⟨96,eV fun a b c=>bA (noughtB a b c)⟩] (tfK vs vb ws wb) [born 88] noL Tryz.f38 [.agg (shC 2 a sk)] ret =
  tfX vs vb ws wb a (tfO ⟨#[98,108,111,99,107]⟩ [vS vs a 0,⟨#[32,116,111]⟩,vS vs a 3] (cond (cond (noB a 6) (feq (a 9) 0) false) (feq (a 10) 0) false)):=by kernel_rfl
theorem tf3_ev:evM Tryz.prog [⟨96,eV fun a b c=>bA (noughtB a b c)⟩] (tfK vs vb ws wb) [born 88] noL Tryz.f38 [.agg (shC 3 a sk)] ret =
  tfX vs vb ws wb a (tfO ⟨#[116,114,105]⟩ [vS vs a 0,⟨#[32,44]⟩,vS vs a 3,⟨#[32,44]⟩,vS vs a 6] (cond (feq (a 9) 0) (feq (a 10) 0) false)):=by kernel_rfl
theorem tf4_ev:evM Tryz.prog [⟨96,eV fun a b c=>bA (noughtB a b c)⟩] (tfK vs vb ws wb) [born 88] noL Tryz.f38 [.agg (shC 4 a sk)] ret =
  tfX vs vb ws wb a (tfO ⟨#[112,108,97,116,101]⟩ [vS vs a 0,⟨#[32,117,112]⟩,vS vs a 3,⟨#[32,114,97,100,105,117,115]⟩,ws (a 9)] (cond (noB a 6) (feq (a 10) 0) false)):=by kernel_rfl
theorem tf5_ev:evM Tryz.prog [⟨96,eV fun a b c=>bA (noughtB a b c)⟩] (tfK vs vb ws wb) [born 88] noL Tryz.f38 [.agg (shC 5 a sk)] ret =
  tfX vs vb ws wb a (tfO ⟨#[116,117,98,101]⟩ [vS vs a 0,⟨#[32,97,108,111,110,103]⟩,vS vs a 3,⟨#[32,114,97,100,105,117,115]⟩,ws (a 9)] (cond (noB a 6) (feq (a 10) 0) false)):=by kernel_rfl
theorem tf6_ev:evM Tryz.prog [⟨96,eV fun a b c=>bA (noughtB a b c)⟩] (tfK vs vb ws wb) [born 88] noL Tryz.f38 [.agg (shC 6 a sk)] ret =
  tfX vs vb ws wb a (tfP (noB a 6) ⟨#[114,105,110,103]⟩ [vS vs a 0,⟨#[32,117,112]⟩,vS vs a 3,⟨#[32,114,97,100,105,117,115]⟩,ws (a 9),ws (a 10)]):=by kernel_rfl
end
end Go.Proofs.YtefphimaggjihaaGreatDoor.Pi

namespace Go.Proofs.YtefphimaggjihaaGreatDoor.Pi
open Go.Shelf Go.RowKit Go.Gv Hs
open Go.Ev (feq isNan key NearF)
theorem apL_lB:∀ (l:List UInt8) (r:List (List UInt8)),apL (lB l) (r.map lB)=lB (l ++ r.flatten)
  | l,[]=>by simp [apL]
  | l,t::r=>by
    show apL (lB l ++ lB t) (r.map lB)=_
    rw [lB_app,apL_lB (l ++ t) r,List.flatten_cons,List.append_assoc]
theorem catL_lB:∀ (l:List UInt8) (r:List (List UInt8)),l.length+r.flatten.length≤1000000000→catL (lB l) (r.map lB)=true
  | _,[],_=>rfl
  | l,t::r,h=>by
    rw [List.flatten_cons,List.length_append] at h
    show ((catF (lB l) (lB t)||false)&&catL (lB l ++ lB t) (r.map lB))=true
    rw [cat_t (by rw [size_lB,size_lB]; omega),lB_app,catL_lB (l ++ t) r (by rw [List.length_append]; omega)]
    rfl
theorem tfO_lB {l:List UInt8} {r:List (List UInt8)} (h:l.length+r.flatten.length≤1000000000) (b:Bool):tfO (lB l) (r.map lB) b=some (Out.of (.tup [zA (lB (l ++ r.flatten)),bA b])):=by
  unfold tfO
  rw [catL_lB l r h,apL_lB]
  rfl
theorem tfP_lB (b:Bool):∀ (l:List UInt8) (r:List (List UInt8)),l.length+r.flatten.length≤1000000000→tfP b (lB l) (r.map lB)=some (Out.of (.tup [zA (lB (l ++ r.flatten)),bA b]))
  | l,[],_=>by simp [tfP]
  | l,t::r,h=>by
    rw [List.flatten_cons,List.length_append] at h
    show cond (catF (lB l) (lB t)||false) (tfP b (lB l ++ lB t) (r.map lB)) none=_
    rw [cat_t (by rw [size_lB,size_lB]; omega),lB_app,tfP_lB b (l ++ t) r (by rw [List.length_append]; omega),List.flatten_cons,List.append_assoc]
    rfl
theorem near_nan {x:Nat} (h:NearF x):isNan x=false:=Go.Ev.fin_not_nan h.fin
theorem feq_me {x:Nat} (h:NearF x):feq x x=true:=by rw [Go.Ev.feq_self,near_nan h]; rfl
theorem feq_0 {x:Nat} (h:NearF x):feq 0 x=feq x 0:=by
  have n0:isNan 0=false:=by decide +kernel
  rw [Go.Ev.feq_key n0 (near_nan h),Go.Ev.feq_key (near_nan h) n0]
  by_cases hk:key 0=key x
  · rw [decide_eq_true hk,decide_eq_true hk.symm]
  · rw [decide_eq_false hk,decide_eq_false fun e=>hk e.symm]
/-- A nought can be told. -/
theorem tb_0 {x:Nat} (h:NearF x) (h0:feq x 0=true):tbX x=true:=by
  obtain ⟨_,_,hk⟩:=Go.Ev.feq_true h0
  exact (isT_tb (n:=0) h ⟨by decide,by rw [hk,key0]; decide +kernel⟩).1
end Go.Proofs.YtefphimaggjihaaGreatDoor.Pi

namespace Go.Proofs.YtefphimaggjihaaGreatDoor.Pi
open Go.Shelf Go.RowKit Go.Gv Hs
open Go.Ev (feq isNan key NearF)
def vbX (x y z:Nat):Bool:=tbX x&&(tbX y&&tbX z)
def vsX (x y z:Nat):ByteArray:=lB (cond (vbX x y z) (spT [x,y,z]) [])
def wsX (x:Nat):ByteArray:=lB (cond (tbX x) (spT [x]) [])
def vX (a:Nat→Nat) (i:Nat):Bool:=vbX (a i) (a (i+1)) (a (i+2))
/-- All numbers of a shape can be told. -/
def allT (a:Nat→Nat):Bool:=vX a 0&&(vX a 3&&(vX a 6&&(tbX (a 9)&&tbX (a 10))))
section
variable {a:Nat→Nat}
theorem tv_X {x y z:Nat} (hx:NearF x) (hy:NearF y) (hz:NearF z):FSpec Tryz.prog 33 [.agg [.f x,.f y,.f z]] (.tup [zA (vsX x y z),bA (vbX x y z)]):=by
  have h:=tv_spec hx hy hz
  rw [taV_tup] at h
  exact h
theorem ta_X {x:Nat} (hx:NearF x):FSpec Tryz.prog 34 [flL [x]] (.tup [zA (wsX x),bA (tbX x)]):=by
  have h:=ta1_spec hx
  rw [taV_tup] at h
  exact h
theorem tfX_eq (h:∀ i,i < 11→NearF (a i)) (o:Option Out):tfX vsX vbX wsX tbX a o=cond (allT a) o toNo:=by
  unfold tfX
  rw [gate_pos (show FTv vsX vbX a 0 from tv_X (h 0 (by decide)) (h 1 (by decide)) (h 2 (by decide))),gate_pos (show FTv vsX vbX a 3 from tv_X (h 3 (by decide)) (h 4 (by decide)) (h 5 (by decide))),gate_pos (show FTv vsX vbX a 6 from tv_X (h 6 (by decide)) (h 7 (by decide)) (h 8 (by decide))),
    gate_pos (show FT1 wsX tbX a 9 from ta_X (h 9 (by decide))),gate_pos (show FT1 wsX tbX a 10 from ta_X (h 10 (by decide)))]
  unfold allT
  show cond (cond (cond (cond (cond (!(vX a 0)) true (!(vX a 3))) true (!(vX a 6))) true (!(tbX (a 9)))) true (!(tbX (a 10)))) toNo o=_
  cases vX a 0<;>cases vX a 3<;>cases vX a 6<;>cases tbX (a 9)<;>cases tbX (a 10)<;>rfl
theorem and_5 {p q r s t:Bool} (h:(p&&(q&&(r&&(s&&t))))=true):p=true∧q=true∧r=true∧s=true∧t=true:=by
  revert h; cases p<;>cases q<;>cases r<;>cases s<;>cases t<;>simp
theorem vS_t {i:Nat} (h:vX a i=true):vS vsX a i=lB (spT [a i,a (i+1),a (i+2)]):=by
  show lB (cond (vX a i) _ _)=_
  rw [h]; rfl
theorem wS_t {x:Nat} (h:tbX x=true):wsX x=lB (spT [x]):=by unfold wsX; rw [h]; rfl
theorem vB_eq (i:Nat):vB tbX a i=!(vX a i):=by
  show (!(tbX (a i))||(!(tbX (a (i+1)))||!(tbX (a (i+2)))))=!(tbX (a i)&&(tbX (a (i+1))&&tbX (a (i+2))))
  cases tbX (a i)<;>cases tbX (a (i+1))<;>cases tbX (a (i+2))<;>rfl
theorem eqV_me {t:Nat→Nat} {i:Nat} (h0:NearF (a i)) (h1:NearF (a (i+1))) (h2:NearF (a (i+2))) (e0:t i=a i) (e1:t (i+1)=a (i+1)) (e2:t (i+2)=a (i+2)):eqV t a i=true:=by
  unfold eqV
  rw [e0,e1,e2,feq_me h0,feq_me h1,feq_me h2]
  rfl
theorem eqV_no {t:Nat→Nat} {i:Nat} (h0:NearF (a i)) (h1:NearF (a (i+1))) (h2:NearF (a (i+2))) (e0:t i=0) (e1:t (i+1)=0) (e2:t (i+2)=0):eqV t a i=noB a i:=by
  unfold eqV noB noughtB
  rw [e0,e1,e2,feq_0 h0,feq_0 h1,feq_0 h2]
  cases feq (a i) 0<;>cases feq (a (i+1)) 0<;>cases feq (a (i+2)) 0<;>rfl
theorem no_vX {i:Nat} (h0:NearF (a i)) (h1:NearF (a (i+1))) (h2:NearF (a (i+2))) (h:noB a i=true):vX a i=true:=by
  unfold noB noughtB at h
  unfold vX vbX
  cases c0:feq (a i) 0
  · rw [c0] at h; cases h
  · cases c1:feq (a (i+1)) 0
    · rw [c0,c1] at h; cases h
    · cases c2:feq (a (i+2)) 0
      · rw [c0,c1,c2] at h; cases h
      · rw [tb_0 h0 c0,tb_0 h1 c1,tb_0 h2 c2]; rfl
theorem imp_b {p q:Bool} (h:p=true→q=true):(!p||q)=true:=by
  cases p
  · rfl
  · rw [h rfl]; rfl
theorem o1:∀ v0 v3 v6 b9 b10 n3 n6 z10:Bool,(!n3||v3)=true→(!n6||v6)=true→(!z10||b10)=true→(!(!v0||(!b9||!(true&&(true&&(n3&&(n6&&(true&&(z10&&(true&&true))))))))))=((v0&&(v3&&(v6&&(b9&&b10))))&&cond (cond n3 n6 false) z10 false):=by decide
theorem o2:∀ v0 v3 v6 b9 b10 n6 z9 z10:Bool,(!n6||v6)=true→(!z9||b9)=true→(!z10||b10)=true→(!(!v0||(!v3||!(true&&(true&&(true&&(n6&&(z9&&(z10&&(true&&true))))))))))=((v0&&(v3&&(v6&&(b9&&b10))))&&cond (cond n6 z9 false) z10 false):=by decide
theorem o3:∀ v0 v3 v6 b9 b10 z9 z10:Bool,(!z9||b9)=true→(!z10||b10)=true→(!(!v0||(!v3||(!v6||!(true&&(true&&(true&&(true&&(z9&&(z10&&(true&&true)))))))))))=((v0&&(v3&&(v6&&(b9&&b10))))&&cond z9 z10 false):=by decide
theorem o4:∀ v0 v3 v6 b9 b10 n6 z10:Bool,(!n6||v6)=true→(!z10||b10)=true→(!((!v0||(!v3||!b9))||!(true&&(true&&(true&&(n6&&(true&&(z10&&(true&&true)))))))))=((v0&&(v3&&(v6&&(b9&&b10))))&&cond n6 z10 false):=by decide
theorem o6:∀ v0 v3 v6 b9 b10 n6:Bool,(!n6||v6)=true→(!((!v0||(!v3||!b9))||(!b10||!(true&&(true&&(true&&(n6&&(true&&(true&&(true&&true))))))))))=((v0&&(v3&&(v6&&(b9&&b10))))&&n6):=by decide
theorem beqI (k:Int):(k==k)=true:=BEq.rfl
section
variable (h:∀ i,i < 11→NearF (a i)) (sk:Int)
include h
theorem oq1:(!(shB1 tbX a sk))=(allT a&&cond (cond (noB a 3) (noB a 6) false) (feq (a 10) 0) false):=by
  have e0:eqV (t1 a) a 0=true:=eqV_me (h 0 (by decide)) (h 1 (by decide)) (h 2 (by decide)) rfl rfl rfl
  have e3:eqV (t1 a) a 3=noB a 3:=eqV_no (h 3 (by decide)) (h 4 (by decide)) (h 5 (by decide)) rfl rfl rfl
  have e6:eqV (t1 a) a 6=noB a 6:=eqV_no (h 6 (by decide)) (h 7 (by decide)) (h 8 (by decide)) rfl rfl rfl
  unfold shB1 eqS allT
  rw [e0,e3,e6,show t1 a 9=a 9 from rfl,show t1 a 10=0 from rfl,feq_me (h 9 (by decide)),feq_0 (h 10 (by decide)),beqI,beqI,vB_eq]
  exact o1 _ _ _ _ _ _ _ _ (imp_b (no_vX (h 3 (by decide)) (h 4 (by decide)) (h 5 (by decide)))) (imp_b (no_vX (h 6 (by decide)) (h 7 (by decide)) (h 8 (by decide)))) (imp_b (tb_0 (h 10 (by decide))))
theorem oq2:(!(shB2 tbX a sk))=(allT a&&cond (cond (noB a 6) (feq (a 9) 0) false) (feq (a 10) 0) false):=by
  have e0:eqV (t2 a) a 0=true:=eqV_me (h 0 (by decide)) (h 1 (by decide)) (h 2 (by decide)) rfl rfl rfl
  have e3:eqV (t2 a) a 3=true:=eqV_me (h 3 (by decide)) (h 4 (by decide)) (h 5 (by decide)) rfl rfl rfl
  have e6:eqV (t2 a) a 6=noB a 6:=eqV_no (h 6 (by decide)) (h 7 (by decide)) (h 8 (by decide)) rfl rfl rfl
  unfold shB2 eqS allT
  rw [e0,e3,e6,show t2 a 9=0 from rfl,show t2 a 10=0 from rfl,feq_0 (h 9 (by decide)),feq_0 (h 10 (by decide)),beqI,beqI,vB_eq,vB_eq]
  exact o2 _ _ _ _ _ _ _ _ (imp_b (no_vX (h 6 (by decide)) (h 7 (by decide)) (h 8 (by decide)))) (imp_b (tb_0 (h 9 (by decide)))) (imp_b (tb_0 (h 10 (by decide))))
theorem oq3:(!(shB3 tbX a sk))=(allT a&&cond (feq (a 9) 0) (feq (a 10) 0) false):=by
  have e0:eqV (t3 a) a 0=true:=eqV_me (h 0 (by decide)) (h 1 (by decide)) (h 2 (by decide)) rfl rfl rfl
  have e3:eqV (t3 a) a 3=true:=eqV_me (h 3 (by decide)) (h 4 (by decide)) (h 5 (by decide)) rfl rfl rfl
  have e6:eqV (t3 a) a 6=true:=eqV_me (h 6 (by decide)) (h 7 (by decide)) (h 8 (by decide)) rfl rfl rfl
  unfold shB3 eqS allT
  rw [e0,e3,e6,show t3 a 9=0 from rfl,show t3 a 10=0 from rfl,feq_0 (h 9 (by decide)),feq_0 (h 10 (by decide)),beqI,beqI,vB_eq,vB_eq,vB_eq]
  exact o3 _ _ _ _ _ _ _ (imp_b (tb_0 (h 9 (by decide)))) (imp_b (tb_0 (h 10 (by decide))))
theorem oq4 (k:Int):(!((vB tbX a 0||(vB tbX a 3||!(tbX (a 9))))||!(eqS k (t4 a) a sk)))=(allT a&&cond (noB a 6) (feq (a 10) 0) false):=by
  have e0:eqV (t4 a) a 0=true:=eqV_me (h 0 (by decide)) (h 1 (by decide)) (h 2 (by decide)) rfl rfl rfl
  have e3:eqV (t4 a) a 3=true:=eqV_me (h 3 (by decide)) (h 4 (by decide)) (h 5 (by decide)) rfl rfl rfl
  have e6:eqV (t4 a) a 6=noB a 6:=eqV_no (h 6 (by decide)) (h 7 (by decide)) (h 8 (by decide)) rfl rfl rfl
  unfold eqS allT
  rw [e0,e3,e6,show t4 a 9=a 9 from rfl,show t4 a 10=0 from rfl,feq_me (h 9 (by decide)),feq_0 (h 10 (by decide)),beqI,beqI,vB_eq,vB_eq]
  exact o4 _ _ _ _ _ _ _ (imp_b (no_vX (h 6 (by decide)) (h 7 (by decide)) (h 8 (by decide)))) (imp_b (tb_0 (h 10 (by decide))))
theorem oq6:(!(shB6 tbX a sk))=(allT a&&noB a 6):=by
  have e0:eqV (t6 a) a 0=true:=eqV_me (h 0 (by decide)) (h 1 (by decide)) (h 2 (by decide)) rfl rfl rfl
  have e3:eqV (t6 a) a 3=true:=eqV_me (h 3 (by decide)) (h 4 (by decide)) (h 5 (by decide)) rfl rfl rfl
  have e6:eqV (t6 a) a 6=noB a 6:=eqV_no (h 6 (by decide)) (h 7 (by decide)) (h 8 (by decide)) rfl rfl rfl
  unfold shB6 eqS allT
  rw [e0,e3,e6,show t6 a 9=a 9 from rfl,show t6 a 10=a 10 from rfl,feq_me (h 9 (by decide)),feq_me (h 10 (by decide)),beqI,beqI,vB_eq,vB_eq]
  exact o6 _ _ _ _ _ _ (imp_b (no_vX (h 6 (by decide)) (h 7 (by decide)) (h 8 (by decide))))
end
/-- What toldForm gives. -/
def tfV (k:Int) (a:Nat→Nat) (sk:Int):AV:=.tup [zA (lB (cond (allT a) (tks false (shT dcT tnX k a)) [])),bA (!(shB tbX k a sk))]
theorem tf_gen {k:Int} {sk:Int} {b:Bool} {o:Option Out} (hb:(!(shB tbX k a sk))=(allT a&&b)) (l:List UInt8) (r:List (List UInt8)) (he:l ++ r.flatten=tks false (shT dcT tnX k a)) (ho:allT a=true→l.length+r.flatten.length≤1000000000→o=some (Out.of (.tup [zA (lB (l ++ r.flatten)),bA b]))):cond (allT a) o toNo=some (Out.of (tfV k a sk)):=by
  unfold tfV
  have hl:=tks_few false (shT_few k a)
  rw [← he,List.length_append] at hl
  rw [hb]
  cases h:allT a
  · rfl
  · rw [cond_true,ho h (by omega),he]; rfl
theorem form_spec {k:Int} (sk:Int) (hk:1≤k∧k≤6) (h:∀ i,i < 11→NearF (a i)):FSpec Tryz.prog 38 [.agg (shC k a sk)] (tfV k a sk):=by
  have hE:∀ e,e ∈ [(⟨96,eV fun a b c=>bA (noughtB a b c)⟩:Entry)]→EOk Tryz.prog e:=e_cons (eV_ok rnought) e_nil
  have hK:∀ e,e ∈ tfK vsX vbX wsX tbX→KOk Tryz.prog e:=k_cons kS_ok (k_cons kS_ok k_nil)
  have sp3:∀ x y z,spT [x,y,z]=tks true [ntk dcT tnX x,ntk dcT tnX y,ntk dcT tnX z]:=fun _ _ _=>rfl
  have sp1:∀ x,spT [x]=tks true [ntk dcT tnX x]:=fun _=>rfl
  rcases (show k=1∨k=2∨k=3∨k=4∨k=5∨k=6 by omega) with rfl | rfl | rfl | rfl | rfl | rfl
  · refine gspecM hE hK (m_cons (born_ok _) m_nil) Tryz.func38 (by kernel_rfl) (by kernel_rfl) noL_ok rfl ((tf1_ev vsX vbX wsX tbX a sk).trans ?_)
    rw [tfX_eq h]
    refine tf_gen (oq1 h sk) [98,97,108,108] [spT [a 0,a 1,a 2],[32,114,97,100,105,117,115],spT [a 9]] (by rw [sp3,sp1]; simp [shT,shT1,vT,rad]) fun hA hl=>?_
    obtain ⟨a1,a2,a3,a4,a5⟩:=and_5 hA
    rw [vS_t a1,wS_t a4]
    exact tfO_lB hl _
  · refine gspecM hE hK (m_cons (born_ok _) m_nil) Tryz.func38 (by kernel_rfl) (by kernel_rfl) noL_ok rfl ((tf2_ev vsX vbX wsX tbX a sk).trans ?_)
    rw [tfX_eq h]
    refine tf_gen (oq2 h sk) [98,108,111,99,107] [spT [a 0,a 1,a 2],[32,116,111],spT [a 3,a 4,a 5]] (by rw [sp3,sp3]; simp [shT,shT2,vT]) fun hA hl=>?_
    obtain ⟨a1,a2,a3,a4,a5⟩:=and_5 hA
    rw [vS_t a1,vS_t a2]
    exact tfO_lB hl _
  · refine gspecM hE hK (m_cons (born_ok _) m_nil) Tryz.func38 (by kernel_rfl) (by kernel_rfl) noL_ok rfl ((tf3_ev vsX vbX wsX tbX a sk).trans ?_)
    rw [tfX_eq h]
    refine tf_gen (oq3 h sk) [116,114,105] [spT [a 0,a 1,a 2],[32,44],spT [a 3,a 4,a 5],[32,44],spT [a 6,a 7,a 8]] (by rw [sp3,sp3,sp3]; simp [shT,shT3,vT]) fun hA hl=>?_
    obtain ⟨a1,a2,a3,a4,a5⟩:=and_5 hA
    rw [vS_t a1,vS_t a2,vS_t a3]
    exact tfO_lB hl _
  · refine gspecM hE hK (m_cons (born_ok _) m_nil) Tryz.func38 (by kernel_rfl) (by kernel_rfl) noL_ok rfl ((tf4_ev vsX vbX wsX tbX a sk).trans ?_)
    rw [tfX_eq h]
    refine tf_gen (oq4 h sk 4) [112,108,97,116,101] [spT [a 0,a 1,a 2],[32,117,112],spT [a 3,a 4,a 5],[32,114,97,100,105,117,115],spT [a 9]] (by rw [sp3,sp3,sp1]; simp [shT,shT4,rndT,vT,rad]) fun hA hl=>?_
    obtain ⟨a1,a2,a3,a4,a5⟩:=and_5 hA
    rw [vS_t a1,vS_t a2,wS_t a4]
    exact tfO_lB hl _
  · refine gspecM hE hK (m_cons (born_ok _) m_nil) Tryz.func38 (by kernel_rfl) (by kernel_rfl) noL_ok rfl ((tf5_ev vsX vbX wsX tbX a sk).trans ?_)
    rw [tfX_eq h]
    refine tf_gen (oq4 h sk 5) [116,117,98,101] [spT [a 0,a 1,a 2],[32,97,108,111,110,103],spT [a 3,a 4,a 5],[32,114,97,100,105,117,115],spT [a 9]] (by rw [sp3,sp3,sp1]; simp [shT,shT5,rndT,vT,rad]) fun hA hl=>?_
    obtain ⟨a1,a2,a3,a4,a5⟩:=and_5 hA
    rw [vS_t a1,vS_t a2,wS_t a4]
    exact tfO_lB hl _
  · refine gspecM hE hK (m_cons (born_ok _) m_nil) Tryz.func38 (by kernel_rfl) (by kernel_rfl) noL_ok rfl ((tf6_ev vsX vbX wsX tbX a sk).trans ?_)
    rw [tfX_eq h]
    refine tf_gen (oq6 h sk) [114,105,110,103] [spT [a 0,a 1,a 2],[32,117,112],spT [a 3,a 4,a 5],[32,114,97,100,105,117,115],spT [a 9],spT [a 10]] (by rw [sp3,sp3,sp1,sp1]; simp [shT,shT6,rndT,vT,rad]) fun hA hl=>?_
    obtain ⟨a1,a2,a3,a4,a5⟩:=and_5 hA
    rw [vS_t a1,vS_t a2,wS_t a4,wS_t a5]
    exact tfP_lB _ _ _ hl
end
end Go.Proofs.YtefphimaggjihaaGreatDoor.Pi

namespace Go.Proofs.YtefphimaggjihaaGreatDoor.Pi
open Go.Shelf Go.RowKit Go.Gv
open Hs (shC)
open Hs.So (Prt prS)
theorem gspecZZ {l : List Entry} {ks : List KEntry} {ms : List MEntry} {L : Nat → Option LFun} {Z : Nat → Option ZFun} (hZ : ∀ i h, Z i = some h → ZSoundN 0 h) (hl : ∀ e, e ∈ l → EOk Tryz.prog e) (hks : ∀ e, e ∈ ks → KOk Tryz.prog e) (hms : ∀ e, e ∈ ms → MEOk Tryz.prog e) {f : Nat} {fn : Func} (hf : Tryz.prog.funcs[f]? = some fn) (hnm : (fn.name == "runtime.NumGoroutine") = false) (hb : fn.body = some (bodyOf fn)) (hL : LOk Tryz.prog L (bodyOf fn))
    {args:List AV} (hlen:Nat.ble args.length fn.ntmps=true) {r:AV} (h:evZ Tryz.prog l ks ms L Z fn args ret=some (Out.of r)):FSpec Tryz.prog f args r:=spec_of_bodyZ hZ (tabM_ok hl hks hms) (drawnK_ok (tabM_ok hl hks hms) (by kernel_rfl)) 40 hf hnm hb hL hlen h
def gPt (rT:Int→Int→ByteArray) (rN:Int→Int→Int) (rB:Int→Int→Bool):List AV→AV
  | [_,.x (.int .i64 k),.x (.int .i64 fr),_]=>.tup [zA (rT k fr),iA (rN k fr),bA (rB k fr)]
  | _=>.any
section
variable (n:Nat) (P:Nat→Prt) (k fr d:Int) (ft:ByteArray) (fb:Bool) (rT:Int→Int→ByteArray) (rN:Int→Int→Int) (rB:Int→Int→Bool)
def tpNo:Option Out:=some (Out.of (.tup [zA ⟨#[]⟩,iA 0,bA false]))
noncomputable def tpP:ByteArray→List ByteArray→Option Out
  | s,[]=>some (Out.of (.tup [zA s,iA k,bA true]))
  | s,t::r=>cond (catF s t||false) (tpP (s ++ t) r) none
def FPt (x f:Int):Prop:=FSpec Tryz.prog 40 [prS n P,iA x,iA f,iA (w64 (d+1))] (.tup [zA (rT x f),iA (rN x f),bA (rB x f)])
def lfB (p:Prt):Bool:=cond (cond (cond (cond fb (k==fr) false) (p.l==0) false) (p.r==0) false) (p.sk==0) false
def nd5 (p:Prt):Bool:=cond (cond (cond (d==3) true (!(eqZ p))) true (decide (p.l < fr))) true (!(p.r==w64 (k - 1)))
def f2 (p:Prt):Int:=w64 (rN p.l fr+1)
noncomputable def tpX (v:Int) (w:ByteArray) (p:Prt):Option Out:=cond (ixB k n||false) (cond (p.op==0) (gate (FSpec Tryz.prog 38 [.agg p.s] (.tup [zA ft,bA fb])) (some (Out.of (.tup [zA ft,iA fr,bA (lfB k fr fb p)]))))
  (cond (nd5 k fr d p) tpNo (gate (FPt n P d rT rN rB p.l fr) (cond (cond (!(rB p.l fr)) true (!(rN p.l fr==p.l))) tpNo
    (gate (FPt n P d rT rN rB p.r (f2 fr rN p)) (cond (cond (!(rB p.r (f2 fr rN p))) true (!(rN p.r (f2 fr rN p)==p.r))) tpNo
      (gate (p.op=v) (tpP k w [⟨#[32,123,32]⟩,rT p.l fr,⟨#[32]⟩,rT p.r (f2 fr rN p),⟨#[32,125]⟩])))))))) none
noncomputable def tpK:List KEntry:=[kS Tryz.prog 38 fun _=>.tup [zA ft,bA fb],kS Tryz.prog 40 (gPt rT rN rB)]
theorem tp_ev1:evZ Tryz.prog [] (tpK ft fb rT rN rB) [born 57] noL (oneZ 13 (zOp 0 1)) Tryz.f40 [prS n P,iA k,iA fr,iA d] ret=tpX n P k fr d ft fb rT rN rB 1 ⟨#[98,111,116,104]⟩ (P k.toNat):=by kernel_rfl
theorem tp_ev2:evZ Tryz.prog [] (tpK ft fb rT rN rB) [born 57] noL (oneZ 13 (zOp 0 2)) Tryz.f40 [prS n P,iA k,iA fr,iA d] ret=tpX n P k fr d ft fb rT rN rB 2 ⟨#[101,105,116,104,101,114]⟩ (P k.toNat):=by kernel_rfl
theorem tp_ev3:evZ Tryz.prog [] (tpK ft fb rT rN rB) [born 57] noL (oneZ 13 (zOp 0 3)) Tryz.f40 [prS n P,iA k,iA fr,iA d] ret=tpX n P k fr d ft fb rT rN rB 3 ⟨#[108,101,115,115]⟩ (P k.toNat):=by kernel_rfl
end
end Go.Proofs.YtefphimaggjihaaGreatDoor.Pi

namespace Go.Proofs.YtefphimaggjihaaGreatDoor.Pi
open Go.Shelf Go.RowKit Go.Gv
open Go.Ev (feq NearF)
open Hs (shC)
open Hs.So (Prt prS)
def tpF (P:Nat→Prt):Nat→Nat→Int→List UInt8 × Int × Bool
  | 0,_,_=>([],0,false)
  | g + 1,k,fr=>cond ((P k).op==0) (cond (allT (P k).a) (tks false (shT dcT tnX (P k).k (P k).a)) [],fr,lfB (k:Nat) fr (!(shB tbX (P k).k (P k).a (P k).sk)) (P k))
    (cond (nd5 (k:Nat) fr (3 - (g:Int)) (P k)) ([],0,false)
      (cond (cond (!(tpF P g (P k).l.toNat fr).2.2) true (!((tpF P g (P k).l.toNat fr).2.1==(P k).l))) ([],0,false)
        (cond (cond (!(tpF P g (P k).r.toNat ((P k).l+1)).2.2) true (!((tpF P g (P k).r.toNat ((P k).l+1)).2.1==(P k).r))) ([],0,false)
          (opT (P k).op ++ ([32,123,32] ++ ((tpF P g (P k).l.toNat fr).1 ++ ([32] ++ ((tpF P g (P k).r.toNat ((P k).l+1)).1 ++ [32,125])))),((k:Nat):Int),true))))
theorem tpF_succ (P:Nat→Prt) (g k:Nat) (fr:Int):tpF P (g+1) k fr=cond ((P k).op==0) (cond (allT (P k).a) (tks false (shT dcT tnX (P k).k (P k).a)) [],fr,lfB (k:Nat) fr (!(shB tbX (P k).k (P k).a (P k).sk)) (P k))
    (cond (nd5 (k:Nat) fr (3 - (g:Int)) (P k)) ([],0,false)
      (cond (cond (!(tpF P g (P k).l.toNat fr).2.2) true (!((tpF P g (P k).l.toNat fr).2.1==(P k).l))) ([],0,false)
        (cond (cond (!(tpF P g (P k).r.toNat ((P k).l+1)).2.2) true (!((tpF P g (P k).r.toNat ((P k).l+1)).2.1==(P k).r))) ([],0,false)
          (opT (P k).op ++ ([32,123,32] ++ ((tpF P g (P k).l.toNat fr).1 ++ ([32] ++ ((tpF P g (P k).r.toNat ((P k).l+1)).1 ++ [32,125])))),((k:Nat):Int),true)))):=rfl
theorem tpF_len (P:Nat→Prt):∀ (g k:Nat) (fr:Int),(tpF P g k fr).1.length+12≤1000*2 ^ g
  | 0,_,_=>by simp [tpF]
  | g + 1,k,fr=>by
    rw [tpF_succ]
    have h1:=tpF_len P g (P k).l.toNat fr
    have h2:=tpF_len P g (P k).r.toNat ((P k).l+1)
    have h3:(opT (P k).op).length≤6:=by unfold opT; split<;>(try split)<;>decide
    have hp:=Nat.two_pow_pos g
    have e:2 ^ (g+1)=2 ^ g*2:=Nat.pow_succ ..
    have hl:(tks false (shT dcT tnX (P k).k (P k).a)).length≤273:=tks_few false (shT_few _ _)
    rw [e]
    generalize tpF P g (P k).l.toNat fr=A at *
    generalize tpF P g (P k).r.toNat ((P k).l+1)=B at *
    generalize 2 ^ g=T at *
    cases (P k).op==0
    · rw [cond_false]
      cases nd5 (k:Nat) fr (3 - (g:Int)) (P k)
      · rw [cond_false]
        generalize cond (!A.2.2) true (!(A.2.1==(P k).l))=c1
        generalize cond (!B.2.2) true (!(B.2.1==(P k).r))=c2
        cases c1
        · rw [cond_false]
          cases c2
          · rw [cond_false]
            simp only [List.length_append,List.length_cons,List.length_nil]
            omega
          · simp only [cond_true,List.length_nil]; omega
        · simp only [cond_true,List.length_nil]; omega
      · simp only [cond_true,List.length_nil]; omega
    · rw [cond_true]
      cases allT (P k).a
      · simp only [cond_false,List.length_nil]; omega
      · simp only [cond_true]; omega
theorem tpP_lB (k:Int):∀ (l:List UInt8) (r:List (List UInt8)),l.length+r.flatten.length≤1000000000→tpP k (lB l) (r.map lB)=some (Out.of (.tup [zA (lB (l ++ r.flatten)),iA k,bA true]))
  | l,[],_=>by simp [tpP]
  | l,t::r,h=>by
    rw [List.flatten_cons,List.length_append] at h
    show cond (catF (lB l) (lB t)||false) (tpP k (lB l ++ lB t) (r.map lB)) none=_
    rw [cat_t (by rw [size_lB,size_lB]; omega),lB_app,tpP_lB k (l ++ t) r (by rw [List.length_append]; omega),List.flatten_cons,List.append_assoc]
    rfl
def tpV (t:List UInt8 × Int × Bool):AV:=.tup [zA (lB t.1),iA t.2.1,bA t.2.2]
section
variable {n:Nat} {P:Nat→Prt}
def rTg (P:Nat→Prt) (g:Nat) (x f:Int):ByteArray:=lB (tpF P g x.toNat f).1
def rNg (P:Nat→Prt) (g:Nat) (x f:Int):Int:=(tpF P g x.toNat f).2.1
def rBg (P:Nat→Prt) (g:Nat) (x f:Int):Bool:=(tpF P g x.toNat f).2.2
theorem tpX_leaf {g k:Nat} (fr:Int) {v:Int} {w:ByteArray} (hk:k < n) (h0:(P k).op=0) (hS:(1≤(P k).k∧(P k).k≤6)∧∀ q,q < 11→NearF ((P k).a q)):tpX n P (k:Nat) fr (3 - (g:Int)) (lB (cond (allT (P k).a) (tks false (shT dcT tnX (P k).k (P k).a)) [])) (!(shB tbX (P k).k (P k).a (P k).sk)) (rTg P g) (rNg P g) (rBg P g) v w (P k)=some (Out.of (tpV (tpF P (g+1) k fr))):=by
  have hf:FSpec Tryz.prog 38 [.agg (P k).s] (tfV (P k).k (P k).a (P k).sk):=form_spec (P k).sk hS.1 hS.2
  unfold tpX
  rw [ixB_t hk,tpF_succ,h0,gate_pos (show FSpec Tryz.prog 38 [.agg (P k).s] (.tup [zA (lB (cond (allT (P k).a) (tks false (shT dcT tnX (P k).k (P k).a)) [])),bA (!(shB tbX (P k).k (P k).a (P k).sk))]) from hf)]
  rfl
theorem tpX_node {g k:Nat} (hg:g≤3) (fr:Int) {v:Int} {w:List UInt8} {ft:ByteArray} {fb:Bool} (hk:k < n) (h0:(P k).op≠0) (hv:(P k).op=v) (hw:opT (P k).op=w) (hl:0≤(P k).l∧(P k).l < 1000)
    (hI:((3 - (g:Int))==3)=false→∀ f,FPt n P (3 - (g:Int)) (rTg P g) (rNg P g) (rBg P g) (P k).l f∧FPt n P (3 - (g:Int)) (rTg P g) (rNg P g) (rBg P g) (P k).r f):tpX n P (k:Nat) fr (3 - (g:Int)) ft fb (rTg P g) (rNg P g) (rBg P g) v (lB w) (P k)=some (Out.of (tpV (tpF P (g+1) k fr))):=by
  unfold tpX
  rw [ixB_t hk,tpF_succ,beq_false_of_ne h0]
  show cond (nd5 (k:Nat) fr (3 - (g:Int)) (P k)) _ _=_
  cases hnd:nd5 (k:Nat) fr (3 - (g:Int)) (P k)
  · have hd:((3 - (g:Int))==3)=false:=by
      unfold nd5 at hnd
      cases hc:((3 - (g:Int))==3)
      · rfl
      · rw [hc] at hnd; cases hnd
    have hi:=hI hd
    rw [cond_false,gate_pos (hi fr).1,cond_false,cond_false]
    have e1:cond (!(rBg P g (P k).l fr)) true (!(rNg P g (P k).l fr==(P k).l))=cond (!(tpF P g (P k).l.toNat fr).2.2) true (!((tpF P g (P k).l.toNat fr).2.1==(P k).l)):=rfl
    rw [e1]
    cases h1:cond (!(tpF P g (P k).l.toNat fr).2.2) true (!((tpF P g (P k).l.toNat fr).2.1==(P k).l))
    · have hN:(tpF P g (P k).l.toNat fr).2.1=(P k).l:=by
        cases hb:(tpF P g (P k).l.toNat fr).2.2
        · rw [hb] at h1; cases h1
        · rw [hb] at h1
          have h1:(!((tpF P g (P k).l.toNat fr).2.1==(P k).l))=false:=h1
          simpa using h1
      have hf2:f2 fr (rNg P g) (P k)=(P k).l+1:=by
        unfold f2 rNg
        rw [hN]
        exact w64_id (by omega) (by omega)
      rw [cond_false,cond_false,hf2,gate_pos (hi ((P k).l+1)).2]
      have e2:cond (!(rBg P g (P k).r ((P k).l+1))) true (!(rNg P g (P k).r ((P k).l+1)==(P k).r))=cond (!(tpF P g (P k).r.toNat ((P k).l+1)).2.2) true (!((tpF P g (P k).r.toNat ((P k).l+1)).2.1==(P k).r)):=rfl
      rw [e2]
      cases h2:cond (!(tpF P g (P k).r.toNat ((P k).l+1)).2.2) true (!((tpF P g (P k).r.toNat ((P k).l+1)).2.1==(P k).r))
      · have l1:=tpF_len P g (P k).l.toNat fr
        have l2:=tpF_len P g (P k).r.toNat ((P k).l+1)
        have hp:2 ^ g≤2 ^ 3:=Nat.pow_le_pow_right (by decide) hg
        have l3:=opT_len (P k).op
        have:=tpP_lB (k:Nat) w [[32,123,32],(tpF P g (P k).l.toNat fr).1,[32],(tpF P g (P k).r.toNat ((P k).l+1)).1,[32,125]] (by
          rw [← hw]
          simp only [List.flatten_cons,List.flatten_nil,List.length_append,List.length_cons,List.length_nil]
          omega)
        rw [cond_false,cond_false,gate_pos hv]
        refine this.trans ?_
        rw [← hw]
        simp only [List.flatten_cons,List.flatten_nil,List.append_nil]
        rfl
      · rfl
    · rfl
  · rfl
theorem part_spec (hn:n≤16) (hP:PM n P) (hS:∀ i,i < n→(P i).op=0→(1≤(P i).k∧(P i).k≤6)∧∀ q,q < 11→NearF ((P i).a q)):∀ (g:Nat),g≤3→∀ (k:Nat) (fr:Int),k < n→FSpec Tryz.prog 40 [prS n P,iA (k:Nat),iA fr,iA (3 - (g:Int))] (tpV (tpF P (g+1) k fr)):=by
  intro g
  induction g with
  | zero =>
    intro hg k fr hk
    by_cases h0:(P k).op=0
    · refine gspecZZ (oneZ_ok (zOp_ok 0 1)) e_nil (k_cons kS_ok (k_cons kS_ok k_nil)) (m_cons (born_ok _) m_nil) Tryz.func40 (by kernel_rfl) (by kernel_rfl) noL_ok rfl ((tp_ev1 n P (k:Nat) fr (3 - ((0:Nat):Int)) (lB (cond (allT (P k).a) (tks false (shT dcT tnX (P k).k (P k).a)) [])) (!(shB tbX (P k).k (P k).a (P k).sk)) (rTg P 0) (rNg P 0) (rBg P 0)).trans ?_)
      rw [Int.toNat_natCast]
      exact tpX_leaf fr hk h0 (hS k hk h0)
    · obtain ⟨hop,⟨l0,l1⟩,r0,r1⟩:=(hP k hk).resolve_left h0
      have hI:((3 - ((0:Nat):Int))==3)=false→∀ f,FPt n P (3 - ((0:Nat):Int)) (rTg P 0) (rNg P 0) (rBg P 0) (P k).l f∧FPt n P (3 - ((0:Nat):Int)) (rTg P 0) (rNg P 0) (rBg P 0) (P k).r f:=fun h=>by cases h
      refine gspecZZ (oneZ_ok (zOp_ok 0 1)) e_nil (k_cons kS_ok (k_cons kS_ok k_nil)) (m_cons (born_ok _) m_nil) Tryz.func40 (by kernel_rfl) (by kernel_rfl) noL_ok rfl ((tp_ev1 n P (k:Nat) fr (3 - ((0:Nat):Int)) ⟨#[]⟩ false (rTg P 0) (rNg P 0) (rBg P 0)).trans ?_)
      rw [Int.toNat_natCast]
      unfold tpX
      rw [ixB_t hk,tpF_succ,beq_false_of_ne h0]
      have hd:nd5 (k:Nat) fr (3 - ((0:Nat):Int)) (P k)=true:=rfl
      rw [hd]
      rfl
  | succ g ih =>
    intro hg k fr hk
    by_cases h0:(P k).op=0
    · refine gspecZZ (oneZ_ok (zOp_ok 0 1)) e_nil (k_cons kS_ok (k_cons kS_ok k_nil)) (m_cons (born_ok _) m_nil) Tryz.func40 (by kernel_rfl) (by kernel_rfl) noL_ok rfl ((tp_ev1 n P (k:Nat) fr (3 - ((g+1:Nat):Int)) (lB (cond (allT (P k).a) (tks false (shT dcT tnX (P k).k (P k).a)) [])) (!(shB tbX (P k).k (P k).a (P k).sk)) (rTg P (g+1)) (rNg P (g+1)) (rBg P (g+1))).trans ?_)
      rw [Int.toNat_natCast]
      exact tpX_leaf fr hk h0 (hS k hk h0)
    · obtain ⟨hop,⟨l0,l1⟩,r0,r1⟩:=(hP k hk).resolve_left h0
      have ed:w64 (3 - ((g+1:Nat):Int)+1)=3 - (g:Int):=by rw [w64_id (by omega) (by omega)]; omega
      have hx:∀ x:Int,0≤x→x < (k:Nat)→∀ f,FPt n P (3 - ((g+1:Nat):Int)) (rTg P (g+1)) (rNg P (g+1)) (rBg P (g+1)) x f:=fun x x0 x1 f=>by
        have:=ih (by omega) x.toNat f (by omega)
        unfold FPt
        rw [ed]
        rw [show ((x.toNat:Nat):Int)=x by omega] at this
        exact this
      have hI:((3 - ((g+1:Nat):Int))==3)=false→∀ f,FPt n P (3 - ((g+1:Nat):Int)) (rTg P (g+1)) (rNg P (g+1)) (rBg P (g+1)) (P k).l f∧FPt n P (3 - ((g+1:Nat):Int)) (rTg P (g+1)) (rNg P (g+1)) (rBg P (g+1)) (P k).r f:=fun _ f=>⟨hx _ l0 l1 f,hx _ r0 r1 f⟩
      rcases (show (P k).op=1∨(P k).op=2∨(P k).op=3 by omega) with ho | ho | ho
      · refine gspecZZ (oneZ_ok (zOp_ok 0 1)) e_nil (k_cons kS_ok (k_cons kS_ok k_nil)) (m_cons (born_ok _) m_nil) Tryz.func40 (by kernel_rfl) (by kernel_rfl) noL_ok rfl ((tp_ev1 n P (k:Nat) fr (3 - ((g+1:Nat):Int)) ⟨#[]⟩ false (rTg P (g+1)) (rNg P (g+1)) (rBg P (g+1))).trans ?_)
        rw [Int.toNat_natCast]
        exact tpX_node hg fr (w:=[98,111,116,104]) hk h0 ho (by rw [ho]; rfl) (by omega) hI
      · refine gspecZZ (oneZ_ok (zOp_ok 0 2)) e_nil (k_cons kS_ok (k_cons kS_ok k_nil)) (m_cons (born_ok _) m_nil) Tryz.func40 (by kernel_rfl) (by kernel_rfl) noL_ok rfl ((tp_ev2 n P (k:Nat) fr (3 - ((g+1:Nat):Int)) ⟨#[]⟩ false (rTg P (g+1)) (rNg P (g+1)) (rBg P (g+1))).trans ?_)
        rw [Int.toNat_natCast]
        exact tpX_node hg fr (w:=[101,105,116,104,101,114]) hk h0 ho (by rw [ho]; rfl) (by omega) hI
      · refine gspecZZ (oneZ_ok (zOp_ok 0 3)) e_nil (k_cons kS_ok (k_cons kS_ok k_nil)) (m_cons (born_ok _) m_nil) Tryz.func40 (by kernel_rfl) (by kernel_rfl) noL_ok rfl ((tp_ev3 n P (k:Nat) fr (3 - ((g+1:Nat):Int)) ⟨#[]⟩ false (rTg P (g+1)) (rNg P (g+1)) (rBg P (g+1))).trans ?_)
        rw [Int.toNat_natCast]
        exact tpX_node hg fr (w:=[108,101,115,115]) hk h0 ho (by rw [ho]; rfl) (by omega) hI
end
end Go.Proofs.YtefphimaggjihaaGreatDoor.Pi

namespace Go.Proofs.YtefphimaggjihaaGreatDoor.Pi
open Go.Shelf Go.RowKit Go.Gv
open Go.Ev (feq NearF)
open Hs (shC)
open Hs.So (Prt prS)
theorem shB_all {k:Int} {a:Nat→Nat} {sk:Int} (hk:1≤k∧k≤6) (h:∀ i,i < 11→NearF (a i)) (hb:shB tbX k a sk=false):allT a=true:=by
  have key:∀ {b c:Bool},(!b)=(allT a&&c)→b=false→allT a=true:=fun {b c} e hb=>by
    subst hb
    cases hA:allT a
    · rw [hA] at e; cases e
    · rfl
  rcases (show k=1∨k=2∨k=3∨k=4∨k=5∨k=6 by omega) with rfl | rfl | rfl | rfl | rfl | rfl
  · exact key (oq1 h sk) hb
  · exact key (oq2 h sk) hb
  · exact key (oq3 h sk) hb
  · exact key (oq4 h sk 4) hb
  · exact key (oq4 h sk 5) hb
  · exact key (oq6 h sk) hb
theorem lfB_iff {k fr:Int} {fb:Bool} {p:Prt}:lfB k fr fb p=true ↔ fb=true∧k=fr∧p.l=0∧p.r=0∧p.sk=0:=by
  unfold lfB
  cases fb
  · simp
  · by_cases h1:k=fr
    · by_cases h2:p.l=0
      · by_cases h3:p.r=0
        · by_cases h4:p.sk=0<;>simp [h1,h2,h3,h4]
        · simp [h1,h2,h3]
      · simp [h1,h2]
    · simp [h1]
theorem nd5_iff {k fr d:Int} {p:Prt}:nd5 k fr d p=false ↔ d≠3∧eqZ p=true∧fr≤p.l∧p.r=w64 (k - 1):=by
  unfold nd5
  by_cases h1:d=3
  · simp [h1]
  · cases h2:eqZ p
    · simp [h1]
    · by_cases h3:p.l < fr
      · simp [h1,h3]; omega
      · by_cases h4:p.r=w64 (k - 1)<;>simp [h1,h3,h4]<;>omega
theorem or2 {b:Bool} {x y:Int}:cond (!b) true (!(x==y))=false ↔ b=true∧x=y:=by
  cases b
  · simp
  · simp
theorem bare_leaf {p:Prt} (h0:p.op=0):bareB p=true ↔ p.l=0∧p.r=0∧p.sk=0:=by
  unfold bareB
  rw [h0]
  show cond (cond (p.l==0) (p.r==0) false) (p.sk==0) false=true ↔ _
  by_cases h2:p.l=0
  · by_cases h3:p.r=0
    · by_cases h4:p.sk=0<;>simp [h2,h3,h4]
    · simp [h2,h3]
  · simp [h2]
theorem bare_node {p:Prt} (h0:p.op≠0):bareB p=eqZ p:=by unfold bareB; rw [beq_false_of_ne h0]; rfl
def szP (P:Nat→Prt) (k:Nat):Int:=(sd P (k+1)).1 k
def dpP (P:Nat→Prt) (k:Nat):Int:=(sd P (k+1)).2 k
theorem sd_zero (P:Nat→Prt):∀ j q,j≤q→(sd P j).2 q=0
  | 0,_,_=>rfl
  | j+1,q,h=>by
    have ih:=sd_zero P j q (by omega)
    rw [sd_succ]
    split
    · exact ih
    · exact (upd_ne _ (by omega) _).trans ih
theorem upd_me (g:Nat→Int) (j:Nat) (v:Int):upd g j v j=v:=if_pos rfl
section
variable {P:Nat→Prt}
theorem sz_leaf {k:Nat} (h0:(P k).op=0):szP P k=1∧dpP P k=0:=by
  unfold szP dpP
  rw [sd_succ,if_pos h0]
  exact ⟨upd_me _ _ _,sd_zero P k k (Nat.le_refl _)⟩
theorem sz_node {k:Nat} (h0:(P k).op≠0) (l0:0≤(P k).l) (l1:(P k).l < (k:Nat)) (_:0≤(P k).r) (r1:(P k).r < (k:Nat)):szP P k=1+(szP P (P k).l.toNat+szP P (P k).r.toNat)∧dpP P k=1+mx (dpP P (P k).l.toNat) (dpP P (P k).r.toNat):=by
  unfold szP dpP
  rw [sd_succ P k,if_neg h0,← (sd_at (P:=P) (i:=(P k).l.toNat) (j:=k) (by omega)).1,← (sd_at (P:=P) (i:=(P k).l.toNat) (j:=k) (by omega)).2,← (sd_at (P:=P) (i:=(P k).r.toNat) (j:=k) (by omega)).1,← (sd_at (P:=P) (i:=(P k).r.toNat) (j:=k) (by omega)).2]
  exact ⟨upd_me _ _ _,upd_me _ _ _⟩
theorem sz_nn (k:Nat):0≤szP P k:=(sd_rng P (k+1) k).1.1
theorem dp_nn (k:Nat):0≤dpP P k:=(sd_rng P (k+1) k).2.1
theorem tks_tf {X:List (List UInt8)} (h:X≠[]):tks true X=32::tks false X:=by
  cases X with
  | nil=>exact absurd rfl h
  | cons t r=>rfl
theorem shT_ne (k:Int) (a:Nat→Nat):shT dcT tnX k a≠[]:=by
  unfold shT
  split
  · simp [shT1]
  · split
    · simp [shT2]
    · split
      · simp [shT3]
      · split
        · simp [shT4,rndT]
        · split
          · simp [shT5,rndT]
          · simp [shT6,rndT]
theorem paT_ne {f k:Nat} (h:k < f):paT dcT tnX P f k≠[]:=by
  cases f with
  | zero=>omega
  | succ f =>
    unfold paT
    split
    · exact shT_ne _ _
    · simp
theorem mx_le {a b M:Int}:mx a b≤M ↔ a≤M∧b≤M:=by unfold mx; split<;>omega
theorem paT_s (f k:Nat):paT dcT tnX P (f+1) k=if (P k).op=0 then shT dcT tnX (P k).k (P k).a else [opT (P k).op,[123]] ++ (paT dcT tnX P f (P k).l.toNat ++ (paT dcT tnX P f (P k).r.toNat ++ [[125]])):=rfl
theorem paBd_s (f k:Nat):paBd tbX P (f+1) k=if (P k).op=0 then shB tbX (P k).k (P k).a (P k).sk else paBd tbX P f (P k).l.toNat||paBd tbX P f (P k).r.toNat:=rfl
variable {n:Nat}
abbrev HS (n:Nat) (P:Nat→Prt):Prop:=∀ i,i < n→(P i).op=0→(1≤(P i).k∧(P i).k≤6)∧∀ q,q < 11→NearF ((P i).a q)
theorem tp_ok (hn : n≤16) (hP:PM n P) (hS:HS n P):∀ (g k:Nat) (fr:Int),k < n→0≤fr→(tpF P g k fr).2.2=true→(tpF P g k fr).2.1=(k:Nat)∧fr≤(k:Nat)∧(∀ j:Nat,fr≤(j:Nat)→j≤k→okJ P j)∧szP P k=(k:Nat) - fr+1∧dpP P k+1≤(g:Nat)∧∀ f,k < f→paBd tbX P f k=false∧(tpF P g k fr).1=tks false (paT dcT tnX P f k)
  | 0,_,_,_,_,h=>by cases h
  | g + 1, k, fr, hk,h0,h=>by
    rw [tpF_succ] at h ⊢
    by_cases ho:(P k).op=0
    · have hb:((P k).op==0)=true:=by rw [ho]; rfl
      rw [hb,cond_true] at h ⊢
      obtain ⟨f1,f2,f3,f4,f5⟩:=lfB_iff.1 h
      have hsB:shB tbX (P k).k (P k).a (P k).sk=false:=by simpa using f1
      have hA:=shB_all (hS k hk ho).1 (hS k hk ho).2 hsB
      obtain ⟨z1,z2⟩:=sz_leaf ho
      refine ⟨f2.symm,by omega,fun j j1 j2=>?_,by rw [z1]; omega,by rw [z2]; omega,fun f hf=>?_⟩
      · have:j=k:=by omega
        subst this
        exact ⟨(bare_leaf ho).2 ⟨f3,f4,f5⟩,Or.inl ho⟩
      · cases f with
        | zero=>omega
        | succ f =>
          rw [paBd_s,paT_s,if_pos ho,if_pos ho,hA]
          exact ⟨hsB,rfl⟩
    · rw [beq_false_of_ne ho,cond_false] at h ⊢
      obtain ⟨hop,⟨l0,l1⟩,r0,r1⟩:=(hP k hk).resolve_left ho
      cases hnd:nd5 (k:Nat) fr (3 - (g:Int)) (P k)
      · rw [hnd,cond_false] at h
        rw [cond_false]
        obtain ⟨_,d2,d3,d4⟩:=nd5_iff.1 hnd
        rw [w64_id (by omega) (by omega)] at d4
        cases c1:cond (!(tpF P g (P k).l.toNat fr).2.2) true (!((tpF P g (P k).l.toNat fr).2.1==(P k).l))
        · rw [c1, cond_false] at h
          rw [cond_false]
          obtain ⟨a1,a2⟩:=or2.1 c1
          cases c2:cond (!(tpF P g (P k).r.toNat ((P k).l+1)).2.2) true (!((tpF P g (P k).r.toNat ((P k).l+1)).2.1==(P k).r))
          · rw [cond_false]
            obtain ⟨b1,b2⟩:=or2.1 c2
            obtain ⟨_,i2,i3,i4,i5,i6⟩:=tp_ok hn hP hS g (P k).l.toNat fr (by omega) h0 a1
            obtain ⟨_,j2,j3,j4,j5,j6⟩:=tp_ok hn hP hS g (P k).r.toNat ((P k).l+1) (by omega) (by omega) b1
            obtain ⟨z1,z2⟩:=sz_node ho l0 l1 r0 r1
            refine ⟨rfl,by omega,fun j q1 q2=>?_,by rw [z1]; omega,?_,fun f hf=>?_⟩
            · by_cases e1:j≤(P k).l.toNat
              · exact i3 j q1 e1
              · by_cases e2:j=k
                · subst e2
                  refine ⟨(bare_node ho).trans d2,Or.inr ⟨d4,?_⟩⟩
                  have e3:(sd P j).1 (j - 1)=szP P (P j).r.toNat:=by
                    rw [show (P j).r.toNat=j - 1 by omega]
                    exact (sd_at (by omega)).1
                  rw [e3]
                  omega
                · exact j3 j (by omega) (by omega)
            · rw [z2]
              have:=(mx_le (a:=dpP P (P k).l.toNat) (b:=dpP P (P k).r.toNat) (M:=(g:Int) - 1)).2 ⟨by omega,by omega⟩
              omega
            · cases f with
              | zero=>omega
              | succ f =>
                obtain ⟨p1,p2⟩:=i6 f (by omega)
                obtain ⟨p3,p4⟩:=j6 f (by omega)
                rw [paBd_s,paT_s,if_neg ho,if_neg ho,p1,p3]
                refine ⟨rfl,?_⟩
                show opT (P k).op ++ ([32,123,32] ++ ((tpF P g (P k).l.toNat fr).1 ++ ([32] ++ ((tpF P g (P k).r.toNat ((P k).l+1)).1 ++ [32,125]))))=_
                rw [p2,p4,tks_app _ _ _ (by simp),tks_appT,tks_appT,tks_tf (X:=paT dcT tnX P f (P k).l.toNat) (paT_ne (by omega)),tks_tf (X:=paT dcT tnX P f (P k).r.toNat) (paT_ne (by omega))]
                simp
          · rw [c2] at h; cases h
        · rw [c1] at h; cases h
      · rw [hnd] at h; cases h
theorem ok_tp (hn:n≤16) (hP:PM n P) (hS:HS n P):∀ (g k:Nat) (fr:Int) (f:Nat),g≤4→k < n→0≤fr→(∀ j:Nat,fr≤(j:Nat)→j≤k→okJ P j)→fr≤(k:Nat)→szP P k=(k:Nat) - fr+1→dpP P k+1≤(g:Nat)→k < f→paBd tbX P f k=false→(tpF P g k fr).2.2=true
  | 0,k,_,_,_,_,_,_,_,_,h,_,_=>by have:=dp_nn (P:=P) k; omega
  | g+1,k,fr,0,_,_,_,_,_,_,_,h,_=>by omega
  | g + 1,k,fr,f+1,hg,hk,h0,hj,hfk,hs,hd,hf,hb=>by
    rw [tpF_succ]
    obtain ⟨k1,k2⟩:=hj k hfk (Nat.le_refl _)
    rw [paBd_s] at hb
    by_cases ho:(P k).op=0
    · have hbo:((P k).op==0)=true:=by rw [ho]; rfl
      rw [hbo,cond_true]
      rw [if_pos ho] at hb
      obtain ⟨b1,b2,b3⟩:=(bare_leaf ho).1 k1
      obtain ⟨z1,z2⟩:=sz_leaf ho
      exact lfB_iff.2 ⟨by rw [hb]; rfl,by omega,b1,b2,b3⟩
    · rw [beq_false_of_ne ho,cond_false]
      rw [if_neg ho] at hb
      obtain ⟨hop,⟨l0,l1⟩,r0,r1⟩:=(hP k hk).resolve_left ho
      obtain ⟨kr,kl⟩:=k2.resolve_left ho
      obtain ⟨z1,z2⟩:=sz_node ho l0 l1 r0 r1
      have e3:(sd P k).1 (k - 1)=szP P (P k).r.toNat:=by
        rw [show (P k).r.toNat=k - 1 by omega]
        exact (sd_at (by omega)).1
      rw [e3] at kl
      have hm:=(mx_le (a:=dpP P (P k).l.toNat) (b:=dpP P (P k).r.toNat) (M:=(g:Int) - 1)).1 (by omega)
      have s1:=sz_nn (P:=P) (P k).l.toNat
      have d1:=dp_nn (P:=P) (P k).l.toNat
      have pb1:paBd tbX P f (P k).l.toNat=false:=by cases h:paBd tbX P f (P k).l.toNat; rfl; rw [h] at hb; cases hb
      have pb2:paBd tbX P f (P k).r.toNat=false:=by cases h:paBd tbX P f (P k).r.toNat; rfl; rw [pb1,h] at hb; cases hb
      have sl1:1≤szP P (P k).l.toNat:=by
        by_cases hl:(P (P k).l.toNat).op=0
        · rw [(sz_leaf hl).1]; omega
        · obtain ⟨_,⟨m0,m1⟩,n0,n1⟩:=(hP (P k).l.toNat (by omega)).resolve_left hl
          rw [(sz_node hl m0 m1 n0 n1).1]
          have:=sz_nn (P:=P) (P (P k).l.toNat).l.toNat
          have:=sz_nn (P:=P) (P (P k).l.toNat).r.toNat
          omega
      have sr1:1≤szP P (P k).r.toNat:=by
        by_cases hl:(P (P k).r.toNat).op=0
        · rw [(sz_leaf hl).1]; omega
        · obtain ⟨_,⟨m0,m1⟩,n0,n1⟩:=(hP (P k).r.toNat (by omega)).resolve_left hl
          rw [(sz_node hl m0 m1 n0 n1).1]
          have:=sz_nn (P:=P) (P (P k).r.toNat).l.toNat
          have:=sz_nn (P:=P) (P (P k).r.toNat).r.toNat
          omega
      have A:=ok_tp hn hP hS g (P k).l.toNat fr f (by omega) (by omega) h0 (fun j j1 j2=>hj j j1 (by omega)) (by omega) (by omega) (by omega) (by omega) pb1
      have B:=ok_tp hn hP hS g (P k).r.toNat ((P k).l+1) f (by omega) (by omega) (by omega) (fun j j1 j2=>hj j (by omega) (by omega)) (by omega) (by omega) (by omega) (by omega) pb2
      have A1:=(tp_ok hn hP hS g (P k).l.toNat fr (by omega) h0 A).1
      have B1:=(tp_ok hn hP hS g (P k).r.toNat ((P k).l+1) (by omega) (by omega) B).1
      have hnd:nd5 (k:Nat) fr (3 - (g:Int)) (P k)=false:=nd5_iff.2 ⟨by omega,(bare_node ho).symm.trans k1,by omega,by rw [w64_id (by omega) (by omega)]; omega⟩
      have c1:cond (!(tpF P g (P k).l.toNat fr).2.2) true (!((tpF P g (P k).l.toNat fr).2.1==(P k).l))=false:=or2.2 ⟨A,by rw [A1]; omega⟩
      have c2:cond (!(tpF P g (P k).r.toNat ((P k).l+1)).2.2) true (!((tpF P g (P k).r.toNat ((P k).l+1)).2.1==(P k).r))=false:=or2.2 ⟨B,by rw [B1]; omega⟩
      rw [hnd,cond_false,c1,cond_false,c2]
      rfl
/-- A solid's text: both give up just where the other does, and say the same. -/
theorem so_eq (h1:1≤n) (hn:n≤16) (hP:PM n P) (hS:HS n P):cond (!(tpF P 4 (n - 1) 0).2.2) true (!((tpF P 4 (n - 1) 0).2.1==((n - 1:Nat):Int)))=soB tbX n P∧(soB tbX n P=false→(tpF P 4 (n - 1) 0).1=tks false (paT dcT tnX P n (n - 1))∧arB n P=true):=by
  have e1:n - 1+1=n:=by omega
  cases ht:(tpF P 4 (n - 1) 0).2.2
  · have hs : soB tbX n P=true:=by
      unfold soB
      cases ha:arB n P
      · rfl
      · rw [cond_true]
        cases hp:paBd tbX P n (n - 1)
        · unfold arB at ha
          have ha:arP n P:=by simpa using ha
          have hz:szP P (n - 1)=((n - 1:Nat):Int) - 0+1:=by
            unfold szP
            rw [e1,ha.2.1]
            omega
          have hd:dpP P (n - 1)+1≤((4:Nat):Int):=by
            unfold dpP
            rw [e1]
            have:=ha.2.2
            omega
          have:=ok_tp hn hP hS 4 (n - 1) 0 n (by omega) (by omega) (by omega) (fun j _ hj=>ha.1 j (by omega)) (by omega) hz hd (by omega) hp
          rw [ht] at this
          cases this
        · rfl
    rw [hs]
    exact ⟨rfl,fun h=>by cases h⟩
  · obtain ⟨a1,a2,a3,a4,a5,a6⟩:=tp_ok hn hP hS 4 (n - 1) 0 (by omega) (by omega) ht
    obtain ⟨p1,p2⟩:=a6 n (by omega)
    have ha:arB n P=true:=by
      classical
      unfold arB
      refine decide_eq_true (show arP n P from ⟨fun j hj=>a3 j (by omega) (by omega),?_,?_⟩)
      · unfold szP at a4
        rw [e1] at a4
        rw [a4]
        omega
      · unfold dpP at a5
        rw [e1] at a5
        omega
    have hs:soB tbX n P=false:=by unfold soB; rw [ha,cond_true,p1]
    rw [hs,a1,beqI]
    exact ⟨rfl,fun _=>⟨p2,ha⟩⟩
end
end Go.Proofs.YtefphimaggjihaaGreatDoor.Pi

namespace Go.Proofs.YtefphimaggjihaaGreatDoor.Pi
open Go.Shelf Go.RowKit Go.Gv
def gMf (mf:Int→Nat):List AV→AV
  | [.x (.int .i64 n)]=>.f (mf n)
  | _=>.any
def gSk (sk:Int→ByteArray):List AV→AV
  | [.x (.int .i64 n)]=>zA (sk n)
  | _=>.any
section
variable (ts:Nat→ByteArray) (tb:Nat→Bool) (dd sk:Int→ByteArray) (mf:Int→Nat) (vs:Nat→Nat→Nat→ByteArray) (vb:Nat→Nat→Nat→Bool) (F:Hs.Fm.Fd) (x x1:ByteArray) (v f:Bool) (i:Int)
def FMf (n:Int):Prop:=FSpec Tryz.prog 37 [iA n] (.f (mf n))
def FSk (n:Int):Prop:=FSpec Tryz.prog 39 [iA n] (zA (sk n))
def fwS:St:=mkS 70 [(1,.own 0 0),(5,bA v),(7,bA f),(8,zA x),(9,iA i)] [.c F.c]
def keepFw:List Nat:=[1,5,7,8,9]
noncomputable def fwK:List KEntry:=[kS Tryz.prog 33 (gTv vs vb),kS Tryz.prog 36 (gTo ts tb),kS Tryz.prog 23 (gDd dd),kS Tryz.prog 37 (gMf mf),kS Tryz.prog 39 (gSk sk)]
noncomputable def fwC (o e:Option Out):Option Out:=cond (decide (i < (F.n:Nat))) (cond (ixB i F.n||false) (gate (FMf mf (F.hs i.toNat)) (gate (FTo ts tb (mf (F.hs i.toNat))) (cond (catF x spS||false) (cond (catF (x ++ spS) (ts (mf (F.hs i.toNat)))||false) o none) none))) none) e
theorem fw_step:evC Tryz.prog [] (fwK ts tb dd sk mf vs vb) noL (loopAt Tryz.f41 0) (fwS F x v f i) (finN keepFw [some 0])=fwC ts tb mf F x i (some ⟨.normal,fwS F ((x ++ spS) ++ ts (mf (F.hs i.toNat))) v f (w64 (i+1)),.any⟩) none:=by kernel_rfl
theorem fw_end:evC Tryz.prog [] (fwK ts tb dd sk mf vs vb) noL (loopAt Tryz.f41 0) (fwS F x v f i) (finE keepFw [some 0])=fwC ts tb mf F x i none (some ⟨.exit 0,fwS F x v f i,.any⟩):=by kernel_rfl
def fwL:List ByteArray:=[dd F.W,spS,dd F.H,⟨#[32,97,116]⟩,vs (F.at_ 0) (F.at_ 1) (F.at_ 2),⟨#[32,115,105,100,101,32]⟩,ts F.sd,⟨#[32,104,105,103,104]⟩]
def fwW:ByteArray:=⟨#[102,105,101,108,100,32]⟩
def fw0:St:=fwS F (apL fwW (fwL ts dd vs F)) (vb (F.at_ 0) (F.at_ 1) (F.at_ 2)) (tb F.sd) 0
theorem fw_ev:ev Tryz.prog [] (fwK ts tb dd sk mf vs vb) (oneL 5 (toldF keepFw [some 0] (fw0 ts tb dd vs vb F) (.exit 0) (fwS F x1 (vb (F.at_ 0) (F.at_ 1) (F.at_ 2)) (tb F.sd) (F.n:Nat)))) Tryz.f41 [.agg F.c] ret =
  gate (FTv vs vb F.at_ 0) (gate (FTo ts tb F.sd) (gate (FDd dd F.W) (gate (FDd dd F.H) (cond (catL fwW (fwL ts dd vs F)) (gate (Sub (fw0 ts tb dd vs vb F) (fw0 ts tb dd vs vb F)) (gate (FSk sk F.sk) (cond (catF x1 (sk F.sk)||false) (some (Out.of (.tup [zA (x1 ++ sk F.sk),bA (cond (vb (F.at_ 0) (F.at_ 1) (F.at_ 2)) (tb F.sd) false)]))) none))) none)))):=by kernel_rfl
end
end Go.Proofs.YtefphimaggjihaaGreatDoor.Pi

namespace Go.Proofs.YtefphimaggjihaaGreatDoor.Pi
open Go.Shelf Go.RowKit Go.Gv
open Hs.Sc (Scn)
open Hs.So (prS)
def gTw (tw:Int→Int→Int→ByteArray):List AV→AV
  | [.agg [.x (.int _ a),.x (.int _ b),.x (.int _ c)]]=>zA (tw a b c)
  | _=>.any
section
variable (ts:Nat→ByteArray) (tb:Nat→Bool) (dd sk:Int→ByteArray) (mf:Int→Nat) (tw:Int→Int→Int→ByteArray) (vs:Nat→Nat→Nat→ByteArray) (vb:Nat→Nat→Nat→Bool) (s:Scn) (cn:Nat) (x:ByteArray) (i:Int) (pT:ByteArray) (pN:Int) (pB:Bool)
def pS:St:=mkS 265 [(1,.own 0 0),(13,zA x),(cn,iA i)] [.c s.c]
def pE:St:=mkS 265 [(2,zA ⟨#[]⟩),(3,iA 11)] []
def FTw (a b c:Int):Prop:=FSpec Tryz.prog 35 [.agg [iA a,iA b,iA c]] (zA (tw a b c))
noncomputable def p1K:List KEntry:=[kS Tryz.prog 36 (gTo ts tb),kS Tryz.prog 23 (gDd dd),kS Tryz.prog 37 (gMf mf),kS Tryz.prog 35 (gTw tw)]
def p1L (K:Nat→Int):List ByteArray:=[⟨#[115,107,105,110,32,115]⟩,dd i,⟨#[32,115,112,114,101,97,100]⟩,tw (K 0) (K 1) (K 2),⟨#[32,109,105,114,114,111,114]⟩,tw (K 3) (K 4) (K 5),⟨#[32,103,108,97,115,115]⟩,tw (K 6) (K 7) (K 8),⟨#[32,98,101,110,100,32]⟩,ts (mf (K 9)),⟨#[32,59,10]⟩]
noncomputable def p1C (K:Nat→Int) (o e:Option Out):Option Out:=cond (decide (i < (s.nK:Nat))) (cond (ixB i s.nK||false) (gate (FMf mf (K 9)) (gate (FTo ts tb (mf (K 9))) (gate (FDd dd i) (gate (FTw tw (K 0) (K 1) (K 2)) (gate (FTw tw (K 3) (K 4) (K 5)) (gate (FTw tw (K 6) (K 7) (K 8)) (cond (catL x (p1L ts dd mf tw i K)) o none))))))) none) e
theorem p1_step:evC Tryz.prog [] (p1K ts tb dd mf tw) noL (loopAt Tryz.f13 0) (pS s 14 x i) (finN [1,13,14] [some 0])=p1C ts tb dd mf tw s x i (s.K i.toNat) (some ⟨.normal,pS s 14 (apL x (p1L ts dd mf tw i (s.K i.toNat))) (w64 (i+1)),.any⟩) none:=by kernel_rfl
theorem p1_end:evC Tryz.prog [] (p1K ts tb dd mf tw) noL (loopAt Tryz.f13 0) (pS s 14 x i) (finE [1,13,14] [some 0])=p1C ts tb dd mf tw s x i (s.K i.toNat) none (some ⟨.exit 0,pS s 14 x i,.any⟩):=by kernel_rfl
/-- One check after the other. -/
noncomputable def ctP (o:ByteArray→Option Out):ByteArray→List ByteArray→Option Out
  | s,[]=>o s
  | s,t::r=>cond (catF s t||false) (ctP o (s ++ t) r) none
noncomputable def p2K:List KEntry:=[kS Tryz.prog 33 (gTv vs vb),kS Tryz.prog 35 (gTw tw)]
noncomputable def p2C (a:Nat→Nat) (l:Nat→Int) (o:ByteArray→Option Out) (r e:Option Out):Option Out:=cond (decide (i < (s.nL:Nat))) (cond (ixB i s.nL||false) (gate (FTv vs vb a 0) (cond (!(vb (a 0) (a 1) (a 2))) r
  (ctP (fun y=>cond (ixB i s.nL||false) (gate (FTw tw (l 0) (l 1) (l 2)) (ctP o y [tw (l 0) (l 1) (l 2),⟨#[32,59,10]⟩])) none) x [⟨#[108,97,109,112]⟩,vs (a 0) (a 1) (a 2),⟨#[32,108,105,103,104,116]⟩]))) none) e
theorem p2_step:evC Tryz.prog [] (p2K tw vs vb) noL (loopAt Tryz.f13 1) (pS s 18 x i) (finN [1,13,18] [some 0])=p2C tw vs vb s x i (s.LA i.toNat) (s.LL i.toNat) (fun y=>some ⟨.normal,pS s 18 y (w64 (i+1)),.any⟩) none none:=by kernel_rfl
theorem p2_ret:evC Tryz.prog [] (p2K tw vs vb) noL (loopAt Tryz.f13 1) (pS s 18 x i) (finR [2,3] [])=p2C tw vs vb s x i (s.LA i.toNat) (s.LL i.toNat) (fun _=>none) (some ⟨.ret,pE,.any⟩) none:=by kernel_rfl
theorem p2_end:evC Tryz.prog [] (p2K tw vs vb) noL (loopAt Tryz.f13 1) (pS s 18 x i) (finE [1,13,18] [some 0])=p2C tw vs vb s x i (s.LA i.toNat) (s.LL i.toNat) (fun _=>none) none (some ⟨.exit 2,pS s 18 x i,.any⟩):=by kernel_rfl
def F2 (f:Nat) (c:List AV):Prop:=FSpec Tryz.prog f [.agg c] (.tup [zA pT,bA pB])
noncomputable def p3K:List KEntry:=[kS Tryz.prog 38 (fun _=>.tup [zA pT,bA pB]),kS Tryz.prog 39 (gSk sk)]
noncomputable def p3C (p:Hs.Sc.Shp) (o:ByteArray→Option Out) (r e:Option Out):Option Out:=cond (decide (i < (s.nS:Nat))) (cond (ixB i s.nS||false) (gate (F2 pT pB 38 p.c) (cond (!pB) r
  (ctP (fun y=>cond (ixB i s.nS||false) (gate (FSk sk p.sk) (ctP o y [sk p.sk])) none) x [pT]))) none) e
theorem p3_step:evC Tryz.prog [] (p3K sk pT pB) noL (loopAt Tryz.f13 2) (pS s 21 x i) (finN [1,13,21] [some 0])=p3C sk s x i pT pB (s.S i.toNat) (fun y=>some ⟨.normal,pS s 21 y (w64 (i+1)),.any⟩) none none:=by kernel_rfl
theorem p3_ret:evC Tryz.prog [] (p3K sk pT pB) noL (loopAt Tryz.f13 2) (pS s 21 x i) (finR [2,3] [])=p3C sk s x i pT pB (s.S i.toNat) (fun _=>none) (some ⟨.ret,pE,.any⟩) none:=by kernel_rfl
theorem p3_end:evC Tryz.prog [] (p3K sk pT pB) noL (loopAt Tryz.f13 2) (pS s 21 x i) (finE [1,13,21] [some 0])=p3C sk s x i pT pB (s.S i.toNat) (fun _=>none) none (some ⟨.exit 4,pS s 21 x i,.any⟩):=by kernel_rfl
noncomputable def p4K:List KEntry:=[kS Tryz.prog 40 (fun _=>.tup [zA pT,iA pN,bA pB]),kS Tryz.prog 39 (gSk sk)]
noncomputable def p4C (p:Hs.Sc.Sld) (o:ByteArray→Option Out) (r e:Option Out):Option Out:=cond (decide (i < (s.nO:Nat))) (cond (ixB i s.nO||false) (gate (FSpec Tryz.prog 40 [prS p.n p.P,iA (w64 ((p.n:Int) - 1)),iA 0,iA 0] (.tup [zA pT,iA pN,bA pB])) (cond (cond (!pB) true (!(pN==w64 ((p.n:Int) - 1)))) r
  (ctP (fun y=>gate (FSk sk p.sk) (ctP o y [sk p.sk])) x [⟨#[115,111,108,105,100,32]⟩,pT]))) none) e
theorem p4_step:evC Tryz.prog [] (p4K sk pT pN pB) noL (loopAt Tryz.f13 3) (pS s 24 x i) (finN [1,13,24] [some 0])=p4C sk s x i pT pN pB (s.O i.toNat) (fun y=>some ⟨.normal,pS s 24 y (w64 (i+1)),.any⟩) none none:=by kernel_rfl
theorem p4_ret:evC Tryz.prog [] (p4K sk pT pN pB) noL (loopAt Tryz.f13 3) (pS s 24 x i) (finR [2,3] [])=p4C sk s x i pT pN pB (s.O i.toNat) (fun _=>none) (some ⟨.ret,pE,.any⟩) none:=by kernel_rfl
theorem p4_end:evC Tryz.prog [] (p4K sk pT pN pB) noL (loopAt Tryz.f13 3) (pS s 24 x i) (finE [1,13,24] [some 0])=p4C sk s x i pT pN pB (s.O i.toNat) (fun _=>none) none (some ⟨.exit 6,pS s 24 x i,.any⟩):=by kernel_rfl
noncomputable def p5K:List KEntry:=[kS Tryz.prog 41 (fun _=>.tup [zA pT,bA pB])]
noncomputable def p5C (p:Hs.Fm.Fd) (o:ByteArray→Option Out) (r e:Option Out):Option Out:=cond (decide (i < (s.nF:Nat))) (cond (ixB i s.nF||false) (gate (F2 pT pB 41 p.c) (cond (!pB) r (ctP o x [pT]))) none) e
theorem p5_step:evC Tryz.prog [] (p5K pT pB) noL (loopAt Tryz.f13 4) (pS s 29 x i) (finN [1,13,29] [some 0])=p5C s x i pT pB (s.F i.toNat) (fun y=>some ⟨.normal,pS s 29 y (w64 (i+1)),.any⟩) none none:=by kernel_rfl
theorem p5_ret:evC Tryz.prog [] (p5K pT pB) noL (loopAt Tryz.f13 4) (pS s 29 x i) (finR [2,3] [])=p5C s x i pT pB (s.F i.toNat) (fun _=>none) (some ⟨.ret,pE,.any⟩) none:=by kernel_rfl
theorem p5_end:evC Tryz.prog [] (p5K pT pB) noL (loopAt Tryz.f13 4) (pS s 29 x i) (finE [1,13,29] [some 0])=p5C s x i pT pB (s.F i.toNat) (fun _=>none) none (some ⟨.exit 8,pS s 29 x i,.any⟩):=by kernel_rfl
end
end Go.Proofs.YtefphimaggjihaaGreatDoor.Pi

namespace Go.Proofs.YtefphimaggjihaaGreatDoor.Pi
open Go.Shelf Go.RowKit Go.Gv
open Hs.Sc (Scn)
/-- What a loop does that lays strings together, and gives up at the first bad thing. -/
noncomputable def gvT (b:Bool) (keep:List Nat) (S0:St) (ex:Exit) (S1:St):LFun:=Go.Gv.condL b (toldF keep [some 0] S0 ex S1) (toldF keep [some 0] S0 .ret pE)
section
variable (ws:Nat→ByteArray) (wb:Nat→Bool) (tw:Int→Int→Int→ByteArray) (vs:Nat→Nat→Nat→ByteArray) (vb:Nat→Nat→Nat→Bool) (s:Scn) (e:Int) (y0 y1 y2 y3 y4 y5:ByteArray) (b2 b3 b4 b5:Bool)
noncomputable def spL:Nat→Option LFun:=manyL [(12,toldF [1,13,14] [some 0] (pS s 14 y0 0) (.exit 0) (pS s 14 y1 (s.nK:Nat))),(18,gvT b2 [1,13,18] (pS s 18 y1 0) (.exit 2) (pS s 18 y2 (s.nL:Nat))),(25,gvT b3 [1,13,21] (pS s 21 y2 0) (.exit 4) (pS s 21 y3 (s.nS:Nat))),(32,gvT b4 [1,13,24] (pS s 24 y3 0) (.exit 6) (pS s 24 y4 (s.nO:Nat))),(40,gvT b5 [1,13,29] (pS s 29 y4 0) (.exit 8) (pS s 29 y5 (s.nF:Nat)))]
def spE:Option Out:=some (Out.of (.tup [zA ⟨#[]⟩,iA 11]))
noncomputable def gvO (b:Bool) (S:St) (o:Option Out):Option Out:=cond b (gate (Sub S S) o) (gate (Sub S S) spE)
def eyL (a:Nat→Nat):List ByteArray:=[vs (a 0) (a 1) (a 2),⟨#[32,116,111]⟩,vs (a 3) (a 4) (a 5),⟨#[32,117,112]⟩,vs (a 6) (a 7) (a 8),⟨#[32,119,105,100,101]⟩,ws (a 9),⟨#[32,59,10,115,107,121]⟩]
def skL (l:Nat→Int):List ByteArray:=[tw (l 0) (l 1) (l 2),⟨#[32,59,10]⟩]
def eyeW:ByteArray:=⟨#[101,121,101]⟩
noncomputable def spK:List KEntry:=[kS Tryz.prog 15 (fun _=>iA e),kS Tryz.prog 33 (gTv vs vb),kS Tryz.prog 34 (gT1 ws wb),kS Tryz.prog 35 (gTw tw)]
noncomputable def spX (o:Option Out):Option Out:=gate (FSpec Tryz.prog 15 [.agg s.c] (iA e)) (cond (!(e==0)) (some (Out.of (.tup [zA ⟨#[]⟩,iA e])))
  (gate (FTv vs vb s.eye 0) (gate (FTv vs vb s.eye 3) (gate (FTv vs vb s.eye 6) (gate (FT1 ws wb s.eye 9) (cond (cond (cond (cond (!(vK vb s.eye 0)) true (!(vK vb s.eye 3))) true (!(vK vb s.eye 6))) true (!(wb (s.eye 9)))) spE o))))))
noncomputable def spY:Option Out:=gvO b2 (pS s 18 y1 0) (gvO b3 (pS s 21 y2 0) (gvO b4 (pS s 24 y3 0) (gvO b5 (pS s 29 y4 0) (some (Out.of (.tup [zA y5,iA 0]))))))
theorem sp_ev:evM Tryz.prog [] (spK ws wb tw vs vb e) [born 88] (spL s (apL (apL eyeW (eyL ws vs s.eye)) (skL tw s.sky)) y1 y2 y3 y4 y5 b2 b3 b4 b5) Tryz.f13 [.agg s.c] ret =
  spX ws wb vs vb s e (ctP (fun y=>gate (FTw tw (s.sky 0) (s.sky 1) (s.sky 2)) (ctP (fun y=>gate (Sub (pS s 14 y 0) (pS s 14 y 0)) (spY s y1 y2 y3 y4 y5 b2 b3 b4 b5)) y (skL tw s.sky))) eyeW (eyL ws vs s.eye)):=by kernel_rfl
end
end Go.Proofs.YtefphimaggjihaaGreatDoor.Pi

namespace Go.Proofs.YtefphimaggjihaaGreatDoor.Pi
open Go.Shelf Go.RowKit Go.Gv
open Go.Ev (feq isNan key NearF)
open Hs Hs.So Hs.Sc Hs.Fm
theorem near_mth {n:Int} (h:n.natAbs≤1000000):NearF (mth n):=by
  refine near_of ?_
  have hx:=mth_nan h
  have n1:isNan 13920209183539462144=false:=by decide +kernel
  have n2:isNan 4696837146684686336=false:=by decide +kernel
  have e1:key 13920209183539462144=-4696837146684686336:=by decide +kernel
  have e2:key 4696837146684686336=4696837146684686336:=by decide +kernel
  have hr:=mth_rng h
  unfold nearS
  rw [Go.Ev.fge_key hx n1,Go.Ev.fle_key hx n2,e1,e2,decide_eq_true (by omega),decide_eq_true (by omega)]
  rfl
theorem ts_mth {n:Int} (h:n.natAbs≤1000000):tsX (mth n)=lB (dcT n):=by
  obtain ⟨h1,h2⟩:=isT_tb (near_mth h) (n:=n) ⟨h,rfl⟩
  unfold tsX
  rw [h1,h2]
  rfl
def skB' (k:Int):ByteArray:=lB (wearT k)
theorem fsk_ok {k:Int} (h0:0≤k) (h1:k < 16):FSk skB' k:=ts_spec h0 (by omega)
theorem fmf_ok (n:Int):FMf mth n:=thou_spec n
theorem fdd_ok {n:Int} (h0:0≤n) (h1:n < 100000000):FDd ddL n:=dec_spec h0 h1
theorem tsX_lB (x:Nat):tsX x=lB (cond (tbX x) (dcT (tnX x)) []):=by unfold tsX; cases tbX x<;>rfl
def fxL (F:Hs.Fm.Fd):List (List UInt8):=[Lib.itoa F.W,[32],Lib.itoa F.H,[32,97,116],cond (vX F.at_ 0) (spT [F.at_ 0,F.at_ 1,F.at_ 2]) [],[32,115,105,100,101,32],cond (tbX F.sd) (dcT (tnX F.sd)) [],[32,104,105,103,104]]
def fxH (F:Hs.Fm.Fd):List UInt8:=[102,105,101,108,100,32] ++ (fxL F).flatten
def fxT (F:Hs.Fm.Fd) (j:Nat):List UInt8:=fxH F ++ tks true (hiT dcT F j)
structure FdK (F:Hs.Fm.Fd):Prop where
  at_:NearF (F.at_ 0)∧NearF (F.at_ 1)∧NearF (F.at_ 2)
  sd:NearF F.sd
  n:F.n≤64
  W:2≤F.W∧F.W≤8
  H:2≤F.H∧F.H≤8
  sk:0≤F.sk∧F.sk < 16
  hs:∀ q,q < F.n→(F.hs q).natAbs≤1000000
theorem fdK_of {F:Hs.Fm.Fd} (h:fFd F.c=0):FdK F:=by
  obtain ⟨h1,h2,h3,h4,h5,h6⟩:fineS (F.at_ 0) (F.at_ 1) (F.at_ 2)=true∧nearS F.sd=true∧F.n≤64∧(2≤F.W∧F.W≤8∧2≤F.H∧F.H≤8)∧(0≤F.sk∧F.sk < 16)∧∀ q,q < F.n→hBad (F.hs q)=false:=(fFd_ok F).2 h
  obtain ⟨f1,f2,f3⟩:=fine_all h1
  refine ⟨⟨near_of f1,near_of f2,near_of f3⟩,near_of h2,h3,by omega,by omega,h5,fun q hq=>?_⟩
  obtain ⟨b1,b2⟩:=or_no (h6 q hq)
  have b1:=of_decide_eq_false b1
  have b2:=of_decide_eq_false b2
  omega
theorem dc_len {n:Int} (h:n.natAbs≤1000000):(dcT n).length≤20:=(dc_ne _ (Nat.le_trans h (by decide))).2
theorem sp_len (x y z:Nat):(spT [x,y,z]).length≤63:=tks_few true (few_cons (ntk_len x) (few_cons (ntk_len y) (few_cons (ntk_len z) few_nil)))
theorem cond_len {α:Type} {b:Bool} {l:List α} {k:Nat} (h:l.length≤k):(cond b l []).length≤k:=by cases b<;>simp; exact h
theorem fx0_len {F:Hs.Fm.Fd} (h:FdK F):(fxH F).length≤200:=by
  have w:=(it_few (n:=F.W) (by have:=h.W; omega) (by have:=h.W; omega)).2
  have hh:=(it_few (n:=F.H) (by have:=h.H; omega) (by have:=h.H; omega)).2
  have a:=cond_len (b:=vX F.at_ 0) (sp_len (F.at_ 0) (F.at_ 1) (F.at_ 2))
  have b:=cond_len (b:=tbX F.sd) (ntk_len F.sd)
  unfold fxH fxL
  simp only [List.flatten_cons,List.flatten_nil,List.length_append,List.length_cons,List.length_nil]
  have b':(cond (tbX F.sd) (dcT (tnX F.sd)) []).length≤20:=b
  omega
theorem hi_len {F:Hs.Fm.Fd} (h:FdK F) {j:Nat} (hj:j≤F.n):(tks true (hiT dcT F j)).length≤21*64:=by
  have f:Few 64 (hiT dcT F j):=⟨by unfold hiT; simp; have:=h.n; omega,fun t ht=>by
    unfold hiT at ht
    obtain ⟨q,hq,rfl⟩:=List.mem_map.1 ht
    have:=List.mem_range.1 hq
    exact dc_len (h.hs q (by omega))⟩
  exact tks_few true f
theorem wear_few {k:Int} (h0:0≤k) (h1:k < 16):(wearT k).length≤43:=by rw [← wear_eq]; exact wear_len h0 h1 true
section
variable {F:Hs.Fm.Fd}
theorem fw_leads (h:FdK F) (v f:Bool):Leads Tryz.prog (.loop (loopAt Tryz.f41 0)) (fwS F (lB (fxT F 0)) v f 0) (.exit 0) (fwS F (lB (fxT F F.n)) v f (F.n:Nat)):=by
  have hK:∀ e,e ∈ fwK tsX tbX ddL skB' mth vsX vbX→KOk Tryz.prog e:=k_cons kS_ok (k_cons kS_ok (k_cons kS_ok (k_cons kS_ok (k_cons kS_ok k_nil))))
  refine loop_rule (fun j=>fwS F (lB (fxT F j)) v f (j:Nat)) F.n (.exit 0) _ (by simp) (fun j hj=>?_) ?_
  · have hh:=h.hs j hj
    have hd:=dc_len hh
    have l0:=fx0_len h
    have l1:=hi_len h (j:=j) (by omega)
    have hn:=h.n
    have hl:(fxT F j).length≤2000:=by unfold fxT; rw [List.length_append]; omega
    refine leads_ev (finN_sub _ _) e_nil hK noL_ok ((fw_step tsX tbX ddL skB' mth vsX vbX F (lB (fxT F j)) v f (j:Nat)).trans ?_)
    unfold fwC
    rw [dec_lt hj,ixB_t hj,Int.toNat_natCast,gate_pos (fmf_ok _),gate_pos (to_ok (near_mth hh)),ts_mth hh,show spS=lB [32] from rfl,cat_t (by rw [size_lB,size_lB]; simp; omega),lB_app,cat_t (by rw [size_lB,size_lB]; simp; omega),lB_app,w64_next (by omega)]
    have e:(fxT F j ++ [32]) ++ dcT (F.hs j)=fxT F (j+1):=by
      unfold fxT
      rw [hiT_next]
      simp
    rw [e]
    rfl
  · refine leads_ev (finE_sub _ _) e_nil hK noL_ok ((fw_end tsX tbX ddL skB' mth vsX vbX F (lB (fxT F F.n)) v f (F.n:Nat)).trans ?_)
    unfold fwC
    rw [dec_self]
    rfl
/-- What toldField gives. -/
def fdV' (F:Hs.Fm.Fd):AV:=.tup [zA (lB (fxT F F.n ++ wearT F.sk)),bA (!(fdB tbX F))]
theorem field_spec (h:FdK F):FSpec Tryz.prog 41 [.agg F.c] (fdV' F):=by
  have hK:∀ e,e ∈ fwK tsX tbX ddL skB' mth vsX vbX→KOk Tryz.prog e:=k_cons kS_ok (k_cons kS_ok (k_cons kS_ok (k_cons kS_ok (k_cons kS_ok k_nil))))
  have hL0:fwL tsX ddL vsX F=(fxL F).map lB:=by
    unfold fwL fxL
    rw [tsX_lB]
    rfl
  have l0:=fx0_len h
  have l0X:([102,105,101,108,100,32]:List UInt8).length+(fxL F).flatten.length≤200:=by rw [← List.length_append]; exact l0
  have l1:=hi_len h (j:=F.n) (Nat.le_refl _)
  have l2:=wear_few h.sk.1 h.sk.2
  have e0:apL fwW (fwL tsX ddL vsX F)=lB (fxT F 0):=by
    rw [hL0,show fwW=lB [102,105,101,108,100,32] from rfl,apL_lB]
    unfold fxT fxH hiT
    simp
  have hc:catL fwW (fwL tsX ddL vsX F)=true:=by
    rw [hL0,show fwW=lB [102,105,101,108,100,32] from rfl]
    exact catL_lB _ _ (by omega)
  have key:Leads Tryz.prog (.loop (loopAt Tryz.f41 0)) (fw0 tsX tbX ddL vsX vbX F) (.exit 0) (fwS F (lB (fxT F F.n)) (vbX (F.at_ 0) (F.at_ 1) (F.at_ 2)) (tbX F.sd) (F.n:Nat)):=by
    unfold fw0
    rw [e0]
    exact fw_leads h _ _
  have hL:=lok_hd (c:=bodyOf Tryz.f41) (i:=5) 0 (by kernel_rfl) (by kernel_rfl) (toldF_sound (keep:=keepFw) (τ:=[some 0]) key)
  refine gspec e_nil hK Tryz.func41 (by kernel_rfl) (by kernel_rfl) hL rfl ((fw_ev tsX tbX ddL skB' mth vsX vbX F (lB (fxT F F.n))).trans ?_)
  rw [gate_pos (show FTv vsX vbX F.at_ 0 from tv_X h.at_.1 h.at_.2.1 h.at_.2.2),gate_pos (to_ok h.sd),gate_pos (fdd_ok (by have:=h.W; omega) (by have:=h.W; omega)),gate_pos (fdd_ok (by have:=h.H; omega) (by have:=h.H; omega)),hc,gate_pos (Sub.refl _),gate_pos (fsk_ok h.sk.1 h.sk.2)]
  have hl:(fxT F F.n).length≤2000:=by unfold fxT; rw [List.length_append]; omega
  have e1:skB' F.sk=lB (wearT F.sk):=rfl
  rw [e1,cat_t (by rw [size_lB,size_lB]; omega),lB_app]
  have e2:cond (vbX (F.at_ 0) (F.at_ 1) (F.at_ 2)) (tbX F.sd) false=!(fdB tbX F):=by
    unfold fdB
    rw [vB_eq]
    show cond (vX F.at_ 0) (tbX F.sd) false=_
    cases vX F.at_ 0<;>cases tbX F.sd<;>rfl
  rw [e2]
  rfl
theorem fd_text (hb:fdB tbX F=false):fxT F F.n ++ wearT F.sk=tks false (fdT dcT tnX F) ++ lineE true [nmT F.sk]:=by
  unfold fdB at hb
  rw [vB_eq] at hb
  have h1:vX F.at_ 0=true:=by cases h:vX F.at_ 0; rw [h] at hb; cases hb; rfl
  have h2:tbX F.sd=true:=by cases h:tbX F.sd; rw [h1,h] at hb; cases hb; rfl
  rw [wear_eq]
  unfold fxT fxH fxL fdT fdW
  rw [h1,h2]
  simp [vT,ntk,spT]
end
end Go.Proofs.YtefphimaggjihaaGreatDoor.Pi

namespace Go.Proofs.YtefphimaggjihaaGreatDoor.Pi
open Go.Shelf Go.RowKit Go.Gv
open Go.Ev (feq isNan key NearF)
open Hs Hs.So Hs.Sc Hs.Fm
theorem any_t {B:Nat→Bool}:∀ {n:Nat},(∀ i,i < n→B i=false)→anyN B n=false
  | 0,_=>rfl
  | n+1,h=>by show (anyN B n||B n)=false; rw [any_t fun i hi=>h i (by omega),h n (by omega)]; rfl
theorem any_f {B:Nat→Bool}:∀ {n K:Nat},K < n→B K=true→anyN B n=true
  | 0,_,h,_=>by omega
  | n+1,K,h,hb=>by
    show (anyN B n||B n)=true
    by_cases e:K=n
    · subst e; rw [hb]; simp
    · rw [any_f (show K < n by omega) hb]; rfl
theorem gv_sound {c:Code} {keep:List Nat} {S:ByteArray→Int→St} {ex:Exit} {B:Nat→Bool} {T:Nat→ByteArray} {n:Nat} (hex:ex≠.normal) (h1:∀ k:Nat,k < n→B k=false→Leads Tryz.prog c (S (T k) (k:Nat)) .normal (S (T (k+1)) ((k+1:Nat):Int)))
    (h2:∀ k:Nat,k < n→B k=true→Leads Tryz.prog c (S (T k) (k:Nat)) .ret pE) (h3:Leads Tryz.prog c (S (T n) (n:Nat)) ex (S (T n) (n:Nat))):LSound Tryz.prog c (gvT (!(anyN B n)) keep (S (T 0) 0) ex (S (T n) (n:Nat))):=by
  rcases all_or_first (fun i=>!(B i)) n with hl | ⟨K,hK,hp,hq⟩
  · have hl':∀ i,i < n→B i=false:=fun i hi=>by simpa using hl i hi
    refine condL_sound (fun _=>?_) fun hb=>?_
    · exact toldF_sound (loop_rule (fun k=>S (T k) (k:Nat)) n ex _ hex (fun k hk=>h1 k hk (hl' k hk)) h3)
    · rw [any_t hl'] at hb; cases hb
  · have hp':B K=true:=by simpa using hp
    have hq':∀ i,i < K→B i=false:=fun i hi=>by simpa using hq i hi
    refine condL_sound (fun hb=>?_) fun _=>?_
    · rw [any_f hK hp'] at hb; cases hb
    · exact toldF_sound (loop_rule (fun k=>S (T k) (k:Nat)) K .ret _ (by simp) (fun k hk=>h1 k (by omega) (hq' k hk)) (h2 K hK hp'))
theorem ctP_lB (o:ByteArray→Option Out):∀ (l:List UInt8) (r:List (List UInt8)),l.length+r.flatten.length≤1000000000→ctP o (lB l) (r.map lB)=o (lB (l ++ r.flatten))
  | l,[],_=>by simp [ctP]
  | l,t::r,h=>by
    rw [List.flatten_cons,List.length_append] at h
    show cond (catF (lB l) (lB t)||false) (ctP o (lB l ++ lB t) (r.map lB)) none=_
    rw [cat_t (by rw [size_lB,size_lB]; omega),lB_app,ctP_lB o (l ++ t) r (by rw [List.length_append]; omega),List.flatten_cons,List.append_assoc]
    rfl
def twX (a b c:Int):ByteArray:=lB (tks true [Lib.itoa a,Lib.itoa b,Lib.itoa c])
theorem tw_ok {l:Nat→Int} (h:∀ q,q < 3→0≤l q∧l q≤65536):FTw twX (l 0) (l 1) (l 2):=tw_spec h
theorem tw_len {l:Nat→Int} (h:∀ q,q < 3→0≤l q∧l q≤65536):(tks true (whT l)).length≤63:=tks_few true (wh_few h)
/-- What is known of a scene that may be. -/
structure ScK (s:Scn):Prop where
  few:s.nS≤64∧s.nO≤8∧s.nF≤2∧s.nK≤16∧s.nL≤4
  eye:∀ i,i < 10→NearF (s.eye i)
  sky:∀ q,q < 3→0≤s.sky q∧s.sky q≤65536
  K:∀ j,j < s.nK→(∀ q,q < 9→0≤s.K j q∧s.K j q≤1000)∧100≤s.K j 9∧s.K j 9≤10000
  L:∀ j,j < s.nL→(∀ i,i < 3→NearF (s.LA j i))∧∀ q,q < 3→0≤s.LL j q∧s.LL j q≤65536
  S:∀ j,j < s.nS→(1≤(s.S j).k∧(s.S j).k≤6)∧(∀ i,i < 11→NearF ((s.S j).a i))∧0≤(s.S j).sk∧(s.S j).sk < 16
  O:∀ j,j < s.nO→(1≤(s.O j).n∧(s.O j).n≤16)∧PM (s.O j).n (s.O j).P∧HS (s.O j).n (s.O j).P∧0≤(s.O j).sk∧(s.O j).sk < 16
  F:∀ j,j < s.nF→FdK (s.F j)
theorem near3 {a:Nat→Nat} (h:fineS (a 0) (a 1) (a 2)=true):∀ i,i < 3→NearF (a i):=fun i hi=>by
  obtain ⟨f1,f2,f3⟩:=fine_all h
  match i,hi with
  | 0,_=>exact near_of f1
  | 1,_=>exact near_of f2
  | 2,_=>exact near_of f3
theorem near11 {a:Nat→Nat} (h:rcB a=false):∀ i,i < 11→NearF (a i):=fun i hi=>by
  obtain ⟨r0,r3,r6,r9,r10⟩:=rc_all h
  obtain ⟨a0,a1,a2⟩:=fine_all r0
  obtain ⟨a3,a4,a5⟩:=fine_all r3
  obtain ⟨a6,a7,a8⟩:=fine_all r6
  match i,hi with
  | 0,_=>exact near_of a0
  | 1,_=>exact near_of a1
  | 2,_=>exact near_of a2
  | 3,_=>exact near_of a3
  | 4,_=>exact near_of a4
  | 5,_=>exact near_of a5
  | 6,_=>exact near_of a6
  | 7,_=>exact near_of a7
  | 8,_=>exact near_of a8
  | 9,_=>exact near_of r9
  | 10,_=>exact near_of r10
theorem scK_of {s:Scn} (h:scE s=0):ScK s:=by
  have few:=(scN_of h).2
  unfold scE at h
  obtain ⟨_,h⟩:=c4 (by decide) h
  obtain ⟨hK,h⟩:=c0 h
  obtain ⟨hT,h⟩:=c0 h
  obtain ⟨hL,h⟩:=c0 h
  obtain ⟨hY,h⟩:=c4 (by decide) h
  unfold thE at hT
  obtain ⟨hS,hT⟩:=c0 hT
  obtain ⟨hO,hF⟩:=c0 hT
  obtain ⟨y0,y3,y6,y9⟩:=ey_of h
  refine ⟨few,fun i hi=>?_,li_all (not_no hY),fun j hj=>sk_all (k:=s.K j) (seq_zero _ hK j hj),fun j hj=>?_,fun j hj=>?_,fun j hj=>?_,fun j hj=>fdK_of (we0 (seq_zero _ hF j hj))⟩
  · obtain ⟨a0,a1,a2⟩:=fine_all y0
    obtain ⟨a3,a4,a5⟩:=fine_all y3
    obtain ⟨a6,a7,a8⟩:=fine_all y6
    match i,hi with
    | 0,_=>exact near_of a0
    | 1,_=>exact near_of a1
    | 2,_=>exact near_of a2
    | 3,_=>exact near_of a3
    | 4,_=>exact near_of a4
    | 5,_=>exact near_of a5
    | 6,_=>exact near_of a6
    | 7,_=>exact near_of a7
    | 8,_=>exact near_of a8
    | 9,_=>exact near_of y9
  · have hl:lmE (s.LA j) (s.LL j)=0:=seq_zero _ hL j hj
    unfold lmE at hl
    obtain ⟨a1,hl⟩:=c4 (by decide) hl
    obtain ⟨a2,_⟩:=c4 (by decide) hl
    exact ⟨near3 (not_no a1),li_all (not_no a2)⟩
  · have hm:mayC (shC (s.S j).k (s.S j).a (s.S j).sk)=0:=we0 (seq_zero _ hS j hj)
    obtain ⟨m1,m2,m3⟩:=mayC_near hm
    exact ⟨m2,near11 m1,m3⟩
  · have hm:soE (s.O j).n (s.O j).P (s.O j).sk=0:=we0 (seq_zero _ hO j hj)
    unfold soE at hm
    obtain ⟨n1,hm⟩:=c4 (by decide) hm
    obtain ⟨b2,hm⟩:=c4 (by decide) hm
    obtain ⟨n1,n2⟩:=or_no n1
    have n1:=of_decide_eq_false n1
    have n2:=of_decide_eq_false n2
    obtain ⟨p1,p2⟩:=pm_of (seq_zero _ hm)
    exact ⟨by omega,p1,fun i hi h0=>⟨(mayC_near (p2 i hi h0)).2.1,near11 (mayC_near (p2 i hi h0)).1⟩,skB_rng b2⟩
section
variable {s:Scn}
abbrev E1 (s:Scn) (j:Nat):List UInt8:=comp (skI dcT s j) false
abbrev E2 (s:Scn) (j:Nat):List UInt8:=comp (lmI dcT tnX tbX s j) false
abbrev E3 (s:Scn) (j:Nat):List UInt8:=comp (shI dcT tnX tbX s j) false
noncomputable abbrev E4 (s:Scn) (j:Nat):List UInt8:=comp (soI dcT tnX tbX s j) false
abbrev E5 (s:Scn) (j:Nat):List UInt8:=comp (feI dcT tnX tbX s j) false
theorem l1_step (h:ScK s) {j:Nat} (hj:j < s.nK) {y:List UInt8} (hy:y.length≤900000):Leads Tryz.prog (loopAt Tryz.f13 0) (pS s 14 (lB y) (j:Nat)) .normal (pS s 14 (lB (y ++ E1 s j)) ((j+1:Nat):Int)):=by
  obtain ⟨k1,k2,k3⟩:=h.K j hj
  have hn:=h.few
  have r0:∀ q,q < 3→0≤s.K j q∧s.K j q≤65536:=fun q hq=>by have:=k1 q (by omega); omega
  have r3:∀ q,q < 3→0≤(fun q=>s.K j (3+q)) q∧(fun q=>s.K j (3+q)) q≤65536:=fun q hq=>by have:=k1 (3+q) (by omega); show 0≤s.K j (3+q)∧s.K j (3+q)≤65536; omega
  have r6:∀ q,q < 3→0≤(fun q=>s.K j (6+q)) q∧(fun q=>s.K j (6+q)) q≤65536:=fun q hq=>by have:=k1 (6+q) (by omega); show 0≤s.K j (6+q)∧s.K j (6+q)≤65536; omega
  have hb:(s.K j 9).natAbs≤1000000:=by omega
  have el:p1L tsX ddL mth twX (j:Nat) (s.K j)=List.map lB [[115,107,105,110,32,115],Lib.itoa (j:Nat),[32,115,112,114,101,97,100],tks true (whT (s.K j)),[32,109,105,114,114,111,114],tks true (whT fun q=>s.K j (3+q)),[32,103,108,97,115,115],tks true (whT fun q=>s.K j (6+q)),[32,98,101,110,100,32],dcT (s.K j 9),[32,59,10]]:=by
    unfold p1L
    rw [ts_mth hb]
    rfl
  have ef:[[115,107,105,110,32,115],Lib.itoa (j:Nat),[32,115,112,114,101,97,100],tks true (whT (s.K j)),[32,109,105,114,114,111,114],tks true (whT fun q=>s.K j (3+q)),[32,103,108,97,115,115],tks true (whT fun q=>s.K j (6+q)),[32,98,101,110,100,32],dcT (s.K j 9),[32,59,10]].flatten=E1 s j:=by
    show _=lineE false (skT dcT (s.K j) (fun q=>s.K j (3+q)) (fun q=>s.K j (6+q)) (s.K j 9) (j:Nat)) ++ []
    simp [lineE,skT,whT,nmT,W1,W2,W3,W4,W5]
  have hE:(E1 s j).length≤1000:=by
    rw [← ef]
    have a0:=tw_len r0
    have a3:=tw_len r3
    have a6:=tw_len r6
    have a9:=dc_len hb
    have ai:=(it_few (n:=(j:Nat)) (by omega) (by omega)).2
    simp only [List.flatten_cons,List.flatten_nil,List.length_append,List.length_cons,List.length_nil]
    omega
  refine leads_ev (finN_sub _ _) e_nil (k_cons kS_ok (k_cons kS_ok (k_cons kS_ok (k_cons kS_ok k_nil)))) noL_ok ((p1_step tsX tbX ddL mth twX s (lB y) (j:Nat)).trans ?_)
  unfold p1C
  rw [dec_lt hj,ixB_t hj,Int.toNat_natCast,gate_pos (fmf_ok _),gate_pos (to_ok (near_mth hb)),gate_pos (fdd_ok (by omega) (by omega)),gate_pos (tw_ok r0),gate_pos (show FTw twX (s.K j 3) (s.K j 4) (s.K j 5) from tw_ok r3),gate_pos (show FTw twX (s.K j 6) (s.K j 7) (s.K j 8) from tw_ok r6),el,catL_lB y _ (by rw [ef]; omega),apL_lB,ef,w64_next (by omega)]
  rfl
end
end Go.Proofs.YtefphimaggjihaaGreatDoor.Pi

namespace Go.Proofs.YtefphimaggjihaaGreatDoor.Pi
open Go.Shelf Go.RowKit Go.Gv
open Go.Ev (feq isNan key NearF)
open Hs Hs.So Hs.Sc Hs.Fm
section
variable {s:Scn}
theorem l2_go (h:ScK s) {j:Nat} (hj:j < s.nL) {y:List UInt8} (hy:y.length≤900000) (o:ByteArray→Option Out) (r e:Option Out):p2C twX vsX vbX s (lB y) (j:Nat) (s.LA j) (s.LL j) o r e=cond (vX (s.LA j) 0) (o (lB (y ++ E2 s j))) r:=by
  obtain ⟨n1,n2⟩:=h.L j hj
  unfold p2C
  rw [dec_lt hj,ixB_t hj,gate_pos (show FTv vsX vbX (s.LA j) 0 from tv_X (n1 0 (by omega)) (n1 1 (by omega)) (n1 2 (by omega)))]
  show cond (!(vX (s.LA j) 0)) r _=_
  cases hv:vX (s.LA j) 0
  · rfl
  · have ev:vsX (s.LA j 0) (s.LA j 1) (s.LA j 2)=lB (spT [s.LA j 0,s.LA j 1,s.LA j 2]):=vS_t hv
    have l1:=sp_len (s.LA j 0) (s.LA j 1) (s.LA j 2)
    have l2:=tw_len n2
    have c1:=ctP_lB (fun y=>cond (ixB ((j:Nat):Int) s.nL||false) (gate (FTw twX (s.LL j 0) (s.LL j 1) (s.LL j 2)) (ctP o y [twX (s.LL j 0) (s.LL j 1) (s.LL j 2),⟨#[32,59,10]⟩])) none) y [[108,97,109,112],spT [s.LA j 0,s.LA j 1,s.LA j 2],[32,108,105,103,104,116]] (by
      simp only [List.flatten_cons,List.flatten_nil,List.length_append,List.length_cons,List.length_nil]
      omega)
    have c2:=ctP_lB o (y ++ [[108,97,109,112],spT [s.LA j 0,s.LA j 1,s.LA j 2],[32,108,105,103,104,116]].flatten) [tks true (whT (s.LL j)),[32,59,10]] (by
      simp only [List.flatten_cons,List.flatten_nil,List.length_append,List.length_cons,List.length_nil]
      omega)
    rw [ev]
    show ctP _ (lB y) (List.map lB [[108,97,109,112],spT [s.LA j 0,s.LA j 1,s.LA j 2],[32,108,105,103,104,116]])=_
    rw [ixB_t hj] at c1
    rw [c1,gate_pos (tw_ok n2)]
    refine Eq.trans (show _=ctP o (lB (y ++ [[108,97,109,112],spT [s.LA j 0,s.LA j 1,s.LA j 2],[32,108,105,103,104,116]].flatten)) (List.map lB [tks true (whT (s.LL j)),[32,59,10]]) from rfl) ?_
    rw [c2,cond_true]
    congr 2
    show _=y ++ (lineE false (lamT dcT tnX (s.LA j) (s.LL j)) ++ [])
    simp [lineE,lamT,whT,vT,spT,ntk]
theorem B2_eq (j:Nat):cbad (lmI dcT tnX tbX s j)=!(vX (s.LA j) 0):=by
  show (vB tbX (s.LA j) 0||false)=_
  rw [vB_eq,Bool.or_false]
theorem l2_sound (h:ScK s) {y:List UInt8} (hy:y.length+(lineL (E2 s) s.nL).length≤900000):LSound Tryz.prog (loopAt Tryz.f13 1) (gvT (!(anyN (fun j=>cbad (lmI dcT tnX tbX s j)) s.nL)) [1,13,18] (pS s 18 (lB (y ++ lineL (E2 s) 0)) 0) (.exit 2) (pS s 18 (lB (y ++ lineL (E2 s) s.nL)) (s.nL:Nat))):=by
  have hK:∀ e,e ∈ p2K twX vsX vbX→KOk Tryz.prog e:=k_cons kS_ok (k_cons kS_ok k_nil)
  have hn:=h.few
  have hle:∀ j,j≤s.nL→(y ++ lineL (E2 s) j).length≤900000:=fun j hj=>by rw [List.length_append]; have:=lineL_le (E:=E2 s) hj; omega
  refine gv_sound (S:=pS s 18) (T:=fun k=>lB (y ++ lineL (E2 s) k)) (by simp) (fun j hj hb=>?_) (fun j hj hb=>?_) ?_
  · refine leads_ev (finN_sub _ _) e_nil hK noL_ok ((p2_step twX vsX vbX s (lB (y ++ lineL (E2 s) j)) (j:Nat)).trans ?_)
    rw [B2_eq] at hb
    have hv:vX (s.LA j) 0=true:=not_no hb
    rw [Int.toNat_natCast,l2_go h hj (hle j (by omega)),hv,w64_next (by omega)]
    show some _=some _
    rw [List.append_assoc]
    rfl
  · refine leads_ev (finR_sub _ _) e_nil hK noL_ok ((p2_ret twX vsX vbX s (lB (y ++ lineL (E2 s) j)) (j:Nat)).trans ?_)
    rw [B2_eq] at hb
    have hv:vX (s.LA j) 0=false:=by cases hc:vX (s.LA j) 0; rfl; rw [hc] at hb; cases hb
    rw [Int.toNat_natCast,l2_go h hj (hle j (by omega)),hv]
    rfl
  · refine leads_ev (finE_sub _ _) e_nil hK noL_ok ((p2_end twX vsX vbX s (lB (y ++ lineL (E2 s) s.nL)) (s.nL:Nat)).trans ?_)
    unfold p2C
    rw [dec_self]
    rfl
abbrev pT3 (s:Scn) (j:Nat):List UInt8:=cond (allT (s.S j).a) (tks false (shT dcT tnX (s.S j).k (s.S j).a)) []
theorem l3_go (h:ScK s) {j:Nat} (hj:j < s.nS) {y:List UInt8} (hy:y.length≤900000) (o:ByteArray→Option Out) (r e:Option Out):p3C skB' s (lB y) (j:Nat) (lB (pT3 s j)) (!(shB tbX (s.S j).k (s.S j).a (s.S j).sk)) (s.S j) o r e=cond (shB tbX (s.S j).k (s.S j).a (s.S j).sk) r (o (lB (y ++ E3 s j))):=by
  obtain ⟨n1,n2,n3,n4⟩:=h.S j hj
  unfold p3C
  rw [dec_lt hj,ixB_t hj,gate_pos (show F2 (lB (pT3 s j)) (!(shB tbX (s.S j).k (s.S j).a (s.S j).sk)) 38 (s.S j).c from form_spec (s.S j).sk n1 n2)]
  cases hb:shB tbX (s.S j).k (s.S j).a (s.S j).sk
  · have hA:=shB_all n1 n2 hb
    have l1:(tks false (shT dcT tnX (s.S j).k (s.S j).a)).length≤273:=tks_few false (shT_few _ _)
    have l2:=wear_few n3 n4
    have eT:pT3 s j=tks false (shT dcT tnX (s.S j).k (s.S j).a):=by show cond _ _ _=_; rw [hA]; rfl
    rw [eT]
    have c1:=ctP_lB (fun y=>cond (ixB ((j:Nat):Int) s.nS||false) (gate (FSk skB' (s.S j).sk) (ctP o y [skB' (s.S j).sk])) none) y [tks false (shT dcT tnX (s.S j).k (s.S j).a)] (by simp only [List.flatten_cons,List.flatten_nil,List.length_append,List.length_nil]; omega)
    have c2:=ctP_lB o (y ++ [tks false (shT dcT tnX (s.S j).k (s.S j).a)].flatten) [wearT (s.S j).sk] (by simp only [List.flatten_cons,List.flatten_nil,List.length_append,List.length_nil]; omega)
    refine Eq.trans (show _=ctP _ (lB y) (List.map lB [tks false (shT dcT tnX (s.S j).k (s.S j).a)]) from rfl) ?_
    rw [ixB_t hj] at c1
    rw [c1,gate_pos (fsk_ok n3 n4)]
    refine Eq.trans (show _=ctP o (lB (y ++ [tks false (shT dcT tnX (s.S j).k (s.S j).a)].flatten)) (List.map lB [wearT (s.S j).sk]) from rfl) ?_
    rw [c2,cond_false,← wear_eq]
    congr 2
    show _=y ++ (tks false (shT dcT tnX (s.S j).k (s.S j).a) ++ (lineE true [nmT (s.S j).sk] ++ []))
    simp only [List.flatten_cons,List.flatten_nil,List.append_nil,List.append_assoc]
  · rfl
theorem B3_eq (j:Nat):cbad (shI dcT tnX tbX s j)=shB tbX (s.S j).k (s.S j).a (s.S j).sk:=by
  show (shB tbX (s.S j).k (s.S j).a (s.S j).sk||(false||false))=_
  simp
theorem l3_sound (h:ScK s) {y:List UInt8} (hy:y.length+(lineL (E3 s) s.nS).length≤900000):LSound Tryz.prog (loopAt Tryz.f13 2) (gvT (!(anyN (fun j=>cbad (shI dcT tnX tbX s j)) s.nS)) [1,13,21] (pS s 21 (lB (y ++ lineL (E3 s) 0)) 0) (.exit 4) (pS s 21 (lB (y ++ lineL (E3 s) s.nS)) (s.nS:Nat))):=by
  have hK:∀ (a:ByteArray) (b:Bool) e,e ∈ p3K skB' a b→KOk Tryz.prog e:=fun _ _=>k_cons kS_ok (k_cons kS_ok k_nil)
  have hn:=h.few
  have hle:∀ j,j≤s.nS→(y ++ lineL (E3 s) j).length≤900000:=fun j hj=>by rw [List.length_append]; have:=lineL_le (E:=E3 s) hj; omega
  refine gv_sound (S:=pS s 21) (T:=fun k=>lB (y ++ lineL (E3 s) k)) (by simp) (fun j hj hb=>?_) (fun j hj hb=>?_) ?_
  · refine leads_ev (finN_sub _ _) e_nil (hK _ _) noL_ok ((p3_step skB' s (lB (y ++ lineL (E3 s) j)) (j:Nat) (lB (pT3 s j)) (!(shB tbX (s.S j).k (s.S j).a (s.S j).sk))).trans ?_)
    rw [B3_eq] at hb
    rw [Int.toNat_natCast,l3_go h hj (hle j (by omega)),hb,w64_next (by omega),cond_false,List.append_assoc]
    rfl
  · refine leads_ev (finR_sub _ _) e_nil (hK _ _) noL_ok ((p3_ret skB' s (lB (y ++ lineL (E3 s) j)) (j:Nat) (lB (pT3 s j)) (!(shB tbX (s.S j).k (s.S j).a (s.S j).sk))).trans ?_)
    rw [B3_eq] at hb
    rw [Int.toNat_natCast,l3_go h hj (hle j (by omega)),hb]
    rfl
  · refine leads_ev (finE_sub _ _) e_nil (hK ⟨#[]⟩ false) noL_ok ((p3_end skB' s (lB (y ++ lineL (E3 s) s.nS)) (s.nS:Nat) ⟨#[]⟩ false).trans ?_)
    unfold p3C
    rw [dec_self]
    rfl
abbrev pt4 (s:Scn) (j:Nat):List UInt8 × Int × Bool:=tpF (s.O j).P 4 ((s.O j).n - 1) 0
theorem l4_go (h:ScK s) {j:Nat} (hj:j < s.nO) {y:List UInt8} (hy:y.length≤900000) (o:ByteArray→Option Out) (r e:Option Out):p4C skB' s (lB y) (j:Nat) (lB (pt4 s j).1) (pt4 s j).2.1 (pt4 s j).2.2 (s.O j) o r e=cond (soB tbX (s.O j).n (s.O j).P) r (o (lB (y ++ E4 s j))):=by
  obtain ⟨⟨n1,n2⟩,hP,hS,k1,k2⟩:=h.O j hj
  have hw:w64 (((s.O j).n:Int) - 1)=(((s.O j).n - 1:Nat):Int):=by rw [w64_id (by omega) (by omega)]; omega
  have hp:FSpec Tryz.prog 40 [prS (s.O j).n (s.O j).P,iA (((s.O j).n - 1:Nat):Int),iA 0,iA 0] (.tup [zA (lB (pt4 s j).1),iA (pt4 s j).2.1,bA (pt4 s j).2.2]):=part_spec n2 hP hS 3 (by omega) ((s.O j).n - 1) 0 (by omega)
  obtain ⟨q1,q2⟩:=so_eq n1 n2 hP hS
  unfold p4C
  rw [dec_lt hj,ixB_t hj,hw,gate_pos hp,q1]
  cases hb:soB tbX (s.O j).n (s.O j).P
  · obtain ⟨q3,q4⟩:=q2 hb
    have l1:(pt4 s j).1.length≤16000:=by have:=tpF_len (s.O j).P 4 ((s.O j).n - 1) 0; show (tpF (s.O j).P 4 ((s.O j).n - 1) 0).1.length≤16000; omega
    have l2:=wear_few k1 k2
    have c1:=ctP_lB (fun y=>gate (FSk skB' (s.O j).sk) (ctP o y [skB' (s.O j).sk])) y [[115,111,108,105,100,32],(pt4 s j).1] (by simp only [List.flatten_cons,List.flatten_nil,List.length_append,List.length_cons,List.length_nil]; omega)
    have c2:=ctP_lB o (y ++ [[115,111,108,105,100,32],(pt4 s j).1].flatten) [wearT (s.O j).sk] (by simp only [List.flatten_cons,List.flatten_nil,List.length_append,List.length_cons,List.length_nil]; omega)
    refine Eq.trans (show _=ctP _ (lB y) (List.map lB [[115,111,108,105,100,32],(pt4 s j).1]) from rfl) ?_
    rw [c1,gate_pos (fsk_ok k1 k2)]
    refine Eq.trans (show _=ctP o (lB (y ++ [[115,111,108,105,100,32],(pt4 s j).1].flatten)) (List.map lB [wearT (s.O j).sk]) from rfl) ?_
    rw [c2,cond_false,← wear_eq]
    congr 2
    have q3':(pt4 s j).1=tks false (paT dcT tnX (s.O j).P (s.O j).n ((s.O j).n - 1)):=q3
    show _=y ++ (tks false (soT dcT tnX (s.O j).n (s.O j).P) ++ (lineE true [nmT (s.O j).sk] ++ []))
    unfold soT
    rw [q4,cond_true,q3']
    have et:tks false (soW::paT dcT tnX (s.O j).P (s.O j).n ((s.O j).n - 1))=[115,111,108,105,100] ++ tks true (paT dcT tnX (s.O j).P (s.O j).n ((s.O j).n - 1)):=rfl
    rw [et,tks_tf (paT_ne (by omega))]
    simp only [List.flatten_cons,List.flatten_nil,List.append_nil,List.append_assoc,List.cons_append,List.nil_append]
  · rfl
theorem B4_eq (j:Nat):cbad (soI dcT tnX tbX s j)=soB tbX (s.O j).n (s.O j).P:=by
  show (soB tbX (s.O j).n (s.O j).P||(false||false))=_
  simp
theorem l4_sound (h:ScK s) {y:List UInt8} (hy:y.length+(lineL (E4 s) s.nO).length≤900000):LSound Tryz.prog (loopAt Tryz.f13 3) (gvT (!(anyN (fun j=>cbad (soI dcT tnX tbX s j)) s.nO)) [1,13,24] (pS s 24 (lB (y ++ lineL (E4 s) 0)) 0) (.exit 6) (pS s 24 (lB (y ++ lineL (E4 s) s.nO)) (s.nO:Nat))):=by
  have hK:∀ (a:ByteArray) (n:Int) (b:Bool) e,e ∈ p4K skB' a n b→KOk Tryz.prog e:=fun _ _ _=>k_cons kS_ok (k_cons kS_ok k_nil)
  have hn:=h.few
  have hle:∀ j,j≤s.nO→(y ++ lineL (E4 s) j).length≤900000:=fun j hj=>by rw [List.length_append]; have:=lineL_le (E:=E4 s) hj; omega
  refine gv_sound (S:=pS s 24) (T:=fun k=>lB (y ++ lineL (E4 s) k)) (by simp) (fun j hj hb=>?_) (fun j hj hb=>?_) ?_
  · refine leads_ev (finN_sub _ _) e_nil (hK _ _ _) noL_ok ((p4_step skB' s (lB (y ++ lineL (E4 s) j)) (j:Nat) (lB (pt4 s j).1) (pt4 s j).2.1 (pt4 s j).2.2).trans ?_)
    rw [B4_eq] at hb
    rw [Int.toNat_natCast,l4_go h hj (hle j (by omega)),hb,w64_next (by omega),cond_false,List.append_assoc]
    rfl
  · refine leads_ev (finR_sub _ _) e_nil (hK _ _ _) noL_ok ((p4_ret skB' s (lB (y ++ lineL (E4 s) j)) (j:Nat) (lB (pt4 s j).1) (pt4 s j).2.1 (pt4 s j).2.2).trans ?_)
    rw [B4_eq] at hb
    rw [Int.toNat_natCast,l4_go h hj (hle j (by omega)),hb]
    rfl
  · refine leads_ev (finE_sub _ _) e_nil (hK ⟨#[]⟩ 0 false) noL_ok ((p4_end skB' s (lB (y ++ lineL (E4 s) s.nO)) (s.nO:Nat) ⟨#[]⟩ 0 false).trans ?_)
    unfold p4C
    rw [dec_self]
    rfl
abbrev pT5 (s:Scn) (j:Nat):List UInt8:=fxT (s.F j) (s.F j).n ++ wearT (s.F j).sk
theorem l5_go (h:ScK s) {j:Nat} (hj:j < s.nF) {y:List UInt8} (hy:y.length≤900000) (o:ByteArray→Option Out) (r e:Option Out):p5C s (lB y) (j:Nat) (lB (pT5 s j)) (!(fdB tbX (s.F j))) (s.F j) o r e=cond (fdB tbX (s.F j)) r (o (lB (y ++ E5 s j))):=by
  have hF:=h.F j hj
  unfold p5C
  rw [dec_lt hj,ixB_t hj,gate_pos (show F2 (lB (pT5 s j)) (!(fdB tbX (s.F j))) 41 (s.F j).c from field_spec hF)]
  cases hb:fdB tbX (s.F j)
  · have l0:=fx0_len hF
    have l1:=hi_len hF (j:=(s.F j).n) (Nat.le_refl _)
    have l2:=wear_few hF.sk.1 hF.sk.2
    have l3:(pT5 s j).length≤2000:=by show (fxH (s.F j) ++ tks true (hiT dcT (s.F j) (s.F j).n) ++ wearT (s.F j).sk).length≤2000; simp only [List.length_append]; omega
    have c1:=ctP_lB o y [pT5 s j] (by simp only [List.flatten_cons,List.flatten_nil,List.append_nil]; omega)
    refine Eq.trans (show _=ctP o (lB y) (List.map lB [pT5 s j]) from rfl) ?_
    rw [c1,cond_false]
    congr 2
    show _=y ++ (tks false (fdT dcT tnX (s.F j)) ++ (lineE true [nmT (s.F j).sk] ++ []))
    rw [List.append_nil,← fd_text hb]
    simp only [List.flatten_cons,List.flatten_nil,List.append_nil]
  · rfl
theorem B5_eq (j:Nat):cbad (feI dcT tnX tbX s j)=fdB tbX (s.F j):=by
  show (fdB tbX (s.F j)||(false||false))=_
  simp
theorem l5_sound (h:ScK s) {y:List UInt8} (hy:y.length+(lineL (E5 s) s.nF).length≤900000):LSound Tryz.prog (loopAt Tryz.f13 4) (gvT (!(anyN (fun j=>cbad (feI dcT tnX tbX s j)) s.nF)) [1,13,29] (pS s 29 (lB (y ++ lineL (E5 s) 0)) 0) (.exit 8) (pS s 29 (lB (y ++ lineL (E5 s) s.nF)) (s.nF:Nat))):=by
  have hK:∀ (a:ByteArray) (b:Bool) e,e ∈ p5K a b→KOk Tryz.prog e:=fun _ _=>k_cons kS_ok k_nil
  have hn:=h.few
  have hle:∀ j,j≤s.nF→(y ++ lineL (E5 s) j).length≤900000:=fun j hj=>by rw [List.length_append]; have:=lineL_le (E:=E5 s) hj; omega
  refine gv_sound (S:=pS s 29) (T:=fun k=>lB (y ++ lineL (E5 s) k)) (by simp) (fun j hj hb=>?_) (fun j hj hb=>?_) ?_
  · refine leads_ev (finN_sub _ _) e_nil (hK _ _) noL_ok ((p5_step s (lB (y ++ lineL (E5 s) j)) (j:Nat) (lB (pT5 s j)) (!(fdB tbX (s.F j)))).trans ?_)
    rw [B5_eq] at hb
    rw [Int.toNat_natCast,l5_go h hj (hle j (by omega)),hb,w64_next (by omega),cond_false,List.append_assoc]
    rfl
  · refine leads_ev (finR_sub _ _) e_nil (hK _ _) noL_ok ((p5_ret s (lB (y ++ lineL (E5 s) j)) (j:Nat) (lB (pT5 s j)) (!(fdB tbX (s.F j)))).trans ?_)
    rw [B5_eq] at hb
    rw [Int.toNat_natCast,l5_go h hj (hle j (by omega)),hb]
    rfl
  · refine leads_ev (finE_sub _ _) e_nil (hK ⟨#[]⟩ false) noL_ok ((p5_end s (lB (y ++ lineL (E5 s) s.nF)) (s.nF:Nat) ⟨#[]⟩ false).trans ?_)
    unfold p5C
    rw [dec_self]
    rfl
end
end Go.Proofs.YtefphimaggjihaaGreatDoor.Pi

namespace Go.Proofs.YtefphimaggjihaaGreatDoor.Pi
open Go.Shelf Go.RowKit Go.Gv
open Go.Ev (feq isNan key NearF)
open Hs Hs.So Hs.Sc Hs.Fm
theorem sp_ev0 (ws:Nat→ByteArray) (wb:Nat→Bool) (tw:Int→Int→Int→ByteArray) (vs:Nat→Nat→Nat→ByteArray) (vb:Nat→Nat→Nat→Bool) (s:Scn) (e:Int):evM Tryz.prog [] (spK ws wb tw vs vb e) [born 88] (manyL [(12,fun _ _=>none)]) Tryz.f13 [.agg s.c] ret =
  spX ws wb vs vb s e (ctP (fun y=>gate (FTw tw (s.sky 0) (s.sky 1) (s.sky 2)) (ctP (fun _=>none) y (skL tw s.sky))) eyeW (eyL ws vs s.eye)):=by kernel_rfl
section
variable {s:Scn}
theorem spK_ok (e:Int):∀ x,x ∈ spK wsX tbX twX vsX vbX e→KOk Tryz.prog x:=k_cons kS_ok (k_cons kS_ok (k_cons kS_ok (k_cons kS_ok k_nil)))
theorem sprint_bad (h:scE s≠0):FSpec Tryz.prog 13 [.agg s.c] (.tup [zA ⟨#[]⟩,iA (scE s)]):=by
  refine gspecM e_nil (spK_ok (scE s)) (m_cons (born_ok _) m_nil) Tryz.func13 (by kernel_rfl) (by kernel_rfl) (lok_cons (lok_none 12) lok_nil) rfl ((sp_ev0 wsX tbX twX vsX vbX s (scE s)).trans ?_)
  unfold spX
  rw [gate_pos (rsc_spec s),beq_false_of_ne h]
  rfl
theorem eyX_eq (h:ScK s) (o:Option Out):gate (FTv vsX vbX s.eye 0) (gate (FTv vsX vbX s.eye 3) (gate (FTv vsX vbX s.eye 6) (gate (FT1 wsX tbX s.eye 9) (cond (cond (cond (cond (!(vK vbX s.eye 0)) true (!(vK vbX s.eye 3))) true (!(vK vbX s.eye 6))) true (!(tbX (s.eye 9)))) spE o))))=cond (eyB tbX s.eye) spE o:=by
  have he:=h.eye
  rw [gate_pos (show FTv vsX vbX s.eye 0 from tv_X (he 0 (by omega)) (he 1 (by omega)) (he 2 (by omega))),gate_pos (show FTv vsX vbX s.eye 3 from tv_X (he 3 (by omega)) (he 4 (by omega)) (he 5 (by omega))),gate_pos (show FTv vsX vbX s.eye 6 from tv_X (he 6 (by omega)) (he 7 (by omega)) (he 8 (by omega))),gate_pos (show FT1 wsX tbX s.eye 9 from ta_X (he 9 (by omega)))]
  unfold eyB
  rw [vB_eq,vB_eq,vB_eq]
  show cond (cond (cond (cond (!(vX s.eye 0)) true (!(vX s.eye 3))) true (!(vX s.eye 6))) true (!(tbX (s.eye 9)))) spE o=_
  cases vX s.eye 0<;>cases vX s.eye 3<;>cases vX s.eye 6<;>cases tbX (s.eye 9)<;>rfl
theorem sky_no:cbad (skyI s)=false:=rfl
theorem w6_eq:w6 dcT tnX tbX s=(eyB tbX s.eye||(anyN (fun j=>cbad (lmI dcT tnX tbX s j)) s.nL||(anyN (fun j=>cbad (shI dcT tnX tbX s j)) s.nS||(anyN (fun j=>cbad (soI dcT tnX tbX s j)) s.nO||anyN (fun j=>cbad (feI dcT tnX tbX s j)) s.nF)))):=by
  unfold w6 w5 w4 w3 w2 w1
  rw [sky_no,any_t (B:=fun j=>cbad (skI dcT s j)) (n:=s.nK) fun _ _=>rfl]
  simp only [Bool.or_false,Bool.or_assoc]
theorem gvO_eq (b:Bool) (S:St) (o:Option Out):gvO b S o=cond b o spE:=by
  unfold gvO
  rw [gate_pos (Sub.refl _),gate_pos (Sub.refl _)]
theorem eyL_eq (hb:eyB tbX s.eye=false):eyL wsX vsX s.eye=List.map lB [spT [s.eye 0,s.eye 1,s.eye 2],[32,116,111],spT [s.eye 3,s.eye 4,s.eye 5],[32,117,112],spT [s.eye 6,s.eye 7,s.eye 8],[32,119,105,100,101],spT [s.eye 9],[32,59,10,115,107,121]]:=by
  unfold eyB at hb
  rw [vB_eq,vB_eq,vB_eq] at hb
  have h0:vX s.eye 0=true:=by cases c:vX s.eye 0; rw [c] at hb; cases hb; rfl
  have h3:vX s.eye 3=true:=by cases c:vX s.eye 3; rw [h0,c] at hb; cases hb; rfl
  have h6:vX s.eye 6=true:=by cases c:vX s.eye 6; rw [h0,h3,c] at hb; cases hb; rfl
  have h9:tbX (s.eye 9)=true:=by cases c:tbX (s.eye 9); rw [h0,h3,h6,c] at hb; cases hb; rfl
  have e0:vsX (s.eye 0) (s.eye 1) (s.eye 2)=lB (spT [s.eye 0,s.eye 1,s.eye 2]):=vS_t h0
  have e3:vsX (s.eye 3) (s.eye 4) (s.eye 5)=lB (spT [s.eye 3,s.eye 4,s.eye 5]):=vS_t h3
  have e6:vsX (s.eye 6) (s.eye 7) (s.eye 8)=lB (spT [s.eye 6,s.eye 7,s.eye 8]):=vS_t h6
  unfold eyL
  rw [e0,e3,e6,wS_t h9]
  rfl
/-- The answer's ScenePrint of a scene that may be. -/
theorem sprint_spec (h:scE s=0):FSpec Tryz.prog 13 [.agg s.c] (cond (w6 dcT tnX tbX s) (.tup [zA ⟨#[]⟩,iA 11]) (.tup [zA (lB (x6 dcT tnX tbX s)),iA 0])):=by
  have hk:=scK_of h
  have hm:=rsc_spec s
  rw [h] at hm
  cases hb:eyB tbX s.eye
  · have hl:=x6_len h
    have l6:(x6 dcT tnX tbX s).length=(x5 dcT tnX tbX s).length+(lineL (E5 s) s.nF).length:=List.length_append
    have l5:(x5 dcT tnX tbX s).length=(x4 dcT tnX tbX s).length+(lineL (E4 s) s.nO).length:=List.length_append
    have l4:(x4 dcT tnX tbX s).length=(x3 dcT tnX tbX s).length+(lineL (E3 s) s.nS).length:=List.length_append
    have l3:(x3 dcT tnX tbX s).length=(x2 dcT tnX s).length+(lineL (E2 s) s.nL).length:=List.length_append
    have l2:(x2 dcT tnX s).length=(x1 dcT tnX s).length+(lineL (E1 s) s.nK).length:=List.length_append
    have hn:=hk.few
    have a0:=sp_len (s.eye 0) (s.eye 1) (s.eye 2)
    have a3:=sp_len (s.eye 3) (s.eye 4) (s.eye 5)
    have a6:=sp_len (s.eye 6) (s.eye 7) (s.eye 8)
    have a9:(spT [s.eye 9]).length≤21:=tks_few true (few_cons (ntk_len (s.eye 9)) few_nil)
    have at_:=tw_len hk.sky
    have eL:=eyL_eq hb
    have eS:skL twX s.sky=List.map lB [tks true (whT s.sky),[32,59,10]]:=rfl
    have eW:eyeW=lB [101,121,101]:=rfl
    have ex:([101,121,101] ++ [spT [s.eye 0,s.eye 1,s.eye 2],[32,116,111],spT [s.eye 3,s.eye 4,s.eye 5],[32,117,112],spT [s.eye 6,s.eye 7,s.eye 8],[32,119,105,100,101],spT [s.eye 9],[32,59,10,115,107,121]].flatten) ++ [tks true (whT s.sky),[32,59,10]].flatten=x1 dcT tnX s:=by
      unfold x1 x0 skyI
      simp [lineE,eyT,eyW,vT,spT,ntk,whT,skyW]
    have ey0:apL (apL eyeW (eyL wsX vsX s.eye)) (skL twX s.sky)=lB (x1 dcT tnX s):=by rw [eL,eS,eW,apL_lB,apL_lB,ex]
    have hL1:LSound Tryz.prog (loopAt Tryz.f13 0) (toldF [1,13,14] [some 0] (pS s 14 (apL (apL eyeW (eyL wsX vsX s.eye)) (skL twX s.sky)) 0) (.exit 0) (pS s 14 (lB (x2 dcT tnX s)) (s.nK:Nat))):=by
      rw [ey0]
      refine toldF_sound ?_
      have key:Leads Tryz.prog (.loop (loopAt Tryz.f13 0)) (pS s 14 (lB (x1 dcT tnX s ++ lineL (E1 s) 0)) ((0:Nat):Int)) (.exit 0) (pS s 14 (lB (x1 dcT tnX s ++ lineL (E1 s) s.nK)) (s.nK:Nat)):=by
        refine loop_rule (fun j=>pS s 14 (lB (x1 dcT tnX s ++ lineL (E1 s) j)) (j:Nat)) s.nK (.exit 0) _ (by simp) (fun j hj=>?_) ?_
        · have hle:=lineL_le (E:=E1 s) (n:=s.nK) (j:=j) (by omega)
          have:=l1_step hk hj (y:=x1 dcT tnX s ++ lineL (E1 s) j) (by rw [List.length_append]; omega)
          rw [List.append_assoc] at this
          exact this
        · refine leads_ev (finE_sub _ _) e_nil (k_cons kS_ok (k_cons kS_ok (k_cons kS_ok (k_cons kS_ok k_nil)))) noL_ok ((p1_end tsX tbX ddL mth twX s (lB (x1 dcT tnX s ++ lineL (E1 s) s.nK)) (s.nK:Nat)).trans ?_)
          unfold p1C
          rw [dec_self]
          rfl
      have e0:x1 dcT tnX s ++ lineL (E1 s) 0=x1 dcT tnX s:=List.append_nil _
      rw [e0] at key
      exact key
    have z:∀ (y:List UInt8) (E:Nat→List UInt8),y ++ lineL E 0=y:=fun y _=>List.append_nil y
    have hL2:=l2_sound hk (y:=x2 dcT tnX s) (by omega)
    have hL3:=l3_sound hk (y:=x3 dcT tnX tbX s) (by omega)
    have hL4:=l4_sound hk (y:=x4 dcT tnX tbX s) (by omega)
    have hL5:=l5_sound hk (y:=x5 dcT tnX tbX s) (by omega)
    rw [z] at hL2 hL3 hL4 hL5
    refine gspecM e_nil (spK_ok 0) (m_cons (born_ok _) m_nil) Tryz.func13 (by kernel_rfl) (by kernel_rfl)
      (lok_cons (lok_at 0 5 (by kernel_rfl) (by kernel_rfl) hL1) <| lok_cons (lok_at 1 5 (by kernel_rfl) (by kernel_rfl) hL2) <| lok_cons (lok_at 2 5 (by kernel_rfl) (by kernel_rfl) hL3) <| lok_cons (lok_at 3 5 (by kernel_rfl) (by kernel_rfl) hL4) <| lok_cons (lok_at 4 5 (by kernel_rfl) (by kernel_rfl) hL5) lok_nil) rfl
      ((sp_ev wsX tbX twX vsX vbX s 0 (lB (x2 dcT tnX s)) (lB (x3 dcT tnX tbX s)) (lB (x4 dcT tnX tbX s)) (lB (x5 dcT tnX tbX s)) (lB (x6 dcT tnX tbX s)) _ _ _ _).trans ?_)
    unfold spX
    rw [gate_pos hm,eyX_eq hk,hb]
    refine Eq.trans (show _=ctP _ eyeW (eyL wsX vsX s.eye) from rfl) ?_
    rw [eL,eW,ctP_lB _ _ _ (by simp only [List.flatten_cons,List.flatten_nil,List.length_append,List.length_cons,List.length_nil]; omega),gate_pos (tw_ok hk.sky),eS,ctP_lB _ _ _ (by simp only [List.flatten_cons,List.flatten_nil,List.length_append,List.length_cons,List.length_nil]; omega),gate_pos (Sub.refl _)]
    unfold spY
    rw [gvO_eq,gvO_eq,gvO_eq,gvO_eq,w6_eq,hb]
    cases anyN (fun j=>cbad (lmI dcT tnX tbX s j)) s.nL<;>cases anyN (fun j=>cbad (shI dcT tnX tbX s j)) s.nS<;>cases anyN (fun j=>cbad (soI dcT tnX tbX s j)) s.nO<;>cases anyN (fun j=>cbad (feI dcT tnX tbX s j)) s.nF<;>rfl
  · refine gspecM e_nil (spK_ok 0) (m_cons (born_ok _) m_nil) Tryz.func13 (by kernel_rfl) (by kernel_rfl) (lok_cons (lok_none 12) lok_nil) rfl ((sp_ev0 wsX tbX twX vsX vbX s 0).trans ?_)
    unfold spX
    rw [gate_pos hm,eyX_eq hk,hb,w6_eq,hb]
    rfl
end
end Go.Proofs.YtefphimaggjihaaGreatDoor.Pi

namespace Go.Proofs.YtefphimaggjihaaGreatDoor.Pi
open Go.Shelf Go.RowKit Go.Gv
open Hs Hs.So Hs.Sc Hs.Fm
def hvS (s:Scn):Bool:=decide (w64 (w64 (w64 (w64 ((s.nS:Int)+s.nK)+s.nL)+s.nO)+s.nF) > 99)
theorem hvS_spec (s:Scn):FSpec Tryz.prog 11 [.agg s.c] (bA (hvS s)):=gspec e_nil k_nil Tryz.func11 (by kernel_rfl) (by kernel_rfl) noL_ok rfl (show ev Tryz.prog [] [] noL Tryz.f11 [.agg s.c] ret=oB (hvS s) by kernel_rfl)
section
variable (s:Scn) (i:Int) (a b:Int) (hv:Bool) (m1 m2 y1 y2 e f:Int) (t u:ByteArray)
def lwS:St:=mkS 64 [(1,.own 0 0),(7,iA i)] [.c s.c]
noncomputable def lwC (o x:Option Out):Option Out:=cond (decide (i < (s.nK:Nat))) (gate (FSpec Tryz.prog 18 [.agg (skC (s.K i.toNat))] (iA a)) (gate (FSpec Tryz.prog 19 [.agg (skC (s.K i.toNat))] (iA b)) (cond ((ixB i s.nK||false)&&((ixB i s.nK||false)&&true)) (cond (!(a==b)) none o) none))) x
noncomputable def lwK:List KEntry:=[kS Tryz.prog 18 (fun _=>iA a),kS Tryz.prog 19 (fun _=>iA b)]
theorem lw_step:evC Tryz.prog [] (lwK a b) noL (loopAt Tryz.f4 0) (lwS s i) (finN [1,7] [some 0])=lwC s i a b (some ⟨.normal,lwS s (w64 (i+1)),.any⟩) none:=by kernel_rfl
theorem lw_end:evC Tryz.prog [] (lwK a b) noL (loopAt Tryz.f4 0) (lwS s i) (finE [1,7] [some 0])=lwC s i a b none (some ⟨.exit 0,lwS s i,.any⟩):=by kernel_rfl
noncomputable def lawK:List KEntry:=[kS Tryz.prog 11 (fun _=>bA hv),kS Tryz.prog 12 (fun _=>.tup [zA t,iA e]),kS Tryz.prog 13 (fun _=>.tup [zA u,iA f]),kS Tryz.prog 14 (fun _=>iA m1),kS Tryz.prog 15 (fun _=>iA m2),kS Tryz.prog 16 (fun _=>iA y1),kS Tryz.prog 17 (fun _=>iA y2)]
theorem law_ev:ev Tryz.prog [] (lawK hv m1 m2 y1 y2 e f t u) (oneL 8 (toldF [1,7] [some 0] (lwS s 0) (.exit 0) (lwS s (s.nK:Nat)))) Tryz.f4 [.agg s.c] ret =
  gate (FSpec Tryz.prog 11 [.agg s.c] (bA hv)) (cond hv (oB true) (gate (FSpec Tryz.prog 12 [.agg s.c] (.tup [zA t,iA e])) (gate (FSpec Tryz.prog 13 [.agg s.c] (.tup [zA u,iA f])) (gate (FSpec Tryz.prog 14 [.agg s.c] (iA m1)) (gate (FSpec Tryz.prog 15 [.agg s.c] (iA m2)) (gate (FSpec Tryz.prog 16 [.agg (eyC s.eye)] (iA y1)) (gate (FSpec Tryz.prog 17 [.agg (eyC s.eye)] (iA y2))
    (cond (cond (cond (cond (!(m1==m2)) true (!(y1==y2))) true (!(t.toList==u.toList))) true (!(e==f))) (oB false) (gate (Sub (lwS s 0) (lwS s 0)) (oB true)))))))))):=by kernel_rfl
end
end Go.Proofs.YtefphimaggjihaaGreatDoor.Pi
namespace Go.Proofs.YtefphimaggjihaaGreatDoor.Pi
open Go.Shelf Go.RowKit Go.Gv
open Hs Hs.So Hs.Sc Hs.Fm
theorem lw_leads {s:Scn} (hK:s.nK < 9223372036854775808):Leads Tryz.prog (.loop (loopAt Tryz.f4 0)) (lwS s 0) (.exit 0) (lwS s (s.nK:Nat)):=by
  refine loop_rule (fun j=>lwS s (j:Nat)) s.nK (.exit 0) _ (by simp) (fun j hj=>?_) ?_
  · refine leads_ev (finN_sub _ _) e_nil (k_cons kS_ok (k_cons kS_ok k_nil)) noL_ok ((lw_step s (j:Nat) (skE (s.K j)) (skE (s.K j))).trans ?_)
    unfold lwC
    rw [dec_lt hj,ixB_t hj,Int.toNat_natCast,gate_pos (sk_spec _),gate_pos (rsk_spec _),beqI,show w64 (((j:Nat):Int)+1)=((j+1:Nat):Int) from (w64_id (by omega) (by omega)).trans (by omega)]
    rfl
  · refine leads_ev (finE_sub _ _) e_nil (k_cons kS_ok (k_cons kS_ok k_nil)) noL_ok ((lw_end s (s.nK:Nat) 0 0).trans ?_)
    unfold lwC
    rw [dec_self]
    rfl
theorem print_same (s:Scn):∃ (t:ByteArray) (e:Int),FSpec Tryz.prog 12 [.agg s.c] (.tup [zA t,iA e])∧FSpec Tryz.prog 13 [.agg s.c] (.tup [zA t,iA e]):=by
  by_cases h:scE s=0
  · have p:=print_spec h
    have q:=sprint_spec h
    cases hw:w6 dcT tnX tbX s
    · rw [hw] at p q
      exact ⟨_,_,p,q⟩
    · rw [hw] at p q
      exact ⟨_,_,p,q⟩
  · exact ⟨_,_,print_bad h,sprint_bad h⟩
/-- The law gives true for every scene. -/
theorem scenePrints_law {s:Scn} (hK:s.nK < 9223372036854775808):FSpec Tryz.prog 4 [.agg s.c] (bA true):=by
  obtain ⟨t,e,p,q⟩:=print_same s
  have hL:=lok_hd (c:=bodyOf Tryz.f4) (i:=8) 0 (by kernel_rfl) (by kernel_rfl) (toldF_sound (keep:=[1,7]) (τ:=[some 0]) (lw_leads hK))
  refine gspec e_nil (k_cons kS_ok (k_cons kS_ok (k_cons kS_ok (k_cons kS_ok (k_cons kS_ok (k_cons kS_ok (k_cons kS_ok k_nil))))))) Tryz.func4 (by kernel_rfl) (by kernel_rfl) hL rfl ((law_ev s (hvS s) (scE s) (scE s) (eyE s.eye) (eyE s.eye) e e t t).trans ?_)
  rw [gate_pos (hvS_spec s),gate_pos p,gate_pos q,gate_pos (sc_spec s),gate_pos (rsc_spec s),gate_pos (ey_spec _),gate_pos (rey_spec _),gate_pos (Sub.refl _),beqI,beqI,beqI,BEq.rfl]
  cases hvS s<;>rfl
end Go.Proofs.YtefphimaggjihaaGreatDoor.Pi

namespace Go.Proofs.YtefphimaggjihaaGreatDoor
open Go.Gv Go.RowKit Go.ChangeShapes Go.WideShapes Go.ChangeAt

end Go.Proofs.YtefphimaggjihaaGreatDoor
