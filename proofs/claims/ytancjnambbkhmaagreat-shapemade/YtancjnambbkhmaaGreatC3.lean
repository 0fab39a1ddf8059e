/-
  Fl Fl2 Fl4 Fl5 Fl3 Fl6 Fl7 Fl8, one behind the other.
-/
import Derived.Test.YtancjnambbkhmaaGreatC2
namespace Go.Ev
open Ieee

theorem order_self {d:Datum} (h:d.isNaN=false):d.order d=some .eq:=by
  cases d with
  | number s m i=>simp only [Datum.order]; simp
  | infinity s=>simp [Datum.order]
  | nan s f=>simp [Datum.isNaN] at h

theorem feq_self (x:Nat):feq x x=!isNan x:=by
  unfold feq
  cases h:isNan x
  · have:double.order x x=some .eq:=order_self h
    rw [this]; rfl
  · have:double.order x x=none:=order_nan_left h
    rw [this]; rfl

theorem isNan_fdiv_one {x:Nat} (h:isNan x=false):isNan (fdiv 4607182418800017408 x)=false:=by
  unfold fdiv
  cases hd:double.div 4607182418800017408 x with
  | some r=>exact isNan_div hd
  | none =>
    exfalso
    unfold Format.div at hd
    have hr:double.read 4607182418800017408=.number false 4503599627370496 (-52):=by decide +kernel
    rw [hr] at hd
    cases hx:double.read x with
    | number s m i =>
      rw [hx] at hd
      simp only [Datum.quotient] at hd
      split at hd
      · simp at hd
      · simp at hd
    | infinity s=>rw [hx] at hd; simp [Datum.quotient] at hd
    | nan s f=>unfold isNan at h; rw [hx] at h; simp [Datum.isNaN] at h

end Go.Ev

namespace Go.Ev
open Ieee

theorem leastP:double.leastPlace=-1074:=by decide +kernel
theorem fracB:(double.fractionBits:Int)=52:=rfl
theorem log2_shl {m:Nat} (k:Nat) (hm:m≠0):(m <<< k).log2=m.log2+k:=by
  have hp:0 < 2 ^ k:=Nat.two_pow_pos k
  have hne:m <<< k≠0:=by rw [Nat.shiftLeft_eq]; exact Nat.mul_ne_zero hm (Nat.pos_iff_ne_zero.1 hp)
  rw [Nat.log2_eq_iff hne,Nat.shiftLeft_eq]
  refine ⟨by rw [Nat.pow_add]; exact Nat.mul_le_mul_right _ (Nat.log2_self_le hm),?_⟩
  rw [show m.log2+k+1=m.log2+1+k by omega,Nat.pow_add]
  exact Nat.mul_lt_mul_of_pos_right Nat.lt_log2_self hp

theorem nearest_zero (s:Bool) (p:Int):double.nearest s 0 p=double.word s 0:=by simp [Format.nearest]

theorem signed_neg (s:Bool) (m k:Nat):signed (!s) m k=- signed s m k:=by cases s<;>simp [signed]

end Go.Ev

namespace Go.Ev
open Ieee

/-- 'a / g' to the nearest whole number, between two to the even one. -/
def rnd (a g:Nat):Nat:=a / g+(decide (g < 2*(a % g))||(g==2*(a % g)&&a / g % 2==1)).toNat

theorem rnd_small {a g:Nat} (h:2*a < g):rnd a g=0:=by
  have h1:a / g=0:=Nat.div_eq_of_lt (by omega)
  have h2:a % g=a:=Nat.mod_eq_of_lt (by omega)
  have h3:decide (g < 2*a)=false:=decide_eq_false (by omega)
  have h4:(g==2*a)=false:=by simp; omega
  unfold rnd
  rw [h1,h2,h3,h4]; rfl

theorem toNat_le_one (b:Bool):b.toNat≤1:=by cases b<;>decide
theorem rnd_le (a g:Nat):rnd a g≤a / g+1:=Nat.add_le_add_left (toNat_le_one _) _
theorem le_rnd (a g:Nat):a / g≤rnd a g:=Nat.le_add_right _ _

theorem rnd_mono {a b g:Nat} (h:a≤b):rnd a g≤rnd b g:=by
  have hd:a / g≤b / g:=Nat.div_le_div_right h
  rcases Nat.eq_or_lt_of_le hd with e | e
  · have h1:=Nat.div_add_mod a g
    have h2:=Nat.div_add_mod b g
    have hm:a % g≤b % g:=by rw [e] at h1; omega
    unfold rnd
    rw [e]
    refine Nat.add_le_add_left ?_ _
    cases hx:(decide (g < 2*(a % g))||(g==2*(a % g)&&b / g % 2==1))
    · exact Nat.zero_le _
    · have:(decide (g < 2*(b % g))||(g==2*(b % g)&&b / g % 2==1))=true:=by
        simp only [Bool.or_eq_true,Bool.and_eq_true,decide_eq_true_eq,beq_iff_eq] at hx ⊢
        omega
      rw [this]; exact Nat.le_refl _
  · exact Nat.le_trans (rnd_le a g) (Nat.le_trans e (le_rnd b g))

theorem rnd_mul (a g:Nat) {c:Nat} (hc:0 < c):rnd (a*c) (g*c)=rnd a g:=by
  unfold rnd
  rw [Nat.mul_div_mul_right _ _ hc,Nat.mul_mod_mul_right]
  have h1:decide (g*c < 2*(a % g*c))=decide (g < 2*(a % g)):=by
    rw [← Nat.mul_assoc]
    exact decide_eq_decide.2 (Nat.mul_lt_mul_right hc)
  have h2:(g*c==2*(a % g*c))=(g==2*(a % g)):=by
    rw [← Nat.mul_assoc,Bool.eq_iff_iff,beq_iff_eq,beq_iff_eq]
    exact Nat.mul_left_inj (by omega)
  rw [h1,h2]

theorem cut_rnd (s:Bool) (n d:Nat):Toward.even.cut s n d=rnd n (2 ^ d):=by
  have hn:n < 2 ^ (n.log2+1):=Nat.lt_log2_self
  by_cases h:d≤n.log2+2
  · unfold Toward.cut rnd
    rw [Nat.min_eq_left h,Nat.one_shiftLeft]
  · have hL:2*n < 2 ^ (n.log2+2):=by rw [Nat.pow_succ]; omega
    have hd:2*n < 2 ^ d:=Nat.lt_of_lt_of_le hL (Nat.pow_le_pow_right (by decide) (by omega))
    rw [rnd_small hd]
    have:=rnd_small hL
    unfold rnd at this
    unfold Toward.cut
    rw [Nat.min_eq_right (by omega),Nat.one_shiftLeft]
    exact this

/-- The rung of 'a / g' units, uncapped: 'b' bits of fraction. -/
def rq (b a g:Nat):Nat:=((a / g).log2 - b)*2 ^ b+rnd a (g*2 ^ ((a / g).log2 - b))

theorem rq_mul (b a g:Nat) {c:Nat} (hc:0 < c):rq b (a*c) (g*c)=rq b a g:=by
  unfold rq
  rw [Nat.mul_div_mul_right _ _ hc,Nat.mul_right_comm,rnd_mul _ _ hc]

theorem rq_mono1 (b:Nat) {a c g:Nat} (h:a≤c):rq b a g≤rq b c g:=by
  have hd:a / g≤c / g:=Nat.div_le_div_right h
  have hl:(a / g).log2≤(c / g).log2:=by
    by_cases h0:a / g=0
    · rw [h0]; simp
    · exact (Nat.le_log2 (fun hc=>h0 (Nat.le_zero.1 (hc ▸ hd)))).2 (Nat.le_trans (Nat.log2_self_le h0) hd)
  unfold rq
  have hl2:(a / g).log2 - b≤(c / g).log2 - b:=by omega
  rcases Nat.eq_or_lt_of_le hl2 with e | e
  · rw [e]
    exact Nat.add_le_add_left (rnd_mono h) _
  · -- the lower one is at most the next binade's first
    have h1:rnd a (g*2 ^ ((a / g).log2 - b))≤2 ^ (b+1):=by
      refine Nat.le_trans (rnd_le _ _) ?_
      rw [← Nat.div_div_eq_div_mul]
      have:a / g < 2 ^ ((a / g).log2+1):=Nat.lt_log2_self
      have h2:a / g / 2 ^ ((a / g).log2 - b) < 2 ^ (b+1):=by
        rw [Nat.div_lt_iff_lt_mul (Nat.two_pow_pos _),← Nat.pow_add]
        exact Nat.lt_of_lt_of_le this (Nat.pow_le_pow_right (by decide) (by omega))
      omega
    have h2:2 ^ b≤rnd c (g*2 ^ ((c / g).log2 - b)):=by
      refine Nat.le_trans ?_ (le_rnd _ _)
      rw [← Nat.div_div_eq_div_mul,Nat.le_div_iff_mul_le (Nat.two_pow_pos _),← Nat.pow_add]
      have h0:c / g≠0:=by
        intro h0; rw [h0] at e; simp at e
      refine Nat.le_trans (Nat.pow_le_pow_right (by decide) (by omega)) (Nat.log2_self_le h0)
    have h3:=Nat.mul_le_mul_right (2 ^ b) e
    rw [Nat.succ_mul] at h3
    rw [Nat.pow_succ] at h1
    omega

theorem rq_mono (b:Nat) {a c g h:Nat} (hg:0 < g) (hh:0 < h) (hle:a*h≤c*g):rq b a g≤rq b c h:=by
  rw [← rq_mul b a g hh,← rq_mul b c h hg,Nat.mul_comm h g]
  exact rq_mono1 b hle

theorem rq_zero (b:Nat) {g:Nat} (hg:0 < g):rq b 0 g=0:=by
  unfold rq
  rw [Nat.zero_div,Nat.log2_zero,Nat.zero_sub,Nat.zero_mul,Nat.zero_add]
  exact rnd_small (by rw [Nat.mul_zero]; exact Nat.mul_pos hg (Nat.two_pow_pos _))
end Go.Ev

namespace Go.Ev
open Ieee

theorem log2_half (n:Nat):(n / 2).log2=n.log2 - 1:=by
  rw [Nat.log2_def n]
  by_cases h:n ≥ 2
  · rw [if_pos h]; simp
  · rw [if_neg h]
    have:n / 2=0:=by omega
    rw [this]; simp
theorem log2_div (n:Nat):∀ v,(n / 2 ^ v).log2=n.log2 - v
  | 0=>by simp
  | v+1=>by rw [Nat.pow_succ,← Nat.div_div_eq_div_mul,log2_half,log2_div n v]; omega

theorem nearest_rq0 (s:Bool) (m u:Nat) (p:Int) (hp:p=u - 1074):double.nearest s m p=double.word s (min (rq 52 (m*2 ^ u) 1) double.infRung):=by
  by_cases hm:m=0
  · subst hm; rw [nearest_zero,Nat.zero_mul,rq_zero 52 (by decide),Nat.zero_min]
  · have hl:(m*2 ^ u / 1).log2=m.log2+u:=by rw [Nat.div_one,← Nat.shiftLeft_eq,log2_shl u hm]
    have e1:(max (p+m.log2 - (double.fractionBits:Int)) double.leastPlace - double.leastPlace).toNat=m.log2+u - 52:=by rw [leastP,fracB]; omega
    have e2:(p - max (p+m.log2 - (double.fractionBits:Int)) double.leastPlace).toNat=u - (m.log2+u - 52):=by rw [leastP,fracB]; omega
    have e3:(max (p+m.log2 - (double.fractionBits:Int)) double.leastPlace - p).toNat=(m.log2+u - 52) - u:=by rw [leastP,fracB]; omega
    unfold Format.nearest rq
    rw [if_neg hm,hl]
    simp only [e1,e2,e3]
    generalize m.log2+u - 52=l
    rw [cut_rnd,Nat.shiftLeft_eq,Nat.one_mul]
    have:rnd (m*2 ^ (u - l)) (2 ^ (l - u))=rnd (m*2 ^ u) (2 ^ l):=by
      rw [← rnd_mul _ _ (Nat.two_pow_pos (min u l)),Nat.mul_assoc,← Nat.pow_add,← Nat.pow_add]
      congr 3<;>omega
    rw [this]
    rfl

theorem nearest_rq1 (s:Bool) (m v:Nat) (p:Int) (hp:p=-1074 - v):double.nearest s m p=double.word s (min (rq 52 m (2 ^ v)) double.infRung):=by
  by_cases hm:m=0
  · subst hm; rw [nearest_zero,rq_zero 52 (Nat.two_pow_pos _),Nat.zero_min]
  · have e1:(max (p+m.log2 - (double.fractionBits:Int)) double.leastPlace - double.leastPlace).toNat=m.log2 - v - 52:=by rw [leastP,fracB]; omega
    have e2:(p - max (p+m.log2 - (double.fractionBits:Int)) double.leastPlace).toNat=0:=by rw [leastP,fracB]; omega
    have e3:(max (p+m.log2 - (double.fractionBits:Int)) double.leastPlace - p).toNat=v+(m.log2 - v - 52):=by rw [leastP,fracB]; omega
    unfold Format.nearest rq
    rw [if_neg hm,log2_div]
    simp only [e1,e2,e3]
    rw [cut_rnd,Nat.shiftLeft_eq,Nat.pow_zero,Nat.mul_one,Nat.pow_add]
    rfl

/-- What is written of 'm * 2 ^ p', with 'p + 1074 = u - v'. -/
theorem nearest_rq (s:Bool) (m u v:Nat) (p:Int) (hp:p+1074=u - v):double.nearest s m p=double.word s (min (rq 52 (m*2 ^ u) (2 ^ v)) double.infRung):=by
  by_cases h:v≤u
  · rw [nearest_rq0 s m (u - v) p (by omega)]
    have:=rq_mul 52 (m*2 ^ (u - v)) 1 (Nat.two_pow_pos v)
    rw [Nat.mul_assoc,← Nat.pow_add,Nat.one_mul,Nat.sub_add_cancel h] at this
    rw [this]
  · rw [nearest_rq1 s m (v - u) p (by omega)]
    have:=rq_mul 52 m (2 ^ (v - u)) (Nat.two_pow_pos u)
    rw [← Nat.pow_add,Nat.sub_add_cancel (by omega)] at this
    rw [this]

end Go.Ev

namespace Go.Ev
open Ieee

theorem signed_mul (s:Bool) (m k:Nat):signed s m k=signed s 1 0*((m:Int)*2 ^ k):=by
  cases s<;>simp [signed,Nat.shiftLeft_eq]

theorem signed_split (s:Bool) (m a b:Nat):signed s m (a+b)=signed s m a*2 ^ b:=by
  rw [signed_mul,signed_mul s m a,Int.mul_assoc,Int.mul_assoc,Int.pow_add]

end Go.Ev

namespace Go.Ev
open Ieee

/-- The magnitude of a rung, in the least units: 'b' bits of fraction. -/
def rv (b r:Nat):Nat:=if r < 2 ^ b then r else (2 ^ b+r % 2 ^ b)*2 ^ (r / 2 ^ b - 1)

theorem rv_step (b r:Nat):rv b r < rv b (r+1):=by
  have hN:0 < 2 ^ b:=Nat.two_pow_pos b
  unfold rv
  generalize 2 ^ b=N at hN
  by_cases h1:r+1 < N
  · rw [if_pos (by omega),if_pos h1]; omega
  · rw [if_neg h1]
    by_cases h2:r < N
    · rw [if_pos h2]
      have e:r+1=N:=by omega
      rw [e,Nat.mod_self,Nat.div_self hN,Nat.sub_self,Nat.pow_zero]; omega
    · rw [if_neg h2]
      have hd:=Nat.div_add_mod r N
      have hm:r % N < N:=Nat.mod_lt _ hN
      have hq:1≤r / N:=(Nat.le_div_iff_mul_le hN).2 (by omega)
      by_cases h3:r % N+1 < N
      · have e1:(r+1) / N=r / N:=by
          rw [Nat.div_eq_iff hN]
          have:r / N*N=N*(r / N):=Nat.mul_comm _ _
          omega
        have e2:(r+1) % N=r % N+1:=by
          have:=Nat.div_add_mod (r+1) N
          rw [e1] at this; omega
        rw [e1,e2]
        exact Nat.mul_lt_mul_of_pos_right (by omega) (Nat.two_pow_pos _)
      · have h4:r % N+1=N:=by omega
        have e0:r+1=N*(r / N+1):=by rw [Nat.mul_add]; omega
        have e1:(r+1) / N=r / N+1:=by rw [e0,Nat.mul_div_cancel_left _ hN]
        have e2:(r+1) % N=0:=by rw [e0,Nat.mul_mod_right]
        rw [e1,e2]
        obtain ⟨q,hq'⟩:∃ q,r / N=q+1:=⟨r / N - 1,by omega⟩
        rw [hq',Nat.add_sub_cancel,Nat.add_sub_cancel,Nat.pow_succ,Nat.add_zero,Nat.mul_comm (2 ^ q) 2,← Nat.mul_assoc]
        exact Nat.mul_lt_mul_of_pos_right (by omega) (Nat.two_pow_pos _)
theorem rv_lt (b:Nat) {r:Nat}:∀ {q:Nat},r < q→rv b r < rv b q
  | 0,h=>by omega
  | q+1,h=>by
    rcases Nat.eq_or_lt_of_le (Nat.lt_succ_iff.1 h) with e | e
    · rw [e]; exact rv_step b q
    · exact Nat.lt_trans (rv_lt b e) (rv_step b q)
theorem rv_lt_iff (b r q:Nat):rv b r < rv b q ↔ r < q:=by
  constructor
  · intro h
    rcases Nat.lt_trichotomy r q with e | e | e
    · exact e
    · rw [e] at h; omega
    · have:=rv_lt b e; omega
  · exact rv_lt b
theorem rv_zero (b:Nat):rv b 0=0:=by unfold rv; rw [if_pos (Nat.two_pow_pos b)]

theorem log2_mul_pow {m:Nat} (k:Nat) (hm:m≠0):(m*2 ^ k).log2=m.log2+k:=by rw [← Nat.shiftLeft_eq,log2_shl k hm]
theorem rnd_one (a:Nat):rnd a 1=a:=by
  unfold rnd
  rw [Nat.div_one,Nat.mod_one]; rfl
/-- Rounding what is a rung's gives that rung. -/
theorem rq_rv (b r:Nat):rq b (rv b r) 1=r:=by
  have hN:0 < 2 ^ b:=Nat.two_pow_pos b
  unfold rq rv
  rw [Nat.div_one]
  by_cases h:r < 2 ^ b
  · rw [if_pos h]
    have hl:r.log2 - b=0:=by
      by_cases h0:r=0
      · rw [h0]; simp
      · have:=(Nat.log2_lt h0).2 h; omega
    rw [hl,Nat.zero_mul,Nat.zero_add,Nat.pow_zero,rnd_one]
  · rw [if_neg h]
    have hm:r % 2 ^ b < 2 ^ b:=Nat.mod_lt _ hN
    have hd:=Nat.div_add_mod r (2 ^ b)
    have hq:1≤r / 2 ^ b:=(Nat.le_div_iff_mul_le hN).2 (by omega)
    have hl:((2 ^ b+r % 2 ^ b)*2 ^ (r / 2 ^ b - 1)).log2=b+(r / 2 ^ b - 1):=by
      rw [log2_mul_pow _ (by omega)]
      congr 1
      rw [Nat.log2_eq_iff (by omega),Nat.pow_succ]
      omega
    rw [hl,Nat.add_sub_cancel_left,rnd_mul _ 1 (Nat.two_pow_pos _),rnd_one]
    obtain ⟨q,hq'⟩:∃ q,r / 2 ^ b=q+1:=⟨r / 2 ^ b - 1,by omega⟩
    rw [hq',Nat.mul_add] at hd
    rw [hq',Nat.add_sub_cancel,Nat.mul_comm q]
    omega

def sgn (x:Nat):Bool:=x / 9223372036854775808 % 2==1
def rung (x:Nat):Nat:=x % 9223372036854775808
def key (x:Nat):Int:=cond (sgn x) (-(rung x:Int)) (rung x)
def isFin (x:Nat):Bool:=Nat.blt (rung x) 9218868437227405312
def val (x:Nat):Int:=cond (sgn x) (-(rv 52 (rung x):Int)) (rv 52 (rung x))

theorem isFin_lt {x:Nat} (h:isFin x=true):rung x < 9218868437227405312:=Nat.le_of_ble_eq_true h

theorem rv_low {r:Nat} (h:r < 4503599627370496):rv 52 r=r:=by unfold rv; rw [if_pos (show r < 2 ^ 52 from h)]
theorem rv_high {r:Nat} (h:¬ r < 4503599627370496):rv 52 r=(4503599627370496+r % 4503599627370496)*2 ^ (r / 4503599627370496 - 1):=by
  unfold rv; rw [if_neg (show ¬ r < 2 ^ 52 from h)]

theorem signed_val (s:Bool) (m k:Nat):signed s m k=cond s (-((m*2 ^ k:Nat):Int)) ((m*2 ^ k:Nat):Int):=by
  unfold signed; rw [Nat.shiftLeft_eq]; cases s<;>rfl

/-- What a word that is a number stands for. -/
theorem read_fin {x:Nat} (h:isFin x=true):∃ m i,double.read x=.number (sgn x) m i∧-1074≤i∧m < 9007199254740992∧rv 52 (rung x)=m*2 ^ (i+1074).toNat:=by
  have hl:=isFin_lt h
  unfold rung at hl ⊢
  unfold Format.read sgn
  simp only [signW,infR,binadeV,leastP]
  by_cases h1:x % 9223372036854775808 < 4503599627370496
  · rw [if_pos h1]
    refine ⟨_,_,rfl,by omega,by omega,?_⟩
    rw [rv_low h1,show (-1074+1074:Int).toNat=0 from rfl,Nat.pow_zero,Nat.mul_one]
  · rw [if_neg h1,if_pos hl]
    have:=Nat.mod_lt (x % 9223372036854775808) (show 0 < 4503599627370496 by decide)
    refine ⟨_,_,rfl,by omega,by omega,?_⟩
    rw [rv_high h1]
    congr 2
    omega
theorem read_inf {x:Nat} (h:rung x=9218868437227405312):double.read x=.infinity (sgn x):=by
  unfold rung at h
  unfold Format.read sgn
  simp only [signW,infR,binadeV,leastP,h]
  rfl
theorem fin_or_inf {x:Nat} (h:isNan x=false):isFin x=true∨rung x=9218868437227405312:=by
  cases hf:isFin x
  · right
    have h1:¬ rung x < 9218868437227405312:=fun hl=>by
      have:isFin x=true:=Nat.ble_eq_true_of_le hl
      rw [hf] at this; cases this
    unfold rung at h1 ⊢
    unfold isNan Format.read at h
    simp only [signW,infR,binadeV,leastP] at h
    rw [if_neg (by omega),if_neg h1] at h
    by_cases he:x % 9223372036854775808=9218868437227405312
    · exact he
    · rw [if_neg he] at h; simp [Datum.isNaN] at h
  · exact Or.inl rfl
theorem fin_not_nan {x:Nat} (h:isFin x=true):isNan x=false:=by
  obtain ⟨m,i,hr,_⟩:=read_fin h
  unfold isNan; rw [hr]; rfl

theorem cmp_congr {a b c d:Int} (h1:a < b ↔ c < d) (h2:a=b ↔ c=d):compare a b=compare c d:=by
  show compareOfLessAndEq a b=compareOfLessAndEq c d
  unfold compareOfLessAndEq
  simp only [h1,h2]
theorem order_val {x y:Nat} (hx:isFin x=true) (hy:isFin y=true):double.order x y=some (compare (val x) (val y)):=by
  obtain ⟨m,i,hrx,hi,_,hvx⟩:=read_fin hx
  obtain ⟨n,j,hry,hj,_,hvy⟩:=read_fin hy
  unfold Format.order
  rw [hrx,hry]
  simp only [Datum.order,Option.some.injEq]
  have e1:val x=signed (sgn x) m (i - min i j).toNat*2 ^ (min i j+1074).toNat:=by
    rw [← signed_split,show (i - min i j).toNat+(min i j+1074).toNat=(i+1074).toNat by omega,signed_val,← hvx]; rfl
  have e2:val y=signed (sgn y) n (j - min i j).toNat*2 ^ (min i j+1074).toNat:=by
    rw [← signed_split,show (j - min i j).toNat+(min i j+1074).toNat=(j+1074).toNat by omega,signed_val,← hvy]; rfl
  have hp:(0:Int) < 2 ^ (min i j+1074).toNat:=Int.pow_pos (by decide)
  rw [e1,e2]
  generalize (2:Int) ^ (min i j+1074).toNat=c at hp
  refine cmp_congr ?_ ?_
  · exact (Int.mul_lt_mul_right hp).symm
  · exact (Int.mul_eq_mul_right_iff (by omega)).symm
theorem val_lt {x y:Nat}:val x < val y ↔ key x < key y:=by
  unfold val key
  have a1:=rv_lt_iff 52 (rung x) (rung y)
  have a2:=rv_lt_iff 52 (rung y) (rung x)
  have a3:=rv_lt_iff 52 0 (rung x)
  have a4:=rv_lt_iff 52 0 (rung y)
  rw [rv_zero] at a3 a4
  cases sgn x<;>cases sgn y<;>simp only [cond_true,cond_false]<;>omega
theorem val_le {x y:Nat}:val x≤val y ↔ key x≤key y:=by
  have:=val_lt (x:=y) (y:=x); omega
theorem order_key {x y:Nat} (hx:isNan x=false) (hy:isNan y=false):double.order x y=some (compare (key x) (key y)):=by
  rcases fin_or_inf hx with fx | ix
  · rcases fin_or_inf hy with fy | iy
    · rw [order_val fx fy]
      have:=val_lt (x:=x) (y:=y)
      have:=val_lt (x:=y) (y:=x)
      exact congrArg some (cmp_congr (by omega) (by omega))
    · obtain ⟨m,i,hr,_⟩:=read_fin fx
      have hl:=isFin_lt fx
      unfold Format.order
      rw [hr,read_inf iy]
      simp only [Datum.order,Option.some.injEq]
      unfold key
      rw [iy]
      cases sgn y
      · exact (show compare _ _=compare (0:Int) 1 from cmp_congr (by cases sgn x<;>simp only [cond_true,cond_false]<;>omega) (by cases sgn x<;>simp only [cond_true,cond_false]<;>omega)).symm
      · exact (show compare _ _=compare (1:Int) 0 from cmp_congr (by cases sgn x<;>simp only [cond_true,cond_false]<;>omega) (by cases sgn x<;>simp only [cond_true,cond_false]<;>omega)).symm
  · rcases fin_or_inf hy with fy | iy
    · obtain ⟨m,i,hr,_⟩:=read_fin fy
      have hl:=isFin_lt fy
      unfold Format.order
      rw [hr,read_inf ix]
      simp only [Datum.order,Option.some.injEq]
      unfold key
      rw [ix]
      cases sgn x
      · exact (show compare _ _=compare (1:Int) 0 from cmp_congr (by cases sgn y<;>simp only [cond_true,cond_false]<;>omega) (by cases sgn y<;>simp only [cond_true,cond_false]<;>omega)).symm
      · exact (show compare _ _=compare (0:Int) 1 from cmp_congr (by cases sgn y<;>simp only [cond_true,cond_false]<;>omega) (by cases sgn y<;>simp only [cond_true,cond_false]<;>omega)).symm
    · unfold Format.order key
      rw [read_inf ix,read_inf iy,ix,iy]
      cases sgn x<;>cases sgn y<;>decide
end Go.Ev

namespace Go.Ev
open Ieee

theorem cmp_lt (a b:Int):(compare a b==Ordering.lt)=decide (a < b):=by
  show (compareOfLessAndEq a b==Ordering.lt)=_
  unfold compareOfLessAndEq
  by_cases h:a < b
  · simp [h]
  · by_cases h2:a=b
    · simp [h2]
    · simp [h,h2]
theorem cmp_eq (a b:Int):(compare a b==Ordering.eq)=decide (a=b):=by
  show (compareOfLessAndEq a b==Ordering.eq)=_
  unfold compareOfLessAndEq
  by_cases h:a < b
  · have:a≠b:=by omega
    simp [h,this]
  · by_cases h2:a=b
    · simp [h2]
    · simp [h,h2]
theorem cmp_gt (a b:Int):(compare a b==Ordering.gt)=decide (b < a):=by
  show (compareOfLessAndEq a b==Ordering.gt)=_
  unfold compareOfLessAndEq
  by_cases h:a < b
  · have:¬ b < a:=by omega
    simp [h,this]
  · by_cases h2:a=b
    · simp [h2]
    · have:b < a:=by omega
      simp [h,h2,this]
theorem some_beq (a b:Ordering):(some a==some b)=(a==b):=rfl

theorem flt_key {x y:Nat} (hx:isNan x=false) (hy:isNan y=false):flt x y=decide (key x < key y):=by
  unfold flt; rw [order_key hx hy,some_beq,cmp_lt]
theorem fle_key {x y:Nat} (hx:isNan x=false) (hy:isNan y=false):fle x y=decide (key x≤key y):=by
  unfold fle; rw [order_key hx hy,some_beq,some_beq,cmp_lt,cmp_eq,Bool.eq_iff_iff]; simp; omega
theorem fge_key {x y:Nat} (hx:isNan x=false) (hy:isNan y=false):fge x y=decide (key y≤key x):=by
  unfold fge; rw [order_key hx hy,some_beq,some_beq,cmp_gt,cmp_eq,Bool.eq_iff_iff]; simp; omega
theorem not_nan_of {x y:Nat} {o:Ordering} (h:double.order x y=some o):isNan x=false∧isNan y=false:=by
  constructor
  · cases hx:isNan x
    · rfl
    · have:double.order x y=none:=order_nan_left hx
      rw [this] at h; cases h
  · cases hy:isNan y
    · rfl
    · have:double.order x y=none:=order_nan_right hy
      rw [this] at h; cases h
theorem fle_true {x y:Nat} (h:fle x y=true):isNan x=false∧isNan y=false∧key x≤key y:=by
  have h':=h
  unfold fle at h
  cases ho:double.order x y with
  | none=>rw [ho] at h; cases h
  | some o =>
    obtain ⟨a,b⟩:=not_nan_of ho
    rw [fle_key a b] at h'
    exact ⟨a,b,of_decide_eq_true h'⟩
theorem fge_true {x y:Nat} (h:fge x y=true):isNan x=false∧isNan y=false∧key y≤key x:=by
  have h':=h
  unfold fge at h
  cases ho:double.order x y with
  | none=>rw [ho] at h; cases h
  | some o =>
    obtain ⟨a,b⟩:=not_nan_of ho
    rw [fge_key a b] at h'
    exact ⟨a,b,of_decide_eq_true h'⟩
def KR (v:Int) (g:Nat):Int:=cond (decide (v < 0)) (-((min (rq 52 v.natAbs g) 9218868437227405312:Nat):Int)) ((min (rq 52 v.natAbs g) 9218868437227405312:Nat):Int)

theorem KR_mono {v w:Int} (g:Nat) (h:v≤w):KR v g≤KR w g:=by
  unfold KR
  by_cases h1:v < 0
  · rw [decide_eq_true h1,cond_true]
    by_cases h2:w < 0
    · rw [decide_eq_true h2,cond_true]
      have:=rq_mono1 52 (g:=g) (show w.natAbs≤v.natAbs by omega)
      omega
    · rw [decide_eq_false h2,cond_false]; omega
  · rw [decide_eq_false h1,decide_eq_false (show ¬ w < 0 by omega),cond_false,cond_false]
    have:=rq_mono1 52 (g:=g) (show v.natAbs≤w.natAbs by omega)
    omega
theorem key_word (s:Bool) {r:Nat} (h:r≤9218868437227405312):key (double.word s r)=cond s (-(r:Int)) r:=by
  unfold key rung sgn Format.word
  rw [signW]
  cases s
  · have h1:r / 9223372036854775808=0:=Nat.div_eq_of_lt (by omega)
    have h2:r % 9223372036854775808=r:=Nat.mod_eq_of_lt (by omega)
    simp [h1,h2]
  · have h1:(9223372036854775808+r) / 9223372036854775808=1:=by omega
    have h2:(9223372036854775808+r) % 9223372036854775808=r:=by omega
    simp [h1,h2]

/-- What is written of an exact value 'v / g' units, where the sign is the value's (of nought either). -/
theorem key_nearest {s:Bool} {m u w:Nat} {p:Int} {v:Int} {g:Nat} (hg:0 < g) (hp:p+1074=u - w) (ha:rq 52 (m*2 ^ u) (2 ^ w)=rq 52 v.natAbs g) (hs:v≠0→s=decide (v < 0)):key (double.nearest s m p)=KR v g:=by
  rw [nearest_rq s m u w p hp,ha,infR,key_word _ (Nat.min_le_right _ _)]
  unfold KR
  by_cases h0:v=0
  · subst h0
    rw [Int.natAbs_zero,rq_zero 52 hg]
    cases s<;>decide
  · rw [hs h0]

theorem KR_val {x:Nat} (h:isFin x=true):KR (val x) 1=key x:=by
  have hl:=isFin_lt h
  have hn:(val x).natAbs=rv 52 (rung x):=by unfold val; cases sgn x<;>simp only [cond_true,cond_false]<;>omega
  unfold KR
  rw [hn,rq_rv]
  unfold val key
  have hz:rung x=0∨0 < rv 52 (rung x):=by
    rcases Nat.eq_zero_or_pos (rung x) with e | e
    · exact Or.inl e
    · right; have:=rv_lt 52 e; rw [rv_zero] at this; exact this
  rw [Nat.min_eq_left (by omega)]
  cases sgn x
  · rw [cond_false,cond_false,decide_eq_false (by omega),cond_false]
  · rw [cond_true,cond_true]
    rcases hz with e | e
    · rw [e,rv_zero]; decide
    · rw [decide_eq_true (by omega),cond_true]

theorem val_signed {x m:Nat} {i base:Int} (hv:rv 52 (rung x)=m*2 ^ (i+1074).toNat) (h1:base≤i) (h2:-1074≤base):val x=signed (sgn x) m (i - base).toNat*2 ^ (base+1074).toNat:=by
  rw [← signed_split,show (i - base).toNat+(base+1074).toNat=(i+1074).toNat by omega,signed_val,← hv]; rfl

theorem key_sum {x:Nat} {s t:Bool} {m n:Nat} {i j:Int} {r:Bool} {a b:Int} (hi:-1074≤i) (hj:-1074≤j)
    (ea:a=signed s m (i - min i j).toNat*2 ^ (min i j+1074).toNat) (eb:b=signed t n (j - min i j).toNat*2 ^ (min i j+1074).toNat)
    (hr:x=double.write (.number r (signed s m (i - min i j).toNat+signed t n (j - min i j).toNat).natAbs (min i j)))
    (hs:signed s m (i - min i j).toNat+signed t n (j - min i j).toNat≠0→r=decide (signed s m (i - min i j).toNat+signed t n (j - min i j).toNat < 0)):key x=KR (a+b) 1:=by
  generalize signed s m (i - min i j).toNat=A at *
  generalize signed t n (j - min i j).toNat=B at *
  have e:a+b=(A+B)*2 ^ (min i j+1074).toNat:=by rw [ea,eb,Int.add_mul]
  have hc:(0:Int) < 2 ^ (min i j+1074).toNat:=Int.pow_pos (by decide)
  rw [hr,e]
  refine key_nearest (u:=(min i j+1074).toNat) (w:=0) (by decide) (by omega) ?_ ?_
  · rw [Int.natAbs_mul,Int.natAbs_pow]; rfl
  · intro h0
    have hAB:A+B≠0:=fun h=>h0 (by rw [h,Int.zero_mul])
    rw [hs hAB]
    refine decide_eq_decide.2 ?_
    constructor
    · intro h; exact Int.mul_neg_of_neg_of_pos h hc
    · intro h
      rcases Int.lt_trichotomy (A+B) 0 with h1 | h1 | h1
      · exact h1
      · exact absurd h1 hAB
      · have:=Int.mul_pos h1 hc; omega

theorem key_add {x y:Nat} (hx:isFin x=true) (hy:isFin y=true):key (fadd x y)=KR (val x+val y) 1∧isNan (fadd x y)=false:=by
  obtain ⟨m,i,hrx,hi,_,hvx⟩:=read_fin hx
  obtain ⟨n,j,hry,hj,_,hvy⟩:=read_fin hy
  constructor
  · unfold fadd Format.add
    rw [hrx,hry]
    simp only [Datum.sum,Option.map_some,Option.getD_some]
    refine key_sum hi hj (val_signed hvx (by omega) (by omega)) (val_signed hvy (by omega) (by omega)) rfl ?_
    intro h; rw [if_neg h]
  · have:∃ r,double.add x y=some r:=by unfold Format.add; rw [hrx,hry]; exact ⟨_,rfl⟩
    obtain ⟨r,hr⟩:=this
    unfold fadd; rw [hr]; exact isNan_add hr
theorem key_sub {x y:Nat} (hx:isFin x=true) (hy:isFin y=true):key (fsub x y)=KR (val x - val y) 1∧isNan (fsub x y)=false:=by
  obtain ⟨m,i,hrx,hi,_,hvx⟩:=read_fin hx
  obtain ⟨n,j,hry,hj,_,hvy⟩:=read_fin hy
  constructor
  · unfold fsub Format.sub
    rw [hrx,hry]
    simp only [Datum.opposite,Datum.sum,Option.map_some,Option.getD_some]
    have e:val x - val y=val x+-(val y):=Int.sub_eq_add_neg
    rw [e]
    refine key_sum hi hj (val_signed hvx (by omega) (by omega)) ?_ rfl ?_
    · rw [signed_neg,Int.neg_mul,← val_signed hvy (by omega) (by omega)]
    · intro h; rw [if_neg h]
  · have:∃ r,double.sub x y=some r:=by unfold Format.sub; rw [hrx,hry]; exact ⟨_,rfl⟩
    obtain ⟨r,hr⟩:=this
    unfold fsub; rw [hr]; exact isNan_sub hr

theorem val_abs (x:Nat):(val x).natAbs=rv 52 (rung x):=by unfold val; cases sgn x<;>simp only [cond_true,cond_false]<;>omega
theorem val_neg {x:Nat} (h:val x≠0):sgn x=decide (val x < 0):=by
  unfold val at h ⊢
  cases hs:sgn x
  · rw [cond_false,decide_eq_false (by omega)]
  · rw [hs,cond_true] at h; rw [cond_true,decide_eq_true (by omega)]
theorem mul_sign {a b:Int} (h:a*b≠0):(decide (a < 0) ^^ decide (b < 0))=decide (a*b < 0):=by
  have ha:a≠0:=fun e=>h (by rw [e,Int.zero_mul])
  have hb:b≠0:=fun e=>h (by rw [e,Int.mul_zero])
  rcases Int.lt_or_gt_of_ne ha with h1 | h1<;>rcases Int.lt_or_gt_of_ne hb with h2 | h2
  · have:=Int.mul_pos_of_neg_of_neg h1 h2
    rw [decide_eq_true h1,decide_eq_true h2,decide_eq_false (by omega)]; rfl
  · have:=Int.mul_neg_of_neg_of_pos h1 h2
    rw [decide_eq_true h1,decide_eq_false (by omega),decide_eq_true this]; rfl
  · have:=Int.mul_neg_of_pos_of_neg h1 h2
    rw [decide_eq_false (by omega),decide_eq_true h2,decide_eq_true this]; rfl
  · have:=Int.mul_pos h1 h2
    rw [decide_eq_false (by omega),decide_eq_false (by omega),decide_eq_false (by omega)]; rfl

theorem key_mul {x y c:Nat} (hc:c=1074) (hx:isFin x=true) (hy:isFin y=true):key (fmul x y)=KR (val x*val y) (2 ^ c)∧isNan (fmul x y)=false:=by
  obtain ⟨m,i,hrx,hi,_,hvx⟩:=read_fin hx
  obtain ⟨n,j,hry,hj,_,hvy⟩:=read_fin hy
  constructor
  · unfold fmul Format.mul
    rw [hrx,hry]
    simp only [Datum.product,Option.map_some,Option.getD_some,Format.write]
    refine key_nearest (u:=(i+1074).toNat+(j+1074).toNat) (w:=c) (Nat.two_pow_pos _) (by omega) ?_ ?_
    · rw [Int.natAbs_mul,val_abs,val_abs,hvx,hvy,Nat.pow_add]
      congr 1
      rw [Nat.mul_assoc,Nat.mul_assoc,Nat.mul_left_comm n]
    · intro h
      have ha:val x≠0:=fun e=>h (by rw [e,Int.zero_mul])
      have hb:val y≠0:=fun e=>h (by rw [e,Int.mul_zero])
      rw [val_neg ha,val_neg hb,mul_sign h]
  · have:∃ r,double.mul x y=some r:=by unfold Format.mul; rw [hrx,hry]; exact ⟨_,rfl⟩
    obtain ⟨r,hr⟩:=this
    unfold fmul; rw [hr]; exact isNan_mul hr

end Go.Ev

namespace Go.Ev
open Ieee

/-- A float between two numbers is a number. -/
theorem fin_between {x lo hi:Nat} (h0:isNan x=false) (h1:key lo≤key x) (h2:key x≤key hi) (hl:-9218868437227405312 < key lo) (hh:key hi < 9218868437227405312):isFin x=true:=by
  rcases fin_or_inf h0 with h | h
  · exact h
  · exfalso
    have e:key x=9218868437227405312∨key x=-9218868437227405312:=by
      unfold key; rw [h]; cases sgn x
      · exact Or.inl rfl
      · exact Or.inr rfl
    omega
/-- A million; two million. -/
theorem near_fin {x:Nat} (h1:fge x 13920209183539462144=true) (h2:fle x 4696837146684686336=true):isFin x=true∧-4696837146684686336≤key x∧key x≤4696837146684686336:=by
  obtain ⟨a,_,h3⟩:=fge_true h1
  obtain ⟨_,_,h4⟩:=fle_true h2
  have e1:key 13920209183539462144=-4696837146684686336:=by decide +kernel
  have e2:key 4696837146684686336=4696837146684686336:=by decide +kernel
  refine ⟨fin_between a h3 h4 (by rw [e1]; decide) (by rw [e2]; decide),by omega,by omega⟩
theorem sub_fin {x y:Nat} (hx:isFin x=true) (hy:isFin y=true) (x1:-4696837146684686336≤key x) (x2:key x≤4696837146684686336) (y1:-4696837146684686336≤key y) (y2:key y≤4696837146684686336):isFin (fsub x y)=true:=by
  have e1:key 13920209183539462144=-4696837146684686336:=by decide +kernel
  have e2:key 4696837146684686336=4696837146684686336:=by decide +kernel
  have a1:=val_le.2 (show key 13920209183539462144≤key x by omega)
  have a2:=val_le.2 (show key x≤key 4696837146684686336 by omega)
  have b1:=val_le.2 (show key 13920209183539462144≤key y by omega)
  have b2:=val_le.2 (show key y≤key 4696837146684686336 by omega)
  have t1:val 4696837146684686336 - val 13920209183539462144=val 4701340746312056832:=by decide +kernel
  have t2:val 13920209183539462144 - val 4696837146684686336=val 13924712783166832640:=by decide +kernel
  have f1:isFin 4701340746312056832=true:=by decide +kernel
  have f2:isFin 13924712783166832640=true:=by decide +kernel
  obtain ⟨k,n⟩:=key_sub hx hy
  refine fin_between (lo:=13924712783166832640) (hi:=4701340746312056832) n ?_ ?_ (by decide +kernel) (by decide +kernel)
  · rw [k,← KR_val f2]; exact KR_mono 1 (by omega)
  · rw [k,← KR_val f1]; exact KR_mono 1 (by omega)
end Go.Ev
