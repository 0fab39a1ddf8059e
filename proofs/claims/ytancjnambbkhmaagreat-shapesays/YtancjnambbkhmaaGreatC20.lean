/-
  Wm0 Wo0, one behind the other.
-/
import Derived.Test.YtancjnambbkhmaaGreatC11
namespace Go.Em

def wB:Nat:=1000000
theorem wB_pos:0 < wB:=by decide
theorem wB_eq:wB=1000000:=rfl
/-- The i-th word. -/
def dg (a i:Nat):Nat:=a / wB ^ i % wB
theorem dg_lt (a i:Nat):dg a i < wB:=Nat.mod_lt _ wB_pos
theorem pw_pos (i:Nat):0 < wB ^ i:=Nat.pow_pos wB_pos
theorem mod_next (a i:Nat):a % wB ^ (i+1)=a % wB ^ i+wB ^ i*dg a i:=by
  unfold dg
  rw [Nat.mod_pow_succ]
theorem dg_zero {a i:Nat} (h:a < wB ^ i):dg a i=0:=by unfold dg; rw [Nat.div_eq_of_lt h]; rfl
/-- What words make. -/
def vl (f:Nat→Nat):Nat→Nat
  | 0=>0
  | n+1=>vl f n+wB ^ n*f n
theorem vl_dg (a:Nat):∀ n,vl (dg a) n=a % wB ^ n
  | 0=>by rw [Nat.pow_zero,Nat.mod_one]; rfl
  | n+1=>by
    show vl (dg a) n+wB ^ n*dg a n=_
    rw [vl_dg a n,mod_next]
/-- How many parts a number has. -/
def nw (a:Nat):Nat:=if _h:a=0 then 0 else nw (a / 1000000)+1
  termination_by a
  decreasing_by omega
theorem nw_zero:nw 0=0:=by unfold nw; rfl
theorem nw_pos {a:Nat} (h:a≠0):nw a=nw (a / wB)+1:=by rw [nw,dif_neg h]; rfl
theorem nw_both (a:Nat):a < wB ^ nw a∧(a≠0→0 < nw a∧wB ^ (nw a - 1)≤a):=by
  induction a using Nat.strongRecOn with
  | ind a ih =>
    by_cases h:a=0
    · subst h
      rw [nw_zero,Nat.pow_zero]
      exact ⟨Nat.zero_lt_one,fun h=>absurd rfl h⟩
    · have hd:a / wB < a:=by rw [wB_eq]; omega
      obtain ⟨h1,h2⟩:=ih (a / wB) hd
      rw [nw_pos h]
      have e:=Nat.div_add_mod a wB
      have hm:=Nat.mod_lt a wB_pos
      refine ⟨?_,fun _=>⟨by omega,?_⟩⟩
      · rw [Nat.pow_succ,← Nat.div_lt_iff_lt_mul wB_pos]
        exact h1
      · rw [Nat.add_sub_cancel]
        by_cases h0:a / wB=0
        · rw [h0,nw_zero,Nat.pow_zero]; omega
        · obtain ⟨h3,h4⟩:=h2 h0
          have e2:wB ^ nw (a / wB)=wB ^ (nw (a / wB) - 1)*wB:=by rw [← Nat.pow_succ]; congr 1; omega
          rw [e2,← Nat.le_div_iff_mul_le wB_pos]
          exact h4
theorem nw_lt (a:Nat):a < wB ^ nw a:=(nw_both a).1
theorem nw_ge {a:Nat} (h:a≠0):0 < nw a∧wB ^ (nw a - 1)≤a:=(nw_both a).2 h
theorem nw_le {a k:Nat} (h:a < wB ^ k):nw a≤k:=by
  by_cases h0:a=0
  · subst h0; rw [nw_zero]; exact Nat.zero_le _
  · obtain ⟨g1,g2⟩:=nw_ge h0
    rcases Nat.lt_or_ge k (nw a) with hlt | hge
    · have:wB ^ k≤wB ^ (nw a - 1):=Nat.pow_le_pow_right wB_pos (by omega)
      omega
    · exact hge
theorem top_dg {a:Nat} (h:a≠0):dg a (nw a - 1)≠0:=by
  obtain ⟨g1,g2⟩:=nw_ge h
  have g3:=nw_lt a
  unfold dg
  have h1:0 < a / wB ^ (nw a - 1):=Nat.div_pos g2 (pw_pos _)
  have h2:a / wB ^ (nw a - 1) < wB:=by
    rw [Nat.div_lt_iff_lt_mul (pw_pos _),Nat.mul_comm,← Nat.pow_succ]
    have e:(nw a - 1).succ=nw a:=by omega
    rw [e]; exact g3
  rw [Nat.mod_eq_of_lt h2]
  omega
def cy (a b i:Nat):Nat:=(a % wB ^ i+b % wB ^ i) / wB ^ i
theorem cy_zero (a b:Nat):cy a b 0=0:=by unfold cy; rw [Nat.pow_zero,Nat.mod_one,Nat.mod_one]
theorem cy_le (a b i:Nat):cy a b i≤1:=by
  unfold cy
  have h1:=Nat.mod_lt a (pw_pos i)
  have h2:=Nat.mod_lt b (pw_pos i)
  have:(a % wB ^ i+b % wB ^ i) / wB ^ i < 2:=by rw [Nat.div_lt_iff_lt_mul (pw_pos i)]; omega
  omega
theorem cy_next (a b i:Nat):cy a b (i+1)=(dg a i+dg b i+cy a b i) / wB:=by
  unfold cy
  rw [mod_next,mod_next,Nat.pow_succ,← Nat.div_div_eq_div_mul]
  congr 1
  rw [show a % wB ^ i+wB ^ i*dg a i+(b % wB ^ i+wB ^ i*dg b i)=a % wB ^ i+b % wB ^ i+wB ^ i*(dg a i+dg b i) by rw [Nat.mul_add]; omega,Nat.add_mul_div_left _ _ (pw_pos i)]
  omega
theorem dg_add (a b i:Nat):dg (a+b) i=(dg a i+dg b i+cy a b i) % wB:=by
  have h:(a+b) / wB ^ i=a / wB ^ i+b / wB ^ i+cy a b i:=by
    have e1:=Nat.div_add_mod a (wB ^ i)
    have e2:=Nat.div_add_mod b (wB ^ i)
    have:a+b=a % wB ^ i+b % wB ^ i+wB ^ i*(a / wB ^ i+b / wB ^ i):=by rw [Nat.mul_add]; omega
    rw [this,Nat.add_mul_div_left _ _ (pw_pos i)]
    unfold cy
    omega
  unfold dg
  rw [h]
  rw [Nat.add_mod (a / wB ^ i+b / wB ^ i) (cy a b i) wB,Nat.add_mod (a / wB ^ i) (b / wB ^ i) wB,Nat.add_mod (a / wB ^ i % wB+b / wB ^ i % wB) (cy a b i) wB]
def bw (a b i:Nat):Nat:=if a % wB ^ i < b % wB ^ i then 1 else 0
theorem bw_zero (a b:Nat):bw a b 0=0:=by unfold bw; rw [Nat.pow_zero,Nat.mod_one,Nat.mod_one]; rfl
theorem bw_le (a b i:Nat):bw a b i≤1:=by unfold bw; split<;>omega
theorem bw_step {Q ra rb da db:Nat} (h1:ra < Q) (h2:rb < Q):(if ra+Q*da < rb+Q*db then 1 else 0)=(if da < db+(if ra < rb then 1 else 0) then 1 else 0:Nat):=by
  rcases Nat.lt_trichotomy da db with h | h | h
  · have:Q*(da+1)≤Q*db:=Nat.mul_le_mul_left _ h
    rw [Nat.mul_add,Nat.mul_one] at this
    rw [if_pos (show ra+Q*da < rb+Q*db by omega),if_pos (by omega)]
  · subst h
    by_cases hc:ra < rb
    · rw [if_pos (show ra+Q*da < rb+Q*da by omega),if_pos hc,if_pos (by omega)]
    · rw [if_neg (show ¬ ra+Q*da < rb+Q*da by omega),if_neg hc,if_neg (by omega)]
  · have:Q*(db+1)≤Q*da:=Nat.mul_le_mul_left _ h
    rw [Nat.mul_add,Nat.mul_one] at this
    rw [if_neg (show ¬ ra+Q*da < rb+Q*db by omega),if_neg (by split<;>omega)]
theorem bw_next (a b i:Nat):bw a b (i+1)=if dg a i < dg b i+bw a b i then 1 else 0:=by
  unfold bw
  rw [mod_next,mod_next]
  exact bw_step (Nat.mod_lt a (pw_pos i)) (Nat.mod_lt b (pw_pos i))
theorem sub_div {Q qa ra qb rb:Nat} (hQ:0 < Q) (ha:ra < Q) (hb:rb < Q) (h:Q*qb+rb≤Q*qa+ra):(Q*qa+ra - (Q*qb+rb)) / Q=qa - qb - (if ra < rb then 1 else 0)∧qb+(if ra < rb then 1 else 0)≤qa:=by
  by_cases hc:ra < rb
  · rw [if_pos hc]
    have hlt:qb < qa:=by
      rcases Nat.lt_or_ge qb qa with h1 | h1
      · exact h1
      · have:Q*qa≤Q*qb:=Nat.mul_le_mul_left _ h1
        omega
    obtain ⟨k,rfl⟩:∃ k,qa=qb+1+k:=⟨qa - qb - 1,by omega⟩
    have e:Q*(qb+1+k)=Q*qb+Q+Q*k:=by rw [Nat.mul_add,Nat.mul_add,Nat.mul_one]
    have e2:Q*(qb+1+k)+ra - (Q*qb+rb)=(Q+ra - rb)+Q*k:=by rw [e]; omega
    refine ⟨?_,by omega⟩
    rw [e2,Nat.add_mul_div_left _ _ hQ,Nat.div_eq_of_lt (by omega)]
    omega
  · rw [if_neg hc]
    have hle:qb≤qa:=by
      rcases Nat.lt_or_ge qa qb with h1 | h1
      · have:Q*(qa+1)≤Q*qb:=Nat.mul_le_mul_left _ h1
        rw [Nat.mul_add,Nat.mul_one] at this
        omega
      · exact h1
    obtain ⟨k,rfl⟩:∃ k,qa=qb+k:=⟨qa - qb,by omega⟩
    have e:Q*(qb+k)=Q*qb+Q*k:=Nat.mul_add _ _ _
    have e2:Q*(qb+k)+ra - (Q*qb+rb)=(ra - rb)+Q*k:=by rw [e]; omega
    refine ⟨?_,by omega⟩
    rw [e2,Nat.add_mul_div_left _ _ hQ,Nat.div_eq_of_lt (by omega)]
    omega
theorem dg_sub {a b:Nat} (hab:b≤a) (i:Nat):dg (a - b) i=(dg a i+wB - dg b i - bw a b i) % wB:=by
  have h1:=Nat.mod_lt a (pw_pos i)
  have h2:=Nat.mod_lt b (pw_pos i)
  have hb:=bw_le a b i
  have hs:=sub_div (qa:=a / wB ^ i) (ra:=a % wB ^ i) (qb:=b / wB ^ i) (rb:=b % wB ^ i) (pw_pos i) h1 h2 (by rw [Nat.div_add_mod,Nat.div_add_mod]; exact hab)
  rw [Nat.div_add_mod,Nat.div_add_mod] at hs
  have hq:(a - b) / wB ^ i=a / wB ^ i - b / wB ^ i - bw a b i:=hs.1
  have hle:b / wB ^ i+bw a b i≤a / wB ^ i:=hs.2
  unfold dg
  rw [hq]
  generalize a / wB ^ i=x at *
  generalize b / wB ^ i=y at *
  generalize bw a b i=z at *
  rw [wB_eq]
  omega
end Go.Em

namespace Go.Ev

def wB:Nat:=18446744073709551616
theorem wB_pos:0 < wB:=by decide
theorem wB_eq:wB=18446744073709551616:=rfl
/-- The i-th word. -/
def dg (a i:Nat):Nat:=a / wB ^ i % wB
theorem dg_lt (a i:Nat):dg a i < wB:=Nat.mod_lt _ wB_pos
theorem pw_pos (i:Nat):0 < wB ^ i:=Nat.pow_pos wB_pos
theorem mod_next (a i:Nat):a % wB ^ (i+1)=a % wB ^ i+wB ^ i*dg a i:=by
  unfold dg
  rw [Nat.mod_pow_succ]
theorem dg_zero {a i:Nat} (h:a < wB ^ i):dg a i=0:=by unfold dg; rw [Nat.div_eq_of_lt h]; rfl
/-- What words make. -/
def vl (f:Nat→Nat):Nat→Nat
  | 0=>0
  | n+1=>vl f n+wB ^ n*f n
theorem vl_dg (a:Nat):∀ n,vl (dg a) n=a % wB ^ n
  | 0=>by rw [Nat.pow_zero,Nat.mod_one]; rfl
  | n+1=>by
    show vl (dg a) n+wB ^ n*dg a n=_
    rw [vl_dg a n,mod_next]
/-- How many words a number has. -/
def nw (a:Nat):Nat:=if a=0 then 0 else a.log2 / 64+1
theorem wB_pow (k:Nat):wB ^ k=2 ^ (64*k):=by
  rw [Nat.pow_mul]
  rfl
theorem nw_lt (a:Nat):a < wB ^ nw a:=by
  unfold nw
  by_cases h:a=0
  · rw [if_pos h,h,Nat.pow_zero]; exact Nat.zero_lt_one
  · rw [if_neg h,wB_pow]
    have h1:a < 2 ^ (a.log2+1):=Nat.lt_log2_self
    exact Nat.lt_of_lt_of_le h1 (Nat.pow_le_pow_right (by decide) (by omega))
theorem nw_ge {a:Nat} (h:a≠0):0 < nw a∧wB ^ (nw a - 1)≤a:=by
  unfold nw
  rw [if_neg h,wB_pow]
  refine ⟨by omega,?_⟩
  have h1:2 ^ a.log2≤a:=Nat.log2_self_le h
  exact Nat.le_trans (Nat.pow_le_pow_right (by decide) (by omega)) h1
theorem nw_eq {a k:Nat} (h1:a < wB ^ k) (h2:k=0∨wB ^ (k - 1)≤a):nw a=k:=by
  by_cases h:a=0
  · subst h
    unfold nw
    rw [if_pos rfl]
    rcases h2 with h2 | h2
    · exact h2.symm
    · have:=pw_pos (k - 1); omega
  · obtain ⟨g1,g2⟩:=nw_ge h
    have g3:=nw_lt a
    have hk:k≠0:=fun e=>by subst e; rw [Nat.pow_zero] at h1; omega
    have h2:=h2.resolve_left hk
    rcases Nat.lt_trichotomy (nw a) k with hlt | e | hgt
    · have:wB ^ nw a≤wB ^ (k - 1):=Nat.pow_le_pow_right wB_pos (by omega)
      omega
    · exact e
    · have:wB ^ k≤wB ^ (nw a - 1):=Nat.pow_le_pow_right wB_pos (by omega)
      omega
theorem nw_zero:nw 0=0:=rfl
theorem nw_le {a k:Nat} (h:a < wB ^ k):nw a≤k:=by
  by_cases h0:a=0
  · subst h0; exact Nat.zero_le _
  · obtain ⟨g1,g2⟩:=nw_ge h0
    rcases Nat.lt_or_ge k (nw a) with hlt | hge
    · have:wB ^ k≤wB ^ (nw a - 1):=Nat.pow_le_pow_right wB_pos (by omega)
      omega
    · exact hge
theorem top_dg {a:Nat} (h:a≠0):dg a (nw a - 1)≠0:=by
  obtain ⟨g1,g2⟩:=nw_ge h
  have g3:=nw_lt a
  unfold dg
  have h1:0 < a / wB ^ (nw a - 1):=Nat.div_pos g2 (pw_pos _)
  have h2:a / wB ^ (nw a - 1) < wB:=by
    rw [Nat.div_lt_iff_lt_mul (pw_pos _),Nat.mul_comm,← Nat.pow_succ]
    have e:(nw a - 1).succ=nw a:=by omega
    rw [e]; exact g3
  rw [Nat.mod_eq_of_lt h2]
  omega
def cy (a b i:Nat):Nat:=(a % wB ^ i+b % wB ^ i) / wB ^ i
theorem cy_zero (a b:Nat):cy a b 0=0:=by unfold cy; rw [Nat.pow_zero,Nat.mod_one,Nat.mod_one]
theorem cy_le (a b i:Nat):cy a b i≤1:=by
  unfold cy
  have h1:=Nat.mod_lt a (pw_pos i)
  have h2:=Nat.mod_lt b (pw_pos i)
  have:(a % wB ^ i+b % wB ^ i) / wB ^ i < 2:=by rw [Nat.div_lt_iff_lt_mul (pw_pos i)]; omega
  omega
theorem cy_next (a b i:Nat):cy a b (i+1)=(dg a i+dg b i+cy a b i) / wB:=by
  unfold cy
  rw [mod_next,mod_next,Nat.pow_succ,← Nat.div_div_eq_div_mul]
  congr 1
  rw [show a % wB ^ i+wB ^ i*dg a i+(b % wB ^ i+wB ^ i*dg b i)=a % wB ^ i+b % wB ^ i+wB ^ i*(dg a i+dg b i) by rw [Nat.mul_add]; omega,Nat.add_mul_div_left _ _ (pw_pos i)]
  omega
theorem dg_add (a b i:Nat):dg (a+b) i=(dg a i+dg b i+cy a b i) % wB:=by
  have h:(a+b) / wB ^ i=a / wB ^ i+b / wB ^ i+cy a b i:=by
    have e1:=Nat.div_add_mod a (wB ^ i)
    have e2:=Nat.div_add_mod b (wB ^ i)
    have:a+b=a % wB ^ i+b % wB ^ i+wB ^ i*(a / wB ^ i+b / wB ^ i):=by rw [Nat.mul_add]; omega
    rw [this,Nat.add_mul_div_left _ _ (pw_pos i)]
    unfold cy
    omega
  unfold dg
  rw [h]
  rw [Nat.add_mod (a / wB ^ i+b / wB ^ i) (cy a b i) wB,Nat.add_mod (a / wB ^ i) (b / wB ^ i) wB,Nat.add_mod (a / wB ^ i % wB+b / wB ^ i % wB) (cy a b i) wB]
def bw (a b i:Nat):Nat:=if a % wB ^ i < b % wB ^ i then 1 else 0
theorem bw_zero (a b:Nat):bw a b 0=0:=by unfold bw; rw [Nat.pow_zero,Nat.mod_one,Nat.mod_one]; rfl
theorem bw_le (a b i:Nat):bw a b i≤1:=by unfold bw; split<;>omega
theorem bw_step {Q ra rb da db:Nat} (h1:ra < Q) (h2:rb < Q):(if ra+Q*da < rb+Q*db then 1 else 0)=(if da < db+(if ra < rb then 1 else 0) then 1 else 0:Nat):=by
  rcases Nat.lt_trichotomy da db with h | h | h
  · have:Q*(da+1)≤Q*db:=Nat.mul_le_mul_left _ h
    rw [Nat.mul_add,Nat.mul_one] at this
    rw [if_pos (show ra+Q*da < rb+Q*db by omega),if_pos (by omega)]
  · subst h
    by_cases hc:ra < rb
    · rw [if_pos (show ra+Q*da < rb+Q*da by omega),if_pos hc,if_pos (by omega)]
    · rw [if_neg (show ¬ ra+Q*da < rb+Q*da by omega),if_neg hc,if_neg (by omega)]
  · have:Q*(db+1)≤Q*da:=Nat.mul_le_mul_left _ h
    rw [Nat.mul_add,Nat.mul_one] at this
    rw [if_neg (show ¬ ra+Q*da < rb+Q*db by omega),if_neg (by split<;>omega)]
theorem bw_next (a b i:Nat):bw a b (i+1)=if dg a i < dg b i+bw a b i then 1 else 0:=by
  unfold bw
  rw [mod_next,mod_next]
  exact bw_step (Nat.mod_lt a (pw_pos i)) (Nat.mod_lt b (pw_pos i))
theorem sub_div {Q qa ra qb rb:Nat} (hQ:0 < Q) (ha:ra < Q) (hb:rb < Q) (h:Q*qb+rb≤Q*qa+ra):(Q*qa+ra - (Q*qb+rb)) / Q=qa - qb - (if ra < rb then 1 else 0)∧qb+(if ra < rb then 1 else 0)≤qa:=by
  by_cases hc:ra < rb
  · rw [if_pos hc]
    have hlt:qb < qa:=by
      rcases Nat.lt_or_ge qb qa with h1 | h1
      · exact h1
      · have:Q*qa≤Q*qb:=Nat.mul_le_mul_left _ h1
        omega
    obtain ⟨k,rfl⟩:∃ k,qa=qb+1+k:=⟨qa - qb - 1,by omega⟩
    have e:Q*(qb+1+k)=Q*qb+Q+Q*k:=by rw [Nat.mul_add,Nat.mul_add,Nat.mul_one]
    have e2:Q*(qb+1+k)+ra - (Q*qb+rb)=(Q+ra - rb)+Q*k:=by rw [e]; omega
    refine ⟨?_,by omega⟩
    rw [e2,Nat.add_mul_div_left _ _ hQ,Nat.div_eq_of_lt (by omega)]
    omega
  · rw [if_neg hc]
    have hle:qb≤qa:=by
      rcases Nat.lt_or_ge qa qb with h1 | h1
      · have:Q*(qa+1)≤Q*qb:=Nat.mul_le_mul_left _ h1
        rw [Nat.mul_add,Nat.mul_one] at this
        omega
      · exact h1
    obtain ⟨k,rfl⟩:∃ k,qa=qb+k:=⟨qa - qb,by omega⟩
    have e:Q*(qb+k)=Q*qb+Q*k:=Nat.mul_add _ _ _
    have e2:Q*(qb+k)+ra - (Q*qb+rb)=(ra - rb)+Q*k:=by rw [e]; omega
    refine ⟨?_,by omega⟩
    rw [e2,Nat.add_mul_div_left _ _ hQ,Nat.div_eq_of_lt (by omega)]
    omega
theorem dg_sub {a b:Nat} (hab:b≤a) (i:Nat):dg (a - b) i=(dg a i+wB - dg b i - bw a b i) % wB:=by
  have h1:=Nat.mod_lt a (pw_pos i)
  have h2:=Nat.mod_lt b (pw_pos i)
  have hb:=bw_le a b i
  have hs:=sub_div (qa:=a / wB ^ i) (ra:=a % wB ^ i) (qb:=b / wB ^ i) (rb:=b % wB ^ i) (pw_pos i) h1 h2 (by rw [Nat.div_add_mod,Nat.div_add_mod]; exact hab)
  rw [Nat.div_add_mod,Nat.div_add_mod] at hs
  have hq:(a - b) / wB ^ i=a / wB ^ i - b / wB ^ i - bw a b i:=hs.1
  have hle:b / wB ^ i+bw a b i≤a / wB ^ i:=hs.2
  unfold dg
  rw [hq]
  generalize a / wB ^ i=x at *
  generalize b / wB ^ i=y at *
  generalize bw a b i=z at *
  rw [wB_eq]
  omega
end Go.Ev
