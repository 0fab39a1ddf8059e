/-
  Ro1 Ro2 Ro3 Ro4 Ro5 Ro6 Ro7 Ro8 Ro9 Roa Rob Roc Gyl Rod Roe Rof Rog Roh Roi Roj Rok Rol Rom Ron Roo Rop Gyf Gyr Roq Ror Ros Rot, one behind the other.
-/
import Derived.Test.YtancjnambbkhmaaGreatC20
import Derived.Test.YtancjnambbkhmaaGreatC23
import Derived.Test.YtancjnambbkhmaaGreatC24
import Derived.Laws.Externs
namespace Go.Proofs.YtancjnambbkhmaaGreat
open Go.Gv
open Go.Ev (wB wB_pos wB_eq dg dg_lt vl nw cy bw)

def uw (x:Nat):AV:=.x (.int .u64 (x:Int))
def sW (n:Nat) (f:Nat→Nat):AV:=.sl 1 n fun i=>[uw (f i)]
/-- A number's words. -/
def wsA (a:Nat):AV:=sW (nw a) (dg a)
def sub64Entry:Array Value→Sem Value:=fun args=>do
  let (x, y, b) ← Extern.MathBitsCarry.three "Sub64" args
  pure (Extern.MathBitsCarry.pair ((x+Extern.MathBitsCarry.m64 - y - b) % Extern.MathBitsCarry.m64) (if x < y+b then 1 else 0))
theorem run_sub64 {P:Program} (x y:Nat) (k:Nat) (hk:k≤1) (w:World):(sub64Entry #[.int .u64 (x:Int),.int .u64 (y:Int),.int .u64 (k:Int)]).run P w=.ok (.tuple #[.int .u64 (((x+wB - y - k) % wB:Nat):Int),.int .u64 ((if x < y+k then 1 else 0:Nat):Int)]) w:=by
  have:k=0∨k=1:=by omega
  rcases this with rfl | rfl<;>rfl
theorem run_add64' {P:Program} (x y:Nat) (k:Nat) (hk:k≤1) (w:World):(add64Entry #[.int .u64 (x:Int),.int .u64 (y:Int),.int .u64 (k:Int)]).run P w=.ok (.tuple #[.int .u64 (((x+y+k) % wB:Nat):Int),.int .u64 (((x+y+k) / wB:Nat):Int)]) w:=by
  have:k=0∨k=1:=by omega
  rcases this with rfl | rfl<;>rfl
theorem three_rel {E:Env} {x y k:Nat} {l:List Value} (h:rels E [uw x,uw y,uw k] l):l=[.int .u64 (x:Int),.int .u64 (y:Int),.int .u64 (k:Int)]:=by
  obtain ⟨v0,t0,e0,r0,h⟩:=rels_cons.1 h
  obtain ⟨v1,t1,e1,r1,h⟩:=rels_cons.1 h
  obtain ⟨v2,t2,e2,r2,h⟩:=rels_cons.1 h
  have e3:=rels_nil.1 h
  rw [e0,e1,e2,e3,rel_x.1 r0,rel_x.1 r1,rel_x.1 r2]
theorem add64_x {x y k:Nat} (hk:k≤1):XSpec Tryz.prog 274 [uw x,uw y,uw k] (.tup [uw ((x+y+k) % wB),uw ((x+y+k) / wB)]):=fun E cargs hv=>by
  obtain ⟨l⟩:=cargs
  have e:=three_rel hv
  simp only at e
  subst e
  refine ⟨_,E.w,?_,?_,rel_tup.2 ⟨_,rfl,rels_cons.2 ⟨_,_,rfl,rel_x.2 rfl,rels_cons.2 ⟨_,_,rfl,rel_x.2 rfl,rels_nil.2 rfl⟩⟩⟩⟩
  · rw [run_callFunc_extern (e:=add64Entry) Tryz.func274 (by kernel_rfl) (by kernel_rfl) (by kernel_rfl) (by kernel_rfl),run_add64' x y k hk]
    rfl
  · exact Or.inl rfl
theorem sub64_x {x y k:Nat} (hk:k≤1):XSpec Tryz.prog 275 [uw x,uw y,uw k] (.tup [uw ((x+wB - y - k) % wB),uw (if x < y+k then 1 else 0)]):=fun E cargs hv=>by
  obtain ⟨l⟩:=cargs
  have e:=three_rel hv
  simp only at e
  subst e
  refine ⟨_,E.w,?_,?_,rel_tup.2 ⟨_,rfl,rels_cons.2 ⟨_,_,rfl,rel_x.2 rfl,rels_cons.2 ⟨_,_,rfl,rel_x.2 rfl,rels_nil.2 rfl⟩⟩⟩⟩
  · rw [run_callFunc_extern (e:=sub64Entry) Tryz.func275 (by kernel_rfl) (by kernel_rfl) (by kernel_rfl) (by kernel_rfl),run_sub64 x y k hk]
    rfl
  · exact Or.inl rfl
end Go.Proofs.YtancjnambbkhmaaGreat

namespace Go.Proofs.YtancjnambbkhmaaGreat
open Go.Gv
open Go.Ev (wB wB_pos wB_eq dg dg_lt vl nw cy bw)

def vA (z:Int):AV:=.x (.int .u64 z)
/-- A contract with a condition, of what has no text. -/
def kIfX (f:Nat) (c:List AV→Bool) (g:List AV→AV):KEntry:=⟨f,fun args k=>cond (c args) (k (g args)) none⟩
theorem kIfX_ok {P:Program} {f:Nat} {c:List AV→Bool} {g:List AV→AV} (h:∀ args,c args=true→XSpec P f args (g args)):KOk P (kIfX f c g):=by
  constructor
  · intro args k o ho
    simp only [kIfX] at ho ⊢
    cases hc:c args
    · rw [hc] at ho; cases ho
    · rw [hc] at ho
      exact ⟨g args,ho,fun k'=>rfl⟩
  · intro args v hv
    simp only [kIfX] at hv
    cases hc:c args
    · rw [hc] at hv
      have:=hv fun x=>some (Out.of x)
      cases this
    · rw [hc] at hv
      have:=hv fun x=>some (Out.of x)
      simp only [cond_true,Option.some.injEq,Out.of,Out.mk.injEq,true_and] at this
      subst this
      exact Or.inr (h args hc)
def c3:List AV→Bool
  | [.x (.int .u64 x),.x (.int .u64 y),.x (.int .u64 k)]=>decide (0≤x)&&(decide (0≤y)&&(decide (0≤k)&&decide (k≤1)))
  | _=>false
abbrev I3:Type:=Int→Int→Int→Int
def g3 (af ag:I3):List AV→AV
  | [.x (.int .u64 x),.x (.int .u64 y),.x (.int .u64 k)]=>.tup [vA (af x y k),vA (ag x y k)]
  | _=>.any
def c3B (x y k:Int):Bool:=decide (0≤x)&&(decide (0≤y)&&(decide (0≤k)&&decide (k≤1)))
def adS:I3:=fun x y k=>(((x.toNat+y.toNat+k.toNat) % wB:Nat):Int)
def adC:I3:=fun x y k=>(((x.toNat+y.toNat+k.toNat) / wB:Nat):Int)
def sbS:I3:=fun x y k=>(((x.toNat+wB - y.toNat - k.toNat) % wB:Nat):Int)
def sbC:I3:=fun x y k=>((if x.toNat < y.toNat+k.toNat then 1 else 0:Nat):Int)
theorem kAdd_ok:KOk Tryz.prog (kIfX 274 c3 (g3 adS adC)):=kIfX_ok fun args h=>by
  unfold c3 at h
  split at h
  · rename_i x y k
    simp only [Bool.and_eq_true,decide_eq_true_eq] at h
    obtain ⟨h1,h2,h3,h4⟩:=h
    have:=add64_x (x:=x.toNat) (y:=y.toNat) (k:=k.toNat) (by omega)
    unfold uw at this
    rw [Int.toNat_of_nonneg h1,Int.toNat_of_nonneg h2,Int.toNat_of_nonneg h3] at this
    exact this
  · cases h
theorem kSub_ok:KOk Tryz.prog (kIfX 275 c3 (g3 sbS sbC)):=kIfX_ok fun args h=>by
  unfold c3 at h
  split at h
  · rename_i x y k
    simp only [Bool.and_eq_true,decide_eq_true_eq] at h
    obtain ⟨h1,h2,h3,h4⟩:=h
    have:=sub64_x (x:=x.toNat) (y:=y.toNat) (k:=k.toNat) (by omega)
    unfold uw at this
    rw [Int.toNat_of_nonneg h1,Int.toNat_of_nonneg h2,Int.toNat_of_nonneg h3] at this
    exact this
  · cases h
def vS (n:Nat) (f:Nat→Int):AV:=.sl 1 n fun i=>[vA (f i)]
def trS (n:Nat) (f:Nat→Int):St:=mkS 21 [(0,vS n f)] []
section
variable (n:Nat) (f:Nat→Int)
def gTr (b:Bool) (i:Int) (n:Nat):Bool:=ixB i n||!(decide (b=true)&&true)
def trB:Bool:=cond (decide ((n:Int) > 0)) (f (w64 ((n:Int) - 1)).toNat==0) false
theorem tr_step:evC Tryz.prog [] [] noL (loopAt Tryz.f273 0) (trS n f) (finN [0] []) =
    cond (gTr (decide ((n:Int) > 0)) (w64 ((n:Int) - 1)) n) (cond (trB n f) (cond (sbB none (some (w64 ((n:Int) - 1))) none n||false) (some ⟨.normal,mkS 21 [(0,.sl 1 (sbN none (some (w64 ((n:Int) - 1))) n) fun i=>[vA (f (sbL none+i))])] [],.any⟩) none) none) none:=by kernel_rfl
theorem tr_end:evC Tryz.prog [] [] noL (loopAt Tryz.f273 0) (trS n f) (finE [0] []) =
    cond (gTr (decide ((n:Int) > 0)) (w64 ((n:Int) - 1)) n) (cond (trB n f) (cond (sbB none (some (w64 ((n:Int) - 1))) none n||false) none none) (some ⟨.exit 0,trS n f,.any⟩)) none:=by kernel_rfl
theorem tr_ev (m:Nat):ev Tryz.prog [] [] (oneL 1 (toldF [0] [] (trS n f) (.exit 0) (trS m f))) Tryz.f273 [vS n f] ret=gate (Sub (trS n f) (trS n f)) (some (Out.of (vS m f))):=by kernel_rfl
end
def smS (n:Nat) (f:Nat→Int) (m:Nat) (g:Nat→Int) (N:Nat) (c i:Int) (Y:Nat→Int):St:=mkS 54 [(0,vS n f),(1,vS m g),(5,.osl 0 1 0 N),(6,vA c),(21,vS n f),(22,iA (n:Nat)),(23,iA i)] [.a 158 1 N fun q=>[vA (Y q)]]
def keepSm:List Nat:=[0,1,5,6,21,22,23]
def mkU (n:Int):Bool:=decide (0≤n)&&(decide (n≤n)&&decide (((8:Nat):Int)*n≤281474976710656))
def stU (i n:Nat):Bool:=Nat.blt (0+i) n||false
section
variable (af ag:I3) (n:Nat) (f:Nat→Int) (m:Nat) (g:Nat→Int) (N:Nat) (c i:Int) (Y:Nat→Int)
def smR (o:Int) (go:Int→Option Out):Option Out:=cond (c3B (f i.toNat) o c) (cond (ixB i N||false) (cond (stU i.toNat N) (go o) none) none) none
def smT (go:Int→Option Out):Option Out:=cond (ixB i n||false) (cond (decide (i < (m:Int))) (cond (ixB i m||false) (smR f N c i (g i.toNat) go) none) (smR f N c i 0 go)) none
def smN (o:Int):St:=mkS 54 [(0,vS n f),(1,vS m g),(5,.osl 0 1 0 N),(6,vA (ag (f i.toNat) o c)),(21,vS n f),(22,iA (n:Nat)),(23,iA (w64 (i+1)))] [.a 158 1 N fun q=>mixL (q==0+i.toNat) [vA (af (f i.toNat) o c)] [vA (Y q)]]
theorem sm_step:evC Tryz.prog [] [kIfX 274 c3 (g3 af ag)] noL (loopAt Tryz.f268 0) (smS n f m g N c i Y) (finN keepSm [some 0])=cond (decide (i < (n:Int))) (smT n f m g N c i fun o=>some ⟨.normal,smN af ag n f m g N c i Y o,.any⟩) none:=by kernel_rfl
theorem sm_end:evC Tryz.prog [] [kIfX 274 c3 (g3 af ag)] noL (loopAt Tryz.f268 0) (smS n f m g N c i Y) (finE keepSm [some 0])=cond (decide (i < (n:Int))) (smT n f m g N c i fun _=>none) (some ⟨.exit 0,smS n f m g N c i Y,.any⟩):=by kernel_rfl
end
def fz2 (N:Nat):Bool:=(Nat.beq N N&&(Nat.beq N N&&true))&&true
section
variable (n:Nat) (f:Nat→Int) (m:Nat) (g:Nat→Int) (n0:Nat) (f0:Nat→Int) (m0:Nat) (g0:Nat→Int) (N0:Nat) (c1:Int) (Y:Nat→Int) (k:Nat) (F:Nat→Int)
def smE:Nat→List AV:=fun q=>mixL (q==0+n0) [vA c1] [vA (Y q)]
noncomputable def smTail:Option Out:=cond (ixB (n0:Nat) N0||false) (cond (stU n0 N0) (cond (fz2 N0) (gate (FSpec Tryz.prog 273 [.sl 1 N0 (smE n0 c1 Y)] (vS k F)) (some (Out.of (vS k F)))) none) none) none
def s0T:St:=smS n0 f0 m0 g0 N0 0 0 fun _=>0
theorem sm_ev:evZ Tryz.prog [] [kS Tryz.prog 273 (fun _=>vS k F)] [] (oneL 6 (toldF keepSm [some 0] (s0T n0 f0 m0 g0 N0) (.exit 0) (smS n0 f0 m0 g0 N0 c1 (n0:Nat) Y))) (oneZ 14 (frzK 0)) Tryz.f268 [vS n f,vS m g] ret =
    cond (decide ((n:Int) < (m:Int))) (cond (mkU (w64 ((m:Int)+1))||false) (gate (Sub (smS m g n f (w64 ((m:Int)+1)).toNat 0 0 fun _=>0) (s0T n0 f0 m0 g0 N0)) (smTail n0 N0 c1 Y k F)) none)
      (cond (mkU (w64 ((n:Int)+1))||false) (gate (Sub (smS n f m g (w64 ((n:Int)+1)).toNat 0 0 fun _=>0) (s0T n0 f0 m0 g0 N0)) (smTail n0 N0 c1 Y k F)) none):=by kernel_rfl
end
end Go.Proofs.YtancjnambbkhmaaGreat

namespace Go.Proofs.YtancjnambbkhmaaGreat
open Go.Gv
open Go.Ev (wB wB_pos wB_eq dg dg_lt vl nw cy bw nw_lt nw_ge nw_le nw_zero top_dg dg_zero dg_add dg_sub cy_zero cy_le cy_next bw_zero bw_le bw_next pw_pos)

def dI (a:Nat) (i:Nat):Int:=((dg a i:Nat):Int)
theorem wsA_eq (a:Nat):wsA a=vS (nw a) (dI a):=rfl
theorem argL {f n:Nat} {el el':Nat→List AV} {r:AV} (h:FSpec Tryz.prog f [.sl 1 n el] r) (he:∀ i,i < n→el i=el' i):FSpec Tryz.prog f [.sl 1 n el'] r:=FSpec.of_args h fun E vs hr=>by
  obtain ⟨u0,t0,e0,r0,hr⟩:=rels_cons.1 hr
  exact rels_cons.2 ⟨u0,t0,e0,sl_like r0 he,hr⟩
theorem mixV (b:Bool) (a c:Int):mixL b [vA a] [vA c]=[vA (cond b a c)]:=by unfold vA; simp only [mixL,mixA,decide_true,cond_true]
theorem stU_t {i n:Nat} (h:i < n):stU i n=true:=by unfold stU; rw [Nat.zero_add,blt_t h]; rfl
theorem mkU_t {n:Nat} (h:n≤35184372088832):mkU (n:Nat)=true:=by
  unfold mkU
  rw [decide_eq_true (show (0:Int)≤(n:Int) by omega),decide_eq_true (Int.le_refl _),decide_eq_true (show ((8:Nat):Int)*(n:Int)≤281474976710656 by omega)]
  rfl
theorem trim_leads (a:Nat) {n:Nat} (hn:n≤35184372088832) (ha:a < wB ^ n):Leads Tryz.prog (.loop (loopAt Tryz.f273 0)) (trS n (dI a)) (.exit 0) (trS (nw a) (dI a)):=by
  have hle:=nw_le ha
  have gt:∀ m,m≤n→gTr (decide ((m:Int) > 0)) (w64 ((m:Int) - 1)) m=true:=fun m hm=>by
    unfold gTr
    by_cases h:m=0
    · subst h; rfl
    · obtain ⟨j,rfl⟩:∃ j,m=j+1:=⟨m - 1,by omega⟩
      rw [show w64 (((j+1:Nat):Int) - 1)=((j:Nat):Int) by rw [w64_id (by omega) (by omega)]; omega,ixB_t (by omega)]
      rfl
  have key:Leads Tryz.prog (.loop (loopAt Tryz.f273 0)) (trS (n - 0) (dI a)) (.exit 0) (trS (nw a) (dI a)):=by
    refine loop_rule (fun j=>trS (n - j) (dI a)) (n - nw a) (.exit 0) _ (by simp) (fun j hj=>?_) ?_
    · obtain ⟨m,hm⟩:∃ m,n - j=m+1:=⟨n - j - 1,by omega⟩
      have e1:n - (j+1)=m:=by omega
      rw [hm,e1]
      have ew:w64 (((m+1:Nat):Int) - 1)=((m:Nat):Int):=by rw [w64_id (by omega) (by omega)]; omega
      have hz:dg a m=0:=dg_zero (Nat.lt_of_lt_of_le (nw_lt a) (Nat.pow_le_pow_right wB_pos (by omega)))
      have st:=tr_step (m+1) (dI a)
      have hb:trB (m+1) (dI a)=true:=by
        unfold trB
        rw [decide_eq_true (show ((m+1:Nat):Int) > 0 by omega),ew,Int.toNat_natCast]
        unfold dI
        rw [hz]
        rfl
      have s1:sbB none (some ((m:Nat):Int)) none (m+1)=true:=by
        unfold sbB
        simp only [Option.getD_some,Option.getD_none]
        rw [decide_eq_true (Int.le_refl _),decide_eq_true (show (0:Int)≤((m:Nat):Int) by omega),decide_eq_true (show ((m:Nat):Int)≤((m+1:Nat):Int) by omega),decide_eq_true (Int.le_refl _)]
        rfl
      have s2:sbN none (some ((m:Nat):Int)) (m+1)=m:=by
        unfold sbN
        simp only [Option.getD_some,Option.getD_none]
        omega
      have s3:(fun i=>[vA (dI a (sbL none+i))])=fun i=>[vA (dI a i)]:=funext fun i=>by
        show [vA (dI a (0+i))]=_
        rw [Nat.zero_add]
      rw [gt (m+1) (by omega),hb,ew,s1,s2,s3] at st
      exact leads_ev (finN_sub [0] []) e_nil k_nil noL_ok st
    · rw [show n - (n - nw a)=nw a by omega]
      refine leads_ev (finE_sub [0] []) e_nil k_nil noL_ok ((tr_end (nw a) (dI a)).trans ?_)
      have hb:trB (nw a) (dI a)=false:=by
        unfold trB
        by_cases h:a=0
        · subst h; rfl
        · obtain ⟨g1,_⟩:=nw_ge h
          rw [decide_eq_true (show ((nw a:Nat):Int) > 0 by omega),show w64 ((nw a:Int) - 1)=((nw a - 1:Nat):Int) by rw [w64_id (by omega) (by omega)]; omega,Int.toNat_natCast,cond_true]
          have:=top_dg h
          refine beq_false_of_ne ?_
          unfold dI
          omega
      rw [gt (nw a) hle,hb]
      rfl
  exact key
theorem trim_spec (a:Nat) {n:Nat} (hn:n≤35184372088832) (ha:a < wB ^ n):FSpec Tryz.prog 273 [vS n (dI a)] (wsA a):=by
  refine gspec e_nil k_nil Tryz.func273 (by kernel_rfl) (by kernel_rfl) (lok_at 0 1 (by kernel_rfl) (by kernel_rfl) (toldF_sound (trim_leads a hn ha))) rfl ((tr_ev n (dI a) (nw a)).trans ?_)
  rw [gate_pos (Sub.refl _)]
  rfl
def smY (a b i q:Nat):Int:=cond (Nat.blt q i) (dI (a+b) q) 0
theorem bltN {a b:Nat} (h:¬ a < b):Nat.blt a b=false:=by
  cases e:Nat.blt a b with
  | false=>rfl
  | true=>exact absurd (Nat.le_of_ble_eq_true e) h
theorem c3B_t {x y k:Nat} (hk:k≤1):c3B (x:Nat) (y:Nat) (k:Nat)=true:=by
  unfold c3B
  rw [decide_eq_true (show (0:Int)≤(x:Int) by omega),decide_eq_true (show (0:Int)≤(y:Int) by omega),decide_eq_true (show (0:Int)≤(k:Int) by omega),decide_eq_true (show (k:Int)≤1 by omega)]
  rfl
theorem put_next {Y:Nat→Int} {i q:Nat} {x:Int} {Z:Nat→Int} (h1:∀ q,q < i→Y q=Z q) (h2:x=Z i) (h3:∀ q,i < q→Y q=0):cond (q==0+i) x (Y q)=cond (Nat.blt q (i+1)) (Z q) 0:=by
  rw [Nat.zero_add]
  by_cases e:q=i
  · subst e; rw [BEq.rfl,blt_t (show q < q+1 by omega)]; exact h2
  · rw [beq_false_of_ne e,cond_false]
    by_cases hl:q < i
    · rw [blt_t (show q < i+1 by omega)]; exact h1 q hl
    · rw [bltN (show ¬ q < i+1 by omega)]; exact h3 q (by omega)
theorem sum_leads {a b:Nat} (hn:nw a < 35184372088832):Leads Tryz.prog (.loop (loopAt Tryz.f268 0)) (s0T (nw a) (dI a) (nw b) (dI b) (nw a+1)) (.exit 0) (smS (nw a) (dI a) (nw b) (dI b) (nw a+1) ((cy a b (nw a):Nat):Int) (nw a:Nat) (smY a b (nw a))):=by
  have h0:s0T (nw a) (dI a) (nw b) (dI b) (nw a+1)=smS (nw a) (dI a) (nw b) (dI b) (nw a+1) ((cy a b 0:Nat):Int) ((0:Nat):Int) (smY a b 0):=by
    unfold s0T
    rw [cy_zero]
    rfl
  rw [h0]
  refine loop_rule (fun i=>smS (nw a) (dI a) (nw b) (dI b) (nw a+1) ((cy a b i:Nat):Int) (i:Nat) (smY a b i)) (nw a) (.exit 0) _ (by simp) (fun i hi=>?_) ?_
  · have st:=sm_step adS adC (nw a) (dI a) (nw b) (dI b) (nw a+1) ((cy a b i:Nat):Int) (i:Nat) (smY a b i)
    have hc:=cy_le a b i
    -- what is added
    have go:smT (nw a) (dI a) (nw b) (dI b) (nw a+1) ((cy a b i:Nat):Int) (i:Nat) (fun o=>some ⟨.normal,smN adS adC (nw a) (dI a) (nw b) (dI b) (nw a+1) ((cy a b i:Nat):Int) (i:Nat) (smY a b i) o,.any⟩)=some ⟨.normal,smN adS adC (nw a) (dI a) (nw b) (dI b) (nw a+1) ((cy a b i:Nat):Int) (i:Nat) (smY a b i) (dI b i),.any⟩:=by
      unfold smT smR
      rw [ixB_t hi,ixB_t (show i < nw a+1 by omega),Int.toNat_natCast,stU_t (show i < nw a+1 by omega)]
      by_cases hm:i < nw b
      · rw [dec_lt hm,ixB_t hm,show c3B (dI a i) (dI b i) ((cy a b i:Nat):Int)=true from c3B_t hc]
        rfl
      · have hz:dI b i=0:=by unfold dI; rw [dg_zero (Nat.lt_of_lt_of_le (nw_lt b) (Nat.pow_le_pow_right wB_pos (by omega)))]; rfl
        rw [decide_eq_false (show ¬ ((i:Nat):Int) < ((nw b:Nat):Int) by omega),hz,show c3B (dI a i) 0 ((cy a b i:Nat):Int)=true from c3B_t (y:=0) hc]
        rfl
    rw [dec_lt hi,go,cond_true] at st
    unfold smN at st
    have e1:adC (dI a ((i:Nat):Int).toNat) (dI b i) ((cy a b i:Nat):Int)=((cy a b (i+1):Nat):Int):=by rw [cy_next]; rfl
    have e2:adS (dI a ((i:Nat):Int).toNat) (dI b i) ((cy a b i:Nat):Int)=dI (a+b) i:=by unfold dI; rw [dg_add]; rfl
    rw [e1,e2,w64_next (by omega)] at st
    refine (leads_ev (finN_sub keepSm [some 0]) e_nil (k_cons kAdd_ok k_nil) noL_ok st).sub (Sub.refl _) ?_
    refine sub_same ⟨Or.inr ⟨158,1,nw a+1,_,_,rfl,rfl,fun q hq=>?_⟩,trivial⟩
    rw [mixV,Int.toNat_natCast]
    show [vA (cond (Nat.blt q (i+1)) (dI (a+b) q) 0)]=_
    rw [← put_next (Y:=smY a b i) (i:=i) (q:=q) (x:=dI (a+b) i) (fun q hq=>by unfold smY; rw [blt_t hq]; rfl) rfl fun q hq=>by unfold smY; rw [bltN (by omega)]; rfl]
  · refine leads_ev (finE_sub keepSm [some 0]) e_nil (k_cons kAdd_ok k_nil) noL_ok ((sm_end adS adC (nw a) (dI a) (nw b) (dI b) (nw a+1) ((cy a b (nw a):Nat):Int) (nw a:Nat) (smY a b (nw a))).trans ?_)
    rw [dec_self,cond_false]
theorem sum_lt {a b:Nat} (hab:nw b≤nw a):a+b < wB ^ (nw a+1):=by
  have h1:=nw_lt a
  have h2:b < wB ^ nw a:=Nat.lt_of_lt_of_le (nw_lt b) (Nat.pow_le_pow_right wB_pos hab)
  have h3:wB ^ nw a*2≤wB ^ nw a*wB:=Nat.mul_le_mul_left _ (by decide)
  rw [Nat.pow_succ]
  omega
theorem fz2_t (N:Nat):fz2 N=true:=by unfold fz2; rw [Nat.beq_refl]; rfl
theorem sum_trim {a b:Nat} (hab:nw b≤nw a) (hn:nw a < 35184372088832):smTail (nw a) (nw a+1) ((cy a b (nw a):Nat):Int) (smY a b (nw a)) (nw (a+b)) (dI (a+b))=some (Out.of (wsA (a+b))):=by
  have ht:FSpec Tryz.prog 273 [.sl 1 (nw a+1) (smE (nw a) ((cy a b (nw a):Nat):Int) (smY a b (nw a)))] (vS (nw (a+b)) (dI (a+b))):=by
    refine argL (trim_spec (a+b) (n:=nw a+1) (by omega) (sum_lt hab)) fun q hq=>?_
    unfold smE
    rw [mixV,put_next (Y:=smY a b (nw a)) (i:=nw a) (Z:=dI (a+b)) (fun q hq=>by unfold smY; rw [blt_t hq]; rfl) ?_ fun q hq=>by unfold smY; rw [bltN (by omega)]; rfl]
    · rw [blt_t hq]; rfl
    · unfold dI
      rw [dg_add,dg_zero (nw_lt a),dg_zero (Nat.lt_of_lt_of_le (nw_lt b) (Nat.pow_le_pow_right wB_pos hab)),Nat.zero_add,Nat.mod_eq_of_lt]
      have:=cy_le a b (nw a)
      rw [wB_eq]; omega
  unfold smTail
  rw [ixB_t (show nw a < nw a+1 by omega),stU_t (show nw a < nw a+1 by omega),fz2_t,gate_pos ht]
  rfl
theorem s0T_sub (n:Nat) (u:Nat→Int) (m:Nat) (v:Nat→Int) (N:Nat):Sub (smS n u m v N 0 0 fun _=>0) (s0T n u m v N):=by unfold s0T; exact Sub.refl _
theorem gspecZ {l : List Entry} {ks : List KEntry} {ms : List MEntry} {L : Nat → Option LFun} {Z : Nat → Option ZFun} (hZ : ∀ i h, Z i = some h → ZSoundN 0 h) (hl : ∀ e, e ∈ l → EOk Tryz.prog e) (hks : ∀ e, e ∈ ks → KOk Tryz.prog e) (hms : ∀ e, e ∈ ms → MEOk Tryz.prog e) {f : Nat} {fn : Func} (hf : Tryz.prog.funcs[f]? = some fn) (hnm : (fn.name == "runtime.NumGoroutine") = false) (hb : fn.body = some (bodyOf fn)) (hL : LOk Tryz.prog L (bodyOf fn))
    {args:List AV} (hlen:Nat.ble args.length fn.ntmps=true) {r:AV} (h:evZ Tryz.prog l ks ms L Z fn args ret=some (Out.of r)):FSpec Tryz.prog f args r:=spec_of_bodyZ hZ (tabM_ok hl hks hms) (drawnK_ok (tabM_ok hl hks hms) (by kernel_rfl)) 40 hf hnm hb hL hlen h
theorem sum_spec {a b:Nat} (ha:nw a < 35184372088832) (hb:nw b < 35184372088832):FSpec Tryz.prog 268 [wsA a,wsA b] (wsA (a+b)):=by
  by_cases hab:nw a < nw b
  · have hL:=lok_at (c:=bodyOf Tryz.f268) (i:=6) 0 1 (by kernel_rfl) (by kernel_rfl) (toldF_sound (keep:=keepSm) (τ:=[some 0]) (sum_leads (a:=b) (b:=a) hb))
    refine gspecZ (oneZ_ok (frzK_ok 0)) e_nil (k_cons kS_ok k_nil) m_nil Tryz.func268 (by kernel_rfl) (by kernel_rfl) hL rfl ((sm_ev (nw a) (dI a) (nw b) (dI b) (nw b) (dI b) (nw a) (dI a) (nw b+1) ((cy b a (nw b):Nat):Int) (smY b a (nw b)) (nw (b+a)) (dI (b+a))).trans ?_)
    have ew:w64 (((nw b:Nat):Int)+1)=((nw b+1:Nat):Int):=w64_next (by omega)
    rw [dec_lt hab,ew,mkU_t (by omega),Int.toNat_natCast,gate_pos (s0T_sub (nw b) (dI b) (nw a) (dI a) (nw b+1)),sum_trim (a:=b) (b:=a) (by omega) hb,Nat.add_comm a b]
    rfl
  · have hL:=lok_at (c:=bodyOf Tryz.f268) (i:=6) 0 1 (by kernel_rfl) (by kernel_rfl) (toldF_sound (keep:=keepSm) (τ:=[some 0]) (sum_leads (a:=a) (b:=b) ha))
    refine gspecZ (oneZ_ok (frzK_ok 0)) e_nil (k_cons kS_ok k_nil) m_nil Tryz.func268 (by kernel_rfl) (by kernel_rfl) hL rfl ((sm_ev (nw a) (dI a) (nw b) (dI b) (nw a) (dI a) (nw b) (dI b) (nw a+1) ((cy a b (nw a):Nat):Int) (smY a b (nw a)) (nw (a+b)) (dI (a+b))).trans ?_)
    have ew:w64 (((nw a:Nat):Int)+1)=((nw a+1:Nat):Int):=w64_next (by omega)
    rw [decide_eq_false (show ¬ ((nw a:Nat):Int) < ((nw b:Nat):Int) by omega),ew,mkU_t (by omega),Int.toNat_natCast,gate_pos (s0T_sub (nw a) (dI a) (nw b) (dI b) (nw a+1)),sum_trim (a:=a) (b:=b) (by omega) ha]
    rfl
end Go.Proofs.YtancjnambbkhmaaGreat

namespace Go.Proofs.YtancjnambbkhmaaGreat
open Go.Gv
open Go.Ev (wB wB_pos wB_eq dg dg_lt vl nw cy bw nw_lt nw_ge nw_le nw_eq nw_zero top_dg dg_zero dg_add dg_sub cy_zero cy_le cy_next bw_zero bw_le bw_next pw_pos mod_next)

def fz1 (N:Nat):Bool:=(Nat.beq N N&&true)&&true
theorem fz1_t (N:Nat):fz1 N=true:=by unfold fz1; rw [Nat.beq_refl]; rfl
def dfS (n:Nat) (f:Nat→Int) (m:Nat) (g:Nat→Int) (N:Nat) (c i:Int) (Y:Nat→Int):St:=mkS 41 [(0,vS n f),(1,vS m g),(5,.osl 0 1 0 N),(6,vA c),(13,vS n f),(14,iA (n:Nat)),(15,iA i)] [.a 158 1 N fun q=>[vA (Y q)]]
def keepDf:List Nat:=[0,1,5,6,13,14,15]
section
variable (af ag:I3) (n:Nat) (f:Nat→Int) (m:Nat) (g:Nat→Int) (N:Nat) (c i:Int) (Y:Nat→Int)
def dfN (o:Int):St:=mkS 41 [(0,vS n f),(1,vS m g),(5,.osl 0 1 0 N),(6,vA (ag (f i.toNat) o c)),(13,vS n f),(14,iA (n:Nat)),(15,iA (w64 (i+1)))] [.a 158 1 N fun q=>mixL (q==0+i.toNat) [vA (af (f i.toNat) o c)] [vA (Y q)]]
theorem df_step:evC Tryz.prog [] [kIfX 275 c3 (g3 af ag)] noL (loopAt Tryz.f270 0) (dfS n f m g N c i Y) (finN keepDf [some 0])=cond (decide (i < (n:Int))) (smT n f m g N c i fun o=>some ⟨.normal,dfN af ag n f m g N c i Y o,.any⟩) none:=by kernel_rfl
theorem df_end:evC Tryz.prog [] [kIfX 275 c3 (g3 af ag)] noL (loopAt Tryz.f270 0) (dfS n f m g N c i Y) (finE keepDf [some 0])=cond (decide (i < (n:Int))) (smT n f m g N c i fun _=>none) (some ⟨.exit 0,dfS n f m g N c i Y,.any⟩):=by kernel_rfl
end
section
variable (n:Nat) (f:Nat→Int) (m:Nat) (g:Nat→Int) (c1:Int) (Y:Nat→Int) (k:Nat) (F:Nat→Int)
noncomputable def dfTail:Option Out:=cond (fz1 n) (gate (FSpec Tryz.prog 273 [.sl 1 n fun q=>[vA (Y q)]] (vS k F)) (some (Out.of (vS k F)))) none
def d0T:St:=dfS n f m g n 0 0 fun _=>0
theorem df_ev:evZ Tryz.prog [] [kS Tryz.prog 273 (fun _=>vS k F)] [] (oneL 4 (toldF keepDf [some 0] (d0T n f m g) (.exit 0) (dfS n f m g n c1 (n:Nat) Y))) (oneZ 11 (frzK 0)) Tryz.f270 [vS n f,vS m g] ret =
    cond (mkU (n:Nat)||false) (gate (Sub (dfS n f m g n 0 0 fun _=>0) (d0T n f m g)) (dfTail n Y k F)) none:=by kernel_rfl
end
def dfY (a b i q:Nat):Int:=cond (Nat.blt q i) (dI (a - b) q) 0
theorem df_leads {a b:Nat} (hab:b≤a) (hn:nw a < 35184372088832):Leads Tryz.prog (.loop (loopAt Tryz.f270 0)) (d0T (nw a) (dI a) (nw b) (dI b)) (.exit 0) (dfS (nw a) (dI a) (nw b) (dI b) (nw a) ((bw a b (nw a):Nat):Int) (nw a:Nat) (dfY a b (nw a))):=by
  have h0:d0T (nw a) (dI a) (nw b) (dI b)=dfS (nw a) (dI a) (nw b) (dI b) (nw a) ((bw a b 0:Nat):Int) ((0:Nat):Int) (dfY a b 0):=by
    unfold d0T
    rw [bw_zero]
    rfl
  rw [h0]
  refine loop_rule (fun i=>dfS (nw a) (dI a) (nw b) (dI b) (nw a) ((bw a b i:Nat):Int) (i:Nat) (dfY a b i)) (nw a) (.exit 0) _ (by simp) (fun i hi=>?_) ?_
  · have st:=df_step sbS sbC (nw a) (dI a) (nw b) (dI b) (nw a) ((bw a b i:Nat):Int) (i:Nat) (dfY a b i)
    have hc:=bw_le a b i
    have go:smT (nw a) (dI a) (nw b) (dI b) (nw a) ((bw a b i:Nat):Int) (i:Nat) (fun o=>some ⟨.normal,dfN sbS sbC (nw a) (dI a) (nw b) (dI b) (nw a) ((bw a b i:Nat):Int) (i:Nat) (dfY a b i) o,.any⟩)=some ⟨.normal,dfN sbS sbC (nw a) (dI a) (nw b) (dI b) (nw a) ((bw a b i:Nat):Int) (i:Nat) (dfY a b i) (dI b i),.any⟩:=by
      unfold smT smR
      rw [ixB_t hi,Int.toNat_natCast,stU_t hi]
      by_cases hm:i < nw b
      · rw [dec_lt hm,ixB_t hm,show c3B (dI a i) (dI b i) ((bw a b i:Nat):Int)=true from c3B_t hc]
        rfl
      · have hz:dI b i=0:=by unfold dI; rw [dg_zero (Nat.lt_of_lt_of_le (nw_lt b) (Nat.pow_le_pow_right wB_pos (by omega)))]; rfl
        rw [decide_eq_false (show ¬ ((i:Nat):Int) < ((nw b:Nat):Int) by omega),hz,show c3B (dI a i) 0 ((bw a b i:Nat):Int)=true from c3B_t (y:=0) hc]
        rfl
    rw [dec_lt hi,go,cond_true] at st
    unfold dfN at st
    have e1:sbC (dI a ((i:Nat):Int).toNat) (dI b i) ((bw a b i:Nat):Int)=((bw a b (i+1):Nat):Int):=by rw [bw_next]; rfl
    have e2:sbS (dI a ((i:Nat):Int).toNat) (dI b i) ((bw a b i:Nat):Int)=dI (a - b) i:=by unfold dI; rw [dg_sub hab]; rfl
    rw [e1,e2,w64_next (by omega)] at st
    refine (leads_ev (finN_sub keepDf [some 0]) e_nil (k_cons kSub_ok k_nil) noL_ok st).sub (Sub.refl _) ?_
    refine sub_same ⟨Or.inr ⟨158,1,nw a,_,_,rfl,rfl,fun q hq=>?_⟩,trivial⟩
    rw [mixV,Int.toNat_natCast]
    show [vA (cond (Nat.blt q (i+1)) (dI (a - b) q) 0)]=_
    rw [← put_next (Y:=dfY a b i) (i:=i) (q:=q) (x:=dI (a - b) i) (fun q hq=>by unfold dfY; rw [blt_t hq]; rfl) rfl fun q hq=>by unfold dfY; rw [bltN (by omega)]; rfl]
  · refine leads_ev (finE_sub keepDf [some 0]) e_nil (k_cons kSub_ok k_nil) noL_ok ((df_end sbS sbC (nw a) (dI a) (nw b) (dI b) (nw a) ((bw a b (nw a):Nat):Int) (nw a:Nat) (dfY a b (nw a))).trans ?_)
    rw [dec_self,cond_false]
theorem d0T_sub (n:Nat) (u:Nat→Int) (m:Nat) (v:Nat→Int):Sub (dfS n u m v n 0 0 fun _=>0) (d0T n u m v):=by unfold d0T; exact Sub.refl _
theorem df_spec {a b:Nat} (hab:b≤a) (ha:nw a < 35184372088832):FSpec Tryz.prog 270 [wsA a,wsA b] (wsA (a - b)):=by
  have hL:=lok_at (c:=bodyOf Tryz.f270) (i:=4) 0 1 (by kernel_rfl) (by kernel_rfl) (toldF_sound (keep:=keepDf) (τ:=[some 0]) (df_leads hab ha))
  refine gspecZ (oneZ_ok (frzK_ok 0)) e_nil (k_cons kS_ok k_nil) m_nil Tryz.func270 (by kernel_rfl) (by kernel_rfl) hL rfl ((df_ev (nw a) (dI a) (nw b) (dI b) ((bw a b (nw a):Nat):Int) (dfY a b (nw a)) (nw (a - b)) (dI (a - b))).trans ?_)
  have ht:FSpec Tryz.prog 273 [.sl 1 (nw a) fun q=>[vA (dfY a b (nw a) q)]] (vS (nw (a - b)) (dI (a - b))):=by
    have hlt:=nw_lt a
    refine argL (trim_spec (a - b) (n:=nw a) (by omega) (by omega)) fun q hq=>?_
    unfold dfY
    rw [blt_t hq]; rfl
  unfold dfTail
  rw [mkU_t (by omega),gate_pos (d0T_sub (nw a) (dI a) (nw b) (dI b)),fz1_t,gate_pos ht]
  rfl
def cpS (n:Nat) (f:Nat→Int) (m:Nat) (g:Nat→Int) (i:Int):St:=mkS 41 [(0,vS n f),(1,vS m g),(5,iA i)] []
def cpR (n:Nat) (f:Nat→Int) (m:Nat) (g:Nat→Int) (r i:Int):St:=mkS 41 [(0,vS n f),(1,vS m g),(4,iA r),(5,iA i)] []
section
variable (n:Nat) (f:Nat→Int) (m:Nat) (g:Nat→Int) (i:Int)
def cpIx (x:Option Out):Option Out:=cond ((ixB i n||false)&&((ixB i m||false)&&true)) x none
theorem cp_step:evC Tryz.prog [] [] noL (loopAt Tryz.f269 0) (cpS n f m g i) (finN [0,1,5] []) =
    cond (decide (i ≥ 0)) (cpIx n m i (cond (decide (f i.toNat > g i.toNat)) none (cpIx n m i (cond (decide (f i.toNat < g i.toNat)) none (some ⟨.normal,cpS n f m g (w64 (i - 1)),.any⟩))))) none:=by kernel_rfl
theorem cp_end:evC Tryz.prog [] [] noL (loopAt Tryz.f269 0) (cpS n f m g i) (finX [0,1,4,5] []) =
    cond (decide (i ≥ 0)) (cpIx n m i (cond (decide (f i.toNat > g i.toNat)) (some ⟨.ret,cpR n f m g 1 i,.any⟩) (cpIx n m i (cond (decide (f i.toNat < g i.toNat)) (some ⟨.ret,cpR n f m g (-1) i,.any⟩) none)))) (some ⟨.exit 0,cpS n f m g i,.any⟩):=by kernel_rfl
end
end Go.Proofs.YtancjnambbkhmaaGreat

namespace Go.Proofs.YtancjnambbkhmaaGreat
open Go.Gv
open Go.Ev (wB wB_pos wB_eq dg dg_lt vl nw cy bw nw_lt nw_ge nw_le nw_eq nw_zero top_dg dg_zero dg_add dg_sub cy_zero cy_le cy_next bw_zero bw_le bw_next pw_pos mod_next)

theorem div_next (a k:Nat):a / wB ^ k=wB*(a / wB ^ (k+1))+dg a k:=by
  unfold dg
  rw [Nat.pow_succ,← Nat.div_div_eq_div_mul,Nat.div_add_mod]
theorem eq_down {a b n:Nat} (ha:a < wB ^ n) (hb:b < wB ^ n):∀ d k,k+d=n→(∀ j,k≤j→j < n→dg a j=dg b j)→a / wB ^ k=b / wB ^ k
  | 0,k,hk,_=>by
    have:k=n:=by omega
    subst this
    rw [Nat.div_eq_of_lt ha,Nat.div_eq_of_lt hb]
  | d+1,k,hk,h=>by
    rw [div_next a,div_next b,eq_down ha hb d (k+1) (by omega) fun j h1 h2=>h j (by omega) h2,h k (Nat.le_refl _) (by omega)]
theorem gt_at {a b k:Nat} (h:a / wB ^ (k+1)=b / wB ^ (k+1)) (hd:dg b k < dg a k):b < a:=by
  have h1:=div_next a k
  have h2:=div_next b k
  rw [h] at h1
  rcases Nat.lt_or_ge b a with hl | hg
  · exact hl
  · have:=Nat.div_le_div_right (c:=wB ^ k) hg
    omega
def cmpI (a b:Nat):Int:=if b < a then 1 else if a < b then -1 else 0
theorem nw_mono {a b:Nat} (h:nw a < nw b):a < b:=by
  have h1:=nw_lt a
  have hb:b≠0:=fun e=>by subst e; rw [nw_zero] at h; omega
  obtain ⟨_,h2⟩:=nw_ge hb
  have:wB ^ nw a≤wB ^ (nw b - 1):=Nat.pow_le_pow_right wB_pos (by omega)
  omega
theorem cp_round {a b n t:Nat} (hn:n≤35184372088832) (ht:t < n) (h:dg a (n - 1 - t)=dg b (n - 1 - t)):Leads Tryz.prog (loopAt Tryz.f269 0) (cpS n (dI a) n (dI b) ((n:Int) - 1 - (t:Nat))) .normal (cpS n (dI a) n (dI b) ((n:Int) - 1 - ((t+1:Nat):Int))):=by
  refine leads_ev (finN_sub [0,1,5] []) e_nil k_nil noL_ok ((cp_step n (dI a) n (dI b) _).trans ?_)
  have e:(n:Int) - 1 - (t:Nat)=((n - 1 - t:Nat):Int):=by omega
  rw [show w64 ((n:Int) - 1 - (t:Nat) - 1)=(n:Int) - 1 - ((t+1:Nat):Int) by rw [w64_id (by omega) (by omega)]; omega,e]
  unfold cpIx
  have hx:n - 1 - t < n:=by omega
  rw [ixB_t hx,Int.toNat_natCast,decide_eq_true (show ((n - 1 - t:Nat):Int) ≥ 0 by omega)]
  unfold dI
  rw [h,decide_eq_false (Int.lt_irrefl _)]
  rfl
theorem cp_same {a b n:Nat} (hn:n≤35184372088832) (h:∀ t,t < n→dg a (n - 1 - t)=dg b (n - 1 - t)):Leads Tryz.prog (.loop (loopAt Tryz.f269 0)) (cpS n (dI a) n (dI b) ((n:Int) - 1)) (.exit 0) (cpS n (dI a) n (dI b) (-1)):=by
  have key:Leads Tryz.prog (.loop (loopAt Tryz.f269 0)) (cpS n (dI a) n (dI b) ((n:Int) - 1 - ((0:Nat):Int))) (.exit 0) (cpS n (dI a) n (dI b) (-1)):=by
    refine loop_rule (fun t=>cpS n (dI a) n (dI b) ((n:Int) - 1 - (t:Nat))) n (.exit 0) _ (by simp) (fun t ht=>cp_round hn ht (h t ht)) ?_
    refine leads_ev (finX_sub [0,1,4,5] []) e_nil k_nil noL_ok ((cp_end n (dI a) n (dI b) _).trans ?_)
    rw [show (n:Int) - 1 - (n:Nat)=-1 by omega]
    rfl
  rw [show (n:Int) - 1 - ((0:Nat):Int)=(n:Int) - 1 by omega] at key
  exact key
theorem cp_other {a b n K:Nat} (hn:n≤35184372088832) (hK:K < n) (hp:dg a (n - 1 - K)≠dg b (n - 1 - K)) (h:∀ t,t < K→dg a (n - 1 - t)=dg b (n - 1 - t)):Leads Tryz.prog (.loop (loopAt Tryz.f269 0)) (cpS n (dI a) n (dI b) ((n:Int) - 1)) .ret (cpR n (dI a) n (dI b) (if dg b (n - 1 - K) < dg a (n - 1 - K) then 1 else -1) ((n:Int) - 1 - (K:Nat))):=by
  have key:Leads Tryz.prog (.loop (loopAt Tryz.f269 0)) (cpS n (dI a) n (dI b) ((n:Int) - 1 - ((0:Nat):Int))) .ret (cpR n (dI a) n (dI b) (if dg b (n - 1 - K) < dg a (n - 1 - K) then 1 else -1) ((n:Int) - 1 - (K:Nat))):=by
    refine loop_rule (fun t=>cpS n (dI a) n (dI b) ((n:Int) - 1 - (t:Nat))) K .ret _ (by simp) (fun t ht=>cp_round hn (by omega) (h t ht)) ?_
    refine leads_ev (finX_sub [0,1,4,5] []) e_nil k_nil noL_ok ((cp_end n (dI a) n (dI b) _).trans ?_)
    have e:(n:Int) - 1 - (K:Nat)=((n - 1 - K:Nat):Int):=by omega
    rw [e]
    unfold cpIx
    have hx:n - 1 - K < n:=by omega
    rw [ixB_t hx,Int.toNat_natCast,decide_eq_true (show ((n - 1 - K:Nat):Int) ≥ 0 by omega)]
    unfold dI
    by_cases hc:dg b (n - 1 - K) < dg a (n - 1 - K)
    · rw [decide_eq_true (show ((dg a (n - 1 - K):Nat):Int) > ((dg b (n - 1 - K):Nat):Int) by omega),if_pos hc]
      rfl
    · rw [decide_eq_false (show ¬ ((dg a (n - 1 - K):Nat):Int) > ((dg b (n - 1 - K):Nat):Int) by omega),decide_eq_true (show ((dg a (n - 1 - K):Nat):Int) < ((dg b (n - 1 - K):Nat):Int) by omega),if_neg hc]
      rfl
  rw [show (n:Int) - 1 - ((0:Nat):Int)=(n:Int) - 1 by omega] at key
  exact key
section
variable (n:Nat) (f:Nat→Int) (m:Nat) (g:Nat→Int) (i j r:Int)
noncomputable def cpHd (x:Option Out):Option Out:=cond (!((n:Int)==(m:Int))) (cond (decide ((n:Int) > (m:Int))) (some (Out.of (iA 1))) (some (Out.of (iA (-1))))) (gate (Sub (cpS n f m g (w64 ((n:Int) - 1))) (cpS n f m g i)) x)
theorem cp_evN:ev Tryz.prog [] [] (oneL 6 fun _ _=>none) Tryz.f269 [vS n f,vS m g] ret=cond (!((n:Int)==(m:Int))) (cond (decide ((n:Int) > (m:Int))) (some (Out.of (iA 1))) (some (Out.of (iA (-1))))) none:=by kernel_rfl
theorem cp_evE:ev Tryz.prog [] [] (oneL 6 (toldF [0,1,5] [] (cpS n f m g i) (.exit 0) (cpS n f m g j))) Tryz.f269 [vS n f,vS m g] ret=cpHd n f m g i (some (Out.of (iA 0))):=by kernel_rfl
theorem cp_evR:ev Tryz.prog [] [] (oneL 6 (toldF [0,1,5] [] (cpS n f m g i) .ret (cpR n f m g r j))) Tryz.f269 [vS n f,vS m g] ret=cpHd n f m g i (some (Out.of (iA r))):=by kernel_rfl
end
theorem cmp_spec {a b:Nat} (ha:nw a < 35184372088832):FSpec Tryz.prog 269 [wsA a,wsA b] (iA (cmpI a b)):=by
  by_cases hn:nw a=nw b
  · have hb:=nw_lt b
    rw [← hn] at hb
    have ha':=nw_lt a
    have hw:w64 ((nw a:Int) - 1)=(nw a:Int) - 1:=w64_id (by omega) (by omega)
    rcases all_or_first (fun t=>dg a (nw a - 1 - t)==dg b (nw a - 1 - t)) (nw a) with hl | ⟨K,hK,hp,hq⟩
    · have hl':∀ t,t < nw a→dg a (nw a - 1 - t)=dg b (nw a - 1 - t):=fun t ht=>by simpa using hl t ht
      have e:=eq_down ha' hb (nw a) 0 (by omega) fun j _ h2=>by
        have:=hl' (nw a - 1 - j) (by omega)
        rw [show nw a - 1 - (nw a - 1 - j)=j by omega] at this
        exact this
      rw [Nat.pow_zero,Nat.div_one,Nat.div_one] at e
      have hL:=lok_at (c:=bodyOf Tryz.f269) (i:=6) 0 1 (by kernel_rfl) (by kernel_rfl) (toldF_sound (keep:=[0,1,5]) (τ:=[]) (cp_same (by omega) hl'))
      have:=gspec e_nil k_nil Tryz.func269 (by kernel_rfl) (by kernel_rfl) hL rfl (r:=iA 0) (args:=[vS (nw a) (dI a),vS (nw a) (dI b)]) ((cp_evE (nw a) (dI a) (nw a) (dI b) ((nw a:Int) - 1) (-1)).trans (by
        unfold cpHd
        rw [BEq.rfl,hw,gate_pos (Sub.refl _)]
        rfl))
      rw [wsA_eq,wsA_eq,← hn]
      unfold cmpI
      rw [if_neg (by omega),if_neg (by omega)]
      exact this
    · have hp':dg a (nw a - 1 - K)≠dg b (nw a - 1 - K):=by simpa using hp
      have hq':∀ t,t < K→dg a (nw a - 1 - t)=dg b (nw a - 1 - t):=fun t ht=>by simpa using hq t ht
      have e:=eq_down ha' hb K (nw a - 1 - K+1) (by omega) fun j h1 h2=>by
        have:=hq' (nw a - 1 - j) (by omega)
        rw [show nw a - 1 - (nw a - 1 - j)=j by omega] at this
        exact this
      have hL:=lok_at (c:=bodyOf Tryz.f269) (i:=6) 0 1 (by kernel_rfl) (by kernel_rfl) (toldF_sound (keep:=[0,1,5]) (τ:=[]) (cp_other (by omega) hK hp' hq'))
      have:=gspec e_nil k_nil Tryz.func269 (by kernel_rfl) (by kernel_rfl) hL rfl (r:=iA (if dg b (nw a - 1 - K) < dg a (nw a - 1 - K) then 1 else -1)) (args:=[vS (nw a) (dI a),vS (nw a) (dI b)]) ((cp_evR (nw a) (dI a) (nw a) (dI b) ((nw a:Int) - 1) _ _).trans (by
        unfold cpHd
        rw [BEq.rfl,hw,gate_pos (Sub.refl _)]
        rfl))
      rw [wsA_eq,wsA_eq,← hn]
      have er:cmpI a b=if dg b (nw a - 1 - K) < dg a (nw a - 1 - K) then 1 else -1:=by
        unfold cmpI
        by_cases hc:dg b (nw a - 1 - K) < dg a (nw a - 1 - K)
        · rw [if_pos hc,if_pos (gt_at e hc)]
        · have:=gt_at e.symm (show dg a (nw a - 1 - K) < dg b (nw a - 1 - K) by omega)
          rw [if_neg hc,if_neg (by omega),if_pos this]
      rw [er]
      exact this
  · refine gspec e_nil k_nil Tryz.func269 (by kernel_rfl) (by kernel_rfl) (lok_none 6) rfl ((cp_evN (nw a) (dI a) (nw b) (dI b)).trans ?_)
    rw [beq_false_of_ne (show ((nw a:Nat):Int)≠((nw b:Nat):Int) by omega)]
    unfold cmpI
    by_cases hc:nw b < nw a
    · have:=nw_mono hc
      rw [decide_eq_true (show ((nw a:Nat):Int) > ((nw b:Nat):Int) by omega),if_pos this]
      rfl
    · have:=nw_mono (show nw a < nw b by omega)
      rw [decide_eq_false (show ¬ ((nw a:Nat):Int) > ((nw b:Nat):Int) by omega),if_neg (by omega),if_pos this]
      rfl
end Go.Proofs.YtancjnambbkhmaaGreat

namespace Go.Proofs.YtancjnambbkhmaaGreat
open Go.Gv
open Go.Ev (wB wB_pos wB_eq dg dg_lt)

def w32 (x:Int):Int:=x.fdiv 4294967296
def m32 (x:Int):Int:=IntKind.u64.wrap ((BitVec.ofInt 64 x &&& BitVec.ofInt 64 4294967295).toNat:Nat)
def muT (x y:Int):Int:=IntKind.u64.wrap (IntKind.u64.wrap (w32 x*m32 y)+w32 (IntKind.u64.wrap (m32 x*m32 y)))
def muH (x y:Int):Int:=IntKind.u64.wrap (IntKind.u64.wrap (IntKind.u64.wrap (w32 x*w32 y)+w32 (muT x y))+w32 (IntKind.u64.wrap (m32 (muT x y)+IntKind.u64.wrap (m32 x*w32 y))))
theorem mul_ev (x y:Int):ev Tryz.prog [] [] noL Tryz.f276 [vA x,vA y] ret=some (Out.of (.tup [vA (muH x y),vA (IntKind.u64.wrap (x*y))])):=by kernel_rfl
theorem m32_eq (x:Nat):m32 (x:Nat)=((x % 4294967296:Nat):Int):=by
  unfold m32
  have e:(BitVec.ofInt 64 ((x:Nat):Int) &&& BitVec.ofInt 64 4294967295).toNat=x % 4294967296:=by
    rw [BitVec.toNat_and,BitVec.toNat_ofInt,BitVec.toNat_ofInt]
    have h1:(((x:Nat):Int) % ((2 ^ 64:Nat):Int)).toNat=x % 2 ^ 64:=by omega
    have h2:((4294967295:Int) % ((2 ^ 64:Nat):Int)).toNat=2 ^ 32 - 1:=by decide
    rw [h1,h2,Nat.and_two_pow_sub_one_eq_mod]
    omega
  rw [e]
  show (((x % 4294967296:Nat):Int)) % 18446744073709551616=_
  omega
theorem w32_eq (x:Nat):w32 (x:Nat)=((x / 4294967296:Nat):Int):=by
  unfold w32
  rw [Int.fdiv_eq_ediv_of_nonneg _ (by decide)]
  rfl
theorem wrap_eq (x:Nat):IntKind.u64.wrap (x:Nat)=((x % wB:Nat):Int):=rfl
theorem dm32 (u v:Nat) (h:v < 4294967296):(u*4294967296+v) / 4294967296=u∧(u*4294967296+v) % 4294967296=v:=by omega
theorem mul_num {X Y:Nat} (hx:X < wB) (hy:Y < wB):muH (X:Nat) (Y:Nat)=((X*Y / wB:Nat):Int)∧IntKind.u64.wrap ((X:Int)*(Y:Int))=((X*Y % wB:Nat):Int):=by
  refine ⟨?_,by rw [← Int.natCast_mul,wrap_eq]⟩
  unfold muH muT
  obtain ⟨a,b,ha,hb,rfl⟩:∃ a b,a < 4294967296∧b < 4294967296∧X=a*4294967296+b:=⟨X / 4294967296,X % 4294967296,by rw [wB_eq] at hx; omega,by omega,by omega⟩
  obtain ⟨c,d,hc,hd,rfl⟩:∃ c d,c < 4294967296∧d < 4294967296∧Y=c*4294967296+d:=⟨Y / 4294967296,Y % 4294967296,by rw [wB_eq] at hy; omega,by omega,by omega⟩
  clear hx hy
  have ea:=(dm32 a b hb).1
  have eb:=(dm32 a b hb).2
  have ec:=(dm32 c d hd).1
  have ed:=(dm32 c d hd).2
  rw [m32_eq,m32_eq,w32_eq,w32_eq,ea,eb,ec,ed]
  clear ea eb ec ed
  have p1:a*c≤4294967295*4294967295:=Nat.mul_le_mul (by omega) (by omega)
  have p2:a*d≤4294967295*4294967295:=Nat.mul_le_mul (by omega) (by omega)
  have p3:b*c≤4294967295*4294967295:=Nat.mul_le_mul (by omega) (by omega)
  have p4:b*d≤4294967295*4294967295:=Nat.mul_le_mul (by omega) (by omega)
  have e:(a*4294967296+b)*(c*4294967296+d)=a*c*18446744073709551616+(a*d+b*c)*4294967296+b*d:=by
    grind
  rw [e]
  rw [← Int.natCast_mul,← Int.natCast_mul,← Int.natCast_mul,← Int.natCast_mul]
  generalize a*c=P at *
  generalize a*d=Q at *
  generalize b*c=R at *
  generalize b*d=S at *
  have wr:∀ z:Nat,z < 18446744073709551616→IntKind.u64.wrap (z:Nat)=(z:Int):=fun z hz=>by rw [wrap_eq,wB_eq,Nat.mod_eq_of_lt hz]
  rw [wr P (by omega),wr Q (by omega),wr R (by omega),wr S (by omega),w32_eq,← Int.natCast_add,wr (Q+S / 4294967296) (by omega),w32_eq,m32_eq,← Int.natCast_add,← Int.natCast_add,wr (P+_) (by omega),wr (_+R) (by omega),w32_eq,← Int.natCast_add,wr _ (by omega),wB_eq]
  omega
theorem mul_spec {X Y:Nat} (hx:X < wB) (hy:Y < wB):FSpec Tryz.prog 276 [vA (X:Nat),vA (Y:Nat)] (.tup [vA ((X*Y / wB:Nat):Int),vA ((X*Y % wB:Nat):Int)]):=by
  have:=gspec e_nil k_nil Tryz.func276 (by kernel_rfl) (by kernel_rfl) noL_ok rfl (mul_ev (X:Nat) (Y:Nat))
  rw [(mul_num hx hy).1,(mul_num hx hy).2] at this
  exact this
end Go.Proofs.YtancjnambbkhmaaGreat

namespace Go.Proofs.YtancjnambbkhmaaGreat
open Go.Gv
open Go.Ev (wB wB_pos wB_eq dg dg_lt)

theorem leads_evMN {np:Nat} {l:List Entry} {ks:List KEntry} {ms:List MEntry} {L:Nat→Option LFun} {c:Code} {s s':St} {e:Exit} {k:Kont} (hk:KSubN np k) (hl:∀ e,e ∈ l→EOk Tryz.prog e) (hks:∀ e,e ∈ ks→KOk Tryz.prog e) (hms:∀ e,e ∈ ms→MEOk Tryz.prog e) (hL:LOkN np Tryz.prog L c) (h:evCM Tryz.prog l ks ms L c s k=some ⟨e,s',.any⟩):LeadsN np Tryz.prog c s e s' :=
  leads_ofKN hk (tabM_ok hl hks hms) (drawnK_ok (tabM_ok hl hks hms) (by kernel_rfl)) hL h
abbrev I2:Type:=Int→Int→Int
def g2 (mh ml:I2):List AV→AV
  | [.x (.int .u64 x),.x (.int .u64 y)]=>.tup [vA (mh x y),vA (ml x y)]
  | _=>.any
def atS (N m st:Nat) (g:Nat→Int) (w c i:Int) (Y:Nat→Int):St:=mkS 54 [(0,.view 0 1 st 0 m),(1,vS m g),(2,vA w),(7,vA c),(13,vS m g),(14,iA (m:Nat)),(15,iA i)] [.a 158 1 N fun q=>[vA (Y q)]]
def keepAt:List Nat:=[0,1,2,7,13,14,15]
section
variable (af ag:I3) (mh ml:I2) (N m st:Nat) (g:Nat→Int) (w c i:Int) (Y:Nat→Int)
def uwr (x:Int):Int:=IntKind.u64.wrap x
def atL0:Int:=ml (g i.toNat) w
def atL1:Int:=af (atL0 ml g w i) (Y (st+i.toNat)) 0
def atH1:Int:=uwr (mh (g i.toNat) w+ag (atL0 ml g w i) (Y (st+i.toNat)) 0)
def atL2:Int:=af (atL1 af ml st g w i Y) c 0
def atH2:Int:=uwr (atH1 ag mh ml st g w i Y+ag (atL1 af ml st g w i Y) c 0)
def atB:Bool:=Nat.blt (st+i.toNat) N||false
noncomputable def atT (x y:Option Out):Option Out:=cond (decide (i < (m:Int))) (cond (ixB i m||false) (gate (FSpec Tryz.prog 276 [vA (g i.toNat),vA w] (.tup [vA (mh (g i.toNat) w),vA (ml (g i.toNat) w)])) (cond (ixB i m||false) (cond (atB N st i) (cond (c3B (atL0 ml g w i) (Y (st+i.toNat)) 0) (cond (c3B (atL1 af ml st g w i Y) c 0) (cond (ixB i m||false) (cond (atB N st i) x none) none) none) none) none) none)) none) y
def atN:St:=mkS 54 [(0,.view 0 1 st 0 m),(1,vS m g),(2,vA w),(7,vA (atH2 af ag mh ml st g w c i Y)),(13,vS m g),(14,iA (m:Nat)),(15,iA (w64 (i+1)))] [.a 158 1 N fun q=>mixL (q==st+i.toNat) [vA (atL2 af ml st g w c i Y)] [vA (Y q)]]
theorem at_step:evCM Tryz.prog [] [kS Tryz.prog 276 (g2 mh ml),kIfX 274 c3 (g3 af ag)] [] noL (loopAt Tryz.f272 0) (atS N m st g w c i Y) (finN keepAt [some 0])=atT af mh ml N m st g w c i Y (some ⟨.normal,atN af ag mh ml N m st g w c i Y,.any⟩) none:=by kernel_rfl
theorem at_end:evCM Tryz.prog [] [kS Tryz.prog 276 (g2 mh ml),kIfX 274 c3 (g3 af ag)] [] noL (loopAt Tryz.f272 0) (atS N m st g w c i Y) (finE keepAt [some 0])=atT af mh ml N m st g w c i Y none (some ⟨.exit 0,atS N m st g w c i Y,.any⟩):=by kernel_rfl
theorem at_ev (c1:Int) (Y1:Nat→Int):evGW Tryz.prog [] [kS Tryz.prog 276 (g2 mh ml),kIfX 274 c3 (g3 af ag)] [] [] [] (oneL 3 (toldP 1 keepAt [some 0] (atS N m st g w 0 0 Y) (.exit 0) (atS N m st g w c1 (m:Nat) Y1))) Tryz.f272 [.view 0 1 st 0 m,vS m g,vA w] [.a 158 1 N fun q=>[vA (Y q)]] [some 0] =
    gate (SubN 1 (atS N m st g w 0 0 Y) (atS N m st g w 0 0 Y)) (gout (vA c1) [.a 158 1 N fun q=>[vA (Y1 q)]]):=by kernel_rfl
end
end Go.Proofs.YtancjnambbkhmaaGreat

namespace Go.Proofs.YtancjnambbkhmaaGreat
open Go.Gv
open Go.Ev (wB wB_pos wB_eq dg dg_lt vl pw_pos)

theorem word_le {a b:Nat} (ha:a < wB) (hb:b < wB):a*b≤340282366920938463426481119284349108225:=by
  rw [wB_eq] at ha hb
  exact Nat.le_trans (Nat.mul_le_mul (show a≤18446744073709551615 by omega) (show b≤18446744073709551615 by omega)) (by decide)
theorem at_num {p y c:Nat} (hp:p≤340282366920938463426481119284349108225) (hy:y < wB) (hc:c < wB):((p % wB+y) % wB+c) % wB=(p+y+c) % wB∧((p / wB+(p % wB+y) / wB) % wB+((p % wB+y) % wB+c) / wB) % wB=(p+y+c) / wB∧(p+y+c) / wB < wB:=by
  rw [wB_eq] at *
  omega
/-- What is added up, up to the i-th word. -/
def atN0 (y g:Nat→Nat) (w st i:Nat):Nat:=vl (fun j=>y (st+j)) i+w*vl g i
theorem atN0_next (y g:Nat→Nat) (w st i:Nat):atN0 y g w st (i+1)=atN0 y g w st i+wB ^ i*(g i*w+y (st+i)):=by
  show vl (fun j=>y (st+j)) i+wB ^ i*y (st+i)+w*(vl g i+wB ^ i*g i)=vl (fun j=>y (st+j)) i+w*vl g i+wB ^ i*(g i*w+y (st+i))
  generalize wB ^ i=Q
  grind
theorem atN0_div (y g:Nat→Nat) (w st i:Nat):atN0 y g w st (i+1) / wB ^ i=g i*w+y (st+i)+atN0 y g w st i / wB ^ i:=by
  rw [atN0_next,Nat.add_mul_div_left _ _ (pw_pos i)]
  omega
theorem atN0_div' (y g:Nat→Nat) (w st i:Nat):atN0 y g w st (i+1) / wB ^ (i+1)=(g i*w+y (st+i)+atN0 y g w st i / wB ^ i) / wB:=by
  rw [Nat.pow_succ,← Nat.div_div_eq_div_mul,atN0_div]
section
variable {y g:Nat→Nat} {w st:Nat} (hy:∀ q,y q < wB) (hg:∀ q,g q < wB) (hw:w < wB)
include hy hg hw
theorem atN0_lt:∀ i,atN0 y g w st i / wB ^ i < wB
  | 0=>by
    have:atN0 y g w st 0=0:=by unfold atN0 vl; omega
    rw [this,Nat.zero_div]
    exact wB_pos
  | i+1=>by
    rw [atN0_div']
    exact (at_num (word_le (hg i) hw) (hy _) (atN0_lt i)).2.2
end
def atRw (y g:Nat→Nat) (w st i q:Nat):Nat:=if st≤q∧q < st+i then dg (atN0 y g w st (q - st+1)) (q - st) else y q
theorem atRw_next (y g:Nat→Nat) (w st i q:Nat):(if q=st+i then dg (atN0 y g w st (i+1)) i else atRw y g w st i q)=atRw y g w st (i+1) q:=by
  unfold atRw
  by_cases h:q=st+i
  · subst h
    rw [if_pos rfl,if_pos (by omega),show st+i - st=i by omega]
  · rw [if_neg h]
    by_cases h2:st≤q∧q < st+i
    · rw [if_pos h2,if_pos (by omega)]
    · rw [if_neg h2,if_neg (by omega)]
def nI (f:Nat→Nat) (q:Nat):Int:=((f q:Nat):Int)
def muHi:I2:=fun x y=>((x.toNat*y.toNat / wB:Nat):Int)
def muLo:I2:=fun x y=>((x.toNat*y.toNat % wB:Nat):Int)
theorem mixVI (q a:Nat) (x z:Nat):mixL (q==a) [vA (x:Nat)] [vA (z:Nat)]=[vA ((if q=a then x else z:Nat):Int)]:=by
  rw [mixV]
  by_cases h:q=a
  · subst h; rw [BEq.rfl,if_pos rfl]; rfl
  · rw [beq_false_of_ne h,if_neg h]; rfl
section
variable {N m:Nat} {y g:Nat→Nat} {w st:Nat} (hm:m < 4611686018427387904) (hst:st+m≤N) (hy:∀ q,y q < wB) (hg:∀ q,g q < wB) (hw:w < wB)
include hm hst hy hg hw
theorem at_leads:LeadsN 1 Tryz.prog (.loop (loopAt Tryz.f272 0)) (atS N m st (nI g) (w:Nat) 0 0 (nI y)) (.exit 0) (atS N m st (nI g) (w:Nat) ((atN0 y g w st m / wB ^ m:Nat):Int) (m:Nat) (nI (atRw y g w st m))):=by
  have h0:atS N m st (nI g) (w:Nat) 0 0 (nI y)=atS N m st (nI g) (w:Nat) ((atN0 y g w st 0 / wB ^ 0:Nat):Int) ((0:Nat):Int) (nI (atRw y g w st 0)):=by
    have e1:atN0 y g w st 0=0:=by unfold atN0 vl; omega
    have e2:atRw y g w st 0=y:=funext fun q=>by unfold atRw; rw [if_neg (by omega)]
    rw [e1,e2,Nat.zero_div]
    rfl
  rw [h0]
  refine loop_rule (fun i=>atS N m st (nI g) (w:Nat) ((atN0 y g w st i / wB ^ i:Nat):Int) (i:Nat) (nI (atRw y g w st i))) m (.exit 0) _ (by simp) (fun i hi=>?_) ?_
  · have stp:=at_step adS adC muHi muLo N m st (nI g) (w:Nat) ((atN0 y g w st i / wB ^ i:Nat):Int) (i:Nat) (nI (atRw y g w st i))
    have hr:atRw y g w st i (st+i)=y (st+i):=by unfold atRw; rw [if_neg (by omega)]
    have hc:=atN0_lt (st:=st) hy hg hw i
    obtain ⟨n1,n2,_⟩:=at_num (word_le (hg i) hw) (hy (st+i)) hc
    rw [← atN0_div] at n1 n2
    have e0:atL0 muLo (nI g) (w:Nat) (i:Nat)=((g i*w % wB:Nat):Int):=rfl
    have eY:nI (atRw y g w st i) (st+((i:Nat):Int).toNat)=((y (st+i):Nat):Int):=by unfold nI; rw [Int.toNat_natCast,hr]
    have e1:atL1 adS muLo st (nI g) (w:Nat) (i:Nat) (nI (atRw y g w st i))=(((g i*w % wB+y (st+i)) % wB:Nat):Int):=by unfold atL1; rw [e0,eY]; rfl
    have e2:atL2 adS muLo st (nI g) (w:Nat) ((atN0 y g w st i / wB ^ i:Nat):Int) (i:Nat) (nI (atRw y g w st i))=((dg (atN0 y g w st (i+1)) i:Nat):Int):=by
      unfold atL2 dg
      rw [e1,← n1]
      rfl
    have e3:atH1 adC muHi muLo st (nI g) (w:Nat) (i:Nat) (nI (atRw y g w st i))=(((g i*w / wB+(g i*w % wB+y (st+i)) / wB) % wB:Nat):Int):=by unfold atH1; rw [e0,eY]; rfl
    have e4:atH2 adS adC muHi muLo st (nI g) (w:Nat) ((atN0 y g w st i / wB ^ i:Nat):Int) (i:Nat) (nI (atRw y g w st i))=((atN0 y g w st (i+1) / wB ^ (i+1):Nat):Int):=by
      unfold atH2
      rw [e1,e3,Nat.pow_succ,← Nat.div_div_eq_div_mul,← n2]
      rfl
    have hmul:FSpec Tryz.prog 276 [vA (nI g ((i:Nat):Int).toNat),vA (w:Nat)] (.tup [vA (muHi (nI g ((i:Nat):Int).toNat) (w:Nat)),vA (muLo (nI g ((i:Nat):Int).toNat) (w:Nat))]):=mul_spec (hg i) hw
    have hB:atB N st (i:Nat)=true:=by unfold atB; rw [Int.toNat_natCast,blt_t (by omega)]; rfl
    unfold atT at stp
    rw [dec_lt hi,ixB_t hi,gate_pos hmul,hB,e0,eY,e1,show c3B ((g i*w % wB:Nat):Int) ((y (st+i):Nat):Int) 0=true from c3B_t (k:=0) (by omega),show c3B (((g i*w % wB+y (st+i)) % wB:Nat):Int) ((atN0 y g w st i / wB ^ i:Nat):Int) 0=true from c3B_t (k:=0) (by omega)] at stp
    unfold atN at stp
    rw [e2,e4,w64_next (by omega)] at stp
    refine (leads_evMN (finN_subN _ (by rfl)) e_nil (k_cons kS_ok (k_cons kAdd_ok k_nil)) m_nil noL_okN stp).sub (SubN.refl _) ?_
    refine sub_same ⟨Or.inr ⟨158,1,N,_,_,rfl,rfl,fun q hq=>?_⟩,trivial⟩
    refine Eq.symm ?_
    show mixL (q==st+i) [vA ((dg (atN0 y g w st (i+1)) i:Nat):Int)] [vA ((atRw y g w st i q:Nat):Int)]=[vA ((atRw y g w st (i+1) q:Nat):Int)]
    rw [mixVI,atRw_next]
  · refine leads_evMN (finE_subN _ (by rfl)) e_nil (k_cons kS_ok (k_cons kAdd_ok k_nil)) m_nil noL_okN ((at_end adS adC muHi muLo N m st (nI g) (w:Nat) _ (m:Nat) _).trans ?_)
    unfold atT
    rw [dec_self,cond_false]
theorem at_spec:GSpec Tryz.prog 272 [.view 0 1 st 0 m,vS m (nI g),vA (w:Nat)] [.a 158 1 N fun q=>[vA (nI y q)]] (vA ((atN0 y g w st m / wB ^ m:Nat):Int)) [.a 158 1 N fun q=>[vA (nI (atRw y g w st m) q)]]:=by
  have hL:LOkN 1 Tryz.prog (oneL 3 (toldP 1 keepAt [some 0] (atS N m st (nI g) (w:Nat) 0 0 (nI y)) (.exit 0) (atS N m st (nI g) (w:Nat) ((atN0 y g w st m / wB ^ m:Nat):Int) (m:Nat) (nI (atRw y g w st m))))) (bodyOf Tryz.f272):=lokN_one 1 (by kernel_rfl) fun j hj _=>by
    have:j=0:=by omega
    subst this
    exact toldP_sound (by rfl) (at_leads hm hst hy hg hw)
  refine gspecGW e_nil (k_cons kS_ok (k_cons kAdd_ok k_nil)) m_nil w_nil r_nil Tryz.func272 (by kernel_rfl) (by kernel_rfl) (mem:=[.a 158 1 N fun q=>[vA (nI y q)]]) hL rfl (τ:=[some 0]) (by rfl) ((at_ev adS adC muHi muLo N m st (nI g) (w:Nat) (nI y) _ _).trans ?_)
  rw [gate_pos (SubN.refl _)]
end
end Go.Proofs.YtancjnambbkhmaaGreat

namespace Go.Proofs.YtancjnambbkhmaaGreat
open Go.Gv
open Go.Ev (wB wB_pos wB_eq dg dg_lt vl vl_dg pw_pos nw nw_lt mod_next dg_zero)

def prS (n:Nat) (f:Nat→Int) (m:Nat) (g:Nat→Int) (N:Nat) (i:Int) (Y:Nat→Int):St:=mkS 40 [(0,vS n f),(1,vS m g),(5,.osl 0 1 0 N),(14,vS n f),(15,iA (n:Nat)),(16,iA i)] [.a 158 1 N fun q=>[vA (Y q)]]
def keepPr:List Nat:=[0,1,5,14,15,16]
section
variable (n:Nat) (f:Nat→Int) (m:Nat) (g:Nat→Int) (N:Nat) (i:Int) (Y Y1:Nat→Int) (c:Int)
def prM:List Row:=[.a 158 1 N fun q=>[vA (Y q)]]
def prV:AV:=.view 0 1 (0+sbL (some i)) 0 (sbN (some i) (some (w64 (i+(m:Int)))) N)
abbrev PRok:Prop:=GSpec Tryz.prog 272 [prV m N i,vS m g,vA (f i.toNat)] (prM N Y) (vA c) (prM N Y1)
noncomputable def prT (x y:Option Out):Option Out:=cond (decide (i < (n:Int))) (cond (ixB i n||false) (cond (sbB (some i) (some (w64 (i+(m:Int)))) none N||false) (cond (propB (PRok f m g N i Y Y1 c)) (cond (ixB (w64 (i+(m:Int))) N||false) (cond (stU (w64 (i+(m:Int))).toNat N) x none) none) none) none) none) y
def prN:St:=mkS 40 [(0,vS n f),(1,vS m g),(5,.osl 0 1 0 N),(14,vS n f),(15,iA (n:Nat)),(16,iA (w64 (i+1)))] [.a 158 1 N fun q=>mixL (q==0+(w64 (i+(m:Int))).toNat) [vA c] [vA (Y1 q)]]
theorem pr_step:evCW Tryz.prog [] [] [] [wS Tryz.prog 272 (fun _ _=>vA c) (fun _ _=>prM N Y1)] [] noL (loopAt Tryz.f267 0) (prS n f m g N i Y) (finN keepPr [some 0])=prT n f m g N i Y Y1 c (some ⟨.normal,prN n f m g N i Y1 c,.any⟩) none:=by kernel_rfl
theorem pr_end:evCW Tryz.prog [] [] [] [wS Tryz.prog 272 (fun _ _=>vA c) (fun _ _=>prM N Y1)] [] noL (loopAt Tryz.f267 0) (prS n f m g N i Y) (finE keepPr [some 0])=prT n f m g N i Y Y1 c none (some ⟨.exit 0,prS n f m g N i Y,.any⟩):=by kernel_rfl
end
section
variable (n:Nat) (f:Nat→Int) (m:Nat) (g:Nat→Int) (N:Nat) (Y:Nat→Int) (k:Nat) (F:Nat→Int)
def p0T:St:=prS n f m g N 0 fun _=>0
noncomputable def prTail:Option Out:=cond (fz1 N) (gate (FSpec Tryz.prog 273 [.sl 1 N fun q=>[vA (Y q)]] (vS k F)) (some (Out.of (vS k F)))) none
theorem pr_ev:evZ Tryz.prog [] [kS Tryz.prog 273 (fun _=>vS k F)] [] (oneL 3 (toldF keepPr [some 0] (p0T n f m g N) (.exit 0) (prS n f m g N (n:Nat) Y))) (oneZ 7 (frzK 0)) Tryz.f267 [vS n f,vS m g] ret =
    cond (mkU (w64 ((n:Int)+(m:Int)))||false) (gate (Sub (prS n f m g (w64 ((n:Int)+(m:Int))).toNat 0 fun _=>0) (p0T n f m g N)) (prTail N Y k F)) none:=by kernel_rfl
end
end Go.Proofs.YtancjnambbkhmaaGreat

namespace Go.Proofs.YtancjnambbkhmaaGreat
open Go.Gv
open Go.Ev (wB wB_pos wB_eq dg dg_lt vl vl_dg pw_pos nw nw_lt mod_next dg_zero)

theorem dg_low {i q:Nat} (h:q < i) (x k:Nat):dg (x+wB ^ i*k) q=dg x q:=by
  obtain ⟨r,rfl⟩:∃ r,i=q+1+r:=⟨i - q - 1,by omega⟩
  unfold dg
  have e:wB ^ (q+1+r)*k=wB ^ q*(wB*(wB ^ r*k)):=by
    rw [Nat.pow_add,Nat.pow_succ]; simp only [Nat.mul_assoc]
  rw [e,Nat.add_mul_div_left _ _ (pw_pos q),Nat.add_mul_mod_self_left]
theorem dg_hi (x i j:Nat):dg x (i+j)=dg (x / wB ^ i) j:=by
  unfold dg
  rw [Nat.div_div_eq_div_mul,← Nat.pow_add]
theorem atN0_add (y g:Nat→Nat) (w st j:Nat):∀ k,∃ z,atN0 y g w st (j+k)=atN0 y g w st j+wB ^ j*z
  | 0=>⟨0,by rw [Nat.mul_zero]; rfl⟩
  | k+1=>by
    obtain ⟨z,hz⟩:=atN0_add y g w st j k
    refine ⟨z+wB ^ k*(g (j+k)*w+y (st+(j+k))),?_⟩
    rw [← Nat.add_assoc,atN0_next,hz,Nat.pow_add]
    generalize g (j+k)*w+y (st+(j+k))=u
    rw [Nat.mul_add,Nat.mul_assoc,Nat.add_assoc]
theorem atN0_dg (y g:Nat→Nat) (w st:Nat) {j m:Nat} (h:j < m):dg (atN0 y g w st (j+1)) j=dg (atN0 y g w st m) j:=by
  obtain ⟨k,rfl⟩:∃ k,m=j+1+k:=⟨m - (j+1),by omega⟩
  obtain ⟨z,hz⟩:=atN0_add y g w st (j+1) k
  rw [hz,dg_low (by omega)]
/-- What is there after i words of a. -/
def pX (a b i:Nat):Nat:=a % wB ^ i*b
theorem pX_next (a b i:Nat):pX a b (i+1)=pX a b i+wB ^ i*(dg a i*b):=by
  unfold pX
  rw [mod_next,Nat.add_mul,Nat.mul_assoc]
theorem pX_lt (a b i:Nat):pX a b i < wB ^ (i+nw b):=by
  unfold pX
  have h1:=Nat.mod_lt a (pw_pos i)
  have h2:=nw_lt b
  rw [Nat.pow_add]
  rcases Nat.eq_zero_or_pos b with h | h
  · subst h
    rw [Nat.mul_zero]
    exact Nat.mul_pos (pw_pos _) (pw_pos _)
  · exact Nat.lt_of_lt_of_le ((Nat.mul_lt_mul_right h).2 h1) (Nat.mul_le_mul_left _ (by omega))
theorem p_T (a b i:Nat):atN0 (dg (pX a b i)) (dg b) (dg a i) i (nw b)=pX a b (i+1) / wB ^ i:=by
  have h1:vl (fun j=>dg (pX a b i) (i+j)) (nw b)=pX a b i / wB ^ i:=by
    rw [show (fun j=>dg (pX a b i) (i+j))=dg (pX a b i / wB ^ i) from funext fun j=>dg_hi _ _ _,vl_dg,Nat.mod_eq_of_lt]
    rw [Nat.div_lt_iff_lt_mul (pw_pos i),← Nat.pow_add,Nat.add_comm]
    exact pX_lt a b i
  have h2:vl (dg b) (nw b)=b:=by rw [vl_dg,Nat.mod_eq_of_lt (nw_lt b)]
  unfold atN0
  rw [h1,h2,pX_next,Nat.add_mul_div_left _ _ (pw_pos i)]
theorem p_row (a b i q:Nat):(if q=i+nw b then pX a b (i+1) / wB ^ i / wB ^ nw b else atRw (dg (pX a b i)) (dg b) (dg a i) i (nw b) q)=dg (pX a b (i+1)) q:=by
  by_cases h:q=i+nw b
  · subst h
    rw [if_pos rfl,dg_hi]
    show _=pX a b (i+1) / wB ^ i / wB ^ nw b % wB
    rw [Nat.mod_eq_of_lt]
    rw [Nat.div_div_eq_div_mul,Nat.div_lt_iff_lt_mul (Nat.mul_pos (pw_pos _) (pw_pos _)),← Nat.pow_add,Nat.mul_comm,← Nat.pow_succ]
    have:=pX_lt a b (i+1)
    rw [show i+1+nw b=(i+nw b).succ by omega] at this
    exact this
  · rw [if_neg h]
    unfold atRw
    by_cases h2:i≤q∧q < i+nw b
    · rw [if_pos h2,atN0_dg (m:=nw b) _ _ _ _ (by omega),p_T,← dg_hi,show i+(q - i)=q by omega]
    · rw [if_neg h2]
      by_cases h3:q < i
      · rw [pX_next,dg_low h3]
      · rw [dg_zero (Nat.lt_of_lt_of_le (pX_lt a b i) (Nat.pow_le_pow_right wB_pos (by omega))),dg_zero (Nat.lt_of_lt_of_le (pX_lt a b (i+1)) (Nat.pow_le_pow_right wB_pos (by omega)))]
theorem pr_leads {a b:Nat} (hN:nw a+nw b≤35184372088832):Leads Tryz.prog (.loop (loopAt Tryz.f267 0)) (p0T (nw a) (dI a) (nw b) (dI b) (nw a+nw b)) (.exit 0) (prS (nw a) (dI a) (nw b) (dI b) (nw a+nw b) (nw a:Nat) (dI (pX a b (nw a)))):=by
  have h0:p0T (nw a) (dI a) (nw b) (dI b) (nw a+nw b)=prS (nw a) (dI a) (nw b) (dI b) (nw a+nw b) ((0:Nat):Int) (dI (pX a b 0)):=by
    have e:pX a b 0=0:=by unfold pX; rw [Nat.pow_zero,Nat.mod_one,Nat.zero_mul]
    have e2:dI 0=fun _=>0:=funext fun q=>by unfold dI; rw [dg_zero (pw_pos q)]; rfl
    rw [e,e2]
    rfl
  rw [h0]
  refine loop_rule (fun i=>prS (nw a) (dI a) (nw b) (dI b) (nw a+nw b) (i:Nat) (dI (pX a b i))) (nw a) (.exit 0) _ (by simp) (fun i hi=>?_) ?_
  · have stp:=pr_step (nw a) (dI a) (nw b) (dI b) (nw a+nw b) (i:Nat) (dI (pX a b i)) (nI (atRw (dg (pX a b i)) (dg b) (dg a i) i (nw b))) ((atN0 (dg (pX a b i)) (dg b) (dg a i) i (nw b) / wB ^ nw b:Nat):Int)
    have ew:w64 (((i:Nat):Int)+((nw b:Nat):Int))=((i+nw b:Nat):Int):=by rw [w64_id (by omega) (by omega)]; omega
    have ev:prV (nw b) (nw a+nw b) (i:Nat)=.view 0 1 i 0 (nw b):=by
      unfold prV
      rw [ew]
      unfold sbL sbN
      simp only [Option.getD_some,Int.toNat_natCast]
      rw [Nat.zero_add,show (((i+nw b:Nat):Int) - ((i:Nat):Int)).toNat=nw b by omega]
    have hP:PRok (dI a) (nw b) (dI b) (nw a+nw b) (i:Nat) (dI (pX a b i)) (nI (atRw (dg (pX a b i)) (dg b) (dg a i) i (nw b))) ((atN0 (dg (pX a b i)) (dg b) (dg a i) i (nw b) / wB ^ nw b:Nat):Int):=by
      unfold PRok
      rw [ev]
      exact at_spec (by omega) (by omega) (fun q=>dg_lt _ _) (fun q=>dg_lt _ _) (dg_lt _ _)
    have s1:sbB (some ((i:Nat):Int)) (some ((i+nw b:Nat):Int)) none (nw a+nw b)=true:=by
      unfold sbB
      simp only [Option.getD_some,Option.getD_none]
      rw [decide_eq_true (show (0:Int)≤((i:Nat):Int) by omega),decide_eq_true (show ((i:Nat):Int)≤((i+nw b:Nat):Int) by omega),decide_eq_true (show ((i+nw b:Nat):Int)≤((nw a+nw b:Nat):Int) by omega),decide_eq_true (Int.le_refl _)]
      rfl
    unfold prT at stp
    rw [dec_lt hi,ixB_t hi,propB_t hP,ew,s1,ixB_t (show i+nw b < nw a+nw b by omega),Int.toNat_natCast,stU_t (show i+nw b < nw a+nw b by omega)] at stp
    unfold prN at stp
    rw [ew,w64_next (by omega)] at stp
    refine (leads_evW e_nil k_nil m_nil (w_cons wS_ok w_nil) r_nil (finN_sub _ _) noL_ok stp).sub (Sub.refl _) ?_
    refine sub_same ⟨Or.inr ⟨158,1,nw a+nw b,_,_,rfl,rfl,fun q hq=>?_⟩,trivial⟩
    refine Eq.symm ?_
    rw [Int.toNat_natCast,Nat.zero_add,p_T]
    show mixL (q==i+nw b) [vA ((pX a b (i+1) / wB ^ i / wB ^ nw b:Nat):Int)] [vA ((atRw (dg (pX a b i)) (dg b) (dg a i) i (nw b) q:Nat):Int)]=[vA ((dg (pX a b (i+1)) q:Nat):Int)]
    rw [mixVI,p_row]
  · refine leads_evW e_nil k_nil m_nil (w_cons wS_ok w_nil) r_nil (finE_sub _ _) noL_ok ((pr_end (nw a) (dI a) (nw b) (dI b) (nw a+nw b) (nw a:Nat) (dI (pX a b (nw a))) (fun _=>0) 0).trans ?_)
    unfold prT
    rw [dec_self,cond_false]
theorem p0T_sub (n:Nat) (u:Nat→Int) (m:Nat) (v:Nat→Int) (N:Nat):Sub (prS n u m v N 0 fun _=>0) (p0T n u m v N):=by unfold p0T; exact Sub.refl _
theorem pr_spec {a b:Nat} (hN:nw a+nw b≤35184372088832):FSpec Tryz.prog 267 [wsA a,wsA b] (wsA (a*b)):=by
  have hL:=lok_at (c:=bodyOf Tryz.f267) (i:=3) 0 1 (by kernel_rfl) (by kernel_rfl) (toldF_sound (keep:=keepPr) (τ:=[some 0]) (pr_leads hN))
  refine gspecZ (oneZ_ok (frzK_ok 0)) e_nil (k_cons kS_ok k_nil) m_nil Tryz.func267 (by kernel_rfl) (by kernel_rfl) hL rfl ((pr_ev (nw a) (dI a) (nw b) (dI b) (nw a+nw b) (dI (pX a b (nw a))) (nw (a*b)) (dI (a*b))).trans ?_)
  have e:pX a b (nw a)=a*b:=by unfold pX; rw [Nat.mod_eq_of_lt (nw_lt a)]
  have hlt:=pX_lt a b (nw a)
  rw [e] at hlt
  have ht:FSpec Tryz.prog 273 [.sl 1 (nw a+nw b) fun q=>[vA (dI (a*b) q)]] (vS (nw (a*b)) (dI (a*b))):=trim_spec (a*b) hN hlt
  have ew:w64 (((nw a:Nat):Int)+((nw b:Nat):Int))=((nw a+nw b:Nat):Int):=by rw [w64_id (by omega) (by omega)]; omega
  unfold prTail
  rw [ew,mkU_t hN,Int.toNat_natCast,gate_pos (p0T_sub (nw a) (dI a) (nw b) (dI b) (nw a+nw b)),fz1_t,e,gate_pos ht]
  rfl
end Go.Proofs.YtancjnambbkhmaaGreat

namespace Go.Proofs.YtancjnambbkhmaaGreat
open Go.Gv
open Go.Ev (wB wB_pos wB_eq dg dg_lt vl vl_dg pw_pos nw nw_lt mod_next dg_zero)

/-- A whole number. -/
def wA (x:Int):AV:=.agg [iA x.sign,wsA x.natAbs]
/-- What a value says. -/
def u64V:List AV→Nat
  | [.x (.int _ z)]=>z.toNat
  | _=>0
def decS:AV→Nat
  | .sl _ n el=>vl (fun i=>u64V (el i)) n
  | _=>0
theorem decS_ws (a:Nat):decS (wsA a)=a:=by
  show vl (fun i=>(((dg a i:Nat):Int)).toNat) (nw a)=a
  simp only [Int.toNat_natCast]
  exact (vl_dg a (nw a)).trans (Nat.mod_eq_of_lt (nw_lt a))
def decW:AV→Int
  | .agg [.x (.int _ s),a]=>s*(decS a:Nat)
  | _=>0
theorem decW_w (x:Int):decW (wA x)=x:=by
  show x.sign*((decS (wsA x.natAbs):Nat):Int)=x
  rw [decS_ws,Int.sign_mul_natAbs]
def a0 (l:List AV):AV:=l.getD 0 .any
def a1 (l:List AV):AV:=l.getD 1 .any
def smG (l:List AV):AV:=wsA (decS (a0 l)+decS (a1 l))
def dfG (l:List AV):AV:=wsA (decS (a0 l) - decS (a1 l))
def prG (l:List AV):AV:=wsA (decS (a0 l)*decS (a1 l))
def cpG (cf:Nat→Nat→Int) (l:List AV):AV:=iA (cf (decS (a0 l)) (decS (a1 l)))
def w0:AV:=.agg [iA 0,.x (.slice none 0 0)]
section
variable (x y:Int)
def nX:AV:=wsA x.natAbs
theorem mi_ev:ev Tryz.prog [] [] noL Tryz.f261 [wA x] ret=some (Out.of (.agg [iA (w64 (0 - x.sign)),nX x])):=by kernel_rfl
theorem ti_ev:ev Tryz.prog [] [kS Tryz.prog 267 prG] noL Tryz.f259 [wA x,wA y] ret =
    cond (cond (x.sign==0) true (y.sign==0)) (some (Out.of w0)) (gate (FSpec Tryz.prog 267 [nX x,nX y] (prG [nX x,nX y])) (some (Out.of (.agg [iA (w64 (x.sign*y.sign)),prG [nX x,nX y]])))):=by kernel_rfl
noncomputable def plT (cf:Nat→Nat→Int):Option Out:=gate (FSpec Tryz.prog 269 [nX x,nX y] (cpG cf [nX x,nX y])) (cond (cf (decS (nX x)) (decS (nX y))==1) (gate (FSpec Tryz.prog 270 [nX x,nX y] (dfG [nX x,nX y])) (some (Out.of (.agg [iA x.sign,dfG [nX x,nX y]]))))
    (cond (cf (decS (nX x)) (decS (nX y))==-1) (gate (FSpec Tryz.prog 270 [nX y,nX x] (dfG [nX y,nX x])) (some (Out.of (.agg [iA y.sign,dfG [nX y,nX x]])))) (some (Out.of w0))))
theorem pl_ev (cf:Nat→Nat→Int):ev Tryz.prog [] [kS Tryz.prog 268 smG,kS Tryz.prog 269 (cpG cf),kS Tryz.prog 270 dfG] noL Tryz.f260 [wA x,wA y] ret =
    cond (x.sign==0) (some (Out.of (wA y))) (cond (y.sign==0) (some (Out.of (wA x))) (cond (x.sign==y.sign) (gate (FSpec Tryz.prog 268 [nX x,nX y] (smG [nX x,nX y])) (some (Out.of (.agg [iA x.sign,smG [nX x,nX y]])))) (plT x y cf))):=by kernel_rfl
end
end Go.Proofs.YtancjnambbkhmaaGreat

namespace Go.Proofs.YtancjnambbkhmaaGreat
open Go.Gv
open Go.Ev (wB wB_pos wB_eq dg dg_lt vl vl_dg pw_pos nw nw_lt nw_eq mod_next dg_zero)

/-- Few enough words. -/
def Sm (x:Int):Prop:=nw x.natAbs < 17592186044416
theorem w0_like {E:Env} {v:Value} (h:rel E w0 v):rel E (wA 0) v:=by
  obtain ⟨vs,h1,h2⟩:=rel_agg.1 h
  refine rel_agg.2 ⟨vs,h1,?_⟩
  obtain ⟨u0,t0,e0,r0,h2⟩:=rels_cons.1 h2
  obtain ⟨u1,t1,e1,r1,h2⟩:=rels_cons.1 h2
  exact rels_cons.2 ⟨u0,t0,e0,r0,rels_cons.2 ⟨u1,t1,e1,nil_like r1,h2⟩⟩
theorem sign_cases (x:Int):(x < 0∧x.sign=-1)∨(x=0∧x.sign=0)∨(0 < x∧x.sign=1):=by
  rcases Int.lt_trichotomy x 0 with h | h | h
  · exact Or.inl ⟨h,Int.sign_eq_neg_one_of_neg h⟩
  · exact Or.inr (Or.inl ⟨h,by rw [h]; rfl⟩)
  · exact Or.inr (Or.inr ⟨h,Int.sign_eq_one_of_pos h⟩)
theorem mi_spec (x:Int):FSpec Tryz.prog 261 [wA x] (wA (-x)):=by
  refine gspec e_nil k_nil Tryz.func261 (by kernel_rfl) (by kernel_rfl) noL_ok rfl ((mi_ev x).trans ?_)
  have e:w64 (0 - x.sign)=(-x).sign:=by rcases sign_cases x with ⟨_,h⟩ | ⟨_,h⟩ | ⟨_,h⟩<;>rw [Int.sign_neg,h]<;>rfl
  unfold wA nX
  rw [e,Int.natAbs_neg]
theorem ti_spec {x y:Int} (hx:Sm x) (hy:Sm y):FSpec Tryz.prog 259 [wA x,wA y] (wA (x*y)):=by
  unfold Sm at hx hy
  by_cases hz:x=0∨y=0
  · have e:x*y=0:=by rcases hz with h | h<;>subst h<;>simp
    rw [e]
    refine FSpec.of_res (gspec e_nil (k_cons kS_ok k_nil) Tryz.func259 (by kernel_rfl) (by kernel_rfl) noL_ok rfl ((ti_ev x y).trans ?_)) fun _ _=>w0_like
    have:cond (x.sign==0) true (y.sign==0)=true:=by
      rcases hz with h | h<;>subst h
      · rfl
      · cases x.sign==0<;>rfl
    rw [this]
    rfl
  · have hx0:x≠0:=fun h=>hz (Or.inl h)
    have hy0:y≠0:=fun h=>hz (Or.inr h)
    refine gspec e_nil (k_cons kS_ok k_nil) Tryz.func259 (by kernel_rfl) (by kernel_rfl) noL_ok rfl ((ti_ev x y).trans ?_)
    have s1:(x.sign==0)=false:=beq_false_of_ne fun h=>hx0 (Int.sign_eq_zero_iff_zero.1 h)
    have s2:(y.sign==0)=false:=beq_false_of_ne fun h=>hy0 (Int.sign_eq_zero_iff_zero.1 h)
    have e:prG [nX x,nX y]=wsA (x*y).natAbs:=by
      show wsA (decS (wsA x.natAbs)*decS (wsA y.natAbs))=_
      rw [decS_ws,decS_ws,Int.natAbs_mul]
    have hp:FSpec Tryz.prog 267 [nX x,nX y] (wsA (x*y).natAbs):=by
      rw [Int.natAbs_mul]
      exact pr_spec (by omega)
    have es:w64 (x.sign*y.sign)=(x*y).sign:=by
      rw [Int.sign_mul]
      rcases sign_cases x with ⟨_,h⟩ | ⟨_,h⟩ | ⟨_,h⟩<;>rcases sign_cases y with ⟨_,h'⟩ | ⟨_,h'⟩ | ⟨_,h'⟩<;>rw [h,h']<;>rfl
    rw [s1,s2,e,gate_pos hp,es]
    rfl
theorem pl_spec {x y:Int} (hx:Sm x) (hy:Sm y):FSpec Tryz.prog 260 [wA x,wA y] (wA (x+y)):=by
  unfold Sm at hx hy
  have ks:∀ e,e ∈ [kS Tryz.prog 268 smG,kS Tryz.prog 269 (cpG cmpI),kS Tryz.prog 270 dfG]→KOk Tryz.prog e:=k_cons kS_ok (k_cons kS_ok (k_cons kS_ok k_nil))
  have d1:decS (nX x)=x.natAbs:=decS_ws _
  have d2:decS (nX y)=y.natAbs:=decS_ws _
  have eS:smG [nX x,nX y]=wsA (x.natAbs+y.natAbs):=by
    show wsA (decS (nX x)+decS (nX y))=_
    rw [d1,d2]
  have eD:dfG [nX x,nX y]=wsA (x.natAbs - y.natAbs):=by
    show wsA (decS (nX x) - decS (nX y))=_
    rw [d1,d2]
  have eD':dfG [nX y,nX x]=wsA (y.natAbs - x.natAbs):=by
    show wsA (decS (nX y) - decS (nX x))=_
    rw [d1,d2]
  have eC:cpG cmpI [nX x,nX y]=iA (cmpI x.natAbs y.natAbs):=by
    show iA (cmpI (decS (nX x)) (decS (nX y)))=_
    rw [d1,d2]
  have hS:FSpec Tryz.prog 268 [nX x,nX y] (wsA (x.natAbs+y.natAbs)):=sum_spec (by omega) (by omega)
  have hC:FSpec Tryz.prog 269 [nX x,nX y] (iA (cmpI x.natAbs y.natAbs)):=cmp_spec (by omega)
  by_cases hx0:x=0
  · subst hx0
    refine gspec e_nil ks Tryz.func260 (by kernel_rfl) (by kernel_rfl) noL_ok rfl ((pl_ev 0 y cmpI).trans ?_)
    rw [Int.zero_add]
    rfl
  have s1:(x.sign==0)=false:=beq_false_of_ne fun h=>hx0 (Int.sign_eq_zero_iff_zero.1 h)
  by_cases hy0:y=0
  · subst hy0
    refine gspec e_nil ks Tryz.func260 (by kernel_rfl) (by kernel_rfl) noL_ok rfl ((pl_ev x 0 cmpI).trans ?_)
    rw [Int.add_zero,s1]
    rfl
  have s2:(y.sign==0)=false:=beq_false_of_ne fun h=>hy0 (Int.sign_eq_zero_iff_zero.1 h)
  by_cases hs:x.sign=y.sign
  · refine gspec e_nil ks Tryz.func260 (by kernel_rfl) (by kernel_rfl) noL_ok rfl ((pl_ev x y cmpI).trans ?_)
    have e1:(x+y).sign=x.sign∧(x+y).natAbs=x.natAbs+y.natAbs:=by
      rcases sign_cases x with ⟨h1,h⟩ | ⟨h1,h⟩ | ⟨h1,h⟩<;>rcases sign_cases y with ⟨h1',h'⟩ | ⟨h1',h'⟩ | ⟨h1',h'⟩<;>rcases sign_cases (x+y) with ⟨h1'',h''⟩ | ⟨h1'',h''⟩ | ⟨h1'',h''⟩<;>rw [h,h'] at hs<;>omega
    rw [s1,s2,hs,BEq.rfl,eS,gate_pos hS]
    unfold wA
    rw [e1.1,e1.2,hs]
    rfl
  · have s3:(x.sign==y.sign)=false:=beq_false_of_ne hs
    rcases Nat.lt_trichotomy x.natAbs y.natAbs with hl | he | hg
    · refine gspec e_nil ks Tryz.func260 (by kernel_rfl) (by kernel_rfl) noL_ok rfl ((pl_ev x y cmpI).trans ?_)
      have hD:FSpec Tryz.prog 270 [nX y,nX x] (wsA (y.natAbs - x.natAbs)):=df_spec (by omega) (by omega)
      have hc:cmpI x.natAbs y.natAbs=-1:=by unfold cmpI; rw [if_neg (by omega),if_pos hl]
      have e1:(x+y).sign=y.sign∧(x+y).natAbs=y.natAbs - x.natAbs:=by
        rcases sign_cases x with ⟨h1,h⟩ | ⟨h1,h⟩ | ⟨h1,h⟩<;>rcases sign_cases y with ⟨h1',h'⟩ | ⟨h1',h'⟩ | ⟨h1',h'⟩<;>rcases sign_cases (x+y) with ⟨h1'',h''⟩ | ⟨h1'',h''⟩ | ⟨h1'',h''⟩<;>rw [h,h'] at hs<;>omega
      unfold plT
      rw [s1,s2,s3,eC,gate_pos hC,d1,d2,hc,eD',gate_pos hD]
      unfold wA
      rw [e1.1,e1.2]
      rfl
    · have e0:x+y=0:=by rcases sign_cases x with ⟨h1,h⟩ | ⟨h1,h⟩ | ⟨h1,h⟩<;>rcases sign_cases y with ⟨h1',h'⟩ | ⟨h1',h'⟩ | ⟨h1',h'⟩<;>rw [h,h'] at hs<;>omega
      rw [e0]
      refine FSpec.of_res (gspec e_nil ks Tryz.func260 (by kernel_rfl) (by kernel_rfl) noL_ok rfl ((pl_ev x y cmpI).trans ?_)) fun _ _=>w0_like
      have hc:cmpI x.natAbs y.natAbs=0:=by unfold cmpI; rw [if_neg (by omega),if_neg (by omega)]
      unfold plT
      rw [s1,s2,s3,eC,gate_pos hC,d1,d2,hc]
      rfl
    · refine gspec e_nil ks Tryz.func260 (by kernel_rfl) (by kernel_rfl) noL_ok rfl ((pl_ev x y cmpI).trans ?_)
      have hD:FSpec Tryz.prog 270 [nX x,nX y] (wsA (x.natAbs - y.natAbs)):=df_spec (by omega) (by omega)
      have hc:cmpI x.natAbs y.natAbs=1:=by unfold cmpI; rw [if_pos hg]
      have e1:(x+y).sign=x.sign∧(x+y).natAbs=x.natAbs - y.natAbs:=by
        rcases sign_cases x with ⟨h1,h⟩ | ⟨h1,h⟩ | ⟨h1,h⟩<;>rcases sign_cases y with ⟨h1',h'⟩ | ⟨h1',h'⟩ | ⟨h1',h'⟩<;>rcases sign_cases (x+y) with ⟨h1'',h''⟩ | ⟨h1'',h''⟩ | ⟨h1'',h''⟩<;>rw [h,h'] at hs<;>omega
      unfold plT
      rw [s1,s2,s3,eC,gate_pos hC,d1,d2,hc,eD,gate_pos hD]
      unfold wA
      rw [e1.1,e1.2]
      rfl
def woC (z:Int) (i:Nat):List AV:=chunk [vA z] 1 (0+i)
theorem wo_ev (x:Int):ev Tryz.prog [] [] noL Tryz.f258 [iA x] ret =
    cond (decide (x < 0)) (some (Out.of (.agg [iA (-1),.sl 1 1 (woC (IntKind.u64.wrap (0 - IntKind.u64.wrap x)))]))) (cond (decide (x > 0)) (some (Out.of (.agg [iA 1,.sl 1 1 (woC (IntKind.u64.wrap x))]))) (some (Out.of w0))):=by kernel_rfl
theorem one_like {E:Env} {v:Value} {s:Int} {z:Nat} (h0:z≠0) (hz:z < wB) (h:rel E (.agg [iA s,.sl 1 1 (woC (z:Nat))]) v):rel E (.agg [iA s,wsA z]) v:=by
  have hn:nw z=1:=nw_eq (by rw [Nat.pow_one]; exact hz) (Or.inr (by rw [Nat.sub_self,Nat.pow_zero]; omega))
  obtain ⟨vs,h1,h2⟩:=rel_agg.1 h
  refine rel_agg.2 ⟨vs,h1,?_⟩
  obtain ⟨u0,t0,e0,r0,h2⟩:=rels_cons.1 h2
  obtain ⟨u1,t1,e1,r1,h2⟩:=rels_cons.1 h2
  refine rels_cons.2 ⟨u0,t0,e0,r0,rels_cons.2 ⟨u1,t1,e1,?_,h2⟩⟩
  unfold wsA
  rw [hn]
  refine sl_like r1 fun i hi=>?_
  have:i=0:=by omega
  subst this
  show [vA ((dg z 0:Nat):Int)]=[vA ((z:Nat):Int)]
  have:dg z 0=z:=by unfold dg; rw [Nat.pow_zero,Nat.div_one,Nat.mod_eq_of_lt hz]
  rw [this]
theorem wo_spec {x:Int} (h0:-9223372036854775808≤x) (h1:x≤9223372036854775807):FSpec Tryz.prog 258 [iA x] (wA x):=by
  have wr:∀ z:Int,IntKind.u64.wrap z=z % 18446744073709551616:=fun _=>rfl
  rcases sign_cases x with ⟨h,hs⟩ | ⟨h,hs⟩ | ⟨h,hs⟩
  · have e:IntKind.u64.wrap (0 - IntKind.u64.wrap x)=((x.natAbs:Nat):Int):=by rw [wr,wr]; omega
    unfold wA
    rw [hs]
    refine FSpec.of_res (gspec e_nil k_nil Tryz.func258 (by kernel_rfl) (by kernel_rfl) noL_ok rfl ((wo_ev x).trans ?_)) fun _ _=>one_like (z:=x.natAbs) (by omega) (by rw [wB_eq]; omega)
    rw [decide_eq_true h,e]
    rfl
  · subst h
    exact FSpec.of_res (gspec e_nil k_nil Tryz.func258 (by kernel_rfl) (by kernel_rfl) noL_ok rfl (wo_ev 0)) fun _ _=>w0_like
  · have e:IntKind.u64.wrap x=((x.natAbs:Nat):Int):=by rw [wr]; omega
    unfold wA
    rw [hs]
    refine FSpec.of_res (gspec e_nil k_nil Tryz.func258 (by kernel_rfl) (by kernel_rfl) noL_ok rfl ((wo_ev x).trans ?_)) fun _ _=>one_like (z:=x.natAbs) (by omega) (by rw [wB_eq]; omega)
    rw [decide_eq_false (show ¬ x < 0 by omega),decide_eq_true h,e]
    rfl
end Go.Proofs.YtancjnambbkhmaaGreat

namespace Go.Gv
open Go.RowKit Go.Ev

/-- Rows that say no more, element by element. -/
def RowLike (row row':Row):Prop:=row'=row∨(∃ e sz n el el',row=.a e sz n el∧row'=.a e sz n el'∧∀ i,i < n→(el' i).length=(el i).length∧∀ (E:Env) (cs:List Value),pre E (el i) cs→pre E (el' i) cs)∨∃ l l',row=.c l∧row'=.c l'∧∀ (E:Env) (cs:List Value),pre E l cs→pre E l' cs
def RowsLike:List Row→List Row→Prop
  | [],[]=>True
  | r::rs,r'::rs'=>RowLike r r'∧RowsLike rs rs'
  | _,_=>False
theorem RowsLike.get:∀ {rs rs':List Row},RowsLike rs rs'→∀ k:Nat,(rs[k]?=none∧rs'[k]?=none)∨∃ r r',rs[k]?=some r∧rs'[k]?=some r'∧RowLike r r'
  | [],[],_,k=>Or.inl ⟨by simp,by simp⟩
  | r::rs,r'::rs',h,k=>by
    cases k with
    | zero=>exact Or.inr ⟨r,r',rfl,rfl,h.1⟩
    | succ k=>simpa using RowsLike.get h.2 k
  | [],_::_,h,_=>h.elim
  | _::_,[],h,_=>h.elim
theorem sub_like {np:Nat} {sl:List (AV × Chain)} {mem mem':List Row} (h:RowsLike mem mem'):SubN np ⟨sl,mem⟩ ⟨sl,mem'⟩:=by
  intro A0 R w0 E a hp0 hI
  have lives:∀ k,liveAt mem' k=liveAt mem k:=fun k=>by
    unfold liveAt
    rcases h.get k with ⟨h1,h2⟩ | ⟨r,r',h1,h2,h3⟩
    · rw [h1,h2]
    · rw [h1,h2]
      rcases h3 with rfl | ⟨e,sz,n,el,el',rfl,rfl,_⟩ | ⟨l,l',rfl,rfl,_⟩<;>rfl
  refine ⟨E,rfl,hI.defers,hI.frame,⟨fun k b c hb=>?_,hI.wd.small,hI.wd.old,fun k b c hb hl=>hI.wd.own k b c hb (by rw [← lives]; exact hl),fun k k' b c c' hb hb' hl hl'=>hI.wd.one k k' b c c' hb hb' (by rw [← lives]; exact hl) (by rw [← lives]; exact hl'),hI.wd.below,hI.wd.le0⟩⟩
  obtain ⟨row,h1,h2⟩:=hI.wd.rows k b c hb
  rcases h.get k with ⟨g1,_⟩ | ⟨r,r',g1,g2,g3⟩
  · have:mem[k]?=some row:=h1
    rw [g1] at this; cases this
  · have:mem[k]?=some row:=h1
    rw [g1] at this
    cases this
    refine ⟨r',g2,?_⟩
    rcases g3 with rfl | ⟨e,sz,n,el,el',rfl,rfl,g4⟩ | ⟨l,l',rfl,rfl,g4⟩
    · exact h2
    · obtain ⟨cs,k1,k2,k3,k4,k5,k6⟩:=h2
      exact ⟨cs,k1,k2,k3,k4,k5,fun i hi=>⟨(g4 i hi).1.trans (k6 i hi).1,(g4 i hi).2 _ _ (k6 i hi).2⟩⟩
    · obtain ⟨cs,e,k1,k2⟩:=h2
      exact ⟨cs,e,k1,g4 _ _ k2⟩
end Go.Gv

namespace Go.Proofs.YtancjnambbkhmaaGreat
open Go.Gv
open Go.Ev (wB wB_pos wB_eq dg dg_lt vl vl_dg pw_pos nw nw_lt nw_eq mod_next dg_zero)

/-- The cells of a whole number; a polynomial. -/
def wC (x:Int):List AV:=[iA x.sign,wsA x.natAbs]
def pA (n:Nat) (f:Nat→Int):AV:=.sl 2 n fun i=>wC (f i)
theorem mixW (b:Bool) (x y:Int):mixL b (wC x) (wC y)=wC (cond b x y):=by
  unfold wC iA wsA sW uw
  cases b<;>simp only [mixL,mixA,decide_true,cond_true,cond_false,Nat.beq_refl]
/-- How many are left without the noughts at the end. -/
def tl (f:Nat→Int):Nat→Nat
  | 0=>0
  | n+1=>if f n=0 then tl f n else n+1
theorem tl_le (f:Nat→Int):∀ n,tl f n≤n
  | 0=>Nat.le_refl _
  | n+1=>by
    unfold tl
    split
    · exact Nat.le_trans (tl_le f n) (by omega)
    · exact Nat.le_refl _
theorem tl_zero (f:Nat→Int):∀ n i,tl f n≤i→i < n→f i=0
  | 0,i,_,h=>by omega
  | n + 1,i,h1,h2=>by
    unfold tl at h1
    by_cases h:f n=0
    · rw [if_pos h] at h1
      by_cases e:i=n
      · rw [e]; exact h
      · exact tl_zero f n i h1 (by omega)
    · rw [if_neg h] at h1; omega
theorem tl_top (f:Nat→Int):∀ n,tl f n≠0→f (tl f n - 1)≠0
  | 0,h=>absurd rfl h
  | n+1,h=>by
    unfold tl at h ⊢
    by_cases h0:f n=0
    · rw [if_pos h0] at h ⊢; exact tl_top f n h
    · rw [if_neg h0]; exact h0
def poS (n:Nat) (f:Nat→Int):St:=mkS 22 [(0,pA n f)] []
section
variable (n:Nat) (f:Nat→Int)
def poB:Bool:=cond (decide ((n:Int) > 0)) ((f (w64 ((n:Int) - 1)).toNat).sign==0) false
theorem po_step:evC Tryz.prog [] [] noL (loopAt Tryz.f254 0) (poS n f) (finN [0] []) =
    cond (gTr (decide ((n:Int) > 0)) (w64 ((n:Int) - 1)) n) (cond (poB n f) (cond (sbB none (some (w64 ((n:Int) - 1))) none n||false) (some ⟨.normal,mkS 22 [(0,.sl 2 (sbN none (some (w64 ((n:Int) - 1))) n) fun i=>wC (f (sbL none+i)))] [],.any⟩) none) none) none:=by kernel_rfl
theorem po_end:evC Tryz.prog [] [] noL (loopAt Tryz.f254 0) (poS n f) (finE [0] []) =
    cond (gTr (decide ((n:Int) > 0)) (w64 ((n:Int) - 1)) n) (cond (poB n f) (cond (sbB none (some (w64 ((n:Int) - 1))) none n||false) none none) (some ⟨.exit 0,poS n f,.any⟩)) none:=by kernel_rfl
theorem po_ev (m:Nat):ev Tryz.prog [] [] (oneL 1 (toldF [0] [] (poS n f) (.exit 0) (poS m f))) Tryz.f254 [pA n f] ret=gate (Sub (poS n f) (poS n f)) (some (Out.of (pA m f))):=by kernel_rfl
end
theorem gTr_t {m n:Nat} (hn:n≤35184372088832) (hm:m≤n):gTr (decide ((m:Int) > 0)) (w64 ((m:Int) - 1)) m=true:=by
  unfold gTr
  by_cases h:m=0
  · subst h; rfl
  · obtain ⟨j,rfl⟩:∃ j,m=j+1:=⟨m - 1,by omega⟩
    rw [show w64 (((j+1:Nat):Int) - 1)=((j:Nat):Int) by rw [w64_id (by omega) (by omega)]; omega,ixB_t (by omega)]
    rfl
theorem po_leads (f:Nat→Int) {N:Nat} (hn:N≤35184372088832):∀ n,n≤N→Leads Tryz.prog (.loop (loopAt Tryz.f254 0)) (poS n f) (.exit 0) (poS (tl f n) f):=fun n hN=>by
  have hle:=tl_le f n
  have key:Leads Tryz.prog (.loop (loopAt Tryz.f254 0)) (poS (n - 0) f) (.exit 0) (poS (tl f n) f):=by
    refine loop_rule (fun j=>poS (n - j) f) (n - tl f n) (.exit 0) _ (by simp) (fun j hj=>?_) ?_
    · obtain ⟨m,hm⟩:∃ m,n - j=m+1:=⟨n - j - 1,by omega⟩
      have e1:n - (j+1)=m:=by omega
      rw [hm,e1]
      have ew:w64 (((m+1:Nat):Int) - 1)=((m:Nat):Int):=by rw [w64_id (by omega) (by omega)]; omega
      have hz:f m=0:=tl_zero f n m (by omega) (by omega)
      have st:=po_step (m+1) f
      have hb:poB (m+1) f=true:=by
        unfold poB
        rw [decide_eq_true (show ((m+1:Nat):Int) > 0 by omega),ew,Int.toNat_natCast,hz]
        rfl
      have s1:sbB none (some ((m:Nat):Int)) none (m+1)=true:=by
        unfold sbB
        simp only [Option.getD_some,Option.getD_none]
        rw [decide_eq_true (Int.le_refl _),decide_eq_true (show (0:Int)≤((m:Nat):Int) by omega),decide_eq_true (show ((m:Nat):Int)≤((m+1:Nat):Int) by omega),decide_eq_true (Int.le_refl _)]
        rfl
      have s2:sbN none (some ((m:Nat):Int)) (m+1)=m:=by
        unfold sbN
        simp only [Option.getD_some,Option.getD_none]
        omega
      have s3:(fun i=>wC (f (sbL none+i)))=fun i=>wC (f i):=funext fun i=>by
        show wC (f (0+i))=_
        rw [Nat.zero_add]
      rw [gTr_t hn (by omega),hb,ew,s1,s2,s3] at st
      exact leads_ev (finN_sub [0] []) e_nil k_nil noL_ok st
    · rw [show n - (n - tl f n)=tl f n by omega]
      refine leads_ev (finE_sub [0] []) e_nil k_nil noL_ok ((po_end (tl f n) f).trans ?_)
      have hb:poB (tl f n) f=false:=by
        unfold poB
        by_cases h:tl f n=0
        · rw [h]; rfl
        · have:=tl_top f n h
          rw [decide_eq_true (show ((tl f n:Nat):Int) > 0 by omega),show w64 ((tl f n:Int) - 1)=((tl f n - 1:Nat):Int) by rw [w64_id (by omega) (by omega)]; omega,Int.toNat_natCast,cond_true]
          exact beq_false_of_ne fun h=>this (Int.sign_eq_zero_iff_zero.1 h)
      rw [gTr_t hn (show tl f n≤N by omega),hb]
      rfl
  exact key
theorem po_spec (f:Nat→Int) {n:Nat} (hn:n≤35184372088832):FSpec Tryz.prog 254 [pA n f] (pA (tl f n) f):=by
  refine gspec e_nil k_nil Tryz.func254 (by kernel_rfl) (by kernel_rfl) (lok_at 0 1 (by kernel_rfl) (by kernel_rfl) (toldF_sound (po_leads f hn n (Nat.le_refl _)))) rfl ((po_ev n f (tl f n)).trans ?_)
  rw [gate_pos (Sub.refl _)]
def sJ (n:Nat) (u:Nat→Int):AV:=.sl 1 n fun i=>[iA (u i)]
def wz:List AV:=[iA 0,.x (.slice none 0 0)]
def whS (n:Nat) (u:Nat→Int) (i:Int) (Y:Nat→List AV):St:=mkS 23 [(0,sJ n u),(3,.osl 0 2 0 n),(9,sJ n u),(10,iA (n:Nat)),(11,iA i)] [.a 257 2 n Y]
def keepWh:List Nat:=[0,3,9,10,11]
def mk32 (n:Int):Bool:=decide (0≤n)&&(decide (n≤n)&&decide (((32:Nat):Int)*n≤281474976710656))
def decI:AV→Int
  | .x (.int _ z)=>z
  | _=>0
def woG (l:List AV):AV:=wA (decI (a0 l))
section
variable (n:Nat) (u:Nat→Int) (i:Int) (y:Nat→Int)
noncomputable def whT (x z:Option Out):Option Out:=cond (decide (i < (n:Int))) (cond (ixB i n||false) (gate (FSpec Tryz.prog 258 [iA (u i.toNat)] (wA (u i.toNat))) (cond (ixB i n||false) (cond (stU i.toNat n) x none) none)) none) z
theorem wh_step:evC Tryz.prog [] [kS Tryz.prog 258 woG] noL (loopAt Tryz.f255 0) (whS n u i fun q=>wC (y q)) (finN keepWh [some 0])=whT n u i (some ⟨.normal,whS n u (w64 (i+1)) fun q=>mixL (q==0+i.toNat) (wC (u i.toNat)) (wC (y q)),.any⟩) none:=by kernel_rfl
theorem wh_end:evC Tryz.prog [] [kS Tryz.prog 258 woG] noL (loopAt Tryz.f255 0) (whS n u i fun q=>wC (y q)) (finE keepWh [some 0])=whT n u i none (some ⟨.exit 0,whS n u i fun q=>wC (y q),.any⟩):=by kernel_rfl
theorem wh_ev:ev Tryz.prog [] [⟨258,fun _ _=>none⟩] (oneL 3 (toldF keepWh [some 0] (whS n u 0 fun _=>wC 0) (.exit 0) (whS n u (n:Nat) fun q=>wC (y q)))) Tryz.f255 [sJ n u] ret =
    cond (mk32 (n:Nat)||false) (gate (Sub (whS n u 0 fun _=>wz) (whS n u 0 fun _=>wC 0)) (some (Out.of (.sl 2 n fun j=>wC (y (0+j)))))) none:=by kernel_rfl
end
end Go.Proofs.YtancjnambbkhmaaGreat

namespace Go.Proofs.YtancjnambbkhmaaGreat
open Go.Gv

theorem wz_like:(wC 0).length=wz.length∧∀ (E:Env) (cs:List Value),pre E wz cs→pre E (wC 0) cs:=⟨rfl,fun E cs h=>by
  obtain ⟨u0,t0,e0,r0,h⟩:=pre_cons.1 h
  obtain ⟨u1,t1,e1,r1,h⟩:=pre_cons.1 h
  exact pre_cons.2 ⟨u0,t0,e0,r0,pre_cons.2 ⟨u1,t1,e1,nil_like r1,h⟩⟩⟩
theorem wz_sub {sl:List (AV × Chain)} {e:TypeId} {n:Nat}:Sub ⟨sl,[.a e 2 n fun _=>wz]⟩ ⟨sl,[.a e 2 n fun _=>wC 0]⟩ :=
  sub_like ⟨Or.inr (Or.inl ⟨e,2,n,_,_,rfl,rfl,fun _ _=>wz_like⟩),trivial⟩
theorem mk32_t {n:Nat} (h:n≤8796093022208):mk32 (n:Nat)=true:=by
  unfold mk32
  rw [decide_eq_true (show (0:Int)≤(n:Int) by omega),decide_eq_true (Int.le_refl _),decide_eq_true (show ((32:Nat):Int)*(n:Int)≤281474976710656 by omega)]
  rfl
def upTo (z:Nat→Int) (i q:Nat):Int:=if q < i then z q else 0
theorem upTo_next (z:Nat→Int) (i q:Nat):(cond (q==0+i) (z i) (upTo z i q))=upTo z (i+1) q:=by
  unfold upTo
  rw [Nat.zero_add]
  by_cases h:q=i
  · subst h; rw [BEq.rfl,cond_true,if_pos (Nat.lt_succ_self q)]
  · rw [beq_false_of_ne h]
    by_cases h2:q < i
    · rw [if_pos h2,if_pos (by omega)]; rfl
    · rw [if_neg h2,if_neg (by omega)]; rfl
theorem upTo_zero (z:Nat→Int):(fun q=>wC (upTo z 0 q))=fun _=>wC 0:=funext fun q=>by unfold upTo; rw [if_neg (by omega)]
theorem wh_leads {n:Nat} {u:Nat→Int} (hn:n≤8796093022208) (hu:∀ i,i < n→-9223372036854775808≤u i∧u i≤9223372036854775807):Leads Tryz.prog (.loop (loopAt Tryz.f255 0)) (whS n u 0 fun _=>wC 0) (.exit 0) (whS n u (n:Nat) fun q=>wC (upTo u n q)):=by
  have key:Leads Tryz.prog (.loop (loopAt Tryz.f255 0)) (whS n u ((0:Nat):Int) fun q=>wC (upTo u 0 q)) (.exit 0) (whS n u (n:Nat) fun q=>wC (upTo u n q)):=by
    refine loop_rule (fun i=>whS n u (i:Nat) fun q=>wC (upTo u i q)) n (.exit 0) _ (by simp) (fun i hi=>?_) ?_
    · have st:=wh_step n u (i:Nat) (upTo u i)
      unfold whT at st
      rw [dec_lt hi,ixB_t hi,Int.toNat_natCast,gate_pos (wo_spec (hu i hi).1 (hu i hi).2),stU_t hi,w64_next (by omega)] at st
      refine (leads_ev (finN_sub _ _) e_nil (k_cons kS_ok k_nil) noL_ok st).sub (Sub.refl _) ?_
      refine sub_same ⟨Or.inr ⟨257,2,n,_,_,rfl,rfl,fun q hq=>?_⟩,trivial⟩
      rw [mixW,upTo_next]
    · refine leads_ev (finE_sub _ _) e_nil (k_cons kS_ok k_nil) noL_ok ((wh_end n u (n:Nat) (upTo u n)).trans ?_)
      unfold whT
      rw [dec_self,cond_false]
  rw [upTo_zero] at key
  exact key
theorem wh_spec {n:Nat} {u:Nat→Int} (hn:n≤8796093022208) (hu:∀ i,i < n→-9223372036854775808≤u i∧u i≤9223372036854775807):FSpec Tryz.prog 255 [sJ n u] (pA n u):=by
  refine FSpec.of_res (r:=.sl 2 n fun j=>wC (upTo u n (0+j))) (gspec e_nil (k_cons (kno_ok _) k_nil) Tryz.func255 (by kernel_rfl) (by kernel_rfl) (lok_at (i:=3) 0 1 (by kernel_rfl) (by kernel_rfl) (toldF_sound (keep:=keepWh) (τ:=[some 0]) (wh_leads hn hu))) rfl ((wh_ev n u (upTo u n)).trans ?_)) fun E v h=>sl_like h fun i hi=>?_
  · rw [mk32_t hn,gate_pos (show Sub (whS n u 0 fun _=>wz) (whS n u 0 fun _=>wC 0) from wz_sub)]
    rfl
  · show wC (u i)=wC (upTo u n (0+i))
    unfold upTo
    rw [Nat.zero_add,if_pos hi]
def ppS (n:Nat) (f:Nat→Int) (m:Nat) (g:Nat→Int) (N:Nat) (i:Int) (Y:Nat→List AV):St:=mkS 42 [(0,pA n f),(1,pA m g),(5,.osl 0 2 0 N),(18,pA n f),(19,iA (n:Nat)),(20,iA i)] [.a 257 2 N Y]
def keepPp:List Nat:=[0,1,5,18,19,20]
def plG (l:List AV):AV:=wA (decW (a0 l)+decW (a1 l))
def tiG (l:List AV):AV:=wA (decW (a0 l)*decW (a1 l))
section
variable (n:Nat) (f:Nat→Int) (m:Nat) (g:Nat→Int) (N:Nat) (i:Int) (y:Nat→Int)
def ppV:Int:=decW (wA (f i.toNat))+decW (wA (g i.toNat))
noncomputable def ppT (x1 x2 z:Option Out):Option Out:=cond (decide (i < (n:Int))) (cond (ixB i n||false) (cond (decide (i < (m:Int))) (gate (FSpec Tryz.prog 260 [wA (f i.toNat),wA (g i.toNat)] (wA (ppV f g i))) (cond ((ixB i m||false)&&true) (cond (ixB i N||false) (cond (stU i.toNat N) x1 none) none) none)) (cond (ixB i N||false) (cond (stU i.toNat N) x2 none) none)) none) z
def ppN (v:Int):Option Out:=some ⟨.normal,ppS n f m g N (w64 (i+1)) fun q=>mixL (q==0+i.toNat) (wC v) (wC (y q)),.any⟩
theorem pp_step:evC Tryz.prog [] [kS Tryz.prog 260 plG] noL (loopAt Tryz.f257 0) (ppS n f m g N i fun q=>wC (y q)) (finN keepPp [some 0])=ppT n f m g N i (ppN n f m g N i y (ppV f g i)) (ppN n f m g N i y (f i.toNat)) none:=by kernel_rfl
theorem pp_end:evC Tryz.prog [] [kS Tryz.prog 260 plG] noL (loopAt Tryz.f257 0) (ppS n f m g N i fun q=>wC (y q)) (finE keepPp [some 0])=ppT n f m g N i none none (some ⟨.exit 0,ppS n f m g N i fun q=>wC (y q),.any⟩):=by kernel_rfl
variable (k:Nat)
noncomputable def ppTail:Option Out:=cond (fz1 n) (gate (FSpec Tryz.prog 254 [.sl 2 n fun q=>wC (y q)] (pA k y)) (some (Out.of (pA k y)))) none
noncomputable def ppH (n0:Nat) (f0:Nat→Int) (m0:Nat) (g0:Nat→Int) (x:Option Out):Option Out:=cond (mk32 (n:Nat)||false) (gate (Sub (ppS n f m g n 0 fun _=>wz) (ppS n0 f0 m0 g0 n0 0 fun _=>wC 0)) x) none
theorem pp_ev (n0:Nat) (f0:Nat→Int) (m0:Nat) (g0:Nat→Int):evZ Tryz.prog [] [kS Tryz.prog 254 (fun _=>pA k y),⟨260,fun _ _=>none⟩] [] (oneL 5 (toldF keepPp [some 0] (ppS n0 f0 m0 g0 n0 0 fun _=>wC 0) (.exit 0) (ppS n0 f0 m0 g0 n0 (n0:Nat) fun q=>wC (y q)))) (oneZ 11 (frzK 0)) Tryz.f257 [pA n f,pA m g] ret =
    cond (decide ((n:Int) < (m:Int))) (ppH m g n f n0 f0 m0 g0 (ppTail n0 y k)) (ppH n f m g n0 f0 m0 g0 (ppTail n0 y k)):=by kernel_rfl
end
end Go.Proofs.YtancjnambbkhmaaGreat

namespace Go.Proofs.YtancjnambbkhmaaGreat
open Go.Gv

/-- Nothing beyond the n-th. -/
def Cn (n:Nat) (f:Nat→Int):Prop:=∀ i,n≤i→f i=0
theorem Cn.upTo {n:Nat} {f:Nat→Int} (h:Cn n f):upTo f n=f:=funext fun q=>by
  unfold Proofs.YtancjnambbkhmaaGreat.upTo
  by_cases hq:q < n
  · rw [if_pos hq]
  · rw [if_neg hq,h q (by omega)]
theorem tl_Cn {n:Nat} {f:Nat→Int} (h:Cn n f):Cn (tl f n) f:=fun i hi=>by
  by_cases hn:i < n
  · exact tl_zero f n i hi hn
  · exact h i (by omega)
theorem tl_congr {f g:Nat→Int}:∀ {n:Nat},(∀ i,i < n→f i=g i)→tl f n=tl g n
  | 0,_=>rfl
  | n+1,h=>by unfold tl; rw [h n (by omega),tl_congr fun i hi=>h i (by omega)]
theorem tl_more {f:Nat→Int} {n:Nat} (h:Cn n f):∀ k,tl f (n+k)=tl f n
  | 0=>rfl
  | k+1=>by
    show (if f (n+k)=0 then tl f (n+k) else n+k+1)=_
    rw [if_pos (h (n+k) (by omega)),tl_more h k]
def padd (f g:Nat→Int) (q:Nat):Int:=f q+g q
theorem padd_comm (f g:Nat→Int):padd f g=padd g f:=funext fun _=>Int.add_comm _ _
theorem pp_leads {n m:Nat} {f g:Nat→Int} (hnm:m≤n) (hn:n≤8796093022208) (hf:Cn n f) (hg:Cn m g) (sf:∀ i,Sm (f i)) (sg:∀ i,Sm (g i)):Leads Tryz.prog (.loop (loopAt Tryz.f257 0)) (ppS n f m g n 0 fun _=>wC 0) (.exit 0) (ppS n f m g n (n:Nat) fun q=>wC (padd f g q)):=by
  have hc:Cn n (padd f g):=fun i hi=>by unfold padd; rw [hf i hi,hg i (by omega)]; rfl
  have key:Leads Tryz.prog (.loop (loopAt Tryz.f257 0)) (ppS n f m g n ((0:Nat):Int) fun q=>wC (upTo (padd f g) 0 q)) (.exit 0) (ppS n f m g n (n:Nat) fun q=>wC (upTo (padd f g) n q)):=by
    refine loop_rule (fun i=>ppS n f m g n (i:Nat) fun q=>wC (upTo (padd f g) i q)) n (.exit 0) _ (by simp) (fun i hi=>?_) ?_
    · have st:=pp_step n f m g n (i:Nat) (upTo (padd f g) i)
      have ev:ppV f g (i:Nat)=padd f g i:=by unfold ppV padd; rw [decW_w,decW_w]; rfl
      have go:ppT n f m g n (i:Nat) (ppN n f m g n (i:Nat) (upTo (padd f g) i) (ppV f g (i:Nat))) (ppN n f m g n (i:Nat) (upTo (padd f g) i) (f ((i:Nat):Int).toNat)) none=ppN n f m g n (i:Nat) (upTo (padd f g) i) (padd f g i):=by
        unfold ppT
        rw [dec_lt hi,ixB_t hi,Int.toNat_natCast,stU_t hi,ev]
        by_cases hm:i < m
        · rw [dec_lt hm,ixB_t hm,gate_pos (show FSpec Tryz.prog 260 [wA (f i),wA (g i)] (wA (padd f g i)) from pl_spec (sf i) (sg i))]
          rfl
        · rw [decide_eq_false (show ¬ ((i:Nat):Int) < ((m:Nat):Int) by omega),show f i=padd f g i by unfold padd; rw [hg i (by omega),Int.add_zero]]
          rfl
      rw [go] at st
      unfold ppN at st
      rw [Int.toNat_natCast,w64_next (by omega)] at st
      refine (leads_ev (finN_sub _ _) e_nil (k_cons kS_ok k_nil) noL_ok st).sub (Sub.refl _) ?_
      refine sub_same ⟨Or.inr ⟨257,2,n,_,_,rfl,rfl,fun q hq=>?_⟩,trivial⟩
      rw [mixW,upTo_next]
    · refine leads_ev (finE_sub _ _) e_nil (k_cons kS_ok k_nil) noL_ok ((pp_end n f m g n (n:Nat) (upTo (padd f g) n)).trans ?_)
      unfold ppT
      rw [dec_self,cond_false]
  rw [upTo_zero,hc.upTo] at key
  exact key
theorem pp_go {n m n0 m0:Nat} {f g f0 g0:Nat→Int} (hnm:m0≤n0) (hn:n0≤8796093022208) (hf:Cn n0 f0) (hg:Cn m0 g0) (sf:∀ i,Sm (f0 i)) (sg:∀ i,Sm (g0 i))
    (h:(n < m∧n0=m∧f0=g∧m0=n∧g0=f)∨(¬ n < m∧n0=n∧f0=f∧m0=m∧g0=g)):FSpec Tryz.prog 257 [pA n f,pA m g] (pA (tl (padd f0 g0) n0) (padd f0 g0)):=by
  have hL:=lok_at (c:=bodyOf Tryz.f257) (i:=5) 0 1 (by kernel_rfl) (by kernel_rfl) (toldF_sound (keep:=keepPp) (τ:=[some 0]) (pp_leads hnm hn hf hg sf sg))
  refine gspecZ (oneZ_ok (frzK_ok 0)) e_nil (k_cons kS_ok (k_cons (kno_ok _) k_nil)) m_nil Tryz.func257 (by kernel_rfl) (by kernel_rfl) hL rfl ((pp_ev n f m g (padd f0 g0) (tl (padd f0 g0) n0) n0 f0 m0 g0).trans ?_)
  have ht:ppTail n0 (padd f0 g0) (tl (padd f0 g0) n0)=some (Out.of (pA (tl (padd f0 g0) n0) (padd f0 g0))):=by
    unfold ppTail
    rw [fz1_t,gate_pos (show FSpec Tryz.prog 254 [.sl 2 n0 fun q=>wC (padd f0 g0 q)] _ from po_spec (padd f0 g0) (by omega))]
    rfl
  have hs:∀ (a:Nat) (u:Nat→Int) (b:Nat) (v:Nat→Int),Sub (ppS a u b v a 0 fun _=>wz) (ppS a u b v a 0 fun _=>wC 0):=fun a u b v=>wz_sub
  rcases h with ⟨h,rfl,rfl,rfl,rfl⟩ | ⟨h,rfl,rfl,rfl,rfl⟩
  · rw [dec_lt h,ht]
    unfold ppH
    rw [mk32_t hn,gate_pos (hs _ _ _ _)]
    rfl
  · rw [decide_eq_false (show ¬ ((n0:Nat):Int) < ((m0:Nat):Int) by omega),ht]
    unfold ppH
    rw [mk32_t hn,gate_pos (hs _ _ _ _)]
    rfl
theorem pp_spec {n m:Nat} {f g:Nat→Int} (hn:n≤8796093022208) (hm:m≤8796093022208) (hf:Cn n f) (hg:Cn m g) (sf:∀ i,Sm (f i)) (sg:∀ i,Sm (g i)):FSpec Tryz.prog 257 [pA n f,pA m g] (pA (tl (padd f g) (max n m)) (padd f g)):=by
  by_cases h:n < m
  · have:=pp_go (n:=n) (m:=m) (f:=f) (g:=g) (Nat.le_of_lt h) hm hg hf sg sf (Or.inl ⟨h,rfl,rfl,rfl,rfl⟩)
    rw [Nat.max_eq_right (Nat.le_of_lt h),padd_comm f g]
    exact this
  · have:=pp_go (n:=n) (m:=m) (f:=f) (g:=g) (by omega) hn hf hg sf sg (Or.inr ⟨h,rfl,rfl,rfl,rfl⟩)
    rw [Nat.max_eq_left (by omega)]
    exact this
end Go.Proofs.YtancjnambbkhmaaGreat

namespace Go.Proofs.YtancjnambbkhmaaGreat
open Go.Gv

def saS (n:Nat) (f:Nat→Int) (x:Int) (i:Int) (c:List AV):St:=mkS 24 [(0,pA n f),(3,.own 0 0),(5,.own 1 0),(6,iA i)] [.c (wC x),.c c]
def keepSa:List Nat:=[0,3,5,6]
section
variable (n:Nat) (f:Nat→Int) (x v i:Int)
def saV1:Int:=decW (wA v)*decW (wA x)
def saV2:Int:=decW (wA (saV1 x v))+decW (wA (f i.toNat))
noncomputable def saT (y z:Option Out):Option Out:=cond (decide (i ≥ 0)) (gate (FSpec Tryz.prog 259 [wA v,wA x] (wA (saV1 x v))) (gate (FSpec Tryz.prog 260 [wA (saV1 x v),wA (f i.toNat)] (wA (saV2 f x v i))) (cond ((ixB i n||false)&&true) y none))) z
theorem sa_step:evC Tryz.prog [] [kS Tryz.prog 259 tiG,kS Tryz.prog 260 plG] noL (loopAt Tryz.f271 0) (saS n f x i (wC v)) (finN keepSa [some 0,some 1])=saT n f x v i (some ⟨.normal,saS n f x (w64 (i - 1)) (wC (saV2 f x v i)),.any⟩) none:=by kernel_rfl
theorem sa_end:evC Tryz.prog [] [kS Tryz.prog 259 tiG,kS Tryz.prog 260 plG] noL (loopAt Tryz.f271 0) (saS n f x i (wC v)) (finE keepSa [some 0,some 1])=saT n f x v i none (some ⟨.exit 0,saS n f x i (wC v),.any⟩):=by kernel_rfl
theorem sa_ev (j:Int):ev Tryz.prog [] [⟨259,fun _ _=>none⟩] (oneL 3 (toldF keepSa [some 0,some 1] (saS n f x i (wC 0)) (.exit 0) (saS n f x j (wC v)))) Tryz.f271 [pA n f,wA x] ret =
    gate (Sub (saS n f x (w64 ((n:Int) - 1)) wz) (saS n f x i (wC 0))) (some (Out.of (iA v.sign))):=by kernel_rfl
end
def slS (n:Nat) (f:Nat→Int) (i:Int) (m:Nat) (Y:Nat→List AV):St:=mkS 24 [(3,.osl 0 2 0 m),(6,pA n f),(7,iA (n:Nat)),(8,iA i)] [.a 257 2 m Y]
def keepSl:List Nat:=[3,6,7,8]
section
variable (n:Nat) (f:Nat→Int) (i:Int) (m:Nat) (y:Nat→Int)
def slV:Int:=decW (wA (f i.toNat))*decW (wA i)
theorem sl_step0:evC Tryz.prog [] [kS Tryz.prog 259 tiG,kS Tryz.prog 258 woG] noL (loopAt Tryz.f262 0) (slS n f 0 m fun q=>wC (y q)) (finN keepSl [some 0])=cond (decide ((0:Int) < (n:Int))) (cond (ixB 0 n||false) (some ⟨.normal,slS n f 1 m fun q=>wC (y q),.any⟩) none) none:=by kernel_rfl
noncomputable def slT (a z:Option Out):Option Out:=cond (decide (i < (n:Int))) (cond (ixB i n||false) (cond (decide (i > 0)) (gate (FSpec Tryz.prog 258 [iA i] (wA i)) (gate (FSpec Tryz.prog 259 [wA (f i.toNat),wA i] (wA (slV f i))) (cond ((apB m 32||false)&&true) a none))) none) none) z
theorem sl_step:evC Tryz.prog [] [kS Tryz.prog 259 tiG,kS Tryz.prog 258 woG] noL (loopAt Tryz.f262 0) (slS n f i m fun q=>wC (y q)) (finN keepSl [some 3])=slT n f i m (some ⟨.normal,slS n f (w64 (i+1)) (m+1) fun q=>mixL (Nat.blt q m) (wC (y q)) (wC (slV f i)),.any⟩) none:=by kernel_rfl
theorem sl_end:evC Tryz.prog [] [kS Tryz.prog 259 tiG,kS Tryz.prog 258 woG] noL (loopAt Tryz.f262 0) (slS n f i m fun q=>wC (y q)) (finE keepSl [some 0])=slT n f i m none (some ⟨.exit 0,slS n f i m fun q=>wC (y q),.any⟩):=by kernel_rfl
theorem sl_ev (n':Int):ev Tryz.prog [] [⟨259,fun _ _=>none⟩] (oneL 3 (toldN keepSl [(3,0,2)] (.a 257 2 0 fun q=>wC (y q)) [none] (slS n f 0 0 fun q=>wC (y q)) (.exit 0) (slS n f n' m fun q=>wC (y q)))) Tryz.f262 [pA n f] ret =
    gate (Sub (slS n f 0 0 fun q=>wC (y q)) (slS n f 0 0 fun q=>wC (y q))) (some (Out.of (.sl 2 m fun j=>wC (y (0+j))))):=by kernel_rfl
end
end Go.Proofs.YtancjnambbkhmaaGreat

namespace Go.Proofs.YtancjnambbkhmaaGreat
open Go.Gv

/-- The value of so many coefficients, from the i-th on. -/
def hor (f:Nat→Int) (x:Int):Nat→Nat→Int
  | _,0=>0
  | i,d+1=>hor f x (i+1) d*x+f i
theorem sa_leads {n:Nat} {f:Nat→Int} {x:Int} (hn:n≤8796093022208) (hx:Sm x) (hf:∀ i,Sm (f i)) (hh:∀ j,j < n→Sm (hor f x (n - j) j)∧Sm (hor f x (n - j) j*x)):Leads Tryz.prog (.loop (loopAt Tryz.f271 0)) (saS n f x ((n:Int) - 1) (wC 0)) (.exit 0) (saS n f x (-1) (wC (hor f x 0 n))):=by
  have key:Leads Tryz.prog (.loop (loopAt Tryz.f271 0)) (saS n f x ((n:Int) - 1 - ((0:Nat):Int)) (wC (hor f x (n - 0) 0))) (.exit 0) (saS n f x (-1) (wC (hor f x 0 n))):=by
    refine loop_rule (fun j=>saS n f x ((n:Int) - 1 - (j:Nat)) (wC (hor f x (n - j) j))) n (.exit 0) _ (by simp) (fun j hj=>?_) ?_
    · have st:=sa_step n f x (hor f x (n - j) j) ((n:Int) - 1 - (j:Nat))
      have e:(n:Int) - 1 - (j:Nat)=((n - 1 - j:Nat):Int):=by omega
      have e1:saV1 x (hor f x (n - j) j)=hor f x (n - j) j*x:=by unfold saV1; rw [decW_w,decW_w]
      have e2:saV2 f x (hor f x (n - j) j) ((n:Int) - 1 - (j:Nat))=hor f x (n - (j+1)) (j+1):=by
        unfold saV2
        rw [decW_w,decW_w,e1,e,Int.toNat_natCast,show n - (j+1)=n - 1 - j by omega]
        show _=hor f x (n - 1 - j+1) j*x+f (n - 1 - j)
        rw [show n - 1 - j+1=n - j by omega]
      obtain ⟨h1,h2⟩:=hh j hj
      unfold saT at st
      rw [e1,gate_pos (ti_spec h1 hx)] at st
      have hp:FSpec Tryz.prog 260 [wA (hor f x (n - j) j*x),wA (f ((n:Int) - 1 - (j:Nat)).toNat)] (wA (saV2 f x (hor f x (n - j) j) ((n:Int) - 1 - (j:Nat)))):=by
        have:=pl_spec h2 (hf ((n:Int) - 1 - (j:Nat)).toNat)
        unfold saV2
        rw [decW_w,decW_w,e1]
        exact this
      rw [gate_pos hp,e2,show w64 ((n:Int) - 1 - (j:Nat) - 1)=(n:Int) - 1 - ((j+1:Nat):Int) by rw [w64_id (by omega) (by omega)]; omega] at st
      have hi:decide ((n:Int) - 1 - (j:Nat) ≥ 0)=true:=decide_eq_true (by omega)
      have hx2:ixB ((n:Int) - 1 - (j:Nat)) n=true:=by rw [e]; exact ixB_t (by omega)
      rw [hi,hx2] at st
      exact leads_ev (finN_sub _ _) e_nil (k_cons kS_ok (k_cons kS_ok k_nil)) noL_ok st
    · refine leads_ev (finE_sub _ _) e_nil (k_cons kS_ok (k_cons kS_ok k_nil)) noL_ok ((sa_end n f x (hor f x (n - n) n) ((n:Int) - 1 - (n:Nat))).trans ?_)
      rw [show (n:Int) - 1 - (n:Nat)=-1 by omega,Nat.sub_self]
      rfl
  rw [show (n:Int) - 1 - ((0:Nat):Int)=(n:Int) - 1 by omega] at key
  exact key
theorem c_sub {sl:List (AV × Chain)} {x:Int}:Sub ⟨sl,[.c (wC x),.c wz]⟩ ⟨sl,[.c (wC x),.c (wC 0)]⟩ :=
  sub_like ⟨Or.inl rfl,Or.inr (Or.inr ⟨_,_,rfl,rfl,wz_like.2⟩),trivial⟩
theorem sa_spec {n:Nat} {f:Nat→Int} {x:Int} (hn:n≤8796093022208) (hx:Sm x) (hf:∀ i,Sm (f i)) (hh:∀ j,j < n→Sm (hor f x (n - j) j)∧Sm (hor f x (n - j) j*x)):FSpec Tryz.prog 271 [pA n f,wA x] (iA (hor f x 0 n).sign):=by
  have hL:=lok_at (c:=bodyOf Tryz.f271) (i:=3) 0 1 (by kernel_rfl) (by kernel_rfl) (toldF_sound (keep:=keepSa) (τ:=[some 0,some 1]) (sa_leads hn hx hf hh))
  refine gspec e_nil (k_cons (kno_ok _) k_nil) Tryz.func271 (by kernel_rfl) (by kernel_rfl) hL rfl ((sa_ev n f x (hor f x 0 n) ((n:Int) - 1) (-1)).trans ?_)
  rw [show w64 ((n:Int) - 1)=(n:Int) - 1 from w64_id (by omega) (by omega),gate_pos (show Sub (saS n f x ((n:Int) - 1) wz) (saS n f x ((n:Int) - 1) (wC 0)) from c_sub)]
def dsl (f:Nat→Int) (q:Nat):Int:=f (q+1)*((q+1:Nat):Int)
theorem sm_small {x:Int} (h:x.natAbs < 18446744073709551616):Sm x:=by
  unfold Sm
  have:=Go.Ev.nw_le (a:=x.natAbs) (k:=1) (by rw [Nat.pow_one]; exact h)
  omega
theorem sl_leads {n:Nat} {f:Nat→Int} (hn:n≤1000000) (hf:∀ i,Sm (f i)):Leads Tryz.prog (.loop (loopAt Tryz.f262 0)) (slS n f 0 0 fun q=>wC (dsl f q)) (.exit 0) (slS n f (n:Nat) (n - 1) fun q=>wC (dsl f q)):=by
  have ks:∀ e,e ∈ [kS Tryz.prog 259 tiG,kS Tryz.prog 258 woG]→KOk Tryz.prog e:=k_cons kS_ok (k_cons kS_ok k_nil)
  have key:Leads Tryz.prog (.loop (loopAt Tryz.f262 0)) (slS n f ((0:Nat):Int) (0 - 1) fun q=>wC (dsl f q)) (.exit 0) (slS n f (n:Nat) (n - 1) fun q=>wC (dsl f q)):=by
    refine loop_rule (fun j=>slS n f (j:Nat) (j - 1) fun q=>wC (dsl f q)) n (.exit 0) _ (by simp) (fun j hj=>?_) ?_
    · by_cases h0:j=0
      · subst h0
        have st:=sl_step0 n f 0 (dsl f)
        rw [show ixB 0 n=true from ixB_t (i:=0) hj,decide_eq_true (show (0:Int) < (n:Int) by omega)] at st
        exact leads_ev (finN_sub _ _) e_nil ks noL_ok st
      · obtain ⟨m,rfl⟩:∃ m,j=m+1:=⟨j - 1,by omega⟩
        have st:=sl_step n f ((m+1:Nat):Int) m (dsl f)
        have ev:slV f ((m+1:Nat):Int)=dsl f m:=by unfold slV dsl; rw [decW_w,decW_w,Int.toNat_natCast]
        unfold slT at st
        have hw:FSpec Tryz.prog 258 [iA ((m+1:Nat):Int)] (wA ((m+1:Nat):Int)):=wo_spec (by omega) (by omega)
        have ht:FSpec Tryz.prog 259 [wA (f ((m+1:Nat):Int).toNat),wA ((m+1:Nat):Int)] (wA (dsl f m)):=ti_spec (hf _) (sm_small (by omega))
        rw [dec_lt hj,ixB_t hj,decide_eq_true (show ((m+1:Nat):Int) > 0 by omega),gate_pos hw,ev,gate_pos ht,apB_t (by omega),w64_next (by omega)] at st
        refine (leads_ev (finN_sub _ _) e_nil ks noL_ok st).sub (Sub.refl _) ?_
        refine sub_same ⟨Or.inr ⟨257,2,m+1,_,_,rfl,rfl,fun q hq=>?_⟩,trivial⟩
        rw [mixW]
        cases hlt:Nat.blt q m
        · have hge:=not_blt hlt
          have:q=m:=by omega
          subst this
          rfl
        · rfl
    · refine leads_ev (finE_sub _ _) e_nil ks noL_ok ((sl_end n f (n:Nat) (n - 1) (dsl f)).trans ?_)
      unfold slT
      rw [dec_self,cond_false]
  exact key
theorem sl_spec {n:Nat} {f:Nat→Int} (hn:n≤1000000) (hf:∀ i,Sm (f i)):FSpec Tryz.prog 262 [pA n f] (pA (n - 1) (dsl f)):=by
  have hL:=lok_hd (c:=bodyOf Tryz.f262) (i:=3) 0 (by kernel_rfl) (by kernel_rfl) (toldN_sound (keep:=keepSl) (nils:=[(3,0,2)]) (nr:=.a 257 2 0 fun q=>wC (dsl f q)) (τ:=[none]) (sl_leads hn hf))
  refine gspec e_nil (k_cons (kno_ok _) k_nil) Tryz.func262 (by kernel_rfl) (by kernel_rfl) hL rfl ((sl_ev n f (n - 1) (dsl f) (n:Nat)).trans ?_)
  have e:(fun j=>wC (dsl f (0+j)))=fun j=>wC (dsl f j):=funext fun j=>by rw [Nat.zero_add]
  rw [gate_pos (Sub.refl _),e]
  rfl
theorem dsl_Cn {n:Nat} {f:Nat→Int} (h:Cn n f):Cn (n - 1) (dsl f):=fun i hi=>by
  unfold dsl
  rw [h (i+1) (by omega),Int.zero_mul]
end Go.Proofs.YtancjnambbkhmaaGreat

namespace Go.Proofs.YtancjnambbkhmaaGreat
open Go.Gv

def fiS (n:Nat) (f:Nat→Int) (i b:Int) (Y:Nat→List AV):St:=mkS 30 [(0,pA n f),(3,.osl 0 2 0 n),(4,.own 1 0),(5,iA i)] [.a 257 2 n Y,.c (wC b)]
def keepFi:List Nat:=[0,3,4,5]
def stB (i:Int) (n:Nat):Bool:=(ixB i n||false)&&(stU i.toNat n&&true)
section
variable (n:Nat) (f:Nat→Int) (i b:Int) (y:Nat→Int)
def fiV:Int:=decW (wA (f i.toNat))*decW (wA b)
def fiB:Int:=decW (wA b)*decW (wA 65536)
noncomputable def fiT (x z:Option Out):Option Out:=cond (decide (i ≥ 0)) (gate (FSpec Tryz.prog 259 [wA (f i.toNat),wA b] (wA (fiV f i b))) (cond ((ixB i n||false)&&stB i n) (gate (FSpec Tryz.prog 258 [iA 65536] (wA 65536)) (gate (FSpec Tryz.prog 259 [wA b,wA 65536] (wA (fiB b))) x)) none)) z
theorem fi_step:evC Tryz.prog [] [kS Tryz.prog 259 tiG,kS Tryz.prog 258 woG] noL (loopAt Tryz.f249 0) (fiS n f i b fun q=>wC (y q)) (finN keepFi [some 0,some 1])=fiT n f i b (some ⟨.normal,fiS n f (w64 (i - 1)) (fiB b) fun q=>mixL (q==0+i.toNat) (wC (fiV f i b)) (wC (y q)),.any⟩) none:=by kernel_rfl
theorem fi_end:evC Tryz.prog [] [kS Tryz.prog 259 tiG,kS Tryz.prog 258 woG] noL (loopAt Tryz.f249 0) (fiS n f i b fun q=>wC (y q)) (finE keepFi [some 0,some 1])=fiT n f i b none (some ⟨.exit 0,fiS n f i b fun q=>wC (y q),.any⟩):=by kernel_rfl
theorem fi_ev (i' b':Int):ev Tryz.prog [] [⟨259,fun _ _=>none⟩,kS Tryz.prog 258 woG] (oneL 4 (toldF keepFi [some 0,some 1] (fiS n f i 1 fun _=>wC 0) (.exit 0) (fiS n f i' b' fun q=>wC (y q)))) Tryz.f249 [pA n f] ret =
    cond (mk32 (n:Nat)||false) (gate (FSpec Tryz.prog 258 [iA 1] (wA 1)) (gate (Sub (fiS n f (w64 ((n:Int) - 1)) 1 fun _=>wz) (fiS n f i 1 fun _=>wC 0)) (some (Out.of (.sl 2 n fun j=>wC (y (0+j))))))) none:=by kernel_rfl
end
def tnS (n:Nat) (f:Nat→Int) (m:Nat) (g:Nat→Int) (N:Nat) (i j a:Int) (Y:Nat→List AV):St:=mkS 58 [(0,pA n f),(1,pA m g),(5,.osl 0 2 0 N),(6,iA i),(7,.own 1 0),(25,pA n f),(26,iA (n:Nat)),(27,iA i),(32,pA m g),(33,iA (m:Nat)),(34,iA j)] [.a 257 2 N Y,.c (wC a)]
def keepTn:List Nat:=[0,1,5,6,7,25,26,27,32,33,34]
def toS (n:Nat) (f:Nat→Int) (m:Nat) (g:Nat→Int) (N:Nat) (i:Int) (Y:Nat→List AV):St:=mkS 58 [(0,pA n f),(1,pA m g),(5,.osl 0 2 0 N),(25,pA n f),(26,iA (n:Nat)),(27,iA i)] [.a 257 2 N Y]
def keepTo:List Nat:=[0,1,5,25,26,27]
section
variable (n:Nat) (f:Nat→Int) (m:Nat) (g:Nat→Int) (N:Nat) (i j a:Int) (y:Nat→Int)
def tnM:Int:=decW (wA a)*decW (wA (g j.toNat))
def tnV:Int:=decW (wA (y (0+(w64 (i+j)).toNat)))+decW (wA (tnM g j a))
noncomputable def tnT (x z:Option Out):Option Out:=cond (decide (j < (m:Int))) (cond (ixB j m||false) (gate (FSpec Tryz.prog 259 [wA a,wA (g j.toNat)] (wA (tnM g j a))) (gate (FSpec Tryz.prog 260 [wA (y (0+(w64 (i+j)).toNat)),wA (tnM g j a)] (wA (tnV g i j a y))) (cond ((ixB (w64 (i+j)) N||false)&&(stU (w64 (i+j)).toNat N&&stB (w64 (i+j)) N)) x none))) none) z
theorem tn_step:evC Tryz.prog [] [kS Tryz.prog 259 tiG,kS Tryz.prog 260 plG] noL (loopAt Tryz.f256 1) (tnS n f m g N i j a fun q=>wC (y q)) (finN keepTn [some 0,some 1])=tnT m g N i j a y (some ⟨.normal,tnS n f m g N i (w64 (j+1)) a fun q=>mixL (q==0+(w64 (i+j)).toNat) (wC (tnV g i j a y)) (wC (y q)),.any⟩) none:=by kernel_rfl
theorem tn_end:evC Tryz.prog [] [kS Tryz.prog 259 tiG,kS Tryz.prog 260 plG] noL (loopAt Tryz.f256 1) (tnS n f m g N i j a fun q=>wC (y q)) (finE keepTn [some 0,some 1])=tnT m g N i j a y none (some ⟨.exit 2,tnS n f m g N i j a fun q=>wC (y q),.any⟩):=by kernel_rfl
noncomputable def toL (y1:Nat→Int):Nat→Option LFun:=oneL 8 (toldF keepTn [some 0,some 1] (tnS n f m g N i 0 (f i.toNat) fun q=>wC (y q)) (.exit 2) (tnS n f m g N i (m:Nat) (f i.toNat) fun q=>wC (y1 q)))
noncomputable def toT (x z:Option Out):Option Out:=cond (decide (i < (n:Int))) (cond (ixB i n||false) (gate (Sub (tnS n f m g N i 0 (f i.toNat) fun q=>wC (y q)) (tnS n f m g N i 0 (f i.toNat) fun q=>wC (y q))) x) none) z
theorem to_step (y1:Nat→Int):evC Tryz.prog [] [] (toL n f m g N i y y1) (loopAt Tryz.f256 0) (toS n f m g N i fun q=>wC (y q)) (finN keepTo [some 0])=toT n f m g N i y (some ⟨.normal,toS n f m g N (w64 (i+1)) fun q=>wC (y1 q),.any⟩) none:=by kernel_rfl
theorem to_end:evC Tryz.prog [] [] (oneL 8 fun _ _=>none) (loopAt Tryz.f256 0) (toS n f m g N i fun q=>wC (y q)) (finE keepTo [some 0])=cond (decide (i < (n:Int))) (cond (ixB i n||false) none none) (some ⟨.exit 0,toS n f m g N i fun q=>wC (y q),.any⟩):=by kernel_rfl
variable (k:Nat)
noncomputable def toTail:Option Out:=cond (fz1 N) (gate (FSpec Tryz.prog 254 [.sl 2 N fun q=>wC (y q)] (pA k y)) (some (Out.of (pA k y)))) none
theorem to_ev:evZ Tryz.prog [] [kS Tryz.prog 254 (fun _=>pA k y)] [] (oneL 5 (toldF keepTo [some 0] (toS n f m g N 0 fun _=>wC 0) (.exit 0) (toS n f m g N (n:Nat) fun q=>wC (y q)))) (oneZ 13 (frzK 0)) Tryz.f256 [pA n f,pA m g] ret =
    cond (cond ((n:Int)==0) true ((m:Int)==0)) (some (Out.of (.x (.slice none 0 0)))) (cond (mk32 (w64 (w64 ((n:Int)+(m:Int)) - 1))||false) (gate (Sub (toS n f m g (w64 (w64 ((n:Int)+(m:Int)) - 1)).toNat 0 fun _=>wz) (toS n f m g N 0 fun _=>wC 0)) (toTail N y k)) none):=by kernel_rfl
end
end Go.Proofs.YtancjnambbkhmaaGreat

namespace Go.Proofs.YtancjnambbkhmaaGreat
open Go.Gv

def pfin (f:Nat→Int) (n q:Nat):Int:=f q*65536 ^ (n - 1 - q)
def dnTo (z:Nat→Int) (n j q:Nat):Int:=if n - j≤q then z q else 0
theorem stB_t {i n:Nat} (h:i < n):stB (i:Nat) n=true:=by unfold stB; rw [ixB_t h,Int.toNat_natCast,stU_t h]; rfl
theorem dnTo_next {z:Nat→Int} {n j:Nat} (hj:j < n) (q:Nat):cond (q==0+(n - 1 - j)) (z (n - 1 - j)) (dnTo z n j q)=dnTo z n (j+1) q:=by
  unfold dnTo
  rw [Nat.zero_add]
  by_cases h:q=n - 1 - j
  · subst h
    rw [BEq.rfl,cond_true,if_pos (show n - (j+1)≤n - 1 - j by omega)]
  · rw [beq_false_of_ne h,cond_false]
    by_cases h2:n - j≤q
    · rw [if_pos h2,if_pos (by omega)]
    · rw [if_neg h2,if_neg (by omega)]
theorem two_sub {sl:List (AV × Chain)} {e:TypeId} {n:Nat} {b:Int}:Sub ⟨sl,[.a e 2 n fun _=>wz,.c (wC b)]⟩ ⟨sl,[.a e 2 n fun _=>wC 0,.c (wC b)]⟩ :=
  sub_like ⟨Or.inr (Or.inl ⟨e,2,n,_,_,rfl,rfl,fun _ _=>wz_like⟩),Or.inl rfl,trivial⟩
theorem fi_leads {n:Nat} {f:Nat→Int} (hn:n≤1000000) (hc:Cn n f) (hf:∀ i,Sm (f i)) (hb:∀ j,j≤n→Sm ((65536:Int) ^ j)):Leads Tryz.prog (.loop (loopAt Tryz.f249 0)) (fiS n f ((n:Int) - 1) 1 fun _=>wC 0) (.exit 0) (fiS n f (-1) (65536 ^ n) fun q=>wC (pfin f n q)):=by
  have ks:∀ e,e ∈ [kS Tryz.prog 259 tiG,kS Tryz.prog 258 woG]→KOk Tryz.prog e:=k_cons kS_ok (k_cons kS_ok k_nil)
  have key:Leads Tryz.prog (.loop (loopAt Tryz.f249 0)) (fiS n f ((n:Int) - 1 - ((0:Nat):Int)) (65536 ^ 0) fun q=>wC (dnTo (pfin f n) n 0 q)) (.exit 0) (fiS n f (-1) (65536 ^ n) fun q=>wC (pfin f n q)):=by
    refine loop_rule (fun j=>fiS n f ((n:Int) - 1 - (j:Nat)) (65536 ^ j) fun q=>wC (dnTo (pfin f n) n j q)) n (.exit 0) _ (by simp) (fun j hj=>?_) ?_
    · have e:(n:Int) - 1 - (j:Nat)=((n - 1 - j:Nat):Int):=by omega
      have st:=fi_step n f ((n:Int) - 1 - (j:Nat)) (65536 ^ j) (dnTo (pfin f n) n j)
      have e1:fiV f ((n:Int) - 1 - (j:Nat)) (65536 ^ j)=pfin f n (n - 1 - j):=by
        unfold fiV pfin
        rw [decW_w,decW_w,e,Int.toNat_natCast,show n - 1 - (n - 1 - j)=j by omega]
      have e2:fiB (65536 ^ j)=65536 ^ (j+1):=by
        unfold fiB
        rw [decW_w,decW_w,Int.pow_succ]
      have ht1:FSpec Tryz.prog 259 [wA (f ((n:Int) - 1 - (j:Nat)).toNat),wA (65536 ^ j)] (wA (pfin f n (n - 1 - j))):=by
        rw [← e1]
        unfold fiV
        rw [decW_w,decW_w]
        exact ti_spec (hf _) (hb j (by omega))
      have ht2:FSpec Tryz.prog 259 [wA (65536 ^ j),wA 65536] (wA (65536 ^ (j+1))):=by
        rw [Int.pow_succ]
        exact ti_spec (hb j (by omega)) (sm_small (by decide))
      have hw:FSpec Tryz.prog 258 [iA 65536] (wA 65536):=wo_spec (by decide) (by decide)
      unfold fiT at st
      rw [e1,e2,gate_pos ht1,gate_pos hw,gate_pos ht2,show w64 ((n:Int) - 1 - (j:Nat) - 1)=(n:Int) - 1 - ((j+1:Nat):Int) by rw [w64_id (by omega) (by omega)]; omega,show decide ((n:Int) - 1 - (j:Nat) ≥ 0)=true from decide_eq_true (by omega),
        show ixB ((n:Int) - 1 - (j:Nat)) n=true by rw [e]; exact ixB_t (by omega),show stB ((n:Int) - 1 - (j:Nat)) n=true by rw [e]; exact stB_t (by omega),show ((n:Int) - 1 - (j:Nat)).toNat=n - 1 - j by omega] at st
      refine (leads_ev (finN_sub _ _) e_nil ks noL_ok st).sub (Sub.refl _) ?_
      refine sub_same ⟨Or.inr ⟨257,2,n,_,_,rfl,rfl,fun q hq=>?_⟩,Or.inl rfl,trivial⟩
      rw [mixW,dnTo_next hj]
    · have e0:(fun q=>wC (dnTo (pfin f n) n n q))=fun q=>wC (pfin f n q):=funext fun q=>by unfold dnTo; rw [if_pos (by omega)]
      refine leads_ev (finE_sub _ _) e_nil ks noL_ok ((fi_end n f ((n:Int) - 1 - (n:Nat)) (65536 ^ n) (dnTo (pfin f n) n n)).trans ?_)
      rw [show (n:Int) - 1 - (n:Nat)=-1 by omega,e0]
      rfl
  have e0:(fun q=>wC (dnTo (pfin f n) n 0 q))=fun _=>wC 0:=funext fun q=>by
    unfold dnTo pfin
    by_cases h:n - 0≤q
    · rw [if_pos h,hc q (by omega),Int.zero_mul]
    · rw [if_neg h]
  rw [show (n:Int) - 1 - ((0:Nat):Int)=(n:Int) - 1 by omega,e0,Int.pow_zero] at key
  exact key
theorem fi_spec {n:Nat} {f:Nat→Int} (hn:n≤1000000) (hc:Cn n f) (hf:∀ i,Sm (f i)) (hb:∀ j,j≤n→Sm ((65536:Int) ^ j)):FSpec Tryz.prog 249 [pA n f] (pA n (pfin f n)):=by
  have hL:=lok_at (c:=bodyOf Tryz.f249) (i:=4) 0 1 (by kernel_rfl) (by kernel_rfl) (toldF_sound (keep:=keepFi) (τ:=[some 0,some 1]) (fi_leads hn hc hf hb))
  refine gspec e_nil (k_cons (kno_ok _) (k_cons kS_ok k_nil)) Tryz.func249 (by kernel_rfl) (by kernel_rfl) hL rfl ((fi_ev n f ((n:Int) - 1) (pfin f n) (-1) (65536 ^ n)).trans ?_)
  have hw:FSpec Tryz.prog 258 [iA 1] (wA 1):=wo_spec (by decide) (by decide)
  have e:(fun j=>wC (pfin f n (0+j)))=fun j=>wC (pfin f n j):=funext fun j=>by rw [Nat.zero_add]
  rw [mk32_t (by omega),gate_pos hw,show w64 ((n:Int) - 1)=(n:Int) - 1 from w64_id (by omega) (by omega),gate_pos (show Sub (fiS n f ((n:Int) - 1) 1 fun _=>wz) (fiS n f ((n:Int) - 1) 1 fun _=>wC 0) from two_sub),e]
  rfl
theorem fin_Cn {n:Nat} {f:Nat→Int} (hc:Cn n f):Cn n (pfin f n):=fun i hi=>by unfold pfin; rw [hc i hi,Int.zero_mul]
def psm (f g:Nat→Int):Nat→Nat→Int
  | 0,_=>0
  | i+1,q=>psm f g i q+if i≤q then f i*g (q - i) else 0
def pin (f g:Nat→Int) (i j q:Nat):Int:=psm f g i q+if i≤q∧q < i+j then f i*g (q - i) else 0
theorem pin_zero (f g:Nat→Int) (i:Nat):pin f g i 0=psm f g i:=funext fun q=>by unfold pin; rw [if_neg (by omega),Int.add_zero]
theorem pin_all {f g:Nat→Int} {m:Nat} (hg:Cn m g) (i:Nat):pin f g i m=psm f g (i+1):=funext fun q=>by
  unfold pin
  show _=psm f g i q+if i≤q then f i*g (q - i) else 0
  by_cases h:i≤q
  · rw [if_pos h]
    by_cases h2:q < i+m
    · rw [if_pos ⟨h,h2⟩]
    · rw [if_neg (by omega),hg (q - i) (by omega),Int.mul_zero]
  · rw [if_neg h,if_neg (by omega)]
theorem pin_next (f g:Nat→Int) (i j q:Nat):cond (q==0+(i+j)) (pin f g i j (i+j)+f i*g j) (pin f g i j q)=pin f g i (j+1) q:=by
  rw [Nat.zero_add]
  unfold pin
  by_cases h:q=i+j
  · subst h
    rw [BEq.rfl,cond_true,if_neg (by omega),if_pos (by omega),show i+j - i=j by omega,Int.add_zero]
  · rw [beq_false_of_ne h,cond_false]
    by_cases h2:i≤q∧q < i+j
    · rw [if_pos h2,if_pos (by omega)]
    · rw [if_neg h2,if_neg (by omega)]
theorem psm_Cn {f g:Nat→Int} {n m:Nat} (hg:Cn m g):∀ i,i≤n→Cn (n+m - 1) (psm f g i)
  | 0,_=>fun _ _=>rfl
  | i+1,hi=>fun q hq=>by
    show psm f g i q+(if i≤q then f i*g (q - i) else 0)=0
    rw [psm_Cn hg i (by omega) q hq]
    by_cases h:i≤q
    · rw [if_pos h,hg (q - i) (by omega),Int.mul_zero]; rfl
    · rw [if_neg h]; rfl
theorem tl_nought {f:Nat→Int} (h:∀ q,f q=0):∀ n,tl f n=0
  | 0=>rfl
  | n+1=>by unfold tl; rw [if_pos (h n),tl_nought h n]
section
variable {n m:Nat} {f g:Nat→Int} (hn:n≤1000000) (hm:m≤1000000) (hg:Cn m g) (sf:∀ i,Sm (f i)) (sg:∀ i,Sm (g i)) (sp:∀ i j,Sm (f i*g j)) (ss:∀ i j q,Sm (pin f g i j q))
include hn hm sf sg sp ss
theorem tn_leads {i:Nat} (hi:i < n):Leads Tryz.prog (.loop (loopAt Tryz.f256 1)) (tnS n f m g (n+m - 1) (i:Nat) 0 (f i) fun q=>wC (pin f g i 0 q)) (.exit 2) (tnS n f m g (n+m - 1) (i:Nat) (m:Nat) (f i) fun q=>wC (pin f g i m q)):=by
  have ks:∀ e,e ∈ [kS Tryz.prog 259 tiG,kS Tryz.prog 260 plG]→KOk Tryz.prog e:=k_cons kS_ok (k_cons kS_ok k_nil)
  refine loop_rule (fun j=>tnS n f m g (n+m - 1) (i:Nat) (j:Nat) (f i) fun q=>wC (pin f g i j q)) m (.exit 2) _ (by simp) (fun j hj=>?_) ?_
  · have st:=tn_step n f m g (n+m - 1) (i:Nat) (j:Nat) (f i) (pin f g i j)
    have ew:w64 (((i:Nat):Int)+((j:Nat):Int))=((i+j:Nat):Int):=by rw [w64_id (by omega) (by omega)]; omega
    have e1:tnM g (j:Nat) (f i)=f i*g j:=by unfold tnM; rw [decW_w,decW_w,Int.toNat_natCast]
    have e2:tnV g (i:Nat) (j:Nat) (f i) (pin f g i j)=pin f g i j (i+j)+f i*g j:=by unfold tnV; rw [decW_w,decW_w,e1,ew,Int.toNat_natCast,Nat.zero_add]
    unfold tnT at st
    rw [e1,e2,ew,Int.toNat_natCast,Int.toNat_natCast,dec_lt hj,ixB_t hj,ixB_t (show i+j < n+m - 1 by omega),stU_t (show i+j < n+m - 1 by omega),stB_t (show i+j < n+m - 1 by omega),gate_pos (ti_spec (sf i) (sg j)),show 0+(i+j)=i+j by omega,gate_pos (pl_spec (ss i j (i+j)) (sp i j)),w64_next (by omega)] at st
    refine (leads_ev (finN_sub _ _) e_nil ks noL_ok st).sub (Sub.refl _) ?_
    refine sub_same ⟨Or.inr ⟨257,2,n+m - 1,_,_,rfl,rfl,fun q hq=>?_⟩,Or.inl rfl,trivial⟩
    rw [mixW,← pin_next,Nat.zero_add]
  · refine leads_ev (finE_sub _ _) e_nil ks noL_ok ((tn_end n f m g (n+m - 1) (i:Nat) (m:Nat) (f i) (pin f g i m)).trans ?_)
    unfold tnT
    rw [dec_self,cond_false]
include hg
theorem to_leads:Leads Tryz.prog (.loop (loopAt Tryz.f256 0)) (toS n f m g (n+m - 1) 0 fun _=>wC 0) (.exit 0) (toS n f m g (n+m - 1) (n:Nat) fun q=>wC (psm f g n q)):=by
  refine loop_rule (fun i=>toS n f m g (n+m - 1) (i:Nat) fun q=>wC (psm f g i q)) n (.exit 0) _ (by simp) (fun i hi=>?_) ?_
  · have inner:=tn_leads hn hm sf sg sp ss hi
    rw [pin_zero,pin_all hg] at inner
    have hL:LOk Tryz.prog (toL n f m g (n+m - 1) (i:Nat) (psm f g i) (psm f g (i+1))) (loopAt Tryz.f256 0):=lok_at (i:=8) 0 1 (by kernel_rfl) (by kernel_rfl) (toldF_sound inner)
    have st:=to_step n f m g (n+m - 1) (i:Nat) (psm f g i) (psm f g (i+1))
    unfold toT at st
    rw [dec_lt hi,ixB_t hi,gate_pos (Sub.refl _),w64_next (by omega)] at st
    exact leads_ev (finN_sub _ _) e_nil k_nil hL st
  · refine leads_ev (finE_sub _ _) e_nil k_nil (lok_none 8) ((to_end n f m g (n+m - 1) (n:Nat) (psm f g n)).trans ?_)
    rw [dec_self,cond_false]
theorem tm_spec:FSpec Tryz.prog 256 [pA n f,pA m g] (pA (tl (psm f g n) (n+m - 1)) (psm f g n)):=by
  have hL:=lok_hd (c:=bodyOf Tryz.f256) (i:=5) 1 (by kernel_rfl) (by kernel_rfl) (toldF_sound (keep:=keepTo) (τ:=[some 0]) (to_leads hn hm hg sf sg sp ss))
  have ev:=to_ev n f m g (n+m - 1) (psm f g n) (tl (psm f g n) (n+m - 1))
  by_cases hz:n=0∨m=0
  · have h0 : tl (psm f g n) (n+m - 1)=0:=by
      refine tl_nought (fun q=>?_) _
      rcases hz with h | h
      · subst h; rfl
      · subst h
        have:∀ i,psm f g i q=0:=fun i=>by
          induction i with
          | zero=>rfl
          | succ i ih =>
            show psm f g i q+(if i≤q then f i*g (q - i) else 0)=0
            rw [ih,hg (q - i) (Nat.zero_le _),Int.mul_zero]
            split<;>rfl
        exact this n
    rw [h0]
    refine FSpec.of_res (r:=.x (.slice none 0 0)) (gspecZ (oneZ_ok (frzK_ok 0)) e_nil (k_cons kS_ok k_nil) m_nil Tryz.func256 (by kernel_rfl) (by kernel_rfl) hL rfl (ev.trans ?_)) fun _ _=>nil_like
    have:cond (((n:Nat):Int)==0) true (((m:Nat):Int)==0)=true:=by
      rcases hz with h | h<;>subst h
      · rfl
      · cases (((n:Nat):Int)==0)<;>rfl
    rw [this]
    rfl
  · refine gspecZ (oneZ_ok (frzK_ok 0)) e_nil (k_cons kS_ok k_nil) m_nil Tryz.func256 (by kernel_rfl) (by kernel_rfl) hL rfl (ev.trans ?_)
    have ew:w64 (w64 (((n:Nat):Int)+((m:Nat):Int)) - 1)=((n+m - 1:Nat):Int):=by
      rw [w64_id (n:=((n:Nat):Int)+((m:Nat):Int)) (by omega) (by omega),w64_id (by omega) (by omega)]; omega
    unfold toTail
    rw [ew,beq_false_of_ne (show ((n:Nat):Int)≠0 by omega),beq_false_of_ne (show ((m:Nat):Int)≠0 by omega),mk32_t (by omega),Int.toNat_natCast,gate_pos (show Sub (toS n f m g (n+m - 1) 0 fun _=>wz) (toS n f m g (n+m - 1) 0 fun _=>wC 0) from wz_sub),fz1_t,gate_pos (show FSpec Tryz.prog 254 [.sl 2 (n+m - 1) fun q=>wC (psm f g n q)] _ from po_spec (psm f g n) (by omega))]
    rfl
end
end Go.Proofs.YtancjnambbkhmaaGreat

namespace Go.Proofs.YtancjnambbkhmaaGreat
open Go.Gv

def miG (l:List AV):AV:=wA (-decW (a0 l))
def trI (n:Nat) (f:Nat→Int) (m:Nat) (g:Nat→Int) (R:Nat) (top size lead sh i:Int) (Y:Nat→List AV):St:=mkS 104 [(0,pA n f),(1,pA m g),(5,.own 0 0),(6,.own 1 0),(7,.own 2 0),(8,iA sh),(9,.osl 3 2 0 R),(52,iA (R:Nat)),(53,iA i)] [.c (wC top),.c (wC size),.c (wC lead),.a 257 2 R Y]
def keepTi:List Nat:=[0,1,5,6,7,8,9,52,53]
section
variable (n:Nat) (f:Nat→Int) (m:Nat) (g:Nat→Int) (R:Nat) (top size lead sh i:Int) (y:Nat→Int)
def trV1:Int:=decW (wA (f i.toNat))*decW (wA size)
def trM:Int:=decW (wA lead)*decW (wA (g (w64 (i - sh)).toNat))
def trE:AV:=.agg (mixL (0+i.toNat==0+i.toNat) (wC (trV1 f size i)) (wC (y (0+i.toNat))))
def trV2:Int:=decW (trE f size i y)+decW (wA (trM g lead sh i))
noncomputable def trT (x1 x2 z:Option Out):Option Out:=cond (decide (i < (R:Int))) (gate (FSpec Tryz.prog 259 [wA (f i.toNat),wA size] (wA (trV1 f size i))) (cond ((ixB i n||false)&&stB i R) (cond (decide (i ≥ sh)) (gate (FSpec Tryz.prog 259 [wA lead,wA (g (w64 (i - sh)).toNat)] (wA (trM g lead sh i))) (gate (FSpec Tryz.prog 260 [trE f size i y,wA (trM g lead sh i)] (wA (trV2 f g size lead sh i y))) (cond ((ixB i R||false)&&(stU i.toNat R&&((ixB (w64 (i - sh)) m||false)&&stB i R))) x1 none))) x2) none)) z
theorem ri_step:evC Tryz.prog [] [kS Tryz.prog 259 tiG,kS Tryz.prog 260 plG] noL (loopAt Tryz.f263 1) (trI n f m g R top size lead sh i fun q=>wC (y q)) (finN keepTi [some 0,some 1,some 2,some 3]) =
    trT n f m g R size lead sh i y (some ⟨.normal,trI n f m g R top size lead sh (w64 (i+1)) fun q=>mixL (q==0+i.toNat) (wC (trV2 f g size lead sh i y)) (mixL (q==0+i.toNat) (wC (trV1 f size i)) (wC (y q))),.any⟩)
      (some ⟨.normal,trI n f m g R top size lead sh (w64 (i+1)) fun q=>mixL (q==0+i.toNat) (wC (trV1 f size i)) (wC (y q)),.any⟩) none:=by kernel_rfl
theorem ri_end:evC Tryz.prog [] [kS Tryz.prog 259 tiG,kS Tryz.prog 260 plG] noL (loopAt Tryz.f263 1) (trI n f m g R top size lead sh i fun q=>wC (y q)) (finE keepTi [some 0,some 1,some 2,some 3]) =
    trT n f m g R size lead sh i y none none (some ⟨.exit 2,trI n f m g R top size lead sh i fun q=>wC (y q),.any⟩):=by kernel_rfl
end
def trO (n:Nat) (f:Nat→Int) (m:Nat) (g:Nat→Int) (top size:Int):St:=mkS 104 [(0,pA n f),(1,pA m g),(5,.own 0 0),(6,.own 1 0)] [.c (wC top),.c (wC size)]
def keepTr:List Nat:=[0,1,5,6]
section
variable (n:Nat) (f:Nat→Int) (m:Nat) (g:Nat→Int) (R:Nat) (top size lead sh:Int) (y:Nat→Int) (k:Nat)
noncomputable def trL:Nat→Option LFun:=oneL 12 (toldF keepTi [some 0,some 1,some 2,some 3] (trI n f m g R top size lead sh 0 fun _=>wC 0) (.exit 2) (trI n f m g R top size lead sh (R:Nat) fun q=>wC (y q)))
noncomputable def trR (l:Int) (x:Option Out):Option Out:=cond (mk32 (w64 ((n:Int) - 1))||false) (gate (Sub (trI n f m g (w64 ((n:Int) - 1)).toNat top size l (w64 ((n:Int) - (m:Int))) 0 fun _=>wz) (trI n f m g R top size lead sh 0 fun _=>wC 0)) (cond (fz1 R) (gate (FSpec Tryz.prog 254 [.sl 2 R fun q=>wC (y q)] (pA k y)) x) none)) none
def trF:Int:=f (w64 ((n:Int) - 1)).toNat
noncomputable def trQ (x z:Option Out):Option Out:=cond (decide ((n:Int) ≥ (m:Int))) (cond (ixB (w64 ((n:Int) - 1)) n||false) (cond (decide (top.sign > 0)) (gate (FSpec Tryz.prog 261 [wA (trF n f)] (wA (-decW (wA (trF n f))))) (trR n f m g R top size lead sh y k (-decW (wA (trF n f))) x)) (trR n f m g R top size lead sh y k (trF n f) x)) none) z
theorem tq_step:evCZ Tryz.prog [] [kS Tryz.prog 261 miG,kS Tryz.prog 254 (fun _=>pA k y)] [] (trL n f m g R top size lead sh y) (oneZ 18 (frzK 3)) (loopAt Tryz.f263 0) (trO n f m g top size) (finN keepTr [some 0,some 1])=trQ n f m g R top size lead sh y k (some ⟨.normal,trO k y m g top size,.any⟩) none:=by kernel_rfl
theorem tq_end:evCZ Tryz.prog [] [kS Tryz.prog 261 miG,⟨254,fun _ _=>none⟩] [] (oneL 12 fun _ _=>none) (fun _=>none) (loopAt Tryz.f263 0) (trO n f m g top size) (finE keepTr [some 0,some 1]) =
    cond (decide ((n:Int) ≥ (m:Int))) (cond (ixB (w64 ((n:Int) - 1)) n||false) (cond (decide (top.sign > 0)) (gate (FSpec Tryz.prog 261 [wA (trF n f)] (wA (-decW (wA (trF n f))))) (cond (mk32 (w64 ((n:Int) - 1))||false) none none)) (cond (mk32 (w64 ((n:Int) - 1))||false) none none)) none) (some ⟨.exit 0,trO n f m g top size,.any⟩):=by kernel_rfl
end
def tuS (n:Nat) (f:Nat→Int) (i:Int) (Y:Nat→List AV):St:=mkS 104 [(11,.osl 0 2 0 n),(90,pA n f),(91,iA (n:Nat)),(92,iA i)] [.a 257 2 n Y]
def keepTu:List Nat:=[11,90,91,92]
section
variable (n:Nat) (f:Nat→Int) (i:Int) (y:Nat→Int)
def tuV:Int:=-decW (wA (f i.toNat))
noncomputable def tuT (x z:Option Out):Option Out:=cond (decide (i < (n:Int))) (cond (ixB i n||false) (gate (FSpec Tryz.prog 261 [wA (f i.toNat)] (wA (tuV f i))) (cond (ixB i n||false) (cond (stU i.toNat n) x none) none)) none) z
theorem tu_step:evC Tryz.prog [] [kS Tryz.prog 261 miG] noL (loopAt Tryz.f263 2) (tuS n f i fun q=>wC (y q)) (finN keepTu [some 0])=tuT n f i (some ⟨.normal,tuS n f (w64 (i+1)) fun q=>mixL (q==0+i.toNat) (wC (tuV f i)) (wC (y q)),.any⟩) none:=by kernel_rfl
theorem tu_end:evC Tryz.prog [] [kS Tryz.prog 261 miG] noL (loopAt Tryz.f263 2) (tuS n f i fun q=>wC (y q)) (finE keepTu [some 0])=tuT n f i none (some ⟨.exit 4,tuS n f i fun q=>wC (y q),.any⟩):=by kernel_rfl
end
section
variable (n:Nat) (f:Nat→Int) (m:Nat) (g:Nat→Int) (top size:Int) (n1:Nat) (f1 y:Nat→Int)
noncomputable def tzL:Nat→Option LFun:=twoL 5 (toldF keepTr [some 0,some 1] (trO n f m g top size) (.exit 0) (trO n1 f1 m g top size)) 21 (toldF keepTu [some 2] (tuS n1 f1 0 fun _=>wC 0) (.exit 4) (tuS n1 f1 (n1:Nat) fun q=>wC (y q)))
def tzG:Int:=g (w64 ((m:Int) - 1)).toNat
noncomputable def tzW (s:Int):Option Out:=gate (Sub (trO n f m g (tzG m g) s) (trO n f m g top size)) (cond (mk32 (n1:Nat)||false) (gate (Sub (tuS n1 f1 0 fun _=>wz) (tuS n1 f1 0 fun _=>wC 0)) (some (Out.of (.sl 2 n1 fun j=>wC (y (0+j)))))) none)
theorem tz_ev:ev Tryz.prog [] [kS Tryz.prog 261 miG] (tzL n f m g top size n1 f1 y) Tryz.f263 [pA n f,pA m g] ret =
    cond (ixB (w64 ((m:Int) - 1)) m||false) (cond (decide ((tzG m g).sign < 0)) (gate (FSpec Tryz.prog 261 [wA (tzG m g)] (wA (-decW (wA (tzG m g))))) (tzW n f m g top size n1 f1 y (-decW (wA (tzG m g))))) (tzW n f m g top size n1 f1 y (tzG m g))) none:=by kernel_rfl
end
end Go.Proofs.YtancjnambbkhmaaGreat

namespace Go.Proofs.YtancjnambbkhmaaGreat
open Go.Gv

def tpA (g:Nat→Int) (m:Nat):Int:=((g (m - 1)).natAbs:Nat)
def ldA (f:Nat→Int) (n:Nat) (g:Nat→Int) (m:Nat):Int:=if g (m - 1) > 0 then -f (n - 1) else f (n - 1)
/-- One step: the highest power is gone. -/
def rst (f:Nat→Int) (n:Nat) (g:Nat→Int) (m q:Nat):Int:=f q*tpA g m+if n - m≤q then ldA f n g m*g (q - (n - m)) else 0
theorem rst_Cn {f g:Nat→Int} {n m:Nat} (hm:1≤m) (hn:m≤n) (hf:Cn n f) (hg:Cn m g):Cn (n - 1) (rst f n g m):=fun q hq=>by
  unfold rst
  rw [if_pos (by omega)]
  by_cases h:q=n - 1
  · subst h
    rw [show n - 1 - (n - m)=m - 1 by omega]
    unfold tpA ldA
    by_cases hp:g (m - 1) > 0
    · rw [if_pos hp,show (((g (m - 1)).natAbs:Nat):Int)=g (m - 1) by omega,Int.neg_mul]; omega
    · rw [if_neg hp,show (((g (m - 1)).natAbs:Nat):Int)=-g (m - 1) by omega,Int.mul_neg]; omega
  · rw [hf q (by omega),hg (q - (n - m)) (by omega)]
    simp
abbrev Ply:Type:=Nat × (Nat→Int)
def rstep (m:Nat) (g:Nat→Int) (p:Ply):Ply:=(tl (rst p.2 p.1 g m) (p.1 - 1),rst p.2 p.1 g m)
def rit (m:Nat) (g:Nat→Int):Nat→Ply→Ply
  | 0,p=>p
  | j+1,p=>rit m g j (rstep m g p)
theorem rit_succ (m:Nat) (g:Nat→Int):∀ j p,rit m g (j+1) p=rstep m g (rit m g j p)
  | 0,_=>rfl
  | j+1,p=>rit_succ m g j (rstep m g p)
def rcn (m:Nat) (g:Nat→Int):Nat→Ply→Nat
  | 0,_=>0
  | k+1,p=>if m≤p.1 then rcn m g k (rstep m g p)+1 else 0
theorem rcn_ok {m:Nat} (hm:1≤m) (g:Nat→Int):∀ (k:Nat) (p:Ply),p.1≤k→(∀ j,j < rcn m g k p→m≤(rit m g j p).1)∧(rit m g (rcn m g k p) p).1 < m
  | 0,p,h=>⟨fun j hj=>by have:j < 0:=hj; omega,by show p.1 < m; omega⟩
  | k + 1,p,h=>by
    unfold rcn
    by_cases hp:m≤p.1
    · rw [if_pos hp]
      obtain ⟨h1,h2⟩:=rcn_ok hm g k (rstep m g p) (by have:=tl_le (rst p.2 p.1 g m) (p.1 - 1); show tl (rst p.2 p.1 g m) (p.1 - 1)≤k; omega)
      refine ⟨fun j hj=>?_,h2⟩
      cases j with
      | zero=>exact hp
      | succ j=>exact h1 j (by omega)
    · rw [if_neg hp]
      exact ⟨fun j hj=>by omega,by show p.1 < m; omega⟩
theorem rcn_le (m:Nat) (g:Nat→Int):∀ (k:Nat) (p:Ply),rcn m g k p≤k
  | 0,_=>Nat.le_refl _
  | k+1,p=>by
    unfold rcn
    split
    · have:=rcn_le m g k (rstep m g p); omega
    · omega
def rrem (m:Nat) (g:Nat→Int) (p:Ply):Ply:=rit m g (rcn m g p.1 p) p
theorem rit_Cn {m:Nat} (hm:1≤m) {g:Nat→Int} (hg:Cn m g) {p:Ply} (hp:Cn p.1 p.2) {k:Nat} (hk:∀ j,j < k→m≤(rit m g j p).1):∀ j,j≤k→Cn (rit m g j p).1 (rit m g j p).2∧(rit m g j p).1≤p.1
  | 0,_=>⟨hp,Nat.le_refl _⟩
  | j+1,hj=>by
    obtain ⟨h1,h2⟩:=rit_Cn hm hg hp hk j (by omega)
    rw [rit_succ]
    refine ⟨tl_Cn (rst_Cn hm (hk j (by omega)) h1 hg),?_⟩
    have:=tl_le (rst (rit m g j p).2 (rit m g j p).1 g m) ((rit m g j p).1 - 1)
    show tl (rst (rit m g j p).2 (rit m g j p).1 g m) ((rit m g j p).1 - 1)≤p.1
    omega
theorem ld_sm {n m:Nat} {f g:Nat→Int} (sf:∀ i,Sm (f i)) (sp:∀ i j,Sm (f i*g j)):Sm (ldA f n g m)∧∀ j,Sm (ldA f n g m*g j):=by
  unfold ldA
  by_cases h:g (m - 1) > 0
  · rw [if_pos h]
    refine ⟨?_,fun j=>?_⟩
    · unfold Sm; rw [Int.natAbs_neg]; exact sf _
    · unfold Sm; rw [Int.neg_mul,Int.natAbs_neg]; exact sp _ _
  · rw [if_neg h]; exact ⟨sf _,fun j=>sp _ _⟩
theorem tp_sm {m:Nat} {f g:Nat→Int} (sg:∀ i,Sm (g i)) (sp:∀ i j,Sm (f i*g j)):Sm (tpA g m)∧∀ i,Sm (f i*tpA g m):=by
  unfold tpA Sm
  refine ⟨sg _,fun i=>?_⟩
  have:=sp i (m - 1)
  unfold Sm at this
  rw [Int.natAbs_mul,Int.natAbs_natCast,← Int.natAbs_mul]
  exact this
theorem leads_evZ {l:List Entry} {ks:List KEntry} {ms:List MEntry} {L:Nat→Option LFun} {Z:Nat→Option ZFun} (hZ:∀ i h,Z i=some h→ZSoundN 0 h) (hl:∀ e,e ∈ l→EOk Tryz.prog e) (hks:∀ e,e ∈ ks→KOk Tryz.prog e) (hms:∀ e,e ∈ ms→MEOk Tryz.prog e) {c:Code} {s s':St} {e:Exit} {k:Kont} (hk:KSub k) (hL:LOk Tryz.prog L c) (h:evCZ Tryz.prog l ks ms L Z c s k=some ⟨e,s',.any⟩):Leads Tryz.prog c s e s' :=
  leads_ofZ hk hZ (tabM_ok hl hks hms) (drawnK_ok (tabM_ok hl hks hms) (by kernel_rfl)) hL h
section
variable {n m:Nat} {f g:Nat→Int} (hn:n≤1000000) (hm:1≤m) (hmn:m≤n) (sf:∀ i,Sm (f i)) (sg:∀ i,Sm (g i)) (sp:∀ i j,Sm (f i*g j))
include hn hm hmn sf sg sp
theorem ri_leads:Leads Tryz.prog (.loop (loopAt Tryz.f263 1)) (trI n f m g (n - 1) (g (m - 1)) (tpA g m) (ldA f n g m) ((n - m:Nat):Int) 0 fun _=>wC 0) (.exit 2) (trI n f m g (n - 1) (g (m - 1)) (tpA g m) (ldA f n g m) ((n - m:Nat):Int) ((n - 1:Nat):Int) fun q=>wC (upTo (rst f n g m) (n - 1) q)):=by
  have ks:∀ e,e ∈ [kS Tryz.prog 259 tiG,kS Tryz.prog 260 plG]→KOk Tryz.prog e:=k_cons kS_ok (k_cons kS_ok k_nil)
  obtain ⟨l1,l2⟩:=ld_sm (n:=n) (m:=m) sf sp
  obtain ⟨t1,t2⟩:=tp_sm (m:=m) sg sp
  have key:Leads Tryz.prog (.loop (loopAt Tryz.f263 1)) (trI n f m g (n - 1) (g (m - 1)) (tpA g m) (ldA f n g m) ((n - m:Nat):Int) ((0:Nat):Int) fun q=>wC (upTo (rst f n g m) 0 q)) (.exit 2) (trI n f m g (n - 1) (g (m - 1)) (tpA g m) (ldA f n g m) ((n - m:Nat):Int) ((n - 1:Nat):Int) fun q=>wC (upTo (rst f n g m) (n - 1) q)):=by
    refine loop_rule (fun i=>trI n f m g (n - 1) (g (m - 1)) (tpA g m) (ldA f n g m) ((n - m:Nat):Int) (i:Nat) fun q=>wC (upTo (rst f n g m) i q)) (n - 1) (.exit 2) _ (by simp) (fun i hi=>?_) ?_
    · have st:=ri_step n f m g (n - 1) (g (m - 1)) (tpA g m) (ldA f n g m) ((n - m:Nat):Int) (i:Nat) (upTo (rst f n g m) i)
      have e1:trV1 f (tpA g m) (i:Nat)=f i*tpA g m:=by unfold trV1; rw [decW_w,decW_w,Int.toNat_natCast]
      have eE:trE f (tpA g m) (i:Nat) (upTo (rst f n g m) i)=wA (f i*tpA g m):=by
        unfold trE
        rw [BEq.rfl,mixW,e1]
        rfl
      have h1:FSpec Tryz.prog 259 [wA (f ((i:Nat):Int).toNat),wA (tpA g m)] (wA (f i*tpA g m)):=ti_spec (sf _) t1
      unfold trT at st
      rw [dec_lt hi,e1,gate_pos h1,ixB_t (show i < n by omega),stB_t hi,w64_next (by omega)] at st
      by_cases hs:n - m≤i
      · have ew:w64 (((i:Nat):Int) - ((n - m:Nat):Int))=((i - (n - m):Nat):Int):=by rw [w64_id (by omega) (by omega)]; omega
        have e2:trM g (ldA f n g m) ((n - m:Nat):Int) (i:Nat)=ldA f n g m*g (i - (n - m)):=by unfold trM; rw [decW_w,decW_w,ew,Int.toNat_natCast]
        have e3:trV2 f g (tpA g m) (ldA f n g m) ((n - m:Nat):Int) (i:Nat) (upTo (rst f n g m) i)=rst f n g m i:=by
          unfold trV2
          rw [eE,e2,decW_w,decW_w]
          unfold rst
          rw [if_pos hs]
        have h2:FSpec Tryz.prog 259 [wA (ldA f n g m),wA (g (i - (n - m)))] (wA (ldA f n g m*g (i - (n - m)))):=ti_spec l1 (sg _)
        have h3:FSpec Tryz.prog 260 [wA (f i*tpA g m),wA (ldA f n g m*g (i - (n - m)))] (wA (rst f n g m i)):=by
          have:=pl_spec (t2 i) (l2 (i - (n - m)))
          unfold rst
          rw [if_pos hs]
          exact this
        rw [decide_eq_true (show ((i:Nat):Int) ≥ ((n - m:Nat):Int) by omega),e2,e3,eE,ew,Int.toNat_natCast,Int.toNat_natCast,gate_pos h2,gate_pos h3,ixB_t hi,stU_t hi,ixB_t (show i - (n - m) < m by omega)] at st
        refine (leads_ev (finN_sub _ _) e_nil ks noL_ok st).sub (Sub.refl _) ?_
        refine sub_same ⟨Or.inl rfl,Or.inl rfl,Or.inl rfl,Or.inr ⟨257,2,n - 1,_,_,rfl,rfl,fun q hq=>?_⟩,trivial⟩
        rw [mixW,mixW,← upTo_next]
        cases (q==0+i)<;>rfl
      · have e3:f i*tpA g m=rst f n g m i:=by unfold rst; rw [if_neg hs,Int.add_zero]
        rw [decide_eq_false (show ¬ ((i:Nat):Int) ≥ ((n - m:Nat):Int) by omega),Int.toNat_natCast,e3] at st
        refine (leads_ev (finN_sub _ _) e_nil ks noL_ok st).sub (Sub.refl _) ?_
        refine sub_same ⟨Or.inl rfl,Or.inl rfl,Or.inl rfl,Or.inr ⟨257,2,n - 1,_,_,rfl,rfl,fun q hq=>?_⟩,trivial⟩
        rw [mixW,upTo_next]
    · refine leads_ev (finE_sub _ _) e_nil ks noL_ok ((ri_end n f m g (n - 1) (g (m - 1)) (tpA g m) (ldA f n g m) ((n - m:Nat):Int) ((n - 1:Nat):Int) (upTo (rst f n g m) (n - 1))).trans ?_)
      unfold trT
      rw [dec_self,cond_false]
  rw [upTo_zero] at key
  exact key
end
end Go.Proofs.YtancjnambbkhmaaGreat

namespace Go.Proofs.YtancjnambbkhmaaGreat
open Go.Gv

theorem four_sub {sl:List (AV × Chain)} {e:TypeId} {n:Nat} {a b c:List AV}:Sub ⟨sl,[.c a,.c b,.c c,.a e 2 n fun _=>wz]⟩ ⟨sl,[.c a,.c b,.c c,.a e 2 n fun _=>wC 0]⟩ :=
  sub_like ⟨Or.inl rfl,Or.inl rfl,Or.inl rfl,Or.inr (Or.inl ⟨e,2,n,_,_,rfl,rfl,fun _ _=>wz_like⟩),trivial⟩
section
variable {m:Nat} {g:Nat→Int} (hm:1≤m) (hg:Cn m g) (sg:∀ i,Sm (g i))
include hm hg sg
theorem tq_leads {n:Nat} {f:Nat→Int} (hn:n≤1000000) (hmn:m≤n) (hf:Cn n f) (sf:∀ i,Sm (f i)) (sp:∀ i j,Sm (f i*g j)):Leads Tryz.prog (loopAt Tryz.f263 0) (trO n f m g (g (m - 1)) (tpA g m)) .normal (trO (tl (rst f n g m) (n - 1)) (rst f n g m) m g (g (m - 1)) (tpA g m)):=by
  have inner:=ri_leads hn hm hmn sf sg sp
  rw [(rst_Cn hm hmn hf hg).upTo] at inner
  have hL:LOk Tryz.prog (trL n f m g (n - 1) (g (m - 1)) (tpA g m) (ldA f n g m) ((n - m:Nat):Int) (rst f n g m)) (loopAt Tryz.f263 0):=lok_at (i:=12) 0 1 (by kernel_rfl) (by kernel_rfl) (toldF_sound inner)
  have st:=tq_step n f m g (n - 1) (g (m - 1)) (tpA g m) (ldA f n g m) ((n - m:Nat):Int) (rst f n g m) (tl (rst f n g m) (n - 1))
  have ew:w64 (((n:Nat):Int) - 1)=((n - 1:Nat):Int):=by rw [w64_id (by omega) (by omega)]; omega
  have ew2:w64 (((n:Nat):Int) - ((m:Nat):Int))=((n - m:Nat):Int):=by rw [w64_id (by omega) (by omega)]; omega
  have eF:trF n f=f (n - 1):=by unfold trF; rw [ew,Int.toNat_natCast]
  have hp:FSpec Tryz.prog 254 [.sl 2 (n - 1) fun q=>wC (rst f n g m q)] (pA (tl (rst f n g m) (n - 1)) (rst f n g m)):=po_spec (rst f n g m) (by omega)
  have go:∀ x,trR n f m g (n - 1) (g (m - 1)) (tpA g m) (ldA f n g m) ((n - m:Nat):Int) (rst f n g m) (tl (rst f n g m) (n - 1)) (ldA f n g m) x=x:=fun x=>by
    unfold trR
    rw [ew,ew2,Int.toNat_natCast,mk32_t (by omega),gate_pos (show Sub (trI n f m g (n - 1) (g (m - 1)) (tpA g m) (ldA f n g m) ((n - m:Nat):Int) 0 fun _=>wz) (trI n f m g (n - 1) (g (m - 1)) (tpA g m) (ldA f n g m) ((n - m:Nat):Int) 0 fun _=>wC 0) from four_sub),fz1_t,gate_pos hp]
    rfl
  unfold trQ at st
  rw [decide_eq_true (show ((n:Nat):Int) ≥ ((m:Nat):Int) by omega),ew,ixB_t (show n - 1 < n by omega),eF,decW_w,gate_pos (mi_spec (f (n - 1)))] at st
  by_cases ht:g (m - 1) > 0
  · have el:-f (n - 1)=ldA f n g m:=by unfold ldA; rw [if_pos ht]
    rw [show (g (m - 1)).sign=1 from Int.sign_eq_one_of_pos ht,el,go] at st
    exact leads_evZ (oneZ_ok (frzK_ok 3)) e_nil (k_cons kS_ok (k_cons kS_ok k_nil)) m_nil (finN_sub _ _) hL st
  · have el:f (n - 1)=ldA f n g m:=by unfold ldA; rw [if_neg ht]
    have es:decide ((g (m - 1)).sign > 0)=false:=decide_eq_false (by rcases sign_cases (g (m - 1)) with ⟨h,h'⟩ | ⟨h,h'⟩ | ⟨h,h'⟩<;>omega)
    rw [es] at st
    have hgo:=(congrArg (fun l=>trR n f m g (n - 1) (g (m - 1)) (tpA g m) (ldA f n g m) ((n - m:Nat):Int) (rst f n g m) (tl (rst f n g m) (n - 1)) l (some ⟨.normal,trO (tl (rst f n g m) (n - 1)) (rst f n g m) m g (g (m - 1)) (tpA g m),.any⟩)) el).trans (go _)
    exact leads_evZ (oneZ_ok (frzK_ok 3)) e_nil (k_cons kS_ok (k_cons kS_ok k_nil)) m_nil (finN_sub _ _) hL (st.trans hgo)
theorem tq_all {p:Ply} (hn:p.1≤1000000) (hf:Cn p.1 p.2) (sf:∀ j,j≤p.1→∀ i,Sm ((rit m g j p).2 i)) (sp:∀ k,k≤p.1→∀ i j,Sm ((rit m g k p).2 i*g j)):Leads Tryz.prog (.loop (loopAt Tryz.f263 0)) (trO p.1 p.2 m g (g (m - 1)) (tpA g m)) (.exit 0) (trO (rrem m g p).1 (rrem m g p).2 m g (g (m - 1)) (tpA g m)):=by
  obtain ⟨h1,h2⟩:=rcn_ok hm g p.1 p (Nat.le_refl _)
  refine loop_rule (fun j=>trO (rit m g j p).1 (rit m g j p).2 m g (g (m - 1)) (tpA g m)) (rcn m g p.1 p) (.exit 0) _ (by simp) (fun j hj=>?_) ?_
  · obtain ⟨c1,c2⟩:=rit_Cn hm hg hf h1 j (by omega)
    show Leads Tryz.prog _ _ .normal (trO (rit m g (j+1) p).1 (rit m g (j+1) p).2 m g (g (m - 1)) (tpA g m))
    rw [rit_succ]
    have hle:=rcn_le m g p.1 p
    exact tq_leads hm hg sg (by omega) (h1 j hj) c1 (sf j (by omega)) (sp j (by omega))
  · obtain ⟨c1,c2⟩:=rit_Cn hm hg hf h1 _ (Nat.le_refl _)
    refine leads_evZ (Z:=fun _=>none) (fun _ _ h=>by cases h) e_nil (k_cons kS_ok (k_cons (kno_ok _) k_nil)) m_nil (finE_sub _ _) (lok_none 12) ((tq_end (rit m g (rcn m g p.1 p) p).1 (rit m g (rcn m g p.1 p) p).2 m g (g (m - 1)) (tpA g m)).trans ?_)
    rw [decide_eq_false (show ¬ (((rit m g (rcn m g p.1 p) p).1:Nat):Int) ≥ ((m:Nat):Int) by omega)]
    rfl
end
def pneg (f:Nat→Int) (q:Nat):Int:=-f q
theorem neg_Cn {n:Nat} {f:Nat→Int} (h:Cn n f):Cn n (pneg f):=fun i hi=>by unfold pneg; rw [h i hi]; rfl
theorem tu_leads {n:Nat} {f:Nat→Int} (hn:n≤1000000) (hf:Cn n f):Leads Tryz.prog (.loop (loopAt Tryz.f263 2)) (tuS n f 0 fun _=>wC 0) (.exit 4) (tuS n f (n:Nat) fun q=>wC (pneg f q)):=by
  have key:Leads Tryz.prog (.loop (loopAt Tryz.f263 2)) (tuS n f ((0:Nat):Int) fun q=>wC (upTo (pneg f) 0 q)) (.exit 4) (tuS n f (n:Nat) fun q=>wC (upTo (pneg f) n q)):=by
    refine loop_rule (fun i=>tuS n f (i:Nat) fun q=>wC (upTo (pneg f) i q)) n (.exit 4) _ (by simp) (fun i hi=>?_) ?_
    · have st:=tu_step n f (i:Nat) (upTo (pneg f) i)
      have e:tuV f (i:Nat)=pneg f i:=by unfold tuV pneg; rw [decW_w,Int.toNat_natCast]
      unfold tuT at st
      rw [dec_lt hi,ixB_t hi,e,Int.toNat_natCast,gate_pos (show FSpec Tryz.prog 261 [wA (f i)] (wA (pneg f i)) from mi_spec (f i)),stU_t hi,w64_next (by omega)] at st
      refine (leads_ev (finN_sub _ _) e_nil (k_cons kS_ok k_nil) noL_ok st).sub (Sub.refl _) ?_
      refine sub_same ⟨Or.inr ⟨257,2,n,_,_,rfl,rfl,fun q hq=>?_⟩,trivial⟩
      rw [mixW,upTo_next]
    · refine leads_ev (finE_sub _ _) e_nil (k_cons kS_ok k_nil) noL_ok ((tu_end n f (n:Nat) (upTo (pneg f) n)).trans ?_)
      unfold tuT
      rw [dec_self,cond_false]
  rw [upTo_zero,(neg_Cn hf).upTo] at key
  exact key
theorem tz_spec {m:Nat} {g:Nat→Int} (hm:1≤m) (hm2:m≤1000000) (hg:Cn m g) (sg:∀ i,Sm (g i)) {p:Ply} (hn:p.1≤1000000) (hf:Cn p.1 p.2) (sf:∀ j,j≤p.1→∀ i,Sm ((rit m g j p).2 i)) (sp:∀ k,k≤p.1→∀ i j,Sm ((rit m g k p).2 i*g j)):FSpec Tryz.prog 263 [pA p.1 p.2,pA m g] (pA (rrem m g p).1 (pneg (rrem m g p).2)):=by
  obtain ⟨h1,h2⟩:=rcn_ok hm g p.1 p (Nat.le_refl _)
  obtain ⟨c1,c2⟩:=rit_Cn hm hg hf h1 _ (Nat.le_refl _)
  have c1:Cn (rrem m g p).1 (rrem m g p).2:=c1
  have c2:(rrem m g p).1≤p.1:=c2
  have l1:=tq_all hm hg sg hn hf sf sp
  have l2:=tu_leads (n:=(rrem m g p).1) (f:=(rrem m g p).2) (by omega) c1
  have hL:LOk Tryz.prog (tzL p.1 p.2 m g (g (m - 1)) (tpA g m) (rrem m g p).1 (rrem m g p).2 (pneg (rrem m g p).2)) (bodyOf Tryz.f263) :=
    lok_two (lok_at 0 3 (by kernel_rfl) (by kernel_rfl) (toldF_sound l1)) (lok_at 2 3 (by kernel_rfl) (by kernel_rfl) (toldF_sound l2))
  refine gspec e_nil (k_cons kS_ok k_nil) Tryz.func263 (by kernel_rfl) (by kernel_rfl) hL rfl ((tz_ev p.1 p.2 m g (g (m - 1)) (tpA g m) (rrem m g p).1 (rrem m g p).2 (pneg (rrem m g p).2)).trans ?_)
  have ew:w64 (((m:Nat):Int) - 1)=((m - 1:Nat):Int):=by rw [w64_id (by omega) (by omega)]; omega
  have eG:tzG m g=g (m - 1):=by unfold tzG; rw [ew,Int.toNat_natCast]
  have e:(fun j=>wC (pneg (rrem m g p).2 (0+j)))=fun j=>wC (pneg (rrem m g p).2 j):=funext fun j=>by rw [Nat.zero_add]
  have go:tzW p.1 p.2 m g (g (m - 1)) (tpA g m) (rrem m g p).1 (rrem m g p).2 (pneg (rrem m g p).2) (tpA g m)=some (Out.of (pA (rrem m g p).1 (pneg (rrem m g p).2))):=by
    unfold tzW
    rw [eG,gate_pos (Sub.refl _),mk32_t (by omega),gate_pos (show Sub (tuS (rrem m g p).1 (rrem m g p).2 0 fun _=>wz) (tuS (rrem m g p).1 (rrem m g p).2 0 fun _=>wC 0) from wz_sub),e]
    rfl
  rw [eG,ew,ixB_t (show m - 1 < m by omega),decW_w,gate_pos (mi_spec (g (m - 1)))]
  by_cases ht:g (m - 1) < 0
  · rw [show (g (m - 1)).sign=-1 from Int.sign_eq_neg_one_of_neg ht,show -g (m - 1)=tpA g m by unfold tpA; omega,go]
    rfl
  · have es:decide ((g (m - 1)).sign < 0)=false:=decide_eq_false (by rcases sign_cases (g (m - 1)) with ⟨h,h'⟩ | ⟨h,h'⟩ | ⟨h,h'⟩<;>omega)
    rw [es,Bool.true_or,cond_true,cond_false]
    have:g (m - 1)=tpA g m:=by unfold tpA; omega
    refine Eq.trans ?_ go
    congr 1
end Go.Proofs.YtancjnambbkhmaaGreat

namespace Go.Proofs.YtancjnambbkhmaaGreat
open Go.Gv

def seS (n:Nat) (f:Nat→Int) (x side t:Int):St:=mkS 22 [(0,pA n f),(2,iA side),(4,.own 0 0),(7,iA t)] [.c (wC x)]
def sbE (r:Int):St:=mkS 22 [(6,iA r)] []
def keepSb:List Nat:=[0,2,4,7]
section
variable (n:Nat) (f:Nat→Int) (x side t s:Int) (n1:Nat) (f1:Nat→Int)
noncomputable def sbT (a b:Option Out):Option Out:=gate (FSpec Tryz.prog 271 [pA n f,wA x] (iA s)) (cond (!(s==0)) a (gate (FSpec Tryz.prog 262 [pA n f] (pA n1 f1)) b))
theorem sb_step:evC Tryz.prog [] [kS Tryz.prog 271 (fun _=>iA s),kS Tryz.prog 262 (fun _=>pA n1 f1)] noL (loopAt Tryz.f266 0) (seS n f x side t) (finN keepSb [some 0])=sbT n f x s n1 f1 none (some ⟨.normal,seS n1 f1 x side (w64 (t*side)),.any⟩):=by kernel_rfl
theorem sb_ret:evC Tryz.prog [] [kS Tryz.prog 271 (fun _=>iA s),kS Tryz.prog 262 (fun _=>pA n1 f1)] noL (loopAt Tryz.f266 0) (seS n f x side t) (finR [6] [])=sbT n f x s n1 f1 (some ⟨.ret,sbE (w64 (s*t)),.any⟩) none:=by kernel_rfl
theorem sb_ev (r:Int):ev Tryz.prog [] [] (oneL 2 (toldF keepSb [some 0] (seS n f x side 1) .ret (sbE r))) Tryz.f266 [pA n f,wA x,iA side] ret=gate (Sub (seS n f x side 1) (seS n f x side 1)) (some (Out.of (iA r))):=by kernel_rfl
theorem ah_ev (r:Int):ev Tryz.prog [] [kS Tryz.prog 266 (fun _=>iA r)] noL Tryz.f264 [pA n f,wA x] ret=gate (FSpec Tryz.prog 266 [pA n f,wA x,iA (-1)] (iA r)) (some (Out.of (iA r))):=by kernel_rfl
theorem bh_ev (r:Int):ev Tryz.prog [] [kS Tryz.prog 266 (fun _=>iA r)] noL Tryz.f253 [pA n f,wA x] ret=gate (FSpec Tryz.prog 266 [pA n f,wA x,iA 1] (iA r)) (some (Out.of (iA r))):=by kernel_rfl
end
/-- Slope after slope. -/
def dit (f:Nat→Int):Nat→Nat→Int
  | 0=>f
  | j+1=>dsl (dit f j)
def hv (f:Nat→Int) (n:Nat) (x:Int) (j:Nat):Int:=hor (dit f j) x 0 (n - j)
/-- All that is worked out there has few enough words. -/
structure HB (n:Nat) (f:Nat→Int) (x:Int):Prop where
  hn:n≤1000000
  hx:Sm x
  hf:∀ i,Sm (f i)
  hh:∀ j,j < n→Sm (hor f x (n - j) j)∧Sm (hor f x (n - j) j*x)
theorem HB.at {n:Nat} {f:Nat→Int} {x:Int} (h:HB n f x):FSpec Tryz.prog 271 [pA n f,wA x] (iA (hor f x 0 n).sign):=sa_spec (Nat.le_trans h.hn (by decide)) h.hx h.hf h.hh
def pw1 (side:Int):Nat→Int
  | 0=>1
  | j+1=>pw1 side j*side
theorem pw1_small {side:Int} (h:side=1∨side=-1):∀ j,pw1 side j=1∨pw1 side j=-1
  | 0=>Or.inl rfl
  | j+1=>by
    show pw1 side j*side=1∨pw1 side j*side=-1
    rcases pw1_small h j with e | e<;>rcases h with h | h<;>rw [e,h]<;>decide
theorem sb_spec {n:Nat} {f:Nat→Int} {x side:Int} (hs:side=1∨side=-1) {K:Nat} (hb:∀ j,j≤K→HB (n - j) (dit f j) x) (h0:∀ j,j < K→hv f n x j=0) (hK:hv f n x K≠0):FSpec Tryz.prog 266 [pA n f,wA x,iA side] (iA ((hv f n x K).sign*pw1 side K)):=by
  have ks:∀ (s:Int) (n1:Nat) (f1:Nat→Int),∀ e,e ∈ [kS Tryz.prog 271 (fun _=>iA s),kS Tryz.prog 262 (fun _=>pA n1 f1)]→KOk Tryz.prog e:=fun _ _ _=>k_cons kS_ok (k_cons kS_ok k_nil)
  have hl:Leads Tryz.prog (.loop (loopAt Tryz.f266 0)) (seS n f x side 1) .ret (sbE ((hv f n x K).sign*pw1 side K)):=by
    refine loop_rule (fun j=>seS (n - j) (dit f j) x side (pw1 side j)) K .ret _ (by simp) (fun j hj=>?_) ?_
    · have st:=sb_step (n - j) (dit f j) x side (pw1 side j) 0 (n - (j+1)) (dit f (j+1))
      have h1:=(hb j (by omega)).at
      have hz:hor (dit f j) x 0 (n - j)=0:=h0 j hj
      rw [hz] at h1
      have h2:FSpec Tryz.prog 262 [pA (n - j) (dit f j)] (pA (n - (j+1)) (dit f (j+1))):=sl_spec (hb j (by omega)).hn (hb j (by omega)).hf
      have ew:w64 (pw1 side j*side)=pw1 side (j+1):=by
        show w64 (pw1 side (j+1))=_
        rcases pw1_small hs (j+1) with e | e<;>rw [e]<;>rfl
      unfold sbT at st
      rw [gate_pos (show FSpec Tryz.prog 271 [pA (n - j) (dit f j),wA x] (iA 0) from h1),gate_pos h2,ew] at st
      exact leads_ev (finN_sub _ _) e_nil (ks _ _ _) noL_ok st
    · have st:=sb_ret (n - K) (dit f K) x side (pw1 side K) (hv f n x K).sign 0 f
      have h1:=(hb K (Nat.le_refl _)).at
      have hn0:(hv f n x K).sign≠0:=fun h=>hK (Int.sign_eq_zero_iff_zero.1 h)
      have ew:w64 ((hv f n x K).sign*pw1 side K)=(hv f n x K).sign*pw1 side K:=by
        rcases sign_cases (hv f n x K) with ⟨_,h⟩ | ⟨_,h⟩ | ⟨_,h⟩<;>rcases pw1_small hs K with e | e<;>rw [h,e]<;>rfl
      unfold sbT at st
      rw [gate_pos (show FSpec Tryz.prog 271 [pA (n - K) (dit f K),wA x] (iA (hv f n x K).sign) from h1),beq_false_of_ne hn0,ew] at st
      exact leads_ev (finR_sub _ _) e_nil (ks _ _ _) noL_ok st
  refine gspec e_nil k_nil Tryz.func266 (by kernel_rfl) (by kernel_rfl) (lok_at (i:=2) 0 1 (by kernel_rfl) (by kernel_rfl) (toldF_sound (keep:=keepSb) (τ:=[some 0]) hl)) rfl ((sb_ev n f x side _).trans ?_)
  rw [gate_pos (Sub.refl _)]
def chS (k:Nat) (C:Nat→Ply) (n:Nat) (f:Nat→Int) (m:Nat) (g:Nat→Int):St:=mkS 21 [(0,pA n f),(3,.osl 0 1 0 k),(4,pA m g)] [.a 238 1 k fun q=>[pA (C q).1 (C q).2]]
def keepCh:List Nat:=[0,3,4]
section
variable (k:Nat) (C:Nat→Ply) (n:Nat) (f:Nat→Int) (m:Nat) (g:Nat→Int) (m1:Nat) (g1:Nat→Int)
noncomputable def chT (x z:Option Out):Option Out:=cond (decide ((m:Int) > 0)) (cond (apB k 24||false) (gate (FSpec Tryz.prog 263 [pA n f,pA m g] (pA m1 g1)) x) none) z
def chN:St:=mkS 21 [(0,pA m g),(3,.osl 0 1 0 (k+1)),(4,pA m1 g1)] [.a 238 1 (k+1) fun q=>mixL (Nat.blt q k) [pA (C q).1 (C q).2] [pA m g]]
theorem ch_step:evC Tryz.prog [] [kS Tryz.prog 263 (fun _=>pA m1 g1)] noL (loopAt Tryz.f248 0) (chS k C n f m g) (finN keepCh [some 2])=chT k n f m g m1 g1 (some ⟨.normal,chN k C m g m1 g1,.any⟩) none:=by kernel_rfl
theorem ch_end:evC Tryz.prog [] [kS Tryz.prog 263 (fun _=>pA m1 g1)] noL (loopAt Tryz.f248 0) (chS k C n f m g) (finE keepCh [some 0])=chT k n f m g m1 g1 none (some ⟨.exit 0,chS k C n f m g,.any⟩):=by kernel_rfl
theorem ch_ev (C1:Nat→Ply) (n1:Nat) (f1:Nat→Int) (m2:Nat) (g2:Nat→Int):ev Tryz.prog [] [kS Tryz.prog 262 (fun _=>pA m g),⟨263,fun _ _=>none⟩] (oneL 3 (toldF keepCh [some 0] (chS 1 C n f m g) (.exit 0) (chS k C1 n1 f1 m2 g2))) Tryz.f248 [pA n f] ret =
    gate (FSpec Tryz.prog 262 [pA n f] (pA m g)) (gate (Sub (mkS 21 [(0,pA n f),(3,.osl 0 1 0 1),(4,pA m g)] [.a 238 1 1 (chunk [pA n f] 1)]) (chS 1 C n f m g)) (some (Out.of (.sl 1 k fun j=>[pA (C1 (0+j)).1 (C1 (0+j)).2])))):=by kernel_rfl
end
end Go.Proofs.YtancjnambbkhmaaGreat

namespace Go.Proofs.YtancjnambbkhmaaGreat
open Go.Gv

theorem mixP (b:Bool) (n:Nat) (f:Nat→Int) (m:Nat) (g:Nat→Int):mixL b [pA n f] [pA m g]=[cond b (pA n f) (pA m g)]:=by
  unfold pA
  cases b<;>simp only [mixL,mixA,cond_true,cond_false,Nat.beq_refl,mixW]
/-- What comes next in a chain. -/
def nxt (a b:Ply):Ply:=((rrem b.1 b.2 a).1,pneg (rrem b.1 b.2 a).2)
def cm (p:Ply):Nat→Ply × Ply
  | 0=>(p,(p.1 - 1,dsl p.2))
  | j+1=>((cm p j).2,nxt (cm p j).1 (cm p j).2)
def cq (p:Ply) (j:Nat):Ply:=(cm p j).1
theorem cq_two (p:Ply) (j:Nat):cq p (j+2)=nxt (cq p j) (cq p (j+1)):=rfl
def PlyA (p:Ply):AV:=pA p.1 p.2
def chA (k:Nat) (C:Nat→Ply):AV:=.sl 1 k fun q=>[PlyA (C q)]
/-- All that is worked out for the chain, up to its k-th, has few enough words. -/
structure CB (p:Ply) (k:Nat):Prop where
  hn:p.1≤1000000
  hc:Cn p.1 p.2
  hf:∀ i,Sm (p.2 i)
  hg:∀ j,j < k→∀ i,Sm ((cq p (j+1)).2 i)
  hr:∀ j,j < k→∀ t,t≤(cq p j).1→∀ i,Sm ((rit (cq p (j+1)).1 (cq p (j+1)).2 t (cq p j)).2 i)
  hp:∀ j,j < k→∀ t,t≤(cq p j).1→∀ i l,Sm ((rit (cq p (j+1)).1 (cq p (j+1)).2 t (cq p j)).2 i*(cq p (j+1)).2 l)
theorem cq_ok {p:Ply} {k:Nat} (h:CB p k) (hk:∀ j,j < k→0 < (cq p (j+1)).1):∀ j,j≤k→(Cn (cq p j).1 (cq p j).2∧(cq p j).1≤1000000)∧Cn (cq p (j+1)).1 (cq p (j+1)).2∧(cq p (j+1)).1≤1000000
  | 0,_=>⟨⟨h.hc,h.hn⟩,dsl_Cn h.hc,by have:=h.hn; show p.1 - 1≤1000000; omega⟩
  | j+1,hj=>by
    obtain ⟨⟨a1,a2⟩,b1,b2⟩:=cq_ok h hk j (by omega)
    refine ⟨⟨b1,b2⟩,?_⟩
    have hm:=hk j (by omega)
    obtain ⟨h1,h2⟩:=rcn_ok (m:=(cq p (j+1)).1) hm (cq p (j+1)).2 (cq p j).1 (cq p j) (Nat.le_refl _)
    obtain ⟨c1,c2⟩:=rit_Cn hm b1 a1 h1 _ (Nat.le_refl _)
    rw [cq_two]
    have c2:(nxt (cq p j) (cq p (j+1))).1≤(cq p j).1:=c2
    exact ⟨neg_Cn c1,by omega⟩
theorem ch_leads {p:Ply} {k:Nat} (h:CB p k) (hk1:k≤1000) (hk:∀ j,j < k→0 < (cq p (j+1)).1) (hz:(cq p (k+1)).1=0):Leads Tryz.prog (.loop (loopAt Tryz.f248 0)) (chS 1 (cq p) p.1 p.2 (p.1 - 1) (dsl p.2)) (.exit 0) (chS (k+1) (cq p) (cq p k).1 (cq p k).2 (cq p (k+1)).1 (cq p (k+1)).2):=by
  have ks:∀ (n:Nat) (f:Nat→Int),∀ e,e ∈ [kS Tryz.prog 263 (fun _=>pA n f)]→KOk Tryz.prog e:=fun _ _=>k_cons kS_ok k_nil
  refine loop_rule (fun j=>chS (j+1) (cq p) (cq p j).1 (cq p j).2 (cq p (j+1)).1 (cq p (j+1)).2) k (.exit 0) _ (by simp) (fun j hj=>?_) ?_
  · obtain ⟨⟨a1,a2⟩,b1,b2⟩:=cq_ok h hk j (by omega)
    have st:=ch_step (j+1) (cq p) (cq p j).1 (cq p j).2 (cq p (j+1)).1 (cq p (j+1)).2 (cq p (j+2)).1 (cq p (j+2)).2
    have ht:FSpec Tryz.prog 263 [pA (cq p j).1 (cq p j).2,pA (cq p (j+1)).1 (cq p (j+1)).2] (pA (cq p (j+2)).1 (cq p (j+2)).2):=tz_spec (hk j hj) b2 b1 (h.hg j hj) a2 a1 (h.hr j hj) (h.hp j hj)
    unfold chT at st
    rw [decide_eq_true (show (((cq p (j+1)).1:Nat):Int) > 0 by have:=hk j hj; omega),apB_t (by omega),gate_pos ht] at st
    refine (leads_ev (finN_sub _ _) e_nil (ks _ _) noL_ok st).sub (Sub.refl _) ?_
    refine sub_same ⟨Or.inr ⟨238,1,j+1+1,_,_,rfl,rfl,fun q hq=>?_⟩,trivial⟩
    rw [mixP]
    cases hlt:Nat.blt q (j+1)
    · have hge:=not_blt hlt
      have:q=j+1:=by omega
      subst this
      rfl
    · rfl
  · refine leads_ev (finE_sub _ _) e_nil (ks 0 p.2) noL_ok ((ch_end (k+1) (cq p) (cq p k).1 (cq p k).2 (cq p (k+1)).1 (cq p (k+1)).2 0 p.2).trans ?_)
    unfold chT
    rw [hz]
    rfl
theorem ch_spec {p:Ply} {k:Nat} (h:CB p k) (hk1:k≤1000) (hk:∀ j,j < k→0 < (cq p (j+1)).1) (hz:(cq p (k+1)).1=0):FSpec Tryz.prog 248 [PlyA p] (chA (k+1) (cq p)):=by
  have hL:=lok_at (c:=bodyOf Tryz.f248) (i:=3) 0 1 (by kernel_rfl) (by kernel_rfl) (toldF_sound (keep:=keepCh) (τ:=[some 0]) (ch_leads h hk1 hk hz))
  refine gspec e_nil (k_cons kS_ok (k_cons (kno_ok _) k_nil)) Tryz.func248 (by kernel_rfl) (by kernel_rfl) hL rfl ((ch_ev (k+1) (cq p) p.1 p.2 (p.1 - 1) (dsl p.2) (cq p) _ _ _ _).trans ?_)
  have hs:Sub (mkS 21 [(0,pA p.1 p.2),(3,.osl 0 1 0 1),(4,pA (p.1 - 1) (dsl p.2))] [.a 238 1 1 (chunk [pA p.1 p.2] 1)]) (chS 1 (cq p) p.1 p.2 (p.1 - 1) (dsl p.2)):=by
    refine sub_same ⟨Or.inr ⟨238,1,1,_,_,rfl,rfl,fun q hq=>?_⟩,trivial⟩
    have:q=0:=by omega
    subst this
    rfl
  have e:(fun j=>[pA (cq p (0+j)).1 (cq p (0+j)).2])=fun j=>[PlyA (cq p j)]:=funext fun j=>by rw [Nat.zero_add]; rfl
  rw [gate_pos (sl_spec h.hn h.hf),gate_pos hs,e]
  rfl
end Go.Proofs.YtancjnambbkhmaaGreat

namespace Go.Proofs.YtancjnambbkhmaaGreat
open Go.Gv

def skA (k:Nat) (C:Nat→Ply) (m:Nat) (u:Nat→Int):AV:=.ref [chA k C,sJ m u] 0
def cgS (fn:Nat) (k:Nat) (C:Nat→Ply) (m:Nat) (u:Nat→Int) (x cnt so i:Int):St:=mkS 37 [(0,skA k C m u),(2,.fn (.func fn) [] []),(7,.own 0 0),(8,iA cnt),(9,iA so),(18,chA k C),(19,iA (k:Nat)),(20,iA i)] [.c (wC x)]
def keepCg:List Nat:=[0,2,7,8,9,18,19,20]
noncomputable def cgT (k:Nat) (C:Nat→Ply) (x so i s:Int) (fn:Nat) (a b z:Option Out):Option Out:=cond (decide (i < (k:Int))) (cond (ixB i k||false) (gate (FSpec Tryz.prog fn [PlyA (C i.toNat),wA x] (iA s)) (cond (s==w64 (0 - so)) a b)) none) z
section
variable (k:Nat) (C:Nat→Ply) (m:Nat) (u:Nat→Int) (x cnt so i s at':Int)
theorem cg_stepA:evC Tryz.prog [] [kS Tryz.prog 264 (fun _=>iA s)] noL (loopAt Tryz.f252 0) (cgS 264 k C m u x cnt so i) (finN keepCg [some 0])=cgT k C x so i s 264 (some ⟨.normal,cgS 264 k C m u x (w64 (cnt+1)) s (w64 (i+1)),.any⟩) (some ⟨.normal,cgS 264 k C m u x cnt s (w64 (i+1)),.any⟩) none:=by kernel_rfl
theorem cg_endA:evC Tryz.prog [] [kS Tryz.prog 264 (fun _=>iA s)] noL (loopAt Tryz.f252 0) (cgS 264 k C m u x cnt so i) (finE keepCg [some 0])=cgT k C x so i s 264 none none (some ⟨.exit 0,cgS 264 k C m u x cnt so i,.any⟩):=by kernel_rfl
theorem cg_evA:ev Tryz.prog [] [kS Tryz.prog 258 woG] (oneL 4 (toldF keepCg [some 0] (cgS 264 k C m u at' 0 0 0) (.exit 0) (cgS 264 k C m u at' cnt so i))) Tryz.f252 [skA k C m u,iA at',.fn (.func 264) [] []] ret=gate (FSpec Tryz.prog 258 [iA at'] (wA at')) (gate (Sub (cgS 264 k C m u at' 0 0 0) (cgS 264 k C m u at' 0 0 0)) (some (Out.of (iA cnt)))):=by kernel_rfl
end
section
variable (k:Nat) (C:Nat→Ply) (m:Nat) (u:Nat→Int) (x cnt so i s at':Int)
theorem cg_stepB:evC Tryz.prog [] [kS Tryz.prog 253 (fun _=>iA s)] noL (loopAt Tryz.f252 0) (cgS 253 k C m u x cnt so i) (finN keepCg [some 0])=cgT k C x so i s 253 (some ⟨.normal,cgS 253 k C m u x (w64 (cnt+1)) s (w64 (i+1)),.any⟩) (some ⟨.normal,cgS 253 k C m u x cnt s (w64 (i+1)),.any⟩) none:=by kernel_rfl
theorem cg_endB:evC Tryz.prog [] [kS Tryz.prog 253 (fun _=>iA s)] noL (loopAt Tryz.f252 0) (cgS 253 k C m u x cnt so i) (finE keepCg [some 0])=cgT k C x so i s 253 none none (some ⟨.exit 0,cgS 253 k C m u x cnt so i,.any⟩):=by kernel_rfl
theorem cg_evB:ev Tryz.prog [] [kS Tryz.prog 258 woG] (oneL 4 (toldF keepCg [some 0] (cgS 253 k C m u at' 0 0 0) (.exit 0) (cgS 253 k C m u at' cnt so i))) Tryz.f252 [skA k C m u,iA at',.fn (.func 253) [] []] ret=gate (FSpec Tryz.prog 258 [iA at'] (wA at')) (gate (Sub (cgS 253 k C m u at' 0 0 0) (cgS 253 k C m u at' 0 0 0)) (some (Out.of (iA cnt)))):=by kernel_rfl
end
/-- The sign ahead of the j-th. -/
def prv (sg:Nat→Int):Nat→Int
  | 0=>0
  | j+1=>sg j
/-- How often signs change. -/
def cgC (sg:Nat→Int):Nat→Int
  | 0=>0
  | j+1=>cgC sg j+if sg j=-prv sg j then 1 else 0
theorem cgC_le (sg:Nat→Int):∀ j:Nat,0≤cgC sg j∧cgC sg j≤j
  | 0=>⟨Int.le_refl _,Int.le_refl _⟩
  | j+1=>by
    obtain ⟨h1,h2⟩:=cgC_le sg j
    show 0≤cgC sg j+(if sg j=-prv sg j then 1 else 0)∧cgC sg j+(if sg j=-prv sg j then 1 else 0)≤((j+1:Nat):Int)
    split<;>constructor<;>omega
theorem prv_small {sg:Nat→Int} {k:Nat} (h:∀ q,q < k→sg q=1∨sg q=-1):∀ i,i≤k→prv sg i=0∨prv sg i=1∨prv sg i=-1
  | 0,_=>Or.inl rfl
  | i+1,hi=>Or.inr (h i (by omega))
theorem cg_specA {k:Nat} {C:Nat→Ply} {m:Nat} {u:Nat→Int} {at':Int} {sg:Nat→Int} (hk:k≤1000) (ha:-9223372036854775808≤at') (hb:at'≤9223372036854775807) (h1:∀ q,q < k→sg q=1∨sg q=-1) (hs:∀ q,q < k→FSpec Tryz.prog 264 [PlyA (C q),wA at'] (iA (sg q))):FSpec Tryz.prog 252 [skA k C m u,iA at',.fn (.func 264) [] []] (iA (cgC sg k)):=by
  have ks:∀ s:Int,∀ e,e ∈ [kS Tryz.prog 264 (fun _=>iA s)]→KOk Tryz.prog e:=fun _=>k_cons kS_ok k_nil
  have hl:Leads Tryz.prog (.loop (loopAt Tryz.f252 0)) (cgS 264 k C m u at' 0 0 0) (.exit 0) (cgS 264 k C m u at' (cgC sg k) (prv sg k) (k:Nat)):=by
    refine loop_rule (fun i=>cgS 264 k C m u at' (cgC sg i) (prv sg i) (i:Nat)) k (.exit 0) _ (by simp) (fun i hi=>?_) ?_
    · have st:=cg_stepA k C m u at' (cgC sg i) (prv sg i) (i:Nat) (sg i)
      have hp:w64 (0 - prv sg i)=-prv sg i:=by
        rcases prv_small h1 i (Nat.le_of_lt hi) with e | e | e<;>rw [e]<;>rfl
      have hc:=cgC_le sg i
      unfold cgT at st
      rw [dec_lt hi,ixB_t hi,Int.toNat_natCast,gate_pos (hs i hi),hp,w64_next (by omega),w64_id (n:=cgC sg i+1) (by omega) (by omega)] at st
      show Leads Tryz.prog _ _ .normal (cgS 264 k C m u at' (cgC sg i+if sg i=-prv sg i then 1 else 0) (sg i) ((i+1:Nat):Int))
      by_cases h:sg i=-prv sg i
      · rw [h,BEq.rfl,← h] at st
        rw [if_pos h]
        exact leads_ev (finN_sub _ _) e_nil (ks _) noL_ok st
      · rw [beq_false_of_ne h] at st
        rw [if_neg h,Int.add_zero]
        exact leads_ev (finN_sub _ _) e_nil (ks _) noL_ok st
    · refine leads_ev (finE_sub _ _) e_nil (ks 0) noL_ok ((cg_endA k C m u at' (cgC sg k) (prv sg k) (k:Nat) 0).trans ?_)
      unfold cgT
      rw [dec_self,cond_false]
  refine gspec e_nil (k_cons kS_ok k_nil) Tryz.func252 (by kernel_rfl) (by kernel_rfl) (lok_at (i:=4) 0 1 (by kernel_rfl) (by kernel_rfl) (toldF_sound (keep:=keepCg) (τ:=[some 0]) hl)) rfl ((cg_evA k C m u _ _ _ at').trans ?_)
  rw [gate_pos (wo_spec ha hb),gate_pos (Sub.refl _)]
theorem cg_specB {k:Nat} {C:Nat→Ply} {m:Nat} {u:Nat→Int} {at':Int} {sg:Nat→Int} (hk:k≤1000) (ha:-9223372036854775808≤at') (hb:at'≤9223372036854775807) (h1:∀ q,q < k→sg q=1∨sg q=-1) (hs:∀ q,q < k→FSpec Tryz.prog 253 [PlyA (C q),wA at'] (iA (sg q))):FSpec Tryz.prog 252 [skA k C m u,iA at',.fn (.func 253) [] []] (iA (cgC sg k)):=by
  have ks:∀ s:Int,∀ e,e ∈ [kS Tryz.prog 253 (fun _=>iA s)]→KOk Tryz.prog e:=fun _=>k_cons kS_ok k_nil
  have hl:Leads Tryz.prog (.loop (loopAt Tryz.f252 0)) (cgS 253 k C m u at' 0 0 0) (.exit 0) (cgS 253 k C m u at' (cgC sg k) (prv sg k) (k:Nat)):=by
    refine loop_rule (fun i=>cgS 253 k C m u at' (cgC sg i) (prv sg i) (i:Nat)) k (.exit 0) _ (by simp) (fun i hi=>?_) ?_
    · have st:=cg_stepB k C m u at' (cgC sg i) (prv sg i) (i:Nat) (sg i)
      have hp:w64 (0 - prv sg i)=-prv sg i:=by
        rcases prv_small h1 i (Nat.le_of_lt hi) with e | e | e<;>rw [e]<;>rfl
      have hc:=cgC_le sg i
      unfold cgT at st
      rw [dec_lt hi,ixB_t hi,Int.toNat_natCast,gate_pos (hs i hi),hp,w64_next (by omega),w64_id (n:=cgC sg i+1) (by omega) (by omega)] at st
      show Leads Tryz.prog _ _ .normal (cgS 253 k C m u at' (cgC sg i+if sg i=-prv sg i then 1 else 0) (sg i) ((i+1:Nat):Int))
      by_cases h:sg i=-prv sg i
      · rw [h,BEq.rfl,← h] at st
        rw [if_pos h]
        exact leads_ev (finN_sub _ _) e_nil (ks _) noL_ok st
      · rw [beq_false_of_ne h] at st
        rw [if_neg h,Int.add_zero]
        exact leads_ev (finN_sub _ _) e_nil (ks _) noL_ok st
    · refine leads_ev (finE_sub _ _) e_nil (ks 0) noL_ok ((cg_endB k C m u at' (cgC sg k) (prv sg k) (k:Nat) 0).trans ?_)
      unfold cgT
      rw [dec_self,cond_false]
  refine gspec e_nil (k_cons kS_ok k_nil) Tryz.func252 (by kernel_rfl) (by kernel_rfl) (lok_at (i:=4) 0 1 (by kernel_rfl) (by kernel_rfl) (toldF_sound (keep:=keepCg) (τ:=[some 0]) hl)) rfl ((cg_evB k C m u _ _ _ at').trans ?_)
  rw [gate_pos (wo_spec ha hb),gate_pos (Sub.refl _)]
def cutA (a b s:Int):AV:=.agg [iA a,iA b,iA s]
section
variable (k:Nat) (C:Nat→Ply) (m:Nat) (u:Nat→Int) (at' c s:Int)
theorem ahd_ev:ev Tryz.prog [] [kS Tryz.prog 258 woG,kS Tryz.prog 264 (fun _=>iA s),kS Tryz.prog 252 (fun _=>iA c)] noL Tryz.f250 [skA k C m u,iA at'] ret =
    gate (FSpec Tryz.prog 252 [skA k C m u,iA at',.fn (.func 264) [] []] (iA c)) (gate (FSpec Tryz.prog 258 [iA at'] (wA at')) (gate (FSpec Tryz.prog 264 [PlyA (C 0),wA at'] (iA s)) (cond ((ixB 0 k||false)&&true) (some (Out.of (cutA at' c s))) none))):=by kernel_rfl
end
def siS (k:Nat) (C:Nat→Ply) (m:Nat) (u:Nat→Int) (la lb ls ha hb hs a b:Int):St:=mkS 39 [(0,skA k C m u),(4,.own 0 0),(5,.own 1 0),(7,iA a),(8,iA b)] [.c [iA la,iA lb,iA ls],.c [iA ha,iA hb,iA hs]]
def keepSi:List Nat:=[0,4,5,7,8]
section
variable (k:Nat) (C:Nat→Ply) (m:Nat) (u:Nat→Int) (la lb ls ha hb hs a b s:Int)
def siM:Int:=w64 (a+w64 ((w64 (b - a)).tdiv 2))
noncomputable def siT (x y z:Option Out):Option Out:=cond (decide (w64 (b - a) > 1)) (gate (FSpec Tryz.prog 258 [iA (siM a b)] (wA (siM a b))) (gate (FSpec Tryz.prog 264 [PlyA (C 0),wA (siM a b)] (iA s)) (cond ((ixB 0 k||false)&&true) (cond (s==ls) x y) none))) z
theorem si_step:evC Tryz.prog [] [kS Tryz.prog 258 woG,kS Tryz.prog 264 (fun _=>iA s)] noL (loopAt Tryz.f265 0) (siS k C m u la lb ls ha hb hs a b) (finN keepSi [some 0,some 1])=siT k C ls a b s (some ⟨.normal,siS k C m u la lb ls ha hb hs (siM a b) b,.any⟩) (some ⟨.normal,siS k C m u la lb ls ha hb hs a (siM a b),.any⟩) none:=by kernel_rfl
theorem si_end:evC Tryz.prog [] [kS Tryz.prog 258 woG,kS Tryz.prog 264 (fun _=>iA s)] noL (loopAt Tryz.f265 0) (siS k C m u la lb ls ha hb hs a b) (finE keepSi [some 0,some 1])=siT k C ls a b s none none (some ⟨.exit 0,siS k C m u la lb ls ha hb hs a b,.any⟩):=by kernel_rfl
theorem si_ev (a' b':Int):ev Tryz.prog [] [] (oneL 2 (toldF keepSi [some 0,some 1] (siS k C m u la lb ls ha hb hs la ha) (.exit 0) (siS k C m u la lb ls ha hb hs a' b'))) Tryz.f265 [skA k C m u,cutA la lb ls,cutA ha hb hs] ret=gate (Sub (siS k C m u la lb ls ha hb hs la ha) (siS k C m u la lb ls ha hb hs la ha)) (some (Out.of (iA a'))):=by kernel_rfl
end
end Go.Proofs.YtancjnambbkhmaaGreat

namespace Go.Gv
open Go.RowKit Go.Ev
noncomputable section

theorem ixOf_none {l:List Nat} {k:Nat} (h:ixOf l k=none):k ∉ l:=fun hk=>by
  unfold ixOf at h
  rw [List.findIdx?_eq_none_iff] at h
  have:=h k hk
  simp at this
/-- Where the callee's rows lie among the caller's. -/
def putF (l:List Nat) (n:Nat) (i:Nat):Option Nat:=match l[i]? with
  | some k=>some k
  | none=>some (n+(i - l.length))
/-- The caller's rows behind the call. -/
structure MemF (l:List Nat) (mem mem1 mem':List Row):Prop where
  other:∀ k,k ∉ l→k < mem.length→mem'[k]?=mem[k]?
  mine:∀ (i k:Nat) (r:Row),l[i]?=some k→mem1[i]?=some r→mem'[k]?=some (renRow (putF l mem.length) r)
  fresh:∀ (i:Nat) (r:Row),l.length≤i→mem1[i]?=some r→mem'[mem.length+(i - l.length)]?=some (renRow (putF l mem.length) r)
theorem wframe {P:Program} {f:Nat} {args args0:List AV} {mem mem0 mem1 mem':List Row} {v:AV} (h:GSpec P f args0 mem0 v mem1) (l:List Nat) (hl:l.length=mem0.length) (hnd:nodupB l=true)
    (hargs:args0=renL (ixOf l) args) (hmem:∀ (i k:Nat),l[i]?=some k→∃ row,mem[k]?=some row∧row.live=true∧mem0[i]?=some (renRow (ixOf l) row)) (hF:MemF l mem mem1 mem'):WSpec P f args mem (renA (putF l mem.length) v) mem':=by
  refine ⟨h.1,fun A0 R w0 E cargs hW hgl hr=>?_⟩
  have dom:∀ k p,E.O k=some p→k < mem.length:=fun k p hp=>by
    obtain ⟨row,h1,_⟩:=hW.rows k p.1 p.2 hp
    exact (List.getElem?_eq_some_iff.1 h1).1
  have lives:∀ k,k ∈ l→liveAt mem k=true:=fun k hk=>by
    obtain ⟨i,hi⟩:=List.mem_iff_getElem?.1 hk
    obtain ⟨row,g1,g2,_⟩:=hmem i k hi
    unfold liveAt
    rw [g1]
    exact g2
  let O1:Nat→Option (Nat × Nat × Nat):=fun i=>(l[i]?).bind E.O
  let E1:Env:={ E with O:=O1 }
  have hO1:∀ i b c,E1.O i=some (b,c)→∃ k,l[i]?=some k∧E.O k=some (b,c):=fun i b c hi=>by
    have hi:(l[i]?).bind E.O=some (b,c):=hi
    cases hx:l[i]? with
    | none=>rw [hx] at hi; cases hi
    | some k=>rw [hx] at hi; exact ⟨k,rfl,hi⟩
  have hO1':∀ (i k:Nat) (p:Nat × Nat × Nat),l[i]?=some k→E.O k=some p→O1 i=some p:=fun i k p hi hp=>by
    show (l[i]?).bind E.O=some p
    rw [hi]; exact hp
  have hσ:∀ k i p,ixOf l k=some i→E.O k=some p→O1 i=some p:=fun k i p hi hp=>hO1' i k p (ixOf_some hi) hp
  let R1:Nat→Prop:=fun b=>∃ k c,k ∈ l∧E.O k=some (b,c)
  have hW1:Wd E.A R1 E1 E1 mem0:=by
    refine ⟨fun i b c hi=>?_,hW.small,fun _ h=>h,fun i b c hi _=>?_,fun i j b c c' hi hj _ _=>?_,BelowR.refl _ _,Env.le.refl _⟩
    · obtain ⟨k,h1,h2⟩:=hO1 i b c hi
      obtain ⟨row,g1,_,g2⟩:=hmem i k h1
      obtain ⟨row',g3,g4⟩:=hW.rows k b c h2
      rw [g1] at g3
      cases g3
      exact ⟨_,g2,renRow_rel hσ g4⟩
    · obtain ⟨k,h1,h2⟩:=hO1 i b c hi
      have hm:=List.mem_of_getElem? h1
      exact ⟨(hW.own k b c h2 (lives k hm)).1,Or.inl ⟨k,c,hm,h2⟩⟩
    · obtain ⟨k,h1,h2⟩:=hO1 i b c hi
      obtain ⟨k',h3,h4⟩:=hO1 j b c' hj
      have:=hW.one k k' b c c' h2 h4 (lives k (List.mem_of_getElem? h1)) (lives k' (List.mem_of_getElem? h3))
      subst this
      exact nodupB_get hnd i j k h1 h3
  have hpins:Pins mem0.length E1.A R1 E1:=by
    refine ⟨fun i hi=>?_,fun h0=>⟨fun b hb=>?_,hW.small⟩⟩
    · show (l[i]?).bind E.O=none
      rw [List.getElem?_eq_none (by omega)]; rfl
    · obtain ⟨k,c,hk,_⟩:=hb
      have:l=[]:=List.eq_nil_of_length_eq_zero (by omega)
      rw [this] at hk
      cases hk
  have hr1:rels E1 args0 cargs.toList:=by
    rw [hargs]
    exact relsA_ren args hσ _ hr
  refine (h.2 R1 E1 cargs hpins hW1 (glob_O hgl _) hr1).mono ?_
  rintro e w' ⟨u,E',rfl,rfl,hW2,hrel⟩
  have dom1:∀ i p,E'.O i=some p→∃ r,mem1[i]?=some r:=fun i p hp=>by
    obtain ⟨row,h1,_⟩:=hW2.rows i p.1 p.2 hp
    exact ⟨row,h1⟩
  let O2:Nat→Option (Nat × Nat × Nat):=fun k=>match ixOf l k with
    | some i=>E'.O i
    | none=>if k < mem.length then E.O k else E'.O (l.length+(k - mem.length))
  let E2:Env:={ E' with O:=O2 }
  have isIx:∀ (i k:Nat),l[i]?=some k→ixOf l k=some i:=fun i k hi=>by
    cases hx:ixOf l k with
    | none=>exact absurd (List.mem_of_getElem? hi) (ixOf_none hx)
    | some j=>rw [nodupB_get hnd i j k hi (ixOf_some hx)]
  have hO2:∀ k p,E.O k=some p→E2.O k=some p:=fun k p hp=>by
    show (match ixOf l k with
      | some i=>E'.O i
      | none=>if k < mem.length then E.O k else E'.O (l.length+(k - mem.length)))=some p
    cases hx:ixOf l k with
    | none=>rw [if_pos (dom k p hp)]; exact hp
    | some i=>exact hW2.le0.own i p (hO1' i k p (ixOf_some hx) hp)
  /- what stands where, behind the call -/
  have hO2':∀ k p,E2.O k=some p→(k ∉ l∧k < mem.length∧E.O k=some p)∨∃ i r,E'.O i=some p∧mem1[i]?=some r∧mem'[k]?=some (renRow (putF l mem.length) r)∧putF l mem.length i=some k:=fun k p hp=>by
    have hp:(match ixOf l k with
      | some i=>E'.O i
      | none=>if k < mem.length then E.O k else E'.O (l.length+(k - mem.length)))=some p:=hp
    cases hx:ixOf l k with
    | some i =>
      rw [hx] at hp
      obtain ⟨r,hr⟩:=dom1 i p hp
      have hi:=ixOf_some hx
      exact Or.inr ⟨i,r,hp,hr,hF.mine i k r hi hr,by unfold putF; rw [hi]⟩
    | none =>
      rw [hx] at hp
      by_cases hk:k < mem.length
      · simp only [if_pos hk] at hp
        exact Or.inl ⟨ixOf_none hx,hk,hp⟩
      · simp only [if_neg hk] at hp
        obtain ⟨r,hr⟩:=dom1 _ p hp
        have e:mem.length+(l.length+(k - mem.length) - l.length)=k:=by omega
        have:=hF.fresh _ r (Nat.le_add_right _ _) hr
        rw [e] at this
        exact Or.inr ⟨_,r,hp,hr,this,by unfold putF; rw [List.getElem?_eq_none (by omega)]; simp only; rw [e]⟩
  have hback:∀ i k' p,putF l mem.length i=some k'→E'.O i=some p→O2 k'=some p:=fun i k' p hi hp=>by
    unfold putF at hi
    cases hx:l[i]? with
    | some k =>
      rw [hx] at hi
      simp only [Option.some.injEq] at hi
      subst hi
      show (match ixOf l k with
        | some i=>E'.O i
        | none=>if k < mem.length then E.O k else E'.O (l.length+(k - mem.length)))=some p
      rw [isIx i k hx]
      exact hp
    | none =>
      rw [hx] at hi
      simp only [Option.some.injEq] at hi
      have hil:=List.getElem?_eq_none_iff.1 hx
      have hk:ixOf l k'=none:=by
        cases hy:ixOf l k' with
        | none=>rfl
        | some j =>
          obtain ⟨row,g1,_⟩:=hmem j k' (ixOf_some hy)
          have:=(List.getElem?_eq_some_iff.1 g1).1
          omega
      show (match ixOf l k' with
        | some i=>E'.O i
        | none=>if k' < mem.length then E.O k' else E'.O (l.length+(k' - mem.length)))=some p
      rw [hk]
      simp only
      rw [if_neg (by omega),show l.length+(k' - mem.length)=i by omega]
      exact hp
  have hle:E.le E2:=⟨hW2.le0.keep,hO2⟩
  have liv1:∀ (i k:Nat) (r:Row),mem1[i]?=some r→mem'[k]?=some (renRow (putF l mem.length) r)→liveAt mem' k=true→liveAt mem1 i=true:=fun i k r h1 h2 h3=>by
    unfold liveAt at h3 ⊢
    rw [h2] at h3
    rw [h1]
    simp only [renRow_live] at h3
    exact h3
  have liv0:∀ k,k ∉ l→k < mem.length→liveAt mem' k=true→liveAt mem k=true:=fun k h1 h2 h3=>by
    unfold liveAt at h3 ⊢
    rw [hF.other k h1 h2] at h3
    exact h3
  have cross:∀ (k i:Nat) (b:Nat) (c c':Nat × Nat),k ∉ l→E.O k=some (b,c)→liveAt mem k=true→E'.O i=some (b,c')→liveAt mem1 i=true→False:=fun k i b c c' hk hb hlk ho hl1=>by
    rcases (hW2.own i b c' ho hl1).2 with ⟨k',c2,hk',hb'⟩ | g2
    · have:=hW.one k k' b c c2 hb hb' hlk (lives k' hk')
      subst this
      exact hk hk'
    · have:=hW.small b (hW.own k b c hb hlk).1
      have g2:E.w.heap.size≤b:=g2
      omega
  refine ⟨u,E2,rfl,rfl,hle,⟨?_,hW2.small,fun b hb=>hW2.old b (hW.old b hb),?_,?_,?_,hW.le0.trans hle⟩,relA_ren v hback u hrel⟩
  · intro k b c hb
    rcases hO2' k _ hb with ⟨h1,h2,h3⟩ | ⟨i,r,h1,h2,h3,_⟩
    · obtain ⟨row,g3,g4⟩:=hW.rows k b c h3
      refine ⟨row,by rw [hF.other k h1 h2]; exact g3,rowRel_keep hle g4 fun hlv=>?_⟩
      have hlk:liveAt mem k=true:=by unfold liveAt; rw [g3]; exact hlv
      refine hW2.below.block b (hW.small b (hW.own k b c h3 hlk).1) ?_
      rintro ⟨k',c',hk',hb'⟩
      have:=hW.one k k' b c c' h3 hb' hlk (lives k' hk')
      subst this
      exact h1 hk'
    · obtain ⟨row',g3,g4⟩:=hW2.rows i b c h1
      have:row'=r:=by
        have g3:mem1[i]?=some row':=g3
        rw [h2] at g3
        cases g3
        rfl
      subst this
      exact ⟨_,h3,renRow_rel hback g4⟩
  · intro k b c hb hlv
    rcases hO2' k _ hb with ⟨h1,h2,h3⟩ | ⟨i,r,h1,h2,h3,_⟩
    · obtain ⟨g1,g2⟩:=hW.own k b c h3 (liv0 k h1 h2 hlv)
      exact ⟨hW2.old b g1,g2⟩
    · obtain ⟨g1,g2⟩:=hW2.own i b c h1 (liv1 i k r h2 h3 hlv)
      refine ⟨g1,?_⟩
      rcases g2 with ⟨k',c',hk',hb'⟩ | g2
      · exact (hW.own k' b c' hb' (lives k' hk')).2
      · exact Or.inr (Nat.le_trans hW.below.size g2)
  · intro k k' b c c' hb hb' hlv hlv'
    rcases hO2' k _ hb with ⟨h1,h2,h3⟩ | ⟨i,r,h1,h2,h3,h4⟩
    · rcases hO2' k' _ hb' with ⟨g1,g2,g3⟩ | ⟨i',r',g1,g2,g3,_⟩
      · exact hW.one k k' b c c' h3 g3 (liv0 k h1 h2 hlv) (liv0 k' g1 g2 hlv')
      · exact (cross k i' b c c' h1 h3 (liv0 k h1 h2 hlv) g1 (liv1 i' k' r' g2 g3 hlv')).elim
    · rcases hO2' k' _ hb' with ⟨g1,g2,g3⟩ | ⟨i',r',g1,g2,g3,g4⟩
      · exact (cross k' i b c' c g1 g3 (liv0 k' g1 g2 hlv') h1 (liv1 i k r h2 h3 hlv)).elim
      · have:=hW2.one i i' b c c' h1 g1 (liv1 i k r h2 h3 hlv) (liv1 i' k' r' g2 g3 hlv')
        subst this
        rw [h4] at g4
        cases g4
        rfl
  · refine ⟨hW2.below.os.trans hW.below.os,hW2.below.tape.trans hW.below.tape,hW2.below.output.trans hW.below.output,Nat.le_trans hW.below.size hW2.below.size,fun b hb hn=>?_⟩
    refine (hW2.below.block b (Nat.lt_of_lt_of_le hb hW.below.size) ?_).trans (hW.below.block b hb hn)
    rintro ⟨k,c,hk,hk2⟩
    rcases (hW.own k b c hk2 (lives k hk)).2 with h | h
    · exact hn h
    · omega
end
end Go.Gv

namespace Go.Gv
open Go.RowKit Go.Ev
noncomputable section

/-- A contract over all of our rows, asked for where it is used. -/
def wQ (P:Program) (f:Nat) (g:List AV→List Row→AV) (m:List AV→List Row→List Row):WEntry:=⟨f,fun args mem=>some (propB (WSpec P f args mem (g args mem) (m args mem)),g args mem,m args mem)⟩
theorem wQ_ok {P:Program} {f:Nat} {g:List AV→List Row→AV} {m:List AV→List Row→List Row}:WEOk P (wQ P f g m):=fun args mem v mem1 h=>by
  have h:some (propB (WSpec P f args mem (g args mem) (m args mem)),g args mem,m args mem)=some (true,v,mem1):=h
  simp only [Option.some.injEq,Prod.mk.injEq] at h
  obtain ⟨h1,rfl,rfl⟩:=h
  exact propB_of h1
/-- A struct of ours, of two cells, looked at. -/
def rS2 (P:Program) (f:Nat) (g:List AV→AV):REntry:=⟨f,fun args look=>match args with
  | .own k 0::rest=>match look k with
    | some (.c [x,y])=>match lookC look y with
      | some (b,y',rd)=>cond (noOwn x&&noOwns rest) (some (propB (FreshSpec P f (.ref [x,y'] 0::rest) (g (.ref [x,y'] 0::rest))∧noOwn (g (.ref [x,y'] 0::rest))=true)&&b,g (.ref [x,y'] 0::rest),k::rd)) none
      | none=>none
    | _=>none
  | _=>none⟩
theorem rS2_ok {P:Program} {f:Nat} {g:List AV→AV}:REOk P (rS2 P f g):=by
  refine ⟨fun args look look' b v rd h hl=>?_,fun args look v rd h=>?_⟩
  · simp only [rS2] at h ⊢
    split at h
    · rename_i k rest
      split at h
      · rename_i x y hk
        split at h
        · rename_i b' y' rd' hx
          cases hn:(noOwn x&&noOwns rest)
          · rw [hn] at h; cases h
          · rw [hn] at h
            have h':=h
            simp only [cond_true,Option.some.injEq,Prod.mk.injEq] at h'
            obtain ⟨_,_,rfl⟩:=h'
            rw [← hl k (by simp),hk]
            simp only
            rw [lookC_par hx fun j hj=>hl j (by simp [hj])]
            simp only
            rw [hn]
            exact h
        · cases h
      · cases h
    · cases h
  · simp only [rS2] at h
    split at h
    · rename_i k rest
      split at h
      · rename_i x y hk
        split at h
        · rename_i b' y' rd' hx
          cases hn:(noOwn x&&noOwns rest)
          · rw [hn] at h; cases h
          · rw [hn] at h
            simp only [cond_true,Option.some.injEq,Prod.mk.injEq,Bool.and_eq_true] at h hn
            obtain ⟨⟨h1,rfl⟩,rfl,rfl⟩:=h
            obtain ⟨hF,hno⟩:=propB_of h1
            refine ⟨hF.1,fun A0 R w0 E mem cargs hW hl hg hr=>?_⟩
            have hg':glob (Env.shut E):=glob_O (glob_le (E:=E) (E':=⟨E.w,fun _=>False,E.O⟩) ⟨fun _ _ _ hob=>⟨id,hob⟩,fun _ _ h=>h⟩ hg) _
            obtain ⟨u,us,e1,r1,r2⟩:=rels_cons.1 hr
            obtain ⟨b,c,hO,rfl⟩:=rel_own.1 r1
            obtain ⟨row,g1,g2⟩:=hW.rows k b c hO
            rw [hl k (by simp),hk] at g1
            cases g1
            obtain ⟨cs,e,k1,k2⟩:=g2
            obtain ⟨u0,us0,e3,p0,k2⟩:=pre_cons.1 k2
            obtain ⟨u1,us1,e4,p1,_⟩:=pre_cons.1 k2
            have hsh:∀ b,¬ E.A b→∀ ob,E.w.heap[b]?=some ob→¬ E.shut.A b∧E.shut.w.heap[b]?=some ob:=fun _ _ _ hob=>⟨fun h=>h,hob⟩
            have q0:rel E.shut x u0:=relA_noOwn x hsh hn.1 u0 p0
            have q1:=lookC_good hW.rows hx (fun j hj=>hl j (by simp [hj])) p1
            have hr':rels E.shut (.ref [x,y'] 0::rest) cargs.toList:=by
              rw [e1]
              refine rels_cons.2 ⟨_,_,rfl,rel_ref.2 ⟨b,0,cs,e,(0,0),rfl,fun h=>h,k1,?_⟩,rels_noOwn r2 hn.2 hsh⟩
              rw [List.drop_zero,e3,e4]
              exact pre_cons.2 ⟨u0,_,rfl,q0,pre_cons.2 ⟨u1,us1,rfl,q1,pre_nil⟩⟩
            refine (hF.2 E.w cargs hr' hg').mono ?_
            rintro e' w' ⟨v',rfl,hv,hbel⟩
            exact ⟨v',rfl,relA_noOwn (g (.ref [x,y'] 0::rest)) (E:=⟨w',fun b=>b < E.w.heap.size,fun _=>none⟩) (E':={ E with w:=w' }) (fun b hnb ob hob=>⟨fun hA=>hnb (hW.small b hA),hob⟩) hno v' hv,hbel⟩
        · cases h
      · cases h
    · cases h
/-- The second row gets the third number. -/
theorem gspec_move {P:Program} {f:Nat} {args:List AV} {mem:List Row} {v X:AV} {T:TypeId} {sz m:Nat} {u:Nat→List AV} (hlen:mem.length=2) (h:GSpec P f args mem v [.c [X,.osl 1 sz 0 m],.a T sz m u]):GSpec P f args mem v [.c [X,.osl 2 sz 0 m],.dead,.a T sz m u]:=by
  refine ⟨h.1,fun R E cargs hp hW hg hr=>(h.2 R E cargs hp hW hg hr).mono ?_⟩
  rintro e w' ⟨x,E',rfl,rfl,hW2,hx⟩
  have h2:E.O 2=none:=hp.1 2 (by omega)
  have dom:∀ k p,E'.O k=some p→k=0∨k=1:=fun k p hk=>by
    obtain ⟨row,h1,_⟩:=hW2.rows k p.1 p.2 hk
    have:=(List.getElem?_eq_some_iff.1 h1).1
    simp only [List.length_cons,List.length_nil] at this
    omega
  let O2:Nat→Option (Nat × Nat × Nat):=fun k=>if k=2 then E'.O 1 else E'.O k
  let E2:Env:={ E' with O:=O2 }
  have hle:E'.le E2:=⟨fun b hb ob hob=>⟨hb,hob⟩,fun k p hk=>by
    have hne:k≠2:=by rcases dom k p hk with h | h<;>omega
    show (if k=2 then E'.O 1 else E'.O k)=some p
    rw [if_neg hne]; exact hk⟩
  have cases3:∀ k p,E2.O k=some p→(k=0∧E'.O 0=some p)∨(k=1∧E'.O 1=some p)∨(k=2∧E'.O 1=some p):=fun k p hk=>by
    have hk:(if k=2 then E'.O 1 else E'.O k)=some p:=hk
    by_cases h:k=2
    · rw [if_pos h] at hk; exact Or.inr (Or.inr ⟨h,hk⟩)
    · rw [if_neg h] at hk
      rcases dom k p hk with rfl | rfl
      · exact Or.inl ⟨rfl,hk⟩
      · exact Or.inr (Or.inl ⟨rfl,hk⟩)
  refine ⟨x,E2,rfl,rfl,⟨?_,hW2.small,hW2.old,?_,?_,hW2.below,hW2.le0.trans hle⟩,rel_le hle hx⟩
  · intro k b c hb
    rcases cases3 k _ hb with ⟨rfl,h1⟩ | ⟨rfl,h1⟩ | ⟨rfl,h1⟩
    · obtain ⟨row,g1,g2⟩:=hW2.rows 0 b c h1
      cases g1
      obtain ⟨cs,e,k1,k2⟩:=g2
      obtain ⟨u0,us0,e3,p0,k2⟩:=pre_cons.1 k2
      obtain ⟨u1,us1,e4,p1,k3⟩:=pre_cons.1 k2
      refine ⟨_,rfl,cs,e,k1,?_⟩
      rw [e3,e4]
      refine pre_cons.2 ⟨u0,_,rfl,rel_le hle p0,pre_cons.2 ⟨u1,us1,rfl,?_,pre_nil⟩⟩
      rcases rel_osl.1 p1 with g | ⟨b',c',n',g1,g2⟩
      · exact rel_osl.2 (Or.inl g)
      · exact rel_osl.2 (Or.inr ⟨b',c',n',by show (if 2=2 then E'.O 1 else E'.O 2)=_; rw [if_pos rfl]; exact g1,g2⟩)
    · exact ⟨.dead,rfl,trivial⟩
    · obtain ⟨row,g1,g2⟩:=hW2.rows 1 b c h1
      cases g1
      exact ⟨_,rfl,g2⟩
  · intro k b c hb hlv
    rcases cases3 k _ hb with ⟨rfl,h1⟩ | ⟨rfl,h1⟩ | ⟨rfl,h1⟩
    · exact hW2.own 0 b c h1 rfl
    · cases hlv
    · exact hW2.own 1 b c h1 rfl
  · intro k k' b c c' hb hb' hlv hlv'
    rcases cases3 k _ hb with ⟨rfl,h1⟩ | ⟨rfl,h1⟩ | ⟨rfl,h1⟩
    · rcases cases3 k' _ hb' with ⟨rfl,h1'⟩ | ⟨rfl,h1'⟩ | ⟨rfl,h1'⟩
      · rfl
      · cases hlv'
      · have:=hW2.one 0 1 b c c' h1 h1' rfl rfl
        cases this
    · cases hlv
    · rcases cases3 k' _ hb' with ⟨rfl,h1'⟩ | ⟨rfl,h1'⟩ | ⟨rfl,h1'⟩
      · have:=hW2.one 1 0 b c c' h1 h1' rfl rfl
        cases this
      · cases hlv'
      · rfl
end
end Go.Gv

namespace Go.Proofs.YtancjnambbkhmaaGreat
open Go.Gv

def skM (k:Nat) (C:Nat→Ply) (m:Nat) (u:Nat→Int):List Row:=[.c [chA k C,.osl 1 1 0 m],.a 3 1 m fun q=>[iA (u q)]]
def skR (k:Nat) (C:Nat→Ply) (m:Nat) (el:Nat→List AV):List Row:=[.c [chA k C,.osl 2 1 0 m],.dead,.a 3 1 m el]
section
variable (k:Nat) (C:Nat→Ply) (m:Nat) (u:Nat→Int) (la lb ls ha hb hs:Int)
def skG:List AV:=[.own 0 0,cutA la lb ls,cutA ha hb hs]
def skB:Bool:=cond (w64 (lb - hb)==1) (!(ls==hs)) false
def skT (a b c d:Option Out):Option Out:=cond (w64 (lb - hb)==0) a (cond (w64 (ha - la)==1) b (cond (skB lb ls hb hs) c d))
theorem skA_ev:evGW Tryz.prog [] [] [] [] [] (oneL 5 fun _ _=>none) Tryz.f251 (skG la lb ls ha hb hs) (skM k C m u) [some 0,some 1]=skT la lb ls ha hb hs (gout (.tup []) (skM k C m u)) none none none:=by kernel_rfl
abbrev SIok (r:Int):Prop:=FreshSpec Tryz.prog 265 [skA k C m u,cutA la lb ls,cutA ha hb hs] (iA r)∧noOwn (iA r)=true
noncomputable def skCb (r:Int):Bool:=((propB (SIok k C m u la lb ls ha hb hs r)&&(Nat.beq 1 1&&Nat.ble m m))||false)&&((apB m 8||false)&&true)
theorem skC_ev (r:Int):evGW Tryz.prog [] [] [] [] [rS2 Tryz.prog 265 (fun _=>iA r)] (oneL 5 fun _ _=>none) Tryz.f251 (skG la lb ls ha hb hs) (skM k C m u) [some 0,some 1,some 5]=skT la lb ls ha hb hs none none (cond (skCb k C m u la lb ls ha hb hs r) (gout (.tup []) (skR k C (m+1) fun q=>mixL (Nat.blt q m) [iA (u q)] [iA r])) none) none:=by kernel_rfl
def skMid:Int:=w64 (la+w64 ((w64 (ha - la)).tdiv 2))
def sk4 (X:AV) (F:AV) (r1:Row) (mb ms:Int) (rs:List Row):List Row:=[.c [X,F],r1,.c [iA la,iA lb,iA ls],.c [iA ha,iA hb,iA hs],.c [iA (skMid la ha),iA mb,iA ms]] ++ rs
abbrev AHok (mb ms:Int):Prop:=FreshSpec Tryz.prog 250 [skA k C m u,iA (skMid la ha)] (cutA (skMid la ha) mb ms)∧noOwn (cutA (skMid la ha) mb ms)=true
variable (mb ms:Int) (m1:Nat) (u1:Nat→Int) (m2:Nat) (u2:Nat→Int)
def skm0:List Row:=sk4 la lb ls ha hb hs (chA k C) (.osl 1 1 0 m) (.a 3 1 m fun q=>[iA (u q)]) mb ms []
def skm1:List Row:=sk4 la lb ls ha hb hs (chA k C) (.osl 5 1 0 m1) .dead mb ms [.a 3 1 m1 fun q=>[iA (u1 q)]]
def skm2:List Row:=sk4 la lb ls ha hb hs (chA k C) (.osl 6 1 0 m2) .dead mb ms [.dead,.a 3 1 m2 fun q=>[iA (u2 q)]]
abbrev SK1:Prop:=WSpec Tryz.prog 251 [.own 0 0,cutA la lb ls,cutA (skMid la ha) mb ms] (skm0 k C m u la lb ls ha hb hs mb ms) (.tup []) (skm1 k C la lb ls ha hb hs mb ms m1 u1)
abbrev SK2:Prop:=WSpec Tryz.prog 251 [.own 0 0,cutA (skMid la ha) mb ms,cutA ha hb hs] (skm1 k C la lb ls ha hb hs mb ms m1 u1) (.tup []) (skm2 k C la lb ls ha hb hs mb ms m2 u2)
def skmF (mem:List Row):List Row:=cond (Nat.beq mem.length 5) (skm1 k C la lb ls ha hb hs mb ms m1 u1) (skm2 k C la lb ls ha hb hs mb ms m2 u2)
noncomputable def skD:Option Out:=cond ((propB (AHok k C m u la ha mb ms)&&(Nat.beq 1 1&&Nat.ble m m))||false) (cond (propB (SK1 k C m u la lb ls ha hb hs mb ms m1 u1)) (cond (propB (SK2 k C la lb ls ha hb hs mb ms m1 u1 m2 u2)) (gout (.tup []) (skR k C m2 fun q=>[iA (u2 q)])) none) none) none
theorem skD_ev:evGW Tryz.prog [] [] [] [wQ Tryz.prog 251 (fun _ _=>.tup []) (fun _ mem=>skmF k C la lb ls ha hb hs mb ms m1 u1 m2 u2 mem)] [rS2 Tryz.prog 250 (fun _=>cutA (skMid la ha) mb ms)] (oneL 5 fun _ _=>none) Tryz.f251 (skG la lb ls ha hb hs) (skM k C m u) [some 0,some 1,some 6]=skT la lb ls ha hb hs none none none (skD k C m u la lb ls ha hb hs mb ms m1 u1 m2 u2):=by kernel_rfl
end
section
variable (k:Nat) (C:Nat→Ply) (m:Nat) (u:Nat→Int) (la lb ls ha hb hs i n:Int)
def sp0:St:=mkS 77 [(0,.own 0 0),(4,.own 2 0),(5,.own 3 0),(21,iA n),(22,iA i)] [.c [chA k C,.osl 1 1 0 m],.a 3 1 m fun q=>[iA (u q)],.c [iA la,iA lb,iA ls],.c [iA ha,iA hb,iA hs]]
def sp1 (el:Nat→List AV):St:=mkS 77 [(0,.own 0 0),(4,.own 2 0),(5,.own 3 0),(21,iA n),(22,iA i)] [.c [chA k C,.osl 4 1 0 m],.dead,.c [iA la,iA lb,iA ls],.c [iA ha,iA hb,iA hs],.a 3 1 m el]
def keepSp:List Nat:=[0,4,5,21,22]
def spB:Bool:=(apB m 8||false)&&true
theorem sp_step0:evCM Tryz.prog [] [] [] noL (loopAt Tryz.f251 0) (sp0 k C m u la lb ls ha hb hs i n) (finN keepSp [some 0,some 1,some 2,some 3,some 5])=cond (decide (i < n)) (cond (spB m) (some ⟨.normal,sp1 k C (m+1) la lb ls ha hb hs (w64 (i+1)) n fun q=>mixL (Nat.blt q m) [iA (u q)] [iA la],.any⟩) none) none:=by kernel_rfl
theorem sp_step1:evCM Tryz.prog [] [] [] noL (loopAt Tryz.f251 0) (sp1 k C m la lb ls ha hb hs i n fun q=>[iA (u q)]) (finN keepSp [some 0,some 1,some 2,some 3,some 6])=cond (decide (i < n)) (cond (spB m) (some ⟨.normal,sp1 k C (m+1) la lb ls ha hb hs (w64 (i+1)) n fun q=>mixL (Nat.blt q m) [iA (u q)] [iA la],.any⟩) none) none:=by kernel_rfl
theorem sp_end1:evCM Tryz.prog [] [] [] noL (loopAt Tryz.f251 0) (sp1 k C m la lb ls ha hb hs i n fun q=>[iA (u q)]) (finE keepSp [some 0,some 1,some 2,some 3,some 4])=cond (decide (i < n)) (cond (spB m) none none) (some ⟨.exit 0,sp1 k C m la lb ls ha hb hs i n fun q=>[iA (u q)],.any⟩):=by kernel_rfl
theorem skB_ev (m1:Nat) (u1:Nat→Int) (n':Int):evGW Tryz.prog [] [] [] [] [] (oneL 5 (toldP 2 keepSp [some 0,some 1,some 2,some 3] (sp0 k C m u la lb ls ha hb hs 0 n) (.exit 0) (sp1 k C m1 la lb ls ha hb hs n' n fun q=>[iA (u1 q)]))) Tryz.f251 (skG la lb ls ha hb hs) (skM k C m u) [some 0,some 1,some 4]=skT la lb ls ha hb hs none (gate (SubN 2 (sp0 k C m u la lb ls ha hb hs 0 (w64 (lb - hb))) (sp0 k C m u la lb ls ha hb hs 0 n)) (gout (.tup []) (skR k C m1 fun q=>[iA (u1 q)]))) none none:=by kernel_rfl
end
end Go.Proofs.YtancjnambbkhmaaGreat

namespace Go.Proofs.YtancjnambbkhmaaGreat
open Go.Gv

def mdI (a b:Int):Int:=a+(b - a) / 2
theorem mid_eq {a b:Int} (h:a < b) (h1:-2000000000000000≤a) (h2:b≤2000000000000000):skMid a b=mdI a b:=by
  unfold skMid mdI
  rw [w64_id (n:=b - a) (by omega) (by omega),Int.tdiv_eq_ediv_of_nonneg (by omega),w64_id (n:=(b - a) / 2) (by omega) (by omega),w64_id (by omega) (by omega)]
theorem siM_eq {a b:Int} (h:a < b) (h1:-2000000000000000≤a) (h2:b≤2000000000000000):siM a b=mdI a b:=mid_eq h h1 h2
def sgs (S:Int→Int) (s:Int) (p:Int × Int):Int × Int:=if S (mdI p.1 p.2)=s then (mdI p.1 p.2,p.2) else (p.1,mdI p.1 p.2)
def sgi (S:Int→Int) (s:Int):Nat→Int × Int→Int × Int
  | 0,p=>p
  | j+1,p=>sgi S s j (sgs S s p)
theorem sgi_succ (S:Int→Int) (s:Int):∀ j p,sgi S s (j+1) p=sgs S s (sgi S s j p)
  | 0,_=>rfl
  | j+1,p=>sgi_succ S s j (sgs S s p)
def sgn (S:Int→Int) (s:Int):Nat→Int × Int→Nat
  | 0,_=>0
  | k+1,p=>if p.2 - p.1 > 1 then sgn S s k (sgs S s p)+1 else 0
theorem sgs_in {S:Int→Int} {s:Int} {p:Int × Int} (h:p.2 - p.1 > 1):p.1≤(sgs S s p).1∧(sgs S s p).2≤p.2∧(sgs S s p).1 < (sgs S s p).2∧(sgs S s p).2 - (sgs S s p).1 < p.2 - p.1:=by
  unfold sgs mdI
  split
  · refine ⟨?_,Int.le_refl _,?_,?_⟩
    · show p.1≤p.1+(p.2 - p.1) / 2; omega
    · show p.1+(p.2 - p.1) / 2 < p.2; omega
    · show p.2 - (p.1+(p.2 - p.1) / 2) < p.2 - p.1; omega
  · refine ⟨Int.le_refl _,?_,?_,?_⟩
    · show p.1+(p.2 - p.1) / 2≤p.2; omega
    · show p.1 < p.1+(p.2 - p.1) / 2; omega
    · show p.1+(p.2 - p.1) / 2 - p.1 < p.2 - p.1; omega
theorem sgn_ok (S:Int→Int) (s:Int):∀ (k:Nat) (p:Int × Int),p.1 < p.2→(p.2 - p.1).toNat≤k→(∀ j,j < sgn S s k p→(sgi S s j p).2 - (sgi S s j p).1 > 1)∧¬ (sgi S s (sgn S s k p) p).2 - (sgi S s (sgn S s k p) p).1 > 1∧∀ j,j≤sgn S s k p→p.1≤(sgi S s j p).1∧(sgi S s j p).2≤p.2∧(sgi S s j p).1 < (sgi S s j p).2
  | 0,p,h,hk=>by omega
  | k + 1,p,h,hk=>by
    unfold sgn
    by_cases hp:p.2 - p.1 > 1
    · rw [if_pos hp]
      obtain ⟨i1,i2,i3,i4⟩:=sgs_in (S:=S) (s:=s) hp
      obtain ⟨h1,h2,h3⟩:=sgn_ok S s k (sgs S s p) i3 (by omega)
      refine ⟨fun j hj=>?_,h2,fun j hj=>?_⟩
      · cases j with
        | zero=>exact hp
        | succ j=>exact h1 j (by omega)
      · cases j with
        | zero=>exact ⟨Int.le_refl _,Int.le_refl _,h⟩
        | succ j =>
          obtain ⟨a1,a2,a3⟩:=h3 j (by omega)
          exact ⟨Int.le_trans i1 a1,Int.le_trans a2 i2,a3⟩
    · rw [if_neg hp]
      exact ⟨fun j hj=>by omega,hp,fun j hj=>by
        have:j=0:=by omega
        subst this
        exact ⟨Int.le_refl _,Int.le_refl _,h⟩⟩
def sgl (S:Int→Int) (s a b:Int):Int:=(sgi S s (sgn S s (b - a).toNat (a,b)) (a,b)).1
/-- What is known of the chain: its signs just ahead of places. -/
structure SgOk (k:Nat) (C:Nat→Ply) (N S:Int→Int) (lo hi:Int):Prop where
  k0:0 < k
  l:-2000000000000000≤lo
  h:hi≤2000000000000000
  sg:∀ a,lo≤a→a≤hi→FSpec Tryz.prog 264 [PlyA (C 0),wA a] (iA (S a))
  nn:∀ a,lo≤a→a≤hi→0≤N a∧N a≤1000
  mono:∀ a b,lo≤a→a≤b→b≤hi→N b≤N a
  ah:∀ a,lo≤a→a≤hi→∀ (m:Nat) (u:Nat→Int),FSpec Tryz.prog 250 [skA k C m u,iA a] (cutA a (N a) (S a))
theorem si_spec {k:Nat} {C:Nat→Ply} {N S:Int→Int} {lo hi:Int} (H:SgOk k C N S lo hi) {a b:Int} (hab:a < b) (ha:lo≤a) (hb:b≤hi) (m:Nat) (u:Nat→Int) (lb ls hb' hs:Int):FSpec Tryz.prog 265 [skA k C m u,cutA a lb ls,cutA b hb' hs] (iA (sgl S ls a b)):=by
  have ks:∀ s:Int,∀ e,e ∈ [kS Tryz.prog 258 woG,kS Tryz.prog 264 (fun _=>iA s)]→KOk Tryz.prog e:=fun _=>k_cons kS_ok (k_cons kS_ok k_nil)
  have hl:=H.l
  have hh:=H.h
  obtain ⟨h1,h2,h3⟩:=sgn_ok S ls (b - a).toNat (a,b) hab (Nat.le_refl _)
  have lead:Leads Tryz.prog (.loop (loopAt Tryz.f265 0)) (siS k C m u a lb ls b hb' hs a b) (.exit 0) (siS k C m u a lb ls b hb' hs (sgl S ls a b) (sgi S ls (sgn S ls (b - a).toNat (a,b)) (a,b)).2):=by
    refine loop_rule (fun j=>siS k C m u a lb ls b hb' hs (sgi S ls j (a,b)).1 (sgi S ls j (a,b)).2) (sgn S ls (b - a).toNat (a,b)) (.exit 0) _ (by simp) (fun j hj=>?_) ?_
    · have hgt:=h1 j hj
      obtain ⟨i1,i2,i3⟩:=h3 j (by omega)
      have i1:a≤(sgi S ls j (a,b)).1:=i1
      have i2:(sgi S ls j (a,b)).2≤b:=i2
      show Leads Tryz.prog _ _ .normal (siS k C m u a lb ls b hb' hs (sgi S ls (j+1) (a,b)).1 (sgi S ls (j+1) (a,b)).2)
      rw [sgi_succ]
      generalize sgi S ls j (a,b)=p at *
      have em:=siM_eq i3 (show -2000000000000000≤p.1 by omega) (show p.2≤2000000000000000 by omega)
      have hmid:p.1≤mdI p.1 p.2∧mdI p.1 p.2≤p.2:=by unfold mdI; omega
      have st:=si_step k C m u a lb ls b hb' hs p.1 p.2 (S (mdI p.1 p.2))
      unfold siT at st
      rw [em,w64_id (n:=p.2 - p.1) (by omega) (by omega),decide_eq_true hgt,gate_pos (wo_spec (x:=mdI p.1 p.2) (by omega) (by omega)),gate_pos (H.sg _ (by omega) (by omega)),show ixB 0 k=true from ixB_t (i:=0) H.k0] at st
      unfold sgs
      by_cases hc:S (mdI p.1 p.2)=ls
      · rw [if_pos hc]
        rw [hc,BEq.rfl] at st
        exact leads_ev (finN_sub _ _) e_nil (ks _) noL_ok st
      · rw [if_neg hc]
        rw [beq_false_of_ne hc] at st
        exact leads_ev (finN_sub _ _) e_nil (ks _) noL_ok st
    · obtain ⟨i1,i2,i3⟩:=h3 _ (Nat.le_refl _)
      have i1:a≤(sgi S ls (sgn S ls (b - a).toNat (a,b)) (a,b)).1:=i1
      have i2:(sgi S ls (sgn S ls (b - a).toNat (a,b)) (a,b)).2≤b:=i2
      refine leads_ev (finE_sub _ _) e_nil (ks 0) noL_ok ((si_end k C m u a lb ls b hb' hs _ _ 0).trans ?_)
      unfold siT
      rw [w64_id (by omega) (by omega),decide_eq_false h2]
      rfl
  refine gspec e_nil k_nil Tryz.func265 (by kernel_rfl) (by kernel_rfl) (lok_at (i:=2) 0 1 (by kernel_rfl) (by kernel_rfl) (toldF_sound (keep:=keepSi) (τ:=[some 0,some 1]) lead)) rfl ((si_ev k C m u a lb ls b hb' hs _ _).trans ?_)
  rw [gate_pos (Sub.refl _)]
def skL (N S:Int→Int):Nat→Int→Int→List Int
  | 0,_,_=>[]
  | d+1,a,b=>if N a=N b then [] else if b - a=1 then List.replicate (N a - N b).toNat a else if N a - N b=1∧S a≠S b then [sgl S (S a) a b] else skL N S d a (mdI a b) ++ skL N S d (mdI a b) b
/-- Numbers, and more behind them. -/
def apL (m:Nat) (u:Nat→Int) (L:List Int) (q:Nat):Int:=if q < m then u q else L.getD (q - m) 0
theorem apL_app (m:Nat) (u:Nat→Int) (L L':List Int):apL (m+L.length) (apL m u L) L'=apL m u (L ++ L'):=funext fun q=>by
  unfold apL
  by_cases h:q < m
  · rw [if_pos h,if_pos (show q < m+L.length by omega),if_pos h]
  · by_cases h2:q < m+L.length
    · rw [if_pos h2,if_neg h,if_neg h,List.getD_eq_getElem?_getD,List.getD_eq_getElem?_getD,List.getElem?_append_left (by omega)]
    · rw [if_neg h2,if_neg h,List.getD_eq_getElem?_getD,List.getD_eq_getElem?_getD,List.getElem?_append_right (by omega),show q - m - L.length=q - (m+L.length) by omega]
theorem apL_one (m:Nat) (u:Nat→Int) (x:Int) {q:Nat} (hq:q < m+1):mixL (Nat.blt q m) [iA (u q)] [iA x]=[iA (apL m u [x] q)]:=by
  rw [mixI]
  unfold apL
  cases hlt:Nat.blt q m
  · have:=not_blt hlt
    have e:q=m:=by omega
    subst e
    rw [if_neg (Nat.lt_irrefl _),Nat.sub_self]
    rfl
  · rw [if_pos (show q < m from Nat.le_of_ble_eq_true hlt)]
    rfl
end Go.Proofs.YtancjnambbkhmaaGreat

namespace Go.Proofs.YtancjnambbkhmaaGreat
open Go.Gv

theorem rep_next (j:Nat) (a:Int):List.replicate (j+1) a=List.replicate j a ++ [a]:=List.replicate_succ'
theorem spB_t {m:Nat} (h:m≤1000000):spB m=true:=by unfold spB; rw [apB_t (by omega)]; rfl
def spS (k:Nat) (C:Nat→Ply) (m:Nat) (u:Nat→Int) (la lb ls ha hb hs n:Int):Nat→St
  | 0=>sp0 k C m u la lb ls ha hb hs 0 n
  | j+1=>sp1 k C (m+(j+1)) la lb ls ha hb hs ((j+1:Nat):Int) n fun q=>[iA (apL m u (List.replicate (j+1) la) q)]
theorem sp_leads (k:Nat) (C:Nat→Ply) {m:Nat} (u:Nat→Int) (la lb ls ha hb hs:Int) {r:Nat} (hr:r≤1000) (hm:m≤100000):LeadsN 2 Tryz.prog (.loop (loopAt Tryz.f251 0)) (sp0 k C m u la lb ls ha hb hs 0 ((r+1:Nat):Int)) (.exit 0) (sp1 k C (m+(r+1)) la lb ls ha hb hs ((r+1:Nat):Int) ((r+1:Nat):Int) fun q=>[iA (apL m u (List.replicate (r+1) la) q)]):=by
  refine loop_rule (spS k C m u la lb ls ha hb hs ((r+1:Nat):Int)) (r+1) (.exit 0) _ (by simp) (fun j hj=>?_) ?_
  · cases j with
    | zero =>
      have st:=sp_step0 k C m u la lb ls ha hb hs 0 ((r+1:Nat):Int)
      rw [decide_eq_true (show (0:Int) < ((r+1:Nat):Int) by omega),spB_t (by omega)] at st
      refine (leads_evMN (finN_subN _ (by rfl)) e_nil k_nil m_nil noL_okN st).sub (SubN.refl _) ?_
      refine sub_same ⟨Or.inl rfl,Or.inl rfl,Or.inl rfl,Or.inl rfl,Or.inr ⟨3,1,m+1,_,_,rfl,rfl,fun q hq=>?_⟩,trivial⟩
      exact (apL_one m u la hq).symm
    | succ j =>
      have st:=sp_step1 k C (m+(j+1)) (apL m u (List.replicate (j+1) la)) la lb ls ha hb hs ((j+1:Nat):Int) ((r+1:Nat):Int)
      rw [dec_lt (by omega),spB_t (by omega),w64_next (by omega)] at st
      refine (leads_evMN (finN_subN _ (by rfl)) e_nil k_nil m_nil noL_okN st).sub (SubN.refl _) ?_
      refine sub_same ⟨Or.inl rfl,Or.inl rfl,Or.inl rfl,Or.inl rfl,Or.inr ⟨3,1,m+(j+1)+1,_,_,rfl,rfl,fun q hq=>?_⟩,trivial⟩
      have e:=apL_app m u (List.replicate (j+1) la) [la]
      rw [List.length_replicate] at e
      rw [apL_one _ _ la hq,e,rep_next (j+1)]
  · refine leads_evMN (finE_subN _ (by rfl)) e_nil k_nil m_nil noL_okN ((sp_end1 k C (m+(r+1)) (apL m u (List.replicate (r+1) la)) la lb ls ha hb hs ((r+1:Nat):Int) ((r+1:Nat):Int)).trans ?_)
    rw [dec_self,cond_false]
theorem skL_len {N S:Int→Int} {lo hi:Int} (mono:∀ a b,lo≤a→a≤b→b≤hi→N b≤N a):∀ (d:Nat) (a b:Int),lo≤a→a≤b→b≤hi→((skL N S d a b).length:Int)≤N a - N b
  | 0,a,b,h1,h2,h3=>by have:=mono a b h1 h2 h3; show (0:Int)≤_; omega
  | d + 1,a,b,h1,h2,h3=>by
    have h:=mono a b h1 h2 h3
    unfold skL
    split
    · show (0:Int)≤_; omega
    · split
      · rw [List.length_replicate]; omega
      · split
        · rename_i hs
          show (1:Int)≤_
          omega
        · have hm:a≤mdI a b∧mdI a b≤b:=by unfold mdI; omega
          have e1:=skL_len (S:=S) mono d a (mdI a b) h1 hm.1 (by omega)
          have e2:=skL_len (S:=S) mono d (mdI a b) b (by omega) hm.2 h3
          rw [List.length_append]
          omega
theorem lok_noneN {np:Nat} {P:Program} {c:Code} (i:Nat):LOkN np P (oneL i fun _ _=>none) c:=by
  intro c' _ i' g' _ hg
  unfold oneL at hg
  cases hb:Nat.beq i' i
  · rw [hb] at hg; cases hg
  · rw [hb] at hg
    cases hg
    constructor
    · intro s k r hr; cases hr
    · intro s s' e' hk
      have:=hk fun e s=>some ⟨e,s,.any⟩
      cases this
theorem len2 {l:List Nat} {i k:Nat} {a b:Nat} (hl:l=[a,b]) (h:l[i]?=some k):(i=0∧k=a)∨(i=1∧k=b):=by
  subst hl
  match i,h with
  | 0,h=>simp at h; exact Or.inl ⟨rfl,h.symm⟩
  | 1,h=>simp at h; exact Or.inr ⟨rfl,h.symm⟩
  | n+2,h=>simp at h
section
variable {k:Nat} {C:Nat→Ply} {N S:Int→Int} {lo hi:Int}
abbrev SeekOk (k:Nat) (C:Nat→Ply) (N S:Int→Int) (a b:Int) (m:Nat) (u:Nat→Int) (L:List Int):Prop:=GSpec Tryz.prog 251 (skG a (N a) (S a) b (N b) (S b)) (skM k C m u) (.tup []) (skR k C (m+L.length) fun q=>[iA (apL m u L q)])
theorem sk1_of {la ha:Int} {a b:Int} {m:Nat} {u:Nat→Int} {L:List Int} {mb ms:Int} (hb hs:Int) (ea:la=a) (eb:skMid la ha=b) (em:mb=N b) (es:ms=S b) (h:SeekOk k C N S a b m u L):SK1 k C m u la (N a) (S a) ha hb hs mb ms (m+L.length) (apL m u L):=by
  subst ea eb em es
  refine wframe h [0,1] rfl rfl rfl (fun i j hi=>?_) ⟨fun j hj hl=>?_,fun i j r hi hr=>?_,fun i r hi hr=>?_⟩
  · rcases len2 rfl hi with ⟨rfl,rfl⟩ | ⟨rfl,rfl⟩
    · exact ⟨_,rfl,rfl,rfl⟩
    · exact ⟨_,rfl,rfl,rfl⟩
  · match j,hj,hl with
    | 0,hj,_=>exact absurd (by simp) hj
    | 1,hj,_=>exact absurd (by simp) hj
    | 2,_,_=>rfl
    | 3,_,_=>rfl
    | 4,_,_=>rfl
    | n+5,_,hl=>exact absurd hl (by show ¬ n+5 < 5; omega)
  · rcases len2 rfl hi with ⟨rfl,rfl⟩ | ⟨rfl,rfl⟩
    · cases hr; rfl
    · cases hr; rfl
  · match i,hi,hr with
    | 0,hi,_=>exact absurd hi (by show ¬ 2≤0; omega)
    | 1,hi,_=>exact absurd hi (by show ¬ 2≤1; omega)
    | 2,_,hr=>cases hr; rfl
    | n+3,_,hr=>cases hr
theorem sk2_of {la ha lb ls:Int} {a b:Int} {m:Nat} {u:Nat→Int} {L:List Int} {mb ms:Int} (ea:skMid la ha=a) (eb:ha=b) (em:mb=N a) (es:ms=S a) (h:SeekOk k C N S a b m u L):SK2 k C la lb ls ha (N b) (S b) mb ms m u (m+L.length) (apL m u L):=by
  subst ea eb em es
  refine wframe h [0,5] rfl rfl rfl (fun i j hi=>?_) ⟨fun j hj hl=>?_,fun i j r hi hr=>?_,fun i r hi hr=>?_⟩
  · rcases len2 rfl hi with ⟨rfl,rfl⟩ | ⟨rfl,rfl⟩
    · exact ⟨_,rfl,rfl,rfl⟩
    · exact ⟨_,rfl,rfl,rfl⟩
  · match j,hj,hl with
    | 0,hj,_=>exact absurd (by simp) hj
    | 1,_,_=>rfl
    | 2,_,_=>rfl
    | 3,_,_=>rfl
    | 4,_,_=>rfl
    | 5,hj,_=>exact absurd (by simp) hj
    | n+6,_,hl=>exact absurd hl (by show ¬ n+6 < 6; omega)
  · rcases len2 rfl hi with ⟨rfl,rfl⟩ | ⟨rfl,rfl⟩
    · cases hr; rfl
    · cases hr; rfl
  · match i,hi,hr with
    | 0,hi,_=>exact absurd hi (by show ¬ 2≤0; omega)
    | 1,hi,_=>exact absurd hi (by show ¬ 2≤1; omega)
    | 2,_,hr=>cases hr; rfl
    | n+3,_,hr=>cases hr
theorem seek_spec (H:SgOk k C N S lo hi):∀ (d:Nat) (a b:Int),lo≤a→a≤b→b≤hi→b - a≤d→∀ (m:Nat) (u:Nat→Int),(m:Int)+(N a - N b)≤2000→SeekOk k C N S a b m u (skL N S (d+1) a b)
  | d, a, b,h1,h2,h3,hd,m,u,hm=>by
    have hl:=H.l
    have hh:=H.h
    have na:=H.nn a h1 (by omega)
    have nb:=H.nn b (by omega) h3
    have mo:=H.mono a b h1 h2 h3
    have ew:w64 (N a - N b)=N a - N b:=w64_id (by omega) (by omega)
    have ew2:w64 (b - a)=b - a:=w64_id (by omega) (by omega)
    by_cases hA:N a=N b
    · have eL:skL N S (d+1) a b=[]:=by unfold skL; rw [if_pos hA]
      rw [eL]
      have g:=gspecGW e_nil k_nil m_nil w_nil r_nil Tryz.func251 (by kernel_rfl) (by kernel_rfl) (mem:=skM k C m u) (lok_noneN 5) rfl (τ:=[some 0,some 1]) (by rfl) (v:=.tup []) (mem1:=skM k C m u) ((skA_ev k C m u a (N a) (S a) b (N b) (S b)).trans (by
        unfold skT
        rw [ew,show N a - N b=0 by omega]
        rfl))
      refine GSpec.of_rows (gspec_move rfl g) ⟨Or.inl rfl,Or.inl rfl,Or.inr ⟨3,1,m,_,_,rfl,rfl,fun q hq=>?_⟩,trivial⟩
      show [iA (apL m u [] q)]=[iA (u q)]
      unfold apL
      rw [if_pos hq]
    · have e0 : (w64 (N a - N b) == 0)=false:=by rw [ew]; exact beq_false_of_ne (by omega)
      by_cases hB:b - a=1
      · obtain ⟨r,hr⟩:∃ r:Nat,N a - N b=((r+1:Nat):Int):=⟨(N a - N b).toNat - 1,by omega⟩
        have eL:skL N S (d+1) a b=List.replicate (r+1) a:=by unfold skL; rw [if_neg hA,if_pos hB,hr,Int.toNat_natCast]
        rw [eL]
        unfold SeekOk
        rw [List.length_replicate]
        refine gspecGW e_nil k_nil m_nil w_nil r_nil Tryz.func251 (by kernel_rfl) (by kernel_rfl) (mem:=skM k C m u) (lokN_one (g:=toldP 2 keepSp [some 0,some 1,some 2,some 3] (sp0 k C m u a (N a) (S a) b (N b) (S b) 0 ((r+1:Nat):Int)) (.exit 0) (sp1 k C (m+(r+1)) a (N a) (S a) b (N b) (S b) ((r+1:Nat):Int) ((r+1:Nat):Int) fun q=>[iA (apL m u (List.replicate (r+1) a) q)])) (i:=5) 1 (by kernel_rfl) fun j hj _=>?_) rfl (τ:=[some 0,some 1,some 4]) (by rfl) ((skB_ev k C m u a (N a) (S a) b (N b) (S b) ((r+1:Nat):Int) (m+(r+1)) (apL m u (List.replicate (r+1) a)) ((r+1:Nat):Int)).trans ?_)
        · have:j=0:=by omega
          subst this
          exact toldP_sound (by rfl) (sp_leads k C u a (N a) (S a) b (N b) (S b) (by omega) (by omega))
        · unfold skT
          rw [e0,ew2,hB,ew,hr,gate_pos (SubN.refl _)]
          rfl
      · have e1:(w64 (b - a)==1)=false:=by rw [ew2]; exact beq_false_of_ne hB
        by_cases hC:N a - N b=1∧S a≠S b
        · have hlt : a < b := by rcases Int.lt_or_eq_of_le h2 with h | h; · exact h
                                 · subst h; exact absurd rfl hA
          have eL:skL N S (d+1) a b=[sgl S (S a) a b]:=by unfold skL; rw [if_neg hA,if_neg hB,if_pos hC]
          rw [eL]
          have hs:SIok k C m u a (N a) (S a) b (N b) (S b) (sgl S (S a) a b):=⟨fresh_plain (si_spec H hlt h1 h3 m u _ _ _ _) rfl,rfl⟩
          refine GSpec.of_rows (mem1:=skR k C (m+1) fun q=>mixL (Nat.blt q m) [iA (u q)] [iA (sgl S (S a) a b)]) (gspecGW e_nil k_nil m_nil w_nil (r_cons rS2_ok r_nil) Tryz.func251 (by kernel_rfl) (by kernel_rfl) (mem:=skM k C m u) (lok_noneN 5) rfl (τ:=[some 0,some 1,some 5]) (by rfl) ((skC_ev k C m u a (N a) (S a) b (N b) (S b) (sgl S (S a) a b)).trans ?_)) ⟨Or.inl rfl,Or.inl rfl,Or.inr ⟨3,1,m+1,_,_,rfl,rfl,fun q hq=>(apL_one m u _ hq).symm⟩,trivial⟩
          unfold skT skB skCb
          rw [e0,e1,ew,hC.1,beq_false_of_ne hC.2,propB_t hs,apB_t (by omega),Nat.ble_eq_true_of_le (Nat.le_refl m)]
          rfl
        · have hlt : a < b := by rcases Int.lt_or_eq_of_le h2 with h | h; · exact h
                                 · subst h; exact absurd rfl hA
          have em:=mid_eq hlt (by omega) (by omega)
          have hmid:a < mdI a b∧mdI a b < b:=by unfold mdI; omega
          obtain ⟨d',rfl⟩:∃ d',d=d'+1:=⟨d - 1,by omega⟩
          have nm:=H.nn (mdI a b) (by omega) (by omega)
          have m1:=H.mono a (mdI a b) h1 (by omega) (by omega)
          have m2:=H.mono (mdI a b) b (by omega) (by omega) h3
          have len1:=skL_len (S:=S) H.mono (d'+1) a (mdI a b) h1 (by omega) (by omega)
          have i1:=seek_spec H d' a (mdI a b) h1 (by omega) (by omega) (by omega) m u (by omega)
          have i2:=seek_spec H d' (mdI a b) b (by omega) (by omega) h3 (by omega) (m+(skL N S (d'+1) a (mdI a b)).length) (apL m u (skL N S (d'+1) a (mdI a b))) (by omega)
          have eL:skL N S (d'+1+1) a b=skL N S (d'+1) a (mdI a b) ++ skL N S (d'+1) (mdI a b) b:=by
            show (if N a=N b then [] else if b - a=1 then List.replicate (N a - N b).toNat a else if N a - N b=1∧S a≠S b then [sgl S (S a) a b] else skL N S (d'+1) a (mdI a b) ++ skL N S (d'+1) (mdI a b) b)=_
            rw [if_neg hA,if_neg hB,if_neg hC]
          rw [eL]
          unfold SeekOk
          rw [List.length_append,← apL_app,← Nat.add_assoc]
          have k1:=sk1_of (la:=a) (ha:=b) (N b) (S b) rfl em rfl rfl i1
          have k2:=sk2_of (la:=a) (ha:=b) (lb:=N a) (ls:=S a) em rfl rfl rfl i2
          have hAH:AHok k C m u a b (N (mdI a b)) (S (mdI a b)):=by
            unfold AHok
            rw [em]
            exact ⟨fresh_plain (H.ah (mdI a b) (by omega) (by omega) m u) rfl,rfl⟩
          refine gspecGW e_nil k_nil m_nil (w_cons wQ_ok w_nil) (r_cons rS2_ok r_nil) Tryz.func251 (by kernel_rfl) (by kernel_rfl) (mem:=skM k C m u) (lok_noneN 5) rfl (τ:=[some 0,some 1,some 6]) (by rfl) ((skD_ev k C m u a (N a) (S a) b (N b) (S b) (N (mdI a b)) (S (mdI a b)) (m+(skL N S (d'+1) a (mdI a b)).length) (apL m u (skL N S (d'+1) a (mdI a b))) (m+(skL N S (d'+1) a (mdI a b)).length+(skL N S (d'+1) (mdI a b) b).length) (apL (m+(skL N S (d'+1) a (mdI a b)).length) (apL m u (skL N S (d'+1) a (mdI a b))) (skL N S (d'+1) (mdI a b) b))).trans ?_)
          have eb:skB (N a) (S a) (N b) (S b)=false:=by
            unfold skB
            rw [ew]
            by_cases hn:N a - N b=1
            · have hs:S a=S b:=Decidable.byContradiction fun h=>hC ⟨hn,h⟩
              rw [hn,hs,show (S b==S b)=true from BEq.rfl]
              rfl
            · rw [beq_false_of_ne hn]; rfl
          unfold skT skD
          rw [e0,e1,eb,propB_t hAH,propB_t k1,propB_t k2,Nat.ble_eq_true_of_le (Nat.le_refl m)]
          rfl
  termination_by d=>d
end
end Go.Proofs.YtancjnambbkhmaaGreat

namespace Go.Proofs.YtancjnambbkhmaaGreat
open Go.Gv

theorem ahd_spec {k:Nat} {C:Nat→Ply} {at':Int} {sg:Nat→Int} (hk0:0 < k) (hk:k≤1000) (ha:-9223372036854775808≤at') (hb:at'≤9223372036854775807) (h1:∀ q,q < k→sg q=1∨sg q=-1) (hs:∀ q,q < k→FSpec Tryz.prog 264 [PlyA (C q),wA at'] (iA (sg q))) (m:Nat) (u:Nat→Int):FSpec Tryz.prog 250 [skA k C m u,iA at'] (cutA at' (cgC sg k) (sg 0)):=by
  refine gspec e_nil (k_cons kS_ok (k_cons kS_ok (k_cons kS_ok k_nil))) Tryz.func250 (by kernel_rfl) (by kernel_rfl) noL_ok rfl ((ahd_ev k C m u at' (cgC sg k) (sg 0)).trans ?_)
  rw [gate_pos (cg_specA hk ha hb h1 hs),gate_pos (wo_spec ha hb),gate_pos (hs 0 hk0),show ixB 0 k=true from ixB_t (i:=0) hk0]
  rfl
theorem ah_spec {n:Nat} {f:Nat→Int} {x:Int} {K:Nat} (hb:∀ j,j≤K→HB (n - j) (dit f j) x) (h0:∀ j,j < K→hv f n x j=0) (hK:hv f n x K≠0):FSpec Tryz.prog 264 [pA n f,wA x] (iA ((hv f n x K).sign*pw1 (-1) K)):=by
  refine gspec e_nil (k_cons kS_ok k_nil) Tryz.func264 (by kernel_rfl) (by kernel_rfl) noL_ok rfl ((ah_ev n f x ((hv f n x K).sign*pw1 (-1) K)).trans ?_)
  rw [gate_pos (sb_spec (Or.inr rfl) hb h0 hK)]
theorem bh_spec {n:Nat} {f:Nat→Int} {x:Int} {K:Nat} (hb:∀ j,j≤K→HB (n - j) (dit f j) x) (h0:∀ j,j < K→hv f n x j=0) (hK:hv f n x K≠0):FSpec Tryz.prog 253 [pA n f,wA x] (iA ((hv f n x K).sign*pw1 1 K)):=by
  refine gspec e_nil (k_cons kS_ok k_nil) Tryz.func253 (by kernel_rfl) (by kernel_rfl) noL_ok rfl ((bh_ev n f x ((hv f n x K).sign*pw1 1 K)).trans ?_)
  rw [gate_pos (sb_spec (Or.inl rfl) hb h0 hK)]
def mbB (x:Int):Bool:=cond (decide (x < -2147483648)) true (decide (x > 2147483648))
def mbS (n:Nat) (u:Nat→Int) (i:Int):St:=mkS 18 [(5,sJ n u),(6,iA (n:Nat)),(7,iA i)] []
def mbE:St:=mkS 18 [(2,bA false)] []
section
variable (n:Nat) (u:Nat→Int) (i:Int)
theorem mb_step:evC Tryz.prog [] [] noL (loopAt Tryz.f244 0) (mbS n u i) (finN [5,6,7] []) =
    cond (decide (i < n)) (cond (ixB i n||false) (cond (mbB (u i.toNat)) none (some ⟨.normal,mbS n u (w64 (i+1)),.any⟩)) none) none:=by kernel_rfl
theorem mb_ret:evC Tryz.prog [] [] noL (loopAt Tryz.f244 0) (mbS n u i) (finR [2] []) =
    cond (decide (i < n)) (cond (ixB i n||false) (cond (mbB (u i.toNat)) (some ⟨.ret,mbE,.any⟩) none) none) none:=by kernel_rfl
theorem mb_end:evC Tryz.prog [] [] noL (loopAt Tryz.f244 0) (mbS n u i) (finE [5,6,7] []) =
    cond (decide (i < n)) (cond (ixB i n||false) (cond (mbB (u i.toNat)) none none) none) (some ⟨.exit 0,mbS n u i,.any⟩):=by kernel_rfl
theorem mb_evG (j:Int):ev Tryz.prog [] [] (oneL 2 (toldF [5,6,7] [] (mbS n u 0) (.exit 0) (mbS n u j))) Tryz.f244 [sJ n u] ret=gate (Sub (mbS n u 0) (mbS n u 0)) (some (Out.of (bA true))):=by kernel_rfl
theorem mb_evR:ev Tryz.prog [] [] (oneL 2 (toldF [5,6,7] [] (mbS n u 0) .ret mbE)) Tryz.f244 [sJ n u] ret=gate (Sub (mbS n u 0) (mbS n u 0)) (some (Out.of (bA false))):=by kernel_rfl
end
noncomputable def mbI (n:Nat) (u:Nat→Int):Bool:=allI n fun i=>!mbB (u i)
theorem mb_spec {n:Nat} (u:Nat→Int) (hn:n≤4611686018427387904):FSpec Tryz.prog 244 [sJ n u] (bA (mbI n u)):=by
  have go:∀ k,k < n→mbB (u k)=false→Leads Tryz.prog (loopAt Tryz.f244 0) (mbS n u (k:Nat)) .normal (mbS n u ((k+1:Nat):Int)):=fun k hk hb=>by
    have st:=mb_step n u (k:Nat)
    rw [dec_lt hk,ixB_t hk,Int.toNat_natCast,hb,w64_next (by omega)] at st
    exact leads_ev (finN_sub _ _) e_nil k_nil noL_ok st
  unfold mbI
  rcases all_or_first (fun i=>!mbB (u i)) n with hl | ⟨K,hK,hp,hq⟩
  · have lead:Leads Tryz.prog (.loop (loopAt Tryz.f244 0)) (mbS n u 0) (.exit 0) (mbS n u (n:Nat)):=by
      refine loop_rule (fun k=>mbS n u (k:Nat)) n (.exit 0) _ (by simp) (fun k hk=>go k hk (by simpa using hl k hk)) ?_
      refine leads_ev (finE_sub _ _) e_nil k_nil noL_ok ((mb_end n u (n:Nat)).trans ?_)
      rw [dec_self,cond_false]
    refine gspec e_nil k_nil Tryz.func244 (by kernel_rfl) (by kernel_rfl) (lok_at (i:=2) 0 1 (by kernel_rfl) (by kernel_rfl) (toldF_sound (keep:=[5,6,7]) (τ:=[]) lead)) rfl ((mb_evG n u _).trans ?_)
    rw [gate_pos (Sub.refl _),allI_t hl]
  · have lead:Leads Tryz.prog (.loop (loopAt Tryz.f244 0)) (mbS n u 0) .ret mbE:=by
      refine loop_rule (fun k=>mbS n u (k:Nat)) K .ret _ (by simp) (fun k hk=>go k (by omega) (by simpa using hq k hk)) ?_
      refine leads_ev (finR_sub _ _) e_nil k_nil noL_ok ((mb_ret n u (K:Nat)).trans ?_)
      rw [dec_lt hK,ixB_t hK,Int.toNat_natCast,show mbB (u K)=true by simpa using hp]
      rfl
    refine gspec e_nil k_nil Tryz.func244 (by kernel_rfl) (by kernel_rfl) (lok_at (i:=2) 0 1 (by kernel_rfl) (by kernel_rfl) (toldF_sound (keep:=[5,6,7]) (τ:=[]) lead)) rfl ((mb_evR n u).trans ?_)
    rw [gate_pos (Sub.refl _),allI_f hK hp]
def msI (a b:Int):Bool:=cond (decide (a ≥ -1125899906842624)) (decide (b≤1125899906842624)) false
theorem ms_ev (a b:Int):ev Tryz.prog [] [] noL Tryz.f245 [iA a,iA b] ret=some (Out.of (bA (msI a b))):=by kernel_rfl
theorem ms_spec (a b:Int):FSpec Tryz.prog 245 [iA a,iA b] (bA (msI a b)):=gspec e_nil k_nil Tryz.func245 (by kernel_rfl) (by kernel_rfl) noL_ok rfl (ms_ev a b)
def gMs (f:Int→Int→Bool):List AV→Option AV
  | [.x (.int .i64 a),.x (.int .i64 b)]=>some (bA (f a b))
  | _=>none
theorem gMs_ok:EOk Tryz.prog ⟨245,gMs msI⟩:=fun args r hr=>by
  simp only [gMs] at hr
  split at hr
  · cases hr; exact Or.inl (ms_spec _ _)
  · cases hr
def rtBad (e:Int):Option Out:=some (Out.of (.tup [.x (.slice none 0 0),iA e]))
end Go.Proofs.YtancjnambbkhmaaGreat
