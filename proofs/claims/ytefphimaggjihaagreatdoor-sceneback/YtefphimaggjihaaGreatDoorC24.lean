/-
  So1 Fm1 Fm2 Fm3 Fm4 Sc0 Sc1 Sc2 Sc3 Sc4 Sc5 U7 U9 U8 Ua Gya Gyx Uc Yg1 Yi Yj Yk Yl0, one behind the other.
-/
import Derived.Test.YtefphimaggjihaaGreatDoorC23
import Derived.Test.YtefphimaggjihaaGreatDoorC21
namespace Go.Proofs.YtefphimaggjihaaGreatDoor.Hs.So
open Go.Gv
open Go.Ev (cn fadd fsub fmul fdiv fsqrt fneg feq flt fle fgt fge fabs isNan)

structure Prt where
  op:Int
  l:Int
  r:Int
  k:Int
  a:Nat→Nat
  sk:Int
def Prt.s (p:Prt):List AV:=shC p.k p.a p.sk
def Prt.c (p:Prt):List AV:=[iA p.op,iA p.l,iA p.r,iA p.k,.f (p.a 0),.f (p.a 1),.f (p.a 2),.f (p.a 3),.f (p.a 4),.f (p.a 5),.f (p.a 6),.f (p.a 7),.f (p.a 8),.f (p.a 9),.f (p.a 10),iA p.sk]
def prS (n:Nat) (P:Nat→Prt):AV:=.sl 16 n fun i=>(P i).c
def soC (n:Nat) (P:Nat→Prt) (sn:Int):List AV:=[prS n P,iA sn]
/-- An entry that takes the cells of a shape. -/
def eSc (g:List AV→AV):List AV→Option AV
  | [.agg [.x (.int .i64 k),.f a0,.f a1,.f a2,.f a3,.f a4,.f a5,.f a6,.f a7,.f a8,.f a9,.f a10,.x (.int .i64 sk)]]=>some (g [.x (.int .i64 k),.f a0,.f a1,.f a2,.f a3,.f a4,.f a5,.f a6,.f a7,.f a8,.f a9,.f a10,.x (.int .i64 sk)])
  | _=>none
theorem eSc_ok {f:Nat} {g:List AV→AV} (h:∀ k a sk,FSpec Tryz.prog f [SH k a sk] (g (shC k a sk))):EOk Tryz.prog ⟨f,eSc g⟩:=fun args r hr=>by
  simp only [eSc] at hr
  split at hr
  · cases hr; exact Or.inl (h _ (ls [_,_,_,_,_,_,_,_,_,_,_]) _)
  · cases hr
def kin (k:Int):Bool:=(k==1)||((k==2)||(k==5))
def ktT {α:Type} (k:Int) (z t:α):α:=cond (k==1) (cond (k==1) z t) (cond (k==2) (cond (k==2) z t) (cond (k==5) z t))
theorem ktT_eq {α:Type} (k:Int) (z t:α):ktT k z t=cond (kin k) z t:=by
  unfold ktT kin
  cases k==1<;>cases k==2<;>cases k==5<;>rfl
section
variable (mf:List AV→Int) (k:Int) (a:Nat→Nat) (sk:Int)
def mlE (m k:Int):Int:=cond (!(m==0)) m (cond (kin k) 0 3)
theorem ml_ev:ev Tryz.prog [⟨98,eSc fun c=>iA (mf c)⟩] [] noL Tryz.f160 [SH k a sk] ret=cond (!(mf (shC k a sk)==0)) (aiR (mf (shC k a sk))) (ktT k (aiR 0) (aiR 3)):=by kernel_rfl
end
theorem eMay_ok:EOk Tryz.prog ⟨98,eSc fun c=>iA (mayC c)⟩:=eSc_ok fun k a sk=>(mayC_spec k a sk).1
theorem eMayR_ok:EOk Tryz.prog ⟨46,eSc fun c=>iA (mayC c)⟩:=eSc_ok fun k a sk=>(mayC_spec k a sk).2
theorem sml (k:Int) (a:Nat→Nat) (sk:Int):FSpec Tryz.prog 160 [SH k a sk] (iA (mlE (mayC (shC k a sk)) k)):=by
  refine sp (e_cons eMay_ok e_nil) Tryz.func160 (by kernel_rfl) (by kernel_rfl) rfl ((ml_ev mayC k a sk).trans ?_)
  rw [ktT_eq]
  unfold mlE aiR
  cases (mayC (shC k a sk)==0)<;>cases kin k<;>rfl
/-- Which kind the cells of a shape are of. -/
def kOfC:List AV→Int
  | .x (.int .i64 k)::_=>k
  | _=>0
theorem eMl_ok:EOk Tryz.prog ⟨160,eSc fun c=>iA (mlE (mayC c) (kOfC c))⟩:=eSc_ok fun k a sk=>sml k a sk
def nmB (l r i:Int):Bool:=cond (cond (cond (decide (l < 0)) true (decide (l ≥ i))) true (decide (r < 0))) true (decide (r ≥ i))
def opT {α:Type} (o:Int) (z t:α):α:=cond (o==1) (cond (o==1) z t) (cond (o==2) (cond (o==2) z t) (cond (o==3) z t))
def opB (o:Int):Bool:=(o==1)||((o==2)||(o==3))
theorem opT_eq {α:Type} (o:Int) (z t:α):opT o z t=cond (opB o) z t:=by
  unfold opT opB
  cases o==1<;>cases o==2<;>cases o==3<;>rfl
/-- The errno of a part with so many ahead of it. -/
noncomputable def ppE (p:Prt) (i:Int):Int:=cond (p.op==0) (mlE (mayC p.s) p.k) (cond (opB p.op) (cond (nmB p.l p.r i) 9 0) 11)
theorem mp_ev (g:List AV→Int) (p:Prt) (i:Int):ev Tryz.prog [⟨160,eSc fun c=>iA (g c)⟩] [] noL Tryz.f137 [.agg p.c,iA i] ret=cond (p.op==0) (aiR (g p.s)) (opT p.op (cond (nmB p.l p.r i) (aiR 9) (aiR 0)) (aiR 11)):=by kernel_rfl
theorem smp (p:Prt) (i:Int):FSpec Tryz.prog 137 [.agg p.c,iA i] (iA (ppE p i)):=by
  refine sp (e_cons eMl_ok e_nil) Tryz.func137 (by kernel_rfl) (by kernel_rfl) rfl ((mp_ev (fun c=>mlE (mayC c) (kOfC c)) p i).trans ?_)
  rw [opT_eq]
  unfold ppE aiR
  show cond (p.op==0) (some (Out.of (iA (mlE (mayC p.s) p.k)))) _=_
  cases p.op==0<;>cases opB p.op<;>cases nmB p.l p.r i<;>rfl
def seqE (fb:Nat→Int):Nat→Int
  | 0=>0
  | i+1=>cond (seqE fb i==0) (fb i) (seqE fb i)
theorem seq_all {fb:Nat→Int}:∀ n,(∀ i,i < n→fb i=0)→seqE fb n=0
  | 0,_=>rfl
  | n+1,h=>by
    show cond (seqE fb n==0) (fb n) (seqE fb n)=0
    rw [seq_all n fun i hi=>h i (by omega),h n (by omega)]
    rfl
theorem seq_first {fb:Nat→Int} {K:Nat} (hK:fb K≠0) (h:∀ i,i < K→fb i=0):∀ n,K < n→seqE fb n=fb K
  | 0,hn=>absurd hn (Nat.not_lt_zero _)
  | n+1,hn=>by
    show cond (seqE fb n==0) (fb n) (seqE fb n)=_
    by_cases e:K=n
    · subst e; rw [seq_all K h]; rfl
    · rw [seq_first hK h n (by omega),beq_false_of_ne hK]; rfl
theorem seq_zero {fb:Nat→Int}:∀ n,seqE fb n=0→∀ i,i < n→fb i=0
  | 0,_,i,hi=>absurd hi (Nat.not_lt_zero i)
  | n + 1,h,i,hi=>by
    have h:cond (seqE fb n==0) (fb n) (seqE fb n)=0:=h
    by_cases h0:seqE fb n=0
    · rw [h0] at h
      have h:fb n=0:=h
      by_cases e:i=n
      · subst e; exact h
      · exact seq_zero n h0 i (by omega)
    · rw [beq_false_of_ne h0] at h; exact absurd h h0
noncomputable def paE (P:Nat→Prt) (i:Nat):Int:=ppE (P i) (i:Nat)
def soX (n:Nat) (sn:Int) (R:Option Out):Option Out:=cond (cond (decide ((n:Int) < 1)) true (decide ((n:Int) > 16))) (aiR 5) (cond (skB sn) (aiR 4) R)
/-- The errno of a solid. -/
noncomputable def soE (n:Nat) (P:Nat→Prt) (sn:Int):Int:=cond (cond (decide ((n:Int) < 1)) true (decide ((n:Int) > 16))) 5 (cond (skB sn) 4 (seqE (paE P) n))
theorem soX_eq {n:Nat} {P:Nat→Prt} {sn:Int} {R:Option Out} (h:1≤n→n≤16→R=aiR (seqE (paE P) n)):soX n sn R=some (Out.of (iA (soE n P sn))):=by
  unfold soX soE
  by_cases h1:n < 1
  · rw [decide_eq_true (show (n:Int) < 1 by omega)]; rfl
  · by_cases h2:16 < n
    · rw [decide_eq_false (show ¬ (n:Int) < 1 by omega),decide_eq_true (show (n:Int) > 16 by omega)]; rfl
    · rw [decide_eq_false (show ¬ (n:Int) < 1 by omega),decide_eq_false (show ¬ (n:Int) > 16 by omega),h (by omega) (by omega)]
      unfold aiR
      cases skB sn<;>rfl
def smS (n:Nat) (P:Nat→Prt) (i:Int):St:=mkS 39 [(25,prS n P),(26,iA n),(27,iA i)] []
def smE' (e:Int):St:=mkS 39 [(2,iA e)] []
def eMp (g:List AV→Int→Int):List AV→Option AV
  | [.agg [.x (.int .i64 o),.x (.int .i64 l),.x (.int .i64 r),.x (.int .i64 k),.f a0,.f a1,.f a2,.f a3,.f a4,.f a5,.f a6,.f a7,.f a8,.f a9,.f a10,.x (.int .i64 sk)],.x (.int .i64 i)]=>some (iA (g [.x (.int .i64 o),.x (.int .i64 l),.x (.int .i64 r),.x (.int .i64 k),.f a0,.f a1,.f a2,.f a3,.f a4,.f a5,.f a6,.f a7,.f a8,.f a9,.f a10,.x (.int .i64 sk)] i))
  | _=>none
def decP:List AV→Prt
  | [.x (.int .i64 o),.x (.int .i64 l),.x (.int .i64 r),.x (.int .i64 k),.f a0,.f a1,.f a2,.f a3,.f a4,.f a5,.f a6,.f a7,.f a8,.f a9,.f a10,.x (.int .i64 sk)]=>⟨o,l,r,k,ls [a0,a1,a2,a3,a4,a5,a6,a7,a8,a9,a10],sk⟩
  | _=>⟨0,0,0,0,fun _=>0,0⟩
noncomputable def mpG (c:List AV) (i:Int):Int:=ppE (decP c) i
theorem mpG_eq (p:Prt) (i:Int):mpG p.c i=ppE p i:=rfl
theorem eMp_ok:EOk Tryz.prog ⟨137,eMp mpG⟩:=fun args r hr=>by
  simp only [eMp] at hr
  split at hr
  · cases hr; exact Or.inl (smp ⟨_,_,_,_,ls [_,_,_,_,_,_,_,_,_,_,_],_⟩ _)
  · cases hr
section
variable (g:List AV→Int→Int) (n:Nat) (P:Nat→Prt) (i:Int) (sn:Int)
def smC (o ob oe:Option Out):Option Out:=cond (decide (i < n)) (cond (ixB i n||false) (cond (!(g (P i.toNat).c i==0)) ob o) none) oe
theorem sm_step:evC Tryz.prog [⟨137,eMp g⟩] [] noL (loopAt Tryz.f99 0) (smS n P i) (finN [25,26,27] [])=smC g n P i (some ⟨.normal,smS n P (w64 (i+1)),.any⟩) none none:=by kernel_rfl
theorem sm_ret:evC Tryz.prog [⟨137,eMp g⟩] [] noL (loopAt Tryz.f99 0) (smS n P i) (finR [2] [])=smC g n P i none (some ⟨.ret,smE' (g (P i.toNat).c i),.any⟩) none:=by kernel_rfl
theorem sm_end:evC Tryz.prog [⟨137,eMp g⟩] [] noL (loopAt Tryz.f99 0) (smS n P i) (finE [25,26,27] [])=smC g n P i none none (some ⟨.exit 0,smS n P i,.any⟩):=by kernel_rfl
theorem sm_evG (j:Int):ev Tryz.prog [⟨137,eMp g⟩] [] (oneL 6 (toldF [25,26,27] [] (smS n P 0) (.exit 0) (smS n P j))) Tryz.f99 [.agg (soC n P sn)] ret=soX n sn (gate (Sub (smS n P 0) (smS n P 0)) (aiR 0)):=by kernel_rfl
theorem sm_evR (e:Int):ev Tryz.prog [⟨137,eMp g⟩] [] (oneL 6 (toldF [25,26,27] [] (smS n P 0) .ret (smE' e))) Tryz.f99 [.agg (soC n P sn)] ret=soX n sn (gate (Sub (smS n P 0) (smS n P 0)) (aiR e)):=by kernel_rfl
theorem sm_ev0:ev Tryz.prog [⟨137,eMp g⟩] [] (oneL 6 fun _ _=>none) Tryz.f99 [.agg (soC n P sn)] ret=soX n sn none:=by kernel_rfl
end
theorem smay_spec (n:Nat) (P:Nat→Prt) (sn:Int):FSpec Tryz.prog 99 [.agg (soC n P sn)] (iA (soE n P sn)):=by
  have en:=e_cons eMp_ok e_nil
  by_cases hc:n < 1∨16 < n
  · exact gspec en k_nil Tryz.func99 (by kernel_rfl) (by kernel_rfl) (lok_none 6) rfl ((sm_ev0 mpG n P sn).trans (soX_eq fun h1 h2=>absurd hc (by omega)))
  · have go:∀ k,k < n→paE P k=0→Leads Tryz.prog (loopAt Tryz.f99 0) (smS n P (k:Nat)) .normal (smS n P ((k+1:Nat):Int)):=fun k hk hb=>by
      refine leads_ev (finN_sub _ _) en k_nil noL_ok ((sm_step mpG n P (k:Nat)).trans ?_)
      unfold smC
      rw [dec_lt hk,ixB_t hk,Int.toNat_natCast,mpG_eq,show ppE (P k) (k:Nat)=0 from hb,w64_next (by omega)]
      rfl
    rcases all_or_first (fun i=>paE P i==0) n with hl | ⟨K,hK,hp,hq⟩
    · have hl':∀ i,i < n→paE P i=0:=fun i hi=>by simpa using hl i hi
      have lead:Leads Tryz.prog (.loop (loopAt Tryz.f99 0)) (smS n P 0) (.exit 0) (smS n P (n:Nat)):=by
        refine loop_rule (fun k=>smS n P (k:Nat)) n (.exit 0) _ (by simp) (fun k hk=>go k hk (hl' k hk)) ?_
        refine leads_ev (finE_sub _ _) en k_nil noL_ok ((sm_end mpG n P (n:Nat)).trans ?_)
        unfold smC
        rw [dec_self,cond_false]
      refine gspec en k_nil Tryz.func99 (by kernel_rfl) (by kernel_rfl) (lok_at (i:=6) 0 1 (by kernel_rfl) (by kernel_rfl) (toldF_sound (keep:=[25,26,27]) (τ:=[]) lead)) rfl ((sm_evG mpG n P sn (n:Nat)).trans (soX_eq fun _ _=>?_))
      rw [gate_pos (Sub.refl _),seq_all n hl']
    · have hb:paE P K≠0:=by simpa using hp
      have hq':∀ i,i < K→paE P i=0:=fun i hi=>by simpa using hq i hi
      have lead:Leads Tryz.prog (.loop (loopAt Tryz.f99 0)) (smS n P 0) .ret (smE' (paE P K)):=by
        refine loop_rule (fun k=>smS n P (k:Nat)) K .ret _ (by simp) (fun k hk=>go k (by omega) (hq' k hk)) ?_
        refine leads_ev (finR_sub _ _) en k_nil noL_ok ((sm_ret mpG n P (K:Nat)).trans ?_)
        unfold smC
        rw [dec_lt hK,ixB_t hK,Int.toNat_natCast,mpG_eq,beq_false_of_ne (show ppE (P K) (K:Nat)≠0 from hb)]
        rfl
      refine gspec en k_nil Tryz.func99 (by kernel_rfl) (by kernel_rfl) (lok_at (i:=6) 0 1 (by kernel_rfl) (by kernel_rfl) (toldF_sound (keep:=[25,26,27]) (τ:=[]) lead)) rfl ((sm_evR mpG n P sn (paE P K)).trans (soX_eq fun _ _=>?_))
      rw [gate_pos (Sub.refl _),seq_first hb hq' n hK]
def amS (n:Nat) (P:Nat→Prt) (sn:Int) (i:Int):St:=mkS 89 [(1,.own 0 0),(3,iA i)] [.c (soC n P sn)]
def amE (e:Int):St:=mkS 89 [(2,iA e)] []
section
variable (mf:List AV→Int) (n:Nat) (P:Nat→Prt) (sn:Int) (i:Int)
def knB (k:Int):Bool:=cond (cond (!(k==1)) (!(k==2)) false) (!(k==5)) false
def amC (p:Prt) (r:Int→Option Out) (o:Option Out):Option Out:=cond (cond (decide (p.op < 0)) true (decide (p.op > 3))) (r 11) (cond (decide (p.op > 0)) (cond (nmB p.l p.r i) (r 9) o) (cond (!(mf p.s==0)) (r (mf p.s)) (cond (knB p.k) (r 3) o)))
def amX (r:Int→Option Out) (o oe:Option Out):Option Out:=cond (decide (i < n)) (cond (ixB i n||false) (amC mf i (P i.toNat) r o) none) oe
theorem am_step:evC Tryz.prog [⟨46,eSc fun c=>iA (mf c)⟩] [] noL (loopAt Tryz.f47 0) (amS n P sn i) (finN [1,3] [some 0])=amX mf n P i (fun _=>none) (some ⟨.normal,amS n P sn (w64 (i+1)),.any⟩) none:=by kernel_rfl
theorem am_ret:evC Tryz.prog [⟨46,eSc fun c=>iA (mf c)⟩] [] noL (loopAt Tryz.f47 0) (amS n P sn i) (finR [2] [])=amX mf n P i (fun e=>some ⟨.ret,amE e,.any⟩) none none:=by kernel_rfl
theorem am_end:evC Tryz.prog [⟨46,eSc fun c=>iA (mf c)⟩] [] noL (loopAt Tryz.f47 0) (amS n P sn i) (finE [1,3] [some 0])=amX mf n P i (fun _=>none) none (some ⟨.exit 0,amS n P sn i,.any⟩):=by kernel_rfl
theorem am_evG (j:Int):ev Tryz.prog [⟨46,eSc fun c=>iA (mf c)⟩] [] (oneL 6 (toldF [1,3] [some 0] (amS n P sn 0) (.exit 0) (amS n P sn j))) Tryz.f47 [.agg (soC n P sn)] ret=soX n sn (gate (Sub (amS n P sn 0) (amS n P sn 0)) (aiR 0)):=by kernel_rfl
theorem am_evR (e:Int):ev Tryz.prog [⟨46,eSc fun c=>iA (mf c)⟩] [] (oneL 6 (toldF [1,3] [some 0] (amS n P sn 0) .ret (amE e))) Tryz.f47 [.agg (soC n P sn)] ret=soX n sn (gate (Sub (amS n P sn 0) (amS n P sn 0)) (aiR e)):=by kernel_rfl
theorem am_ev0:ev Tryz.prog [⟨46,eSc fun c=>iA (mf c)⟩] [] (oneL 6 fun _ _=>none) Tryz.f47 [.agg (soC n P sn)] ret=soX n sn none:=by kernel_rfl
end
theorem knB_eq (k:Int):knB k=!kin k:=by
  unfold knB kin
  cases k==1<;>cases k==2<;>cases k==5<;>rfl
theorem amC_eq (p:Prt) (i:Int) (r:Int→Option Out) (o:Option Out):amC mayC i p r o=cond (ppE p i==0) o (r (ppE p i)):=by
  unfold amC ppE mlE
  rw [knB_eq]
  by_cases h0:p.op=0
  · rw [h0]
    cases hm:(mayC p.s==0)
    · have:mayC p.s≠0:=fun e=>by rw [e] at hm; cases hm
      show r (mayC p.s)=cond (mayC p.s==0) o (r (mayC p.s))
      rw [hm]; rfl
    · cases kin p.k<;>rfl
  · have hb:(p.op==0)=false:=beq_false_of_ne h0
    rw [hb]
    by_cases h1:p.op=1∨p.op=2∨p.op=3
    · rw [decide_eq_false (show ¬ p.op < 0 by omega),decide_eq_false (show ¬ p.op > 3 by omega),decide_eq_true (show p.op > 0 by omega)]
      have:opB p.op=true:=by rcases h1 with h | h | h<;>rw [h]<;>rfl
      rw [this]
      cases nmB p.l p.r i<;>rfl
    · have h2:opB p.op=false:=by
        unfold opB
        rw [beq_false_of_ne (show p.op≠1 by omega),beq_false_of_ne (show p.op≠2 by omega),beq_false_of_ne (show p.op≠3 by omega)]; rfl
      rw [h2]
      by_cases h3:p.op < 0
      · rw [decide_eq_true h3]; rfl
      · rw [decide_eq_false h3,decide_eq_true (show p.op > 3 by omega)]; rfl
theorem rsmay_spec (n:Nat) (P:Nat→Prt) (sn:Int):FSpec Tryz.prog 47 [.agg (soC n P sn)] (iA (soE n P sn)):=by
  have en:=e_cons eMayR_ok e_nil
  by_cases hc:n < 1∨16 < n
  · exact gspec en k_nil Tryz.func47 (by kernel_rfl) (by kernel_rfl) (lok_none 6) rfl ((am_ev0 mayC n P sn).trans (soX_eq fun h1 h2=>absurd hc (by omega)))
  · have go:∀ k,k < n→paE P k=0→Leads Tryz.prog (loopAt Tryz.f47 0) (amS n P sn (k:Nat)) .normal (amS n P sn ((k+1:Nat):Int)):=fun k hk hb=>by
      refine leads_ev (finN_sub _ _) en k_nil noL_ok ((am_step mayC n P sn (k:Nat)).trans ?_)
      unfold amX
      rw [dec_lt hk,ixB_t hk,Int.toNat_natCast,amC_eq,show ppE (P k) (k:Nat)=0 from hb,w64_next (by omega)]
      rfl
    rcases all_or_first (fun i=>paE P i==0) n with hl | ⟨K,hK,hp,hq⟩
    · have hl':∀ i,i < n→paE P i=0:=fun i hi=>by simpa using hl i hi
      have lead:Leads Tryz.prog (.loop (loopAt Tryz.f47 0)) (amS n P sn 0) (.exit 0) (amS n P sn (n:Nat)):=by
        refine loop_rule (fun k=>amS n P sn (k:Nat)) n (.exit 0) _ (by simp) (fun k hk=>go k hk (hl' k hk)) ?_
        refine leads_ev (finE_sub _ _) en k_nil noL_ok ((am_end mayC n P sn (n:Nat)).trans ?_)
        unfold amX
        rw [dec_self,cond_false]
      refine gspec en k_nil Tryz.func47 (by kernel_rfl) (by kernel_rfl) (lok_at (i:=6) 0 1 (by kernel_rfl) (by kernel_rfl) (toldF_sound (keep:=[1,3]) (τ:=[some 0]) lead)) rfl ((am_evG mayC n P sn (n:Nat)).trans (soX_eq fun _ _=>?_))
      rw [gate_pos (Sub.refl _),seq_all n hl']
    · have hb:paE P K≠0:=by simpa using hp
      have hq':∀ i,i < K→paE P i=0:=fun i hi=>by simpa using hq i hi
      have lead:Leads Tryz.prog (.loop (loopAt Tryz.f47 0)) (amS n P sn 0) .ret (amE (paE P K)):=by
        refine loop_rule (fun k=>amS n P sn (k:Nat)) K .ret _ (by simp) (fun k hk=>go k (by omega) (hq' k hk)) ?_
        refine leads_ev (finR_sub _ _) en k_nil noL_ok ((am_ret mayC n P sn (K:Nat)).trans ?_)
        unfold amX
        rw [dec_lt hK,ixB_t hK,Int.toNat_natCast,amC_eq,beq_false_of_ne (show ppE (P K) (K:Nat)≠0 from hb)]
        rfl
      refine gspec en k_nil Tryz.func47 (by kernel_rfl) (by kernel_rfl) (lok_at (i:=6) 0 1 (by kernel_rfl) (by kernel_rfl) (toldF_sound (keep:=[1,3]) (τ:=[some 0]) lead)) rfl ((am_evR mayC n P sn (paE P K)).trans (soX_eq fun _ _=>?_))
      rw [gate_pos (Sub.refl _),seq_first hb hq' n hK]
end Go.Proofs.YtefphimaggjihaaGreatDoor.Hs.So

namespace Go.Proofs.YtefphimaggjihaaGreatDoor.Hs.Fm
open Go.Gv
open Go.Ev (cn fadd fsub fmul fdiv feq flt fle fgt fge)

def itof (n:Int):Nat:=cn (FloatKind.f64.nearest n)
def c3 (p:Nat→Nat):List AV:=[.f (p 0),.f (p 1),.f (p 2)]
def c6 (b:Nat→Nat):List AV:=[.f (b 0),.f (b 1),.f (b 2),.f (b 3),.f (b 4),.f (b 5)]
def pp (p:Nat→Nat):Nat→Nat:=ls [p 0,p 1,p 2,p 0,p 1,p 2]
def boxQ (p:Nat→Nat→Nat):Nat→Nat→Nat
  | 0=>pp (p 0)
  | q+1=>joinS (boxQ p q) (pp (p q))
def z6:List AV:=[.f 0,.f 0,.f 0,.f 0,.f 0,.f 0]
def aroundS (n:Nat) (p:Nat→Nat→Nat) (q:Int) (b:Nat→Nat):St:=mkS 26 [(2,.own 0 0),(3,.own 1 0),(13,.sl 3 n fun q=>c3 (p q)),(14,iA n),(15,iA q)] [.c z6,.c (c6 b)]
def keepA:List Nat:=[2,3,13,14,15]
theorem around_step (n:Nat) (p:Nat→Nat→Nat) (q:Int) (b:Nat→Nat):evC Tryz.prog V4 [] noL (loopAt Tryz.f163 0) (aroundS n p q b) (finN keepA [some 0,some 1]) =
    cond (decide (q < (n:Int))) (cond ((decide (0≤q)&&decide (q < (n:Int)))&&true) (some ⟨.normal,aroundS n p (w64 (q+1)) (joinS b (pp (p q.toNat))),.any⟩) none) none:=by kernel_rfl
theorem around_end (n:Nat) (p:Nat→Nat→Nat) (q:Int) (b:Nat→Nat):evC Tryz.prog V4 [] noL (loopAt Tryz.f163 0) (aroundS n p q b) (finX keepA [some 0,some 1]) =
    cond (decide (q < (n:Int))) (cond ((decide (0≤q)&&decide (q < (n:Int)))&&true) none none) (some ⟨.exit 0,aroundS n p q b,.any⟩):=by kernel_rfl
theorem dec_nonneg (n:Nat):decide (0≤(n:Int))=true:=decide_eq_true (Int.natCast_nonneg _)
theorem dec_lt {a b:Nat} (h:a < b):decide ((a:Int) < (b:Int))=true:=decide_eq_true (by omega)
theorem dec_self (a:Nat):decide ((a:Int) < (a:Int))=false:=decide_eq_false (by omega)
theorem w64_next {n:Nat} (h:n < 4611686018427387904):w64 ((n:Int)+1)=((n+1:Nat):Int):=by rw [w64_id (by omega) (by omega)]; omega
theorem around_leads (n:Nat) (p:Nat→Nat→Nat) (hn:n < 4611686018427387904):Leads Tryz.prog (.loop (loopAt Tryz.f163 0)) (aroundS n p 0 (boxQ p 0)) (.exit 0) (aroundS n p n (boxQ p n)):=by
  refine loop_rule (fun q=>aroundS n p (q:Nat) (boxQ p q)) n (.exit 0) _ (by simp) (fun q hq=>?_) ?_
  · refine leads_ev (finN_sub keepA [some 0,some 1]) V4_ok k_nil noL_ok ?_
    rw [around_step,dec_lt hq,dec_nonneg,w64_next (by omega)]
    rfl
  · refine leads_ev (finX_sub keepA [some 0,some 1]) V4_ok k_nil noL_ok ?_
    rw [around_end,dec_self]
    rfl
noncomputable def aroundL (n:Nat) (p:Nat→Nat→Nat):Nat→Option LFun:=oneL 3 (toldF keepA [some 0,some 1] (aroundS n p 0 (boxQ p 0)) (.exit 0) (aroundS n p n (boxQ p n)))
theorem aroundL_ok (n:Nat) (p:Nat→Nat→Nat) (hn:n < 4611686018427387904):LOk Tryz.prog (aroundL n p) (bodyOf Tryz.f163) :=
  lok_one (i:=3) 1 (by kernel_rfl) fun j hj _=>by
    have:j=0:=by omega
    subst this
    exact toldF_sound (around_leads n p hn)
theorem around_ev (n:Nat) (p:Nat→Nat→Nat):ev Tryz.prog V4 [] (aroundL n p) Tryz.f163 [.sl 3 n fun q=>c3 (p q)] ret =
    cond ((decide ((0:Int) < (n:Int))||false)&&((decide ((0:Int) < (n:Int))||false)&&true)) (gate (Sub (aroundS n p 0 (boxQ p 0)) (aroundS n p 0 (boxQ p 0))) (some (Out.of (.agg (c6 (boxQ p n)))))) none:=by kernel_rfl
theorem around_spec {n:Nat} (p:Nat→Nat→Nat) (h0:0 < n) (hn:n < 4611686018427387904):FSpec Tryz.prog 163 [.sl 3 n fun q=>c3 (p q)] (.agg (c6 (boxQ p n))):=by
  refine gspec V4_ok k_nil Tryz.func163 (by kernel_rfl) (by kernel_rfl) (aroundL_ok n p hn) rfl ?_
  rw [around_ev,decide_eq_true (show (0:Int) < (n:Int) by omega),gate_pos (Sub.refl _)]
  rfl

structure Fd where
  W:Int
  H:Int
  at_:Nat→Nat
  sd:Nat
  n:Nat
  hs:Nat→Int
  sk:Int
def Fd.c (F:Fd):List AV:=[iA F.W,iA F.H,.f (F.at_ 0),.f (F.at_ 1),.f (F.at_ 2),.f F.sd,.sl 1 F.n (fun i=>[iA (F.hs i)]),iA F.sk]
def mayLS (F:Fd) (r q:Int):St:=mkS 68 [(1,.own 0 0),(2,iA r),(55,.sl 1 F.n (fun i=>[iA (F.hs i)])),(56,iA F.n),(57,iA q)] [.c F.c]
def keepM:List Nat:=[1,2,55,56,57]

def hBad (h:Int):Bool:=cond (decide (h < -1000000)) true (decide (h > 1000000))
theorem mayL_step (F:Fd) (q:Int):evC Tryz.prog V4 [] noL (loopAt Tryz.f161 0) (mayLS F 0 q) (finN keepM [some 0]) =
    cond (decide (q < (F.n:Int))) (cond ((decide (0≤q)&&decide (q < (F.n:Int)))&&true) (cond (hBad (F.hs q.toNat)) none (some ⟨.normal,mayLS F 0 (w64 (q+1)),.any⟩)) none) none:=by kernel_rfl
theorem mayL_end (F:Fd) (q:Int):evC Tryz.prog V4 [] noL (loopAt Tryz.f161 0) (mayLS F 0 q) (finX keepM [some 0]) =
    cond (decide (q < (F.n:Int))) (cond ((decide (0≤q)&&decide (q < (F.n:Int)))&&true) (cond (hBad (F.hs q.toNat)) (some ⟨.ret,mayLS F 6 q,.any⟩) none) none) (some ⟨.exit 0,mayLS F 0 q,.any⟩):=by kernel_rfl
theorem mayL_round {F:Fd} {q:Nat} (hn:F.n < 4611686018427387904) (hq:q < F.n) (hb:hBad (F.hs q)=false):Leads Tryz.prog (loopAt Tryz.f161 0) (mayLS F 0 (q:Nat)) .normal (mayLS F 0 ((q+1:Nat):Int)):=by
  refine leads_ev (finN_sub keepM [some 0]) V4_ok k_nil noL_ok ?_
  rw [mayL_step,dec_lt hq,dec_nonneg,w64_next (by omega)]
  simp only [Int.toNat_natCast,hb]
  rfl
theorem mayL_ok {F:Fd} (hn:F.n < 4611686018427387904) (h:∀ q,q < F.n→hBad (F.hs q)=false):Leads Tryz.prog (.loop (loopAt Tryz.f161 0)) (mayLS F 0 0) (.exit 0) (mayLS F 0 F.n):=by
  refine loop_rule (fun q=>mayLS F 0 (q:Nat)) F.n (.exit 0) _ (by simp) (fun q hq=>mayL_round hn hq (h q hq)) ?_
  refine leads_ev (finX_sub keepM [some 0]) V4_ok k_nil noL_ok ?_
  rw [mayL_end,dec_self]
  rfl
theorem mayL_bad {F:Fd} (hn:F.n < 4611686018427387904) {j:Nat} (hj:j < F.n) (hb:hBad (F.hs j)=true) (h:∀ q,q < j→hBad (F.hs q)=false):Leads Tryz.prog (.loop (loopAt Tryz.f161 0)) (mayLS F 0 0) .ret (mayLS F 6 (j:Nat)):=by
  refine loop_rule (fun q=>mayLS F 0 (q:Nat)) j .ret _ (by simp) (fun q hq=>mayL_round hn (by omega) (h q hq)) ?_
  refine leads_ev (finX_sub keepM [some 0]) V4_ok k_nil noL_ok ?_
  rw [mayL_end,dec_lt hj,dec_nonneg]
  simp only [Int.toNat_natCast,hb]
  rfl
noncomputable def mayL (F:Fd) (ex:Exit) (sf:St):Nat→Option LFun:=oneL 12 (toldF keepM [some 0] (mayLS F 0 0) ex sf)
theorem mayL_lok {F:Fd} {ex:Exit} {sf:St} (h:Leads Tryz.prog (.loop (loopAt Tryz.f161 0)) (mayLS F 0 0) ex sf):LOk Tryz.prog (mayL F ex sf) (bodyOf Tryz.f161) :=
  lok_one (i:=12) 1 (by kernel_rfl) fun j hj _=>by
    have:j=0:=by omega
    subst this
    exact toldF_sound h
def Fd.dims (F:Fd):Bool:=cond (cond (cond (decide (F.W < 2)) true (decide (F.W > 8))) true (decide (F.H < 2))) true (decide (F.H > 8))
def Fd.far (F:Fd):Bool:=cond (!fineS (F.at_ 0) (F.at_ 1) (F.at_ 2)) true (!nearS F.sd)
/-- What is asked ahead of the heights. -/
def Fd.first (F:Fd) (X:Option Out):Option Out:=cond F.dims (some (Out.of (iA 4))) (cond (!((F.n:Int)==w64 (F.W*F.H))) (some (Out.of (iA 5))) (cond (skB F.sk) (some (Out.of (iA 4))) (cond F.far (some (Out.of (iA 1))) (cond (!fgt F.sd 0) (some (Out.of (iA 6))) X))))
theorem may_ev_ok (F:Fd):ev Tryz.prog V4 [] (mayL F (.exit 0) (mayLS F 0 F.n)) Tryz.f161 [.agg F.c] ret=F.first (gate (Sub (mayLS F 0 0) (mayLS F 0 0)) (some (Out.of (iA 0)))):=by kernel_rfl
theorem may_ev_bad (F:Fd) (j:Int):ev Tryz.prog V4 [] (mayL F .ret (mayLS F 6 j)) Tryz.f161 [.agg F.c] ret=F.first (gate (Sub (mayLS F 0 0) (mayLS F 0 0)) (some (Out.of (iA 6)))):=by kernel_rfl
/-- Which is the first height that may not be? -/
theorem first_bad (hs:Nat→Int):∀ n,(∀ q,q < n→hBad (hs q)=false)∨∃ j,j < n∧hBad (hs j)=true∧∀ q,q < j→hBad (hs q)=false
  | 0=>Or.inl fun q hq=>by omega
  | n + 1 => by
    rcases first_bad hs n with h | ⟨j,h1,h2,h3⟩
    · cases hb:hBad (hs n)
      · exact Or.inl fun q hq=>by
          by_cases e:q=n
          · rw [e]; exact hb
          · exact h q (by omega)
      · exact Or.inr ⟨n,by omega,hb,h⟩
    · exact Or.inr ⟨j,by omega,h2,h3⟩
def Fd.okAll (F:Fd):Bool:=(List.range F.n).all fun q=>!hBad (F.hs q)
def Fd.mayN (F:Fd):Int:=cond F.dims 4 (cond (!((F.n:Int)==w64 (F.W*F.H))) 5 (cond (skB F.sk) 4 (cond F.far 1 (cond (!fgt F.sd 0) 6 (cond F.okAll 0 6)))))
theorem may_spec (F:Fd) (hn:F.n < 4611686018427387904):FSpec Tryz.prog 161 [.agg F.c] (iA F.mayN):=by
  have fin:∀ e:Int,F.okAll=(e==0)→(e=0∨e=6)→F.first (some (Out.of (iA e)))=some (Out.of (iA F.mayN)):=fun e h1 h2=>by
    unfold Fd.first Fd.mayN
    rw [h1]
    cases F.dims<;>simp only [cond_true,cond_false]
    cases (!((F.n:Int)==w64 (F.W*F.H)))<;>simp only [cond_true,cond_false]
    cases skB F.sk<;>simp only [cond_true,cond_false]
    cases F.far<;>simp only [cond_true,cond_false]
    cases (!fgt F.sd 0)<;>simp only [cond_true,cond_false]
    rcases h2 with rfl | rfl<;>rfl
  rcases first_bad F.hs F.n with h | ⟨j,h1,h2,h3⟩
  · refine gspec V4_ok k_nil Tryz.func161 (by kernel_rfl) (by kernel_rfl) (mayL_lok (mayL_ok hn h)) rfl ?_
    rw [may_ev_ok,gate_pos (Sub.refl _)]
    refine fin 0 ?_ (Or.inl rfl)
    unfold Fd.okAll
    rw [List.all_eq_true.2]
    · rfl
    · intro q hq
      rw [h q (List.mem_range.1 hq)]
      rfl
  · refine gspec V4_ok k_nil Tryz.func161 (by kernel_rfl) (by kernel_rfl) (mayL_lok (mayL_bad hn h1 h2 h3)) rfl ?_
    rw [may_ev_bad,gate_pos (Sub.refl _)]
    refine fin 6 ?_ (Or.inr rfl)
    unfold Fd.okAll
    rw [List.all_eq_false.2 ⟨j,List.mem_range.2 h1,by rw [h2]; simp⟩]
    rfl

def ptXY (F:Fd) (h x y:Int):Nat→Nat:=ls [fadd (F.at_ 0) (fmul (itof x) F.sd),fadd (F.at_ 1) (fdiv (itof h) 4652007308841189376),fadd (F.at_ 2) (fmul (itof y) F.sd)]
def pt (F:Fd) (q:Nat):Nat→Nat:=ptXY F (F.hs q) ((q % F.W.toNat:Nat):Int) ((q / F.W.toNat:Nat):Int)
def pts (F:Fd):Nat→List AV:=fun q=>c3 (pt F q)
def innerS (F:Fd) (y x:Int) (m:Nat) (ps:Nat→List AV):St:=mkS 63 [(1,.own 0 0),(3,.osl 1 3 0 m),(4,iA y),(13,iA F.H),(14,iA y),(18,iA F.W),(19,iA x)] [.c F.c,.a 30 3 m ps]
def keepI:List Nat:=[1,3,4,13,14,18,19]
def ix (W y x:Int):Int:=w64 (w64 (y*W)+x)
theorem inner_step (F:Fd) (y x:Int) (m:Nat) (ps:Nat→List AV):evC Tryz.prog [] [] noL (loopAt Tryz.f162 1) (innerS F y x m ps) (finN keepI [some 0,some 3]) =
      cond (decide (x < F.W)) (cond (((decide (0≤ix F.W y x)&&decide (ix F.W y x < (F.n:Int)))||false)&&((((m==m)&&Nat.ble ((m+1)*24) 140737488355328)||false)&&true))
        (some ⟨.normal,innerS F y (w64 (x+1)) (m+1) (fun q=>mixL (Nat.blt q m) (ps q) (c3 (ptXY F (F.hs (ix F.W y x).toNat) x y))),.any⟩) none) none:=by kernel_rfl
theorem inner_end (F:Fd) (y x:Int) (m:Nat) (ps:Nat→List AV):evC Tryz.prog [] [] noL (loopAt Tryz.f162 1) (innerS F y x m ps) (finX keepI [some 0,some 1]) =
      cond (decide (x < F.W)) (cond (((decide (0≤ix F.W y x)&&decide (ix F.W y x < (F.n:Int)))||false)&&((((m==m)&&Nat.ble ((m+1)*24) 140737488355328)||false)&&true)) none none)
        (some ⟨.exit 2,innerS F y x m ps,.any⟩):=by kernel_rfl
/-- A field whose numbers say how many points there are. -/
structure Dim (F:Fd) (w h:Nat):Prop where
  W:F.W=(w:Int)
  H:F.H=(h:Int)
  n:F.n=w*h
  w1:2≤w
  h1:2≤h
  w8:w≤8
  h8:h≤8
theorem Dim.le {F:Fd} {w h:Nat} (d:Dim F w h):w*h≤64:=Nat.mul_le_mul d.w8 d.h8
theorem Dim.row {F:Fd} {w h y:Nat} (_:Dim F w h) (hy:y < h):y*w+w≤w*h:=by
  have:(y+1)*w≤h*w:=Nat.mul_le_mul_right _ hy
  rw [Nat.add_mul,Nat.mul_comm h w] at this
  omega
theorem Dim.ix {F:Fd} {w h y x:Nat} (d:Dim F w h) (hy:y < h) (hx:x < w):ix F.W (y:Nat) (x:Nat)=((y*w+x:Nat):Int):=by
  have h1:=d.row hy
  have h2:=d.le
  unfold Go.Proofs.YtefphimaggjihaaGreatDoor.Hs.Fm.ix
  rw [d.W]
  have hp:((y:Int)*(w:Int))=((y*w:Nat):Int):=by simp
  rw [hp,w64_id (n:=((y*w:Nat):Int)) (by omega) (by omega),w64_id (by omega) (by omega)]
  omega
theorem pt_at {F:Fd} {w h y x:Nat} (d:Dim F w h) (hx:x < w):pt F (y*w+x)=ptXY F (F.hs (y*w+x)) (x:Nat) (y:Nat):=by
  have hm:(y*w+x) % w=x:=by rw [Nat.mul_comm,Nat.mul_add_mod]; exact Nat.mod_eq_of_lt hx
  have hd:(y*w+x) / w=y:=by
    rw [Nat.mul_comm,Nat.mul_add_div (by omega),Nat.div_eq_of_lt hx]; omega
  unfold pt
  rw [d.W,Int.toNat_natCast,hm,hd]
theorem not_blt {q m:Nat} (h:Nat.blt q m=false):m≤q:=Nat.le_of_not_lt fun hc=>by
  have:Nat.blt q m=true:=Nat.ble_eq_true_of_le hc
  rw [this] at h; cases h
theorem inner_leads {F:Fd} {w h y:Nat} (d:Dim F w h) (hy:y < h) :
    Leads Tryz.prog (.loop (loopAt Tryz.f162 1)) (innerS F (y:Nat) 0 (y*w) (pts F)) (.exit 2) (innerS F (y:Nat) (w:Nat) (y*w+w) (pts F)):=by
  have hle:=d.le
  have hyW:=d.row hy
  refine loop_rule (fun j=>innerS F (y:Nat) (j:Nat) (y*w+j) (pts F)) w (.exit 2) _ (by simp) (fun j hj=>?_) ?_
  · have hix:=d.ix hy hj
    refine Leads.sub (leads_ev (finN_sub keepI [some 0,some 3]) e_nil k_nil noL_ok (s':=innerS F (y:Nat) (w64 ((j:Int)+1)) (y*w+j+1) (fun q=>mixL (Nat.blt q (y*w+j)) (pts F q) (c3 (ptXY F (F.hs (ix F.W (y:Nat) (j:Nat)).toNat) (j:Nat) (y:Nat))))) ?_) (Sub.refl _) ?_
    · rw [inner_step]
      have c1:decide (((j:Nat):Int) < F.W)=true:=by rw [d.W]; exact dec_lt hj
      have c2:decide (0≤ix F.W (y:Nat) (j:Nat))=true:=by rw [hix]; exact dec_nonneg _
      have c3:decide (ix F.W (y:Nat) (j:Nat) < (F.n:Int))=true:=by rw [hix,d.n]; exact dec_lt (by omega)
      have c4:Nat.ble ((y*w+j+1)*24) 140737488355328=true:=Nat.ble_eq_true_of_le (by omega)
      rw [c1,c2,c3,c4]
      simp only [cond_true,Bool.and_self,Bool.or_false,BEq.rfl]
    · rw [w64_next (by omega),hix,Int.toNat_natCast]
      refine sub_same ⟨Or.inl rfl,Or.inr ⟨30,3,y*w+j+1,_,_,rfl,rfl,fun q hq=>?_⟩,trivial⟩
      cases hlt:Nat.blt q (y*w+j)
      · have hq2:q=y*w+j:=by have:=not_blt hlt; omega
        subst hq2
        unfold pts
        rw [pt_at d hj]
        unfold c3
        simp only [mixL,mixA,cond_false]
      · unfold pts c3
        simp only [mixL,mixA,cond_true]
  · refine leads_ev (finX_sub keepI [some 0,some 1]) e_nil k_nil noL_ok ?_
    rw [inner_end]
    have c1:decide (((w:Nat):Int) < F.W)=false:=by rw [d.W]; exact dec_self w
    rw [c1]
    rfl
def outerS (F:Fd) (y:Int) (m:Nat) (ps:Nat→List AV):St:=mkS 63 [(1,.own 0 0),(3,.osl 1 3 0 m),(13,iA F.H),(14,iA y)] [.c F.c,.a 30 3 m ps]
def keepO:List Nat:=[1,3,13,14]
noncomputable def innerL (F:Fd) (w y:Nat):Nat→Option LFun:=oneL 6 (toldF keepI [some 0,some 1] (innerS F (y:Nat) 0 (y*w) (pts F)) (.exit 2) (innerS F (y:Nat) (w:Nat) (y*w+w) (pts F)))
end Go.Proofs.YtefphimaggjihaaGreatDoor.Hs.Fm

namespace Go.Proofs.YtefphimaggjihaaGreatDoor.Hs.Fm
open Go.Gv
open Go.Ev (cn fadd fsub fmul fdiv feq flt fle fgt fge)

theorem innerL_ok {F:Fd} {w h y:Nat} (d:Dim F w h) (hy:y < h):LOk Tryz.prog (innerL F w y) (loopAt Tryz.f162 0) :=
  lok_one (i:=6) 1 (by kernel_rfl) fun j hj _=>by
    have:j=0:=by omega
    subst this
    have e:(loopsOf (loopAt Tryz.f162 0)).getD 0 .skip=loopAt Tryz.f162 1:=by kernel_rfl
    rw [e]
    exact toldF_sound (inner_leads d hy)
theorem outer_step (F:Fd) (w y:Nat):evC Tryz.prog [] [] (innerL F w y) (loopAt Tryz.f162 0) (outerS F (y:Nat) (y*w) (pts F)) (finN keepO [some 0,some 1]) =
    cond (decide (((y:Nat):Int) < F.H)) (gate (Sub (innerS F (y:Nat) 0 (y*w) (pts F)) (innerS F (y:Nat) 0 (y*w) (pts F))) (some ⟨.normal,outerS F (w64 (((y:Nat):Int)+1)) (y*w+w) (pts F),.any⟩)) none:=by kernel_rfl
/-- A loop of which nothing is told, since it isn't reached. -/
theorem outer_last (F:Fd) (y m:Nat):evC Tryz.prog [] [] (oneL 6 fun _ _=>none) (loopAt Tryz.f162 0) (outerS F (y:Nat) m (pts F)) (finX keepO [some 0,some 1]) =
    cond (decide (((y:Nat):Int) < F.H)) none (some ⟨.exit 0,outerS F (y:Nat) m (pts F),.any⟩):=by kernel_rfl
theorem lok_none {P:Program} {c:Code} (i:Nat):LOk P (oneL i fun _ _=>none) c:=by
  intro c' _ i' g' _ hg
  unfold oneL at hg
  cases hb:Nat.beq i' i
  · rw [hb] at hg; cases hg
  · rw [hb] at hg
    cases hg
    exact ⟨fun _ _ _ hr=>(by cases hr),fun _ _ _ hk=>(by have:=hk (fun e s=>some ⟨e,s,.any⟩); cases this)⟩
theorem outer_leads {F:Fd} {w h:Nat} (d:Dim F w h):Leads Tryz.prog (.loop (loopAt Tryz.f162 0)) (outerS F 0 (0*w) (pts F)) (.exit 0) (outerS F (h:Nat) (h*w) (pts F)):=by
  have h8:=d.h8
  refine loop_rule (fun y=>outerS F (y:Nat) (y*w) (pts F)) h (.exit 0) _ (by simp) (fun y hy=>?_) ?_
  · refine leads_ev (finN_sub keepO [some 0,some 1]) e_nil k_nil (innerL_ok d hy) ?_
    have c1:decide (((y:Nat):Int) < F.H)=true:=by rw [d.H]; exact dec_lt hy
    rw [outer_step,c1,gate_pos (Sub.refl _),w64_next (by omega),Nat.succ_mul]
    rfl
  · refine leads_ev (finX_sub keepO [some 0,some 1]) e_nil k_nil (lok_none 6) ?_
    have c1:decide (((h:Nat):Int) < F.H)=false:=by rw [d.H]; exact dec_self h
    rw [outer_last,c1]
    rfl
noncomputable def pointsL (F:Fd) (w h:Nat):Nat→Option LFun:=oneL 3 (toldF keepO [some 0,some 1] (outerS F 0 (0*w) (pts F)) (.exit 0) (outerS F (h:Nat) (h*w) (pts F)))
theorem pointsL_ok {F:Fd} {w h:Nat} (d:Dim F w h):LOk Tryz.prog (pointsL F w h) (bodyOf Tryz.f162) :=
  lok_one (i:=3) 2 (by kernel_rfl) fun j hj hid=>by
    have:j=0∨j=1:=by omega
    rcases this with rfl | rfl
    · exact toldF_sound (outer_leads d)
    · have e:firstId ((loopsOf (bodyOf Tryz.f162)).getD 1 .skip)=some 6:=by kernel_rfl
      rw [e] at hid
      cases hid
def rows0 (F:Fd):St:=mkS 63 [(1,.own 0 0),(3,.osl 1 3 0 0),(13,iA F.H),(14,iA 0)] [.c F.c,.a 30 3 0 fun _=>[.f 0,.f 0,.f 0]]
theorem points_ev (F:Fd) (w h:Nat):ev Tryz.prog [] [] (pointsL F w h) Tryz.f162 [.agg F.c] ret =
    cond ((decide (0≤w64 (F.W*F.H))&&decide (((24:Nat):Int)*w64 (F.W*F.H)≤281474976710656))&&true)
      (gate (Sub (rows0 F) (outerS F 0 (0*w) (pts F))) (some (Out.of (.sl 3 (h*w) fun i=>c3 (pt F (0+i)))))) none:=by kernel_rfl
theorem Dim.prod {F:Fd} {w h:Nat} (d:Dim F w h):w64 (F.W*F.H)=((w*h:Nat):Int):=by
  have:=d.le
  rw [d.W,d.H,← Int.natCast_mul]
  exact w64_id (by omega) (by omega)
theorem points_spec {F:Fd} {w h:Nat} (d:Dim F w h):FSpec Tryz.prog 162 [.agg F.c] (.sl 3 (w*h) fun q=>c3 (pt F q)):=by
  refine gspec e_nil k_nil Tryz.func162 (by kernel_rfl) (by kernel_rfl) (pointsL_ok d) rfl ?_
  have hle:=d.le
  have hs:Sub (rows0 F) (outerS F 0 (0*w) (pts F)):=by
    rw [Nat.zero_mul]
    exact sub_same ⟨Or.inl rfl,Or.inr ⟨30,3,0,_,_,rfl,rfl,fun q hq=>by omega⟩,trivial⟩
  have c2:decide (((24:Nat):Int)*((w*h:Nat):Int)≤281474976710656)=true:=decide_eq_true (by omega)
  have e:(fun i=>c3 (pt F (0+i)))=fun q=>c3 (pt F q):=funext fun i=>by rw [Nat.zero_add]
  rw [points_ev,d.prod,dec_nonneg,c2,gate_pos hs,e,Nat.mul_comm h w]
  rfl

def gridZ:List AV:=[iA 0,iA 0,iA 0,.x (.slice none 0 0),.f 0,.f 0,.f 0,.f 0,.f 0,.f 0]
def gridC (F:Fd) (n:Nat) (b:Nat→Nat):List AV:=[iA F.W,iA F.H,iA F.sk,.sl 3 n (fun q=>c3 (pt F q)),.f (b 0),.f (b 1),.f (b 2),.f (b 3),.f (b 4),.f (b 5)]
theorem known_ev1 (F:Fd) (e:Int):ev Tryz.prog V4 [kfix 161 [.agg F.c] (iA e)] noL Tryz.f138 [.agg F.c] ret =
    gate ([AV.agg F.c]=[AV.agg F.c]) (cond (!(e==0)) (some (Out.of (.tup [.agg gridZ,iA e]))) none):=by kernel_rfl
theorem known_ev2 (F:Fd) (n:Nat) (b:Nat→Nat):ev Tryz.prog V4 [kfix 161 [.agg F.c] (iA 0),kfix 162 [.agg F.c] (.sl 3 n fun q=>c3 (pt F q)),kfix 163 [.sl 3 n fun q=>c3 (pt F q)] (.agg (c6 b))] noL Tryz.f138 [.agg F.c] ret =
    gate ([AV.agg F.c]=[AV.agg F.c]) (gate ([AV.agg F.c]=[AV.agg F.c]) (gate ([AV.sl 3 n fun q=>c3 (pt F q)]=[AV.sl 3 n fun q=>c3 (pt F q)]) (cond (!(mayS b==0)) (some (Out.of (.tup [.agg gridZ,iA 1]))) (some (Out.of (.tup [.agg (gridC F n b),iA 0])))))):=by kernel_rfl
theorem known_bad {F:Fd} (hn:F.n < 4611686018427387904) (he:F.mayN≠0):FSpec Tryz.prog 138 [.agg F.c] (.tup [.agg gridZ,iA F.mayN]):=by
  refine gspec V4_ok (k_cons (kfix_ok (may_spec F hn)) k_nil) Tryz.func138 (by kernel_rfl) (by kernel_rfl) noL_ok rfl ?_
  rw [known_ev1,gate_pos rfl,beq_false_of_ne he]
  rfl
/-- The box around all points. -/
def bx (F:Fd):Nat→Nat:=boxQ (pt F) F.n
theorem known_ok {F:Fd} {w h:Nat} (d:Dim F w h) (he:F.mayN=0):FSpec Tryz.prog 138 [.agg F.c] (.tup (cond (mayS (bx F)==0) [.agg (gridC F F.n (bx F)),iA 0] [.agg gridZ,iA 1])):=by
  have hle:=d.le
  have hpos:4≤w*h:=Nat.mul_le_mul d.w1 d.h1
  have hn:=d.n
  have s1:=may_spec F (by omega)
  rw [he] at s1
  have s2:=points_spec d
  have s3:=around_spec (n:=w*h) (pt F) (by omega) (by omega)
  refine gspec V4_ok (k_cons (kfix_ok s1) (k_cons (kfix_ok s2) (k_cons (kfix_ok s3) k_nil))) Tryz.func138 (by kernel_rfl) (by kernel_rfl) noL_ok rfl ?_
  rw [known_ev2,gate_pos rfl,gate_pos rfl,gate_pos rfl]
  unfold bx
  rw [hn]
  cases mayS (boxQ (pt F) (w*h))==0<;>rfl
end Go.Proofs.YtefphimaggjihaaGreatDoor.Hs.Fm

namespace Go.Proofs.YtefphimaggjihaaGreatDoor.Hs.Fm
open Go.Gv
open Go.Ev (cn fadd fsub fmul fdiv feq flt fle fgt fge)

def inR (k:Int) (n:Nat):Bool:=decide (0≤k)&&decide (k < (n:Int))
theorem inR_nat {k n:Nat} (h:k < n):inR (k:Nat) n=true:=by unfold inR; rw [dec_nonneg,dec_lt h]; rfl

noncomputable def GK (P:Program) (g:Func):List KEntry:=[inl P R3 [] (fun _=>noL) 144 g]
theorem GK_ok:∀ e,e ∈ GK Tryz.prog Tryz.f144→KOk Tryz.prog e:=k_cons (inl_ok R3_ok k_nil (by kernel_rfl) Tryz.func144 (by kernel_rfl) (by kernel_rfl) (c:=bodyOf Tryz.f144) fun _=>noL_ok) k_nil
def fbI (F:Fd) (y x:Int) (p b:Nat→Nat):St:=mkS 39 [(1,.own 0 0),(2,.own 1 0),(3,.own 2 0),(4,.own 3 0),(5,iA y),(6,iA x)] [.c F.c,.c z6,.c (c3 p),.c (c6 b)]
def fbO (F:Fd) (y:Int) (p b:Nat→Nat):St:=mkS 39 [(1,.own 0 0),(2,.own 1 0),(3,.own 2 0),(4,.own 3 0),(5,iA y)] [.c F.c,.c z6,.c (c3 p),.c (c6 b)]
def keepB:List Nat:=[1,2,3,4,5,6]
def keepC:List Nat:=[1,2,3,4,5]
def rmS (F:Fd) (e q:Int):St:=mkS 83 [(1,.own 0 0),(2,iA e),(5,iA q)] [.c F.c]
def keepR2:List Nat:=[1,2,5]

theorem fbI_step (F:Fd) (y x:Int) (p b:Nat→Nat):evC Tryz.prog R3 (GK Tryz.prog Tryz.f144) noL (loopAt Tryz.f104 1) (fbI F y x p b) (finN keepB [some 0,some 1,some 2,some 3]) =
    cond (decide (x < F.W)) (cond ((inR (ix F.W y x) F.n||false)&&true) (some ⟨.normal,fbI F y (w64 (x+1)) (ptXY F (F.hs (ix F.W y x).toNat) x y) (joinS b (pp (ptXY F (F.hs (ix F.W y x).toNat) x y))),.any⟩) none) none:=by kernel_rfl
theorem fbI_end (F:Fd) (y x:Int) (p b:Nat→Nat):evC Tryz.prog R3 (GK Tryz.prog Tryz.f144) noL (loopAt Tryz.f104 1) (fbI F y x p b) (finX keepB [some 0,some 1,some 2,some 3]) =
    cond (decide (x < F.W)) (cond ((inR (ix F.W y x) F.n||false)&&true) none none) (some ⟨.exit 2,fbI F y x p b,.any⟩):=by kernel_rfl
def lastP (p:Nat→Nat→Nat):Nat→Nat→Nat
  | 0=>p 0
  | q+1=>p q
theorem fbI_leads {F:Fd} {w h y:Nat} (d:Dim F w h) (hy:y < h):Leads Tryz.prog (.loop (loopAt Tryz.f104 1)) (fbI F (y:Nat) 0 (lastP (pt F) (y*w)) (boxQ (pt F) (y*w))) (.exit 2) (fbI F (y:Nat) (w:Nat) (lastP (pt F) (y*w+w)) (boxQ (pt F) (y*w+w))):=by
  have hle:=d.le
  have hyW:=d.row hy
  refine loop_rule (fun j=>fbI F (y:Nat) (j:Nat) (lastP (pt F) (y*w+j)) (boxQ (pt F) (y*w+j))) w (.exit 2) _ (by simp) (fun j hj=>?_) ?_
  · refine leads_ev (finN_sub keepB [some 0,some 1,some 2,some 3]) R3_ok GK_ok noL_ok ?_
    have c1:decide (((j:Nat):Int) < F.W)=true:=by rw [d.W]; exact dec_lt hj
    rw [fbI_step,c1,d.ix hy hj,inR_nat (by rw [d.n]; omega),w64_next (by omega),Int.toNat_natCast,← pt_at d hj]
    rfl
  · refine leads_ev (finX_sub keepB [some 0,some 1,some 2,some 3]) R3_ok GK_ok noL_ok ?_
    have c1:decide (((w:Nat):Int) < F.W)=false:=by rw [d.W]; exact dec_self w
    rw [fbI_end,c1]
    rfl
noncomputable def fbIL (F:Fd) (w y:Nat):Nat→Option LFun:=oneL 7 (toldF keepB [some 0,some 1,some 2,some 3] (fbI F (y:Nat) 0 (lastP (pt F) (y*w)) (boxQ (pt F) (y*w))) (.exit 2) (fbI F (y:Nat) (w:Nat) (lastP (pt F) (y*w+w)) (boxQ (pt F) (y*w+w))))
theorem fbIL_ok {F:Fd} {w h y:Nat} (d:Dim F w h) (hy:y < h):LOk Tryz.prog (fbIL F w y) (loopAt Tryz.f104 0) :=
  lok_one (i:=7) 1 (by kernel_rfl) fun j hj _=>by
    have:j=0:=by omega
    subst this
    have e:(loopsOf (loopAt Tryz.f104 0)).getD 0 .skip=loopAt Tryz.f104 1:=by kernel_rfl
    rw [e]
    exact toldF_sound (fbI_leads d hy)
theorem fbO_step (F:Fd) (w y:Nat):evC Tryz.prog R3 (GK Tryz.prog Tryz.f144) (fbIL F w y) (loopAt Tryz.f104 0) (fbO F (y:Nat) (lastP (pt F) (y*w)) (boxQ (pt F) (y*w))) (finN keepC [some 0,some 1,some 2,some 3]) =
    cond (decide (((y:Nat):Int) < F.H)) (gate (Sub (fbI F (y:Nat) 0 (lastP (pt F) (y*w)) (boxQ (pt F) (y*w))) (fbI F (y:Nat) 0 (lastP (pt F) (y*w)) (boxQ (pt F) (y*w)))) (some ⟨.normal,fbO F (w64 (((y:Nat):Int)+1)) (lastP (pt F) (y*w+w)) (boxQ (pt F) (y*w+w)),.any⟩)) none:=by kernel_rfl
theorem fbO_last (F:Fd) (y:Int) (p b:Nat→Nat):evC Tryz.prog R3 (GK Tryz.prog Tryz.f144) (oneL 7 fun _ _=>none) (loopAt Tryz.f104 0) (fbO F y p b) (finX keepC [some 0,some 1,some 2,some 3]) =
    cond (decide (y < F.H)) none (some ⟨.exit 0,fbO F y p b,.any⟩):=by kernel_rfl
theorem fbO_leads {F:Fd} {w h:Nat} (d:Dim F w h):Leads Tryz.prog (.loop (loopAt Tryz.f104 0)) (fbO F 0 (lastP (pt F) (0*w)) (boxQ (pt F) (0*w))) (.exit 0) (fbO F (h:Nat) (lastP (pt F) (h*w)) (boxQ (pt F) (h*w))):=by
  have h8:=d.h8
  refine loop_rule (fun y=>fbO F (y:Nat) (lastP (pt F) (y*w)) (boxQ (pt F) (y*w))) h (.exit 0) _ (by simp) (fun y hy=>?_) ?_
  · refine leads_ev (finN_sub keepC [some 0,some 1,some 2,some 3]) R3_ok GK_ok (fbIL_ok d hy) ?_
    have c1:decide (((y:Nat):Int) < F.H)=true:=by rw [d.H]; exact dec_lt hy
    rw [fbO_step,c1,gate_pos (Sub.refl _),w64_next (by omega),Nat.succ_mul y w]
    rfl
  · refine leads_ev (finX_sub keepC [some 0,some 1,some 2,some 3]) R3_ok GK_ok (lok_none 7) ?_
    have c1:decide (((h:Nat):Int) < F.H)=false:=by rw [d.H]; exact dec_self h
    rw [fbO_last,c1]
    rfl
noncomputable def fbL (F:Fd) (w h:Nat):Nat→Option LFun:=oneL 4 (toldF keepC [some 0,some 1,some 2,some 3] (fbO F 0 (lastP (pt F) (0*w)) (boxQ (pt F) (0*w))) (.exit 0) (fbO F (h:Nat) (lastP (pt F) (h*w)) (boxQ (pt F) (h*w))))
theorem fbL_ok {F:Fd} {w h:Nat} (d:Dim F w h):LOk Tryz.prog (fbL F w h) (bodyOf Tryz.f104) :=
  lok_one (i:=4) 2 (by kernel_rfl) fun j hj hid=>by
    have:j=0∨j=1:=by omega
    rcases this with rfl | rfl
    · exact toldF_sound (fbO_leads d)
    · have e:firstId ((loopsOf (bodyOf Tryz.f104)).getD 1 .skip)=some 7:=by kernel_rfl
      rw [e] at hid
      cases hid
theorem fb_ev (F:Fd) (w h:Nat):ev Tryz.prog R3 (GK Tryz.prog Tryz.f144) (fbL F w h) Tryz.f104 [.agg F.c] ret =
    cond ((inR (ix F.W 0 0) F.n||false)&&true) (gate (Sub (fbO F 0 (ptXY F (F.hs (ix F.W 0 0).toNat) 0 0) (pp (ptXY F (F.hs (ix F.W 0 0).toNat) 0 0))) (fbO F 0 (lastP (pt F) (0*w)) (boxQ (pt F) (0*w)))) (some (Out.of (.agg (c6 (boxQ (pt F) (h*w))))))) none:=by kernel_rfl
theorem fb_spec {F:Fd} {w h:Nat} (d:Dim F w h):FSpec Tryz.prog 104 [.agg F.c] (.agg (c6 (bx F))):=by
  refine gspec R3_ok GK_ok Tryz.func104 (by kernel_rfl) (by kernel_rfl) (fbL_ok d) rfl ?_
  have hpos:4≤w*h:=Nat.mul_le_mul d.w1 d.h1
  have hn:=d.n
  have hw:=d.w1
  have hix:ix F.W 0 0=((0*w+0:Nat):Int):=d.ix (y:=0) (x:=0) (by have:=d.h1; omega) (by omega)
  have hpt:ptXY F (F.hs (0*w+0)) 0 0=pt F 0:=by
    have:=(pt_at (y:=0) (x:=0) d (by omega)).symm
    rw [Nat.zero_mul] at this ⊢
    exact this
  rw [fb_ev,hix,inR_nat (by rw [hn]; omega),Int.toNat_natCast,hpt]
  have hs:Sub (fbO F 0 (pt F 0) (pp (pt F 0))) (fbO F 0 (lastP (pt F) (0*w)) (boxQ (pt F) (0*w))):=by
    rw [Nat.zero_mul]
    exact Sub.refl _
  rw [gate_pos hs]
  unfold bx
  rw [hn,Nat.mul_comm h w]
  rfl
end Go.Proofs.YtefphimaggjihaaGreatDoor.Hs.Fm

namespace Go.Proofs.YtefphimaggjihaaGreatDoor.Hs.Fm
open Go.Gv
open Go.Ev (cn fadd fsub fmul fdiv feq flt fle fgt fge)

theorem rm_step (F:Fd) (q:Int):evC Tryz.prog R3 [] noL (loopAt Tryz.f48 0) (rmS F 0 q) (finN keepR2 [some 0]) =
    cond (decide (q < (F.n:Int))) (cond (inR q F.n||false) (cond (inR q F.n||!((decide (F.hs q.toNat < -1000000)==false)&&true)) (cond (hBad (F.hs q.toNat)) none (some ⟨.normal,rmS F 0 (w64 (q+1)),.any⟩)) none) none) none:=by kernel_rfl
theorem rm_end (F:Fd) (q:Int):evC Tryz.prog R3 [] noL (loopAt Tryz.f48 0) (rmS F 0 q) (finX keepR2 [some 0]) =
    cond (decide (q < (F.n:Int))) (cond (inR q F.n||false) (cond (inR q F.n||!((decide (F.hs q.toNat < -1000000)==false)&&true)) (cond (hBad (F.hs q.toNat)) (some ⟨.ret,rmS F 6 q,.any⟩) none) none) none) (some ⟨.exit 0,rmS F 0 q,.any⟩):=by kernel_rfl
theorem rm_round {F:Fd} {q:Nat} (hn:F.n < 4611686018427387904) (hq:q < F.n) (hb:hBad (F.hs q)=false):Leads Tryz.prog (loopAt Tryz.f48 0) (rmS F 0 (q:Nat)) .normal (rmS F 0 ((q+1:Nat):Int)):=by
  refine leads_ev (finN_sub keepR2 [some 0]) R3_ok k_nil noL_ok ?_
  rw [rm_step,dec_lt hq,inR_nat hq,w64_next (by omega)]
  simp only [Int.toNat_natCast,hb,Bool.true_or,cond_true,cond_false]
theorem rm_ok {F:Fd} (hn:F.n < 4611686018427387904) (h:∀ q,q < F.n→hBad (F.hs q)=false):Leads Tryz.prog (.loop (loopAt Tryz.f48 0)) (rmS F 0 0) (.exit 0) (rmS F 0 F.n):=by
  refine loop_rule (fun q=>rmS F 0 (q:Nat)) F.n (.exit 0) _ (by simp) (fun q hq=>rm_round hn hq (h q hq)) ?_
  refine leads_ev (finX_sub keepR2 [some 0]) R3_ok k_nil noL_ok ?_
  rw [rm_end,dec_self]
  rfl
theorem rm_bad {F:Fd} (hn:F.n < 4611686018427387904) {j:Nat} (hj:j < F.n) (hb:hBad (F.hs j)=true) (h:∀ q,q < j→hBad (F.hs q)=false):Leads Tryz.prog (.loop (loopAt Tryz.f48 0)) (rmS F 0 0) .ret (rmS F 6 (j:Nat)):=by
  refine loop_rule (fun q=>rmS F 0 (q:Nat)) j .ret _ (by simp) (fun q hq=>rm_round hn (by omega) (h q hq)) ?_
  refine leads_ev (finX_sub keepR2 [some 0]) R3_ok k_nil noL_ok ?_
  rw [rm_end,dec_lt hj,inR_nat hj]
  simp only [Int.toNat_natCast,hb,Bool.true_or,cond_true]
noncomputable def rmL (F:Fd) (ex:Exit) (sf:St):Nat→Option LFun:=oneL 14 (toldF keepR2 [some 0] (rmS F 0 0) ex sf)
theorem rmL_lok {F:Fd} {ex:Exit} {sf:St} (h:Leads Tryz.prog (.loop (loopAt Tryz.f48 0)) (rmS F 0 0) ex sf):LOk Tryz.prog (rmL F ex sf) (bodyOf Tryz.f48) :=
  lok_one (i:=14) 1 (by kernel_rfl) fun j hj _=>by
    have:j=0:=by omega
    subst this
    exact toldF_sound h
def Fd.firstR (F:Fd) (X:Option Out):Option Out:=cond F.dims (some (Out.of (iA 4))) (cond (!((F.n:Int)==w64 (F.W*F.H))) (some (Out.of (iA 5))) (cond (skB F.sk) (some (Out.of (iA 4))) (cond F.far (some (Out.of (iA 1))) (cond (fle F.sd 0) (some (Out.of (iA 6))) X))))
theorem rm_ev0 (F:Fd):ev Tryz.prog R3 [] (rmL F (.exit 0) (rmS F 0 F.n)) Tryz.f48 [.agg F.c] ret=F.firstR (gate (Sub (rmS F 0 0) (rmS F 0 0)) none):=by kernel_rfl
theorem rm_ev1 (F:Fd) (j:Int):ev Tryz.prog R3 [] (rmL F .ret (rmS F 6 j)) Tryz.f48 [.agg F.c] ret=F.firstR (gate (Sub (rmS F 0 0) (rmS F 0 0)) (some (Out.of (iA 6)))):=by kernel_rfl
theorem rm_ev2 (F:Fd) (b:Nat→Nat):ev Tryz.prog R3 [kfix 104 [.agg F.c] (.agg (c6 b))] (rmL F (.exit 0) (rmS F 0 F.n)) Tryz.f48 [.agg F.c] ret =
    F.firstR (gate (Sub (rmS F 0 0) (rmS F 0 0)) (gate ([AV.agg F.c]=[AV.agg F.c]) (cond (!(mayS b==0)) (some (Out.of (iA 1))) (some (Out.of (iA 0)))))):=by kernel_rfl
theorem firstR_eq (F:Fd) (X:Option Out):F.firstR X=F.first X:=by
  unfold Fd.firstR Fd.first
  cases hf:F.far
  · have hn:nearS F.sd=true:=by
      unfold Fd.far at hf
      revert hf
      cases fineS (F.at_ 0) (F.at_ 1) (F.at_ 2)<;>cases nearS F.sd<;>intro hf<;>first | rfl | (cases hf)
    rw [not_gt hn]
  · rfl
theorem rmay_bad {F:Fd} (hn:F.n < 4611686018427387904) (he:F.mayN≠0):FSpec Tryz.prog 48 [.agg F.c] (iA F.mayN):=by
  have fin:∀ (X:Option Out),(F.okAll=true∨X=some (Out.of (iA 6))∧F.okAll=false)→F.first X=some (Out.of (iA F.mayN)):=fun X hX=>by
    revert he
    unfold Fd.first Fd.mayN
    cases F.dims<;>simp only [cond_true,cond_false]
    · cases (!((F.n:Int)==w64 (F.W*F.H)))<;>simp only [cond_true,cond_false]
      · cases skB F.sk<;>simp only [cond_true,cond_false]
        · cases F.far<;>simp only [cond_true,cond_false]
          · cases (!fgt F.sd 0)<;>simp only [cond_true,cond_false]
            · rcases hX with h1 | ⟨h1,h2⟩
              · rw [h1]; intro he; exact absurd rfl he
              · rw [h1,h2]; intro _; rfl
            · intro _; trivial
          · intro _; trivial
        · intro _; trivial
      · intro _; trivial
    · intro _; trivial
  rcases first_bad F.hs F.n with h | ⟨j,h1,h2,h3⟩
  · refine gspec R3_ok k_nil Tryz.func48 (by kernel_rfl) (by kernel_rfl) (rmL_lok (rm_ok hn h)) rfl ?_
    rw [rm_ev0,gate_pos (Sub.refl _),firstR_eq]
    refine fin _ (Or.inl ?_)
    unfold Fd.okAll
    rw [List.all_eq_true.2]
    intro q hq
    rw [h q (List.mem_range.1 hq)]
    rfl
  · refine gspec R3_ok k_nil Tryz.func48 (by kernel_rfl) (by kernel_rfl) (rmL_lok (rm_bad hn h1 h2 h3)) rfl ?_
    rw [rm_ev1,gate_pos (Sub.refl _),firstR_eq]
    refine fin _ (Or.inr ⟨rfl,?_⟩)
    unfold Fd.okAll
    rw [List.all_eq_false.2 ⟨j,List.mem_range.2 h1,by rw [h2]; simp⟩]
theorem rmay_good {F:Fd} {w h:Nat} (d:Dim F w h) (he:F.mayN=0):FSpec Tryz.prog 48 [.agg F.c] (iA (cond (mayS (bx F)==0) 0 1)):=by
  have hle:=d.le
  have hn:=d.n
  rcases first_bad F.hs F.n with h | ⟨j,h1,h2,h3⟩
  · refine gspec R3_ok (k_cons (kfix_ok (fb_spec d)) k_nil) Tryz.func48 (by kernel_rfl) (by kernel_rfl) (rmL_lok (rm_ok (by omega) h)) rfl ?_
    rw [rm_ev2,gate_pos (Sub.refl _),gate_pos rfl,firstR_eq]
    revert he
    unfold Fd.first Fd.mayN
    cases F.dims<;>simp only [cond_true,cond_false]
    · cases (!((F.n:Int)==w64 (F.W*F.H)))<;>simp only [cond_true,cond_false]
      · cases skB F.sk<;>simp only [cond_true,cond_false]
        · cases F.far<;>simp only [cond_true,cond_false]
          · cases (!fgt F.sd 0)<;>simp only [cond_true,cond_false]
            · intro _; cases mayS (bx F)==0<;>rfl
            · intro he; cases he
          · intro he; cases he
        · intro he; cases he
      · intro he; cases he
    · intro he; cases he
  · exfalso
    have hk:F.okAll=false:=by
      unfold Fd.okAll
      rw [List.all_eq_false.2 ⟨j,List.mem_range.2 h1,by rw [h2]; simp⟩]
    revert he
    unfold Fd.mayN
    rw [hk]
    cases F.dims<;>cases (!((F.n:Int)==w64 (F.W*F.H)))<;>cases skB F.sk<;>cases F.far<;>cases (!fgt F.sd 0)<;>intro he<;>cases he
theorem fm_ev1 (F:Fd) (e:Int):ev Tryz.prog [] [kfix 138 [.agg F.c] (.tup [.agg gridZ,iA e])] noL Tryz.f100 [.agg F.c] ret=gate ([AV.agg F.c]=[AV.agg F.c]) (some (Out.of (iA e))):=by kernel_rfl
theorem fm_ev2 (F:Fd) (n:Nat) (b:Nat→Nat):ev Tryz.prog [] [kfix 138 [.agg F.c] (.tup [.agg (gridC F n b),iA 0])] noL Tryz.f100 [.agg F.c] ret=gate ([AV.agg F.c]=[AV.agg F.c]) (some (Out.of (iA 0))):=by kernel_rfl
theorem fm_bad {F:Fd} {e:Int} (h:FSpec Tryz.prog 138 [.agg F.c] (.tup [.agg gridZ,iA e])):FSpec Tryz.prog 100 [.agg F.c] (iA e) :=
  gspec e_nil (k_cons (kfix_ok h) k_nil) Tryz.func100 (by kernel_rfl) (by kernel_rfl) noL_ok rfl ((fm_ev1 F e).trans (gate_pos rfl))
theorem fm_good {F:Fd} {n:Nat} {b:Nat→Nat} (h:FSpec Tryz.prog 138 [.agg F.c] (.tup [.agg (gridC F n b),iA 0])):FSpec Tryz.prog 100 [.agg F.c] (iA 0) :=
  gspec e_nil (k_cons (kfix_ok h) k_nil) Tryz.func100 (by kernel_rfl) (by kernel_rfl) noL_ok rfl ((fm_ev2 F n b).trans (gate_pos rfl))
/-- Numbers that may be: the sides, and how many points there are. -/
theorem mayN_dim {F:Fd} (h:F.mayN=0):(∃ w h,Dim F w h)∧F.far=false:=by
  unfold Fd.mayN at h
  cases hd:F.dims
  · rw [hd,cond_false] at h
    cases hn:((F.n:Int)==w64 (F.W*F.H))
    · rw [hn] at h; exact absurd (show (5:Int)=0 from h) (by decide)
    · rw [hn] at h
      have h:cond (skB F.sk) 4 (cond F.far 1 (cond (!fgt F.sd 0) 6 (cond F.okAll 0 6)))=(0:Int):=h
      cases hk:skB F.sk
      · rw [hk,cond_false] at h
        cases hf:F.far
        · refine ⟨?_,rfl⟩
          unfold Fd.dims at hd
          have d1:¬ F.W < 2:=fun c=>by rw [decide_eq_true c] at hd; cases hd
          rw [decide_eq_false d1,cond_false] at hd
          have d2:¬ F.W > 8:=fun c=>by rw [decide_eq_true c] at hd; cases hd
          rw [decide_eq_false d2,cond_false] at hd
          have d3:¬ F.H < 2:=fun c=>by rw [decide_eq_true c] at hd; cases hd
          rw [decide_eq_false d3,cond_false] at hd
          have d4:¬ F.H > 8:=fun c=>by rw [decide_eq_true c] at hd; cases hd
          have eW:F.W=((F.W.toNat:Nat):Int):=by omega
          have eH:F.H=((F.H.toNat:Nat):Int):=by omega
          have hle:F.W.toNat*F.H.toNat≤8*8:=Nat.mul_le_mul (by omega) (by omega)
          have e:F.W*F.H=((F.W.toNat*F.H.toNat:Nat):Int):=by rw [Int.natCast_mul,← eW,← eH]
          have hn:=eq_of_beq hn
          rw [e,w64_id (by omega) (by omega)] at hn
          exact ⟨F.W.toNat,F.H.toNat,eW,eH,by omega,by omega,by omega,by omega,by omega⟩
        · rw [hf] at h; exact absurd (show (1:Int)=0 from h) (by decide)
      · rw [hk] at h; exact absurd (show (4:Int)=0 from h) (by decide)
  · rw [hd] at h; exact absurd (show (4:Int)=0 from h) (by decide)
theorem may_ev_no (F:Fd):ev Tryz.prog V4 [] (oneL 12 fun _ _=>none) Tryz.f161 [.agg F.c] ret=F.first none:=by kernel_rfl
theorem rm_ev_no (F:Fd):ev Tryz.prog R3 [] (oneL 14 fun _ _=>none) Tryz.f48 [.agg F.c] ret=F.firstR none:=by kernel_rfl
theorem first_no {F:Fd} (hn:¬ F.n < 4611686018427387904) (X:Option Out):F.first X=some (Out.of (iA F.mayN))∧F.mayN≠0:=by
  cases hd:F.dims
  · cases he:((F.n:Int)==w64 (F.W*F.H))
    · unfold Fd.first Fd.mayN
      rw [hd,he]
      exact ⟨rfl,show (5:Int)≠0 by decide⟩
    · exfalso
      unfold Fd.dims at hd
      have d1:¬ F.W < 2:=fun c=>by rw [decide_eq_true c] at hd; cases hd
      rw [decide_eq_false d1,cond_false] at hd
      have d2:¬ F.W > 8:=fun c=>by rw [decide_eq_true c] at hd; cases hd
      rw [decide_eq_false d2,cond_false] at hd
      have d3:¬ F.H < 2:=fun c=>by rw [decide_eq_true c] at hd; cases hd
      rw [decide_eq_false d3,cond_false] at hd
      have d4:¬ F.H > 8:=fun c=>by rw [decide_eq_true c] at hd; cases hd
      have hle:F.W.toNat*F.H.toNat≤8*8:=Nat.mul_le_mul (by omega) (by omega)
      have eW:F.W=((F.W.toNat:Nat):Int):=by omega
      have eH:F.H=((F.H.toNat:Nat):Int):=by omega
      have e:F.W*F.H=((F.W.toNat*F.H.toNat:Nat):Int):=by rw [Int.natCast_mul,← eW,← eH]
      have he:=eq_of_beq he
      rw [e,w64_id (by omega) (by omega)] at he
      omega
  · unfold Fd.first Fd.mayN
    rw [hd]
    exact ⟨rfl,show (4:Int)≠0 by decide⟩
theorem skB_rngF {sk:Int} (h:skB sk=false):0≤sk∧sk < 16:=by
  unfold skB at h
  by_cases h1:sk < 0
  · rw [decide_eq_true h1] at h; cases h
  · rw [decide_eq_false h1,cond_false] at h
    have:=of_decide_eq_false h
    omega
theorem mayN_all {F:Fd} (h:F.mayN=0):(2≤F.W∧F.W≤8∧2≤F.H∧F.H≤8)∧(0≤F.sk∧F.sk < 16)∧∀ q,q < F.n→hBad (F.hs q)=false:=by
  obtain ⟨⟨w,h',d⟩,_⟩:=mayN_dim h
  obtain ⟨hk,hs⟩:F.okAll=true∧skB F.sk=false:=by
    unfold Fd.mayN at h
    revert h
    cases F.dims<;>cases (!((F.n:Int)==w64 (F.W*F.H)))<;>cases skB F.sk<;>cases F.far<;>cases (!fgt F.sd 0)<;>cases F.okAll<;>intro h<;>first | exact ⟨rfl,rfl⟩ | (cases h; done)
  refine ⟨?_,skB_rngF hs,fun q hq=>?_⟩
  · have a1:=d.W
    have a2:=d.H
    have a3:=d.w8
    have a4:=d.h8
    have a5:=d.w1
    have a6:=d.h1
    omega
  · unfold Fd.okAll at hk
    have:=List.all_eq_true.1 hk q (List.mem_range.2 hq)
    simpa using this
/-- A field may be, or not: the same for both. -/
theorem field_all (F:Fd):∃ m,FSpec Tryz.prog 100 [.agg F.c] (iA m)∧FSpec Tryz.prog 48 [.agg F.c] (iA m)∧(m=0→F.far=false∧F.n≤64∧F.mayN=0∧(mayS (bx F)==0)=true):=by
  by_cases hn:F.n < 4611686018427387904
  · by_cases he:F.mayN=0
    · obtain ⟨⟨w,h,d⟩,hf⟩:=mayN_dim he
      have k:=known_ok d he
      have g:=rmay_good d he
      have hl:=d.le
      cases hb:mayS (bx F)==0
      · rw [hb] at k g; exact ⟨1,fm_bad k,g,fun h=>absurd h (by decide)⟩
      · rw [hb] at k g; exact ⟨0,fm_good k,g,fun _=>⟨hf,by rw [d.n]; exact hl,he,rfl⟩⟩
    · exact ⟨_,fm_bad (known_bad hn he),rmay_bad hn he,fun h=>absurd h he⟩
  · have f:=first_no hn none
    have s1:FSpec Tryz.prog 161 [.agg F.c] (iA F.mayN):=gspec V4_ok k_nil Tryz.func161 (by kernel_rfl) (by kernel_rfl) (lok_none 12) rfl ((may_ev_no F).trans f.1)
    have s2:FSpec Tryz.prog 48 [.agg F.c] (iA F.mayN):=gspec R3_ok k_nil Tryz.func48 (by kernel_rfl) (by kernel_rfl) (lok_none 14) rfl ((rm_ev_no F).trans ((firstR_eq F none).trans f.1))
    have s3:FSpec Tryz.prog 138 [.agg F.c] (.tup [.agg gridZ,iA F.mayN]):=by
      refine gspec V4_ok (k_cons (kfix_ok s1) k_nil) Tryz.func138 (by kernel_rfl) (by kernel_rfl) noL_ok rfl ?_
      rw [known_ev1,gate_pos rfl,beq_false_of_ne f.2]
      rfl
    exact ⟨_,fm_bad s3,s2,fun h=>absurd h f.2⟩
end Go.Proofs.YtefphimaggjihaaGreatDoor.Hs.Fm

namespace Go.Gv
open Go.RowKit

/-- Told either way. -/
def condL (b:Bool) (g h:LFun):LFun:=fun s k=>cond b (g s k) (h s k)
theorem condL_sound {P:Program} {c:Code} {b:Bool} {g h:LFun} (hg:b=true→LSound P c g) (hh:b=false→LSound P c h):LSound P c (condL b g h):=by
  cases b
  · exact hh rfl
  · exact hg rfl
/-- Several loops. -/
def manyL:List (Nat × LFun)→Nat→Option LFun
  | [],_=>none
  | x::l,j=>cond (Nat.beq j x.1) (some x.2) (manyL l j)
theorem lok_nil {P:Program} {c:Code}:LOk P (manyL []) c:=fun _ _ _ _ _ h=>by cases h
theorem lok_cons {P:Program} {c:Code} {i:Nat} {g:LFun} {l:List (Nat × LFun)} (hg:LOk P (oneL i g) c) (hl:LOk P (manyL l) c):LOk P (manyL ((i,g)::l)) c:=by
  intro c' hc j f hj hf
  have hf:cond (Nat.beq j i) (some g) (manyL l j)=some f:=hf
  cases hb:Nat.beq j i
  · rw [hb,cond_false] at hf
    exact hl c' hc j f hj hf
  · rw [hb,cond_true] at hf
    refine hg c' hc j f hj ?_
    unfold oneL
    rw [hb,cond_true]
    exact hf
end Go.Gv
namespace Go.Proofs.YtefphimaggjihaaGreatDoor.Hs.Sc
open Go.Gv So

/-- What a loop does that gives up at the first thing that may not be. -/
noncomputable def mayT (keep:List Nat) (τ:List (Option Nat)) (S:Int→St) (ex:Exit) (E:Int→St) (fb:Nat→Int) (n:Nat):LFun :=
  condL (seqE fb n==0) (toldF keep τ (S 0) ex (S (n:Nat))) (toldF keep τ (S 0) .ret (E (seqE fb n)))
theorem mayT_sound {P:Program} {c:Code} {keep:List Nat} {τ:List (Option Nat)} {S:Int→St} {ex:Exit} {E:Int→St} {fb:Nat→Int} {n:Nat} (hex:ex≠.normal)
    (h1:∀ k:Nat,k < n→fb k=0→Leads P c (S (k:Nat)) .normal (S ((k+1:Nat):Int))) (h2:∀ k:Nat,k < n→fb k≠0→Leads P c (S (k:Nat)) .ret (E (fb k))) (h3:Leads P c (S (n:Nat)) ex (S (n:Nat))) :
    LSound P c (mayT keep τ S ex E fb n):=by
  refine condL_sound (fun hb=>?_) fun hb=>?_
  · have h:=seq_zero n (eq_of_beq hb)
    exact toldF_sound (loop_rule (fun k=>S (k:Nat)) n ex _ hex (fun k hk=>h1 k hk (h k hk)) h3)
  · rcases all_or_first (fun i=>fb i==0) n with hl | ⟨K,hK,hp,hq⟩
    · rw [seq_all n fun i hi=>by simpa using hl i hi] at hb
      cases hb
    · have hp':fb K≠0:=by simpa using hp
      have hq':∀ i,i < K→fb i=0:=fun i hi=>by simpa using hq i hi
      rw [seq_first hp' hq' n hK]
      exact toldF_sound (loop_rule (fun k=>S (k:Nat)) K .ret _ (by simp) (fun k hk=>h1 k (by omega) (hq' k hk)) (h2 K hK hp'))
/-- A contract that is asked for: a number of the cells of the first argument. -/
def gO (f:List AV→Int):List AV→AV
  | [.agg c]=>iA (f c)
  | _=>.any
end Go.Proofs.YtefphimaggjihaaGreatDoor.Hs.Sc

namespace Go.Proofs.YtefphimaggjihaaGreatDoor.Hs.Sc
open Go.Gv
open Go.Ev (cn fadd fsub fmul fdiv fsqrt fneg feq flt fle fgt fge fabs isNan)

abbrev skC (k:Nat→Int):List AV:=[iA (k 0),iA (k 1),iA (k 2),iA (k 3),iA (k 4),iA (k 5),iA (k 6),iA (k 7),iA (k 8),iA (k 9)]
abbrev lmC (a:Nat→Nat) (l:Nat→Int):List AV:=[.f (a 0),.f (a 1),.f (a 2),iA (l 0),iA (l 1),iA (l 2)]
abbrev eyC (e:Nat→Nat):List AV:=[.f (e 0),.f (e 1),.f (e 2),.f (e 3),.f (e 4),.f (e 5),.f (e 6),.f (e 7),.f (e 8),.f (e 9)]
def oB (b:Bool):Option Out:=some (Out.of (bA b))
def oI (n:Int):Option Out:=some (Out.of (iA n))
def cbB (x:Int):Bool:=cond (decide (x < 0)) true (decide (x > 1000))
def suB (s m g:Int):Bool:=decide (w64 (w64 (s+m)+g)≤1000)
def mcB (s m g:Int):Bool:=cond (cbB s) false (cond (cbB m) false (cond (cbB g) false (suB s m g)))
theorem mc_ev (s m g:Int):ev Tryz.prog [] [] noL Tryz.f62 [iA s,iA m,iA g] ret=cond (cbB s) (oB false) (cond (cbB m) (oB false) (cond (cbB g) (oB false) (oB (suB s m g)))):=by kernel_rfl
theorem mc_spec (s m g:Int):FSpec Tryz.prog 62 [iA s,iA m,iA g] (bA (mcB s m g)):=by
  refine gspec e_nil k_nil Tryz.func62 (by kernel_rfl) (by kernel_rfl) noL_ok rfl ((mc_ev s m g).trans ?_)
  unfold mcB
  cases cbB s<;>cases cbB m<;>cases cbB g<;>rfl
def eC3 (f:Int→Int→Int→Bool):List AV→Option AV
  | [.x (.int .i64 a),.x (.int .i64 b),.x (.int .i64 c)]=>some (bA (f a b c))
  | _=>none
theorem eC3_ok:EOk Tryz.prog ⟨62,eC3 mcB⟩:=fun args r hr=>by
  simp only [eC3] at hr
  split at hr
  · cases hr; exact Or.inl (mc_spec _ _ _)
  · cases hr
section
variable (f:Int→Int→Int→Bool) (k:Nat→Int)
def beB:Bool:=cond (decide (k 9 < 100)) true (decide (k 9 > 10000))
def skX:Option Out:=cond (!f (k 0) (k 3) (k 6)) (oI 6) (cond (!f (k 1) (k 4) (k 7)) (oI 6) (cond (!f (k 2) (k 5) (k 8)) (oI 6) (cond (beB k) (oI 6) (oI 0))))
theorem sk_ev:ev Tryz.prog [⟨62,eC3 f⟩] [] noL Tryz.f18 [.agg (skC k)] ret=skX f k:=by kernel_rfl
end
/-- The errno of a skin. -/
def skE (k:Nat→Int):Int:=cond (!mcB (k 0) (k 3) (k 6)) 6 (cond (!mcB (k 1) (k 4) (k 7)) 6 (cond (!mcB (k 2) (k 5) (k 8)) 6 (cond (beB k) 6 0)))
theorem skX_eq (k:Nat→Int):skX mcB k=oI (skE k):=by
  unfold skX skE
  cases mcB (k 0) (k 3) (k 6)<;>cases mcB (k 1) (k 4) (k 7)<;>cases mcB (k 2) (k 5) (k 8)<;>cases beB k<;>rfl
theorem sk_spec (k:Nat→Int):FSpec Tryz.prog 18 [.agg (skC k)] (iA (skE k)) :=
  gspec (e_cons eC3_ok e_nil) k_nil Tryz.func18 (by kernel_rfl) (by kernel_rfl) noL_ok rfl ((sk_ev mcB k).trans (skX_eq k))
def bcB (a b g:Int):Bool:=cond (cond (cond (cond (cond (cond (decide (a < 0)) true (decide (a > 1000))) true (decide (b < 0))) true (decide (b > 1000))) true (decide (g < 0))) true (decide (g > 1000))) true (decide (w64 (w64 (a+b)+g) > 1000))
theorem rsk_ev (k:Nat→Int):ev Tryz.prog [] [] noL Tryz.f19 [.agg (skC k)] ret=cond (bcB (k 0) (k 3) (k 6)) (oI 6) (cond (bcB (k 1) (k 4) (k 7)) (oI 6) (cond (bcB (k 2) (k 5) (k 8)) (oI 6) (cond (beB k) (oI 6) (oI 0)))):=by kernel_rfl
theorem bcB_eq (a b g:Int):bcB a b g=!mcB a b g:=by
  unfold bcB mcB cbB suB
  have e:decide (w64 (w64 (a+b)+g) > 1000)=!decide (w64 (w64 (a+b)+g)≤1000):=by
    by_cases h:w64 (w64 (a+b)+g)≤1000
    · rw [decide_eq_true h,decide_eq_false (by omega)]; rfl
    · rw [decide_eq_false h,decide_eq_true (by omega)]; rfl
  rw [e]
  cases decide (a < 0)<;>cases decide (a > 1000)<;>cases decide (b < 0)<;>cases decide (b > 1000)<;>cases decide (g < 0)<;>cases decide (g > 1000)<;>rfl
theorem rsk_spec (k:Nat→Int):FSpec Tryz.prog 19 [.agg (skC k)] (iA (skE k)):=by
  refine gspec e_nil k_nil Tryz.func19 (by kernel_rfl) (by kernel_rfl) noL_ok rfl ((rsk_ev k).trans ?_)
  rw [bcB_eq,bcB_eq,bcB_eq]
  exact skX_eq k
def lbB (x:Int):Bool:=cond (decide (x < 0)) true (decide (x > 65536))
def liB (l:Nat→Int):Bool:=cond (lbB (l 0)) false (cond (lbB (l 1)) false (cond (lbB (l 2)) false true))
abbrev liC (l:Nat→Int):List AV:=[iA (l 0),iA (l 1),iA (l 2)]
theorem li_ev (l:Nat→Int):ev Tryz.prog [] [] noL Tryz.f45 [.agg (liC l)] ret=cond (lbB (l 0)) (oB false) (cond (lbB (l 1)) (oB false) (cond (lbB (l 2)) (oB false) (oB true))):=by kernel_rfl
theorem li_spec (l:Nat→Int):FSpec Tryz.prog 45 [.agg (liC l)] (bA (liB l)):=by
  refine gspec e_nil k_nil Tryz.func45 (by kernel_rfl) (by kernel_rfl) noL_ok rfl ((li_ev l).trans ?_)
  unfold liB
  cases lbB (l 0)<;>cases lbB (l 1)<;>cases lbB (l 2)<;>rfl
def eL3 (f:(Nat→Int)→Bool):List AV→Option AV
  | [.agg [.x (.int .i64 a),.x (.int .i64 b),.x (.int .i64 c)]]=>some (bA (f (fun q=>match q with | 0=>a | 1=>b | _=>c)))
  | _=>none
theorem eL3_ok:EOk Tryz.prog ⟨45,eL3 liB⟩:=fun args r hr=>by
  simp only [eL3] at hr
  split at hr
  · rename_i a b c
    cases hr; exact Or.inl (li_spec fun q=>match q with | 0=>a | 1=>b | _=>c)
  · cases hr
/-- The errno of a lamp. -/
def lmE (a:Nat→Nat) (l:Nat→Int):Int:=cond (!fineS (a 0) (a 1) (a 2)) 1 (cond (!liB l) 6 0)
theorem lm_ev (a:Nat→Nat) (l:Nat→Int):ev Tryz.prog (⟨45,eL3 liB⟩::V2) [] noL Tryz.f44 [.agg (lmC a l)] ret=cond (!fineS (a 0) (a 1) (a 2)) (oI 1) (cond (!liB l) (oI 6) (oI 0)):=by kernel_rfl
theorem lm_spec (a:Nat→Nat) (l:Nat→Int):FSpec Tryz.prog 44 [.agg (lmC a l)] (iA (lmE a l)):=by
  refine gspec (e_cons eL3_ok V2_ok) k_nil Tryz.func44 (by kernel_rfl) (by kernel_rfl) noL_ok rfl ((lm_ev a l).trans ?_)
  unfold lmE
  cases fineS (a 0) (a 1) (a 2)<;>cases liB l<;>rfl
def feB (e:Nat→Nat):Bool:=cond (cond (cond (!fineS (e 0) (e 1) (e 2)) true (!fineS (e 3) (e 4) (e 5))) true (!fineS (e 6) (e 7) (e 8))) true (!nearS (e 9))
section
variable (e:Nat→Nat)
def dX:Nat:=fsub (e 3) (e 0)
def dY:Nat:=fsub (e 4) (e 1)
def dZ:Nat:=fsub (e 5) (e 2)
def uX:Nat:=unN (dX e) (dY e) (dZ e) (dX e)
def uY:Nat:=unN (dX e) (dY e) (dZ e) (dY e)
def uZ:Nat:=unN (dX e) (dY e) (dZ e) (dZ e)
def upB:Bool:=feq (lengthS (crX (uY e) (uZ e) (e 7) (e 8)) (crX (uZ e) (uX e) (e 8) (e 6)) (crX (uX e) (uY e) (e 6) (e 7))) 0
def eyX (b:Bool):Option Out:=cond (feB e) (oI 1) (cond b (oI 6) (cond (!(unE (dX e) (dY e) (dZ e)==0)) (oI (unE (dX e) (dY e) (dZ e))) (cond (upB e) (oI 2) (oI 0))))
/-- The errno of an eye. -/
def eyE:Int:=cond (feB e) 1 (cond (!fgt (e 9) 0) 6 (cond (!(unE (dX e) (dY e) (dZ e)==0)) (unE (dX e) (dY e) (dZ e)) (cond (upB e) 2 0)))
theorem ey_ev:ev Tryz.prog V3 [] noL Tryz.f16 [.agg (eyC e)] ret=eyX e (!fgt (e 9) 0):=by kernel_rfl
theorem eyX_eq:eyX e (!fgt (e 9) 0)=oI (eyE e):=by
  unfold eyX eyE
  cases feB e<;>cases fgt (e 9) 0<;>cases (unE (dX e) (dY e) (dZ e)==0)<;>cases upB e<;>rfl
theorem ey_spec:FSpec Tryz.prog 16 [.agg (eyC e)] (iA (eyE e)) :=
  gspec V3_ok k_nil Tryz.func16 (by kernel_rfl) (by kernel_rfl) noL_ok rfl ((ey_ev e).trans (eyX_eq e))
end
def weE (e sk:Int) (n:Nat):Int:=cond (!(e==0)) e (cond (decide (sk ≥ (n:Int))) 9 0)
theorem we_ev (e sk:Int) (n:Nat) (el:Nat→List AV):ev Tryz.prog [] [] noL Tryz.f97 [iA e,iA sk,.sl 10 n el] ret=cond (!(e==0)) (oI e) (cond (decide (sk ≥ (n:Int))) (oI 9) (oI 0)):=by kernel_rfl
theorem we_spec (e sk:Int) (n:Nat) (el:Nat→List AV):FSpec Tryz.prog 97 [iA e,iA sk,.sl 10 n el] (iA (weE e sk n)):=by
  refine gspec e_nil k_nil Tryz.func97 (by kernel_rfl) (by kernel_rfl) noL_ok rfl ((we_ev e sk n el).trans ?_)
  unfold weE
  cases e==0<;>cases decide (sk ≥ (n:Int))<;>rfl
end Go.Proofs.YtefphimaggjihaaGreatDoor.Hs.Sc

namespace Go.Proofs.YtefphimaggjihaaGreatDoor.Hs.Sc
open Go.Gv So Fm
open Go.Ev (cn fadd fsub fmul fdiv fsqrt fneg feq flt fle fgt fge fabs isNan)

structure Shp where
  k:Int
  a:Nat→Nat
  sk:Int
abbrev Shp.c (s:Shp):List AV:=shC s.k s.a s.sk
structure Sld where
  n:Nat
  P:Nat→Prt
  sk:Int
abbrev Sld.c (s:Sld):List AV:=soC s.n s.P s.sk
structure Scn where
  nS:Nat
  S:Nat→Shp
  nO:Nat
  O:Nat→Sld
  nF:Nat
  F:Nat→Fm.Fd
  nK:Nat
  K:Nat→Nat→Int
  nL:Nat
  LA:Nat→Nat→Nat
  LL:Nat→Nat→Int
  sky:Nat→Int
  eye:Nat→Nat
abbrev Scn.vS (s:Scn):AV:=.sl 13 s.nS fun q=>(s.S q).c
abbrev Scn.vO (s:Scn):AV:=.sl 2 s.nO fun q=>(s.O q).c
abbrev Scn.vF (s:Scn):AV:=.sl 8 s.nF fun q=>(s.F q).c
abbrev Scn.vK (s:Scn):AV:=.sl 10 s.nK fun q=>skC (s.K q)
abbrev Scn.vL (s:Scn):AV:=.sl 6 s.nL fun q=>lmC (s.LA q) (s.LL q)
def Scn.c (s:Scn):List AV:=[s.vS,s.vO,s.vF,s.vK,s.vL,iA (s.sky 0),iA (s.sky 1),iA (s.sky 2),.f (s.eye 0),.f (s.eye 1),.f (s.eye 2),.f (s.eye 3),.f (s.eye 4),.f (s.eye 5),.f (s.eye 6),.f (s.eye 7),.f (s.eye 8),.f (s.eye 9)]
def tmB (s:Scn):Bool:=cond (cond (cond (cond (decide ((s.nS:Int) > 64)) true (decide ((s.nO:Int) > 8))) true (decide ((s.nF:Int) > 2))) true (decide ((s.nK:Int) > 16))) true (decide ((s.nL:Int) > 4))
theorem tm_spec (s:Scn):FSpec Tryz.prog 42 [.agg s.c] (bA (tmB s)) :=
  gspec e_nil k_nil Tryz.func42 (by kernel_rfl) (by kernel_rfl) noL_ok rfl (show ev Tryz.prog [] [] noL Tryz.f42 [.agg s.c] ret=oB (tmB s) by kernel_rfl)
noncomputable def mlC (f:Nat) (n:Nat) (c:Nat→List AV) (g:List AV→Int) (i:Int) (o:Option Out) (r:Int→Option Out) (oe:Option Out):Option Out:=cond (decide (i < n)) (cond (ixB i n||false) (gate (FSpec Tryz.prog f [.agg (c i.toNat)] (iA (g (c i.toNat)))) (cond (!(g (c i.toNat)==0)) (r (g (c i.toNat))) o)) none) oe
section
variable (fk:List AV→Int) (s:Scn) (i:Int)
def m1S:St:=mkS 50 [(1,.own 0 0),(13,s.vK),(14,iA s.nK),(15,iA i)] [.c s.c]
def m2S:St:=mkS 50 [(1,.own 0 0),(31,s.vL),(32,iA s.nL),(33,iA i)] [.c s.c]
def mE (e:Int):St:=mkS 50 [(2,iA e)] []
def keep1:List Nat:=[1,13,14,15]
def keep2:List Nat:=[1,31,32,33]
theorem m1_step:evC Tryz.prog [] [kS Tryz.prog 18 (gO fk)] noL (loopAt Tryz.f14 0) (m1S s i) (finN keep1 [some 0])=mlC 18 s.nK (fun q=>skC (s.K q)) fk i (some ⟨.normal,m1S s (w64 (i+1)),.any⟩) (fun _=>none) none:=by kernel_rfl
theorem m1_ret:evC Tryz.prog [] [kS Tryz.prog 18 (gO fk)] noL (loopAt Tryz.f14 0) (m1S s i) (finR [2] [])=mlC 18 s.nK (fun q=>skC (s.K q)) fk i none (fun e=>some ⟨.ret,mE e,.any⟩) none:=by kernel_rfl
theorem m1_end:evC Tryz.prog [] [kS Tryz.prog 18 (gO fk)] noL (loopAt Tryz.f14 0) (m1S s i) (finE keep1 [some 0])=mlC 18 s.nK (fun q=>skC (s.K q)) fk i none (fun _=>none) (some ⟨.exit 0,m1S s i,.any⟩):=by kernel_rfl
theorem m2_step:evC Tryz.prog [] [kS Tryz.prog 44 (gO fk)] noL (loopAt Tryz.f14 1) (m2S s i) (finN keep2 [some 0])=mlC 44 s.nL (fun q=>lmC (s.LA q) (s.LL q)) fk i (some ⟨.normal,m2S s (w64 (i+1)),.any⟩) (fun _=>none) none:=by kernel_rfl
theorem m2_ret:evC Tryz.prog [] [kS Tryz.prog 44 (gO fk)] noL (loopAt Tryz.f14 1) (m2S s i) (finR [2] [])=mlC 44 s.nL (fun q=>lmC (s.LA q) (s.LL q)) fk i none (fun e=>some ⟨.ret,mE e,.any⟩) none:=by kernel_rfl
theorem m2_end:evC Tryz.prog [] [kS Tryz.prog 44 (gO fk)] noL (loopAt Tryz.f14 1) (m2S s i) (finE keep2 [some 0])=mlC 44 s.nL (fun q=>lmC (s.LA q) (s.LL q)) fk i none (fun _=>none) (some ⟨.exit 2,m2S s i,.any⟩):=by kernel_rfl
def gW:List AV→AV
  | [.x (.int .i64 e),.x (.int .i64 sk),.sl _ n _]=>iA (weE e sk n)
  | _=>.any
noncomputable def mtC (f:Nat) (n:Nat) (c:Nat→List AV) (sk:Nat→Int) (o:Option Out) (r:Int→Option Out) (oe:Option Out):Option Out:=cond (decide (i < n)) (cond (ixB i n||false) (gate (FSpec Tryz.prog f [.agg (c i.toNat)] (iA (fk (c i.toNat)))) (gate (FSpec Tryz.prog 97 [iA (fk (c i.toNat)),iA (sk i.toNat),s.vK] (iA (weE (fk (c i.toNat)) (sk i.toNat) s.nK))) (cond (!(weE (fk (c i.toNat)) (sk i.toNat) s.nK==0)) (r (weE (fk (c i.toNat)) (sk i.toNat) s.nK)) o))) none) oe
def t1S:St:=mkS 66 [(1,.own 0 0),(13,s.vS),(14,iA s.nS),(15,iA i)] [.c s.c]
def t2S:St:=mkS 66 [(1,.own 0 0),(31,s.vO),(32,iA s.nO),(33,iA i)] [.c s.c]
def t3S:St:=mkS 66 [(1,.own 0 0),(49,s.vF),(50,iA s.nF),(51,iA i)] [.c s.c]
def tE (e:Int):St:=mkS 66 [(2,iA e)] []
def keep3:List Nat:=[1,49,50,51]
noncomputable def tK (f:Nat):List KEntry:=[kS Tryz.prog f (gO fk),kS Tryz.prog 97 gW]
theorem t1_step:evC Tryz.prog [] (tK fk 98) noL (loopAt Tryz.f43 0) (t1S s i) (finN keep1 [some 0])=mtC fk s i 98 s.nS (fun q=>(s.S q).c) (fun q=>(s.S q).sk) (some ⟨.normal,t1S s (w64 (i+1)),.any⟩) (fun _=>none) none:=by kernel_rfl
theorem t1_ret:evC Tryz.prog [] (tK fk 98) noL (loopAt Tryz.f43 0) (t1S s i) (finR [2] [])=mtC fk s i 98 s.nS (fun q=>(s.S q).c) (fun q=>(s.S q).sk) none (fun e=>some ⟨.ret,tE e,.any⟩) none:=by kernel_rfl
theorem t1_end:evC Tryz.prog [] (tK fk 98) noL (loopAt Tryz.f43 0) (t1S s i) (finE keep1 [some 0])=mtC fk s i 98 s.nS (fun q=>(s.S q).c) (fun q=>(s.S q).sk) none (fun _=>none) (some ⟨.exit 0,t1S s i,.any⟩):=by kernel_rfl
theorem t2_step:evC Tryz.prog [] (tK fk 99) noL (loopAt Tryz.f43 1) (t2S s i) (finN keep2 [some 0])=mtC fk s i 99 s.nO (fun q=>(s.O q).c) (fun q=>(s.O q).sk) (some ⟨.normal,t2S s (w64 (i+1)),.any⟩) (fun _=>none) none:=by kernel_rfl
theorem t2_ret:evC Tryz.prog [] (tK fk 99) noL (loopAt Tryz.f43 1) (t2S s i) (finR [2] [])=mtC fk s i 99 s.nO (fun q=>(s.O q).c) (fun q=>(s.O q).sk) none (fun e=>some ⟨.ret,tE e,.any⟩) none:=by kernel_rfl
theorem t2_end:evC Tryz.prog [] (tK fk 99) noL (loopAt Tryz.f43 1) (t2S s i) (finE keep2 [some 0])=mtC fk s i 99 s.nO (fun q=>(s.O q).c) (fun q=>(s.O q).sk) none (fun _=>none) (some ⟨.exit 2,t2S s i,.any⟩):=by kernel_rfl
theorem t3_step:evC Tryz.prog [] (tK fk 100) noL (loopAt Tryz.f43 2) (t3S s i) (finN keep3 [some 0])=mtC fk s i 100 s.nF (fun q=>(s.F q).c) (fun q=>(s.F q).sk) (some ⟨.normal,t3S s (w64 (i+1)),.any⟩) (fun _=>none) none:=by kernel_rfl
theorem t3_ret:evC Tryz.prog [] (tK fk 100) noL (loopAt Tryz.f43 2) (t3S s i) (finR [2] [])=mtC fk s i 100 s.nF (fun q=>(s.F q).c) (fun q=>(s.F q).sk) none (fun e=>some ⟨.ret,tE e,.any⟩) none:=by kernel_rfl
theorem t3_end:evC Tryz.prog [] (tK fk 100) noL (loopAt Tryz.f43 2) (t3S s i) (finE keep3 [some 0])=mtC fk s i 100 s.nF (fun q=>(s.F q).c) (fun q=>(s.F q).sk) none (fun _=>none) (some ⟨.exit 4,t3S s i,.any⟩):=by kernel_rfl
end
end Go.Proofs.YtefphimaggjihaaGreatDoor.Hs.Sc

namespace Go.Proofs.YtefphimaggjihaaGreatDoor.Hs.Sc
open Go.Gv So Fm
open Go.Ev (cn fadd fsub fmul fdiv fsqrt fneg feq flt fle fgt fge fabs isNan)

def Both (f g:Nat) (c:List AV) (m:Int):Prop:=FSpec Tryz.prog f [.agg c] (iA m)∧FSpec Tryz.prog g [.agg c] (iA m)
/-- The numbers of a field are fine. -/
def FdFine:List AV→Prop
  | [.x (.int .i64 W),.x (.int .i64 H),.f a,.f b,.f d,.f x,.sl _ n el,.x (.int .i64 sk)]=>fineS a b d=true∧nearS x=true∧n≤64∧(2≤W∧W≤8∧2≤H∧H≤8)∧(0≤sk∧sk < 16)∧(∀ q,q < n→hBad (match el q with | [.x (.int .i64 h)]=>h | _=>0)=false)∧(⟨W,H,ls [a,b,d],x,n,fun q=>(match el q with | [.x (.int .i64 h)]=>h | _=>0),sk⟩:Fm.Fd).mayN=0∧(mayS (Fm.bx (⟨W,H,ls [a,b,d],x,n,fun q=>(match el q with | [.x (.int .i64 h)]=>h | _=>0),sk⟩:Fm.Fd))==0)=true
  | _=>False
open Classical in
noncomputable def fFd (c:List AV):Int:=if h:∃ m,Both 100 48 c m∧(m=0→FdFine c) then h.choose else 0
theorem fFd_ok (F:Fm.Fd):Both 100 48 F.c (fFd F.c)∧(fFd F.c=0→FdFine F.c):=by
  have h:∃ m,Both 100 48 F.c m∧(m=0→FdFine F.c):=by
    obtain ⟨m,h1,h2,h3⟩:=field_all F
    refine ⟨m,⟨h1,h2⟩,fun e=>?_⟩
    obtain ⟨h4,h5,h6,h8⟩:=h3 e
    have h7:=mayN_all h6
    unfold Fd.far at h4
    show fineS (F.at_ 0) (F.at_ 1) (F.at_ 2)=true∧nearS F.sd=true∧F.n≤64∧(2≤F.W∧F.W≤8∧2≤F.H∧F.H≤8)∧(0≤F.sk∧F.sk < 16)∧(∀ q,q < F.n→hBad (F.hs q)=false)∧F.mayN=0∧(mayS (Fm.bx F)==0)=true
    revert h4
    cases fineS (F.at_ 0) (F.at_ 1) (F.at_ 2)<;>cases nearS F.sd<;>intro h4<;>first | (cases h4; done) | exact ⟨rfl,rfl,h5,h7.1,h7.2.1,h7.2.2,h6,h8⟩
  unfold fFd
  rw [dif_pos h]
  exact h.choose_spec
def fSk:List AV→Int
  | [.x (.int .i64 a),.x (.int .i64 b),.x (.int .i64 c),.x (.int .i64 d),.x (.int .i64 e),.x (.int .i64 f),.x (.int .i64 g),.x (.int .i64 h),.x (.int .i64 i),.x (.int .i64 j)]=>skE fun q=>match q with | 0=>a | 1=>b | 2=>c | 3=>d | 4=>e | 5=>f | 6=>g | 7=>h | 8=>i | _=>j
  | _=>0
theorem fSk_eq (k:Nat→Int):fSk (skC k)=skE k:=rfl
def dSo:List AV→Sld
  | [.sl _ n el,.x (.int .i64 sk)]=>⟨n,fun i=>decP (el i),sk⟩
  | _=>⟨0,fun _=>decP [],0⟩
noncomputable def fSo (c:List AV):Int:=soE (dSo c).n (dSo c).P (dSo c).sk
noncomputable def fSh:List AV→Int:=mayC
theorem fSk_ok (k:Nat→Int):Both 18 19 (skC k) (fSk (skC k)):=by rw [fSk_eq]; exact ⟨sk_spec k,rsk_spec k⟩
theorem fSo_ok (s:Sld):Both 99 47 s.c (fSo s.c):=⟨smay_spec s.n s.P s.sk,rsmay_spec s.n s.P s.sk⟩
theorem fSh_ok (s:Shp):Both 98 46 s.c (fSh s.c):=mayC_spec s.k s.a s.sk
def fLm:List AV→Int
  | [.f a,.f b,.f d,.x (.int .i64 x),.x (.int .i64 y),.x (.int .i64 z)]=>lmE (ls [a,b,d]) (fun q=>match q with | 0=>x | 1=>y | _=>z)
  | _=>0
section
variable (s:Scn)
def eK (q:Nat):Int:=fSk (skC (s.K q))
noncomputable def eS (q:Nat):Int:=weE (fSh (s.S q).c) (s.S q).sk s.nK
noncomputable def eO (q:Nat):Int:=weE (fSo (s.O q).c) (s.O q).sk s.nK
noncomputable def eF (q:Nat):Int:=weE (fFd (s.F q).c) (s.F q).sk s.nK
def eL (q:Nat):Int:=lmE (s.LA q) (s.LL q)
noncomputable def thE:Int:=cond (seqE (eS s) s.nS==0) (cond (seqE (eO s) s.nO==0) (seqE (eF s) s.nF) (seqE (eO s) s.nO)) (seqE (eS s) s.nS)
/-- The errno of a scene. -/
noncomputable def scE:Int:=cond (tmB s) 4 (cond (seqE (eK s) s.nK==0) (cond (thE s==0) (cond (seqE (eL s) s.nL==0) (cond (!liB s.sky) 6 (eyE s.eye)) (seqE (eL s) s.nL)) (thE s)) (seqE (eK s) s.nK))
theorem tm_few (h:tmB s=false):s.nS≤64∧s.nO≤8∧s.nF≤2∧s.nK≤16∧s.nL≤4:=by
  unfold tmB at h
  have d1:¬ (s.nS:Int) > 64:=fun c=>by rw [decide_eq_true c] at h; cases h
  rw [decide_eq_false d1,cond_false] at h
  have d2:¬ (s.nO:Int) > 8:=fun c=>by rw [decide_eq_true c] at h; cases h
  rw [decide_eq_false d2,cond_false] at h
  have d3:¬ (s.nF:Int) > 2:=fun c=>by rw [decide_eq_true c] at h; cases h
  rw [decide_eq_false d3,cond_false] at h
  have d4:¬ (s.nK:Int) > 16:=fun c=>by rw [decide_eq_true c] at h; cases h
  rw [decide_eq_false d4,cond_false] at h
  have d5:¬ (s.nL:Int) > 4:=fun c=>by rw [decide_eq_true c] at h; cases h
  omega
end
theorem mlC_t {f n:Nat} {c:Nat→List AV} {g:List AV→Int} {k:Nat} (hk:k < n) (h:FSpec Tryz.prog f [.agg (c k)] (iA (g (c k)))) (o:Option Out) (r:Int→Option Out) (oe:Option Out):mlC f n c g (k:Nat) o r oe=cond (g (c k)==0) o (r (g (c k))):=by
  unfold mlC
  rw [dec_lt hk,ixB_t hk,Int.toNat_natCast,gate_pos h]
  cases g (c k)==0<;>rfl
theorem mlC_e (f n:Nat) (c:Nat→List AV) (g:List AV→Int) (o:Option Out) (r:Int→Option Out) (oe:Option Out):mlC f n c g (n:Nat) o r oe=oe:=by
  unfold mlC
  rw [dec_self,cond_false]
theorem mtC_t {f n:Nat} {c:Nat→List AV} {g:List AV→Int} {s:Scn} {sk:Nat→Int} {k:Nat} (hk:k < n) (h:FSpec Tryz.prog f [.agg (c k)] (iA (g (c k)))) (o:Option Out) (r:Int→Option Out) (oe:Option Out):mtC g s (k:Nat) f n c sk o r oe=cond (weE (g (c k)) (sk k) s.nK==0) o (r (weE (g (c k)) (sk k) s.nK)):=by
  unfold mtC
  rw [dec_lt hk,ixB_t hk,Int.toNat_natCast,gate_pos h,gate_pos (we_spec _ _ _ _)]
  cases weE (g (c k)) (sk k) s.nK==0<;>rfl
theorem mtC_e (f n:Nat) (c:Nat→List AV) (g:List AV→Int) (s:Scn) (sk:Nat→Int) (o:Option Out) (r:Int→Option Out) (oe:Option Out):mtC g s (n:Nat) f n c sk o r oe=oe:=by
  unfold mtC
  rw [dec_self,cond_false]
theorem k1_ok {f:Nat} {g:List AV→AV}:∀ e,e ∈ [kS Tryz.prog f g]→KOk Tryz.prog e:=k_cons kS_ok k_nil
theorem tK_ok {fk:List AV→Int} {f:Nat}:∀ e,e ∈ tK fk f→KOk Tryz.prog e:=k_cons kS_ok (k_cons kS_ok k_nil)
section
variable {s:Scn}
theorem m1_sound (h:s.nK≤1000):LSound Tryz.prog (loopAt Tryz.f14 0) (mayT keep1 [some 0] (m1S s) (.exit 0) mE (eK s) s.nK):=by
  refine mayT_sound (by simp) (fun k hk hb=>?_) (fun k hk hb=>?_) ?_
  · refine leads_ev (finN_sub _ _) e_nil k1_ok noL_ok ((m1_step fSk s (k:Nat)).trans ?_)
    rw [mlC_t hk (fSk_ok _).1,show fSk (skC (s.K k))=0 from hb,w64_next (by omega)]; rfl
  · refine leads_ev (finR_sub _ _) e_nil k1_ok noL_ok ((m1_ret fSk s (k:Nat)).trans ?_)
    rw [mlC_t hk (fSk_ok _).1,beq_false_of_ne (show fSk (skC (s.K k))≠0 from hb)]; rfl
  · exact leads_ev (finE_sub _ _) e_nil k1_ok noL_ok ((m1_end fSk s (s.nK:Nat)).trans (mlC_e _ _ _ _ _ _ _))
theorem m2_sound (h:s.nL≤1000):LSound Tryz.prog (loopAt Tryz.f14 1) (mayT keep2 [some 0] (m2S s) (.exit 2) mE (eL s) s.nL):=by
  refine mayT_sound (by simp) (fun k hk hb=>?_) (fun k hk hb=>?_) ?_
  · refine leads_ev (finN_sub _ _) e_nil k1_ok noL_ok ((m2_step fLm s (k:Nat)).trans ?_)
    rw [mlC_t hk (lm_spec _ _),show fLm (lmC (s.LA k) (s.LL k))=0 from hb,w64_next (by omega)]; rfl
  · refine leads_ev (finR_sub _ _) e_nil k1_ok noL_ok ((m2_ret fLm s (k:Nat)).trans ?_)
    rw [mlC_t hk (lm_spec _ _),beq_false_of_ne (show fLm (lmC (s.LA k) (s.LL k))≠0 from hb)]; rfl
  · exact leads_ev (finE_sub _ _) e_nil k1_ok noL_ok ((m2_end fLm s (s.nL:Nat)).trans (mlC_e _ _ _ _ _ _ _))
theorem t1_sound (h:s.nS≤1000):LSound Tryz.prog (loopAt Tryz.f43 0) (mayT keep1 [some 0] (t1S s) (.exit 0) tE (eS s) s.nS):=by
  refine mayT_sound (by simp) (fun k hk hb=>?_) (fun k hk hb=>?_) ?_
  · refine leads_ev (finN_sub _ _) e_nil tK_ok noL_ok ((t1_step fSh s (k:Nat)).trans ?_)
    rw [mtC_t hk (fSh_ok _).1,show weE (fSh (s.S k).c) (s.S k).sk s.nK=0 from hb,w64_next (by omega)]; rfl
  · refine leads_ev (finR_sub _ _) e_nil tK_ok noL_ok ((t1_ret fSh s (k:Nat)).trans ?_)
    rw [mtC_t hk (fSh_ok _).1,beq_false_of_ne (show weE (fSh (s.S k).c) (s.S k).sk s.nK≠0 from hb)]; rfl
  · exact leads_ev (finE_sub _ _) e_nil tK_ok noL_ok ((t1_end fSh s (s.nS:Nat)).trans (mtC_e _ _ _ _ _ _ _ _ _))
theorem t2_sound (h:s.nO≤1000):LSound Tryz.prog (loopAt Tryz.f43 1) (mayT keep2 [some 0] (t2S s) (.exit 2) tE (eO s) s.nO):=by
  refine mayT_sound (by simp) (fun k hk hb=>?_) (fun k hk hb=>?_) ?_
  · refine leads_ev (finN_sub _ _) e_nil tK_ok noL_ok ((t2_step fSo s (k:Nat)).trans ?_)
    rw [mtC_t hk (fSo_ok _).1,show weE (fSo (s.O k).c) (s.O k).sk s.nK=0 from hb,w64_next (by omega)]; rfl
  · refine leads_ev (finR_sub _ _) e_nil tK_ok noL_ok ((t2_ret fSo s (k:Nat)).trans ?_)
    rw [mtC_t hk (fSo_ok _).1,beq_false_of_ne (show weE (fSo (s.O k).c) (s.O k).sk s.nK≠0 from hb)]; rfl
  · exact leads_ev (finE_sub _ _) e_nil tK_ok noL_ok ((t2_end fSo s (s.nO:Nat)).trans (mtC_e _ _ _ _ _ _ _ _ _))
theorem t3_sound (h:s.nF≤1000):LSound Tryz.prog (loopAt Tryz.f43 2) (mayT keep3 [some 0] (t3S s) (.exit 4) tE (eF s) s.nF):=by
  refine mayT_sound (by simp) (fun k hk hb=>?_) (fun k hk hb=>?_) ?_
  · refine leads_ev (finN_sub _ _) e_nil tK_ok noL_ok ((t3_step fFd s (k:Nat)).trans ?_)
    rw [mtC_t hk (fFd_ok _).1.1,show weE (fFd (s.F k).c) (s.F k).sk s.nK=0 from hb,w64_next (by omega)]; rfl
  · refine leads_ev (finR_sub _ _) e_nil tK_ok noL_ok ((t3_ret fFd s (k:Nat)).trans ?_)
    rw [mtC_t hk (fFd_ok _).1.1,beq_false_of_ne (show weE (fFd (s.F k).c) (s.F k).sk s.nK≠0 from hb)]; rfl
  · exact leads_ev (finE_sub _ _) e_nil tK_ok noL_ok ((t3_end fFd s (s.nF:Nat)).trans (mtC_e _ _ _ _ _ _ _ _ _))
end
section
variable (s:Scn) (f1 f2 f3:Nat→Int) (tm lb:Bool) (th ey:Int)
/-- A loop's answer. -/
noncomputable def lpO (f:Nat→Int) (n:Nat) (S:St) (o:Option Out):Option Out:=cond (seqE f n==0) (gate (Sub S S) o) (gate (Sub S S) (oI (seqE f n)))
theorem lpO_t (f:Nat→Int) (n:Nat) (S:St) (o:Option Out):lpO f n S o=cond (seqE f n==0) o (oI (seqE f n)):=by
  unfold lpO
  rw [gate_pos (Sub.refl _),gate_pos (Sub.refl _)]
noncomputable def tL:Nat→Option LFun:=manyL [(2,mayT keep1 [some 0] (t1S s) (.exit 0) tE f1 s.nS),(9,mayT keep2 [some 0] (t2S s) (.exit 2) tE f2 s.nO),(16,mayT keep3 [some 0] (t3S s) (.exit 4) tE f3 s.nF)]
theorem t_ev:ev Tryz.prog [] [] (tL s f1 f2 f3) Tryz.f43 [.agg s.c] ret=lpO f1 s.nS (t1S s 0) (lpO f2 s.nO (t2S s 0) (lpO f3 s.nF (t3S s 0) (oI 0))):=by kernel_rfl
noncomputable def mL:Nat→Option LFun:=manyL [(4,mayT keep1 [some 0] (m1S s) (.exit 0) mE f1 s.nK),(14,mayT keep2 [some 0] (m2S s) (.exit 2) mE f2 s.nL)]
noncomputable def mK:List KEntry:=[kS Tryz.prog 42 (fun _=>bA tm),kS Tryz.prog 43 (fun _=>iA th),kS Tryz.prog 45 (fun _=>bA lb),kS Tryz.prog 16 (fun _=>iA ey)]
theorem m_ev:ev Tryz.prog [] (mK tm lb th ey) (mL s f1 f2) Tryz.f14 [.agg s.c] ret=gate (FSpec Tryz.prog 42 [.agg s.c] (bA tm)) (cond tm (oI 4) (lpO f1 s.nK (m1S s 0) (gate (FSpec Tryz.prog 43 [.agg s.c] (iA th)) (cond (!(th==0)) (oI th) (lpO f2 s.nL (m2S s 0) (gate (FSpec Tryz.prog 45 [.agg (liC s.sky)] (bA lb)) (cond (!lb) (oI 6) (gate (FSpec Tryz.prog 16 [.agg (eyC s.eye)] (iA ey)) (oI ey))))))))):=by kernel_rfl
end
end Go.Proofs.YtefphimaggjihaaGreatDoor.Hs.Sc

namespace Go.Proofs.YtefphimaggjihaaGreatDoor.Hs.Sc
open Go.Gv So Fm
open Go.Ev (cn fadd fsub fmul fdiv fsqrt fneg feq flt fle fgt fge fabs isNan)

theorem th_spec {s:Scn} (h1:s.nS≤1000) (h2:s.nO≤1000) (h3:s.nF≤1000):FSpec Tryz.prog 43 [.agg s.c] (iA (thE s)):=by
  refine gspec e_nil k_nil Tryz.func43 (by kernel_rfl) (by kernel_rfl) (lok_cons (lok_at 0 3 (by kernel_rfl) (by kernel_rfl) (t1_sound h1)) (lok_cons (lok_at 1 3 (by kernel_rfl) (by kernel_rfl) (t2_sound h2)) (lok_cons (lok_at 2 3 (by kernel_rfl) (by kernel_rfl) (t3_sound h3)) lok_nil))) rfl ((t_ev s (eS s) (eO s) (eF s)).trans ?_)
  rw [lpO_t,lpO_t,lpO_t]
  unfold thE
  cases hs:seqE (eS s) s.nS==0
  · rfl
  · cases ho:seqE (eO s) s.nO==0
    · rfl
    · cases hf:seqE (eF s) s.nF==0
      · rfl
      · rw [cond_true,cond_true,cond_true,cond_true,cond_true,eq_of_beq hf]; rfl
theorem m_ev0 (s:Scn) (tm:Bool):ev Tryz.prog [] [kS Tryz.prog 42 (fun _=>bA tm)] (manyL [(4,fun _ _=>none),(14,fun _ _=>none)]) Tryz.f14 [.agg s.c] ret=gate (FSpec Tryz.prog 42 [.agg s.c] (bA tm)) (cond tm (oI 4) none):=by kernel_rfl
theorem sc_spec (s:Scn):FSpec Tryz.prog 14 [.agg s.c] (iA (scE s)):=by
  cases ht:tmB s
  · obtain ⟨a1,a2,a3,a4,a5⟩:=tm_few s ht
    refine gspec e_nil (k_cons kS_ok (k_cons kS_ok (k_cons kS_ok (k_cons kS_ok k_nil)))) Tryz.func14 (by kernel_rfl) (by kernel_rfl) (lok_cons (lok_at 0 2 (by kernel_rfl) (by kernel_rfl) (m1_sound (by omega))) (lok_cons (lok_at 1 2 (by kernel_rfl) (by kernel_rfl) (m2_sound (by omega))) lok_nil)) rfl ((m_ev s (eK s) (eL s) (tmB s) (liB s.sky) (thE s) (eyE s.eye)).trans ?_)
    rw [gate_pos (tm_spec s),gate_pos (th_spec (by omega) (by omega) (by omega)),gate_pos (li_spec _),gate_pos (ey_spec _),lpO_t,lpO_t,ht]
    unfold scE
    rw [ht]
    cases hk:seqE (eK s) s.nK==0
    · rfl
    · cases hh:thE s==0
      · rfl
      · cases hl:seqE (eL s) s.nL==0
        · rfl
        · cases liB s.sky<;>rfl
  · have e:scE s=4:=by unfold scE; rw [ht]; rfl
    rw [e]
    refine gspec e_nil (k_cons kS_ok k_nil) Tryz.func14 (by kernel_rfl) (by kernel_rfl) (lok_cons (lok_none 4) (lok_cons (lok_none 14) lok_nil)) rfl ((m_ev0 s (tmB s)).trans ?_)
    rw [gate_pos (tm_spec s),ht]; rfl
section
variable (fk:List AV→Int) (s:Scn) (sl:Nat) (i:Int)
end
section
variable (s:Scn) (f1 f2 f3 f4 f5:Nat→Int) (ey:Int)
end
end Go.Proofs.YtefphimaggjihaaGreatDoor.Hs.Sc

namespace Go.Proofs.YtefphimaggjihaaGreatDoor.Hs.Sc
open Go.Gv So Fm
open Go.Ev (cn fadd fsub fmul fdiv fsqrt fneg feq flt fle fgt fge fabs isNan)

section
end
end Go.Proofs.YtefphimaggjihaaGreatDoor.Hs.Sc

namespace Go.Proofs.YtefphimaggjihaaGreatDoor.Pi
open Go.Shelf Go.RowKit Go.Gv
open Go.Ev (feq)
open Hs (shC)
section
variable (L:Nat→List UInt8) (U:Nat→Bool) (l:List UInt8) (b u:Bool) (nm dc:Int→List UInt8) (a:Nat→Nat) (sk:Int)
def rad:List UInt8:=[114,97,100,105,117,115]
def iRnd (w t:ByteArray) (k:Int) (a:Nat→Nat) (sk:Int):Itm:=.w 132 [zA w,zA t,.agg (shC k a sk)] true
noncomputable def wRd:WEntry:=wP 132 true L U
noncomputable def shW:List WEntry:=[wPut L U,wVc L U,wFl L U,wRd L U,wNd]
theorem skin_ev (f g h:Nat→Int) (bd k:Int):evGW Tryz.prog [] [kNm nm,kDc dc] B57 [wPut L U,wWh L U,wEnd L U] [] noL Tryz.f90 [.own 0 0,.agg [iA (f 0),iA (f 1),iA (f 2),iA (g 0),iA (g 1),iA (g 2),iA (h 0),iA (h 1),iA (h 2),iA bd],iA k] (pM l b u) [some 0,some 1,some 10] =
  chW L U [.g (FNm nm k),iPut [[115,107,105,110],nm k,[115,112,114,101,97,100]],iWh f,iPut [[109,105,114,114,111,114]],iWh g,iPut [[103,108,97,115,115]],iWh h,.g (FDc dc bd),iPut [[98,101,110,100],dc bd],iEnd] (pM l b u ++ [.c [iA (f 0),iA (f 1),iA (f 2),iA (g 0),iA (g 1),iA (g 2),iA (h 0),iA (h 1),iA (h 2),iA bd]]) kF:=by kernel_rfl
theorem round_ev (w t:List UInt8) (k:Int):evGW Tryz.prog [] [] B57 [wPut L U,wVc L U,wFl L U] [] noL Tryz.f132 [.own 0 0,zA (lB w),zA (lB t),.agg (shC k a sk)] (pM l b u) [some 0,some 1,some 8] =
  chW L U [iPut [w],iVec (a 0) (a 1) (a 2),iPut [t],iVec (a 3) (a 4) (a 5),iPut [rad],iFl [a 9]] (pM l b u ++ [.c (shC k a sk)]) kF:=by kernel_rfl
def eqV (t a:Nat→Nat) (i:Nat):Bool:=feq (t i) (a i)&&(feq (t (i+1)) (a (i+1))&&(feq (t (i+2)) (a (i+2))&&true))
def eqS (k:Int) (t a:Nat→Nat) (sk:Int):Bool:=(k==k)&&(eqV t a 0&&(eqV t a 3&&(eqV t a 6&&(feq (t 9) (a 9)&&(feq (t 10) (a 10)&&((sk==sk)&&true))))))
def t1 (a:Nat→Nat):Nat→Nat:=fun q=>cond (Nat.blt q 3) (a q) (cond (Nat.beq q 9) (a 9) 0)
def t2 (a:Nat→Nat):Nat→Nat:=fun q=>cond (Nat.blt q 6) (a q) 0
def t3 (a:Nat→Nat):Nat→Nat:=fun q=>cond (Nat.blt q 9) (a q) 0
def t4 (a:Nat→Nat):Nat→Nat:=fun q=>cond (Nat.blt q 6) (a q) (cond (Nat.beq q 9) (a 9) 0)
def t6 (a:Nat→Nat):Nat→Nat:=fun q=>cond (Nat.blt q 6) (a q) (cond (Nat.blt q 9) 0 (a q))
theorem sh1_ev:evGW Tryz.prog [] [] B57 (shW L U) [] noL Tryz.f92 [.own 0 0,.agg (shC 1 a sk)] (pM l b u) [some 0,some 1,some 7] =
  chW L U [iPut [[98,97,108,108]],iVec (a 0) (a 1) (a 2),iPut [rad],iFl [a 9],.n (eqS 1 (t1 a) a sk)] (pM l b u ++ [.c (shC 1 a sk),.c (shC 1 (t1 a) sk)]) kF:=by kernel_rfl
theorem sh2_ev:evGW Tryz.prog [] [] B57 (shW L U) [] noL Tryz.f92 [.own 0 0,.agg (shC 2 a sk)] (pM l b u) [some 0,some 1,some 7] =
  chW L U [iPut [[98,108,111,99,107]],iVec (a 0) (a 1) (a 2),iPut [[116,111]],iVec (a 3) (a 4) (a 5),.n (eqS 2 (t2 a) a sk)] (pM l b u ++ [.c (shC 2 a sk),.c (shC 2 (t2 a) sk)]) kF:=by kernel_rfl
theorem sh3_ev:evGW Tryz.prog [] [] B57 (shW L U) [] noL Tryz.f92 [.own 0 0,.agg (shC 3 a sk)] (pM l b u) [some 0,some 1,some 9] =
  chW L U [iPut [[116,114,105]],iVec (a 0) (a 1) (a 2),iPut [[44]],iVec (a 3) (a 4) (a 5),iPut [[44]],iVec (a 6) (a 7) (a 8),.n (eqS 3 (t3 a) a sk)] (pM l b u ++ [.c (shC 3 a sk),.c (shC 3 (t3 a) sk)]) kF:=by kernel_rfl
theorem sh4_ev:evGW Tryz.prog [] [] B57 (shW L U) [] noL Tryz.f92 [.own 0 0,.agg (shC 4 a sk)] (pM l b u) [some 0,some 1,some 4] =
  chW L U [iRnd ⟨#[112,108,97,116,101]⟩ ⟨#[117,112]⟩ 4 a sk,.n (eqS 4 (t4 a) a sk)] (pM l b u ++ [.c (shC 4 a sk),.c (shC 4 (t4 a) sk)]) kF:=by kernel_rfl
theorem sh5_ev:evGW Tryz.prog [] [] B57 (shW L U) [] noL Tryz.f92 [.own 0 0,.agg (shC 5 a sk)] (pM l b u) [some 0,some 1,some 4] =
  chW L U [iRnd ⟨#[116,117,98,101]⟩ ⟨#[97,108,111,110,103]⟩ 5 a sk,.n (eqS 5 (t4 a) a sk)] (pM l b u ++ [.c (shC 5 a sk),.c (shC 5 (t4 a) sk)]) kF:=by kernel_rfl
theorem sh6_ev:evGW Tryz.prog [] [] B57 (shW L U) [] noL Tryz.f92 [.own 0 0,.agg (shC 6 a sk)] (pM l b u) [some 0,some 1,some 5] =
  chW L U [iRnd ⟨#[114,105,110,103]⟩ ⟨#[117,112]⟩ 6 a sk,iFl [a 10],.n (eqS 6 (t6 a) a sk)] (pM l b u ++ [.c (shC 6 a sk),.c (shC 6 (t6 a) sk)]) kF:=by kernel_rfl
end
@[simp] theorem y_tk0 (b:Bool):tks b []=[]:=rfl
@[simp] theorem y_tk (b:Bool) (t:List UInt8) (r:List (List UInt8)):tks b (t::r)=(if b then [32] else []) ++ (t ++ tks true r):=rfl
@[simp] theorem y_c0 (b:Bool):comp [] b=[]:=rfl
@[simp] theorem y_cw (f:Nat) (a:List AV) (E:Bool→List UInt8) (bad bf:Bool) (r:List SI) (b:Bool):comp (.w f a E bad bf::r) b=E b ++ comp r bf:=rfl
@[simp] theorem y_cg (q:Prop) (r:List SI) (b:Bool):comp (.g q::r) b=comp r b:=rfl
@[simp] theorem y_cn (t:Bool) (r:List SI) (b:Bool):comp (.n t::r) b=comp r b:=rfl
@[simp] theorem y_b0:cbad []=false:=rfl
@[simp] theorem y_bw (f:Nat) (a:List AV) (E:Bool→List UInt8) (bad bf:Bool) (r:List SI):cbad (.w f a E bad bf::r)=(bad||cbad r):=rfl
@[simp] theorem y_bg (q:Prop) (r:List SI):cbad (.g q::r)=cbad r:=rfl
@[simp] theorem y_bn (t:Bool) (r:List SI):cbad (.n t::r)=(!t||cbad r):=rfl
@[simp] theorem y_put (t:List UInt8):sPut t=.w 87 [tokL [t]] (fun b=>tks b [t]) false true:=rfl
@[simp] theorem y_end:sEnd=.w 89 [] (fun b=>tks b [[59]] ++ [10]) false false:=rfl
@[simp] def sPuts (ts:List (List UInt8)):SI:=.w 87 [tokL ts] (fun b=>tks b ts) false true
theorem sPuts_ok {ts:List (List UInt8)} (h0:ts≠[]) (hm:ts.length≤100000) (hne:∀ t,t ∈ ts→t≠[]):(sPuts ts).ok:=⟨pr_putL h0 hne hm,fun _=>by
  show [renA _ (tokL ts)]=_
  rfl⟩
structure Wh (f:Nat→Int):Prop where
  all:∀ q,q < 3→FIt (f q)∧Lib.itoa (f q)≠[]
def whT (f:Nat→Int):List (List UInt8):=[Lib.itoa (f 0),Lib.itoa (f 1),Lib.itoa (f 2)]
@[simp] def sWh (f:Nat→Int):SI:=.w 88 [.agg [iA (f 0),iA (f 1),iA (f 2)]] (fun b=>tks b (whT f)) false true
theorem sWh_ok {f:Nat→Int} (h:Wh f):(sWh f).ok:=⟨pr_wholes h.all,fun _=>rfl⟩
def W1:List UInt8:=[115,107,105,110]
def W2:List UInt8:=[115,112,114,101,97,100]
def W3:List UInt8:=[109,105,114,114,111,114]
def W4:List UInt8:=[103,108,97,115,115]
def W5:List UInt8:=[98,101,110,100]
def skT (dc:Int→List UInt8) (f g h:Nat→Int) (bd k:Int):List (List UInt8):=[W1,nmT k,W2] ++ (whT f ++ (W3::(whT g ++ (W4::(whT h ++ [W5,dc bd])))))
def skA (f g h:Nat→Int) (bd:Int):AV:=.agg [iA (f 0),iA (f 1),iA (f 2),iA (g 0),iA (g 1),iA (g 2),iA (h 0),iA (h 1),iA (h 2),iA bd]
theorem ne_n:∀ t,t ∈ ([]:List (List UInt8))→t≠[]:=fun _ h=>by cases h
theorem ne_c {x:List UInt8} {r:List (List UInt8)} (h:x≠[]) (hr:∀ t,t ∈ r→t≠[]):∀ t,t ∈ x::r→t≠[]:=fun t ht=>by
  rcases List.mem_cons.1 ht with rfl | ht
  · exact h
  · exact hr t ht
theorem nm_ne (k:Int):nmT k≠[]:=by unfold nmT; simp
theorem pr_skin {dc:Int→List UInt8} {f g hq:Nat→Int} {bd k:Int} (hn:FNm nmT k) (hf:Wh f) (hg:Wh g) (hh:Wh hq) (hb:FDc dc bd) (hd:dc bd≠[]):Pr 90 [skA f g hq bd,iA k] (fun b=>lineE b (skT dc f g hq bd k)) false false :=
  pr_of (bx:=[.c [iA (f 0),iA (f 1),iA (f 2),iA (g 0),iA (g 1),iA (g 2),iA (hq 0),iA (hq 1),iA (hq 2),iA bd]]) [.g (FNm nmT k),sPuts [W1,nmT k,W2],sWh f,sPut W3,sWh g,sPut W4,sWh hq,.g (FDc dc bd),sPuts [W5,dc bd],sEnd]
    (si_cons hn <| si_cons (sPuts_ok (by simp) (by simp) (ne_c (by simp [W1]) <| ne_c (nm_ne k) <| ne_c (by simp [W2]) ne_n)) <| si_cons (sWh_ok hf) <| si_cons (sPut_ok (by simp [W3])) <| si_cons (sWh_ok hg) <| si_cons (sPut_ok (by simp [W4])) <| si_cons (sWh_ok hh) <| si_cons hb <| si_cons (sPuts_ok (by simp) (by simp) (ne_c (by simp [W5]) <| ne_c hd ne_n)) <| si_cons sEnd_ok si_nil)
    (fun L U l b u h=>gspecGW e_nil (k_cons kS_ok (k_cons kS_ok k_nil)) B57_ok (w_cons wP_ok (w_cons wP_ok (w_cons wP_ok w_nil))) r_nil Tryz.func90 (by kernel_rfl) (by kernel_rfl) (mem:=pM l b u) noL_okN rfl (τ:=[some 0,some 1,some 10]) (by rfl) ((skin_ev L U l b u nmT dc f g hq bd k).trans h))
    (by funext b; simp [lineE,skT,whT]) rfl (fun _=>rfl)
section
variable {dc:Int→List UInt8} {tn:Nat→Int} {tb:Nat→Bool}
def vT (dc:Int→List UInt8) (tn:Nat→Int) (a:Nat→Nat) (i:Nat):List (List UInt8):=[ntk dc tn (a i),ntk dc tn (a (i+1)),ntk dc tn (a (i+2))]
def vB (tb:Nat→Bool) (a:Nat→Nat) (i:Nat):Bool:=vbad tb (a i) (a (i+1)) (a (i+2))
@[simp] def sVec (dc:Int→List UInt8) (tn:Nat→Int) (tb:Nat→Bool) (a:Nat→Nat) (i:Nat):SI:=.w 125 [wVec (a i) (a (i+1)) (a (i+2))] (fun b=>tks b (vT dc tn a i)) (vB tb a i) true
structure NV (dc:Int→List UInt8) (tn:Nat→Int) (tb:Nat→Bool) (a:Nat→Nat) (i:Nat):Prop where
  x:Nu dc tn tb (a i)
  y:Nu dc tn tb (a (i+1))
  z:Nu dc tn tb (a (i+2))
theorem sVec_ok {a:Nat→Nat} {i:Nat} (h:NV dc tn tb a i):(sVec dc tn tb a i).ok:=⟨pr_vec h.x h.y h.z,fun _=>rfl⟩
@[simp] def sFl (dc:Int→List UInt8) (tn:Nat→Int) (tb:Nat→Bool) (x:Nat):SI:=.w 126 [flL [x]] (fun b=>tks b [ntk dc tn x]) (!(tb x)) true
theorem sFl_ok {x:Nat} (h:Nu dc tn tb x):(sFl dc tn tb x).ok:=⟨pr_fl1 h,fun _=>rfl⟩
def lamT (dc:Int→List UInt8) (tn:Nat→Int) (a:Nat→Nat) (f:Nat→Int):List (List UInt8):=[108,97,109,112]::(vT dc tn a 0 ++ ([108,105,103,104,116]::whT f))
theorem pr_lamp {a:Nat→Nat} {f:Nat→Int} (ha:NV dc tn tb a 0) (hf:Wh f):Pr 91 [.agg [.f (a 0),.f (a 1),.f (a 2),iA (f 0),iA (f 1),iA (f 2)]] (fun b=>lineE b (lamT dc tn a f)) (vB tb a 0) false :=
  pr_of (bx:=[.c [.f (a 0),.f (a 1),.f (a 2),iA (f 0),iA (f 1),iA (f 2)]]) [sPut [108,97,109,112],sVec dc tn tb a 0,sPut [108,105,103,104,116],sWh f,sEnd]
    (si_cons (sPut_ok (by simp)) <| si_cons (sVec_ok ha) <| si_cons (sPut_ok (by simp)) <| si_cons (sWh_ok hf) <| si_cons sEnd_ok si_nil)
    (fun L U l b u h=>gspecGW e_nil k_nil B57_ok (w_cons wP_ok (w_cons wP_ok (w_cons wP_ok (w_cons wP_ok w_nil)))) r_nil Tryz.func91 (by kernel_rfl) (by kernel_rfl) (mem:=pM l b u) noL_okN rfl (τ:=[some 0,some 1,some 7]) (by rfl) ((lamp_ev L U l b u a f).trans h))
    (by funext b; simp [lineE,lamT,whT,vT]) (by simp) (fun _=>rfl)
def rndT (dc:Int→List UInt8) (tn:Nat→Int) (w t:List UInt8) (a:Nat→Nat):List (List UInt8):=w::(vT dc tn a 0 ++ (t::(vT dc tn a 3 ++ [rad,ntk dc tn (a 9)])))
theorem rad_ne:rad≠[]:=by simp [rad]
theorem pr_round {w t:List UInt8} {k:Int} {a:Nat→Nat} {sk:Int} (hw:w≠[]) (ht:t≠[]) (h0:NV dc tn tb a 0) (h3:NV dc tn tb a 3) (h9:Nu dc tn tb (a 9)):Pr 132 [zA (lB w),zA (lB t),.agg (shC k a sk)] (fun b=>tks b (rndT dc tn w t a)) (vB tb a 0||(vB tb a 3||!(tb (a 9)))) true :=
  pr_of (bx:=[.c (shC k a sk)]) [sPut w,sVec dc tn tb a 0,sPut t,sVec dc tn tb a 3,sPut rad,sFl dc tn tb (a 9)]
    (si_cons (sPut_ok hw) <| si_cons (sVec_ok h0) <| si_cons (sPut_ok ht) <| si_cons (sVec_ok h3) <| si_cons (sPut_ok rad_ne) <| si_cons (sFl_ok h9) si_nil)
    (fun L U l b u h=>gspecGW e_nil k_nil B57_ok (w_cons wP_ok (w_cons wP_ok (w_cons wP_ok w_nil))) r_nil Tryz.func132 (by kernel_rfl) (by kernel_rfl) (mem:=pM l b u) noL_okN rfl (τ:=[some 0,some 1,some 8]) (by rfl) ((round_ev L U l b u a sk w t k).trans h))
    (by funext b; simp [rndT,vT]) (by simp) (fun _=>rfl)
@[simp] def sRnd (dc:Int→List UInt8) (tn:Nat→Int) (tb:Nat→Bool) (w t:List UInt8) (k:Int) (a:Nat→Nat) (sk:Int):SI:=.w 132 [zA (lB w),zA (lB t),.agg (shC k a sk)] (fun b=>tks b (rndT dc tn w t a)) (vB tb a 0||(vB tb a 3||!(tb (a 9)))) true
theorem sRnd_ok {w t:List UInt8} {k:Int} {a:Nat→Nat} {sk:Int} (hw:w≠[]) (ht:t≠[]) (h0:NV dc tn tb a 0) (h3:NV dc tn tb a 3) (h9:Nu dc tn tb (a 9)):(sRnd dc tn tb w t k a sk).ok:=⟨pr_round hw ht h0 h3 h9,fun _=>rfl⟩
def shT1 (dc:Int→List UInt8) (tn:Nat→Int) (a:Nat→Nat):List (List UInt8):=[98,97,108,108]::(vT dc tn a 0 ++ [rad,ntk dc tn (a 9)])
def shB1 (tb:Nat→Bool) (a:Nat→Nat) (sk:Int):Bool:=vB tb a 0||(!(tb (a 9))||!(eqS 1 (t1 a) a sk))
theorem pr_sh1 {a:Nat→Nat} {sk:Int} (h0:NV dc tn tb a 0) (h9:Nu dc tn tb (a 9)):Pr 92 [.agg (shC 1 a sk)] (fun b=>tks b (shT1 dc tn a)) (shB1 tb a sk) true :=
  pr_of (bx:=[.c (shC 1 a sk),.c (shC 1 (t1 a) sk)]) [sPut [98,97,108,108],sVec dc tn tb a 0,sPut rad,sFl dc tn tb (a 9),.n (eqS 1 (t1 a) a sk)]
    (si_cons (sPut_ok (by simp)) <| si_cons (sVec_ok h0) <| si_cons (sPut_ok rad_ne) <| si_cons (sFl_ok h9) <| si_cons trivial si_nil)
    (fun L U l b u h=>gspecGW e_nil k_nil B57_ok (w_cons wP_ok (w_cons wP_ok (w_cons wP_ok (w_cons wP_ok (w_cons wNd_ok w_nil))))) r_nil Tryz.func92 (by kernel_rfl) (by kernel_rfl) (mem:=pM l b u) noL_okN rfl (τ:=[some 0,some 1,some 7]) (by rfl) ((sh1_ev L U l b u a sk).trans h))
    (by funext b; simp [vT,shT1]) (by simp [shB1]) (fun _=>rfl)
def shT2 (dc:Int→List UInt8) (tn:Nat→Int) (a:Nat→Nat):List (List UInt8):=[98,108,111,99,107]::(vT dc tn a 0 ++ ([116,111]::vT dc tn a 3))
def shB2 (tb:Nat→Bool) (a:Nat→Nat) (sk:Int):Bool:=vB tb a 0||(vB tb a 3||!(eqS 2 (t2 a) a sk))
theorem pr_sh2 {a:Nat→Nat} {sk:Int} (h0:NV dc tn tb a 0) (h3:NV dc tn tb a 3):Pr 92 [.agg (shC 2 a sk)] (fun b=>tks b (shT2 dc tn a)) (shB2 tb a sk) true :=
  pr_of (bx:=[.c (shC 2 a sk),.c (shC 2 (t2 a) sk)]) [sPut [98,108,111,99,107],sVec dc tn tb a 0,sPut [116,111],sVec dc tn tb a 3,.n (eqS 2 (t2 a) a sk)]
    (si_cons (sPut_ok (by simp)) <| si_cons (sVec_ok h0) <| si_cons (sPut_ok (by simp)) <| si_cons (sVec_ok h3) <| si_cons trivial si_nil)
    (fun L U l b u h=>gspecGW e_nil k_nil B57_ok (w_cons wP_ok (w_cons wP_ok (w_cons wP_ok (w_cons wP_ok (w_cons wNd_ok w_nil))))) r_nil Tryz.func92 (by kernel_rfl) (by kernel_rfl) (mem:=pM l b u) noL_okN rfl (τ:=[some 0,some 1,some 7]) (by rfl) ((sh2_ev L U l b u a sk).trans h))
    (by funext b; simp [vT,shT2]) (by simp [shB2]) (fun _=>rfl)
def shT3 (dc:Int→List UInt8) (tn:Nat→Int) (a:Nat→Nat):List (List UInt8):=[116,114,105]::(vT dc tn a 0 ++ ([44]::(vT dc tn a 3 ++ ([44]::vT dc tn a 6))))
def shB3 (tb:Nat→Bool) (a:Nat→Nat) (sk:Int):Bool:=vB tb a 0||(vB tb a 3||(vB tb a 6||!(eqS 3 (t3 a) a sk)))
theorem pr_sh3 {a:Nat→Nat} {sk:Int} (h0:NV dc tn tb a 0) (h3:NV dc tn tb a 3) (h6:NV dc tn tb a 6):Pr 92 [.agg (shC 3 a sk)] (fun b=>tks b (shT3 dc tn a)) (shB3 tb a sk) true :=
  pr_of (bx:=[.c (shC 3 a sk),.c (shC 3 (t3 a) sk)]) [sPut [116,114,105],sVec dc tn tb a 0,sPut [44],sVec dc tn tb a 3,sPut [44],sVec dc tn tb a 6,.n (eqS 3 (t3 a) a sk)]
    (si_cons (sPut_ok (by simp)) <| si_cons (sVec_ok h0) <| si_cons (sPut_ok (by simp)) <| si_cons (sVec_ok h3) <| si_cons (sPut_ok (by simp)) <| si_cons (sVec_ok h6) <| si_cons trivial si_nil)
    (fun L U l b u h=>gspecGW e_nil k_nil B57_ok (w_cons wP_ok (w_cons wP_ok (w_cons wP_ok (w_cons wP_ok (w_cons wNd_ok w_nil))))) r_nil Tryz.func92 (by kernel_rfl) (by kernel_rfl) (mem:=pM l b u) noL_okN rfl (τ:=[some 0,some 1,some 9]) (by rfl) ((sh3_ev L U l b u a sk).trans h))
    (by funext b; simp [vT,shT3]) (by simp [shB3]) (fun _=>rfl)
def shT4 (dc:Int→List UInt8) (tn:Nat→Int) (a:Nat→Nat):List (List UInt8):=rndT dc tn [112,108,97,116,101] [117,112] a
def shB4 (tb:Nat→Bool) (a:Nat→Nat) (sk:Int):Bool:=(vB tb a 0||(vB tb a 3||!(tb (a 9))))||!(eqS 4 (t4 a) a sk)
theorem pr_sh4 {a:Nat→Nat} {sk:Int} (h0:NV dc tn tb a 0) (h3:NV dc tn tb a 3) (h9:Nu dc tn tb (a 9)):Pr 92 [.agg (shC 4 a sk)] (fun b=>tks b (shT4 dc tn a)) (shB4 tb a sk) true :=
  pr_of (bx:=[.c (shC 4 a sk),.c (shC 4 (t4 a) sk)]) [sRnd dc tn tb [112,108,97,116,101] [117,112] 4 a sk,.n (eqS 4 (t4 a) a sk)]
    (si_cons (sRnd_ok (by simp) (by simp) h0 h3 h9) <| si_cons trivial si_nil)
    (fun L U l b u h=>gspecGW e_nil k_nil B57_ok (w_cons wP_ok (w_cons wP_ok (w_cons wP_ok (w_cons wP_ok (w_cons wNd_ok w_nil))))) r_nil Tryz.func92 (by kernel_rfl) (by kernel_rfl) (mem:=pM l b u) noL_okN rfl (τ:=[some 0,some 1,some 4]) (by rfl) ((sh4_ev L U l b u a sk).trans h))
    (by funext b; simp [shT4]) (by simp [shB4,Bool.or_assoc]) (fun _=>rfl)
def shT5 (dc:Int→List UInt8) (tn:Nat→Int) (a:Nat→Nat):List (List UInt8):=rndT dc tn [116,117,98,101] [97,108,111,110,103] a
def shB5 (tb:Nat→Bool) (a:Nat→Nat) (sk:Int):Bool:=(vB tb a 0||(vB tb a 3||!(tb (a 9))))||!(eqS 5 (t4 a) a sk)
theorem pr_sh5 {a:Nat→Nat} {sk:Int} (h0:NV dc tn tb a 0) (h3:NV dc tn tb a 3) (h9:Nu dc tn tb (a 9)):Pr 92 [.agg (shC 5 a sk)] (fun b=>tks b (shT5 dc tn a)) (shB5 tb a sk) true :=
  pr_of (bx:=[.c (shC 5 a sk),.c (shC 5 (t4 a) sk)]) [sRnd dc tn tb [116,117,98,101] [97,108,111,110,103] 5 a sk,.n (eqS 5 (t4 a) a sk)]
    (si_cons (sRnd_ok (by simp) (by simp) h0 h3 h9) <| si_cons trivial si_nil)
    (fun L U l b u h=>gspecGW e_nil k_nil B57_ok (w_cons wP_ok (w_cons wP_ok (w_cons wP_ok (w_cons wP_ok (w_cons wNd_ok w_nil))))) r_nil Tryz.func92 (by kernel_rfl) (by kernel_rfl) (mem:=pM l b u) noL_okN rfl (τ:=[some 0,some 1,some 4]) (by rfl) ((sh5_ev L U l b u a sk).trans h))
    (by funext b; simp [shT5]) (by simp [shB5,Bool.or_assoc]) (fun _=>rfl)
def shT6 (dc:Int→List UInt8) (tn:Nat→Int) (a:Nat→Nat):List (List UInt8):=rndT dc tn [114,105,110,103] [117,112] a ++ [ntk dc tn (a 10)]
def shB6 (tb:Nat→Bool) (a:Nat→Nat) (sk:Int):Bool:=(vB tb a 0||(vB tb a 3||!(tb (a 9))))||(!(tb (a 10))||!(eqS 6 (t6 a) a sk))
theorem pr_sh6 {a:Nat→Nat} {sk:Int} (h0:NV dc tn tb a 0) (h3:NV dc tn tb a 3) (h9:Nu dc tn tb (a 9)) (h10:Nu dc tn tb (a 10)):Pr 92 [.agg (shC 6 a sk)] (fun b=>tks b (shT6 dc tn a)) (shB6 tb a sk) true :=
  pr_of (bx:=[.c (shC 6 a sk),.c (shC 6 (t6 a) sk)]) [sRnd dc tn tb [114,105,110,103] [117,112] 6 a sk,sFl dc tn tb (a 10),.n (eqS 6 (t6 a) a sk)]
    (si_cons (sRnd_ok (by simp) (by simp) h0 h3 h9) <| si_cons (sFl_ok h10) <| si_cons trivial si_nil)
    (fun L U l b u h=>gspecGW e_nil k_nil B57_ok (w_cons wP_ok (w_cons wP_ok (w_cons wP_ok (w_cons wP_ok (w_cons wNd_ok w_nil))))) r_nil Tryz.func92 (by kernel_rfl) (by kernel_rfl) (mem:=pM l b u) noL_okN rfl (τ:=[some 0,some 1,some 5]) (by rfl) ((sh6_ev L U l b u a sk).trans h))
    (by funext b; simp [rndT,vT,shT6]) (by simp [shB6,Bool.or_assoc]) (fun _=>rfl)
end
end Go.Proofs.YtefphimaggjihaaGreatDoor.Pi

namespace Go.Proofs.YtefphimaggjihaaGreatDoor.Pi
open Go.Shelf Go.RowKit Go.Gv
open Hs (shC)
open Hs.So (Prt prS)
def arS (n:Nat) (P:Nat→Prt) (eS eD:Nat→List AV) (i:Int):St:=mkS 98 [(0,prS n P),(2,bA false),(3,.osl 0 1 0 n),(4,.osl 1 1 0 n),(14,prS n P),(15,iA n),(16,iA i)] [.a 3 1 n eS,.a 3 1 n eD]
def keepAr:List Nat:=[0,2,3,4,14,15,16]
def bl (i:Int) (n:Nat):Bool:=Nat.blt (0+i.toNat) n
def putEl (g:Nat→Int) (q:Nat) (v:Int) (j:Nat):List AV:=mixL (j==q) [iA v] [iA (g j)]
def put2 (g:Nat→Int) (q:Nat) (v w:Int) (j:Nat):List AV:=mixL (j==q) [iA w] (putEl g q v j)
section
variable (n:Nat) (P:Nat→Prt) (S D:Nat→Int) (i:Int) (bz:Bool)
def S1 (S:Nat→Int) (i x:Int):Int:=cond ((0+x.toNat)==(0+i.toNat)) 1 (S (0+x.toNat))
def iW (i:Int):Int:=w64 (i - 1)
def arL:Int:=(P i.toNat).l
def arR:Int:=(P i.toNat).r
def g10:Bool:=decide ((!(arR P i==iW i))=false)&&true
def c10:Bool:=(ixB (iW i) n||!(g10 P i))&&((bl (iW i) n||!(g10 P i))&&true)
def t10:Bool:=cond (!(arR P i==iW i)) true (!(arL P i==w64 (iW i - S1 S i (iW i))))
def c12:Bool:=(ixB i n||false)&&((bl i n||false)&&((ixB (arL P i) n||false)&&((bl (arL P i) n||false)&&((ixB (arR P i) n||false)&&((bl (arR P i) n||false)&&((ixB i n||false)&&((bl i n||false)&&true)))))))
def v12:Int:=w64 (S1 S i i+w64 (S1 S i (arL P i)+S1 S i (arR P i)))
def c13:Bool:=(ixB (arL P i) n||false)&&((bl (arL P i) n||false)&&((ixB (arR P i) n||false)&&((bl (arR P i) n||false)&&((ixB i n||false)&&((bl i n||false)&&true)))))
def v13 (mx:Int→Int→Int):Int:=w64 (1+mx (D (0+(arL P i).toNat)) (D (0+(arR P i).toNat)))
noncomputable def arX (lf:Option Out) (nd:Option Out) (rt:Option Out) (en:Option Out):Option Out:=cond (decide (i < (n:Nat))) (cond (ixB i n||false) (gate (FSpec Tryz.prog 157 [.agg (P i.toNat).c] (bA bz)) (cond (!bz) rt
  (cond (ixB i n||false) (cond (bl i n||false) (cond ((P i.toNat).op==0) lf (cond (c10 n P i) (cond (t10 P S i) rt (cond (c12 n P i) (cond (c13 n P i) nd none) none)) none)) none) none))) none) en
noncomputable def arK:List KEntry:=[kS Tryz.prog 157 fun _=>bA bz]
theorem ar_step:evC Tryz.prog [] (arK bz) noL (loopAt Tryz.f134 0) (arS n P (fun q=>[iA (S q)]) (fun q=>[iA (D q)]) i) (finN keepAr [some 0,some 1])=arX n P S i bz
  (some ⟨.normal,arS n P (putEl S (0+i.toNat) 1) (fun q=>[iA (D q)]) (w64 (i+1)),.any⟩)
  (some ⟨.normal,arS n P (put2 S (0+i.toNat) 1 (v12 P S i)) (putEl D (0+i.toNat) (v13 P D i fun a b=>if b > a then b else a)) (w64 (i+1)),.any⟩) none none:=by kernel_rfl
def arE:St:=mkS 98 [(2,bA false)] []
theorem ar_ret:evC Tryz.prog [] (arK bz) noL (loopAt Tryz.f134 0) (arS n P (fun q=>[iA (S q)]) (fun q=>[iA (D q)]) i) (finR [2] [])=arX n P S i bz none none (some ⟨.ret,arE,.any⟩) none:=by kernel_rfl
theorem ar_end:evC Tryz.prog [] (arK bz) noL (loopAt Tryz.f134 0) (arS n P (fun q=>[iA (S q)]) (fun q=>[iA (D q)]) i) (finE keepAr [some 0,some 1])=arX n P S i bz none none none (some ⟨.exit 0,arS n P (fun q=>[iA (S q)]) (fun q=>[iA (D q)]) i,.any⟩):=by kernel_rfl
def mkI (n:Int):Bool:=decide (0≤n)&&(decide (n≤n)&&decide (((8:Nat):Int)*n≤281474976710656))
def lst (n:Nat):Int:=w64 ((n:Int) - 1)
def eq1:Bool:=S (0+(lst n).toNat)==(n:Int)
def gq:Bool:=decide ((eq1 n S)=true)&&true
noncomputable def arT:Option Out:=cond (ixB (lst n) n||false) (cond (bl (lst n) n||false) (cond (ixB (lst n) n||!(gq n S)) (cond (bl (lst n) n||!(gq n S)) (some (Out.of (bA (cond (eq1 n S) (decide (D (0+(lst n).toNat)≤3)) false)))) none) none) none) none
theorem ar_evA (i':Int):ev Tryz.prog [] (arK bz) (oneL 4 (toldF keepAr [some 0,some 1] (arS n P (fun _=>[iA 0]) (fun _=>[iA 0]) 0) (.exit 0) (arS n P (fun q=>[iA (S q)]) (fun q=>[iA (D q)]) i'))) Tryz.f134 [prS n P] ret =
  cond (mkI n||false) (cond (mkI n||false) (gate (Sub (arS n P (fun _=>[iA 0]) (fun _=>[iA 0]) 0) (arS n P (fun _=>[iA 0]) (fun _=>[iA 0]) 0)) (arT n S D)) none) none:=by kernel_rfl
theorem ar_evB:ev Tryz.prog [] (arK bz) (oneL 4 (toldF keepAr [some 0,some 1] (arS n P (fun _=>[iA 0]) (fun _=>[iA 0]) 0) .ret arE)) Tryz.f134 [prS n P] ret =
  cond (mkI n||false) (cond (mkI n||false) (gate (Sub (arS n P (fun _=>[iA 0]) (fun _=>[iA 0]) 0) (arS n P (fun _=>[iA 0]) (fun _=>[iA 0]) 0)) (some (Out.of (bA false)))) none) none:=by kernel_rfl
end
open Go.Ev (feq)
def zA0:Nat→Nat:=fun _=>0
def eqZ (p:Prt):Bool:=(p.k==0)&&(eqV p.a zA0 0&&(eqV p.a zA0 3&&(eqV p.a zA0 6&&(feq (p.a 9) 0&&(feq (p.a 10) 0&&((p.sk==0)&&true))))))
def bareB (p:Prt):Bool:=cond (p.op==0) (cond (cond (p.l==0) (p.r==0) false) (p.sk==0) false) (eqZ p)
theorem ba_ev (p:Prt):ev Tryz.prog [] [] noL Tryz.f157 [.agg p.c] ret=cond (p.op==0) (some (Out.of (bA (cond (cond (p.l==0) (p.r==0) false) (p.sk==0) false)))) (some (Out.of (bA (eqZ p)))):=by kernel_rfl
theorem ba_spec (p:Prt):FSpec Tryz.prog 157 [.agg p.c] (bA (bareB p)):=by
  refine gspec e_nil k_nil Tryz.func157 (by kernel_rfl) (by kernel_rfl) noL_ok rfl ((ba_ev p).trans ?_)
  unfold bareB
  cases p.op==0<;>rfl
def upd (g:Nat→Int) (j:Nat) (v:Int):Nat→Int:=fun q=>if q=j then v else g q
def mx (a b:Int):Int:=if b > a then b else a
def sd (P:Nat→Prt):Nat→(Nat→Int) × (Nat→Int)
  | 0=>(fun _=>0,fun _=>0)
  | j+1=>if (P j).op=0 then (upd (sd P j).1 j 1,(sd P j).2) else (upd (sd P j).1 j (1+((sd P j).1 (P j).l.toNat+(sd P j).1 (P j).r.toNat)),upd (sd P j).2 j (1+mx ((sd P j).2 (P j).l.toNat) ((sd P j).2 (P j).r.toNat)))
/-- Parts that may be. -/
def PM (n:Nat) (P:Nat→Prt):Prop:=∀ j,j < n→(P j).op=0∨((1≤(P j).op∧(P j).op≤3)∧(0≤(P j).l∧(P j).l < (j:Nat))∧0≤(P j).r∧(P j).r < (j:Nat))
def okJ (P:Nat→Prt) (j:Nat):Prop:=bareB (P j)=true∧((P j).op=0∨((P j).r=(j:Int) - 1∧(P j).l=(j:Int) - 1 - (sd P j).1 (j - 1)))
theorem sd_succ (P:Nat→Prt) (j:Nat):sd P (j+1)=if (P j).op=0 then (upd (sd P j).1 j 1,(sd P j).2) else (upd (sd P j).1 j (1+((sd P j).1 (P j).l.toNat+(sd P j).1 (P j).r.toNat)),upd (sd P j).2 j (1+mx ((sd P j).2 (P j).l.toNat) ((sd P j).2 (P j).r.toNat))):=rfl
theorem mx_rng {a b M:Int} (a0:0≤a) (a1:a≤M) (b0:0≤b) (b1:b≤M):0≤mx a b∧mx a b≤M:=by
  unfold mx; split<;>omega
theorem sd_rng (P:Nat→Prt):∀ j q,(0≤(sd P j).1 q∧(sd P j).1 q+1≤2 ^ j)∧0≤(sd P j).2 q∧(sd P j).2 q≤j
  | 0,q=>by simp [sd]
  | j + 1,q=>by
    have e:(2:Int) ^ (j+1)=2 ^ j*2:=Int.pow_succ _ _
    have hp:(1:Int)≤2 ^ j:=by have:=(sd_rng P j q).1; omega
    have h0:=sd_rng P j q
    have h1:=sd_rng P j (P j).l.toNat
    have h2:=sd_rng P j (P j).r.toNat
    have hm:=mx_rng h1.2.1 h1.2.2 h2.2.1 h2.2.2
    rw [sd_succ]
    by_cases ho:(P j).op=0
    · rw [if_pos ho]
      simp only [upd]
      split<;>(constructor<;>omega)
    · rw [if_neg ho]
      simp only [upd]
      split<;>(constructor<;>omega)
theorem pow16 {j:Nat} (h:j≤20):(2:Int) ^ j≤1048576:=by
  have h1:2 ^ j≤2 ^ 20:=Nat.pow_le_pow_right (by omega) h
  have h2:((2 ^ j:Nat):Int)=(2:Int) ^ j:=by simp
  omega
section
variable {n:Nat} {P:Nat→Prt}
theorem S1_self (S:Nat→Int) (j:Nat):S1 S (j:Nat) (j:Nat)=1:=by unfold S1; rw [BEq.rfl]; rfl
theorem S1_other (S:Nat→Int) {j:Nat} {x:Int} (h0:0≤x) (h:x < (j:Nat)):S1 S (j:Nat) x=S x.toNat:=by
  unfold S1
  rw [beq_false_of_ne (by omega),Nat.zero_add]
  rfl
theorem bl_t {x:Int} (h0:0≤x) (h:x < (n:Nat)):bl x n=true:=by unfold bl; exact blt_t (by omega)
theorem ixB_i {x:Int} (h0:0≤x) (h:x < (n:Nat)):ixB x n=true:=by unfold ixB; rw [decide_eq_true h0,decide_eq_true h]; rfl
theorem putEl_eq (g:Nat→Int) (j:Nat) (v:Int) (q:Nat):putEl g (0+j) v q=[iA (upd g j v q)]:=by
  unfold putEl upd
  rw [mixI,Nat.zero_add]
  by_cases h:q=j
  · rw [if_pos h,h,BEq.rfl]; rfl
  · rw [if_neg h,beq_false_of_ne h]; rfl
theorem put2_eq (g:Nat→Int) (j:Nat) (v w:Int) (q:Nat):put2 g (0+j) v w q=[iA (upd g j w q)]:=by
  unfold put2
  rw [putEl_eq,mixI,Nat.zero_add]
  unfold upd
  by_cases h:q=j
  · subst h; rw [BEq.rfl,cond_true,if_pos rfl]
  · rw [beq_false_of_ne h,cond_false,if_neg h,if_neg h]
def arI (n:Nat) (P:Nat→Prt) (j:Nat):St:=arS n P (fun q=>[iA ((sd P j).1 q)]) (fun q=>[iA ((sd P j).2 q)]) (j:Nat)
theorem arX_head {j:Nat} (hj:j < n) (lf nd rt en:Option Out):arX n P (sd P j).1 (j:Nat) (bareB (P j)) lf nd rt en=cond (!(bareB (P j))) rt (cond ((P j).op==0) lf (cond (c10 n P (j:Nat)) (cond (t10 P (sd P j).1 (j:Nat)) rt (cond (c12 n P (j:Nat)) (cond (c13 n P (j:Nat)) nd none) none)) none)):=by
  unfold arX
  rw [dec_lt hj,ixB_t hj,bl_t (by omega) (by omega),Int.toNat_natCast,gate_pos (ba_spec (P j))]
  rfl
theorem ar_go (hn:n≤16) (hP:PM n P) {j:Nat} (hj:j < n) (h:okJ P j):Leads Tryz.prog (loopAt Tryz.f134 0) (arI n P j) .normal (arI n P (j+1)):=by
  have hw:w64 ((j:Int)+1)=((j+1:Nat):Int):=w64_next (by omega)
  have hr:=sd_rng P j
  have hp:=pow16 (j:=j) (by omega)
  obtain ⟨hb,ho⟩:=h
  have st:=ar_step n P (sd P j).1 (sd P j).2 (j:Nat) (bareB (P j))
  rw [arX_head hj,hb,hw] at st
  by_cases h0:(P j).op=0
  · rw [h0] at st
    refine (leads_ev (finN_sub _ _) e_nil (k_cons kS_ok k_nil) noL_ok (st.trans rfl)).sub (Sub.refl _) ?_
    refine sub_same ⟨Or.inr ⟨3,1,n,_,_,rfl,rfl,fun q _=>?_⟩,Or.inr ⟨3,1,n,_,_,rfl,rfl,fun q _=>?_⟩,trivial⟩
    · rw [Int.toNat_natCast,putEl_eq,sd_succ,if_pos h0]
    · rw [sd_succ,if_pos h0]
  · have hM:=(hP j hj).resolve_left h0
    have hk:=ho.resolve_left h0
    obtain ⟨_,⟨l0,l1⟩,r0,r1⟩:=hM
    have hi:iW (j:Nat)=(j:Int) - 1:=by unfold iW; exact w64_id (by omega) (by omega)
    have hT:(P ((j:Nat):Int).toNat)=P j:=by rw [Int.toNat_natCast]
    have eL:arL P (j:Nat)=(P j).l:=by unfold arL; rw [hT]
    have eR:arR P (j:Nat)=(P j).r:=by unfold arR; rw [hT]
    have s1:=hr (j - 1)
    have sl:=hr (P j).l.toNat
    have sr:=hr (P j).r.toNat
    have e10:c10 n P (j:Nat)=true:=by unfold c10; rw [hi,ixB_i (by omega) (by omega),bl_t (by omega) (by omega)]; rfl
    have et:t10 P (sd P j).1 (j:Nat)=false:=by
      unfold t10
      rw [hi,eL,eR,hk.1,BEq.rfl,S1_other _ (by omega) (by omega),show ((j:Int) - 1).toNat=j - 1 by omega,w64_id (by omega) (by omega),hk.2,BEq.rfl]
      rfl
    have e12:c12 n P (j:Nat)=true:=by unfold c12; rw [eL,eR,ixB_t hj,bl_t (x:=(j:Nat)) (by omega) (by omega),ixB_i (by omega) (by omega),bl_t (by omega) (by omega),ixB_i (by omega) (by omega),bl_t (by omega) (by omega)]; rfl
    have e13:c13 n P (j:Nat)=true:=by unfold c13; rw [eL,eR,ixB_t hj,bl_t (x:=(j:Nat)) (by omega) (by omega),ixB_i (by omega) (by omega),bl_t (by omega) (by omega),ixB_i (by omega) (by omega),bl_t (by omega) (by omega)]; rfl
    have v1:v12 P (sd P j).1 (j:Nat)=1+((sd P j).1 (P j).l.toNat+(sd P j).1 (P j).r.toNat):=by
      unfold v12
      rw [eL,eR,S1_self,S1_other _ l0 l1,S1_other _ r0 r1,w64_id (n:=(sd P j).1 _+_) (by omega) (by omega),w64_id (by omega) (by omega)]
    have hm:=mx_rng sl.2.1 sl.2.2 sr.2.1 sr.2.2
    have v2:v13 P (sd P j).2 (j:Nat) (fun a b=>if b > a then b else a)=1+mx ((sd P j).2 (P j).l.toNat) ((sd P j).2 (P j).r.toNat):=by
      unfold v13
      rw [eL,eR,Nat.zero_add,Nat.zero_add]
      exact w64_id (n:=1+mx _ _) (by omega) (by omega)
    rw [beq_false_of_ne h0,e10,et,e12,e13,v1,v2] at st
    refine (leads_ev (finN_sub _ _) e_nil (k_cons kS_ok k_nil) noL_ok (st.trans rfl)).sub (Sub.refl _) ?_
    refine sub_same ⟨Or.inr ⟨3,1,n,_,_,rfl,rfl,fun q _=>?_⟩,Or.inr ⟨3,1,n,_,_,rfl,rfl,fun q _=>?_⟩,trivial⟩
    · rw [Int.toNat_natCast,put2_eq,sd_succ,if_neg h0]
    · rw [Int.toNat_natCast,putEl_eq,sd_succ,if_neg h0]
theorem ar_stop (hn:n≤16) (hP:PM n P) {j:Nat} (hj:j < n) (h:¬ okJ P j):Leads Tryz.prog (loopAt Tryz.f134 0) (arI n P j) .ret arE:=by
  have hr:=sd_rng P j
  have hp:=pow16 (j:=j) (by omega)
  have st:=ar_ret n P (sd P j).1 (sd P j).2 (j:Nat) (bareB (P j))
  rw [arX_head hj] at st
  refine leads_ev (finR_sub _ _) e_nil (k_cons kS_ok k_nil) noL_ok (st.trans ?_)
  cases hb:bareB (P j)
  · rfl
  · by_cases h0:(P j).op=0
    · exact absurd ⟨hb,Or.inl h0⟩ h
    · have hM:=(hP j hj).resolve_left h0
      obtain ⟨_,⟨l0,l1⟩,r0,r1⟩:=hM
      have hi:iW (j:Nat)=(j:Int) - 1:=by unfold iW; exact w64_id (by omega) (by omega)
      have hT:(P ((j:Nat):Int).toNat)=P j:=by rw [Int.toNat_natCast]
      have eL:arL P (j:Nat)=(P j).l:=by unfold arL; rw [hT]
      have eR:arR P (j:Nat)=(P j).r:=by unfold arR; rw [hT]
      have s1:=hr (j - 1)
      have e10:c10 n P (j:Nat)=true:=by unfold c10; rw [hi,ixB_i (by omega) (by omega),bl_t (by omega) (by omega)]; rfl
      have et:t10 P (sd P j).1 (j:Nat)=true:=by
        unfold t10
        rw [hi,eL,eR,S1_other _ (by omega) (by omega),show ((j:Int) - 1).toNat=j - 1 by omega,w64_id (by omega) (by omega)]
        by_cases c1:(P j).r=(j:Int) - 1
        · by_cases c2:(P j).l=(j:Int) - 1 - (sd P j).1 (j - 1)
          · exact absurd ⟨hb,Or.inr ⟨c1,c2⟩⟩ h
          · rw [beq_false_of_ne c2]; cases (P j).r==(j:Int) - 1<;>rfl
        · rw [beq_false_of_ne c1]; rfl
      rw [beq_false_of_ne h0,e10,et]
      rfl
def arP (n:Nat) (P:Nat→Prt):Prop:=(∀ j,j < n→okJ P j)∧(sd P n).1 (n - 1)=(n:Nat)∧(sd P n).2 (n - 1)≤3
open Classical in
noncomputable def arB (n:Nat) (P:Nat→Prt):Bool:=decide (arP n P)
theorem mkI_t (h:n≤16):mkI (n:Nat)=true:=by unfold mkI; rw [decide_eq_true (by omega),decide_eq_true (by omega),decide_eq_true (by omega)]; rfl
theorem asRead_spec (h1:1≤n) (hn:n≤16) (hP:PM n P):FSpec Tryz.prog 134 [prS n P] (bA (arB n P)):=by
  classical
  have hlo:((lst n).toNat)=n - 1:=by unfold lst; rw [w64_id (by omega) (by omega)]; omega
  have hl:lst n=((n - 1:Nat):Int):=by unfold lst; rw [w64_id (by omega) (by omega)]; omega
  by_cases hall:∀ j,j < n→okJ P j
  · have key:Leads Tryz.prog (.loop (loopAt Tryz.f134 0)) (arI n P 0) (.exit 0) (arI n P n):=by
      refine loop_rule (arI n P) n (.exit 0) _ (by simp) (fun j hj=>ar_go hn hP hj (hall j hj)) ?_
      refine leads_ev (finE_sub _ _) e_nil (k_cons kS_ok k_nil) noL_ok ((ar_end n P (sd P n).1 (sd P n).2 (n:Nat) true).trans ?_)
      unfold arX
      rw [dec_self]
      rfl
    have hL:=lok_hd (c:=bodyOf Tryz.f134) (i:=4) 0 (by kernel_rfl) (by kernel_rfl) (toldF_sound (keep:=keepAr) (τ:=[some 0,some 1]) key)
    refine gspec e_nil (k_cons kS_ok k_nil) Tryz.func134 (by kernel_rfl) (by kernel_rfl) hL rfl ((ar_evA n P (sd P n).1 (sd P n).2 true (n:Nat)).trans ?_)
    rw [mkI_t hn,gate_pos (Sub.refl _)]
    unfold arT
    rw [hl,ixB_t (by omega),bl_t (by omega) (by omega)]
    have e1:cond (eq1 n (sd P n).1) (decide ((sd P n).2 (0+(((n - 1:Nat):Int)).toNat)≤3)) false=arB n P:=by
      unfold arB eq1
      rw [hl,Int.toNat_natCast,Nat.zero_add]
      by_cases c1:(sd P n).1 (n - 1)=(n:Nat)
      · by_cases c2:(sd P n).2 (n - 1)≤3
        · rw [decide_eq_true (show arP n P from ⟨hall,c1,c2⟩),c1,BEq.rfl,decide_eq_true c2]; rfl
        · rw [decide_eq_false (show ¬ arP n P from fun h=>c2 h.2.2),c1,BEq.rfl,decide_eq_false c2]; rfl
      · rw [decide_eq_false (show ¬ arP n P from fun h=>c1 h.2.1),beq_false_of_ne c1]; rfl
    rw [e1]
    rfl
  · obtain ⟨J,hJ⟩:∃ j,j < n∧¬ okJ P j:=Classical.byContradiction fun hc=>hall fun j hj=>Classical.byContradiction fun hk=>hc ⟨j,hj,hk⟩
    obtain ⟨K,hK1,hK2,hK3⟩:=first_of (fun j=>j < n∧¬ okJ P j) J hJ
    have key:Leads Tryz.prog (.loop (loopAt Tryz.f134 0)) (arI n P 0) .ret arE:=by
      refine loop_rule (arI n P) K .ret _ (by simp) (fun j hj=>ar_go hn hP (by omega) (Classical.byContradiction fun hk=>hK3 j hj ⟨by omega,hk⟩)) (ar_stop hn hP hK2.1 hK2.2)
    have hL:=lok_hd (c:=bodyOf Tryz.f134) (i:=4) 0 (by kernel_rfl) (by kernel_rfl) (toldF_sound (keep:=keepAr) (τ:=[some 0,some 1]) key)
    refine gspec e_nil (k_cons kS_ok k_nil) Tryz.func134 (by kernel_rfl) (by kernel_rfl) hL rfl ((ar_evB n P true).trans ?_)
    rw [mkI_t hn,gate_pos (Sub.refl _)]
    unfold arB
    rw [decide_eq_false (show ¬ arP n P from fun h=>hall h.1)]
    rfl
end
end Go.Proofs.YtefphimaggjihaaGreatDoor.Pi

namespace Go.Gv
open Go.RowKit Go.Ev
noncomputable section
def evGWZ (P:Program) (l:List Entry) (ks:List KEntry) (ms:List MEntry) (ws:List WEntry) (rs:List REntry) (L:Nat→Option LFun) (Z:Nat→Option ZFun) (fn:Func) (args:List AV) (mem:List Row) (τ:List (Option Nat)):Option Out:=abodyGZ P (tabW l ks ms ws rs) (drawnK P (tabW l ks ms ws rs)) L Z 40 fn args mem τ
/-- A number in a row of ours, told outright. -/
def zOp (j:Nat) (v:Int):ZFun:=fun s k=>match s.mem[j]? with
  | some (.c (.x (.int .i64 n)::r))=>gate (n=v) (k ⟨s.slots,s.mem.set j (.c (.x (.int .i64 v)::r))⟩)
  | _=>none
theorem zOp_ok {np:Nat} (j:Nat) (v:Int):ZSoundN np (zOp j v):=fun s k r h=>by
  unfold zOp at h
  split at h
  · rename_i n rs hm
    obtain ⟨hp,h⟩:=gate_some h
    subst hp
    have e:s.mem.set j (.c (.x (.int .i64 n)::rs))=s.mem:=by
      obtain ⟨hl,he⟩:=List.getElem?_eq_some_iff.1 hm
      rw [← he]
      exact List.set_getElem_self hl
    rw [e] at h
    exact ⟨s,h,SubN.refl s⟩
  · cases h
end
end Go.Gv
namespace Go.Proofs.YtefphimaggjihaaGreatDoor.Pi
open Go.Shelf Go.RowKit Go.Gv
open Go.Ev (feq)
open Hs (shC)
open Hs.So (Prt prS)
section
variable (L:Nat→List UInt8) (U:Nat→Bool) (l:List UInt8) (b u:Bool)
def iSh (p:Prt):Itm:=.w 92 [.agg p.s] true
def iPart (n:Nat) (P:Nat→Prt) (i:Int):Itm:=.w 135 [prS n P,iA i] true
noncomputable def paW:List WEntry:=[wPut L U,wP 92 true L U,wP 135 true L U]
def Prt.v (p:Prt) (v:Int):List AV:=iA v::iA p.l::iA p.r::p.s
theorem paA (n:Nat) (P:Nat→Prt) (i:Int):evGWZ Tryz.prog [] [] B57 (paW L U) [] noL (oneZ 3 (zOp 2 1)) Tryz.f135 [.own 0 0,prS n P,iA i] (pM l b u) [some 0,some 1,some 6] =
  cond (ixB i n||false) (cond ((P i.toNat).op==0) (chW L U [iSh (P i.toNat)] (pM l b u ++ [.c (P i.toNat).c]) fun _=>none)
    (gate ((P i.toNat).op=1) (chW L U [iPut [[98,111,116,104],[123]],iPart n P (P i.toNat).l,iPart n P (P i.toNat).r,iPut [[125]]] (pM l b u ++ [.c (Prt.v (P i.toNat) 1)]) kF))) none:=by kernel_rfl
theorem paB (n:Nat) (P:Nat→Prt) (i:Int):evGWZ Tryz.prog [] [] B57 (paW L U) [] noL (oneZ 3 (zOp 2 2)) Tryz.f135 [.own 0 0,prS n P,iA i] (pM l b u) [some 0,some 1,some 6] =
  cond (ixB i n||false) (cond ((P i.toNat).op==0) (chW L U [iSh (P i.toNat)] (pM l b u ++ [.c (P i.toNat).c]) fun _=>none)
    (gate ((P i.toNat).op=2) (chW L U [iPut [[101,105,116,104,101,114],[123]],iPart n P (P i.toNat).l,iPart n P (P i.toNat).r,iPut [[125]]] (pM l b u ++ [.c (Prt.v (P i.toNat) 2)]) kF))) none:=by kernel_rfl
theorem paC (n:Nat) (P:Nat→Prt) (i:Int):evGWZ Tryz.prog [] [] B57 (paW L U) [] noL (oneZ 3 (zOp 2 3)) Tryz.f135 [.own 0 0,prS n P,iA i] (pM l b u) [some 0,some 1,some 6] =
  cond (ixB i n||false) (cond ((P i.toNat).op==0) (chW L U [iSh (P i.toNat)] (pM l b u ++ [.c (P i.toNat).c]) fun _=>none)
    (gate ((P i.toNat).op=3) (chW L U [iPut [[108,101,115,115],[123]],iPart n P (P i.toNat).l,iPart n P (P i.toNat).r,iPut [[125]]] (pM l b u ++ [.c (Prt.v (P i.toNat) 3)]) kF))) none:=by kernel_rfl
theorem paL (n:Nat) (P:Nat→Prt) (i:Int):evGWZ Tryz.prog [] [] B57 (paW L U) [] noL (oneZ 3 fun _ _=>none) Tryz.f135 [.own 0 0,prS n P,iA i] (pM l b u) [some 0,some 1,some 3] =
  cond (ixB i n||false) (cond ((P i.toNat).op==0) (chW L U [iSh (P i.toNat)] (pM l b u ++ [.c (P i.toNat).c]) kF) none) none:=by kernel_rfl
end
theorem gspecGWZ {l : List Entry} {ks : List KEntry} {ms : List MEntry} {ws : List WEntry} {rs : List REntry} {L : Nat → Option LFun} {Z : Nat → Option ZFun} (hl : ∀ e, e ∈ l → EOk Tryz.prog e) (hks : ∀ e, e ∈ ks → KOk Tryz.prog e) (hms : ∀ e, e ∈ ms → MEOk Tryz.prog e) (hws : ∀ e, e ∈ ws → WEOk Tryz.prog e) (hrs : ∀ e, e ∈ rs → REOk Tryz.prog e) {f : Nat} {fn : Func} (hf : Tryz.prog.funcs[f]? = some fn) (hnm : (fn.name == "runtime.NumGoroutine") = false) (hb : fn.body = some (bodyOf fn))
    {args:List AV} {mem:List Row} (hZ:∀ i h,Z i=some h→ZSoundN mem.length h) (hL:LOkN mem.length Tryz.prog L (bodyOf fn)) (hlen:Nat.ble args.length fn.ntmps=true) {τ:List (Option Nat)} (hpin:pinT mem.length τ=true) {v:AV} {mem1:List Row} (h:evGWZ Tryz.prog l ks ms ws rs L Z fn args mem τ=gout v mem1):GSpec Tryz.prog f args mem v mem1 :=
  gspec_of_bodyZ (tabW_ok hl hks hms hws hrs) (drawnK_ok (tabW_ok hl hks hms hws hrs) (by kernel_rfl)) 40 hf hnm hb hZ hL hlen hpin h
theorem tks_appT:∀ A B:List (List UInt8),tks true (A ++ B)=tks true A ++ tks true B
  | [],_=>rfl
  | t::r,B=>by rw [tks_app (t::r) B true (by simp)]
section
variable {dc:Int→List UInt8} {tn:Nat→Int} {tb:Nat→Bool}
/-- The tokens of a shape; what of it can't be told. -/
def shT (dc:Int→List UInt8) (tn:Nat→Int) (k:Int) (a:Nat→Nat):List (List UInt8):=if k=1 then shT1 dc tn a else if k=2 then shT2 dc tn a else if k=3 then shT3 dc tn a else if k=4 then shT4 dc tn a else if k=5 then shT5 dc tn a else shT6 dc tn a
def shB (tb:Nat→Bool) (k:Int) (a:Nat→Nat) (sk:Int):Bool:=if k=1 then shB1 tb a sk else if k=2 then shB2 tb a sk else if k=3 then shB3 tb a sk else if k=4 then shB4 tb a sk else if k=5 then shB5 tb a sk else shB6 tb a sk
/-- The numbers of a shape that are told. -/
structure ShN (dc:Int→List UInt8) (tn:Nat→Int) (tb:Nat→Bool) (k:Int) (a:Nat→Nat):Prop where
  kin:1≤k∧k≤6
  h0:NV dc tn tb a 0
  h3:k≠1→NV dc tn tb a 3
  h6:k=3→NV dc tn tb a 6
  h9:k≠2→k≠3→Nu dc tn tb (a 9)
  h10:k=6→Nu dc tn tb (a 10)
theorem pr_shape {k:Int} {a:Nat→Nat} {sk:Int} (h:ShN dc tn tb k a):Pr 92 [.agg (shC k a sk)] (fun b=>tks b (shT dc tn k a)) (shB tb k a sk) true:=by
  have hk:=h.kin
  rcases (show k=1∨k=2∨k=3∨k=4∨k=5∨k=6 by omega) with rfl | rfl | rfl | rfl | rfl | rfl
  · exact pr_sh1 h.h0 (h.h9 (by omega) (by omega))
  · exact pr_sh2 h.h0 (h.h3 (by omega))
  · exact pr_sh3 h.h0 (h.h3 (by omega)) (h.h6 rfl)
  · exact pr_sh4 h.h0 (h.h3 (by omega)) (h.h9 (by omega) (by omega))
  · exact pr_sh5 h.h0 (h.h3 (by omega)) (h.h9 (by omega) (by omega))
  · exact pr_sh6 h.h0 (h.h3 (by omega)) (h.h9 (by omega) (by omega)) (h.h10 rfl)
/-- The word of an operation. -/
def opT (op:Int):List UInt8:=if op=1 then [98,111,116,104] else if op=2 then [101,105,116,104,101,114] else [108,101,115,115]
def paT (dc:Int→List UInt8) (tn:Nat→Int) (P:Nat→Prt):Nat→Nat→List (List UInt8)
  | 0,_=>[]
  | f+1,i=>if (P i).op=0 then shT dc tn (P i).k (P i).a else [opT (P i).op,[123]] ++ (paT dc tn P f (P i).l.toNat ++ (paT dc tn P f (P i).r.toNat ++ [[125]]))
def paBd (tb:Nat→Bool) (P:Nat→Prt):Nat→Nat→Bool
  | 0,_=>false
  | f+1,i=>if (P i).op=0 then shB tb (P i).k (P i).a (P i).sk else paBd tb P f (P i).l.toNat||paBd tb P f (P i).r.toNat
def sPart (dc:Int→List UInt8) (tn:Nat→Int) (tb:Nat→Bool) (n:Nat) (P:Nat→Prt) (f i:Nat):SI:=.w 135 [prS n P,iA (i:Nat)] (fun b=>tks b (paT dc tn P f i)) (paBd tb P f i) true
theorem opT_ne (op:Int):opT op≠[]:=by unfold opT; split<;>(try split)<;>simp
theorem pr_part {n:Nat} {P:Nat→Prt} (hP:PM n P) (hS:∀ i,i < n→(P i).op=0→ShN dc tn tb (P i).k (P i).a):∀ (f i:Nat),i < f→i < n→Pr 135 [prS n P,iA (i:Nat)] (fun b=>tks b (paT dc tn P f i)) (paBd tb P f i) true
  | 0,i,h,_=>absurd h (by omega)
  | f + 1,i,hf,hi=>by
    have hix:=ixB_t (i:=i) hi
    by_cases h0:(P i).op=0
    · have e1:(fun b=>tks b (paT dc tn P (f+1) i))=fun b=>tks b (shT dc tn (P i).k (P i).a):=by funext b; show tks b (if _ then _ else _)=_; rw [if_pos h0]
      have e2:paBd tb P (f+1) i=shB tb (P i).k (P i).a (P i).sk:=by show (if _ then _ else _)=_; rw [if_pos h0]
      rw [e1,e2]
      refine pr_of (bx:=[.c (P i).c]) [.w 92 [.agg (P i).s] (fun b=>tks b (shT dc tn (P i).k (P i).a)) (shB tb (P i).k (P i).a (P i).sk) true] (si_cons ⟨pr_shape (hS i hi h0),fun _=>rfl⟩ si_nil)
        (fun L U l b u h=>gspecGWZ e_nil k_nil B57_ok (w_cons wP_ok (w_cons wP_ok (w_cons wP_ok w_nil))) r_nil Tryz.func135 (by kernel_rfl) (by kernel_rfl) (mem:=pM l b u) (oneZ_ok (fun _ _ _ h=>by cases h)) noL_okN rfl (τ:=[some 0,some 1,some 3]) (by rfl) ((paL L U l b u n P (i:Nat)).trans ?_))
        (by funext b; simp) (by simp) (fun _=>rfl)
      rw [hix,Int.toNat_natCast,h0]
      exact h
    · have hM:=(hP i hi).resolve_left h0
      obtain ⟨hop,⟨l0,l1⟩,r0,r1⟩:=hM
      have hl:(((P i).l.toNat:Nat):Int)=(P i).l:=by omega
      have hr:(((P i).r.toNat:Nat):Int)=(P i).r:=by omega
      have i1:=pr_part hP hS f (P i).l.toNat (by omega) (by omega)
      have i2:=pr_part hP hS f (P i).r.toNat (by omega) (by omega)
      have e1:(fun b=>tks b (paT dc tn P (f+1) i))=fun b=>tks b ([opT (P i).op,[123]] ++ (paT dc tn P f (P i).l.toNat ++ (paT dc tn P f (P i).r.toNat ++ [[125]]))):=by funext b; show tks b (if _ then _ else _)=_; rw [if_neg h0]
      have e2:paBd tb P (f+1) i=(paBd tb P f (P i).l.toNat||paBd tb P f (P i).r.toNat):=by show (if _ then _ else _)=_; rw [if_neg h0]
      rw [e1,e2]
      have hits:∀ x,x ∈ [sPuts [opT (P i).op,[123]],sPart dc tn tb n P f (P i).l.toNat,sPart dc tn tb n P f (P i).r.toNat,sPut [125]]→x.ok :=
        si_cons (sPuts_ok (by simp) (by simp) (ne_c (opT_ne _) <| ne_c (by simp) ne_n)) <| si_cons ⟨i1,fun _=>rfl⟩ <| si_cons ⟨i2,fun _=>rfl⟩ <| si_cons (sPut_ok (by simp)) si_nil
      have hE:comp [sPuts [opT (P i).op,[123]],sPart dc tn tb n P f (P i).l.toNat,sPart dc tn tb n P f (P i).r.toNat,sPut [125]]=fun b=>tks b ([opT (P i).op,[123]] ++ (paT dc tn P f (P i).l.toNat ++ (paT dc tn P f (P i).r.toNat ++ [[125]]))):=by
        funext b
        rw [tks_app _ _ _ (by simp),tks_appT,tks_appT]
        show tks b _ ++ (tks true _ ++ (tks true _ ++ (tks true _ ++ [])))=_
        rw [List.append_nil]
      have hB:cbad [sPuts [opT (P i).op,[123]],sPart dc tn tb n P f (P i).l.toNat,sPart dc tn tb n P f (P i).r.toNat,sPut [125]]=(paBd tb P f (P i).l.toNat||paBd tb P f (P i).r.toNat):=by
        show (false||(_||(_||(false||false))))=_
        simp
      have hmap:∀ w:List UInt8,opT (P i).op=w→List.map SI.itm [sPuts [opT (P i).op,[123]],sPart dc tn tb n P f (P i).l.toNat,sPart dc tn tb n P f (P i).r.toNat,sPut [125]]=[iPut [w,[123]],iPart n P (P i).l,iPart n P (P i).r,iPut [[125]]]:=fun w hw=>by
        show [iPut [opT (P i).op,[123]],iPart n P (((P i).l.toNat:Nat):Int),iPart n P (((P i).r.toNat:Nat):Int),iPut [[125]]]=_
        rw [hw,hl,hr]
      rcases (show (P i).op=1∨(P i).op=2∨(P i).op=3 by omega) with ho | ho | ho
      · refine pr_of (bx:=[.c (Prt.v (P i) 1)]) _ hits (fun L U l b u h=>gspecGWZ e_nil k_nil B57_ok (w_cons wP_ok (w_cons wP_ok (w_cons wP_ok w_nil))) r_nil Tryz.func135 (by kernel_rfl) (by kernel_rfl) (mem:=pM l b u) (oneZ_ok (zOp_ok 2 1)) noL_okN rfl (τ:=[some 0,some 1,some 6]) (by rfl) ((paA L U l b u n P (i:Nat)).trans ?_)) hE hB (fun _=>rfl)
        rw [hix,Int.toNat_natCast,beq_false_of_ne h0,gate_pos ho]
        rw [hmap [98,111,116,104] (by rw [ho]; rfl)] at h
        exact h
      · refine pr_of (bx:=[.c (Prt.v (P i) 2)]) _ hits (fun L U l b u h=>gspecGWZ e_nil k_nil B57_ok (w_cons wP_ok (w_cons wP_ok (w_cons wP_ok w_nil))) r_nil Tryz.func135 (by kernel_rfl) (by kernel_rfl) (mem:=pM l b u) (oneZ_ok (zOp_ok 2 2)) noL_okN rfl (τ:=[some 0,some 1,some 6]) (by rfl) ((paB L U l b u n P (i:Nat)).trans ?_)) hE hB (fun _=>rfl)
        rw [hix,Int.toNat_natCast,beq_false_of_ne h0,gate_pos ho]
        rw [hmap [101,105,116,104,101,114] (by rw [ho]; rfl)] at h
        exact h
      · refine pr_of (bx:=[.c (Prt.v (P i) 3)]) _ hits (fun L U l b u h=>gspecGWZ e_nil k_nil B57_ok (w_cons wP_ok (w_cons wP_ok (w_cons wP_ok w_nil))) r_nil Tryz.func135 (by kernel_rfl) (by kernel_rfl) (mem:=pM l b u) (oneZ_ok (zOp_ok 2 3)) noL_okN rfl (τ:=[some 0,some 1,some 6]) (by rfl) ((paC L U l b u n P (i:Nat)).trans ?_)) hE hB (fun _=>rfl)
        rw [hix,Int.toNat_natCast,beq_false_of_ne h0,gate_pos ho]
        rw [hmap [108,101,115,115] (by rw [ho]; rfl)] at h
        exact h
end
end Go.Proofs.YtefphimaggjihaaGreatDoor.Pi

namespace Go.Proofs.YtefphimaggjihaaGreatDoor.Pi
open Go.Shelf Go.RowKit Go.Gv
open Hs (shC)
open Hs.So (Prt prS soC)
section
variable (L:Nat→List UInt8) (U:Nat→Bool) (l:List UInt8) (b u:Bool) (n:Nat) (P:Nat→Prt) (sn:Int)
def FAr (n:Nat) (P:Nat→Prt) (v:Bool):Prop:=FSpec Tryz.prog 134 [prS n P] (bA v)
def soW:List UInt8:=[115,111,108,105,100]
theorem so_t:evGW Tryz.prog [] [kS Tryz.prog 134 fun _=>bA true] B57 [wPut L U,wP 135 true L U,wNd] [] noL Tryz.f94 [.own 0 0,.agg (soC n P sn)] (pM l b u) [some 0,some 1,some 4] =
  chW L U [iPut [soW],.g (FAr n P true),iPart n P (w64 ((n:Int) - 1))] (pM l b u ++ [.c (soC n P sn)]) kF:=by kernel_rfl
theorem so_f:evGW Tryz.prog [] [kS Tryz.prog 134 fun _=>bA false] B57 [wPut L U,wP 135 true L U,wNd] [] noL Tryz.f94 [.own 0 0,.agg (soC n P sn)] (pM l b u) [some 0,some 1,some 3] =
  chW L U [iPut [soW],.g (FAr n P false),.n false] (pM l b u ++ [.c (soC n P sn)]) kF:=by kernel_rfl
end
section
variable (L:Nat→List UInt8) (U:Nat→Bool) (e:Nat→Nat) (l1:List UInt8)
def eyA (e:Nat→Nat):List AV:=[.f (e 0),.f (e 1),.f (e 2),.f (e 3),.f (e 4),.f (e 5),.f (e 6),.f (e 7),.f (e 8),.f (e 9)]
def eyM (l:List UInt8) (e:Nat→Nat):List Row:=[prR 2 l.length true false,.c (eyA e),bR l]
noncomputable def wPut0:WEntry:=wQ Tryz.prog 87 (fun _ _=>.tup []) (fun _ mem=>cond (Nat.beq mem.length 2) (eyM l1 e) (stp mem (L mem.length) true (U mem.length)))
theorem eye_ev:evGW Tryz.prog [] [] B57 [wPut0 L U e l1,wVc L U,wFl L U,wEnd L U] [] noL Tryz.f86 [.own 0 0,.agg (eyA e)] (pM0 false false) [some 0,some 10] =
  cond (propB (WSpec Tryz.prog 87 [.own 0 0,tokL [[101,121,101]]] (pM0 false false ++ [.c (eyA e)]) (.tup []) (eyM l1 e)))
   (chW L U [iVec (e 0) (e 1) (e 2),iPut [[116,111]],iVec (e 3) (e 4) (e 5),iPut [[117,112]],iVec (e 6) (e 7) (e 8),iPut [[119,105,100,101]],iFl [e 9],iEnd] (eyM l1 e) (fun _=>gout (.tup []) [prR 1 (L 10).length false (U 10),bR (L 10)])) none:=by kernel_rfl
end
section
variable {dc:Int→List UInt8} {tn:Nat→Int} {tb:Nat→Bool}
theorem soW_ne:soW≠[]:=by simp [soW]
/-- The tokens of a solid. -/
noncomputable def soT (dc:Int→List UInt8) (tn:Nat→Int) (n:Nat) (P:Nat→Prt):List (List UInt8):=soW::cond (arB n P) (paT dc tn P n (n - 1)) []
noncomputable def soB (tb:Nat→Bool) (n:Nat) (P:Nat→Prt):Bool:=cond (arB n P) (paBd tb P n (n - 1)) true
theorem pr_solid {n:Nat} {P:Nat→Prt} {sn:Int} (h1:1≤n) (hn:n≤16) (hP:PM n P) (hS:∀ i,i < n→(P i).op=0→ShN dc tn tb (P i).k (P i).a):Pr 94 [.agg (soC n P sn)] (fun b=>tks b (soT dc tn n P)) (soB tb n P) true:=by
  have hA:=asRead_spec h1 hn hP
  have hl:w64 ((n:Int) - 1)=((n - 1:Nat):Int):=by rw [w64_id (by omega) (by omega)]; omega
  unfold soT soB
  cases hv:arB n P
  · rw [hv] at hA
    exact pr_of (bx:=[.c (soC n P sn)]) [sPut soW,.g (FAr n P false),.n false] (si_cons (sPut_ok soW_ne) <| si_cons hA <| si_cons trivial si_nil)
      (fun L U l b u h=>gspecGW e_nil (k_cons kS_ok k_nil) B57_ok (w_cons wP_ok (w_cons wP_ok (w_cons wNd_ok w_nil))) r_nil Tryz.func94 (by kernel_rfl) (by kernel_rfl) (mem:=pM l b u) noL_okN rfl (τ:=[some 0,some 1,some 3]) (by rfl) ((so_f L U l b u n P sn).trans h))
      (by funext b; simp) (by simp) (fun _=>rfl)
  · rw [hv] at hA
    refine pr_of (bx:=[.c (soC n P sn)]) [sPut soW,.g (FAr n P true),sPart dc tn tb n P n (n - 1)] (si_cons (sPut_ok soW_ne) <| si_cons hA <| si_cons ⟨pr_part hP hS n (n - 1) (by omega) (by omega),fun _=>rfl⟩ si_nil)
      (fun L U l b u h=>gspecGW e_nil (k_cons kS_ok k_nil) B57_ok (w_cons wP_ok (w_cons wP_ok (w_cons wNd_ok w_nil))) r_nil Tryz.func94 (by kernel_rfl) (by kernel_rfl) (mem:=pM l b u) noL_okN rfl (τ:=[some 0,some 1,some 4]) (by rfl) ((so_t L U l b u n P sn).trans ?_))
      (by funext b; simp [sPart]) (by simp [sPart]) (fun _=>rfl)
    rw [hl]
    exact h
section
variable (l1 t:List UInt8)
theorem put0_ev:evGW Tryz.prog [] [] [] [wQ Tryz.prog 128 (fun _ _=>wsV (lB t)) (fun _ _=>pM l1 false false)] [] noL Tryz.f87 [.own 0 0,tokL [t]] (pM0 false false) [some 0,some 1] =
  cond (propB (WSpec Tryz.prog 128 [.own 0 0,zA (lB t)] (pM0 false false) (wsV (lB t)) (pM l1 false false))) (gout (.tup []) (pM l1 true false)) none:=by kernel_rfl
end
theorem put0_spec {t:List UInt8} (h0:t≠[]) (ht:t.length≤1000):GSpec Tryz.prog 87 [.own 0 0,tokL [t]] (pM0 false false) (.tup []) (pM t true false):=by
  have hw:WSpec Tryz.prog 128 [.own 0 0,zA (lB t)] (pM0 false false) (wsV (lB t)) (pM t false false):=by
    have:=ws_fresh (b:=false) (u:=false) (s:=lB t) (List.length_pos_iff.2 h0) (by rw [lB_size]; omega)
    rw [bL_lB] at this
    exact wspec_of this
  refine gspecGW e_nil k_nil m_nil (w_cons wQ_ok w_nil) r_nil Tryz.func87 (by kernel_rfl) (by kernel_rfl) (mem:=pM0 false false) noL_okN rfl (τ:=[some 0,some 1]) (by rfl) ((put0_ev t t).trans ?_)
  rw [propB_t hw]
  rfl
def eyW:List UInt8:=[101,121,101]
theorem put0_lift (e:Nat→Nat):WSpec Tryz.prog 87 [.own 0 0,tokL [eyW]] (pM0 false false ++ [.c (eyA e)]) (.tup []) (eyM eyW e):=by
  refine wframe (v:=.tup []) (put0_spec (t:=eyW) (by simp [eyW]) (by simp [eyW])) [0] rfl rfl rfl (fun i j hi=>?_) ⟨fun j hj hl=>?_,fun i j r hi hr=>?_,fun i r hi hr=>?_⟩
  · match i,hi with
    | 0,hi=>simp at hi; subst hi; exact ⟨_,rfl,rfl,rfl⟩
    | n+1,hi=>simp at hi
  · match j,hj,hl with
    | 0,hj,_=>exact absurd (by simp) hj
    | 1,_,_=>rfl
    | n+2,_,hl=>exact absurd hl (by show ¬ n+2 < 2; omega)
  · match i,hi with
    | 0,hi=>simp at hi; subst hi; cases hr; rfl
    | n+1,hi=>simp at hi
  · match i,hi,hr with
    | 0,hi,_=>exact absurd hi (by show ¬ 1≤0; omega)
    | 1,_,hr=>cases hr; rfl
    | n+2,_,hr=>cases hr
/-- The tokens of an eye. -/
def eyT (dc:Int→List UInt8) (tn:Nat→Int) (e:Nat→Nat):List (List UInt8):=eyW::(vT dc tn e 0 ++ ([116,111]::(vT dc tn e 3 ++ ([117,112]::(vT dc tn e 6 ++ [[119,105,100,101],ntk dc tn (e 9)])))))
def eyB (tb:Nat→Bool) (e:Nat→Nat):Bool:=vB tb e 0||(vB tb e 3||(vB tb e 6||!(tb (e 9))))
def eyI (dc:Int→List UInt8) (tn:Nat→Int) (tb:Nat→Bool) (e:Nat→Nat):List SI:=[sVec dc tn tb e 0,sPut [116,111],sVec dc tn tb e 3,sPut [117,112],sVec dc tn tb e 6,sPut [119,105,100,101],sFl dc tn tb (e 9),sEnd]
theorem eye_spec {e:Nat→Nat} (h0:NV dc tn tb e 0) (h3:NV dc tn tb e 3) (h6:NV dc tn tb e 6) (h9:Nu dc tn tb (e 9)) (hl:(lineE false (eyT dc tn e)).length≤900000):GSpec Tryz.prog 86 [.own 0 0,.agg (eyA e)] (pM0 false false) (.tup []) (pM (lineE false (eyT dc tn e)) false (eyB tb e)):=by
  have hE:eyW ++ comp (eyI dc tn tb e) true=lineE false (eyT dc tn e):=by simp [lineE,eyI,eyT,vT]
  have hB:cbad (eyI dc tn tb e)=eyB tb e:=by simp [eyI,eyB]
  have hI:Inv (eyM eyW e) eyW true false:=⟨by show 0 < 2; omega,rfl,rfl⟩
  have hlen:eyW.length+(comp (eyI dc tn tb e) true).length≤900000:=by rw [← List.length_append,hE]; exact hl
  obtain ⟨m',h1,h2⟩:=chW_run (eyI dc tn tb e) (LU (eyI dc tn tb e) eyW true false) 3 (eyM eyW e) eyW true false (fun _=>gout (.tup []) [prR 1 ((LU (eyI dc tn tb e) eyW true false).getD (10 - 3) ([],false)).1.length false ((LU (eyI dc tn tb e) eyW true false).getD (10 - 3) ([],false)).2,bR ((LU (eyI dc tn tb e) eyW true false).getD (10 - 3) ([],false)).1]) hI (by show 3≤3; omega) (fun i _=>by show _=_; rw [show (eyM eyW e).length - 3+i=i by show 3 - 3+i=i; omega])
    (si_cons (sVec_ok h0) <| si_cons (sPut_ok (by simp)) <| si_cons (sVec_ok h3) <| si_cons (sPut_ok (by simp)) <| si_cons (sVec_ok h6) <| si_cons (sPut_ok (by simp)) <| si_cons (sFl_ok h9) <| si_cons sEnd_ok si_nil) (by omega)
  have e7:(LU (eyI dc tn tb e) eyW true false).getD (10 - 3) ([],false)=(eyW ++ comp (eyI dc tn tb e) true,cbad (eyI dc tn tb e)):=by
    simp [LU,eyI,Bool.or_assoc]
  rw [e7,hE,hB] at h2
  refine gspecGW e_nil k_nil B57_ok (w_cons wQ_ok (w_cons wP_ok (w_cons wP_ok (w_cons wP_ok w_nil)))) r_nil Tryz.func86 (by kernel_rfl) (by kernel_rfl) (mem:=pM0 false false) noL_okN rfl (τ:=[some 0,some 10]) (by rfl) ((eye_ev (fun n=>((LU (eyI dc tn tb e) eyW true false).getD (n - 3) ([],false)).1) (fun n=>((LU (eyI dc tn tb e) eyW true false).getD (n - 3) ([],false)).2) e eyW).trans ?_)
  have hp:WSpec Tryz.prog 87 [.own 0 0,tokL [[101,121,101]]] (pM0 false false ++ [.c (eyA e)]) (.tup []) (eyM eyW e):=put0_lift e
  rw [propB_t hp,e7,hE,hB]
  exact h2
end
end Go.Proofs.YtefphimaggjihaaGreatDoor.Pi

namespace Go.Gv
open Go.RowKit Go.Ev
noncomputable section

/-- In whatever order the operations are taken, what is known in the end is told by K. -/
def AnyS (P:Program) (T:Tab) (ops:Array Oper) (K:St→Prop):Nat→Array Bool→St→Prop
  | 0,listed,s=>Region.ready .any ops listed=[]∧K s
  | fuel+1,listed,s=>(Region.ready .any ops listed=[]→K s)∧∀ i,i ∈ Region.ready .any ops listed→∃ o s1,ops[i]?=some o∧AStep P T ops.toList s o s1∧AnyS P T ops K fuel (listed.setIfInBounds i true) s1
section
variable {P:Program} {T:Tab} {ops:Array Oper} {Q:Exit→Act→World→Prop} {A0 R:Nat→Prop} {w0:Env}
theorem any_wp (hT:TOk P T) {K:St→Prop} (hQ:∀ (E:Env) (a:Act) (s':St),K s'→Inv A0 R w0 E s' a→Q .normal a E.w):∀ (fuel:Nat) (listed:Array Bool) (E:Env) (s:St) (a:Act),Inv A0 R w0 E s a→AnyS P T ops K fuel listed s→wpAny P .any ops Q fuel listed a E.w
  | 0,listed,E,s,a,hI,h=>⟨h.1,hQ E a s h.2 hI⟩
  | fuel+1,listed,E,s,a,hI,h=>by
    refine ⟨fun h0=>hQ E a s (h.1 h0) hI,fun i hi=>?_⟩
    obtain ⟨o,s1,ho,hs,h4⟩:=h.2 i hi
    have go:∀ K':Act→World→Prop,(∀ E' a',Inv A0 R w0 E' s1 a'→K' a' E'.w)→if Region.wanted o (yielded ops a.tmps) then o.wp P a E.w K' Q else K' (a.put o.dst undef) E.w:=fun K' hK=>by
      rcases hs with (⟨v,mem1,h1,h2,rfl⟩ | ⟨v,rows,h1,h2,rfl⟩ | ⟨g,c,v,h1,h2,h3,h5,rfl⟩ | ⟨b,c,eff,h1,h2,h3,rfl⟩) | ⟨b,c,eff,h1,h2,h3⟩
      · exact wstep_wp hT hI h1 h2 K' hK
      · exact nstep_wp hT hI h1 h2 K' hK
      · exact lstep_wp hT hI h1 h2 h3 h5 K' hK
      · exact astep_wp hT.flat hI h1 h2 h3 K' hK
      · exact fstep_wp hT hI h1 h2 h3 K' hK
    have g:=go (wpAny P .any ops Q fuel (listed.setIfInBounds i true)) fun E' a' hI'=>any_wp hT hQ fuel _ E' s1 a' hI' h4
    unfold wpOp
    rw [ho]
    simp only
    split
    · rename_i hw
      rw [if_pos hw] at g
      exact Or.inl g
    · rename_i hw
      rw [if_neg hw] at g
      exact g
end
theorem Inv.drew {A0 R:Nat→Prop} {w0:Env} {E:Env} {s:St} {a:Act} (hI:Inv A0 R w0 E s a):Inv A0 R w0 { E with w:=E.w.drew } s a:=by
  obtain ⟨hwd,hle⟩:=hI.wd.on (w':=E.w.drew) (Below.refl _ _).drew
  exact ⟨hI.defers,frel_le hle hI.frame,hwd⟩
/-- A region that draws its order leads from what is known to what is known. -/
def RegOk (P:Program) (ops:Array Oper) (s0 s1:St):Prop:=∀ (A0 R:Nat→Prop) (w0:Env) (E:Env) (a:Act) (id:Nat) (Q:Exit→Act→World→Prop),Inv A0 R w0 E s0 a→(∀ E' a',Inv A0 R w0 E' (clr s1) a'→Q .normal a' E'.w)→(Code.region id ops true).wp P Q a E.w
theorem reg_any {P:Program} {T:Tab} {ops:Array Oper} {s s1:St} (hT:TOk P T) (hm:P.follows .mixedOrders=true) (h:AnyS P T ops (fun s'=>clr s'=clr s1) ops.size (Array.replicate ops.size false) s):RegOk P ops s s1:=fun A0 R w0 E a id Q hI hQ=>by
  refine wp_region_any hm ?_
  refine any_wp (w0:=w0) (A0:=A0) (R:=R) hT (fun E' a' s' hs hI'=>?_) ops.size _ { E with w:=E.w.drew } s a hI.drew h
  refine hQ E' a' ?_
  rw [← hs]
  exact hI'.clear
/-- One step, out of an evaluation. -/
theorem astep_of {P:Program} {T:Tab} {ops:List Oper} {o:Oper} {s s1:St} (hT:TPar T) (h:aopsK P T ops [o] s (fun s'=>some ⟨.normal,s',.any⟩)=some ⟨.normal,s1,.any⟩):AStep P T ops s o s1:=by
  obtain ⟨s',⟨s2,h1,h2⟩,h3,_⟩:=aopsK_some hT h
  have e:s2=s':=h2
  subst e
  simp only [Option.some.injEq,Out.mk.injEq,and_true,true_and] at h3
  subst h3
  exact h1
def fstD (ops:List Oper):Option Nat:=match ops with
  | o::_=>o.dst
  | []=>none
def toldD (d:Nat) (ops0:List Oper) (s0 s1:St) (D:List Oper→St→SK→Option Out):List Oper→St→SK→Option Out:=fun ops s k=>match fstD ops with
  | some d'=>cond (Nat.beq d' d) (gate (ops=ops0∧s=s0) (k s1)) (D ops s k)
  | none=>D ops s k
theorem toldD_ok {P:Program} {d:Nat} {ops0:Array Oper} {s0 s1:St} {D:List Oper→St→SK→Option Out} (hD:DOk P D) (h:RegOk P ops0 s0 s1):DOk P (toldD d ops0.toList s0 s1 D):=by
  have get:∀ {ops s k r},toldD d ops0.toList s0 s1 D ops s k=some r→(D ops s k=some r∧∀ k',toldD d ops0.toList s0 s1 D ops s k'=D ops s k')∨(ops=ops0.toList∧s=s0∧k s1=some r∧∀ k',toldD d ops0.toList s0 s1 D ops s k'=k' s1):=fun {ops s k r} hr=>by
    unfold toldD at hr ⊢
    split at hr
    · rename_i d' hd
      cases hb:Nat.beq d' d
      · rw [hb] at hr
        exact Or.inl ⟨hr,fun k'=>by simp only [cond_false]⟩
      · rw [hb] at hr
        obtain ⟨⟨g1,g2⟩,g3⟩:=gate_some hr
        exact Or.inr ⟨g1,g2,g3,fun k'=>by simp only [cond_true]; rw [gate_pos ⟨g1,g2⟩]⟩
    · exact Or.inl ⟨hr,fun k'=>rfl⟩
  constructor
  · intro ops s k r hr
    rcases get hr with ⟨g1,g2⟩ | ⟨_,_,g3,g4⟩
    · obtain ⟨s',h1,h2⟩:=hD.1 ops s k r g1
      exact ⟨s',h1,fun k'=>by rw [g2]; exact h2 k'⟩
    · exact ⟨s1,g3,g4⟩
  · intro A0 R w0 E s s' a id ops Q hI hk hQ
    have h0:=hk fun s=>some ⟨.normal,s,.any⟩
    rcases get h0 with ⟨_,g2⟩ | ⟨g1,g2,g3,_⟩
    · exact hD.2 A0 R w0 E s s' a id ops Q hI (fun k'=>by rw [← g2]; exact hk k') hQ
    · simp only [Option.some.injEq,Out.mk.injEq,and_true,true_and] at g3
      subst g3
      have e:ops=ops0:=Array.toList_inj.1 g1
      subst e g2
      exact h A0 R w0 E a id Q hI hQ
end
end Go.Gv

namespace Go.Gv
open Go.RowKit Go.Ev
noncomputable section

/-- The operations that must be done ahead of one. -/
def depsOf (ops:Array Oper) (i:Nat):List Nat:=match ops[i]? with
  | some o=>(o.after.toList.filter fun e=>Region.binds .any e).map (·.on)
  | none=>[]
theorem ready_in {ops:Array Oper} {listed:Array Bool} {i:Nat} (h:i ∈ Region.ready .any ops listed) (hs:listed.size=ops.size):i < ops.size∧listed.toList[i]?=some false∧∀ d,d ∈ depsOf ops i→listed.toList[d]?=some true:=by
  unfold Region.ready at h
  obtain ⟨h1,h2⟩:=List.mem_filter.1 h
  have hi:i < ops.size:=List.mem_range.1 h1
  simp only [Bool.and_eq_true,Bool.not_eq_true'] at h2
  obtain ⟨h3,h4⟩:=h2
  have hil:i < listed.size:=by omega
  refine ⟨hi,?_,fun d hd=>?_⟩
  · rw [Array.getElem?_toList,Array.getElem?_eq_getElem hil]
    simpa [Array.getD,hil] using h3
  · unfold depsOf at hd
    rw [Array.getElem?_eq_getElem hi] at hd h4
    simp only [Option.map_some,Option.getD_some] at h4
    obtain ⟨e,he,rfl⟩:=List.mem_map.1 hd
    obtain ⟨he1,he2⟩:=List.mem_filter.1 he
    have:=Array.all_eq_true'.1 h4 e (by simpa using he1)
    rw [he2] at this
    simp only [Bool.not_true,Bool.false_or] at this
    by_cases hl:e.on < listed.size
    · rw [Array.getElem?_toList,Array.getElem?_eq_getElem hl]
      simpa [Array.getD,hl] using this
    · simp [Array.getD,hl] at this
theorem ready_least {ops:Array Oper} {listed:Array Bool} (hs:listed.size=ops.size) (hlow:∀ i,i < ops.size→∀ d,d ∈ depsOf ops i→d < i) (h:Region.ready .any ops listed=[]):∀ i,i < ops.size→listed.toList[i]?=some true:=by
  intro i
  induction i using Nat.strongRecOn with
  | ind i ih =>
    intro hi
    have hil:i < listed.size:=by omega
    rw [Array.getElem?_toList,Array.getElem?_eq_getElem hil]
    cases hb:listed[i] with
    | true=>rfl
    | false =>
      have hm:i ∈ Region.ready .any ops listed:=by
        unfold Region.ready
        refine List.mem_filter.2 ⟨List.mem_range.2 hi,?_⟩
        simp only [Bool.and_eq_true,Bool.not_eq_true']
        refine ⟨by simp [Array.getD,hil,hb],?_⟩
        rw [Array.getElem?_eq_getElem hi]
        simp only [Option.map_some,Option.getD_some]
        refine Array.all_eq_true'.2 fun e he=>?_
        cases hbd:Region.binds .any e
        · rfl
        · have hd:e.on ∈ depsOf ops i:=by
            unfold depsOf
            rw [Array.getElem?_eq_getElem hi]
            exact List.mem_map.2 ⟨e,List.mem_filter.2 ⟨by simpa using he,hbd⟩,rfl⟩
          have hlt:=hlow i hi _ hd
          have:=ih e.on hlt (by omega)
          rw [Array.getElem?_toList,Array.getElem?_eq_getElem (by omega)] at this
          simp only [Option.some.injEq] at this
          simp [Array.getD,show e.on < listed.size by omega,this]
      rw [h] at hm
      cases hm
theorem anyS_fun {P:Program} {T:Tab} {ops:Array Oper} {K:St→Prop} (st:List Bool→St) (hlow:∀ i,i < ops.size→∀ d,d ∈ depsOf ops i→d < i)
    (hstep:∀ (bs:List Bool) (i:Nat),bs.length=ops.size→i < ops.size→bs[i]?=some false→(∀ d,d ∈ depsOf ops i→bs[d]?=some true)→∃ o,ops[i]?=some o∧AStep P T ops.toList (st bs) o (st (bs.set i true)))
    (hend:K (st (List.replicate ops.size true))):∀ (fuel:Nat) (listed:Array Bool),listed.size=ops.size→listed.toList.count false≤fuel→AnyS P T ops K fuel listed (st listed.toList):=by
  have done:∀ listed:Array Bool,listed.size=ops.size→(∀ i,i < ops.size→listed.toList[i]?=some true)→listed.toList=List.replicate ops.size true:=fun listed hs h=>by
    apply List.ext_getElem?
    intro i
    by_cases hi:i < ops.size
    · rw [h i hi,List.getElem?_replicate,if_pos hi]
    · rw [List.getElem?_eq_none (by simp; omega),List.getElem?_eq_none (by simp; omega)]
  intro fuel
  induction fuel with
  | zero =>
    intro listed hs hc
    have hall:∀ i,i < ops.size→listed.toList[i]?=some true:=fun i hi=>by
      rw [List.getElem?_eq_getElem (by simp; omega)]
      cases hb:listed.toList[i]'(by simp; omega) with
      | true=>rfl
      | false =>
        have:false ∈ listed.toList:=by rw [← hb]; exact List.getElem_mem _
        have:=List.count_pos_iff.2 this
        omega
    refine ⟨?_,by rw [done listed hs hall]; exact hend⟩
    cases hr:Region.ready .any ops listed with
    | nil=>rfl
    | cons i r =>
      obtain ⟨h1,h2,_⟩:=ready_in (i:=i) (by rw [hr]; simp) hs
      rw [hall i h1] at h2
      cases h2
  | succ fuel ih =>
    intro listed hs hc
    refine ⟨fun h0=>by rw [done listed hs (ready_least hs hlow h0)]; exact hend,fun i hi=>?_⟩
    obtain ⟨h1,h2,h3⟩:=ready_in hi hs
    obtain ⟨o,ho,hA⟩:=hstep listed.toList i (by simpa using hs) h1 h2 h3
    have e:(listed.setIfInBounds i true).toList=listed.toList.set i true:=by simp
    refine ⟨o,_,ho,hA,?_⟩
    rw [← e]
    refine ih _ (by simpa using hs) ?_
    rw [e]
    have hl:i < listed.toList.length:=by simpa [hs] using h1
    have hb:listed.toList[i]=false:=by rw [List.getElem?_eq_getElem hl] at h2; simpa using h2
    have hp:0 < listed.toList.count false:=List.count_pos_iff.2 (by rw [← hb]; exact List.getElem_mem hl)
    rw [List.count_set hl,hb]
    show listed.toList.count false - 1+0≤fuel
    omega
end
end Go.Gv

namespace Go.Proofs.YtefphimaggjihaaGreatDoor.Pi
open Go.Shelf Go.RowKit Go.Gv

/-- The operations of a region. -/
def opsAt:Code→Nat→Option (Array Oper)
  | .region id ops _,i=>cond (Nat.beq id i) (some ops) none
  | .seq a b,i=>match opsAt a i with
    | some o=>some o
    | none=>opsAt b i
  | .loop c,i=>opsAt c i
  | .cond _ a b,i=>match opsAt a i with
    | some o=>some o
    | none=>opsAt b i
  | _,_=>none
noncomputable def fdO:Array Oper:=((opsAt (bodyOf Tryz.f95) 1).getD #[])
theorem fdO_size:fdO.size=9:=by kernel_rfl
def mkV (n:Nat) (l:List (Nat × AV)) (mem:List Row):St:=⟨(List.range n).map fun i=>(match l.find? (fun p=>Nat.beq p.1 i) with
  | some p=>p.2
  | none=>.x undef,[]),mem⟩
def cb (b:Bool) (v:AV):AV:=cond b v (.x undef)
def stK:SK:=fun s'=>some ⟨.normal,s',.any⟩
section
variable (L:Nat→List UInt8) (U:Nat→Bool) (l:List UInt8) (b u:Bool) (F:Hs.Fm.Fd)
def fdW:List (List UInt8):=[[102,105,101,108,100],Lib.itoa F.W,Lib.itoa F.H,[97,116]]
def fdM:List Row:=pM l b u ++ [.c F.c]
noncomputable def fdTb:Tab:=tabW [] [kIt] B57 [wPut L U,wVc L U,wFl L U] []
def fdM1:List Row:=stp (fdM l b u F) (L 3) true (U 3)
def fdV (b0 b1 b2 b3 b4 b5 b6 b7 b8:Bool):St:=mkV 43 [(0,.own 0 0),(1,.agg F.c),(3,.own 2 0),(6,cb b0 (.own 0 0)),(7,cb b1 (.own 2 0)),(8,cb b2 (iA F.W)),(9,cb b3 (zA (lB (Lib.itoa F.W)))),(10,cb b4 (.own 2 1)),(11,cb b5 (iA F.H)),(12,cb b6 (zA (lB (Lib.itoa F.H)))),(13,cb b7 (tokL (fdW F))),(14,cb b8 (.tup []))] (cond b8 (fdM1 L U l b u F) (fdM l b u F))
noncomputable def fdX (i : Nat) (s : St) : Option Out := aopsK Tryz.prog (fdTb L U) fdO.toList [(fdO[i]?).getD ⟨none, .move (.const undef), 0, "", #[], none⟩] s stK
theorem fx0 (b1 b2 b3 b4 b5 b6 b7 b8:Bool):fdX L U 0 (fdV L U l b u F false b1 b2 b3 b4 b5 b6 b7 b8)=some ⟨.normal,fdV L U l b u F true b1 b2 b3 b4 b5 b6 b7 b8,.any⟩:=by cases b8<;>kernel_rfl
theorem fx1 (b0 b2 b3 b4 b5 b6 b7 b8:Bool):fdX L U 1 (fdV L U l b u F b0 false b2 b3 b4 b5 b6 b7 b8)=some ⟨.normal,fdV L U l b u F b0 true b2 b3 b4 b5 b6 b7 b8,.any⟩:=by cases b8<;>kernel_rfl
theorem fx2 (b0 b3 b4 b5 b6 b7 b8:Bool):fdX L U 2 (fdV L U l b u F b0 true false b3 b4 b5 b6 b7 b8)=some ⟨.normal,fdV L U l b u F b0 true true b3 b4 b5 b6 b7 b8,.any⟩:=by cases b8<;>kernel_rfl
theorem fx3 (b0 b1 b4 b5 b6 b7 b8:Bool):fdX L U 3 (fdV L U l b u F b0 b1 true false b4 b5 b6 b7 b8)=gate (FIt F.W) (some ⟨.normal,fdV L U l b u F b0 b1 true true b4 b5 b6 b7 b8,.any⟩):=by kernel_rfl
theorem fx4 (b0 b1 b2 b3 b5 b6 b7 b8:Bool):fdX L U 4 (fdV L U l b u F b0 b1 b2 b3 false b5 b6 b7 b8)=some ⟨.normal,fdV L U l b u F b0 b1 b2 b3 true b5 b6 b7 b8,.any⟩:=by cases b8<;>kernel_rfl
theorem fx5 (b0 b1 b2 b3 b6 b7 b8:Bool):fdX L U 5 (fdV L U l b u F b0 b1 b2 b3 true false b6 b7 b8)=some ⟨.normal,fdV L U l b u F b0 b1 b2 b3 true true b6 b7 b8,.any⟩:=by cases b8<;>kernel_rfl
theorem fx6 (b0 b1 b2 b4 b7 b8:Bool):fdX L U 6 (fdV L U l b u F b0 b1 b2 true b4 true false b7 b8)=gate (FIt F.H) (some ⟨.normal,fdV L U l b u F b0 b1 b2 true b4 true true b7 b8,.any⟩):=by kernel_rfl
theorem fx7 (b0 b1 b2 b4 b5 b8:Bool):fdX L U 7 (fdV L U l b u F b0 b1 b2 true b4 b5 true false b8)=some ⟨.normal,fdV L U l b u F b0 b1 b2 true b4 b5 true true b8,.any⟩:=by cases b8<;>kernel_rfl
theorem fx8 (b1 b2 b3 b4 b5:Bool):fdX L U 8 (fdV L U l b u F true b1 b2 b3 b4 b5 true true false)=cond (propB (WSpec Tryz.prog 87 [.own 0 0,tokL (fdW F)] (fdM l b u F) (.tup []) (fdM1 L U l b u F))) (some ⟨.normal,fdV L U l b u F true b1 b2 b3 b4 b5 true true true,.any⟩) none:=by kernel_rfl
end
section
variable (L:Nat→List UInt8) (U:Nat→Bool) (l l1 l2:List UInt8) (b u:Bool) (F:Hs.Fm.Fd) (i:Int) (dc:Int→List UInt8)
def fdS (mem:List Row):St:=mkS 43 [(0,.own 0 0),(31,.sl 1 F.n fun i=>[iA (F.hs i)]),(32,iA (F.n:Nat)),(33,iA i)] mem
def keepFd:List Nat:=[0,31,32,33]
noncomputable def flC (x:Option Out) (y:Option Out):Option Out:=cond (decide (i < (F.n:Nat))) (cond (ixB i F.n||false) (gate (FDc dc (F.hs i.toNat)) (cond (propB (WSpec Tryz.prog 87 [.own 0 0,tokL [dc (F.hs i.toNat)]] (pM2 l true u) (.tup []) (stp (pM2 l true u) l1 true u))) x none)) none) y
noncomputable def flW:List WEntry:=[wQ Tryz.prog 87 (fun _ _=>.tup []) (fun _ mem=>stp mem l1 true u)]
theorem fl_step:evCW Tryz.prog [] [kDc dc] B57 (flW l1 u) [] noL (loopAt Tryz.f95 0) (fdS F i (pM2 l true u)) (finN keepFd [some 0,some 1,some 3])=flC l l1 u F i dc (some ⟨.normal,fdS F (w64 (i+1)) (pM2 l1 true u),.any⟩) none:=by kernel_rfl
theorem fl_end:evCW Tryz.prog [] [kDc dc] B57 (flW l1 u) [] noL (loopAt Tryz.f95 0) (fdS F i (pM2 l true u)) (finE keepFd [some 0,some 1,some 2])=flC l l1 u F i dc none (some ⟨.exit 0,fdS F i (pM2 l true u),.any⟩):=by kernel_rfl
noncomputable def evGWD (P:Program) (l:List Entry) (ks:List KEntry) (ms:List MEntry) (ws:List WEntry) (rs:List REntry) (d:Nat) (ops0:List Oper) (s0 s1:St) (L:Nat→Option LFun) (fn:Func) (args:List AV) (mem:List Row) (τ:List (Option Nat)):Option Out:=abodyG P (tabW l ks ms ws rs) (toldD d ops0 s0 s1 (drawnK P (tabW l ks ms ws rs))) L 40 fn args mem τ
abbrev fdZ0:St:=fdV L U l b u F false false false false false false false false false
abbrev fdZ1:St:=fdV L U l b u F true true true true true true true true true
theorem fd_ev:evGWD Tryz.prog [] [kIt] B57 [wPut L U,wVc L U,wFl L U] [] 6 fdO.toList (fdZ0 L U l b u F) (fdZ1 L U l b u F) (oneL 7 (toldP 2 keepFd [some 0,some 1,some 7] (fdS F 0 (pM2 (L 7) true (U 7))) (.exit 0) (fdS F (F.n:Nat) (pM2 l2 true (U 7))))) Tryz.f95 [.own 0 0,.agg F.c] (pM l b u) [some 0,some 1,some 2] =
  gate (fdO.toList=fdO.toList∧fdZ0 L U l b u F=fdZ0 L U l b u F) (chW L U [iVec (F.at_ 0) (F.at_ 1) (F.at_ 2),iPut [[115,105,100,101]],iFl [F.sd],iPut [[104,105,103,104]]] (fdM1 L U l b u F) fun _=>gate (SubN 2 (fdS F 0 (pM2 (L 7) true (U 7))) (fdS F 0 (pM2 (L 7) true (U 7)))) (gout (.tup []) (pM2 l2 true (U 7)))):=by kernel_rfl
end
theorem fdd0:depsOf fdO 0=[]:=by kernel_rfl
theorem fdd1:depsOf fdO 1=[]:=by kernel_rfl
theorem fdd2:depsOf fdO 2=[1]:=by kernel_rfl
theorem fdd3:depsOf fdO 3=[2]:=by kernel_rfl
theorem fdd4:depsOf fdO 4=[]:=by kernel_rfl
theorem fdd5:depsOf fdO 5=[4]:=by kernel_rfl
theorem fdd6:depsOf fdO 6=[5,3]:=by kernel_rfl
theorem fdd7:depsOf fdO 7=[3,6]:=by kernel_rfl
theorem fdd8:depsOf fdO 8=[0,7,6]:=by kernel_rfl
section
variable {L:Nat→List UInt8} {U:Nat→Bool} {l:List UInt8} {b u:Bool} {F:Hs.Fm.Fd}
def fdSt (L:Nat→List UInt8) (U:Nat→Bool) (l:List UInt8) (b u:Bool) (F:Hs.Fm.Fd):List Bool→St
  | [b0,b1,b2,b3,b4,b5,b6,b7,b8]=>fdV L U l b u F b0 b1 b2 b3 b4 b5 b6 b7 b8
  | _=>fdV L U l b u F false false false false false false false false false
theorem fdTb_ok:TOk Tryz.prog (fdTb L U):=tabW_ok e_nil (k_cons kS_ok k_nil) B57_ok (w_cons wP_ok (w_cons wP_ok (w_cons wP_ok w_nil))) r_nil
theorem fd_get {i : Nat} (h : i < 9) : fdO[i]? = some ((fdO[i]?).getD ⟨none, .move (.const undef), 0, "", #[], none⟩) := by
  rw [Array.getElem?_eq_getElem (by rw [fdO_size]; exact h)]
  rfl
theorem fd_reg (h1:FIt F.W) (h2:FIt F.H) (h3:WSpec Tryz.prog 87 [.own 0 0,tokL (fdW F)] (fdM l b u F) (.tup []) (fdM1 L U l b u F)):RegOk Tryz.prog fdO (fdZ0 L U l b u F) (fdZ1 L U l b u F):=by
  have st : ∀ {i : Nat} {s s1 : St}, fdX L U i s = some ⟨.normal, s1, .any⟩ → AStep Tryz.prog (fdTb L U) fdO.toList s ((fdO[i]?).getD ⟨none, .move (.const undef), 0, "", #[], none⟩) s1 := fun h => astep_of fdTb_ok.par h
  refine reg_any (T:=fdTb L U) fdTb_ok (by kernel_rfl) ?_
  have hlow:∀ i,i < fdO.size→∀ d,d ∈ depsOf fdO i→d < i:=fun i hi d hd=>by
    rw [fdO_size] at hi
    match i,hi with
    | 0,_=>rw [fdd0] at hd; cases hd
    | 1,_=>rw [fdd1] at hd; cases hd
    | 2,_=>rw [fdd2] at hd; simp at hd; omega
    | 3,_=>rw [fdd3] at hd; simp at hd; omega
    | 4,_=>rw [fdd4] at hd; cases hd
    | 5,_=>rw [fdd5] at hd; simp at hd; omega
    | 6,_=>rw [fdd6] at hd; simp at hd; omega
    | 7,_=>rw [fdd7] at hd; simp at hd; omega
    | 8,_=>rw [fdd8] at hd; simp at hd; omega
    | n+9,hi=>exact absurd hi (by omega)
  have:=anyS_fun (P:=Tryz.prog) (T:=fdTb L U) (ops:=fdO) (K:=fun s'=>clr s'=clr (fdZ1 L U l b u F)) (fdSt L U l b u F) hlow (fun bs i hl hi hb hd=>?_) (by rw [fdO_size]; rfl) fdO.size (Array.replicate fdO.size false) (by simp) (by rw [fdO_size]; decide)
  · rw [fdO_size] at this ⊢
    exact this
  · rw [fdO_size] at hl hi
    match bs,hl with
    | [b0,b1,b2,b3,b4,b5,b6,b7,b8],_ =>
      refine ⟨_,fd_get hi,?_⟩
      match i,hi,hb,hd with
      | 0,_,hb,hd =>
        simp at hb
        subst hb
        exact st (fx0 L U l b u F _ _ _ _ _ _ _ _)
      | 1,_,hb,hd =>
        simp at hb
        subst hb
        exact st (fx1 L U l b u F _ _ _ _ _ _ _ _)
      | 2,_,hb,hd =>
        simp at hb
        have d1:=hd 1 (by rw [fdd2]; simp)
        simp at d1
        subst hb d1
        exact st (fx2 L U l b u F _ _ _ _ _ _ _)
      | 3,_,hb,hd =>
        simp at hb
        have d2:=hd 2 (by rw [fdd3]; simp)
        simp at d2
        subst hb d2
        refine st ((fx3 L U l b u F _ _ _ _ _ _ _).trans ?_)
        rw [gate_pos h1]
        rfl
      | 4,_,hb,hd =>
        simp at hb
        subst hb
        exact st (fx4 L U l b u F _ _ _ _ _ _ _ _)
      | 5,_,hb,hd =>
        simp at hb
        have d4:=hd 4 (by rw [fdd5]; simp)
        simp at d4
        subst hb d4
        exact st (fx5 L U l b u F _ _ _ _ _ _ _)
      | 6,_,hb,hd =>
        simp at hb
        have d5:=hd 5 (by rw [fdd6]; simp)
        simp at d5
        have d3:=hd 3 (by rw [fdd6]; simp)
        simp at d3
        subst hb d5 d3
        refine st ((fx6 L U l b u F _ _ _ _ _ _).trans ?_)
        rw [gate_pos h2]
        rfl
      | 7,_,hb,hd =>
        simp at hb
        have d3:=hd 3 (by rw [fdd7]; simp)
        simp at d3
        have d6:=hd 6 (by rw [fdd7]; simp)
        simp at d6
        subst hb d3 d6
        exact st (fx7 L U l b u F _ _ _ _ _ _)
      | 8,_,hb,hd =>
        simp at hb
        have d0:=hd 0 (by rw [fdd8]; simp)
        simp at d0
        have d7:=hd 7 (by rw [fdd8]; simp)
        simp at d7
        have d6:=hd 6 (by rw [fdd8]; simp)
        simp at d6
        subst hb d0 d7 d6
        refine st ((fx8 L U l b u F _ _ _ _ _).trans ?_)
        rw [propB_t h3]
        rfl
      | n+9,hi,_,_=>exact absurd hi (by omega)
end
section
variable {dc:Int→List UInt8} {tn:Nat→Int} {tb:Nat→Bool} {F:Hs.Fm.Fd}
def hiT (dc:Int→List UInt8) (F:Hs.Fm.Fd) (j:Nat):List (List UInt8):=(List.range j).map fun q=>dc (F.hs q)
theorem hiT_next (j:Nat):tks true (hiT dc F (j+1))=tks true (hiT dc F j) ++ tks true [dc (F.hs j)]:=by
  unfold hiT
  rw [List.range_succ,List.map_append,tks_appT]
  rfl
theorem hiT_mono (j:Nat):(tks true (hiT dc F j)).length≤(tks true (hiT dc F (j+1))).length:=by rw [hiT_next,List.length_append]; omega
theorem hiT_le {n:Nat}:∀ {j:Nat},j≤n→(tks true (hiT dc F j)).length≤(tks true (hiT dc F n)).length:=fun {j} h=>by
  induction n with
  | zero => have:j=0:=by omega
            subst this; exact Nat.le_refl _
  | succ n ih =>
    by_cases c:j=n+1
    · subst c; exact Nat.le_refl _
    · exact Nat.le_trans (ih (by omega)) (hiT_mono n)
theorem fl_leads {l:List UInt8} {u:Bool} (hn:F.n≤1000) (hd:∀ q,q < F.n→FDc dc (F.hs q)∧dc (F.hs q)≠[]) (hl:l.length+(tks true (hiT dc F F.n)).length≤900000000):LeadsN 2 Tryz.prog (.loop (loopAt Tryz.f95 0)) (fdS F 0 (pM2 l true u)) (.exit 0) (fdS F (F.n:Nat) (pM2 (l ++ tks true (hiT dc F F.n)) true u)):=by
  have e0:l ++ tks true (hiT dc F 0)=l:=by simp [hiT]
  suffices key:LeadsN 2 Tryz.prog (.loop (loopAt Tryz.f95 0)) (fdS F ((0:Nat):Int) (pM2 (l ++ tks true (hiT dc F 0)) true u)) (.exit 0) (fdS F (F.n:Nat) (pM2 (l ++ tks true (hiT dc F F.n)) true u)) by
    rw [e0] at key
    exact key
  refine loop_rule (fun j=>fdS F (j:Nat) (pM2 (l ++ tks true (hiT dc F j)) true u)) F.n (.exit 0) _ (by simp) (fun j hj=>?_) ?_
  · have hx:=hd j hj
    have hle:=hiT_le (dc:=dc) (F:=F) (n:=F.n) (j:=j+1) (by omega)
    have hnx:=hiT_next (dc:=dc) (F:=F) j
    have hlen:(l ++ tks true (hiT dc F j)).length=l.length+(tks true (hiT dc F j)).length:=List.length_append
    have hl1:(tks true (hiT dc F (j+1))).length=(tks true (hiT dc F j)).length+(tks true [dc (F.hs j)]).length:=by rw [hnx,List.length_append]
    have hw:WSpec Tryz.prog 87 [.own 0 0,tokL [dc (F.hs j)]] (pM2 (l ++ tks true (hiT dc F j)) true u) (.tup []) (stp (pM2 (l ++ tks true (hiT dc F j)) true u) (l ++ tks true (hiT dc F (j+1))) true u):=by
      have:=pr_one hx.2 (l ++ tks true (hiT dc F j)) true u (by show _+(tks true [dc (F.hs j)]).length≤_; omega)
      rw [Bool.or_false] at this
      rw [hnx,← List.append_assoc]
      exact wl_lift (inv_pM2 _ true u) (fun _=>rfl) (fun _=>rfl) this
    refine leads_evWN (finN_subN _ (by rfl)) e_nil (k_cons kS_ok k_nil) B57_ok (w_cons wQ_ok w_nil) r_nil noL_okN ((fl_step (l ++ tks true (hiT dc F j)) (l ++ tks true (hiT dc F (j+1))) u F (j:Nat) dc).trans ?_)
    unfold flC
    rw [dec_lt hj,ixB_t hj,Int.toNat_natCast,gate_pos hx.1,propB_t hw,w64_next (by omega)]
    rfl
  · refine leads_evWN (finE_subN _ (by rfl)) e_nil (k_cons kS_ok k_nil) B57_ok (w_cons wQ_ok w_nil) r_nil noL_okN ((fl_end (l ++ tks true (hiT dc F F.n)) [] u F (F.n:Nat) dc).trans ?_)
    unfold flC
    rw [dec_self]
    rfl
/-- The tokens of a field. -/
def fdT (dc:Int→List UInt8) (tn:Nat→Int) (F:Hs.Fm.Fd):List (List UInt8):=fdW F ++ (vT dc tn F.at_ 0 ++ ([115,105,100,101]::(ntk dc tn F.sd::([104,105,103,104]::hiT dc F F.n))))
def fdB (tb:Nat→Bool) (F:Hs.Fm.Fd):Bool:=vB tb F.at_ 0||!(tb F.sd)
def fdI (dc:Int→List UInt8) (tn:Nat→Int) (tb:Nat→Bool) (F:Hs.Fm.Fd):List SI:=[sVec dc tn tb F.at_ 0,sPut [115,105,100,101],sFl dc tn tb F.sd,sPut [104,105,103,104]]
theorem gspecGWD {l : List Entry} {ks : List KEntry} {ms : List MEntry} {ws : List WEntry} {rs : List REntry} {L : Nat → Option LFun} (hl : ∀ e, e ∈ l → EOk Tryz.prog e) (hks : ∀ e, e ∈ ks → KOk Tryz.prog e) (hms : ∀ e, e ∈ ms → MEOk Tryz.prog e) (hws : ∀ e, e ∈ ws → WEOk Tryz.prog e) (hrs : ∀ e, e ∈ rs → REOk Tryz.prog e) {d : Nat} {ops0 : Array Oper} {s0 s1 : St} (hreg : RegOk Tryz.prog ops0 s0 s1) {f : Nat} {fn : Func} (hf : Tryz.prog.funcs[f]? = some fn) (hnm : (fn.name == "runtime.NumGoroutine") = false) (hb : fn.body = some (bodyOf fn))
    {args:List AV} {mem:List Row} (hL:LOkN mem.length Tryz.prog L (bodyOf fn)) (hlen:Nat.ble args.length fn.ntmps=true) {τ:List (Option Nat)} (hpin:pinT mem.length τ=true) {v:AV} {mem1:List Row} (h:evGWD Tryz.prog l ks ms ws rs d ops0.toList s0 s1 L fn args mem τ=gout v mem1):GSpec Tryz.prog f args mem v mem1 :=
  gspec_of_body (tabW_ok hl hks hms hws hrs) (toldD_ok (drawnK_ok (tabW_ok hl hks hms hws hrs) (by kernel_rfl)) hreg) 40 hf hnm hb hL hlen hpin h
theorem pr_field (hW:FIt F.W∧Lib.itoa F.W≠[]) (hH:FIt F.H∧Lib.itoa F.H≠[]) (ha:NV dc tn tb F.at_ 0) (hs:Nu dc tn tb F.sd) (hn:F.n≤1000) (hd:∀ q,q < F.n→FDc dc (F.hs q)∧dc (F.hs q)≠[]):Pr 95 [.agg F.c] (fun b=>tks b (fdT dc tn F)) (fdB tb F) true:=fun l b u hl=>by
  have hT:tks b (fdT dc tn F)=tks b (fdW F) ++ (comp (fdI dc tn tb F) true ++ tks true (hiT dc F F.n)):=by
    unfold fdT
    rw [tks_app _ _ _ (by simp [fdW])]
    congr 1
    rw [tks_appT]
    simp [fdI,vT]
  have hl:l.length+(tks b (fdT dc tn F)).length≤900000000:=hl
  rw [hT,List.length_append,List.length_append] at hl
  have hI0:Inv (fdM l b u F) l b u:=inv_app [.c F.c]
  have hp:Pr 87 [tokL (fdW F)] (fun b=>tks b (fdW F)) false true:=pr_putL (by simp [fdW]) (ne_c (by simp) <| ne_c hW.2 <| ne_c hH.2 <| ne_c (by simp) ne_n) (by simp [fdW])
  let Z:List (List UInt8 × Bool):=(l ++ tks b (fdW F),u)::LU (fdI dc tn tb F) (l ++ tks b (fdW F)) true u
  let L:Nat→List UInt8:=fun n=>(Z.getD (n - 3) ([],false)).1
  let U:Nat→Bool:=fun n=>(Z.getD (n - 3) ([],false)).2
  have hw:WSpec Tryz.prog 87 [.own 0 0,tokL (fdW F)] (fdM l b u F) (.tup []) (fdM1 L U l b u F):=by
    have:=hp l b u (by show _+(tks b (fdW F)).length≤_; omega)
    rw [Bool.or_false] at this
    exact wl_lift hI0 (fun _=>rfl) (fun _=>rfl) this
  obtain ⟨hI1,hlen1⟩:=hI0.stp (l':=l ++ tks b (fdW F)) (b':=true) (u':=u)
  have hl1:(l ++ tks b (fdW F)).length=l.length+(tks b (fdW F)).length:=List.length_append
  obtain ⟨m',hm1,hm2⟩:=chW_run (fdI dc tn tb F) Z 3 (fdM1 L U l b u F) (l ++ tks b (fdW F)) true u (fun _=>gout (.tup []) (pM2 (l ++ tks b (fdT dc tn F)) true (u||fdB tb F))) hI1 (by show 3≤4; omega) (fun i _=>by
      show Z[4 - 3+i]?=_
      rw [show 4 - 3+i=i+1 by omega]
      rfl)
    (si_cons (sVec_ok ha) <| si_cons (sPut_ok (by simp)) <| si_cons (sFl_ok hs) <| si_cons (sPut_ok (by simp)) si_nil) (by omega)
  have e7:(Z.getD (7 - 3) ([],false))=(l ++ tks b (fdW F) ++ comp (fdI dc tn tb F) true,u||fdB tb F):=by
    show (LU (fdI dc tn tb F) (l ++ tks b (fdW F)) true u).getD 3 ([],false)=_
    simp [LU,fdI,fdB,Bool.or_assoc]
  have eL:L 7=l ++ tks b (fdW F) ++ comp (fdI dc tn tb F) true:=congrArg Prod.fst e7
  have eU:U 7=(u||fdB tb F):=congrArg Prod.snd e7
  have hlen2:(l ++ tks b (fdW F) ++ comp (fdI dc tn tb F) true).length=l.length+(tks b (fdW F)).length+(comp (fdI dc tn tb F) true).length:=by rw [List.length_append,hl1]
  have key:=fl_leads (dc:=dc) (F:=F) (l:=L 7) (u:=U 7) hn hd (by rw [eL,hlen2]; omega)
  have eE:L 7 ++ tks true (hiT dc F F.n)=l ++ tks b (fdT dc tn F):=by rw [eL,hT]; simp
  refine gspecGWD e_nil (k_cons kS_ok k_nil) B57_ok (w_cons wP_ok (w_cons wP_ok (w_cons wP_ok w_nil))) r_nil (fd_reg hW.1 hH.1 hw) Tryz.func95 (by kernel_rfl) (by kernel_rfl) (mem:=pM l b u) (lokN_one (i:=7) 1 (by kernel_rfl) fun j hj _=>?_) rfl (τ:=[some 0,some 1,some 2]) (by rfl) ((fd_ev L U l (L 7 ++ tks true (hiT dc F F.n)) b u F).trans ?_)
  · have:j=0:=by omega
    subst this
    exact toldP_sound (by rfl) key
  · rw [gate_pos ⟨rfl,rfl⟩,gate_pos (SubN.refl _),eE,eU]
    exact hm2
end
end Go.Proofs.YtefphimaggjihaaGreatDoor.Pi

namespace Go.Gv
open Go.RowKit Go.Ev
noncomputable section
/-- What holds whatever lies in the cells that are handed on. -/
theorem holW {P:Program} {f:Nat} {args:List AV} {r:AV} {l l':List (Option AV)} {o:Nat→AV} {rest rest':List Row} (hh:holes l' 0=holes l 0)
    (h:∀ v:Nat→Value,WSpec P f (.own 0 0::args) (.c (hol l (fun q=>.x (v q)) 0)::rest) r (.c (hol l' (fun q=>.x (v q)) 0)::rest')):WSpec P f (.own 0 0::args) (.c (hol l o 0)::rest) r (.c (hol l' o 0)::rest'):=by
  refine ⟨(h fun _=>undef).1,fun A0 R w0 E cargs hW hg hrel=>?_⟩
  obtain ⟨u0,us0,e0,k1,_⟩:=rels_cons.1 hrel
  obtain ⟨b,c,hO,_⟩:=rel_own.1 k1
  obtain ⟨row,k2,k3⟩:=hW.rows 0 b c hO
  cases k2
  obtain ⟨cs,ty,k4,k5⟩:=k3
  obtain ⟨k6,k7⟩:=hol_open l 0 k5
  let v:Nat→Value:=fun k=>cs.toList.getD (k - 0) undef
  have hlive:∀ (x y:List AV) (rs:List Row) (k:Nat),liveAt (.c x::rs) k=liveAt (.c y::rs) k:=fun x y rs k=>by cases k<;>rfl
  have hW1:Wd A0 R w0 E (.c (hol l (fun q=>.x (v q)) 0)::rest):=by
    refine ⟨fun k b' c' hk=>?_,hW.small,hW.old,fun k b' c' hk hl=>hW.own k b' c' hk (by rw [hlive _ (hol l (fun q=>.x (v q)) 0)]; exact hl),fun k k' b' c' c'' hk hk' h1 h2=>hW.one k k' b' c' c'' hk hk' (by rw [hlive _ (hol l (fun q=>.x (v q)) 0)]; exact h1) (by rw [hlive _ (hol l (fun q=>.x (v q)) 0)]; exact h2),hW.below,hW.le0⟩
    obtain ⟨row,g1,g2⟩:=hW.rows k b' c' hk
    cases k with
    | zero =>
      rw [hO] at hk
      cases hk
      exact ⟨_,rfl,cs,ty,k4,k6⟩
    | succ k=>exact ⟨row,g1,g2⟩
  refine ((h v).2 A0 R w0 E cargs hW1 hg hrel).mono ?_
  rintro e w' ⟨u,E',rfl,rfl,hle,hW2,hu⟩
  refine ⟨u,E',rfl,rfl,hle,⟨fun k b' c' hk=>?_,hW2.small,hW2.old,fun k b' c' hk hl=>hW2.own k b' c' hk (by rw [hlive _ (hol l' o 0)]; exact hl),fun k k' b' c' c'' hk hk' h1 h2=>hW2.one k k' b' c' c'' hk hk' (by rw [hlive _ (hol l' o 0)]; exact h1) (by rw [hlive _ (hol l' o 0)]; exact h2),hW2.below,hW2.le0⟩,hu⟩
  obtain ⟨row,g1,g2⟩:=hW2.rows k b' c' hk
  cases k with
  | zero =>
    cases g1
    obtain ⟨cs',ty',g3,g4⟩:=g2
    refine ⟨_,rfl,cs',ty',g3,hol_shut l' 0 (fun k hk=>?_) g4⟩
    rw [hh] at hk
    exact rel_le hle (k7 k hk)
  | succ k=>exact ⟨row,g1,g2⟩
end
end Go.Gv

namespace Go.Proofs.YtefphimaggjihaaGreatDoor.Pi.Rd
open Go.Shelf Go.RowKit Go.Gv
/-- What was read so far. -/
structure Ct where
  nS:Nat
  S:Nat→List AV
  nO:Nat
  O:Nat→List AV
  nF:Nat
  F:Nat→List AV
  nK:Nat
  K:Nat→List AV
  nL:Nat
  L:Nat→List AV
  nN:Nat
  N:Nat→ByteArray
  sky:Nat→Int
  eye:Nat→Nat
/-- The places of its slices' rows. -/
structure Pl where
  s:Nat
  o:Nat
  f:Nat
  k:Nat
  l:Nat
  n:Nat
def pl0:Pl:=⟨1,2,3,4,5,6⟩
def oX (i:Pl) (c:Ct) (q:Nat):AV:=match q with
  | 2=>.osl i.s 13 0 c.nS
  | 3=>.osl i.o 2 0 c.nO
  | 4=>.osl i.f 8 0 c.nF
  | 5=>.osl i.k 10 0 c.nK
  | 6=>.osl i.l 6 0 c.nL
  | 7=>iA (c.sky 0)
  | 8=>iA (c.sky 1)
  | 9=>iA (c.sky 2)
  | 10=>.f (c.eye 0)
  | 11=>.f (c.eye 1)
  | 12=>.f (c.eye 2)
  | 13=>.f (c.eye 3)
  | 14=>.f (c.eye 4)
  | 15=>.f (c.eye 5)
  | 16=>.f (c.eye 6)
  | 17=>.f (c.eye 7)
  | 18=>.f (c.eye 8)
  | 19=>.f (c.eye 9)
  | 20=>.osl i.n 1 0 c.nN
  | _=>.any
def rS (c:Ct):Row:=.a 67 13 c.nS c.S
def rO (c:Ct):Row:=.a 69 2 c.nO c.O
def rF (c:Ct):Row:=.a 74 8 c.nF c.F
def rK (c:Ct):Row:=.a 47 10 c.nK c.K
def rL (c:Ct):Row:=.a 76 6 c.nL c.L
def rN (c:Ct):Row:=.a 9 1 c.nN fun q=>[zA (c.N q)]
def oP (p:AV) (o:Nat→AV) (q:Nat):AV:=cond (Nat.beq q 27) p (o q)
def rdX (t:Tk) (a:Nat) (z:Nat→Int) (i:Pl) (c:Ct):Row:=rdR t a z (oX i c)
def rows (c:Ct):List Row:=[rS c,rO c,rF c,rK c,rL c,rN c]
/-- The same, whatever is known of the parts. -/
def M7p (p:AV) (t:Tk) (a:Nat) (z:Nat→Int) (c:Ct):List Row:=rdR t a z (oP p (oX pl0 c))::rows c
def M7 (t:Tk) (a:Nat) (z:Nat→Int) (c:Ct):List Row:=rdX t a z pl0 c::rows c
noncomputable def wrTb (t:Tk) (k:Int):Tab:=tabW [] [kS Tryz.prog 221 (fun _=>iA k)] [] [wNm t] []
noncomputable def wrO:Array Oper:=((opsAt (bodyOf Tryz.f193) 1).getD #[])
theorem wrO_size:wrO.size=8:=by kernel_rfl
theorem wrd0:depsOf wrO 0=[]:=by kernel_rfl
theorem wrd1:depsOf wrO 1=[0]:=by kernel_rfl
theorem wrd2:depsOf wrO 2=[1]:=by kernel_rfl
theorem wrd3:depsOf wrO 3=[2]:=by kernel_rfl
theorem wrd4:depsOf wrO 4=[]:=by kernel_rfl
theorem wrd5:depsOf wrO 5=[4]:=by kernel_rfl
theorem wrd6:depsOf wrO 6=[3,5,5]:=by kernel_rfl
theorem wrd7:depsOf wrO 7=[6,6,0,1,2,3,4,5,6]:=by kernel_rfl
section
variable (t:Tk) (a:Nat) (z:Nat→Int) (c:Ct) (pv:Value) (k:Int)
def wrV (b0 b1 b2 b3 b4 b5 b6 b7:Bool):St:=mkV 16 [(0,.own 0 0),(2,iA 0),(4,cb b0 (.own 0 0)),(5,cb b1 (.own 0 0)),(6,cb b2 (.own 0 20)),(7,cb b3 (.osl 6 1 0 c.nN)),(8,cb b4 (.own 0 0)),(9,cb b5 (zA (t.T a))),(10,cb b6 (iA k)),(3,cb b7 (iA k))] (cond b5 (M7p (.x pv) t (a+1) z c) (M7p (.x pv) t a z c))
noncomputable def wrX (i : Nat) (s : St) : Option Out := aopsK Tryz.prog (wrTb t k) wrO.toList [(wrO[i]?).getD ⟨none, .move (.const undef), 0, "", #[], none⟩] s stK
theorem wrx0 (b1 b2 b3 b4 b5 b6 b7:Bool):wrX t k 0 (wrV t a z c pv k false b1 b2 b3 b4 b5 b6 b7)=some ⟨.normal,wrV t a z c pv k true b1 b2 b3 b4 b5 b6 b7,.any⟩:=by cases b5<;>kernel_rfl
theorem wrx1 (b2 b3 b4 b5 b6 b7:Bool):wrX t k 1 (wrV t a z c pv k true false b2 b3 b4 b5 b6 b7)=some ⟨.normal,wrV t a z c pv k true true b2 b3 b4 b5 b6 b7,.any⟩:=by cases b5<;>kernel_rfl
theorem wrx2 (b0 b3 b4 b5 b6 b7:Bool):wrX t k 2 (wrV t a z c pv k b0 true false b3 b4 b5 b6 b7)=some ⟨.normal,wrV t a z c pv k b0 true true b3 b4 b5 b6 b7,.any⟩:=by cases b5<;>kernel_rfl
theorem wrx3 (b0 b1 b4 b5 b6 b7:Bool):wrX t k 3 (wrV t a z c pv k b0 b1 true false b4 b5 b6 b7)=some ⟨.normal,wrV t a z c pv k b0 b1 true true b4 b5 b6 b7,.any⟩:=by cases b5<;>kernel_rfl
theorem wrx4 (b0 b1 b2 b3 b5 b6 b7:Bool):wrX t k 4 (wrV t a z c pv k b0 b1 b2 b3 false b5 b6 b7)=some ⟨.normal,wrV t a z c pv k b0 b1 b2 b3 true b5 b6 b7,.any⟩:=by cases b5<;>kernel_rfl
theorem wrx5 (b0 b1 b2 b3 b6 b7:Bool):wrX t k 5 (wrV t a z c pv k b0 b1 b2 b3 true false b6 b7)=cond (propB (WSpec Tryz.prog 222 [.own 0 0] (M7p (.x pv) t a z c) (zA (t.T a)) (M7p (.x pv) t (a+1) z c))) (some ⟨.normal,wrV t a z c pv k b0 b1 b2 b3 true true b6 b7,.any⟩) none:=by kernel_rfl
theorem wrx6 (b0 b1 b2 b4 b7:Bool):wrX t k 6 (wrV t a z c pv k b0 b1 b2 true b4 true false b7)=cond ((Nat.ble (0+c.nN) c.nN&&true)) (gate (FSpec Tryz.prog 221 [nmSl c.nN (fun q=>c.N (0+q)),zA (t.T a)] (iA k)) (some ⟨.normal,wrV t a z c pv k b0 b1 b2 true b4 true true b7,.any⟩)) none:=by kernel_rfl
theorem wrx7 :wrX t k 7 (wrV t a z c pv k true true true true true true true false)=some ⟨.normal,wrV t a z c pv k true true true true true true true true,.any⟩:=by kernel_rfl
def wrSt:List Bool→St
  | [b0,b1,b2,b3,b4,b5,b6,b7]=>wrV t a z c pv k b0 b1 b2 b3 b4 b5 b6 b7
  | _=>wrV t a z c pv k false false false false false false false false
abbrev wrZ0:St:=wrV t a z c pv k false false false false false false false false
abbrev wrZ1:St:=wrV t a z c pv k true true true true true true true true
end
theorem wr_get {i : Nat} (h : i < 8) : wrO[i]? = some ((wrO[i]?).getD ⟨none, .move (.const undef), 0, "", #[], none⟩) := by
  rw [Array.getElem?_eq_getElem (by rw [wrO_size]; exact h)]
  rfl
theorem wr_reg (t:Tk) (a:Nat) (z:Nat→Int) (c:Ct) (pv:Value) (k:Int) (h5_0:WSpec Tryz.prog 222 [.own 0 0] (M7p (.x pv) t a z c) (zA (t.T a)) (M7p (.x pv) t (a+1) z c)) (h6_0:((Nat.ble (0+c.nN) c.nN&&true))=true) (h6_1:FSpec Tryz.prog 221 [nmSl c.nN (fun q=>c.N (0+q)),zA (t.T a)] (iA k)):RegOk Tryz.prog wrO (wrZ0 t a z c pv k) (wrZ1 t a z c pv k):=by
  have st : ∀ {i : Nat} {s s1 : St}, wrX t k i s = some ⟨.normal, s1, .any⟩ → AStep Tryz.prog (wrTb t k) wrO.toList s ((wrO[i]?).getD ⟨none, .move (.const undef), 0, "", #[], none⟩) s1 := fun h => astep_of (tabW_ok e_nil (k_cons kS_ok k_nil) m_nil (w_cons wQ_ok w_nil) r_nil).par h
  refine reg_any (T:=(wrTb t k)) (tabW_ok e_nil (k_cons kS_ok k_nil) m_nil (w_cons wQ_ok w_nil) r_nil) (by kernel_rfl) ?_
  have hlow:∀ i,i < wrO.size→∀ d,d ∈ depsOf wrO i→d < i:=fun i hi d hd=>by
    rw [wrO_size] at hi
    match i,hi with
    | 0,_=>rw [wrd0] at hd; cases hd
    | 1,_=>rw [wrd1] at hd; simp at hd; omega
    | 2,_=>rw [wrd2] at hd; simp at hd; omega
    | 3,_=>rw [wrd3] at hd; simp at hd; omega
    | 4,_=>rw [wrd4] at hd; cases hd
    | 5,_=>rw [wrd5] at hd; simp at hd; omega
    | 6,_=>rw [wrd6] at hd; simp at hd; omega
    | 7,_=>rw [wrd7] at hd; simp at hd; omega
    | n+8,hi=>exact absurd hi (by omega)
  have:=anyS_fun (P:=Tryz.prog) (T:=(wrTb t k)) (ops:=wrO) (K:=fun s'=>clr s'=clr (wrZ1 t a z c pv k)) (wrSt t a z c pv k) hlow (fun bs i hl hi hb hd=>?_) (by rw [wrO_size]; rfl) wrO.size (Array.replicate wrO.size false) (by simp) (by rw [wrO_size]; decide)
  · rw [wrO_size] at this ⊢
    exact this
  · rw [wrO_size] at hl hi
    match bs,hl with
    | [b0,b1,b2,b3,b4,b5,b6,b7],_ =>
      refine ⟨_,wr_get hi,?_⟩
      match i,hi,hb,hd with
      | 0,_,hb,hd =>
        simp at hb
        subst hb
        exact st (wrx0 t a z c pv k _ _ _ _ _ _ _)
      | 1,_,hb,hd =>
        simp at hb
        have d0:=hd 0 (by rw [wrd1]; simp)
        simp at d0
        subst hb d0
        exact st (wrx1 t a z c pv k _ _ _ _ _ _)
      | 2,_,hb,hd =>
        simp at hb
        have d1:=hd 1 (by rw [wrd2]; simp)
        simp at d1
        subst hb d1
        exact st (wrx2 t a z c pv k _ _ _ _ _ _)
      | 3,_,hb,hd =>
        simp at hb
        have d2:=hd 2 (by rw [wrd3]; simp)
        simp at d2
        subst hb d2
        exact st (wrx3 t a z c pv k _ _ _ _ _ _)
      | 4,_,hb,hd =>
        simp at hb
        subst hb
        exact st (wrx4 t a z c pv k _ _ _ _ _ _ _)
      | 5,_,hb,hd =>
        simp at hb
        have d4:=hd 4 (by rw [wrd5]; simp)
        simp at d4
        subst hb d4
        refine st ((wrx5 t a z c pv k _ _ _ _ _ _).trans ?_)
        rw [propB_t h5_0]
        rfl
      | 6,_,hb,hd =>
        simp at hb
        have d3:=hd 3 (by rw [wrd6]; simp)
        simp at d3
        have d5:=hd 5 (by rw [wrd6]; simp)
        simp at d5
        subst hb d3 d5
        refine st ((wrx6 t a z c pv k _ _ _ _ _).trans ?_)
        rw [h6_0,gate_pos h6_1]
        rfl
      | 7,_,hb,hd =>
        simp at hb
        have d6:=hd 6 (by rw [wrd7]; simp)
        simp at d6
        have d0:=hd 0 (by rw [wrd7]; simp)
        simp at d0
        have d1:=hd 1 (by rw [wrd7]; simp)
        simp at d1
        have d2:=hd 2 (by rw [wrd7]; simp)
        simp at d2
        have d3:=hd 3 (by rw [wrd7]; simp)
        simp at d3
        have d4:=hd 4 (by rw [wrd7]; simp)
        simp at d4
        have d5:=hd 5 (by rw [wrd7]; simp)
        simp at d5
        subst hb d6 d0 d1 d2 d3 d4 d5
        exact st (wrx7 t a z c pv k)
      | n+8,hi,_,_=>exact absurd hi (by omega)
theorem wr_ev (t:Tk) (a:Nat) (z:Nat→Int) (c:Ct) (pv:Value) (k:Int):evGWD Tryz.prog [] [kS Tryz.prog 221 (fun _=>iA k)] [] [wNm t] [] 4 wrO.toList (wrZ0 t a z c pv k) (wrZ1 t a z c pv k) noL Tryz.f193 [.own 0 0] (M7p (.x pv) t a z c) [some 0,some 1,some 2,some 3,some 4,some 5,some 6] =
  gate (wrO.toList=wrO.toList∧wrZ0 t a z c pv k=wrZ0 t a z c pv k) (cond (decide (k < 0)) none (gout (iA k) (M7p (.x pv) t (a+1) z c))):=by kernel_rfl
theorem M7_live {t:Tk} {a:Nat} {z:Nat→Int} {c:Ct} {pv:Value}:∀ (i:Nat) (r:Row),(M7p (.x pv) t a z c)[i]?=some r→r.live=true∧renRow (ixOf (List.range 7)) r=r:=fun i r h=>by
  match i,h with
  | 0,h=>cases h; exact ⟨rfl,rfl⟩
  | 1,h=>cases h; exact ⟨rfl,rfl⟩
  | 2,h=>cases h; exact ⟨rfl,rfl⟩
  | 3,h=>cases h; exact ⟨rfl,rfl⟩
  | 4,h=>cases h; exact ⟨rfl,rfl⟩
  | 5,h=>cases h; exact ⟨rfl,rfl⟩
  | 6,h=>cases h; exact ⟨rfl,rfl⟩
  | n+7,h=>cases h
/-- A name is that of a skin. -/
structure Nam (t:Tk) (c:Ct) (a k:Nat):Prop where
  few:c.nN≤1000
  name:FSpec Tryz.prog 237 [zA (t.T a)] (bA true)
  lt:k < c.nN
  eq:c.N k=t.T a
  no:∀ j,j < k→c.N j≠t.T a
theorem wear_spec {t:Tk} {a:Nat} {z:Nat→Int} {c:Ct} {k:Nat} (h:Has t a 1) (hk:Nam t c a k) (pv:Value):GSpec Tryz.prog 193 [.own 0 0] (M7p (.x pv) t a z c) (iA (k:Nat)) (M7p (.x pv) t (a+1) z c):=by
  have h1:WSpec Tryz.prog 222 [.own 0 0] (M7p (.x pv) t a z c) (zA (t.T a)) (M7p (.x pv) t (a+1) z c):=(rname_spec z h hk.name).w (fun _=>rfl) (fun _=>rfl) _ _
  have h2:FSpec Tryz.prog 221 [nmSl c.nN (fun q=>c.N (0+q)),zA (t.T a)] (iA (k:Nat)):=index_at (N:=fun q=>c.N (0+q)) hk.few hk.lt (by rw [Nat.zero_add]; exact hk.eq) fun j hj=>by rw [Nat.zero_add]; exact hk.no j hj
  have h3:(Nat.ble (0+c.nN) c.nN&&true)=true:=by rw [Nat.zero_add,Nat.ble_eq_true_of_le (Nat.le_refl _)]; rfl
  refine gspecGWD e_nil (k_cons kS_ok k_nil) m_nil (w_cons wQ_ok w_nil) r_nil (wr_reg t a z c pv (k:Nat) h1 h3 h2) Tryz.func193 (by kernel_rfl) (by kernel_rfl) (mem:=M7p (.x pv) t a z c) noL_okN rfl (τ:=[some 0,some 1,some 2,some 3,some 4,some 5,some 6]) (by rfl) ((wr_ev t a z c pv (k:Nat)).trans ?_)
  rw [gate_pos ⟨rfl,rfl⟩,decide_eq_false (by omega)]
  rfl
def rdK (t:Tk) (x:Int) (z:Nat→Int) (c:Ct):List (Option AV):=[some (tkSl t),some (iA x),some (.osl 1 13 0 c.nS),some (.osl 2 2 0 c.nO),some (.osl 3 8 0 c.nF),some (.osl 4 10 0 c.nK),some (.osl 5 6 0 c.nL),some (iA (c.sky 0)),some (iA (c.sky 1)),some (iA (c.sky 2)),some (.f (c.eye 0)),some (.f (c.eye 1)),some (.f (c.eye 2)),some (.f (c.eye 3)),some (.f (c.eye 4)),some (.f (c.eye 5)),some (.f (c.eye 6)),some (.f (c.eye 7)),some (.f (c.eye 8)),some (.f (c.eye 9)),some (.osl 6 1 0 c.nN),some (iA (z 21)),some (iA (z 22)),some (iA (z 23)),some (iA (z 24)),some (iA (z 25)),some (iA (z 26)),none,some (iA (z 28))]
theorem wear_p {t:Tk} {a:Nat} {z:Nat→Int} {c:Ct} {k:Nat} (p:AV) (h:Has t a 1) (hk:Nam t c a k) (X:List Row):WSpec Tryz.prog 193 [.own 0 0] (M7p p t a z c ++ X) (iA (k:Nat)) (M7p p t (a+1) z c ++ X) :=
  holW (l:=rdK t (a:Nat) z c) (l':=rdK t ((a+1:Nat):Int) z c) (o:=fun _=>p) (rest:=rows c ++ X) (rest':=rows c ++ X) rfl fun v =>
    wframeX 7 rfl (wear_spec h hk (v 27)) X rfl M7_live rfl (Nat.le_refl _) rfl (by rw [show (M7p (.x (v 27)) t (a+1) z c).drop 7=[] from rfl,List.map_nil,List.append_nil]; rfl)
theorem wear_w {t:Tk} {a:Nat} {z:Nat→Int} {c:Ct} {k:Nat} (h:Has t a 1) (hk:Nam t c a k) (X:List Row):WSpec Tryz.prog 193 [.own 0 0] (M7 t a z c ++ X) (iA (k:Nat)) (M7 t (a+1) z c ++ X):=wear_p .any h hk X
end Go.Proofs.YtefphimaggjihaaGreatDoor.Pi.Rd

namespace Go.Proofs.YtefphimaggjihaaGreatDoor.Pi.Rd
open Go.Shelf Go.RowKit Go.Gv
noncomputable def wWr (k:Int):WEntry:=wQ Tryz.prog 193 (fun _ _=>iA k) (fun _ mem=>adv 1 mem)
noncomputable def wMu:WEntry:=wQ Tryz.prog 195 (fun _ _=>.tup []) (fun _ mem=>mem)
noncomputable def wRm:WEntry:=wQ Tryz.prog 196 (fun _ _=>.tup []) (fun _ mem=>mem)
noncomputable def wOu:WEntry:=wQ Tryz.prog 208 (fun _ _=>.tup []) (fun _ mem=>mem)
noncomputable def wCo (t:Tk):WEntry:=wQ Tryz.prog 213 (fun _ mem=>n3 t (atM mem)) (fun _ mem=>adv 3 mem)
/-- A row to which something is appended. -/
def apR (ty sz n:Nat) (el:Nat→List AV) (x:List AV):Row:=.a ty sz (n+1) fun q=>mixL (Nat.blt q n) (el q) (spread n [x] q)
def dd:Row:=.dead
/-- A call of a method of the reader. -/
noncomputable def qC (f:Nat) (args:List AV) (r:AV) (m m':List Row) (k:Option Out):Option Out:=cond (propB (WSpec Tryz.prog f (.own 0 0::args) m r m')) k none
def scK (k:Int) (a0 a1 a2 b0 b1 b2 c0 c1 c2 r q:Nat) (w:Int):List AV:=[iA k,.f a0,.f a1,.f a2,.f b0,.f b1,.f b2,.f c0,.f c1,.f c2,.f r,.f q,iA w]
def τ7 (k:Nat):List (Option Nat):=[some 0,some 1,some 2,some 3,some 4,some 5,some 6,some k]
section
variable (t:Tk) (a:Nat) (z:Nat→Int) (c:Ct) (w j:Int) (a0 a1 a2 b0 b1 b2 c0 c1 c2 r q:Nat)
def mS (a:Nat) (x:List AV):List Row:=M7 t a z c ++ [.c x]
def MS (a:Nat) (x:List AV):List Row:=[rdX t a z { pl0 with s:=7 } { c with nS:=c.nS+1 },dd,rO c,rF c,rK c,rL c,rN c,apR 67 13 c.nS c.S x]
theorem ks_ev:evGW Tryz.prog [] [kS Tryz.prog 98 (fun _=>iA 0)] [] [wWr w,wAk,wMu,wRm] [] noL Tryz.f170 [.own 0 0,.agg (scK j a0 a1 a2 b0 b1 b2 c0 c1 c2 r q 0)] (M7 t a z c) (τ7 9) =
  qC 193 [] (iA w) (mS t z c a (scK j a0 a1 a2 b0 b1 b2 c0 c1 c2 r q 0)) (mS t z c (a+1) (scK j a0 a1 a2 b0 b1 b2 c0 c1 c2 r q 0)) (
  qC 194 [zA (lB [59])] (.tup []) (mS t z c (a+1) (scK j a0 a1 a2 b0 b1 b2 c0 c1 c2 r q w)) (mS t z c (a+2) (scK j a0 a1 a2 b0 b1 b2 c0 c1 c2 r q w)) (
  gate (FSpec Tryz.prog 98 [.agg (scK j a0 a1 a2 b0 b1 b2 c0 c1 c2 r q w)] (iA 0)) (
  qC 195 [iA 0] (.tup []) (mS t z c (a+2) (scK j a0 a1 a2 b0 b1 b2 c0 c1 c2 r q w)) (mS t z c (a+2) (scK j a0 a1 a2 b0 b1 b2 c0 c1 c2 r q w)) (
  qC 196 [iA c.nS,iA 64] (.tup []) (mS t z c (a+2) (scK j a0 a1 a2 b0 b1 b2 c0 c1 c2 r q w)) (mS t z c (a+2) (scK j a0 a1 a2 b0 b1 b2 c0 c1 c2 r q w)) (
  cond ((apB c.nS 104||false)&&true) (gout (.tup []) (MS t z c (a+2) (scK j a0 a1 a2 b0 b1 b2 c0 c1 c2 r q w))) none))))):=by kernel_rfl
variable (y:Int→Nat)
def lmK (p q r:Nat) (u v w:Int):List AV:=[.f p,.f q,.f r,iA u,iA v,iA w]
def mL (a:Nat) (x:List AV):List Row:=M7 t a z c ++ [.c x]
def ML (a:Nat) (x:List AV):List Row:=[rdX t a z { pl0 with l:=7 } { c with nL:=c.nL+1 },rS c,rO c,rF c,rK c,dd,rN c,apR 76 6 c.nL c.L x]
def lm1 (a:Nat):List AV:=lmK (fS t z y a 0) (fS t z y a 1) (fS t z y a 2) 0 0 0
def lm2 (a:Nat):List AV:=lmK (fS t z y a 0) (fS t z y a 1) (fS t z y a 2) (t.N (a+4)) (t.N (a+5)) (t.N (a+6))
noncomputable def qAsk (s:List UInt8) (m m':List Row) (k:Option Out):Option Out:=qC 194 [zA (lB s)] (.tup []) m m' k
theorem lp_ev:evGW Tryz.prog [] [] [] [wPt t z y,wAk,wCo t,wRm] [] noL Tryz.f183 [.own 0 0] (M7 t a z c) (τ7 9) =
  qC 210 [] (ptV t z y a) (mL t z c a (lmK 0 0 0 0 0 0)) (mL t z c (a+3) (lmK 0 0 0 0 0 0)) (
  qAsk [108,105,103,104,116] (mL t z c (a+3) (lm1 t z y a)) (mL t z c (a+4) (lm1 t z y a)) (
  qC 213 [iA 65536] (n3 t (a+4)) (mL t z c (a+4) (lm1 t z y a)) (mL t z c (a+7) (lm1 t z y a)) (
  qAsk [59] (mL t z c (a+7) (lm2 t z y a)) (mL t z c (a+8) (lm2 t z y a)) (
  qC 196 [iA c.nL,iA 4] (.tup []) (mL t z c (a+8) (lm2 t z y a)) (mL t z c (a+8) (lm2 t z y a)) (
  cond ((apB c.nL 48||false)&&true) (gout (.tup []) (ML t z c (a+8) (lm2 t z y a))) none))))):=by kernel_rfl
noncomputable def wOn (i:Nat):WEntry:=wQ Tryz.prog 209 (fun _ _=>.tup []) (fun _ _=>M7 t a (setZ z i 1) c)
def cSky (a:Nat):Ct:={ c with sky:=fun q=>t.N (a+q) }
theorem sy_ev:evGW Tryz.prog [] [] [] [wOu,wOn t a z c 22,wAk,wCo t] [] noL Tryz.f181 [.own 0 0] (M7 t a z c) [some 0,some 1,some 2,some 3,some 4,some 5,some 6] =
  qC 208 [] (.tup []) (M7 t a z c) (M7 t a z c) (
  qC 209 [.own 0 22] (.tup []) (M7 t a z c) (M7 t a (setZ z 22 1) c) (
  qC 213 [iA 65536] (n3 t a) (M7 t a (setZ z 22 1) c) (M7 t (a+3) (setZ z 22 1) c) (
  qAsk [59] (M7 t (a+3) (setZ z 22 1) (cSky t c a)) (M7 t (a+4) (setZ z 22 1) (cSky t c a)) (
  gout (.tup []) (M7 t (a+4) (setZ z 22 1) (cSky t c a)))))):=by kernel_rfl
def lst (l:List Nat) (q:Nat):Nat:=l.getD q 0
def eyK (l:List Nat):List AV:=[.f (lst l 0),.f (lst l 1),.f (lst l 2),.f (lst l 3),.f (lst l 4),.f (lst l 5),.f (lst l 6),.f (lst l 7),.f (lst l 8),.f (lst l 9)]
def mE (a:Nat) (l:List Nat):List Row:=M7 t a (setZ z 21 1) c ++ [.c (eyK l)]
def ey1 (a:Nat):List Nat:=[fS t (setZ z 21 1) y a 0,fS t (setZ z 21 1) y a 1,fS t (setZ z 21 1) y a 2,0,0,0,0,0,0,0]
def ey2 (a:Nat):List Nat:=[fS t (setZ z 21 1) y a 0,fS t (setZ z 21 1) y a 1,fS t (setZ z 21 1) y a 2,fS t (setZ z 21 1) y (a+4) 0,fS t (setZ z 21 1) y (a+4) 1,fS t (setZ z 21 1) y (a+4) 2,0,0,0,0]
def ey3 (a:Nat):List Nat:=[fS t (setZ z 21 1) y a 0,fS t (setZ z 21 1) y a 1,fS t (setZ z 21 1) y a 2,fS t (setZ z 21 1) y (a+4) 0,fS t (setZ z 21 1) y (a+4) 1,fS t (setZ z 21 1) y (a+4) 2,fN t y (a+8),fN t y (a+9),fN t y (a+10),0]
def ey4 (a:Nat):List Nat:=[fS t (setZ z 21 1) y a 0,fS t (setZ z 21 1) y a 1,fS t (setZ z 21 1) y a 2,fS t (setZ z 21 1) y (a+4) 0,fS t (setZ z 21 1) y (a+4) 1,fS t (setZ z 21 1) y (a+4) 2,fN t y (a+8),fN t y (a+9),fN t y (a+10),fN t y (a+12)]
def cEye (l:List Nat):Ct:={ c with eye:=lst l }
theorem ey_ev:evGW Tryz.prog [] [kS Tryz.prog 16 (fun _=>iA 0)] [] [wOu,wOn t a z c 21,wPt t (setZ z 21 1) y,wDr t y,wFl t y,wAk,wMu] [] noL Tryz.f180 [.own 0 0] (M7 t a z c) [some 0,some 1,some 2,some 3,some 4,some 5,some 6] =
  qC 208 [] (.tup []) (M7 t a z c) (M7 t a z c) (
  qC 209 [.own 0 21] (.tup []) (M7 t a z c) (M7 t a (setZ z 21 1) c) (
  qC 210 [] (ptV t (setZ z 21 1) y a) (mE t z c a []) (mE t z c (a+3) []) (
  qAsk [116,111] (mE t z c (a+3) (ey1 t z y a)) (mE t z c (a+4) (ey1 t z y a)) (
  qC 210 [] (ptV t (setZ z 21 1) y (a+4)) (mE t z c (a+4) (ey1 t z y a)) (mE t z c (a+7) (ey1 t z y a)) (
  qAsk [117,112] (mE t z c (a+7) (ey2 t z y a)) (mE t z c (a+8) (ey2 t z y a)) (
  qC 211 [] (drV t y (a+8)) (mE t z c (a+8) (ey2 t z y a)) (mE t z c (a+11) (ey2 t z y a)) (
  qAsk [119,105,100,101] (mE t z c (a+11) (ey3 t z y a)) (mE t z c (a+12) (ey3 t z y a)) (
  qC 212 [] (.f (fN t y (a+12))) (mE t z c (a+12) (ey3 t z y a)) (mE t z c (a+13) (ey3 t z y a)) (
  qAsk [59] (mE t z c (a+13) (ey4 t z y a)) (mE t z c (a+14) (ey4 t z y a)) (
  gate (FSpec Tryz.prog 16 [.agg (eyK (ey4 t z y a))] (iA 0)) (
  qC 195 [iA 0] (.tup []) (mE t z c (a+14) (ey4 t z y a)) (mE t z c (a+14) (ey4 t z y a)) (
  gout (.tup []) (M7 t (a+14) (setZ z 21 1) (cEye c (ey4 t z y a))))))))))))))):=by kernel_rfl
def MN (a:Nat) (s:ByteArray):List Row:=[rdX t a z { pl0 with n:=7 } { c with nN:=c.nN+1 },rS c,rO c,rF c,rK c,rL c,dd,apR 9 1 c.nN (fun q=>[zA (c.N q)]) [zA s]]
theorem nn_ev:evGW Tryz.prog [] [kS Tryz.prog 233 (fun _=>bA false)] [] [wNm t,wRm] [] noL Tryz.f214 [.own 0 0] (M7 t a z c) (τ7 8) =
  qC 222 [] (zA (t.T a)) (M7 t a z c) (M7 t (a+1) z c) (
  cond (Nat.ble (0+c.nN) c.nN&&true) (gate (FSpec Tryz.prog 233 [nmSl c.nN (fun q=>c.N (0+q)),zA (t.T a)] (bA false)) (
  qC 196 [iA c.nN,iA 16] (.tup []) (M7 t (a+1) z c) (M7 t (a+1) z c) (
  cond (apB c.nN 16||false) (gout (.tup []) (MN t z c (a+1) (t.T a))) none))) none):=by kernel_rfl
end
end Go.Proofs.YtefphimaggjihaaGreatDoor.Pi.Rd

namespace Go.Proofs.YtefphimaggjihaaGreatDoor.Pi.Rd
open Go.Shelf Go.RowKit Go.Gv
section
variable (t:Tk) (a:Nat) (z:Nat→Int) (c:Ct)
def skL (l:List Int) (q:Nat):Int:=l.getD q 0
def skK (l:List Int):List AV:=[iA (skL l 0),iA (skL l 1),iA (skL l 2),iA (skL l 3),iA (skL l 4),iA (skL l 5),iA (skL l 6),iA (skL l 7),iA (skL l 8),iA (skL l 9)]
def mK (s:ByteArray) (a:Nat) (l:List Int):List Row:=MN t z c a s ++ [.c (skK l)]
def sk1 (a:Nat):List Int:=[t.N (a+2),t.N (a+3),t.N (a+4),0,0,0,0,0,0,0]
def sk2 (a:Nat):List Int:=[t.N (a+2),t.N (a+3),t.N (a+4),t.N (a+6),t.N (a+7),t.N (a+8),0,0,0,0]
def sk3 (a:Nat):List Int:=[t.N (a+2),t.N (a+3),t.N (a+4),t.N (a+6),t.N (a+7),t.N (a+8),t.N (a+10),t.N (a+11),t.N (a+12),0]
def sk4 (a:Nat):List Int:=[t.N (a+2),t.N (a+3),t.N (a+4),t.N (a+6),t.N (a+7),t.N (a+8),t.N (a+10),t.N (a+11),t.N (a+12),t.N (a+14)]
def MK (s:ByteArray) (a:Nat) (x:List AV):List Row:=[rdX t a z { pl0 with n:=7,k:=8 } { c with nN:=c.nN+1,nK:=c.nK+1 },rS c,rO c,rF c,dd,rL c,dd,apR 9 1 c.nN (fun q=>[zA (c.N q)]) [zA s],apR 47 10 c.nK c.K x]
noncomputable def wNn (s:ByteArray):WEntry:=wQ Tryz.prog 214 (fun _ _=>.tup []) (fun _ _=>MN t z c (a+1) s)
theorem sk_ev (s:ByteArray):evGW Tryz.prog [] [kS Tryz.prog 18 (fun _=>iA 0)] [] [wOu,wNn t a z c s,wCo t,wNu t,wAk,wMu] [] noL Tryz.f182 [.own 0 0] (M7 t a z c) [some 0,some 1,some 2,some 3,some 4,some 5,some 6,some 7,some 10] =
  qC 208 [] (.tup []) (M7 t a z c) (M7 t a z c) (
  qC 214 [] (.tup []) (M7 t a z c) (MN t z c (a+1) s) (
  qAsk [115,112,114,101,97,100] (mK t z c s (a+1) []) (mK t z c s (a+2) []) (
  qC 213 [iA 1000] (n3 t (a+2)) (mK t z c s (a+2) []) (mK t z c s (a+5) []) (
  qAsk [109,105,114,114,111,114] (mK t z c s (a+5) (sk1 t a)) (mK t z c s (a+6) (sk1 t a)) (
  qC 213 [iA 1000] (n3 t (a+6)) (mK t z c s (a+6) (sk1 t a)) (mK t z c s (a+9) (sk1 t a)) (
  qAsk [103,108,97,115,115] (mK t z c s (a+9) (sk2 t a)) (mK t z c s (a+10) (sk2 t a)) (
  qC 213 [iA 1000] (n3 t (a+10)) (mK t z c s (a+10) (sk2 t a)) (mK t z c s (a+13) (sk2 t a)) (
  qAsk [98,101,110,100] (mK t z c s (a+13) (sk3 t a)) (mK t z c s (a+14) (sk3 t a)) (
  qC 215 [] (iA (t.N (a+14))) (mK t z c s (a+14) (sk3 t a)) (mK t z c s (a+15) (sk3 t a)) (
  qAsk [59] (mK t z c s (a+15) (sk4 t a)) (mK t z c s (a+16) (sk4 t a)) (
  gate (FSpec Tryz.prog 18 [.agg (skK (sk4 t a))] (iA 0)) (
  qC 195 [iA 0] (.tup []) (mK t z c s (a+16) (sk4 t a)) (mK t z c s (a+16) (sk4 t a)) (
  cond ((apB c.nK 80||false)&&true) (gout (.tup []) (MK t z c s (a+16) (skK (sk4 t a)))) none))))))))))))):=by kernel_rfl
end
section
variable {t:Tk} {a:Nat} {z:Nat→Int} {c:Ct}
theorem qC_t {f:Nat} {args:List AV} {r:AV} {m m':List Row} (h:WSpec Tryz.prog f (.own 0 0::args) m r m') (k:Option Out):qC f args r m m' k=k:=by
  unfold qC
  rw [propB_t h]
  rfl
theorem qC_lf {f d:Nat} {args:List AV} {r:AV} {z':Nat→Int} (h:Lf t f args r a d z z') (ha:∀ σ,renL σ args=args) (hr:∀ σ,renA σ r=r) (o:Nat→AV) (rest:List Row) (k:Option Out):qC f args r (rdR t a z o::rest) (rdR t (a+d) z' o::rest) k=k:=qC_t (h.w ha hr o rest) k
theorem qAsk_t {s:List UInt8} (h:Has t a 1) (hs:t.T a=lB s) (o:Nat→AV) (rest:List Row) (k:Option Out):qAsk s (rdR t a z o::rest) (rdR t (a+1) z o::rest) k=k:=qC_lf (ask_spec z h hs) (fun _=>rfl) (fun _=>rfl) o rest k
/-- The tokens from a place on are these. -/
def Is (t:Tk) (a:Nat) (s:List UInt8):Prop:=t.T a=lB s
/-- A number that is shifted is near. -/
def ShOk (t:Tk) (z:Nat→Int) (a:Nat):Prop:=∀ i,i < 3→NumAt t (a+i)∧-1000000≤shN t z a i∧shN t z a i≤1000000
theorem vo_t (p q r:Int) (x:Option Out):gVo yI p q r x=x:=gate_pos (vecOf_spec p q r)
theorem point_spec (h:Has t a 3) (hn:ShOk t z a):Lf t 210 [] (ptV t z yI a) a 3 z z:=by
  have hb:∀ i,i < 3→FSpec Tryz.prog 172 [iA (shN t z a i)] (bA false):=fun i hi=>by
    have:=by_spec (shN t z a i)
    rw [byB_no (hn i hi).2.1 (hn i hi).2.2] at this
    exact this
  refine lf_mk (k_cons kS_ok (k_cons kS_ok k_nil)) (w_cons wQ_ok w_nil) Tryz.func210 (by kernel_rfl) (by kernel_rfl) rfl fun v=>(pt_ev0 t a z v yI).trans ?_
  unfold gBo
  rw [qW_t (three_spec z h fun i hi=>(hn i hi).1) (fun _=>rfl) (fun _=>rfl),gate_pos (hb 0 (by omega)),gate_pos (hb 1 (by omega)),gate_pos (hb 2 (by omega)),vo_t]
theorem direction_spec (h:Has t a 3) (hn:∀ i,i < 3→NumAt t (a+i)):Lf t 211 [] (drV t yI a) a 3 z z:=by
  refine lf_mk (k_cons kS_ok k_nil) (w_cons wQ_ok w_nil) Tryz.func211 (by kernel_rfl) (by kernel_rfl) rfl fun v=>(dr_ev t a z v yI).trans ?_
  rw [qW_t (three_spec z h hn) (fun _=>rfl) (fun _=>rfl),vo_t]
theorem Has.sub {t:Tk} {a k:Nat} (h:Has t a k) (i j:Nat) (hi:i+j≤k):Has t (a+i) j:=⟨by have:=h.1; omega,h.2⟩
theorem qPt_t {v:Nat→Value} {rest:List Row} (h:Has t a 3) (hn:ShOk t z a) (k:Option Out):qPt t z v yI a rest k=k:=qW_t (point_spec h hn) (fun _=>rfl) (fun _=>rfl) _ _ _
theorem qDr_t {v:Nat→Value} {rest:List Row} (h:Has t a 3) (hn:∀ i,i < 3→NumAt t (a+i)) (k:Option Out):qDr t z v yI a rest k=k:=qW_t (direction_spec h hn) (fun _=>rfl) (fun _=>rfl) _ _ _
theorem qFl_t {v:Nat→Value} {rest:List Row} (h:Has t a 1) (hn:NumAt t a) (k:Option Out):qFl t z v yI a rest k=k:=qW_t (float_spec z h hn) (fun _=>rfl) (fun _=>rfl) _ _ _
theorem qAk_t {v:Nat→Value} {rest:List Row} {s:List UInt8} (h:Has t a 1) (hs:Is t a s) (k:Option Out):qAk t z v a rest s k=k:=qW_t (ask_spec z h hs) (fun _=>rfl) (fun _=>rfl) _ _ _
theorem sh_kk {y:Int→Nat}:∀ e,e ∈ shWs t z y→WEOk Tryz.prog e:=w_cons wQ_ok (w_cons wQ_ok (w_cons wQ_ok (w_cons wQ_ok w_nil)))
def radT:List UInt8:=[114,97,100,105,117,115]
theorem ball_spec (h:Has t a 5) (h0:ShOk t z a) (h1:Is t (a+3) radT) (h2:NumAt t (a+4)):Lf t 187 [] (.agg (cBa t z yI a)) a 5 z z:=by
  refine lf_mk k_nil sh_kk Tryz.func187 (by kernel_rfl) (by kernel_rfl) rfl fun v=>(ba_ev t a z v yI).trans ?_
  refine (qPt_t (a:=a) (h.sub 0 3 (by omega)) h0 _).trans ?_
  refine (qAk_t (h.sub 3 1 (by omega)) h1 _).trans ?_
  refine (qFl_t (h.sub 4 1 (by omega)) h2 _).trans ?_
  rfl
theorem block_spec (h:Has t a 7) (h0:ShOk t z a) (h1:Is t (a+3) [116,111]) (h2:ShOk t z (a+4)):Lf t 188 [] (.agg (cBk t z yI a)) a 7 z z:=by
  refine lf_mk k_nil sh_kk Tryz.func188 (by kernel_rfl) (by kernel_rfl) rfl fun v=>(bk_ev t a z v yI).trans ?_
  refine (qPt_t (a:=a) (h.sub 0 3 (by omega)) h0 _).trans ?_
  refine (qAk_t (h.sub 3 1 (by omega)) h1 _).trans ?_
  refine (qPt_t (h.sub 4 3 (by omega)) h2 _).trans ?_
  rfl
theorem tri_spec (h:Has t a 11) (h0:ShOk t z a) (h1:Is t (a+3) [44]) (h2:ShOk t z (a+4)) (h3:Is t (a+7) [44]) (h4:ShOk t z (a+8)):Lf t 190 [] (.agg (cTr t z yI a)) a 11 z z:=by
  refine lf_mk k_nil sh_kk Tryz.func190 (by kernel_rfl) (by kernel_rfl) rfl fun v=>(tr_ev t a z v yI).trans ?_
  refine (qPt_t (a:=a) (h.sub 0 3 (by omega)) h0 _).trans ?_
  refine (qAk_t (h.sub 3 1 (by omega)) h1 _).trans ?_
  refine (qPt_t (h.sub 4 3 (by omega)) h2 _).trans ?_
  refine (qAk_t (h.sub 7 1 (by omega)) h3 _).trans ?_
  refine (qPt_t (h.sub 8 3 (by omega)) h4 _).trans ?_
  rfl
theorem round_spec {k:Int} {w:List UInt8} (h:Has t a 9) (h0:ShOk t z a) (h1:Is t (a+3) w) (h2:∀ i,i < 3→NumAt t (a+4+i)) (h3:Is t (a+7) radT) (h4:NumAt t (a+8)):Lf t 220 [iA k,zA (lB w)] (.agg (cRo t z yI k a)) a 9 z z:=by
  refine lf_mk k_nil sh_kk Tryz.func220 (by kernel_rfl) (by kernel_rfl) rfl fun v=>(rd_ev t a z v yI k w).trans ?_
  refine (qPt_t (a:=a) (h.sub 0 3 (by omega)) h0 _).trans ?_
  refine (qAk_t (h.sub 3 1 (by omega)) h1 _).trans ?_
  refine (qDr_t (h.sub 4 3 (by omega)) h2 _).trans ?_
  refine (qAk_t (h.sub 7 1 (by omega)) h3 _).trans ?_
  refine (qFl_t (h.sub 8 1 (by omega)) h4 _).trans ?_
  rfl
theorem qRo_t {v:Nat→Value} {rest:List Row} {k:Int} {w:List UInt8} (h:Lf t 220 [iA k,zA (lB w)] (.agg (cRo t z yI k a)) a 9 z z) (x:Option Out):qRo t z v yI k w a rest x=x:=qW_t h (fun _=>rfl) (fun _=>rfl) _ _ _
theorem plate_spec (h:Lf t 220 [iA 4,zA (lB [117,112])] (.agg (cRo t z yI 4 a)) a 9 z z):Lf t 191 [] (.agg (cRo t z yI 4 a)) a 9 z z :=
  lf_mk k_nil (w_cons wQ_ok w_nil) Tryz.func191 (by kernel_rfl) (by kernel_rfl) rfl fun v=>(pl_ev' t a z v yI).trans (qRo_t h _)
theorem tube_spec (h:Lf t 220 [iA 5,zA (lB [97,108,111,110,103])] (.agg (cRo t z yI 5 a)) a 9 z z):Lf t 189 [] (.agg (cRo t z yI 5 a)) a 9 z z :=
  lf_mk k_nil (w_cons wQ_ok w_nil) Tryz.func189 (by kernel_rfl) (by kernel_rfl) rfl fun v=>(tu_ev t a z v yI).trans (qRo_t h _)
theorem ring_spec (h:Lf t 220 [iA 6,zA (lB [117,112])] (.agg (cRo t z yI 6 a)) a 9 z z) (hh:Has t (a+9) 1) (h2:NumAt t (a+9)):Lf t 192 [] (.agg (cRi t z yI a)) a 10 z z:=by
  refine lf_mk k_nil (w_cons wQ_ok (w_cons wQ_ok w_nil)) Tryz.func192 (by kernel_rfl) (by kernel_rfl) rfl fun v=>(ri_ev t a z v yI).trans ?_
  refine (qRo_t h _).trans ?_
  refine (qFl_t hh h2 _).trans ?_
  rfl
theorem keepShape_spec {j:Int} {a0 a1 a2 b0 b1 b2 c0 c1 c2 r q w:Nat} (h:Has t a 2) (hk:Nam t c a w) (h1:Is t (a+1) [59]) (hm:FSpec Tryz.prog 98 [.agg (scK j a0 a1 a2 b0 b1 b2 c0 c1 c2 r q (w:Nat))] (iA 0)) (hn:c.nS < 64) :
    GSpec Tryz.prog 170 [.own 0 0,.agg (scK j a0 a1 a2 b0 b1 b2 c0 c1 c2 r q 0)] (M7 t a z c) (.tup []) (MS t z c (a+2) (scK j a0 a1 a2 b0 b1 b2 c0 c1 c2 r q (w:Nat))):=by
  refine gspecGW e_nil (k_cons kS_ok k_nil) m_nil (w_cons wQ_ok (w_cons wQ_ok (w_cons wQ_ok (w_cons wQ_ok w_nil)))) r_nil Tryz.func170 (by kernel_rfl) (by kernel_rfl) (mem:=M7 t a z c) noL_okN rfl (τ:=τ7 9) (by rfl) ((ks_ev t a z c (w:Nat) j a0 a1 a2 b0 b1 b2 c0 c1 c2 r q).trans ?_)
  refine (qC_t (wear_w (a:=a) (h.sub 0 1 (by omega)) hk _) _).trans ?_
  refine (qAsk_t (a:=a+1) (h.sub 1 1 (by omega)) h1 _ _ _).trans ?_
  refine (gate_pos hm).trans ?_
  refine (qC_lf (must_spec t (a+2) z) (fun _=>rfl) (fun _=>rfl) _ _ _).trans ?_
  refine (qC_lf (room_spec t (a+2) z (x:=c.nS) (y:=64) (by omega)) (fun _=>rfl) (fun _=>rfl) _ _ _).trans ?_
  rw [apB_t (by omega)]
  rfl
theorem lamp_spec (h:Has t a 8) (h0:ShOk t z a) (h1:Is t (a+3) [108,105,103,104,116]) (h2:∀ i,i < 3→WhoAt t 65536 (a+4+i)) (h3:Is t (a+7) [59]) (hn:c.nL < 4):GSpec Tryz.prog 183 [.own 0 0] (M7 t a z c) (.tup []) (ML t z c (a+8) (lm2 t z yI a)):=by
  refine gspecGW e_nil k_nil m_nil (w_cons wQ_ok (w_cons wQ_ok (w_cons wQ_ok (w_cons wQ_ok w_nil)))) r_nil Tryz.func183 (by kernel_rfl) (by kernel_rfl) (mem:=M7 t a z c) noL_okN rfl (τ:=τ7 9) (by rfl) ((lp_ev t a z c yI).trans ?_)
  refine (qC_lf (point_spec (a:=a) (h.sub 0 3 (by omega)) h0) (fun _=>rfl) (fun _=>rfl) _ _ _).trans ?_
  refine (qAsk_t (a:=a+3) (h.sub 3 1 (by omega)) h1 _ _ _).trans ?_
  refine (qC_lf (colours_spec z (h.sub 4 3 (by omega)) h2) (fun _=>rfl) (fun _=>rfl) _ _ _).trans ?_
  refine (qAsk_t (a:=a+7) (h.sub 7 1 (by omega)) h3 _ _ _).trans ?_
  refine (qC_lf (room_spec t (a+8) z (x:=c.nL) (y:=4) (by omega)) (fun _=>rfl) (fun _=>rfl) _ _ _).trans ?_
  rw [apB_t (by omega)]
  rfl
def τ6:List (Option Nat):=[some 0,some 1,some 2,some 3,some 4,some 5,some 6]
theorem sky_spec (h:Has t a 4) (hz:z 23=0) (hz2:z 22=0) (h1:∀ i,i < 3→WhoAt t 65536 (a+i)) (h2:Is t (a+3) [59]):GSpec Tryz.prog 181 [.own 0 0] (M7 t a z c) (.tup []) (M7 t (a+4) (setZ z 22 1) (cSky t c a)):=by
  refine gspecGW e_nil k_nil m_nil (w_cons wQ_ok (w_cons wQ_ok (w_cons wQ_ok (w_cons wQ_ok w_nil)))) r_nil Tryz.func181 (by kernel_rfl) (by kernel_rfl) (mem:=M7 t a z c) noL_okN rfl (τ:=τ6) (by rfl) ((sy_ev t a z c).trans ?_)
  refine (qC_lf (outside_spec t a hz) (fun _=>rfl) (fun _=>rfl) _ _ _).trans ?_
  refine (qC_t ((once2_spec t a hz2).w1 rfl (fun _=>rfl) _ _) _).trans ?_
  refine (qC_lf (colours_spec (setZ z 22 1) (a:=a) (h.sub 0 3 (by omega)) h1) (fun _=>rfl) (fun _=>rfl) _ _ _).trans ?_
  refine (qAsk_t (a:=a+3) (h.sub 3 1 (by omega)) h2 _ _ _).trans ?_
  rfl
theorem eye_spec (h:Has t a 14) (hz:z 23=0) (hz2:z 21=0) (h0:ShOk t (setZ z 21 1) a) (h1:Is t (a+3) [116,111]) (h2:ShOk t (setZ z 21 1) (a+4)) (h3:Is t (a+7) [117,112]) (h4:∀ i,i < 3→NumAt t (a+8+i)) (h5:Is t (a+11) [119,105,100,101]) (h6:NumAt t (a+12)) (h7:Is t (a+13) [59])
    (hm:FSpec Tryz.prog 16 [.agg (eyK (ey4 t z yI a))] (iA 0)):GSpec Tryz.prog 180 [.own 0 0] (M7 t a z c) (.tup []) (M7 t (a+14) (setZ z 21 1) (cEye c (ey4 t z yI a))):=by
  refine gspecGW e_nil (k_cons kS_ok k_nil) m_nil (w_cons wQ_ok (w_cons wQ_ok (w_cons wQ_ok (w_cons wQ_ok (w_cons wQ_ok (w_cons wQ_ok (w_cons wQ_ok w_nil))))))) r_nil Tryz.func180 (by kernel_rfl) (by kernel_rfl) (mem:=M7 t a z c) noL_okN rfl (τ:=τ6) (by rfl) ((ey_ev t a z c yI).trans ?_)
  refine (qC_lf (outside_spec t a hz) (fun _=>rfl) (fun _=>rfl) _ _ _).trans ?_
  refine (qC_t ((once1_spec t a hz2).w1 rfl (fun _=>rfl) _ _) _).trans ?_
  refine (qC_lf (point_spec (a:=a) (h.sub 0 3 (by omega)) h0) (fun _=>rfl) (fun _=>rfl) _ _ _).trans ?_
  refine (qAsk_t (a:=a+3) (h.sub 3 1 (by omega)) h1 _ _ _).trans ?_
  refine (qC_lf (point_spec (a:=a+4) (h.sub 4 3 (by omega)) h2) (fun _=>rfl) (fun _=>rfl) _ _ _).trans ?_
  refine (qAsk_t (a:=a+7) (h.sub 7 1 (by omega)) h3 _ _ _).trans ?_
  refine (qC_lf (direction_spec (a:=a+8) (h.sub 8 3 (by omega)) h4) (fun _=>rfl) (fun _=>rfl) _ _ _).trans ?_
  refine (qAsk_t (a:=a+11) (h.sub 11 1 (by omega)) h5 _ _ _).trans ?_
  refine (qC_lf (float_spec (a:=a+12) _ (h.sub 12 1 (by omega)) h6) (fun _=>rfl) (fun _=>rfl) _ _ _).trans ?_
  refine (qAsk_t (a:=a+13) (h.sub 13 1 (by omega)) h7 _ _ _).trans ?_
  refine (gate_pos hm).trans ?_
  refine (qC_lf (must_spec t (a+14) _) (fun _=>rfl) (fun _=>rfl) _ _ _).trans ?_
  rfl
theorem newName_spec (h:Has t a 1) (hnm:FSpec Tryz.prog 237 [zA (t.T a)] (bA true)) (hno:∀ j,j < c.nN→c.N j≠t.T a) (hn:c.nN < 16):GSpec Tryz.prog 214 [.own 0 0] (M7 t a z c) (.tup []) (MN t z c (a+1) (t.T a)):=by
  have h3:(Nat.ble (0+c.nN) c.nN&&true)=true:=by rw [Nat.zero_add,Nat.ble_eq_true_of_le (Nat.le_refl _)]; rfl
  have h4:FSpec Tryz.prog 233 [nmSl c.nN (fun q=>c.N (0+q)),zA (t.T a)] (bA false):=contains_no (N:=fun q=>c.N (0+q)) (by omega) fun j hj=>by rw [Nat.zero_add]; exact hno j hj
  refine gspecGW e_nil (k_cons kS_ok k_nil) m_nil (w_cons wQ_ok (w_cons wQ_ok w_nil)) r_nil Tryz.func214 (by kernel_rfl) (by kernel_rfl) (mem:=M7 t a z c) noL_okN rfl (τ:=τ7 8) (by rfl) ((nn_ev t a z c).trans ?_)
  refine (qC_lf (rname_spec z h hnm) (fun _=>rfl) (fun _=>rfl) _ _ _).trans ?_
  rw [h3]
  refine (gate_pos h4).trans ?_
  refine (qC_lf (room_spec t (a+1) z (x:=c.nN) (y:=16) (by omega)) (fun _=>rfl) (fun _=>rfl) _ _ _).trans ?_
  rw [apB_t (by omega)]
  rfl
theorem skin_spec (h:Has t a 16) (hz:z 23=0) (hnm:FSpec Tryz.prog 237 [zA (t.T a)] (bA true)) (hno:∀ j,j < c.nN→c.N j≠t.T a) (hn:c.nN < 16) (hk:c.nK < 1000) (h1:Is t (a+1) [115,112,114,101,97,100]) (h2:∀ i,i < 3→WhoAt t 1000 (a+2+i)) (h3:Is t (a+5) [109,105,114,114,111,114]) (h4:∀ i,i < 3→WhoAt t 1000 (a+6+i))
    (h5:Is t (a+9) [103,108,97,115,115]) (h6:∀ i,i < 3→WhoAt t 1000 (a+10+i)) (h7:Is t (a+13) [98,101,110,100]) (h8:NumAt t (a+14)) (h9:Is t (a+15) [59]) (hm:FSpec Tryz.prog 18 [.agg (skK (sk4 t a))] (iA 0)) :
    GSpec Tryz.prog 182 [.own 0 0] (M7 t a z c) (.tup []) (MK t z c (t.T a) (a+16) (skK (sk4 t a))):=by
  refine gspecGW e_nil (k_cons kS_ok k_nil) m_nil (w_cons wQ_ok (w_cons wQ_ok (w_cons wQ_ok (w_cons wQ_ok (w_cons wQ_ok (w_cons wQ_ok w_nil)))))) r_nil Tryz.func182 (by kernel_rfl) (by kernel_rfl) (mem:=M7 t a z c) noL_okN rfl (τ:=[some 0,some 1,some 2,some 3,some 4,some 5,some 6,some 7,some 10]) (by rfl) ((sk_ev t a z c (t.T a)).trans ?_)
  refine (qC_lf (outside_spec t a hz) (fun _=>rfl) (fun _=>rfl) _ _ _).trans ?_
  refine (qC_t (wspec_of (newName_spec (a:=a) (h.sub 0 1 (by omega)) hnm hno hn)) _).trans ?_
  refine (qAsk_t (a:=a+1) (h.sub 1 1 (by omega)) h1 _ _ _).trans ?_
  refine (qC_lf (colours_spec z (h.sub 2 3 (by omega)) h2) (fun _=>rfl) (fun _=>rfl) _ _ _).trans ?_
  refine (qAsk_t (a:=a+5) (h.sub 5 1 (by omega)) h3 _ _ _).trans ?_
  refine (qC_lf (colours_spec z (h.sub 6 3 (by omega)) h4) (fun _=>rfl) (fun _=>rfl) _ _ _).trans ?_
  refine (qAsk_t (a:=a+9) (h.sub 9 1 (by omega)) h5 _ _ _).trans ?_
  refine (qC_lf (colours_spec z (h.sub 10 3 (by omega)) h6) (fun _=>rfl) (fun _=>rfl) _ _ _).trans ?_
  refine (qAsk_t (a:=a+13) (h.sub 13 1 (by omega)) h7 _ _ _).trans ?_
  refine (qC_lf (number_spec z (h.sub 14 1 (by omega)) h8) (fun _=>rfl) (fun _=>rfl) _ _ _).trans ?_
  refine (qAsk_t (a:=a+15) (h.sub 15 1 (by omega)) h9 _ _ _).trans ?_
  refine (gate_pos hm).trans ?_
  refine (qC_lf (must_spec t (a+16) z) (fun _=>rfl) (fun _=>rfl) _ _ _).trans ?_
  rw [apB_t (by omega)]
  rfl
end
end Go.Proofs.YtefphimaggjihaaGreatDoor.Pi.Rd

namespace Go.Proofs.YtefphimaggjihaaGreatDoor.Pi.Rd
open Go.Shelf Go.RowKit Go.Gv
def fnA (f:Nat):AV:=.fn (.func f) [] []
def teL:List AV:=[zA (lB [101,121,101]),fnA 180,zA (lB [115,107,121]),fnA 181,zA (lB [115,107,105,110]),fnA 182,zA (lB [108,97,109,112]),fnA 183,zA (lB [115,111,108,105,100]),fnA 184,zA (lB [102,105,101,108,100]),fnA 185,zA (lB [114,101,112,101,97,116]),fnA 186]
def maL:List AV:=[zA (lB [98,97,108,108]),bA true,fnA 187,zA (lB [98,108,111,99,107]),bA true,fnA 188,zA (lB [116,117,98,101]),bA true,fnA 189,zA (lB [116,114,105]),bA false,fnA 190,zA (lB [112,108,97,116,101]),bA false,fnA 191,zA (lB [114,105,110,103]),bA false,fnA 192]
def teV:AV:=.sl 2 7 fun i=>chunk teL 2 (0+i)
def maV:AV:=.sl 3 6 fun i=>chunk maL 3 (0+i)
theorem te_spec:FSpec Tryz.prog 168 [] teV:=gspec e_nil k_nil Tryz.func168 (by kernel_rfl) (by kernel_rfl) noL_ok rfl (show ev Tryz.prog [] [] noL Tryz.f168 [] ret=some (Out.of teV) by kernel_rfl)
theorem ma_spec:FSpec Tryz.prog 169 [] maV:=gspec e_nil k_nil Tryz.func169 (by kernel_rfl) (by kernel_rfl) noL_ok rfl (show ev Tryz.prog [] [] noL Tryz.f169 [] ret=some (Out.of maV) by kernel_rfl)
end Go.Proofs.YtefphimaggjihaaGreatDoor.Pi.Rd
