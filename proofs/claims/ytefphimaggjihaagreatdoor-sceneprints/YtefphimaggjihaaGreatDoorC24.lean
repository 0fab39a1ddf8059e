/-
  Sc4 Sc5 U7 U9 U8 Ua Gya Gyx Uc Ue Uf Ug Uh Ui Hm1 Mk0 Sx1 Fl2 Fl4 Fl5 Fl3 Fl6 Fl7 Fl8 Fl9 Fl10 Fl11 Fl12 Fl13 Fl14 Wh0 Hg0 Hg1 Sx4, one behind the other.
-/
import Derived.Test.YtefphimaggjihaaGreatDoorC23
import Derived.Test.YtefphimaggjihaaGreatDoorC21
namespace Go.Proofs.YtefphimaggjihaaGreatDoor.Hs.Sc
open Go.Gv So Fm
open Go.Ev (cn fadd fsub fmul fdiv fsqrt fneg feq flt fle fgt fge fabs isNan)

theorem th_spec {s:Scn} (h1:s.nS≤1000) (h2:s.nO≤1000) (h3:s.nF≤1000):FSpec Tryz.prog 43 [.agg s.c] (iA (thE s)):=by
  refine gspec e_nil k_nil Tryz.func43 (by kernel_rfl) (by kernel_rfl) (lok_cons (lok_at 0 3 (by kernel_rfl) (by kernel_rfl) (t1_sound h1)) (lok_cons (lok_at 1 3 (by kernel_rfl) (by kernel_rfl) (t2_sound h2)) (lok_cons (lok_at 2 3 (by kernel_rfl) (by kernel_rfl) (t3_sound h3)) lok_nil))) rfl ((t_ev s (eS s) (eO s) (eF s)).trans ?_)
  rw [lpO_t,lpO_t,lpO_t]
  unfold thE
  cases hs:seqE (eS s) s.nS==0
  · rfl
  · cases ho:seqE (eO s) s.nO==0
    · rfl
    · cases hf:seqE (eF s) s.nF==0
      · rfl
      · rw [cond_true,cond_true,cond_true,cond_true,cond_true,eq_of_beq hf]; rfl
theorem m_ev0 (s:Scn) (tm:Bool):ev Tryz.prog [] [kS Tryz.prog 42 (fun _=>bA tm)] (manyL [(4,fun _ _=>none),(14,fun _ _=>none)]) Tryz.f14 [.agg s.c] ret=gate (FSpec Tryz.prog 42 [.agg s.c] (bA tm)) (cond tm (oI 4) none):=by kernel_rfl
theorem sc_spec (s:Scn):FSpec Tryz.prog 14 [.agg s.c] (iA (scE s)):=by
  cases ht:tmB s
  · obtain ⟨a1,a2,a3,a4,a5⟩:=tm_few s ht
    refine gspec e_nil (k_cons kS_ok (k_cons kS_ok (k_cons kS_ok (k_cons kS_ok k_nil)))) Tryz.func14 (by kernel_rfl) (by kernel_rfl) (lok_cons (lok_at 0 2 (by kernel_rfl) (by kernel_rfl) (m1_sound (by omega))) (lok_cons (lok_at 1 2 (by kernel_rfl) (by kernel_rfl) (m2_sound (by omega))) lok_nil)) rfl ((m_ev s (eK s) (eL s) (tmB s) (liB s.sky) (thE s) (eyE s.eye)).trans ?_)
    rw [gate_pos (tm_spec s),gate_pos (th_spec (by omega) (by omega) (by omega)),gate_pos (li_spec _),gate_pos (ey_spec _),lpO_t,lpO_t,ht]
    unfold scE
    rw [ht]
    cases hk:seqE (eK s) s.nK==0
    · rfl
    · cases hh:thE s==0
      · rfl
      · cases hl:seqE (eL s) s.nL==0
        · rfl
        · cases liB s.sky<;>rfl
  · have e:scE s=4:=by unfold scE; rw [ht]; rfl
    rw [e]
    refine gspec e_nil (k_cons kS_ok k_nil) Tryz.func14 (by kernel_rfl) (by kernel_rfl) (lok_cons (lok_none 4) (lok_cons (lok_none 14) lok_nil)) rfl ((m_ev0 s (tmB s)).trans ?_)
    rw [gate_pos (tm_spec s),ht]; rfl
theorem eRL_ok:EOk Tryz.prog ⟨50,eL3 liB⟩:=fun args r hr=>by
  simp only [eL3] at hr
  split at hr
  · rename_i a b c
    cases hr; exact Or.inl (rli_spec fun q=>match q with | 0=>a | 1=>b | _=>c)
  · cases hr
def RL:List Entry:=⟨50,eL3 liB⟩::R2
theorem RL_ok:∀ e,e ∈ RL→EOk Tryz.prog e:=e_cons eRL_ok R2_ok
section
variable (fk:List AV→Int) (s:Scn) (sl:Nat) (i:Int)
def rS:St:=mkS 169 [(1,.own 0 0),(sl,iA i)] [.c s.c]
def rE (e:Int):St:=mkS 169 [(2,iA e)] []
noncomputable def rtC (f:Nat) (n:Nat) (c:Nat→List AV) (sk:Nat→Int) (o:Option Out) (r:Int→Option Out) (oe:Option Out):Option Out:=cond (decide (i < n)) (cond (ixB i n||false) (gate (FSpec Tryz.prog f [.agg (c i.toNat)] (iA (fk (c i.toNat)))) (cond (!(fk (c i.toNat)==0)) (r (fk (c i.toNat))) (cond ((ixB i n||false)&&true) (cond (decide (sk i.toNat ≥ (s.nK:Int))) (r 9) o) none))) none) oe
def rlC (o:Option Out) (r:Int→Option Out) (oe:Option Out):Option Out:=cond (decide (i < s.nL)) (cond (ixB i s.nL||false) (cond (!fineS (s.LA i.toNat 0) (s.LA i.toNat 1) (s.LA i.toNat 2)) (r 1) (cond (ixB i s.nL||false) (cond (!liB (s.LL i.toNat)) (r 6) o) none)) none) oe
theorem r1_step:evC Tryz.prog [] [kS Tryz.prog 19 (gO fk)] noL (loopAt Tryz.f15 0) (rS s 3 i) (finN [1,3] [some 0])=mlC 19 s.nK (fun q=>skC (s.K q)) fk i (some ⟨.normal,rS s 3 (w64 (i+1)),.any⟩) (fun _=>none) none:=by kernel_rfl
theorem r1_ret:evC Tryz.prog [] [kS Tryz.prog 19 (gO fk)] noL (loopAt Tryz.f15 0) (rS s 3 i) (finR [2] [])=mlC 19 s.nK (fun q=>skC (s.K q)) fk i none (fun e=>some ⟨.ret,rE e,.any⟩) none:=by kernel_rfl
theorem r1_end:evC Tryz.prog [] [kS Tryz.prog 19 (gO fk)] noL (loopAt Tryz.f15 0) (rS s 3 i) (finE [1,3] [some 0])=mlC 19 s.nK (fun q=>skC (s.K q)) fk i none (fun _=>none) (some ⟨.exit 0,rS s 3 i,.any⟩):=by kernel_rfl
theorem r2_step:evC Tryz.prog [] [kS Tryz.prog 46 (gO fk)] noL (loopAt Tryz.f15 1) (rS s 5 i) (finN [1,5] [some 0])=rtC fk s i 46 s.nS (fun q=>(s.S q).c) (fun q=>(s.S q).sk) (some ⟨.normal,rS s 5 (w64 (i+1)),.any⟩) (fun _=>none) none:=by kernel_rfl
theorem r2_ret:evC Tryz.prog [] [kS Tryz.prog 46 (gO fk)] noL (loopAt Tryz.f15 1) (rS s 5 i) (finR [2] [])=rtC fk s i 46 s.nS (fun q=>(s.S q).c) (fun q=>(s.S q).sk) none (fun e=>some ⟨.ret,rE e,.any⟩) none:=by kernel_rfl
theorem r2_end:evC Tryz.prog [] [kS Tryz.prog 46 (gO fk)] noL (loopAt Tryz.f15 1) (rS s 5 i) (finE [1,5] [some 0])=rtC fk s i 46 s.nS (fun q=>(s.S q).c) (fun q=>(s.S q).sk) none (fun _=>none) (some ⟨.exit 2,rS s 5 i,.any⟩):=by kernel_rfl
theorem r3_step:evC Tryz.prog [] [kS Tryz.prog 47 (gO fk)] noL (loopAt Tryz.f15 2) (rS s 7 i) (finN [1,7] [some 0])=rtC fk s i 47 s.nO (fun q=>(s.O q).c) (fun q=>(s.O q).sk) (some ⟨.normal,rS s 7 (w64 (i+1)),.any⟩) (fun _=>none) none:=by kernel_rfl
theorem r3_ret:evC Tryz.prog [] [kS Tryz.prog 47 (gO fk)] noL (loopAt Tryz.f15 2) (rS s 7 i) (finR [2] [])=rtC fk s i 47 s.nO (fun q=>(s.O q).c) (fun q=>(s.O q).sk) none (fun e=>some ⟨.ret,rE e,.any⟩) none:=by kernel_rfl
theorem r3_end:evC Tryz.prog [] [kS Tryz.prog 47 (gO fk)] noL (loopAt Tryz.f15 2) (rS s 7 i) (finE [1,7] [some 0])=rtC fk s i 47 s.nO (fun q=>(s.O q).c) (fun q=>(s.O q).sk) none (fun _=>none) (some ⟨.exit 4,rS s 7 i,.any⟩):=by kernel_rfl
theorem r4_step:evC Tryz.prog [] [kS Tryz.prog 48 (gO fk)] noL (loopAt Tryz.f15 3) (rS s 9 i) (finN [1,9] [some 0])=rtC fk s i 48 s.nF (fun q=>(s.F q).c) (fun q=>(s.F q).sk) (some ⟨.normal,rS s 9 (w64 (i+1)),.any⟩) (fun _=>none) none:=by kernel_rfl
theorem r4_ret:evC Tryz.prog [] [kS Tryz.prog 48 (gO fk)] noL (loopAt Tryz.f15 3) (rS s 9 i) (finR [2] [])=rtC fk s i 48 s.nF (fun q=>(s.F q).c) (fun q=>(s.F q).sk) none (fun e=>some ⟨.ret,rE e,.any⟩) none:=by kernel_rfl
theorem r4_end:evC Tryz.prog [] [kS Tryz.prog 48 (gO fk)] noL (loopAt Tryz.f15 3) (rS s 9 i) (finE [1,9] [some 0])=rtC fk s i 48 s.nF (fun q=>(s.F q).c) (fun q=>(s.F q).sk) none (fun _=>none) (some ⟨.exit 6,rS s 9 i,.any⟩):=by kernel_rfl
theorem r5_step:evC Tryz.prog RL [] noL (loopAt Tryz.f15 4) (rS s 11 i) (finN [1,11] [some 0])=rlC s i (some ⟨.normal,rS s 11 (w64 (i+1)),.any⟩) (fun _=>none) none:=by kernel_rfl
theorem r5_ret:evC Tryz.prog RL [] noL (loopAt Tryz.f15 4) (rS s 11 i) (finR [2] [])=rlC s i none (fun e=>some ⟨.ret,rE e,.any⟩) none:=by kernel_rfl
theorem r5_end:evC Tryz.prog RL [] noL (loopAt Tryz.f15 4) (rS s 11 i) (finE [1,11] [some 0])=rlC s i none (fun _=>none) (some ⟨.exit 8,rS s 11 i,.any⟩):=by kernel_rfl
end
section
variable (s:Scn) (f1 f2 f3 f4 f5:Nat→Int) (ey:Int)
noncomputable def rL:Nat→Option LFun:=manyL [(4,mayT [1,3] [some 0] (rS s 3) (.exit 0) rE f1 s.nK),(10,mayT [1,5] [some 0] (rS s 5) (.exit 2) rE f2 s.nS),(18,mayT [1,7] [some 0] (rS s 7) (.exit 4) rE f3 s.nO),(26,mayT [1,9] [some 0] (rS s 9) (.exit 6) rE f4 s.nF),(34,mayT [1,11] [some 0] (rS s 11) (.exit 8) rE f5 s.nL)]
theorem r_ev:ev Tryz.prog RL [kS Tryz.prog 17 (fun _=>iA ey)] (rL s f1 f2 f3 f4 f5) Tryz.f15 [.agg s.c] ret=cond (tmB s) (oI 4) (lpO f1 s.nK (rS s 3 0) (lpO f2 s.nS (rS s 5 0) (lpO f3 s.nO (rS s 7 0) (lpO f4 s.nF (rS s 9 0) (lpO f5 s.nL (rS s 11 0) (cond (!liB s.sky) (oI 6) (gate (FSpec Tryz.prog 17 [.agg (eyC s.eye)] (iA ey)) (oI ey)))))))):=by kernel_rfl
theorem r_ev0:ev Tryz.prog RL [] (manyL [(4,fun _ _=>none),(10,fun _ _=>none),(18,fun _ _=>none),(26,fun _ _=>none),(34,fun _ _=>none)]) Tryz.f15 [.agg s.c] ret=cond (tmB s) (oI 4) none:=by kernel_rfl
end
end Go.Proofs.YtefphimaggjihaaGreatDoor.Hs.Sc

namespace Go.Proofs.YtefphimaggjihaaGreatDoor.Hs.Sc
open Go.Gv So Fm
open Go.Ev (cn fadd fsub fmul fdiv fsqrt fneg feq flt fle fgt fge fabs isNan)

theorem rtC_t {f n:Nat} {c:Nat→List AV} {g:List AV→Int} {s:Scn} {sk:Nat→Int} {k:Nat} (hk:k < n) (h:FSpec Tryz.prog f [.agg (c k)] (iA (g (c k)))) (o:Option Out) (r:Int→Option Out) (oe:Option Out):rtC g s (k:Nat) f n c sk o r oe=cond (weE (g (c k)) (sk k) s.nK==0) o (r (weE (g (c k)) (sk k) s.nK)):=by
  unfold rtC weE
  rw [dec_lt hk,ixB_t hk,Int.toNat_natCast,gate_pos h]
  cases hg:g (c k)==0
  · show r (g (c k))=cond (g (c k)==0) o (r (g (c k)))
    rw [hg]; rfl
  · cases decide (sk k ≥ (s.nK:Int))<;>rfl
theorem rtC_e (f n:Nat) (c:Nat→List AV) (g:List AV→Int) (s:Scn) (sk:Nat→Int) (o:Option Out) (r:Int→Option Out) (oe:Option Out):rtC g s (n:Nat) f n c sk o r oe=oe:=by
  unfold rtC
  rw [dec_self,cond_false]
theorem rlC_t {s:Scn} {k:Nat} (hk:k < s.nL) (o:Option Out) (r:Int→Option Out) (oe:Option Out):rlC s (k:Nat) o r oe=cond (eL s k==0) o (r (eL s k)):=by
  unfold rlC eL lmE
  rw [dec_lt hk,ixB_t hk,Int.toNat_natCast]
  cases fineS (s.LA k 0) (s.LA k 1) (s.LA k 2)<;>cases liB (s.LL k)<;>rfl
section
variable {s:Scn}
theorem r1_sound (h:s.nK≤1000):LSound Tryz.prog (loopAt Tryz.f15 0) (mayT [1,3] [some 0] (rS s 3) (.exit 0) rE (eK s) s.nK):=by
  refine mayT_sound (by simp) (fun k hk hb=>?_) (fun k hk hb=>?_) ?_
  · refine leads_ev (finN_sub _ _) e_nil k1_ok noL_ok ((r1_step fSk s (k:Nat)).trans ?_)
    rw [mlC_t hk (fSk_ok _).2,show fSk (skC (s.K k))=0 from hb,w64_next (by omega)]; rfl
  · refine leads_ev (finR_sub _ _) e_nil k1_ok noL_ok ((r1_ret fSk s (k:Nat)).trans ?_)
    rw [mlC_t hk (fSk_ok _).2,beq_false_of_ne (show fSk (skC (s.K k))≠0 from hb)]; rfl
  · exact leads_ev (finE_sub _ _) e_nil k1_ok noL_ok ((r1_end fSk s (s.nK:Nat)).trans (mlC_e _ _ _ _ _ _ _))
theorem r2_sound (h:s.nS≤1000):LSound Tryz.prog (loopAt Tryz.f15 1) (mayT [1,5] [some 0] (rS s 5) (.exit 2) rE (eS s) s.nS):=by
  refine mayT_sound (by simp) (fun k hk hb=>?_) (fun k hk hb=>?_) ?_
  · refine leads_ev (finN_sub _ _) e_nil k1_ok noL_ok ((r2_step fSh s (k:Nat)).trans ?_)
    rw [rtC_t hk (fSh_ok _).2,show weE (fSh (s.S k).c) (s.S k).sk s.nK=0 from hb,w64_next (by omega)]; rfl
  · refine leads_ev (finR_sub _ _) e_nil k1_ok noL_ok ((r2_ret fSh s (k:Nat)).trans ?_)
    rw [rtC_t hk (fSh_ok _).2,beq_false_of_ne (show weE (fSh (s.S k).c) (s.S k).sk s.nK≠0 from hb)]; rfl
  · exact leads_ev (finE_sub _ _) e_nil k1_ok noL_ok ((r2_end fSh s (s.nS:Nat)).trans (rtC_e _ _ _ _ _ _ _ _ _))
theorem r3_sound (h:s.nO≤1000):LSound Tryz.prog (loopAt Tryz.f15 2) (mayT [1,7] [some 0] (rS s 7) (.exit 4) rE (eO s) s.nO):=by
  refine mayT_sound (by simp) (fun k hk hb=>?_) (fun k hk hb=>?_) ?_
  · refine leads_ev (finN_sub _ _) e_nil k1_ok noL_ok ((r3_step fSo s (k:Nat)).trans ?_)
    rw [rtC_t hk (fSo_ok _).2,show weE (fSo (s.O k).c) (s.O k).sk s.nK=0 from hb,w64_next (by omega)]; rfl
  · refine leads_ev (finR_sub _ _) e_nil k1_ok noL_ok ((r3_ret fSo s (k:Nat)).trans ?_)
    rw [rtC_t hk (fSo_ok _).2,beq_false_of_ne (show weE (fSo (s.O k).c) (s.O k).sk s.nK≠0 from hb)]; rfl
  · exact leads_ev (finE_sub _ _) e_nil k1_ok noL_ok ((r3_end fSo s (s.nO:Nat)).trans (rtC_e _ _ _ _ _ _ _ _ _))
theorem r4_sound (h:s.nF≤1000):LSound Tryz.prog (loopAt Tryz.f15 3) (mayT [1,9] [some 0] (rS s 9) (.exit 6) rE (eF s) s.nF):=by
  refine mayT_sound (by simp) (fun k hk hb=>?_) (fun k hk hb=>?_) ?_
  · refine leads_ev (finN_sub _ _) e_nil k1_ok noL_ok ((r4_step fFd s (k:Nat)).trans ?_)
    rw [rtC_t hk (fFd_ok _).1.2,show weE (fFd (s.F k).c) (s.F k).sk s.nK=0 from hb,w64_next (by omega)]; rfl
  · refine leads_ev (finR_sub _ _) e_nil k1_ok noL_ok ((r4_ret fFd s (k:Nat)).trans ?_)
    rw [rtC_t hk (fFd_ok _).1.2,beq_false_of_ne (show weE (fFd (s.F k).c) (s.F k).sk s.nK≠0 from hb)]; rfl
  · exact leads_ev (finE_sub _ _) e_nil k1_ok noL_ok ((r4_end fFd s (s.nF:Nat)).trans (rtC_e _ _ _ _ _ _ _ _ _))
theorem r5_sound (h:s.nL≤1000):LSound Tryz.prog (loopAt Tryz.f15 4) (mayT [1,11] [some 0] (rS s 11) (.exit 8) rE (eL s) s.nL):=by
  refine mayT_sound (by simp) (fun k hk hb=>?_) (fun k hk hb=>?_) ?_
  · refine leads_ev (finN_sub _ _) RL_ok k_nil noL_ok ((r5_step s (k:Nat)).trans ?_)
    rw [rlC_t hk,hb,w64_next (by omega)]; rfl
  · refine leads_ev (finR_sub _ _) RL_ok k_nil noL_ok ((r5_ret s (k:Nat)).trans ?_)
    rw [rlC_t hk,beq_false_of_ne hb]; rfl
  · refine leads_ev (finE_sub _ _) RL_ok k_nil noL_ok ((r5_end s (s.nL:Nat)).trans ?_)
    unfold rlC
    rw [dec_self,cond_false]
end
theorem rsc_spec (s:Scn):FSpec Tryz.prog 15 [.agg s.c] (iA (scE s)):=by
  cases ht:tmB s
  · obtain ⟨a1,a2,a3,a4,a5⟩:=tm_few s ht
    refine gspec RL_ok k1_ok Tryz.func15 (by kernel_rfl) (by kernel_rfl) (lok_cons (lok_at 0 5 (by kernel_rfl) (by kernel_rfl) (r1_sound (by omega))) (lok_cons (lok_at 1 5 (by kernel_rfl) (by kernel_rfl) (r2_sound (by omega))) (lok_cons (lok_at 2 5 (by kernel_rfl) (by kernel_rfl) (r3_sound (by omega))) (lok_cons (lok_at 3 5 (by kernel_rfl) (by kernel_rfl) (r4_sound (by omega))) (lok_cons (lok_at 4 5 (by kernel_rfl) (by kernel_rfl) (r5_sound (by omega))) lok_nil))))) rfl ((r_ev s (eK s) (eS s) (eO s) (eF s) (eL s) (eyE s.eye)).trans ?_)
    rw [gate_pos (rey_spec _),lpO_t,lpO_t,lpO_t,lpO_t,lpO_t,ht]
    unfold scE
    rw [ht]
    cases hk:seqE (eK s) s.nK==0
    · rfl
    · unfold thE
      cases h1:seqE (eS s) s.nS==0
      · show oI (seqE (eS s) s.nS)=some (Out.of (iA (cond (seqE (eS s) s.nS==0) _ (seqE (eS s) s.nS))))
        rw [h1]; rfl
      · cases h2:seqE (eO s) s.nO==0
        · show oI (seqE (eO s) s.nO)=some (Out.of (iA (cond (seqE (eO s) s.nO==0) _ (seqE (eO s) s.nO))))
          rw [h2]; rfl
        · cases h3:seqE (eF s) s.nF==0
          · show oI (seqE (eF s) s.nF)=some (Out.of (iA (cond (seqE (eF s) s.nF==0) _ (seqE (eF s) s.nF))))
            rw [h3]; rfl
          · have h3':=eq_of_beq h3
            show cond (seqE (eL s) s.nL==0) _ _=some (Out.of (iA (cond (seqE (eF s) s.nF==0) _ _)))
            rw [h3']
            cases hl:seqE (eL s) s.nL==0
            · rfl
            · cases liB s.sky<;>rfl
  · have e:scE s=4:=by unfold scE; rw [ht]; rfl
    rw [e]
    refine gspec RL_ok k_nil Tryz.func15 (by kernel_rfl) (by kernel_rfl) (lok_cons (lok_none 4) (lok_cons (lok_none 10) (lok_cons (lok_none 18) (lok_cons (lok_none 26) (lok_cons (lok_none 34) lok_nil))))) rfl ((r_ev0 s).trans ?_)
    rw [ht]; rfl
end Go.Proofs.YtefphimaggjihaaGreatDoor.Hs.Sc

namespace Go.Proofs.YtefphimaggjihaaGreatDoor.Pi
open Go.Shelf Go.RowKit Go.Gv
open Go.Ev (feq)
open Hs (shC)
section
variable (L:Nat→List UInt8) (U:Nat→Bool) (l:List UInt8) (b u:Bool) (nm dc:Int→List UInt8) (a:Nat→Nat) (sk:Int)
def rad:List UInt8:=[114,97,100,105,117,115]
def iRnd (w t:ByteArray) (k:Int) (a:Nat→Nat) (sk:Int):Itm:=.w 132 [zA w,zA t,.agg (shC k a sk)] true
noncomputable def wRd:WEntry:=wP 132 true L U
noncomputable def shW:List WEntry:=[wPut L U,wVc L U,wFl L U,wRd L U,wNd]
theorem skin_ev (f g h:Nat→Int) (bd k:Int):evGW Tryz.prog [] [kNm nm,kDc dc] B57 [wPut L U,wWh L U,wEnd L U] [] noL Tryz.f90 [.own 0 0,.agg [iA (f 0),iA (f 1),iA (f 2),iA (g 0),iA (g 1),iA (g 2),iA (h 0),iA (h 1),iA (h 2),iA bd],iA k] (pM l b u) [some 0,some 1,some 10] =
  chW L U [.g (FNm nm k),iPut [[115,107,105,110],nm k,[115,112,114,101,97,100]],iWh f,iPut [[109,105,114,114,111,114]],iWh g,iPut [[103,108,97,115,115]],iWh h,.g (FDc dc bd),iPut [[98,101,110,100],dc bd],iEnd] (pM l b u ++ [.c [iA (f 0),iA (f 1),iA (f 2),iA (g 0),iA (g 1),iA (g 2),iA (h 0),iA (h 1),iA (h 2),iA bd]]) kF:=by kernel_rfl
theorem round_ev (w t:List UInt8) (k:Int):evGW Tryz.prog [] [] B57 [wPut L U,wVc L U,wFl L U] [] noL Tryz.f132 [.own 0 0,zA (lB w),zA (lB t),.agg (shC k a sk)] (pM l b u) [some 0,some 1,some 8] =
  chW L U [iPut [w],iVec (a 0) (a 1) (a 2),iPut [t],iVec (a 3) (a 4) (a 5),iPut [rad],iFl [a 9]] (pM l b u ++ [.c (shC k a sk)]) kF:=by kernel_rfl
def eqV (t a:Nat→Nat) (i:Nat):Bool:=feq (t i) (a i)&&(feq (t (i+1)) (a (i+1))&&(feq (t (i+2)) (a (i+2))&&true))
def eqS (k:Int) (t a:Nat→Nat) (sk:Int):Bool:=(k==k)&&(eqV t a 0&&(eqV t a 3&&(eqV t a 6&&(feq (t 9) (a 9)&&(feq (t 10) (a 10)&&((sk==sk)&&true))))))
def t1 (a:Nat→Nat):Nat→Nat:=fun q=>cond (Nat.blt q 3) (a q) (cond (Nat.beq q 9) (a 9) 0)
def t2 (a:Nat→Nat):Nat→Nat:=fun q=>cond (Nat.blt q 6) (a q) 0
def t3 (a:Nat→Nat):Nat→Nat:=fun q=>cond (Nat.blt q 9) (a q) 0
def t4 (a:Nat→Nat):Nat→Nat:=fun q=>cond (Nat.blt q 6) (a q) (cond (Nat.beq q 9) (a 9) 0)
def t6 (a:Nat→Nat):Nat→Nat:=fun q=>cond (Nat.blt q 6) (a q) (cond (Nat.blt q 9) 0 (a q))
theorem sh1_ev:evGW Tryz.prog [] [] B57 (shW L U) [] noL Tryz.f92 [.own 0 0,.agg (shC 1 a sk)] (pM l b u) [some 0,some 1,some 7] =
  chW L U [iPut [[98,97,108,108]],iVec (a 0) (a 1) (a 2),iPut [rad],iFl [a 9],.n (eqS 1 (t1 a) a sk)] (pM l b u ++ [.c (shC 1 a sk),.c (shC 1 (t1 a) sk)]) kF:=by kernel_rfl
theorem sh2_ev:evGW Tryz.prog [] [] B57 (shW L U) [] noL Tryz.f92 [.own 0 0,.agg (shC 2 a sk)] (pM l b u) [some 0,some 1,some 7] =
  chW L U [iPut [[98,108,111,99,107]],iVec (a 0) (a 1) (a 2),iPut [[116,111]],iVec (a 3) (a 4) (a 5),.n (eqS 2 (t2 a) a sk)] (pM l b u ++ [.c (shC 2 a sk),.c (shC 2 (t2 a) sk)]) kF:=by kernel_rfl
theorem sh3_ev:evGW Tryz.prog [] [] B57 (shW L U) [] noL Tryz.f92 [.own 0 0,.agg (shC 3 a sk)] (pM l b u) [some 0,some 1,some 9] =
  chW L U [iPut [[116,114,105]],iVec (a 0) (a 1) (a 2),iPut [[44]],iVec (a 3) (a 4) (a 5),iPut [[44]],iVec (a 6) (a 7) (a 8),.n (eqS 3 (t3 a) a sk)] (pM l b u ++ [.c (shC 3 a sk),.c (shC 3 (t3 a) sk)]) kF:=by kernel_rfl
theorem sh4_ev:evGW Tryz.prog [] [] B57 (shW L U) [] noL Tryz.f92 [.own 0 0,.agg (shC 4 a sk)] (pM l b u) [some 0,some 1,some 4] =
  chW L U [iRnd ⟨#[112,108,97,116,101]⟩ ⟨#[117,112]⟩ 4 a sk,.n (eqS 4 (t4 a) a sk)] (pM l b u ++ [.c (shC 4 a sk),.c (shC 4 (t4 a) sk)]) kF:=by kernel_rfl
theorem sh5_ev:evGW Tryz.prog [] [] B57 (shW L U) [] noL Tryz.f92 [.own 0 0,.agg (shC 5 a sk)] (pM l b u) [some 0,some 1,some 4] =
  chW L U [iRnd ⟨#[116,117,98,101]⟩ ⟨#[97,108,111,110,103]⟩ 5 a sk,.n (eqS 5 (t4 a) a sk)] (pM l b u ++ [.c (shC 5 a sk),.c (shC 5 (t4 a) sk)]) kF:=by kernel_rfl
theorem sh6_ev:evGW Tryz.prog [] [] B57 (shW L U) [] noL Tryz.f92 [.own 0 0,.agg (shC 6 a sk)] (pM l b u) [some 0,some 1,some 5] =
  chW L U [iRnd ⟨#[114,105,110,103]⟩ ⟨#[117,112]⟩ 6 a sk,iFl [a 10],.n (eqS 6 (t6 a) a sk)] (pM l b u ++ [.c (shC 6 a sk),.c (shC 6 (t6 a) sk)]) kF:=by kernel_rfl
end
@[simp] theorem y_tk0 (b:Bool):tks b []=[]:=rfl
@[simp] theorem y_tk (b:Bool) (t:List UInt8) (r:List (List UInt8)):tks b (t::r)=(if b then [32] else []) ++ (t ++ tks true r):=rfl
@[simp] theorem y_c0 (b:Bool):comp [] b=[]:=rfl
@[simp] theorem y_cw (f:Nat) (a:List AV) (E:Bool→List UInt8) (bad bf:Bool) (r:List SI) (b:Bool):comp (.w f a E bad bf::r) b=E b ++ comp r bf:=rfl
@[simp] theorem y_cg (q:Prop) (r:List SI) (b:Bool):comp (.g q::r) b=comp r b:=rfl
@[simp] theorem y_cn (t:Bool) (r:List SI) (b:Bool):comp (.n t::r) b=comp r b:=rfl
@[simp] theorem y_b0:cbad []=false:=rfl
@[simp] theorem y_bw (f:Nat) (a:List AV) (E:Bool→List UInt8) (bad bf:Bool) (r:List SI):cbad (.w f a E bad bf::r)=(bad||cbad r):=rfl
@[simp] theorem y_bg (q:Prop) (r:List SI):cbad (.g q::r)=cbad r:=rfl
@[simp] theorem y_bn (t:Bool) (r:List SI):cbad (.n t::r)=(!t||cbad r):=rfl
@[simp] theorem y_put (t:List UInt8):sPut t=.w 87 [tokL [t]] (fun b=>tks b [t]) false true:=rfl
@[simp] theorem y_end:sEnd=.w 89 [] (fun b=>tks b [[59]] ++ [10]) false false:=rfl
@[simp] def sPuts (ts:List (List UInt8)):SI:=.w 87 [tokL ts] (fun b=>tks b ts) false true
theorem sPuts_ok {ts:List (List UInt8)} (h0:ts≠[]) (hm:ts.length≤100000) (hne:∀ t,t ∈ ts→t≠[]):(sPuts ts).ok:=⟨pr_putL h0 hne hm,fun _=>by
  show [renA _ (tokL ts)]=_
  rfl⟩
structure Wh (f:Nat→Int):Prop where
  all:∀ q,q < 3→FIt (f q)∧Lib.itoa (f q)≠[]
def whT (f:Nat→Int):List (List UInt8):=[Lib.itoa (f 0),Lib.itoa (f 1),Lib.itoa (f 2)]
@[simp] def sWh (f:Nat→Int):SI:=.w 88 [.agg [iA (f 0),iA (f 1),iA (f 2)]] (fun b=>tks b (whT f)) false true
theorem sWh_ok {f:Nat→Int} (h:Wh f):(sWh f).ok:=⟨pr_wholes h.all,fun _=>rfl⟩
def W1:List UInt8:=[115,107,105,110]
def W2:List UInt8:=[115,112,114,101,97,100]
def W3:List UInt8:=[109,105,114,114,111,114]
def W4:List UInt8:=[103,108,97,115,115]
def W5:List UInt8:=[98,101,110,100]
def skT (dc:Int→List UInt8) (f g h:Nat→Int) (bd k:Int):List (List UInt8):=[W1,nmT k,W2] ++ (whT f ++ (W3::(whT g ++ (W4::(whT h ++ [W5,dc bd])))))
def skA (f g h:Nat→Int) (bd:Int):AV:=.agg [iA (f 0),iA (f 1),iA (f 2),iA (g 0),iA (g 1),iA (g 2),iA (h 0),iA (h 1),iA (h 2),iA bd]
theorem ne_n:∀ t,t ∈ ([]:List (List UInt8))→t≠[]:=fun _ h=>by cases h
theorem ne_c {x:List UInt8} {r:List (List UInt8)} (h:x≠[]) (hr:∀ t,t ∈ r→t≠[]):∀ t,t ∈ x::r→t≠[]:=fun t ht=>by
  rcases List.mem_cons.1 ht with rfl | ht
  · exact h
  · exact hr t ht
theorem nm_ne (k:Int):nmT k≠[]:=by unfold nmT; simp
theorem pr_skin {dc:Int→List UInt8} {f g hq:Nat→Int} {bd k:Int} (hn:FNm nmT k) (hf:Wh f) (hg:Wh g) (hh:Wh hq) (hb:FDc dc bd) (hd:dc bd≠[]):Pr 90 [skA f g hq bd,iA k] (fun b=>lineE b (skT dc f g hq bd k)) false false :=
  pr_of (bx:=[.c [iA (f 0),iA (f 1),iA (f 2),iA (g 0),iA (g 1),iA (g 2),iA (hq 0),iA (hq 1),iA (hq 2),iA bd]]) [.g (FNm nmT k),sPuts [W1,nmT k,W2],sWh f,sPut W3,sWh g,sPut W4,sWh hq,.g (FDc dc bd),sPuts [W5,dc bd],sEnd]
    (si_cons hn <| si_cons (sPuts_ok (by simp) (by simp) (ne_c (by simp [W1]) <| ne_c (nm_ne k) <| ne_c (by simp [W2]) ne_n)) <| si_cons (sWh_ok hf) <| si_cons (sPut_ok (by simp [W3])) <| si_cons (sWh_ok hg) <| si_cons (sPut_ok (by simp [W4])) <| si_cons (sWh_ok hh) <| si_cons hb <| si_cons (sPuts_ok (by simp) (by simp) (ne_c (by simp [W5]) <| ne_c hd ne_n)) <| si_cons sEnd_ok si_nil)
    (fun L U l b u h=>gspecGW e_nil (k_cons kS_ok (k_cons kS_ok k_nil)) B57_ok (w_cons wP_ok (w_cons wP_ok (w_cons wP_ok w_nil))) r_nil Tryz.func90 (by kernel_rfl) (by kernel_rfl) (mem:=pM l b u) noL_okN rfl (τ:=[some 0,some 1,some 10]) (by rfl) ((skin_ev L U l b u nmT dc f g hq bd k).trans h))
    (by funext b; simp [lineE,skT,whT]) rfl (fun _=>rfl)
section
variable {dc:Int→List UInt8} {tn:Nat→Int} {tb:Nat→Bool}
def vT (dc:Int→List UInt8) (tn:Nat→Int) (a:Nat→Nat) (i:Nat):List (List UInt8):=[ntk dc tn (a i),ntk dc tn (a (i+1)),ntk dc tn (a (i+2))]
def vB (tb:Nat→Bool) (a:Nat→Nat) (i:Nat):Bool:=vbad tb (a i) (a (i+1)) (a (i+2))
@[simp] def sVec (dc:Int→List UInt8) (tn:Nat→Int) (tb:Nat→Bool) (a:Nat→Nat) (i:Nat):SI:=.w 125 [wVec (a i) (a (i+1)) (a (i+2))] (fun b=>tks b (vT dc tn a i)) (vB tb a i) true
structure NV (dc:Int→List UInt8) (tn:Nat→Int) (tb:Nat→Bool) (a:Nat→Nat) (i:Nat):Prop where
  x:Nu dc tn tb (a i)
  y:Nu dc tn tb (a (i+1))
  z:Nu dc tn tb (a (i+2))
theorem sVec_ok {a:Nat→Nat} {i:Nat} (h:NV dc tn tb a i):(sVec dc tn tb a i).ok:=⟨pr_vec h.x h.y h.z,fun _=>rfl⟩
@[simp] def sFl (dc:Int→List UInt8) (tn:Nat→Int) (tb:Nat→Bool) (x:Nat):SI:=.w 126 [flL [x]] (fun b=>tks b [ntk dc tn x]) (!(tb x)) true
theorem sFl_ok {x:Nat} (h:Nu dc tn tb x):(sFl dc tn tb x).ok:=⟨pr_fl1 h,fun _=>rfl⟩
def lamT (dc:Int→List UInt8) (tn:Nat→Int) (a:Nat→Nat) (f:Nat→Int):List (List UInt8):=[108,97,109,112]::(vT dc tn a 0 ++ ([108,105,103,104,116]::whT f))
theorem pr_lamp {a:Nat→Nat} {f:Nat→Int} (ha:NV dc tn tb a 0) (hf:Wh f):Pr 91 [.agg [.f (a 0),.f (a 1),.f (a 2),iA (f 0),iA (f 1),iA (f 2)]] (fun b=>lineE b (lamT dc tn a f)) (vB tb a 0) false :=
  pr_of (bx:=[.c [.f (a 0),.f (a 1),.f (a 2),iA (f 0),iA (f 1),iA (f 2)]]) [sPut [108,97,109,112],sVec dc tn tb a 0,sPut [108,105,103,104,116],sWh f,sEnd]
    (si_cons (sPut_ok (by simp)) <| si_cons (sVec_ok ha) <| si_cons (sPut_ok (by simp)) <| si_cons (sWh_ok hf) <| si_cons sEnd_ok si_nil)
    (fun L U l b u h=>gspecGW e_nil k_nil B57_ok (w_cons wP_ok (w_cons wP_ok (w_cons wP_ok (w_cons wP_ok w_nil)))) r_nil Tryz.func91 (by kernel_rfl) (by kernel_rfl) (mem:=pM l b u) noL_okN rfl (τ:=[some 0,some 1,some 7]) (by rfl) ((lamp_ev L U l b u a f).trans h))
    (by funext b; simp [lineE,lamT,whT,vT]) (by simp) (fun _=>rfl)
def rndT (dc:Int→List UInt8) (tn:Nat→Int) (w t:List UInt8) (a:Nat→Nat):List (List UInt8):=w::(vT dc tn a 0 ++ (t::(vT dc tn a 3 ++ [rad,ntk dc tn (a 9)])))
theorem rad_ne:rad≠[]:=by simp [rad]
theorem pr_round {w t:List UInt8} {k:Int} {a:Nat→Nat} {sk:Int} (hw:w≠[]) (ht:t≠[]) (h0:NV dc tn tb a 0) (h3:NV dc tn tb a 3) (h9:Nu dc tn tb (a 9)):Pr 132 [zA (lB w),zA (lB t),.agg (shC k a sk)] (fun b=>tks b (rndT dc tn w t a)) (vB tb a 0||(vB tb a 3||!(tb (a 9)))) true :=
  pr_of (bx:=[.c (shC k a sk)]) [sPut w,sVec dc tn tb a 0,sPut t,sVec dc tn tb a 3,sPut rad,sFl dc tn tb (a 9)]
    (si_cons (sPut_ok hw) <| si_cons (sVec_ok h0) <| si_cons (sPut_ok ht) <| si_cons (sVec_ok h3) <| si_cons (sPut_ok rad_ne) <| si_cons (sFl_ok h9) si_nil)
    (fun L U l b u h=>gspecGW e_nil k_nil B57_ok (w_cons wP_ok (w_cons wP_ok (w_cons wP_ok w_nil))) r_nil Tryz.func132 (by kernel_rfl) (by kernel_rfl) (mem:=pM l b u) noL_okN rfl (τ:=[some 0,some 1,some 8]) (by rfl) ((round_ev L U l b u a sk w t k).trans h))
    (by funext b; simp [rndT,vT]) (by simp) (fun _=>rfl)
@[simp] def sRnd (dc:Int→List UInt8) (tn:Nat→Int) (tb:Nat→Bool) (w t:List UInt8) (k:Int) (a:Nat→Nat) (sk:Int):SI:=.w 132 [zA (lB w),zA (lB t),.agg (shC k a sk)] (fun b=>tks b (rndT dc tn w t a)) (vB tb a 0||(vB tb a 3||!(tb (a 9)))) true
theorem sRnd_ok {w t:List UInt8} {k:Int} {a:Nat→Nat} {sk:Int} (hw:w≠[]) (ht:t≠[]) (h0:NV dc tn tb a 0) (h3:NV dc tn tb a 3) (h9:Nu dc tn tb (a 9)):(sRnd dc tn tb w t k a sk).ok:=⟨pr_round hw ht h0 h3 h9,fun _=>rfl⟩
def shT1 (dc:Int→List UInt8) (tn:Nat→Int) (a:Nat→Nat):List (List UInt8):=[98,97,108,108]::(vT dc tn a 0 ++ [rad,ntk dc tn (a 9)])
def shB1 (tb:Nat→Bool) (a:Nat→Nat) (sk:Int):Bool:=vB tb a 0||(!(tb (a 9))||!(eqS 1 (t1 a) a sk))
theorem pr_sh1 {a:Nat→Nat} {sk:Int} (h0:NV dc tn tb a 0) (h9:Nu dc tn tb (a 9)):Pr 92 [.agg (shC 1 a sk)] (fun b=>tks b (shT1 dc tn a)) (shB1 tb a sk) true :=
  pr_of (bx:=[.c (shC 1 a sk),.c (shC 1 (t1 a) sk)]) [sPut [98,97,108,108],sVec dc tn tb a 0,sPut rad,sFl dc tn tb (a 9),.n (eqS 1 (t1 a) a sk)]
    (si_cons (sPut_ok (by simp)) <| si_cons (sVec_ok h0) <| si_cons (sPut_ok rad_ne) <| si_cons (sFl_ok h9) <| si_cons trivial si_nil)
    (fun L U l b u h=>gspecGW e_nil k_nil B57_ok (w_cons wP_ok (w_cons wP_ok (w_cons wP_ok (w_cons wP_ok (w_cons wNd_ok w_nil))))) r_nil Tryz.func92 (by kernel_rfl) (by kernel_rfl) (mem:=pM l b u) noL_okN rfl (τ:=[some 0,some 1,some 7]) (by rfl) ((sh1_ev L U l b u a sk).trans h))
    (by funext b; simp [vT,shT1]) (by simp [shB1]) (fun _=>rfl)
def shT2 (dc:Int→List UInt8) (tn:Nat→Int) (a:Nat→Nat):List (List UInt8):=[98,108,111,99,107]::(vT dc tn a 0 ++ ([116,111]::vT dc tn a 3))
def shB2 (tb:Nat→Bool) (a:Nat→Nat) (sk:Int):Bool:=vB tb a 0||(vB tb a 3||!(eqS 2 (t2 a) a sk))
theorem pr_sh2 {a:Nat→Nat} {sk:Int} (h0:NV dc tn tb a 0) (h3:NV dc tn tb a 3):Pr 92 [.agg (shC 2 a sk)] (fun b=>tks b (shT2 dc tn a)) (shB2 tb a sk) true :=
  pr_of (bx:=[.c (shC 2 a sk),.c (shC 2 (t2 a) sk)]) [sPut [98,108,111,99,107],sVec dc tn tb a 0,sPut [116,111],sVec dc tn tb a 3,.n (eqS 2 (t2 a) a sk)]
    (si_cons (sPut_ok (by simp)) <| si_cons (sVec_ok h0) <| si_cons (sPut_ok (by simp)) <| si_cons (sVec_ok h3) <| si_cons trivial si_nil)
    (fun L U l b u h=>gspecGW e_nil k_nil B57_ok (w_cons wP_ok (w_cons wP_ok (w_cons wP_ok (w_cons wP_ok (w_cons wNd_ok w_nil))))) r_nil Tryz.func92 (by kernel_rfl) (by kernel_rfl) (mem:=pM l b u) noL_okN rfl (τ:=[some 0,some 1,some 7]) (by rfl) ((sh2_ev L U l b u a sk).trans h))
    (by funext b; simp [vT,shT2]) (by simp [shB2]) (fun _=>rfl)
def shT3 (dc:Int→List UInt8) (tn:Nat→Int) (a:Nat→Nat):List (List UInt8):=[116,114,105]::(vT dc tn a 0 ++ ([44]::(vT dc tn a 3 ++ ([44]::vT dc tn a 6))))
def shB3 (tb:Nat→Bool) (a:Nat→Nat) (sk:Int):Bool:=vB tb a 0||(vB tb a 3||(vB tb a 6||!(eqS 3 (t3 a) a sk)))
theorem pr_sh3 {a:Nat→Nat} {sk:Int} (h0:NV dc tn tb a 0) (h3:NV dc tn tb a 3) (h6:NV dc tn tb a 6):Pr 92 [.agg (shC 3 a sk)] (fun b=>tks b (shT3 dc tn a)) (shB3 tb a sk) true :=
  pr_of (bx:=[.c (shC 3 a sk),.c (shC 3 (t3 a) sk)]) [sPut [116,114,105],sVec dc tn tb a 0,sPut [44],sVec dc tn tb a 3,sPut [44],sVec dc tn tb a 6,.n (eqS 3 (t3 a) a sk)]
    (si_cons (sPut_ok (by simp)) <| si_cons (sVec_ok h0) <| si_cons (sPut_ok (by simp)) <| si_cons (sVec_ok h3) <| si_cons (sPut_ok (by simp)) <| si_cons (sVec_ok h6) <| si_cons trivial si_nil)
    (fun L U l b u h=>gspecGW e_nil k_nil B57_ok (w_cons wP_ok (w_cons wP_ok (w_cons wP_ok (w_cons wP_ok (w_cons wNd_ok w_nil))))) r_nil Tryz.func92 (by kernel_rfl) (by kernel_rfl) (mem:=pM l b u) noL_okN rfl (τ:=[some 0,some 1,some 9]) (by rfl) ((sh3_ev L U l b u a sk).trans h))
    (by funext b; simp [vT,shT3]) (by simp [shB3]) (fun _=>rfl)
def shT4 (dc:Int→List UInt8) (tn:Nat→Int) (a:Nat→Nat):List (List UInt8):=rndT dc tn [112,108,97,116,101] [117,112] a
def shB4 (tb:Nat→Bool) (a:Nat→Nat) (sk:Int):Bool:=(vB tb a 0||(vB tb a 3||!(tb (a 9))))||!(eqS 4 (t4 a) a sk)
theorem pr_sh4 {a:Nat→Nat} {sk:Int} (h0:NV dc tn tb a 0) (h3:NV dc tn tb a 3) (h9:Nu dc tn tb (a 9)):Pr 92 [.agg (shC 4 a sk)] (fun b=>tks b (shT4 dc tn a)) (shB4 tb a sk) true :=
  pr_of (bx:=[.c (shC 4 a sk),.c (shC 4 (t4 a) sk)]) [sRnd dc tn tb [112,108,97,116,101] [117,112] 4 a sk,.n (eqS 4 (t4 a) a sk)]
    (si_cons (sRnd_ok (by simp) (by simp) h0 h3 h9) <| si_cons trivial si_nil)
    (fun L U l b u h=>gspecGW e_nil k_nil B57_ok (w_cons wP_ok (w_cons wP_ok (w_cons wP_ok (w_cons wP_ok (w_cons wNd_ok w_nil))))) r_nil Tryz.func92 (by kernel_rfl) (by kernel_rfl) (mem:=pM l b u) noL_okN rfl (τ:=[some 0,some 1,some 4]) (by rfl) ((sh4_ev L U l b u a sk).trans h))
    (by funext b; simp [shT4]) (by simp [shB4,Bool.or_assoc]) (fun _=>rfl)
def shT5 (dc:Int→List UInt8) (tn:Nat→Int) (a:Nat→Nat):List (List UInt8):=rndT dc tn [116,117,98,101] [97,108,111,110,103] a
def shB5 (tb:Nat→Bool) (a:Nat→Nat) (sk:Int):Bool:=(vB tb a 0||(vB tb a 3||!(tb (a 9))))||!(eqS 5 (t4 a) a sk)
theorem pr_sh5 {a:Nat→Nat} {sk:Int} (h0:NV dc tn tb a 0) (h3:NV dc tn tb a 3) (h9:Nu dc tn tb (a 9)):Pr 92 [.agg (shC 5 a sk)] (fun b=>tks b (shT5 dc tn a)) (shB5 tb a sk) true :=
  pr_of (bx:=[.c (shC 5 a sk),.c (shC 5 (t4 a) sk)]) [sRnd dc tn tb [116,117,98,101] [97,108,111,110,103] 5 a sk,.n (eqS 5 (t4 a) a sk)]
    (si_cons (sRnd_ok (by simp) (by simp) h0 h3 h9) <| si_cons trivial si_nil)
    (fun L U l b u h=>gspecGW e_nil k_nil B57_ok (w_cons wP_ok (w_cons wP_ok (w_cons wP_ok (w_cons wP_ok (w_cons wNd_ok w_nil))))) r_nil Tryz.func92 (by kernel_rfl) (by kernel_rfl) (mem:=pM l b u) noL_okN rfl (τ:=[some 0,some 1,some 4]) (by rfl) ((sh5_ev L U l b u a sk).trans h))
    (by funext b; simp [shT5]) (by simp [shB5,Bool.or_assoc]) (fun _=>rfl)
def shT6 (dc:Int→List UInt8) (tn:Nat→Int) (a:Nat→Nat):List (List UInt8):=rndT dc tn [114,105,110,103] [117,112] a ++ [ntk dc tn (a 10)]
def shB6 (tb:Nat→Bool) (a:Nat→Nat) (sk:Int):Bool:=(vB tb a 0||(vB tb a 3||!(tb (a 9))))||(!(tb (a 10))||!(eqS 6 (t6 a) a sk))
theorem pr_sh6 {a:Nat→Nat} {sk:Int} (h0:NV dc tn tb a 0) (h3:NV dc tn tb a 3) (h9:Nu dc tn tb (a 9)) (h10:Nu dc tn tb (a 10)):Pr 92 [.agg (shC 6 a sk)] (fun b=>tks b (shT6 dc tn a)) (shB6 tb a sk) true :=
  pr_of (bx:=[.c (shC 6 a sk),.c (shC 6 (t6 a) sk)]) [sRnd dc tn tb [114,105,110,103] [117,112] 6 a sk,sFl dc tn tb (a 10),.n (eqS 6 (t6 a) a sk)]
    (si_cons (sRnd_ok (by simp) (by simp) h0 h3 h9) <| si_cons (sFl_ok h10) <| si_cons trivial si_nil)
    (fun L U l b u h=>gspecGW e_nil k_nil B57_ok (w_cons wP_ok (w_cons wP_ok (w_cons wP_ok (w_cons wP_ok (w_cons wNd_ok w_nil))))) r_nil Tryz.func92 (by kernel_rfl) (by kernel_rfl) (mem:=pM l b u) noL_okN rfl (τ:=[some 0,some 1,some 5]) (by rfl) ((sh6_ev L U l b u a sk).trans h))
    (by funext b; simp [rndT,vT,shT6]) (by simp [shB6,Bool.or_assoc]) (fun _=>rfl)
end
end Go.Proofs.YtefphimaggjihaaGreatDoor.Pi

namespace Go.Proofs.YtefphimaggjihaaGreatDoor.Pi
open Go.Shelf Go.RowKit Go.Gv
open Hs (shC)
open Hs.So (Prt prS)
def arS (n:Nat) (P:Nat→Prt) (eS eD:Nat→List AV) (i:Int):St:=mkS 98 [(0,prS n P),(2,bA false),(3,.osl 0 1 0 n),(4,.osl 1 1 0 n),(14,prS n P),(15,iA n),(16,iA i)] [.a 3 1 n eS,.a 3 1 n eD]
def keepAr:List Nat:=[0,2,3,4,14,15,16]
def bl (i:Int) (n:Nat):Bool:=Nat.blt (0+i.toNat) n
def putEl (g:Nat→Int) (q:Nat) (v:Int) (j:Nat):List AV:=mixL (j==q) [iA v] [iA (g j)]
def put2 (g:Nat→Int) (q:Nat) (v w:Int) (j:Nat):List AV:=mixL (j==q) [iA w] (putEl g q v j)
section
variable (n:Nat) (P:Nat→Prt) (S D:Nat→Int) (i:Int) (bz:Bool)
def S1 (S:Nat→Int) (i x:Int):Int:=cond ((0+x.toNat)==(0+i.toNat)) 1 (S (0+x.toNat))
def iW (i:Int):Int:=w64 (i - 1)
def arL:Int:=(P i.toNat).l
def arR:Int:=(P i.toNat).r
def g10:Bool:=decide ((!(arR P i==iW i))=false)&&true
def c10:Bool:=(ixB (iW i) n||!(g10 P i))&&((bl (iW i) n||!(g10 P i))&&true)
def t10:Bool:=cond (!(arR P i==iW i)) true (!(arL P i==w64 (iW i - S1 S i (iW i))))
def c12:Bool:=(ixB i n||false)&&((bl i n||false)&&((ixB (arL P i) n||false)&&((bl (arL P i) n||false)&&((ixB (arR P i) n||false)&&((bl (arR P i) n||false)&&((ixB i n||false)&&((bl i n||false)&&true)))))))
def v12:Int:=w64 (S1 S i i+w64 (S1 S i (arL P i)+S1 S i (arR P i)))
def c13:Bool:=(ixB (arL P i) n||false)&&((bl (arL P i) n||false)&&((ixB (arR P i) n||false)&&((bl (arR P i) n||false)&&((ixB i n||false)&&((bl i n||false)&&true)))))
def v13 (mx:Int→Int→Int):Int:=w64 (1+mx (D (0+(arL P i).toNat)) (D (0+(arR P i).toNat)))
noncomputable def arX (lf:Option Out) (nd:Option Out) (rt:Option Out) (en:Option Out):Option Out:=cond (decide (i < (n:Nat))) (cond (ixB i n||false) (gate (FSpec Tryz.prog 157 [.agg (P i.toNat).c] (bA bz)) (cond (!bz) rt
  (cond (ixB i n||false) (cond (bl i n||false) (cond ((P i.toNat).op==0) lf (cond (c10 n P i) (cond (t10 P S i) rt (cond (c12 n P i) (cond (c13 n P i) nd none) none)) none)) none) none))) none) en
noncomputable def arK:List KEntry:=[kS Tryz.prog 157 fun _=>bA bz]
theorem ar_step:evC Tryz.prog [] (arK bz) noL (loopAt Tryz.f134 0) (arS n P (fun q=>[iA (S q)]) (fun q=>[iA (D q)]) i) (finN keepAr [some 0,some 1])=arX n P S i bz
  (some ⟨.normal,arS n P (putEl S (0+i.toNat) 1) (fun q=>[iA (D q)]) (w64 (i+1)),.any⟩)
  (some ⟨.normal,arS n P (put2 S (0+i.toNat) 1 (v12 P S i)) (putEl D (0+i.toNat) (v13 P D i fun a b=>if b > a then b else a)) (w64 (i+1)),.any⟩) none none:=by kernel_rfl
def arE:St:=mkS 98 [(2,bA false)] []
theorem ar_ret:evC Tryz.prog [] (arK bz) noL (loopAt Tryz.f134 0) (arS n P (fun q=>[iA (S q)]) (fun q=>[iA (D q)]) i) (finR [2] [])=arX n P S i bz none none (some ⟨.ret,arE,.any⟩) none:=by kernel_rfl
theorem ar_end:evC Tryz.prog [] (arK bz) noL (loopAt Tryz.f134 0) (arS n P (fun q=>[iA (S q)]) (fun q=>[iA (D q)]) i) (finE keepAr [some 0,some 1])=arX n P S i bz none none none (some ⟨.exit 0,arS n P (fun q=>[iA (S q)]) (fun q=>[iA (D q)]) i,.any⟩):=by kernel_rfl
def mkI (n:Int):Bool:=decide (0≤n)&&(decide (n≤n)&&decide (((8:Nat):Int)*n≤281474976710656))
def lst (n:Nat):Int:=w64 ((n:Int) - 1)
def eq1:Bool:=S (0+(lst n).toNat)==(n:Int)
def gq:Bool:=decide ((eq1 n S)=true)&&true
noncomputable def arT:Option Out:=cond (ixB (lst n) n||false) (cond (bl (lst n) n||false) (cond (ixB (lst n) n||!(gq n S)) (cond (bl (lst n) n||!(gq n S)) (some (Out.of (bA (cond (eq1 n S) (decide (D (0+(lst n).toNat)≤3)) false)))) none) none) none) none
theorem ar_evA (i':Int):ev Tryz.prog [] (arK bz) (oneL 4 (toldF keepAr [some 0,some 1] (arS n P (fun _=>[iA 0]) (fun _=>[iA 0]) 0) (.exit 0) (arS n P (fun q=>[iA (S q)]) (fun q=>[iA (D q)]) i'))) Tryz.f134 [prS n P] ret =
  cond (mkI n||false) (cond (mkI n||false) (gate (Sub (arS n P (fun _=>[iA 0]) (fun _=>[iA 0]) 0) (arS n P (fun _=>[iA 0]) (fun _=>[iA 0]) 0)) (arT n S D)) none) none:=by kernel_rfl
theorem ar_evB:ev Tryz.prog [] (arK bz) (oneL 4 (toldF keepAr [some 0,some 1] (arS n P (fun _=>[iA 0]) (fun _=>[iA 0]) 0) .ret arE)) Tryz.f134 [prS n P] ret =
  cond (mkI n||false) (cond (mkI n||false) (gate (Sub (arS n P (fun _=>[iA 0]) (fun _=>[iA 0]) 0) (arS n P (fun _=>[iA 0]) (fun _=>[iA 0]) 0)) (some (Out.of (bA false)))) none) none:=by kernel_rfl
end
open Go.Ev (feq)
def zA0:Nat→Nat:=fun _=>0
def eqZ (p:Prt):Bool:=(p.k==0)&&(eqV p.a zA0 0&&(eqV p.a zA0 3&&(eqV p.a zA0 6&&(feq (p.a 9) 0&&(feq (p.a 10) 0&&((p.sk==0)&&true))))))
def bareB (p:Prt):Bool:=cond (p.op==0) (cond (cond (p.l==0) (p.r==0) false) (p.sk==0) false) (eqZ p)
theorem ba_ev (p:Prt):ev Tryz.prog [] [] noL Tryz.f157 [.agg p.c] ret=cond (p.op==0) (some (Out.of (bA (cond (cond (p.l==0) (p.r==0) false) (p.sk==0) false)))) (some (Out.of (bA (eqZ p)))):=by kernel_rfl
theorem ba_spec (p:Prt):FSpec Tryz.prog 157 [.agg p.c] (bA (bareB p)):=by
  refine gspec e_nil k_nil Tryz.func157 (by kernel_rfl) (by kernel_rfl) noL_ok rfl ((ba_ev p).trans ?_)
  unfold bareB
  cases p.op==0<;>rfl
def upd (g:Nat→Int) (j:Nat) (v:Int):Nat→Int:=fun q=>if q=j then v else g q
def mx (a b:Int):Int:=if b > a then b else a
def sd (P:Nat→Prt):Nat→(Nat→Int) × (Nat→Int)
  | 0=>(fun _=>0,fun _=>0)
  | j+1=>if (P j).op=0 then (upd (sd P j).1 j 1,(sd P j).2) else (upd (sd P j).1 j (1+((sd P j).1 (P j).l.toNat+(sd P j).1 (P j).r.toNat)),upd (sd P j).2 j (1+mx ((sd P j).2 (P j).l.toNat) ((sd P j).2 (P j).r.toNat)))
/-- Parts that may be. -/
def PM (n:Nat) (P:Nat→Prt):Prop:=∀ j,j < n→(P j).op=0∨((1≤(P j).op∧(P j).op≤3)∧(0≤(P j).l∧(P j).l < (j:Nat))∧0≤(P j).r∧(P j).r < (j:Nat))
def okJ (P:Nat→Prt) (j:Nat):Prop:=bareB (P j)=true∧((P j).op=0∨((P j).r=(j:Int) - 1∧(P j).l=(j:Int) - 1 - (sd P j).1 (j - 1)))
theorem sd_succ (P:Nat→Prt) (j:Nat):sd P (j+1)=if (P j).op=0 then (upd (sd P j).1 j 1,(sd P j).2) else (upd (sd P j).1 j (1+((sd P j).1 (P j).l.toNat+(sd P j).1 (P j).r.toNat)),upd (sd P j).2 j (1+mx ((sd P j).2 (P j).l.toNat) ((sd P j).2 (P j).r.toNat))):=rfl
theorem mx_rng {a b M:Int} (a0:0≤a) (a1:a≤M) (b0:0≤b) (b1:b≤M):0≤mx a b∧mx a b≤M:=by
  unfold mx; split<;>omega
theorem sd_rng (P:Nat→Prt):∀ j q,(0≤(sd P j).1 q∧(sd P j).1 q+1≤2 ^ j)∧0≤(sd P j).2 q∧(sd P j).2 q≤j
  | 0,q=>by simp [sd]
  | j + 1,q=>by
    have e:(2:Int) ^ (j+1)=2 ^ j*2:=Int.pow_succ _ _
    have hp:(1:Int)≤2 ^ j:=by have:=(sd_rng P j q).1; omega
    have h0:=sd_rng P j q
    have h1:=sd_rng P j (P j).l.toNat
    have h2:=sd_rng P j (P j).r.toNat
    have hm:=mx_rng h1.2.1 h1.2.2 h2.2.1 h2.2.2
    rw [sd_succ]
    by_cases ho:(P j).op=0
    · rw [if_pos ho]
      simp only [upd]
      split<;>(constructor<;>omega)
    · rw [if_neg ho]
      simp only [upd]
      split<;>(constructor<;>omega)
theorem pow16 {j:Nat} (h:j≤20):(2:Int) ^ j≤1048576:=by
  have h1:2 ^ j≤2 ^ 20:=Nat.pow_le_pow_right (by omega) h
  have h2:((2 ^ j:Nat):Int)=(2:Int) ^ j:=by simp
  omega
section
variable {n:Nat} {P:Nat→Prt}
theorem S1_self (S:Nat→Int) (j:Nat):S1 S (j:Nat) (j:Nat)=1:=by unfold S1; rw [BEq.rfl]; rfl
theorem S1_other (S:Nat→Int) {j:Nat} {x:Int} (h0:0≤x) (h:x < (j:Nat)):S1 S (j:Nat) x=S x.toNat:=by
  unfold S1
  rw [beq_false_of_ne (by omega),Nat.zero_add]
  rfl
theorem bl_t {x:Int} (h0:0≤x) (h:x < (n:Nat)):bl x n=true:=by unfold bl; exact blt_t (by omega)
theorem ixB_i {x:Int} (h0:0≤x) (h:x < (n:Nat)):ixB x n=true:=by unfold ixB; rw [decide_eq_true h0,decide_eq_true h]; rfl
theorem putEl_eq (g:Nat→Int) (j:Nat) (v:Int) (q:Nat):putEl g (0+j) v q=[iA (upd g j v q)]:=by
  unfold putEl upd
  rw [mixI,Nat.zero_add]
  by_cases h:q=j
  · rw [if_pos h,h,BEq.rfl]; rfl
  · rw [if_neg h,beq_false_of_ne h]; rfl
theorem put2_eq (g:Nat→Int) (j:Nat) (v w:Int) (q:Nat):put2 g (0+j) v w q=[iA (upd g j w q)]:=by
  unfold put2
  rw [putEl_eq,mixI,Nat.zero_add]
  unfold upd
  by_cases h:q=j
  · subst h; rw [BEq.rfl,cond_true,if_pos rfl]
  · rw [beq_false_of_ne h,cond_false,if_neg h,if_neg h]
def arI (n:Nat) (P:Nat→Prt) (j:Nat):St:=arS n P (fun q=>[iA ((sd P j).1 q)]) (fun q=>[iA ((sd P j).2 q)]) (j:Nat)
theorem arX_head {j:Nat} (hj:j < n) (lf nd rt en:Option Out):arX n P (sd P j).1 (j:Nat) (bareB (P j)) lf nd rt en=cond (!(bareB (P j))) rt (cond ((P j).op==0) lf (cond (c10 n P (j:Nat)) (cond (t10 P (sd P j).1 (j:Nat)) rt (cond (c12 n P (j:Nat)) (cond (c13 n P (j:Nat)) nd none) none)) none)):=by
  unfold arX
  rw [dec_lt hj,ixB_t hj,bl_t (by omega) (by omega),Int.toNat_natCast,gate_pos (ba_spec (P j))]
  rfl
theorem ar_go (hn:n≤16) (hP:PM n P) {j:Nat} (hj:j < n) (h:okJ P j):Leads Tryz.prog (loopAt Tryz.f134 0) (arI n P j) .normal (arI n P (j+1)):=by
  have hw:w64 ((j:Int)+1)=((j+1:Nat):Int):=w64_next (by omega)
  have hr:=sd_rng P j
  have hp:=pow16 (j:=j) (by omega)
  obtain ⟨hb,ho⟩:=h
  have st:=ar_step n P (sd P j).1 (sd P j).2 (j:Nat) (bareB (P j))
  rw [arX_head hj,hb,hw] at st
  by_cases h0:(P j).op=0
  · rw [h0] at st
    refine (leads_ev (finN_sub _ _) e_nil (k_cons kS_ok k_nil) noL_ok (st.trans rfl)).sub (Sub.refl _) ?_
    refine sub_same ⟨Or.inr ⟨3,1,n,_,_,rfl,rfl,fun q _=>?_⟩,Or.inr ⟨3,1,n,_,_,rfl,rfl,fun q _=>?_⟩,trivial⟩
    · rw [Int.toNat_natCast,putEl_eq,sd_succ,if_pos h0]
    · rw [sd_succ,if_pos h0]
  · have hM:=(hP j hj).resolve_left h0
    have hk:=ho.resolve_left h0
    obtain ⟨_,⟨l0,l1⟩,r0,r1⟩:=hM
    have hi:iW (j:Nat)=(j:Int) - 1:=by unfold iW; exact w64_id (by omega) (by omega)
    have hT:(P ((j:Nat):Int).toNat)=P j:=by rw [Int.toNat_natCast]
    have eL:arL P (j:Nat)=(P j).l:=by unfold arL; rw [hT]
    have eR:arR P (j:Nat)=(P j).r:=by unfold arR; rw [hT]
    have s1:=hr (j - 1)
    have sl:=hr (P j).l.toNat
    have sr:=hr (P j).r.toNat
    have e10:c10 n P (j:Nat)=true:=by unfold c10; rw [hi,ixB_i (by omega) (by omega),bl_t (by omega) (by omega)]; rfl
    have et:t10 P (sd P j).1 (j:Nat)=false:=by
      unfold t10
      rw [hi,eL,eR,hk.1,BEq.rfl,S1_other _ (by omega) (by omega),show ((j:Int) - 1).toNat=j - 1 by omega,w64_id (by omega) (by omega),hk.2,BEq.rfl]
      rfl
    have e12:c12 n P (j:Nat)=true:=by unfold c12; rw [eL,eR,ixB_t hj,bl_t (x:=(j:Nat)) (by omega) (by omega),ixB_i (by omega) (by omega),bl_t (by omega) (by omega),ixB_i (by omega) (by omega),bl_t (by omega) (by omega)]; rfl
    have e13:c13 n P (j:Nat)=true:=by unfold c13; rw [eL,eR,ixB_t hj,bl_t (x:=(j:Nat)) (by omega) (by omega),ixB_i (by omega) (by omega),bl_t (by omega) (by omega),ixB_i (by omega) (by omega),bl_t (by omega) (by omega)]; rfl
    have v1:v12 P (sd P j).1 (j:Nat)=1+((sd P j).1 (P j).l.toNat+(sd P j).1 (P j).r.toNat):=by
      unfold v12
      rw [eL,eR,S1_self,S1_other _ l0 l1,S1_other _ r0 r1,w64_id (n:=(sd P j).1 _+_) (by omega) (by omega),w64_id (by omega) (by omega)]
    have hm:=mx_rng sl.2.1 sl.2.2 sr.2.1 sr.2.2
    have v2:v13 P (sd P j).2 (j:Nat) (fun a b=>if b > a then b else a)=1+mx ((sd P j).2 (P j).l.toNat) ((sd P j).2 (P j).r.toNat):=by
      unfold v13
      rw [eL,eR,Nat.zero_add,Nat.zero_add]
      exact w64_id (n:=1+mx _ _) (by omega) (by omega)
    rw [beq_false_of_ne h0,e10,et,e12,e13,v1,v2] at st
    refine (leads_ev (finN_sub _ _) e_nil (k_cons kS_ok k_nil) noL_ok (st.trans rfl)).sub (Sub.refl _) ?_
    refine sub_same ⟨Or.inr ⟨3,1,n,_,_,rfl,rfl,fun q _=>?_⟩,Or.inr ⟨3,1,n,_,_,rfl,rfl,fun q _=>?_⟩,trivial⟩
    · rw [Int.toNat_natCast,put2_eq,sd_succ,if_neg h0]
    · rw [Int.toNat_natCast,putEl_eq,sd_succ,if_neg h0]
theorem ar_stop (hn:n≤16) (hP:PM n P) {j:Nat} (hj:j < n) (h:¬ okJ P j):Leads Tryz.prog (loopAt Tryz.f134 0) (arI n P j) .ret arE:=by
  have hr:=sd_rng P j
  have hp:=pow16 (j:=j) (by omega)
  have st:=ar_ret n P (sd P j).1 (sd P j).2 (j:Nat) (bareB (P j))
  rw [arX_head hj] at st
  refine leads_ev (finR_sub _ _) e_nil (k_cons kS_ok k_nil) noL_ok (st.trans ?_)
  cases hb:bareB (P j)
  · rfl
  · by_cases h0:(P j).op=0
    · exact absurd ⟨hb,Or.inl h0⟩ h
    · have hM:=(hP j hj).resolve_left h0
      obtain ⟨_,⟨l0,l1⟩,r0,r1⟩:=hM
      have hi:iW (j:Nat)=(j:Int) - 1:=by unfold iW; exact w64_id (by omega) (by omega)
      have hT:(P ((j:Nat):Int).toNat)=P j:=by rw [Int.toNat_natCast]
      have eL:arL P (j:Nat)=(P j).l:=by unfold arL; rw [hT]
      have eR:arR P (j:Nat)=(P j).r:=by unfold arR; rw [hT]
      have s1:=hr (j - 1)
      have e10:c10 n P (j:Nat)=true:=by unfold c10; rw [hi,ixB_i (by omega) (by omega),bl_t (by omega) (by omega)]; rfl
      have et:t10 P (sd P j).1 (j:Nat)=true:=by
        unfold t10
        rw [hi,eL,eR,S1_other _ (by omega) (by omega),show ((j:Int) - 1).toNat=j - 1 by omega,w64_id (by omega) (by omega)]
        by_cases c1:(P j).r=(j:Int) - 1
        · by_cases c2:(P j).l=(j:Int) - 1 - (sd P j).1 (j - 1)
          · exact absurd ⟨hb,Or.inr ⟨c1,c2⟩⟩ h
          · rw [beq_false_of_ne c2]; cases (P j).r==(j:Int) - 1<;>rfl
        · rw [beq_false_of_ne c1]; rfl
      rw [beq_false_of_ne h0,e10,et]
      rfl
def arP (n:Nat) (P:Nat→Prt):Prop:=(∀ j,j < n→okJ P j)∧(sd P n).1 (n - 1)=(n:Nat)∧(sd P n).2 (n - 1)≤3
open Classical in
noncomputable def arB (n:Nat) (P:Nat→Prt):Bool:=decide (arP n P)
theorem mkI_t (h:n≤16):mkI (n:Nat)=true:=by unfold mkI; rw [decide_eq_true (by omega),decide_eq_true (by omega),decide_eq_true (by omega)]; rfl
theorem asRead_spec (h1:1≤n) (hn:n≤16) (hP:PM n P):FSpec Tryz.prog 134 [prS n P] (bA (arB n P)):=by
  classical
  have hlo:((lst n).toNat)=n - 1:=by unfold lst; rw [w64_id (by omega) (by omega)]; omega
  have hl:lst n=((n - 1:Nat):Int):=by unfold lst; rw [w64_id (by omega) (by omega)]; omega
  by_cases hall:∀ j,j < n→okJ P j
  · have key:Leads Tryz.prog (.loop (loopAt Tryz.f134 0)) (arI n P 0) (.exit 0) (arI n P n):=by
      refine loop_rule (arI n P) n (.exit 0) _ (by simp) (fun j hj=>ar_go hn hP hj (hall j hj)) ?_
      refine leads_ev (finE_sub _ _) e_nil (k_cons kS_ok k_nil) noL_ok ((ar_end n P (sd P n).1 (sd P n).2 (n:Nat) true).trans ?_)
      unfold arX
      rw [dec_self]
      rfl
    have hL:=lok_hd (c:=bodyOf Tryz.f134) (i:=4) 0 (by kernel_rfl) (by kernel_rfl) (toldF_sound (keep:=keepAr) (τ:=[some 0,some 1]) key)
    refine gspec e_nil (k_cons kS_ok k_nil) Tryz.func134 (by kernel_rfl) (by kernel_rfl) hL rfl ((ar_evA n P (sd P n).1 (sd P n).2 true (n:Nat)).trans ?_)
    rw [mkI_t hn,gate_pos (Sub.refl _)]
    unfold arT
    rw [hl,ixB_t (by omega),bl_t (by omega) (by omega)]
    have e1:cond (eq1 n (sd P n).1) (decide ((sd P n).2 (0+(((n - 1:Nat):Int)).toNat)≤3)) false=arB n P:=by
      unfold arB eq1
      rw [hl,Int.toNat_natCast,Nat.zero_add]
      by_cases c1:(sd P n).1 (n - 1)=(n:Nat)
      · by_cases c2:(sd P n).2 (n - 1)≤3
        · rw [decide_eq_true (show arP n P from ⟨hall,c1,c2⟩),c1,BEq.rfl,decide_eq_true c2]; rfl
        · rw [decide_eq_false (show ¬ arP n P from fun h=>c2 h.2.2),c1,BEq.rfl,decide_eq_false c2]; rfl
      · rw [decide_eq_false (show ¬ arP n P from fun h=>c1 h.2.1),beq_false_of_ne c1]; rfl
    rw [e1]
    rfl
  · obtain ⟨J,hJ⟩:∃ j,j < n∧¬ okJ P j:=Classical.byContradiction fun hc=>hall fun j hj=>Classical.byContradiction fun hk=>hc ⟨j,hj,hk⟩
    obtain ⟨K,hK1,hK2,hK3⟩:=first_of (fun j=>j < n∧¬ okJ P j) J hJ
    have key:Leads Tryz.prog (.loop (loopAt Tryz.f134 0)) (arI n P 0) .ret arE:=by
      refine loop_rule (arI n P) K .ret _ (by simp) (fun j hj=>ar_go hn hP (by omega) (Classical.byContradiction fun hk=>hK3 j hj ⟨by omega,hk⟩)) (ar_stop hn hP hK2.1 hK2.2)
    have hL:=lok_hd (c:=bodyOf Tryz.f134) (i:=4) 0 (by kernel_rfl) (by kernel_rfl) (toldF_sound (keep:=keepAr) (τ:=[some 0,some 1]) key)
    refine gspec e_nil (k_cons kS_ok k_nil) Tryz.func134 (by kernel_rfl) (by kernel_rfl) hL rfl ((ar_evB n P true).trans ?_)
    rw [mkI_t hn,gate_pos (Sub.refl _)]
    unfold arB
    rw [decide_eq_false (show ¬ arP n P from fun h=>hall h.1)]
    rfl
end
end Go.Proofs.YtefphimaggjihaaGreatDoor.Pi

namespace Go.Gv
open Go.RowKit Go.Ev
noncomputable section
def evGWZ (P:Program) (l:List Entry) (ks:List KEntry) (ms:List MEntry) (ws:List WEntry) (rs:List REntry) (L:Nat→Option LFun) (Z:Nat→Option ZFun) (fn:Func) (args:List AV) (mem:List Row) (τ:List (Option Nat)):Option Out:=abodyGZ P (tabW l ks ms ws rs) (drawnK P (tabW l ks ms ws rs)) L Z 40 fn args mem τ
/-- A number in a row of ours, told outright. -/
def zOp (j:Nat) (v:Int):ZFun:=fun s k=>match s.mem[j]? with
  | some (.c (.x (.int .i64 n)::r))=>gate (n=v) (k ⟨s.slots,s.mem.set j (.c (.x (.int .i64 v)::r))⟩)
  | _=>none
theorem zOp_ok {np:Nat} (j:Nat) (v:Int):ZSoundN np (zOp j v):=fun s k r h=>by
  unfold zOp at h
  split at h
  · rename_i n rs hm
    obtain ⟨hp,h⟩:=gate_some h
    subst hp
    have e:s.mem.set j (.c (.x (.int .i64 n)::rs))=s.mem:=by
      obtain ⟨hl,he⟩:=List.getElem?_eq_some_iff.1 hm
      rw [← he]
      exact List.set_getElem_self hl
    rw [e] at h
    exact ⟨s,h,SubN.refl s⟩
  · cases h
end
end Go.Gv
namespace Go.Proofs.YtefphimaggjihaaGreatDoor.Pi
open Go.Shelf Go.RowKit Go.Gv
open Go.Ev (feq)
open Hs (shC)
open Hs.So (Prt prS)
section
variable (L:Nat→List UInt8) (U:Nat→Bool) (l:List UInt8) (b u:Bool)
def iSh (p:Prt):Itm:=.w 92 [.agg p.s] true
def iPart (n:Nat) (P:Nat→Prt) (i:Int):Itm:=.w 135 [prS n P,iA i] true
noncomputable def paW:List WEntry:=[wPut L U,wP 92 true L U,wP 135 true L U]
def Prt.v (p:Prt) (v:Int):List AV:=iA v::iA p.l::iA p.r::p.s
theorem paA (n:Nat) (P:Nat→Prt) (i:Int):evGWZ Tryz.prog [] [] B57 (paW L U) [] noL (oneZ 3 (zOp 2 1)) Tryz.f135 [.own 0 0,prS n P,iA i] (pM l b u) [some 0,some 1,some 6] =
  cond (ixB i n||false) (cond ((P i.toNat).op==0) (chW L U [iSh (P i.toNat)] (pM l b u ++ [.c (P i.toNat).c]) fun _=>none)
    (gate ((P i.toNat).op=1) (chW L U [iPut [[98,111,116,104],[123]],iPart n P (P i.toNat).l,iPart n P (P i.toNat).r,iPut [[125]]] (pM l b u ++ [.c (Prt.v (P i.toNat) 1)]) kF))) none:=by kernel_rfl
theorem paB (n:Nat) (P:Nat→Prt) (i:Int):evGWZ Tryz.prog [] [] B57 (paW L U) [] noL (oneZ 3 (zOp 2 2)) Tryz.f135 [.own 0 0,prS n P,iA i] (pM l b u) [some 0,some 1,some 6] =
  cond (ixB i n||false) (cond ((P i.toNat).op==0) (chW L U [iSh (P i.toNat)] (pM l b u ++ [.c (P i.toNat).c]) fun _=>none)
    (gate ((P i.toNat).op=2) (chW L U [iPut [[101,105,116,104,101,114],[123]],iPart n P (P i.toNat).l,iPart n P (P i.toNat).r,iPut [[125]]] (pM l b u ++ [.c (Prt.v (P i.toNat) 2)]) kF))) none:=by kernel_rfl
theorem paC (n:Nat) (P:Nat→Prt) (i:Int):evGWZ Tryz.prog [] [] B57 (paW L U) [] noL (oneZ 3 (zOp 2 3)) Tryz.f135 [.own 0 0,prS n P,iA i] (pM l b u) [some 0,some 1,some 6] =
  cond (ixB i n||false) (cond ((P i.toNat).op==0) (chW L U [iSh (P i.toNat)] (pM l b u ++ [.c (P i.toNat).c]) fun _=>none)
    (gate ((P i.toNat).op=3) (chW L U [iPut [[108,101,115,115],[123]],iPart n P (P i.toNat).l,iPart n P (P i.toNat).r,iPut [[125]]] (pM l b u ++ [.c (Prt.v (P i.toNat) 3)]) kF))) none:=by kernel_rfl
theorem paL (n:Nat) (P:Nat→Prt) (i:Int):evGWZ Tryz.prog [] [] B57 (paW L U) [] noL (oneZ 3 fun _ _=>none) Tryz.f135 [.own 0 0,prS n P,iA i] (pM l b u) [some 0,some 1,some 3] =
  cond (ixB i n||false) (cond ((P i.toNat).op==0) (chW L U [iSh (P i.toNat)] (pM l b u ++ [.c (P i.toNat).c]) kF) none) none:=by kernel_rfl
end
theorem gspecGWZ {l : List Entry} {ks : List KEntry} {ms : List MEntry} {ws : List WEntry} {rs : List REntry} {L : Nat → Option LFun} {Z : Nat → Option ZFun} (hl : ∀ e, e ∈ l → EOk Tryz.prog e) (hks : ∀ e, e ∈ ks → KOk Tryz.prog e) (hms : ∀ e, e ∈ ms → MEOk Tryz.prog e) (hws : ∀ e, e ∈ ws → WEOk Tryz.prog e) (hrs : ∀ e, e ∈ rs → REOk Tryz.prog e) {f : Nat} {fn : Func} (hf : Tryz.prog.funcs[f]? = some fn) (hnm : (fn.name == "runtime.NumGoroutine") = false) (hb : fn.body = some (bodyOf fn))
    {args:List AV} {mem:List Row} (hZ:∀ i h,Z i=some h→ZSoundN mem.length h) (hL:LOkN mem.length Tryz.prog L (bodyOf fn)) (hlen:Nat.ble args.length fn.ntmps=true) {τ:List (Option Nat)} (hpin:pinT mem.length τ=true) {v:AV} {mem1:List Row} (h:evGWZ Tryz.prog l ks ms ws rs L Z fn args mem τ=gout v mem1):GSpec Tryz.prog f args mem v mem1 :=
  gspec_of_bodyZ (tabW_ok hl hks hms hws hrs) (drawnK_ok (tabW_ok hl hks hms hws hrs) (by kernel_rfl)) 40 hf hnm hb hZ hL hlen hpin h
theorem tks_appT:∀ A B:List (List UInt8),tks true (A ++ B)=tks true A ++ tks true B
  | [],_=>rfl
  | t::r,B=>by rw [tks_app (t::r) B true (by simp)]
section
variable {dc:Int→List UInt8} {tn:Nat→Int} {tb:Nat→Bool}
/-- The tokens of a shape; what of it can't be told. -/
def shT (dc:Int→List UInt8) (tn:Nat→Int) (k:Int) (a:Nat→Nat):List (List UInt8):=if k=1 then shT1 dc tn a else if k=2 then shT2 dc tn a else if k=3 then shT3 dc tn a else if k=4 then shT4 dc tn a else if k=5 then shT5 dc tn a else shT6 dc tn a
def shB (tb:Nat→Bool) (k:Int) (a:Nat→Nat) (sk:Int):Bool:=if k=1 then shB1 tb a sk else if k=2 then shB2 tb a sk else if k=3 then shB3 tb a sk else if k=4 then shB4 tb a sk else if k=5 then shB5 tb a sk else shB6 tb a sk
/-- The numbers of a shape that are told. -/
structure ShN (dc:Int→List UInt8) (tn:Nat→Int) (tb:Nat→Bool) (k:Int) (a:Nat→Nat):Prop where
  kin:1≤k∧k≤6
  h0:NV dc tn tb a 0
  h3:k≠1→NV dc tn tb a 3
  h6:k=3→NV dc tn tb a 6
  h9:k≠2→k≠3→Nu dc tn tb (a 9)
  h10:k=6→Nu dc tn tb (a 10)
theorem pr_shape {k:Int} {a:Nat→Nat} {sk:Int} (h:ShN dc tn tb k a):Pr 92 [.agg (shC k a sk)] (fun b=>tks b (shT dc tn k a)) (shB tb k a sk) true:=by
  have hk:=h.kin
  rcases (show k=1∨k=2∨k=3∨k=4∨k=5∨k=6 by omega) with rfl | rfl | rfl | rfl | rfl | rfl
  · exact pr_sh1 h.h0 (h.h9 (by omega) (by omega))
  · exact pr_sh2 h.h0 (h.h3 (by omega))
  · exact pr_sh3 h.h0 (h.h3 (by omega)) (h.h6 rfl)
  · exact pr_sh4 h.h0 (h.h3 (by omega)) (h.h9 (by omega) (by omega))
  · exact pr_sh5 h.h0 (h.h3 (by omega)) (h.h9 (by omega) (by omega))
  · exact pr_sh6 h.h0 (h.h3 (by omega)) (h.h9 (by omega) (by omega)) (h.h10 rfl)
/-- The word of an operation. -/
def opT (op:Int):List UInt8:=if op=1 then [98,111,116,104] else if op=2 then [101,105,116,104,101,114] else [108,101,115,115]
def paT (dc:Int→List UInt8) (tn:Nat→Int) (P:Nat→Prt):Nat→Nat→List (List UInt8)
  | 0,_=>[]
  | f+1,i=>if (P i).op=0 then shT dc tn (P i).k (P i).a else [opT (P i).op,[123]] ++ (paT dc tn P f (P i).l.toNat ++ (paT dc tn P f (P i).r.toNat ++ [[125]]))
def paBd (tb:Nat→Bool) (P:Nat→Prt):Nat→Nat→Bool
  | 0,_=>false
  | f+1,i=>if (P i).op=0 then shB tb (P i).k (P i).a (P i).sk else paBd tb P f (P i).l.toNat||paBd tb P f (P i).r.toNat
def sPart (dc:Int→List UInt8) (tn:Nat→Int) (tb:Nat→Bool) (n:Nat) (P:Nat→Prt) (f i:Nat):SI:=.w 135 [prS n P,iA (i:Nat)] (fun b=>tks b (paT dc tn P f i)) (paBd tb P f i) true
theorem opT_ne (op:Int):opT op≠[]:=by unfold opT; split<;>(try split)<;>simp
theorem pr_part {n:Nat} {P:Nat→Prt} (hP:PM n P) (hS:∀ i,i < n→(P i).op=0→ShN dc tn tb (P i).k (P i).a):∀ (f i:Nat),i < f→i < n→Pr 135 [prS n P,iA (i:Nat)] (fun b=>tks b (paT dc tn P f i)) (paBd tb P f i) true
  | 0,i,h,_=>absurd h (by omega)
  | f + 1,i,hf,hi=>by
    have hix:=ixB_t (i:=i) hi
    by_cases h0:(P i).op=0
    · have e1:(fun b=>tks b (paT dc tn P (f+1) i))=fun b=>tks b (shT dc tn (P i).k (P i).a):=by funext b; show tks b (if _ then _ else _)=_; rw [if_pos h0]
      have e2:paBd tb P (f+1) i=shB tb (P i).k (P i).a (P i).sk:=by show (if _ then _ else _)=_; rw [if_pos h0]
      rw [e1,e2]
      refine pr_of (bx:=[.c (P i).c]) [.w 92 [.agg (P i).s] (fun b=>tks b (shT dc tn (P i).k (P i).a)) (shB tb (P i).k (P i).a (P i).sk) true] (si_cons ⟨pr_shape (hS i hi h0),fun _=>rfl⟩ si_nil)
        (fun L U l b u h=>gspecGWZ e_nil k_nil B57_ok (w_cons wP_ok (w_cons wP_ok (w_cons wP_ok w_nil))) r_nil Tryz.func135 (by kernel_rfl) (by kernel_rfl) (mem:=pM l b u) (oneZ_ok (fun _ _ _ h=>by cases h)) noL_okN rfl (τ:=[some 0,some 1,some 3]) (by rfl) ((paL L U l b u n P (i:Nat)).trans ?_))
        (by funext b; simp) (by simp) (fun _=>rfl)
      rw [hix,Int.toNat_natCast,h0]
      exact h
    · have hM:=(hP i hi).resolve_left h0
      obtain ⟨hop,⟨l0,l1⟩,r0,r1⟩:=hM
      have hl:(((P i).l.toNat:Nat):Int)=(P i).l:=by omega
      have hr:(((P i).r.toNat:Nat):Int)=(P i).r:=by omega
      have i1:=pr_part hP hS f (P i).l.toNat (by omega) (by omega)
      have i2:=pr_part hP hS f (P i).r.toNat (by omega) (by omega)
      have e1:(fun b=>tks b (paT dc tn P (f+1) i))=fun b=>tks b ([opT (P i).op,[123]] ++ (paT dc tn P f (P i).l.toNat ++ (paT dc tn P f (P i).r.toNat ++ [[125]]))):=by funext b; show tks b (if _ then _ else _)=_; rw [if_neg h0]
      have e2:paBd tb P (f+1) i=(paBd tb P f (P i).l.toNat||paBd tb P f (P i).r.toNat):=by show (if _ then _ else _)=_; rw [if_neg h0]
      rw [e1,e2]
      have hits:∀ x,x ∈ [sPuts [opT (P i).op,[123]],sPart dc tn tb n P f (P i).l.toNat,sPart dc tn tb n P f (P i).r.toNat,sPut [125]]→x.ok :=
        si_cons (sPuts_ok (by simp) (by simp) (ne_c (opT_ne _) <| ne_c (by simp) ne_n)) <| si_cons ⟨i1,fun _=>rfl⟩ <| si_cons ⟨i2,fun _=>rfl⟩ <| si_cons (sPut_ok (by simp)) si_nil
      have hE:comp [sPuts [opT (P i).op,[123]],sPart dc tn tb n P f (P i).l.toNat,sPart dc tn tb n P f (P i).r.toNat,sPut [125]]=fun b=>tks b ([opT (P i).op,[123]] ++ (paT dc tn P f (P i).l.toNat ++ (paT dc tn P f (P i).r.toNat ++ [[125]]))):=by
        funext b
        rw [tks_app _ _ _ (by simp),tks_appT,tks_appT]
        show tks b _ ++ (tks true _ ++ (tks true _ ++ (tks true _ ++ [])))=_
        rw [List.append_nil]
      have hB:cbad [sPuts [opT (P i).op,[123]],sPart dc tn tb n P f (P i).l.toNat,sPart dc tn tb n P f (P i).r.toNat,sPut [125]]=(paBd tb P f (P i).l.toNat||paBd tb P f (P i).r.toNat):=by
        show (false||(_||(_||(false||false))))=_
        simp
      have hmap:∀ w:List UInt8,opT (P i).op=w→List.map SI.itm [sPuts [opT (P i).op,[123]],sPart dc tn tb n P f (P i).l.toNat,sPart dc tn tb n P f (P i).r.toNat,sPut [125]]=[iPut [w,[123]],iPart n P (P i).l,iPart n P (P i).r,iPut [[125]]]:=fun w hw=>by
        show [iPut [opT (P i).op,[123]],iPart n P (((P i).l.toNat:Nat):Int),iPart n P (((P i).r.toNat:Nat):Int),iPut [[125]]]=_
        rw [hw,hl,hr]
      rcases (show (P i).op=1∨(P i).op=2∨(P i).op=3 by omega) with ho | ho | ho
      · refine pr_of (bx:=[.c (Prt.v (P i) 1)]) _ hits (fun L U l b u h=>gspecGWZ e_nil k_nil B57_ok (w_cons wP_ok (w_cons wP_ok (w_cons wP_ok w_nil))) r_nil Tryz.func135 (by kernel_rfl) (by kernel_rfl) (mem:=pM l b u) (oneZ_ok (zOp_ok 2 1)) noL_okN rfl (τ:=[some 0,some 1,some 6]) (by rfl) ((paA L U l b u n P (i:Nat)).trans ?_)) hE hB (fun _=>rfl)
        rw [hix,Int.toNat_natCast,beq_false_of_ne h0,gate_pos ho]
        rw [hmap [98,111,116,104] (by rw [ho]; rfl)] at h
        exact h
      · refine pr_of (bx:=[.c (Prt.v (P i) 2)]) _ hits (fun L U l b u h=>gspecGWZ e_nil k_nil B57_ok (w_cons wP_ok (w_cons wP_ok (w_cons wP_ok w_nil))) r_nil Tryz.func135 (by kernel_rfl) (by kernel_rfl) (mem:=pM l b u) (oneZ_ok (zOp_ok 2 2)) noL_okN rfl (τ:=[some 0,some 1,some 6]) (by rfl) ((paB L U l b u n P (i:Nat)).trans ?_)) hE hB (fun _=>rfl)
        rw [hix,Int.toNat_natCast,beq_false_of_ne h0,gate_pos ho]
        rw [hmap [101,105,116,104,101,114] (by rw [ho]; rfl)] at h
        exact h
      · refine pr_of (bx:=[.c (Prt.v (P i) 3)]) _ hits (fun L U l b u h=>gspecGWZ e_nil k_nil B57_ok (w_cons wP_ok (w_cons wP_ok (w_cons wP_ok w_nil))) r_nil Tryz.func135 (by kernel_rfl) (by kernel_rfl) (mem:=pM l b u) (oneZ_ok (zOp_ok 2 3)) noL_okN rfl (τ:=[some 0,some 1,some 6]) (by rfl) ((paC L U l b u n P (i:Nat)).trans ?_)) hE hB (fun _=>rfl)
        rw [hix,Int.toNat_natCast,beq_false_of_ne h0,gate_pos ho]
        rw [hmap [108,101,115,115] (by rw [ho]; rfl)] at h
        exact h
end
end Go.Proofs.YtefphimaggjihaaGreatDoor.Pi

namespace Go.Proofs.YtefphimaggjihaaGreatDoor.Pi
open Go.Shelf Go.RowKit Go.Gv
open Hs (shC)
open Hs.So (Prt prS soC)
section
variable (L:Nat→List UInt8) (U:Nat→Bool) (l:List UInt8) (b u:Bool) (n:Nat) (P:Nat→Prt) (sn:Int)
def FAr (n:Nat) (P:Nat→Prt) (v:Bool):Prop:=FSpec Tryz.prog 134 [prS n P] (bA v)
def soW:List UInt8:=[115,111,108,105,100]
theorem so_t:evGW Tryz.prog [] [kS Tryz.prog 134 fun _=>bA true] B57 [wPut L U,wP 135 true L U,wNd] [] noL Tryz.f94 [.own 0 0,.agg (soC n P sn)] (pM l b u) [some 0,some 1,some 4] =
  chW L U [iPut [soW],.g (FAr n P true),iPart n P (w64 ((n:Int) - 1))] (pM l b u ++ [.c (soC n P sn)]) kF:=by kernel_rfl
theorem so_f:evGW Tryz.prog [] [kS Tryz.prog 134 fun _=>bA false] B57 [wPut L U,wP 135 true L U,wNd] [] noL Tryz.f94 [.own 0 0,.agg (soC n P sn)] (pM l b u) [some 0,some 1,some 3] =
  chW L U [iPut [soW],.g (FAr n P false),.n false] (pM l b u ++ [.c (soC n P sn)]) kF:=by kernel_rfl
end
section
variable (L:Nat→List UInt8) (U:Nat→Bool) (e:Nat→Nat) (l1:List UInt8)
def eyA (e:Nat→Nat):List AV:=[.f (e 0),.f (e 1),.f (e 2),.f (e 3),.f (e 4),.f (e 5),.f (e 6),.f (e 7),.f (e 8),.f (e 9)]
def eyM (l:List UInt8) (e:Nat→Nat):List Row:=[prR 2 l.length true false,.c (eyA e),bR l]
noncomputable def wPut0:WEntry:=wQ Tryz.prog 87 (fun _ _=>.tup []) (fun _ mem=>cond (Nat.beq mem.length 2) (eyM l1 e) (stp mem (L mem.length) true (U mem.length)))
theorem eye_ev:evGW Tryz.prog [] [] B57 [wPut0 L U e l1,wVc L U,wFl L U,wEnd L U] [] noL Tryz.f86 [.own 0 0,.agg (eyA e)] (pM0 false false) [some 0,some 10] =
  cond (propB (WSpec Tryz.prog 87 [.own 0 0,tokL [[101,121,101]]] (pM0 false false ++ [.c (eyA e)]) (.tup []) (eyM l1 e)))
   (chW L U [iVec (e 0) (e 1) (e 2),iPut [[116,111]],iVec (e 3) (e 4) (e 5),iPut [[117,112]],iVec (e 6) (e 7) (e 8),iPut [[119,105,100,101]],iFl [e 9],iEnd] (eyM l1 e) (fun _=>gout (.tup []) [prR 1 (L 10).length false (U 10),bR (L 10)])) none:=by kernel_rfl
end
section
variable {dc:Int→List UInt8} {tn:Nat→Int} {tb:Nat→Bool}
theorem soW_ne:soW≠[]:=by simp [soW]
/-- The tokens of a solid. -/
noncomputable def soT (dc:Int→List UInt8) (tn:Nat→Int) (n:Nat) (P:Nat→Prt):List (List UInt8):=soW::cond (arB n P) (paT dc tn P n (n - 1)) []
noncomputable def soB (tb:Nat→Bool) (n:Nat) (P:Nat→Prt):Bool:=cond (arB n P) (paBd tb P n (n - 1)) true
theorem pr_solid {n:Nat} {P:Nat→Prt} {sn:Int} (h1:1≤n) (hn:n≤16) (hP:PM n P) (hS:∀ i,i < n→(P i).op=0→ShN dc tn tb (P i).k (P i).a):Pr 94 [.agg (soC n P sn)] (fun b=>tks b (soT dc tn n P)) (soB tb n P) true:=by
  have hA:=asRead_spec h1 hn hP
  have hl:w64 ((n:Int) - 1)=((n - 1:Nat):Int):=by rw [w64_id (by omega) (by omega)]; omega
  unfold soT soB
  cases hv:arB n P
  · rw [hv] at hA
    exact pr_of (bx:=[.c (soC n P sn)]) [sPut soW,.g (FAr n P false),.n false] (si_cons (sPut_ok soW_ne) <| si_cons hA <| si_cons trivial si_nil)
      (fun L U l b u h=>gspecGW e_nil (k_cons kS_ok k_nil) B57_ok (w_cons wP_ok (w_cons wP_ok (w_cons wNd_ok w_nil))) r_nil Tryz.func94 (by kernel_rfl) (by kernel_rfl) (mem:=pM l b u) noL_okN rfl (τ:=[some 0,some 1,some 3]) (by rfl) ((so_f L U l b u n P sn).trans h))
      (by funext b; simp) (by simp) (fun _=>rfl)
  · rw [hv] at hA
    refine pr_of (bx:=[.c (soC n P sn)]) [sPut soW,.g (FAr n P true),sPart dc tn tb n P n (n - 1)] (si_cons (sPut_ok soW_ne) <| si_cons hA <| si_cons ⟨pr_part hP hS n (n - 1) (by omega) (by omega),fun _=>rfl⟩ si_nil)
      (fun L U l b u h=>gspecGW e_nil (k_cons kS_ok k_nil) B57_ok (w_cons wP_ok (w_cons wP_ok (w_cons wNd_ok w_nil))) r_nil Tryz.func94 (by kernel_rfl) (by kernel_rfl) (mem:=pM l b u) noL_okN rfl (τ:=[some 0,some 1,some 4]) (by rfl) ((so_t L U l b u n P sn).trans ?_))
      (by funext b; simp [sPart]) (by simp [sPart]) (fun _=>rfl)
    rw [hl]
    exact h
section
variable (l1 t:List UInt8)
theorem put0_ev:evGW Tryz.prog [] [] [] [wQ Tryz.prog 128 (fun _ _=>wsV (lB t)) (fun _ _=>pM l1 false false)] [] noL Tryz.f87 [.own 0 0,tokL [t]] (pM0 false false) [some 0,some 1] =
  cond (propB (WSpec Tryz.prog 128 [.own 0 0,zA (lB t)] (pM0 false false) (wsV (lB t)) (pM l1 false false))) (gout (.tup []) (pM l1 true false)) none:=by kernel_rfl
end
theorem put0_spec {t:List UInt8} (h0:t≠[]) (ht:t.length≤1000):GSpec Tryz.prog 87 [.own 0 0,tokL [t]] (pM0 false false) (.tup []) (pM t true false):=by
  have hw:WSpec Tryz.prog 128 [.own 0 0,zA (lB t)] (pM0 false false) (wsV (lB t)) (pM t false false):=by
    have:=ws_fresh (b:=false) (u:=false) (s:=lB t) (List.length_pos_iff.2 h0) (by rw [lB_size]; omega)
    rw [bL_lB] at this
    exact wspec_of this
  refine gspecGW e_nil k_nil m_nil (w_cons wQ_ok w_nil) r_nil Tryz.func87 (by kernel_rfl) (by kernel_rfl) (mem:=pM0 false false) noL_okN rfl (τ:=[some 0,some 1]) (by rfl) ((put0_ev t t).trans ?_)
  rw [propB_t hw]
  rfl
def eyW:List UInt8:=[101,121,101]
theorem put0_lift (e:Nat→Nat):WSpec Tryz.prog 87 [.own 0 0,tokL [eyW]] (pM0 false false ++ [.c (eyA e)]) (.tup []) (eyM eyW e):=by
  refine wframe (v:=.tup []) (put0_spec (t:=eyW) (by simp [eyW]) (by simp [eyW])) [0] rfl rfl rfl (fun i j hi=>?_) ⟨fun j hj hl=>?_,fun i j r hi hr=>?_,fun i r hi hr=>?_⟩
  · match i,hi with
    | 0,hi=>simp at hi; subst hi; exact ⟨_,rfl,rfl,rfl⟩
    | n+1,hi=>simp at hi
  · match j,hj,hl with
    | 0,hj,_=>exact absurd (by simp) hj
    | 1,_,_=>rfl
    | n+2,_,hl=>exact absurd hl (by show ¬ n+2 < 2; omega)
  · match i,hi with
    | 0,hi=>simp at hi; subst hi; cases hr; rfl
    | n+1,hi=>simp at hi
  · match i,hi,hr with
    | 0,hi,_=>exact absurd hi (by show ¬ 1≤0; omega)
    | 1,_,hr=>cases hr; rfl
    | n+2,_,hr=>cases hr
/-- The tokens of an eye. -/
def eyT (dc:Int→List UInt8) (tn:Nat→Int) (e:Nat→Nat):List (List UInt8):=eyW::(vT dc tn e 0 ++ ([116,111]::(vT dc tn e 3 ++ ([117,112]::(vT dc tn e 6 ++ [[119,105,100,101],ntk dc tn (e 9)])))))
def eyB (tb:Nat→Bool) (e:Nat→Nat):Bool:=vB tb e 0||(vB tb e 3||(vB tb e 6||!(tb (e 9))))
def eyI (dc:Int→List UInt8) (tn:Nat→Int) (tb:Nat→Bool) (e:Nat→Nat):List SI:=[sVec dc tn tb e 0,sPut [116,111],sVec dc tn tb e 3,sPut [117,112],sVec dc tn tb e 6,sPut [119,105,100,101],sFl dc tn tb (e 9),sEnd]
theorem eye_spec {e:Nat→Nat} (h0:NV dc tn tb e 0) (h3:NV dc tn tb e 3) (h6:NV dc tn tb e 6) (h9:Nu dc tn tb (e 9)) (hl:(lineE false (eyT dc tn e)).length≤900000):GSpec Tryz.prog 86 [.own 0 0,.agg (eyA e)] (pM0 false false) (.tup []) (pM (lineE false (eyT dc tn e)) false (eyB tb e)):=by
  have hE:eyW ++ comp (eyI dc tn tb e) true=lineE false (eyT dc tn e):=by simp [lineE,eyI,eyT,vT]
  have hB:cbad (eyI dc tn tb e)=eyB tb e:=by simp [eyI,eyB]
  have hI:Inv (eyM eyW e) eyW true false:=⟨by show 0 < 2; omega,rfl,rfl⟩
  have hlen:eyW.length+(comp (eyI dc tn tb e) true).length≤900000:=by rw [← List.length_append,hE]; exact hl
  obtain ⟨m',h1,h2⟩:=chW_run (eyI dc tn tb e) (LU (eyI dc tn tb e) eyW true false) 3 (eyM eyW e) eyW true false (fun _=>gout (.tup []) [prR 1 ((LU (eyI dc tn tb e) eyW true false).getD (10 - 3) ([],false)).1.length false ((LU (eyI dc tn tb e) eyW true false).getD (10 - 3) ([],false)).2,bR ((LU (eyI dc tn tb e) eyW true false).getD (10 - 3) ([],false)).1]) hI (by show 3≤3; omega) (fun i _=>by show _=_; rw [show (eyM eyW e).length - 3+i=i by show 3 - 3+i=i; omega])
    (si_cons (sVec_ok h0) <| si_cons (sPut_ok (by simp)) <| si_cons (sVec_ok h3) <| si_cons (sPut_ok (by simp)) <| si_cons (sVec_ok h6) <| si_cons (sPut_ok (by simp)) <| si_cons (sFl_ok h9) <| si_cons sEnd_ok si_nil) (by omega)
  have e7:(LU (eyI dc tn tb e) eyW true false).getD (10 - 3) ([],false)=(eyW ++ comp (eyI dc tn tb e) true,cbad (eyI dc tn tb e)):=by
    simp [LU,eyI,Bool.or_assoc]
  rw [e7,hE,hB] at h2
  refine gspecGW e_nil k_nil B57_ok (w_cons wQ_ok (w_cons wP_ok (w_cons wP_ok (w_cons wP_ok w_nil)))) r_nil Tryz.func86 (by kernel_rfl) (by kernel_rfl) (mem:=pM0 false false) noL_okN rfl (τ:=[some 0,some 10]) (by rfl) ((eye_ev (fun n=>((LU (eyI dc tn tb e) eyW true false).getD (n - 3) ([],false)).1) (fun n=>((LU (eyI dc tn tb e) eyW true false).getD (n - 3) ([],false)).2) e eyW).trans ?_)
  have hp:WSpec Tryz.prog 87 [.own 0 0,tokL [[101,121,101]]] (pM0 false false ++ [.c (eyA e)]) (.tup []) (eyM eyW e):=put0_lift e
  rw [propB_t hp,e7,hE,hB]
  exact h2
end
end Go.Proofs.YtefphimaggjihaaGreatDoor.Pi

namespace Go.Gv
open Go.RowKit Go.Ev
noncomputable section

/-- In whatever order the operations are taken, what is known in the end is told by K. -/
def AnyS (P:Program) (T:Tab) (ops:Array Oper) (K:St→Prop):Nat→Array Bool→St→Prop
  | 0,listed,s=>Region.ready .any ops listed=[]∧K s
  | fuel+1,listed,s=>(Region.ready .any ops listed=[]→K s)∧∀ i,i ∈ Region.ready .any ops listed→∃ o s1,ops[i]?=some o∧AStep P T ops.toList s o s1∧AnyS P T ops K fuel (listed.setIfInBounds i true) s1
section
variable {P:Program} {T:Tab} {ops:Array Oper} {Q:Exit→Act→World→Prop} {A0 R:Nat→Prop} {w0:Env}
theorem any_wp (hT:TOk P T) {K:St→Prop} (hQ:∀ (E:Env) (a:Act) (s':St),K s'→Inv A0 R w0 E s' a→Q .normal a E.w):∀ (fuel:Nat) (listed:Array Bool) (E:Env) (s:St) (a:Act),Inv A0 R w0 E s a→AnyS P T ops K fuel listed s→wpAny P .any ops Q fuel listed a E.w
  | 0,listed,E,s,a,hI,h=>⟨h.1,hQ E a s h.2 hI⟩
  | fuel+1,listed,E,s,a,hI,h=>by
    refine ⟨fun h0=>hQ E a s (h.1 h0) hI,fun i hi=>?_⟩
    obtain ⟨o,s1,ho,hs,h4⟩:=h.2 i hi
    have go:∀ K':Act→World→Prop,(∀ E' a',Inv A0 R w0 E' s1 a'→K' a' E'.w)→if Region.wanted o (yielded ops a.tmps) then o.wp P a E.w K' Q else K' (a.put o.dst undef) E.w:=fun K' hK=>by
      rcases hs with (⟨v,mem1,h1,h2,rfl⟩ | ⟨v,rows,h1,h2,rfl⟩ | ⟨g,c,v,h1,h2,h3,h5,rfl⟩ | ⟨b,c,eff,h1,h2,h3,rfl⟩) | ⟨b,c,eff,h1,h2,h3⟩
      · exact wstep_wp hT hI h1 h2 K' hK
      · exact nstep_wp hT hI h1 h2 K' hK
      · exact lstep_wp hT hI h1 h2 h3 h5 K' hK
      · exact astep_wp hT.flat hI h1 h2 h3 K' hK
      · exact fstep_wp hT hI h1 h2 h3 K' hK
    have g:=go (wpAny P .any ops Q fuel (listed.setIfInBounds i true)) fun E' a' hI'=>any_wp hT hQ fuel _ E' s1 a' hI' h4
    unfold wpOp
    rw [ho]
    simp only
    split
    · rename_i hw
      rw [if_pos hw] at g
      exact Or.inl g
    · rename_i hw
      rw [if_neg hw] at g
      exact g
end
theorem Inv.drew {A0 R:Nat→Prop} {w0:Env} {E:Env} {s:St} {a:Act} (hI:Inv A0 R w0 E s a):Inv A0 R w0 { E with w:=E.w.drew } s a:=by
  obtain ⟨hwd,hle⟩:=hI.wd.on (w':=E.w.drew) (Below.refl _ _).drew
  exact ⟨hI.defers,frel_le hle hI.frame,hwd⟩
/-- A region that draws its order leads from what is known to what is known. -/
def RegOk (P:Program) (ops:Array Oper) (s0 s1:St):Prop:=∀ (A0 R:Nat→Prop) (w0:Env) (E:Env) (a:Act) (id:Nat) (Q:Exit→Act→World→Prop),Inv A0 R w0 E s0 a→(∀ E' a',Inv A0 R w0 E' (clr s1) a'→Q .normal a' E'.w)→(Code.region id ops true).wp P Q a E.w
theorem reg_any {P:Program} {T:Tab} {ops:Array Oper} {s s1:St} (hT:TOk P T) (hm:P.follows .mixedOrders=true) (h:AnyS P T ops (fun s'=>clr s'=clr s1) ops.size (Array.replicate ops.size false) s):RegOk P ops s s1:=fun A0 R w0 E a id Q hI hQ=>by
  refine wp_region_any hm ?_
  refine any_wp (w0:=w0) (A0:=A0) (R:=R) hT (fun E' a' s' hs hI'=>?_) ops.size _ { E with w:=E.w.drew } s a hI.drew h
  refine hQ E' a' ?_
  rw [← hs]
  exact hI'.clear
/-- One step, out of an evaluation. -/
theorem astep_of {P:Program} {T:Tab} {ops:List Oper} {o:Oper} {s s1:St} (hT:TPar T) (h:aopsK P T ops [o] s (fun s'=>some ⟨.normal,s',.any⟩)=some ⟨.normal,s1,.any⟩):AStep P T ops s o s1:=by
  obtain ⟨s',⟨s2,h1,h2⟩,h3,_⟩:=aopsK_some hT h
  have e:s2=s':=h2
  subst e
  simp only [Option.some.injEq,Out.mk.injEq,and_true,true_and] at h3
  subst h3
  exact h1
def fstD (ops:List Oper):Option Nat:=match ops with
  | o::_=>o.dst
  | []=>none
def toldD (d:Nat) (ops0:List Oper) (s0 s1:St) (D:List Oper→St→SK→Option Out):List Oper→St→SK→Option Out:=fun ops s k=>match fstD ops with
  | some d'=>cond (Nat.beq d' d) (gate (ops=ops0∧s=s0) (k s1)) (D ops s k)
  | none=>D ops s k
theorem toldD_ok {P:Program} {d:Nat} {ops0:Array Oper} {s0 s1:St} {D:List Oper→St→SK→Option Out} (hD:DOk P D) (h:RegOk P ops0 s0 s1):DOk P (toldD d ops0.toList s0 s1 D):=by
  have get:∀ {ops s k r},toldD d ops0.toList s0 s1 D ops s k=some r→(D ops s k=some r∧∀ k',toldD d ops0.toList s0 s1 D ops s k'=D ops s k')∨(ops=ops0.toList∧s=s0∧k s1=some r∧∀ k',toldD d ops0.toList s0 s1 D ops s k'=k' s1):=fun {ops s k r} hr=>by
    unfold toldD at hr ⊢
    split at hr
    · rename_i d' hd
      cases hb:Nat.beq d' d
      · rw [hb] at hr
        exact Or.inl ⟨hr,fun k'=>by simp only [cond_false]⟩
      · rw [hb] at hr
        obtain ⟨⟨g1,g2⟩,g3⟩:=gate_some hr
        exact Or.inr ⟨g1,g2,g3,fun k'=>by simp only [cond_true]; rw [gate_pos ⟨g1,g2⟩]⟩
    · exact Or.inl ⟨hr,fun k'=>rfl⟩
  constructor
  · intro ops s k r hr
    rcases get hr with ⟨g1,g2⟩ | ⟨_,_,g3,g4⟩
    · obtain ⟨s',h1,h2⟩:=hD.1 ops s k r g1
      exact ⟨s',h1,fun k'=>by rw [g2]; exact h2 k'⟩
    · exact ⟨s1,g3,g4⟩
  · intro A0 R w0 E s s' a id ops Q hI hk hQ
    have h0:=hk fun s=>some ⟨.normal,s,.any⟩
    rcases get h0 with ⟨_,g2⟩ | ⟨g1,g2,g3,_⟩
    · exact hD.2 A0 R w0 E s s' a id ops Q hI (fun k'=>by rw [← g2]; exact hk k') hQ
    · simp only [Option.some.injEq,Out.mk.injEq,and_true,true_and] at g3
      subst g3
      have e:ops=ops0:=Array.toList_inj.1 g1
      subst e g2
      exact h A0 R w0 E a id Q hI hQ
end
end Go.Gv

namespace Go.Gv
open Go.RowKit Go.Ev
noncomputable section

/-- The operations that must be done ahead of one. -/
def depsOf (ops:Array Oper) (i:Nat):List Nat:=match ops[i]? with
  | some o=>(o.after.toList.filter fun e=>Region.binds .any e).map (·.on)
  | none=>[]
theorem ready_in {ops:Array Oper} {listed:Array Bool} {i:Nat} (h:i ∈ Region.ready .any ops listed) (hs:listed.size=ops.size):i < ops.size∧listed.toList[i]?=some false∧∀ d,d ∈ depsOf ops i→listed.toList[d]?=some true:=by
  unfold Region.ready at h
  obtain ⟨h1,h2⟩:=List.mem_filter.1 h
  have hi:i < ops.size:=List.mem_range.1 h1
  simp only [Bool.and_eq_true,Bool.not_eq_true'] at h2
  obtain ⟨h3,h4⟩:=h2
  have hil:i < listed.size:=by omega
  refine ⟨hi,?_,fun d hd=>?_⟩
  · rw [Array.getElem?_toList,Array.getElem?_eq_getElem hil]
    simpa [Array.getD,hil] using h3
  · unfold depsOf at hd
    rw [Array.getElem?_eq_getElem hi] at hd h4
    simp only [Option.map_some,Option.getD_some] at h4
    obtain ⟨e,he,rfl⟩:=List.mem_map.1 hd
    obtain ⟨he1,he2⟩:=List.mem_filter.1 he
    have:=Array.all_eq_true'.1 h4 e (by simpa using he1)
    rw [he2] at this
    simp only [Bool.not_true,Bool.false_or] at this
    by_cases hl:e.on < listed.size
    · rw [Array.getElem?_toList,Array.getElem?_eq_getElem hl]
      simpa [Array.getD,hl] using this
    · simp [Array.getD,hl] at this
theorem ready_least {ops:Array Oper} {listed:Array Bool} (hs:listed.size=ops.size) (hlow:∀ i,i < ops.size→∀ d,d ∈ depsOf ops i→d < i) (h:Region.ready .any ops listed=[]):∀ i,i < ops.size→listed.toList[i]?=some true:=by
  intro i
  induction i using Nat.strongRecOn with
  | ind i ih =>
    intro hi
    have hil:i < listed.size:=by omega
    rw [Array.getElem?_toList,Array.getElem?_eq_getElem hil]
    cases hb:listed[i] with
    | true=>rfl
    | false =>
      have hm:i ∈ Region.ready .any ops listed:=by
        unfold Region.ready
        refine List.mem_filter.2 ⟨List.mem_range.2 hi,?_⟩
        simp only [Bool.and_eq_true,Bool.not_eq_true']
        refine ⟨by simp [Array.getD,hil,hb],?_⟩
        rw [Array.getElem?_eq_getElem hi]
        simp only [Option.map_some,Option.getD_some]
        refine Array.all_eq_true'.2 fun e he=>?_
        cases hbd:Region.binds .any e
        · rfl
        · have hd:e.on ∈ depsOf ops i:=by
            unfold depsOf
            rw [Array.getElem?_eq_getElem hi]
            exact List.mem_map.2 ⟨e,List.mem_filter.2 ⟨by simpa using he,hbd⟩,rfl⟩
          have hlt:=hlow i hi _ hd
          have:=ih e.on hlt (by omega)
          rw [Array.getElem?_toList,Array.getElem?_eq_getElem (by omega)] at this
          simp only [Option.some.injEq] at this
          simp [Array.getD,show e.on < listed.size by omega,this]
      rw [h] at hm
      cases hm
theorem anyS_fun {P:Program} {T:Tab} {ops:Array Oper} {K:St→Prop} (st:List Bool→St) (hlow:∀ i,i < ops.size→∀ d,d ∈ depsOf ops i→d < i)
    (hstep:∀ (bs:List Bool) (i:Nat),bs.length=ops.size→i < ops.size→bs[i]?=some false→(∀ d,d ∈ depsOf ops i→bs[d]?=some true)→∃ o,ops[i]?=some o∧AStep P T ops.toList (st bs) o (st (bs.set i true)))
    (hend:K (st (List.replicate ops.size true))):∀ (fuel:Nat) (listed:Array Bool),listed.size=ops.size→listed.toList.count false≤fuel→AnyS P T ops K fuel listed (st listed.toList):=by
  have done:∀ listed:Array Bool,listed.size=ops.size→(∀ i,i < ops.size→listed.toList[i]?=some true)→listed.toList=List.replicate ops.size true:=fun listed hs h=>by
    apply List.ext_getElem?
    intro i
    by_cases hi:i < ops.size
    · rw [h i hi,List.getElem?_replicate,if_pos hi]
    · rw [List.getElem?_eq_none (by simp; omega),List.getElem?_eq_none (by simp; omega)]
  intro fuel
  induction fuel with
  | zero =>
    intro listed hs hc
    have hall:∀ i,i < ops.size→listed.toList[i]?=some true:=fun i hi=>by
      rw [List.getElem?_eq_getElem (by simp; omega)]
      cases hb:listed.toList[i]'(by simp; omega) with
      | true=>rfl
      | false =>
        have:false ∈ listed.toList:=by rw [← hb]; exact List.getElem_mem _
        have:=List.count_pos_iff.2 this
        omega
    refine ⟨?_,by rw [done listed hs hall]; exact hend⟩
    cases hr:Region.ready .any ops listed with
    | nil=>rfl
    | cons i r =>
      obtain ⟨h1,h2,_⟩:=ready_in (i:=i) (by rw [hr]; simp) hs
      rw [hall i h1] at h2
      cases h2
  | succ fuel ih =>
    intro listed hs hc
    refine ⟨fun h0=>by rw [done listed hs (ready_least hs hlow h0)]; exact hend,fun i hi=>?_⟩
    obtain ⟨h1,h2,h3⟩:=ready_in hi hs
    obtain ⟨o,ho,hA⟩:=hstep listed.toList i (by simpa using hs) h1 h2 h3
    have e:(listed.setIfInBounds i true).toList=listed.toList.set i true:=by simp
    refine ⟨o,_,ho,hA,?_⟩
    rw [← e]
    refine ih _ (by simpa using hs) ?_
    rw [e]
    have hl:i < listed.toList.length:=by simpa [hs] using h1
    have hb:listed.toList[i]=false:=by rw [List.getElem?_eq_getElem hl] at h2; simpa using h2
    have hp:0 < listed.toList.count false:=List.count_pos_iff.2 (by rw [← hb]; exact List.getElem_mem hl)
    rw [List.count_set hl,hb]
    show listed.toList.count false - 1+0≤fuel
    omega
end
end Go.Gv

namespace Go.Proofs.YtefphimaggjihaaGreatDoor.Pi
open Go.Shelf Go.RowKit Go.Gv

/-- The operations of a region. -/
def opsAt:Code→Nat→Option (Array Oper)
  | .region id ops _,i=>cond (Nat.beq id i) (some ops) none
  | .seq a b,i=>match opsAt a i with
    | some o=>some o
    | none=>opsAt b i
  | .loop c,i=>opsAt c i
  | .cond _ a b,i=>match opsAt a i with
    | some o=>some o
    | none=>opsAt b i
  | _,_=>none
noncomputable def fdO:Array Oper:=((opsAt (bodyOf Tryz.f95) 1).getD #[])
theorem fdO_size:fdO.size=9:=by kernel_rfl
def mkV (n:Nat) (l:List (Nat × AV)) (mem:List Row):St:=⟨(List.range n).map fun i=>(match l.find? (fun p=>Nat.beq p.1 i) with
  | some p=>p.2
  | none=>.x undef,[]),mem⟩
def cb (b:Bool) (v:AV):AV:=cond b v (.x undef)
def stK:SK:=fun s'=>some ⟨.normal,s',.any⟩
section
variable (L:Nat→List UInt8) (U:Nat→Bool) (l:List UInt8) (b u:Bool) (F:Hs.Fm.Fd)
def fdW:List (List UInt8):=[[102,105,101,108,100],Lib.itoa F.W,Lib.itoa F.H,[97,116]]
def fdM:List Row:=pM l b u ++ [.c F.c]
noncomputable def fdTb:Tab:=tabW [] [kIt] B57 [wPut L U,wVc L U,wFl L U] []
def fdM1:List Row:=stp (fdM l b u F) (L 3) true (U 3)
def fdV (b0 b1 b2 b3 b4 b5 b6 b7 b8:Bool):St:=mkV 43 [(0,.own 0 0),(1,.agg F.c),(3,.own 2 0),(6,cb b0 (.own 0 0)),(7,cb b1 (.own 2 0)),(8,cb b2 (iA F.W)),(9,cb b3 (zA (lB (Lib.itoa F.W)))),(10,cb b4 (.own 2 1)),(11,cb b5 (iA F.H)),(12,cb b6 (zA (lB (Lib.itoa F.H)))),(13,cb b7 (tokL (fdW F))),(14,cb b8 (.tup []))] (cond b8 (fdM1 L U l b u F) (fdM l b u F))
noncomputable def fdX (i : Nat) (s : St) : Option Out := aopsK Tryz.prog (fdTb L U) fdO.toList [(fdO[i]?).getD ⟨none, .move (.const undef), 0, "", #[], none⟩] s stK
theorem fx0 (b1 b2 b3 b4 b5 b6 b7 b8:Bool):fdX L U 0 (fdV L U l b u F false b1 b2 b3 b4 b5 b6 b7 b8)=some ⟨.normal,fdV L U l b u F true b1 b2 b3 b4 b5 b6 b7 b8,.any⟩:=by cases b8<;>kernel_rfl
theorem fx1 (b0 b2 b3 b4 b5 b6 b7 b8:Bool):fdX L U 1 (fdV L U l b u F b0 false b2 b3 b4 b5 b6 b7 b8)=some ⟨.normal,fdV L U l b u F b0 true b2 b3 b4 b5 b6 b7 b8,.any⟩:=by cases b8<;>kernel_rfl
theorem fx2 (b0 b3 b4 b5 b6 b7 b8:Bool):fdX L U 2 (fdV L U l b u F b0 true false b3 b4 b5 b6 b7 b8)=some ⟨.normal,fdV L U l b u F b0 true true b3 b4 b5 b6 b7 b8,.any⟩:=by cases b8<;>kernel_rfl
theorem fx3 (b0 b1 b4 b5 b6 b7 b8:Bool):fdX L U 3 (fdV L U l b u F b0 b1 true false b4 b5 b6 b7 b8)=gate (FIt F.W) (some ⟨.normal,fdV L U l b u F b0 b1 true true b4 b5 b6 b7 b8,.any⟩):=by kernel_rfl
theorem fx4 (b0 b1 b2 b3 b5 b6 b7 b8:Bool):fdX L U 4 (fdV L U l b u F b0 b1 b2 b3 false b5 b6 b7 b8)=some ⟨.normal,fdV L U l b u F b0 b1 b2 b3 true b5 b6 b7 b8,.any⟩:=by cases b8<;>kernel_rfl
theorem fx5 (b0 b1 b2 b3 b6 b7 b8:Bool):fdX L U 5 (fdV L U l b u F b0 b1 b2 b3 true false b6 b7 b8)=some ⟨.normal,fdV L U l b u F b0 b1 b2 b3 true true b6 b7 b8,.any⟩:=by cases b8<;>kernel_rfl
theorem fx6 (b0 b1 b2 b4 b7 b8:Bool):fdX L U 6 (fdV L U l b u F b0 b1 b2 true b4 true false b7 b8)=gate (FIt F.H) (some ⟨.normal,fdV L U l b u F b0 b1 b2 true b4 true true b7 b8,.any⟩):=by kernel_rfl
theorem fx7 (b0 b1 b2 b4 b5 b8:Bool):fdX L U 7 (fdV L U l b u F b0 b1 b2 true b4 b5 true false b8)=some ⟨.normal,fdV L U l b u F b0 b1 b2 true b4 b5 true true b8,.any⟩:=by cases b8<;>kernel_rfl
theorem fx8 (b1 b2 b3 b4 b5:Bool):fdX L U 8 (fdV L U l b u F true b1 b2 b3 b4 b5 true true false)=cond (propB (WSpec Tryz.prog 87 [.own 0 0,tokL (fdW F)] (fdM l b u F) (.tup []) (fdM1 L U l b u F))) (some ⟨.normal,fdV L U l b u F true b1 b2 b3 b4 b5 true true true,.any⟩) none:=by kernel_rfl
end
section
variable (L:Nat→List UInt8) (U:Nat→Bool) (l l1 l2:List UInt8) (b u:Bool) (F:Hs.Fm.Fd) (i:Int) (dc:Int→List UInt8)
def fdS (mem:List Row):St:=mkS 43 [(0,.own 0 0),(31,.sl 1 F.n fun i=>[iA (F.hs i)]),(32,iA (F.n:Nat)),(33,iA i)] mem
def keepFd:List Nat:=[0,31,32,33]
noncomputable def flC (x:Option Out) (y:Option Out):Option Out:=cond (decide (i < (F.n:Nat))) (cond (ixB i F.n||false) (gate (FDc dc (F.hs i.toNat)) (cond (propB (WSpec Tryz.prog 87 [.own 0 0,tokL [dc (F.hs i.toNat)]] (pM2 l true u) (.tup []) (stp (pM2 l true u) l1 true u))) x none)) none) y
noncomputable def flW:List WEntry:=[wQ Tryz.prog 87 (fun _ _=>.tup []) (fun _ mem=>stp mem l1 true u)]
theorem fl_step:evCW Tryz.prog [] [kDc dc] B57 (flW l1 u) [] noL (loopAt Tryz.f95 0) (fdS F i (pM2 l true u)) (finN keepFd [some 0,some 1,some 3])=flC l l1 u F i dc (some ⟨.normal,fdS F (w64 (i+1)) (pM2 l1 true u),.any⟩) none:=by kernel_rfl
theorem fl_end:evCW Tryz.prog [] [kDc dc] B57 (flW l1 u) [] noL (loopAt Tryz.f95 0) (fdS F i (pM2 l true u)) (finE keepFd [some 0,some 1,some 2])=flC l l1 u F i dc none (some ⟨.exit 0,fdS F i (pM2 l true u),.any⟩):=by kernel_rfl
noncomputable def evGWD (P:Program) (l:List Entry) (ks:List KEntry) (ms:List MEntry) (ws:List WEntry) (rs:List REntry) (d:Nat) (ops0:List Oper) (s0 s1:St) (L:Nat→Option LFun) (fn:Func) (args:List AV) (mem:List Row) (τ:List (Option Nat)):Option Out:=abodyG P (tabW l ks ms ws rs) (toldD d ops0 s0 s1 (drawnK P (tabW l ks ms ws rs))) L 40 fn args mem τ
abbrev fdZ0:St:=fdV L U l b u F false false false false false false false false false
abbrev fdZ1:St:=fdV L U l b u F true true true true true true true true true
theorem fd_ev:evGWD Tryz.prog [] [kIt] B57 [wPut L U,wVc L U,wFl L U] [] 6 fdO.toList (fdZ0 L U l b u F) (fdZ1 L U l b u F) (oneL 7 (toldP 2 keepFd [some 0,some 1,some 7] (fdS F 0 (pM2 (L 7) true (U 7))) (.exit 0) (fdS F (F.n:Nat) (pM2 l2 true (U 7))))) Tryz.f95 [.own 0 0,.agg F.c] (pM l b u) [some 0,some 1,some 2] =
  gate (fdO.toList=fdO.toList∧fdZ0 L U l b u F=fdZ0 L U l b u F) (chW L U [iVec (F.at_ 0) (F.at_ 1) (F.at_ 2),iPut [[115,105,100,101]],iFl [F.sd],iPut [[104,105,103,104]]] (fdM1 L U l b u F) fun _=>gate (SubN 2 (fdS F 0 (pM2 (L 7) true (U 7))) (fdS F 0 (pM2 (L 7) true (U 7)))) (gout (.tup []) (pM2 l2 true (U 7)))):=by kernel_rfl
end
theorem fdd0:depsOf fdO 0=[]:=by kernel_rfl
theorem fdd1:depsOf fdO 1=[]:=by kernel_rfl
theorem fdd2:depsOf fdO 2=[1]:=by kernel_rfl
theorem fdd3:depsOf fdO 3=[2]:=by kernel_rfl
theorem fdd4:depsOf fdO 4=[]:=by kernel_rfl
theorem fdd5:depsOf fdO 5=[4]:=by kernel_rfl
theorem fdd6:depsOf fdO 6=[5,3]:=by kernel_rfl
theorem fdd7:depsOf fdO 7=[3,6]:=by kernel_rfl
theorem fdd8:depsOf fdO 8=[0,7,6]:=by kernel_rfl
section
variable {L:Nat→List UInt8} {U:Nat→Bool} {l:List UInt8} {b u:Bool} {F:Hs.Fm.Fd}
def fdSt (L:Nat→List UInt8) (U:Nat→Bool) (l:List UInt8) (b u:Bool) (F:Hs.Fm.Fd):List Bool→St
  | [b0,b1,b2,b3,b4,b5,b6,b7,b8]=>fdV L U l b u F b0 b1 b2 b3 b4 b5 b6 b7 b8
  | _=>fdV L U l b u F false false false false false false false false false
theorem fdTb_ok:TOk Tryz.prog (fdTb L U):=tabW_ok e_nil (k_cons kS_ok k_nil) B57_ok (w_cons wP_ok (w_cons wP_ok (w_cons wP_ok w_nil))) r_nil
theorem fd_get {i : Nat} (h : i < 9) : fdO[i]? = some ((fdO[i]?).getD ⟨none, .move (.const undef), 0, "", #[], none⟩) := by
  rw [Array.getElem?_eq_getElem (by rw [fdO_size]; exact h)]
  rfl
theorem fd_reg (h1:FIt F.W) (h2:FIt F.H) (h3:WSpec Tryz.prog 87 [.own 0 0,tokL (fdW F)] (fdM l b u F) (.tup []) (fdM1 L U l b u F)):RegOk Tryz.prog fdO (fdZ0 L U l b u F) (fdZ1 L U l b u F):=by
  have st : ∀ {i : Nat} {s s1 : St}, fdX L U i s = some ⟨.normal, s1, .any⟩ → AStep Tryz.prog (fdTb L U) fdO.toList s ((fdO[i]?).getD ⟨none, .move (.const undef), 0, "", #[], none⟩) s1 := fun h => astep_of fdTb_ok.par h
  refine reg_any (T:=fdTb L U) fdTb_ok (by kernel_rfl) ?_
  have hlow:∀ i,i < fdO.size→∀ d,d ∈ depsOf fdO i→d < i:=fun i hi d hd=>by
    rw [fdO_size] at hi
    match i,hi with
    | 0,_=>rw [fdd0] at hd; cases hd
    | 1,_=>rw [fdd1] at hd; cases hd
    | 2,_=>rw [fdd2] at hd; simp at hd; omega
    | 3,_=>rw [fdd3] at hd; simp at hd; omega
    | 4,_=>rw [fdd4] at hd; cases hd
    | 5,_=>rw [fdd5] at hd; simp at hd; omega
    | 6,_=>rw [fdd6] at hd; simp at hd; omega
    | 7,_=>rw [fdd7] at hd; simp at hd; omega
    | 8,_=>rw [fdd8] at hd; simp at hd; omega
    | n+9,hi=>exact absurd hi (by omega)
  have:=anyS_fun (P:=Tryz.prog) (T:=fdTb L U) (ops:=fdO) (K:=fun s'=>clr s'=clr (fdZ1 L U l b u F)) (fdSt L U l b u F) hlow (fun bs i hl hi hb hd=>?_) (by rw [fdO_size]; rfl) fdO.size (Array.replicate fdO.size false) (by simp) (by rw [fdO_size]; decide)
  · rw [fdO_size] at this ⊢
    exact this
  · rw [fdO_size] at hl hi
    match bs,hl with
    | [b0,b1,b2,b3,b4,b5,b6,b7,b8],_ =>
      refine ⟨_,fd_get hi,?_⟩
      match i,hi,hb,hd with
      | 0,_,hb,hd =>
        simp at hb
        subst hb
        exact st (fx0 L U l b u F _ _ _ _ _ _ _ _)
      | 1,_,hb,hd =>
        simp at hb
        subst hb
        exact st (fx1 L U l b u F _ _ _ _ _ _ _ _)
      | 2,_,hb,hd =>
        simp at hb
        have d1:=hd 1 (by rw [fdd2]; simp)
        simp at d1
        subst hb d1
        exact st (fx2 L U l b u F _ _ _ _ _ _ _)
      | 3,_,hb,hd =>
        simp at hb
        have d2:=hd 2 (by rw [fdd3]; simp)
        simp at d2
        subst hb d2
        refine st ((fx3 L U l b u F _ _ _ _ _ _ _).trans ?_)
        rw [gate_pos h1]
        rfl
      | 4,_,hb,hd =>
        simp at hb
        subst hb
        exact st (fx4 L U l b u F _ _ _ _ _ _ _ _)
      | 5,_,hb,hd =>
        simp at hb
        have d4:=hd 4 (by rw [fdd5]; simp)
        simp at d4
        subst hb d4
        exact st (fx5 L U l b u F _ _ _ _ _ _ _)
      | 6,_,hb,hd =>
        simp at hb
        have d5:=hd 5 (by rw [fdd6]; simp)
        simp at d5
        have d3:=hd 3 (by rw [fdd6]; simp)
        simp at d3
        subst hb d5 d3
        refine st ((fx6 L U l b u F _ _ _ _ _ _).trans ?_)
        rw [gate_pos h2]
        rfl
      | 7,_,hb,hd =>
        simp at hb
        have d3:=hd 3 (by rw [fdd7]; simp)
        simp at d3
        have d6:=hd 6 (by rw [fdd7]; simp)
        simp at d6
        subst hb d3 d6
        exact st (fx7 L U l b u F _ _ _ _ _ _)
      | 8,_,hb,hd =>
        simp at hb
        have d0:=hd 0 (by rw [fdd8]; simp)
        simp at d0
        have d7:=hd 7 (by rw [fdd8]; simp)
        simp at d7
        have d6:=hd 6 (by rw [fdd8]; simp)
        simp at d6
        subst hb d0 d7 d6
        refine st ((fx8 L U l b u F _ _ _ _ _).trans ?_)
        rw [propB_t h3]
        rfl
      | n+9,hi,_,_=>exact absurd hi (by omega)
end
section
variable {dc:Int→List UInt8} {tn:Nat→Int} {tb:Nat→Bool} {F:Hs.Fm.Fd}
def hiT (dc:Int→List UInt8) (F:Hs.Fm.Fd) (j:Nat):List (List UInt8):=(List.range j).map fun q=>dc (F.hs q)
theorem hiT_next (j:Nat):tks true (hiT dc F (j+1))=tks true (hiT dc F j) ++ tks true [dc (F.hs j)]:=by
  unfold hiT
  rw [List.range_succ,List.map_append,tks_appT]
  rfl
theorem hiT_mono (j:Nat):(tks true (hiT dc F j)).length≤(tks true (hiT dc F (j+1))).length:=by rw [hiT_next,List.length_append]; omega
theorem hiT_le {n:Nat}:∀ {j:Nat},j≤n→(tks true (hiT dc F j)).length≤(tks true (hiT dc F n)).length:=fun {j} h=>by
  induction n with
  | zero => have:j=0:=by omega
            subst this; exact Nat.le_refl _
  | succ n ih =>
    by_cases c:j=n+1
    · subst c; exact Nat.le_refl _
    · exact Nat.le_trans (ih (by omega)) (hiT_mono n)
theorem fl_leads {l:List UInt8} {u:Bool} (hn:F.n≤1000) (hd:∀ q,q < F.n→FDc dc (F.hs q)∧dc (F.hs q)≠[]) (hl:l.length+(tks true (hiT dc F F.n)).length≤900000000):LeadsN 2 Tryz.prog (.loop (loopAt Tryz.f95 0)) (fdS F 0 (pM2 l true u)) (.exit 0) (fdS F (F.n:Nat) (pM2 (l ++ tks true (hiT dc F F.n)) true u)):=by
  have e0:l ++ tks true (hiT dc F 0)=l:=by simp [hiT]
  suffices key:LeadsN 2 Tryz.prog (.loop (loopAt Tryz.f95 0)) (fdS F ((0:Nat):Int) (pM2 (l ++ tks true (hiT dc F 0)) true u)) (.exit 0) (fdS F (F.n:Nat) (pM2 (l ++ tks true (hiT dc F F.n)) true u)) by
    rw [e0] at key
    exact key
  refine loop_rule (fun j=>fdS F (j:Nat) (pM2 (l ++ tks true (hiT dc F j)) true u)) F.n (.exit 0) _ (by simp) (fun j hj=>?_) ?_
  · have hx:=hd j hj
    have hle:=hiT_le (dc:=dc) (F:=F) (n:=F.n) (j:=j+1) (by omega)
    have hnx:=hiT_next (dc:=dc) (F:=F) j
    have hlen:(l ++ tks true (hiT dc F j)).length=l.length+(tks true (hiT dc F j)).length:=List.length_append
    have hl1:(tks true (hiT dc F (j+1))).length=(tks true (hiT dc F j)).length+(tks true [dc (F.hs j)]).length:=by rw [hnx,List.length_append]
    have hw:WSpec Tryz.prog 87 [.own 0 0,tokL [dc (F.hs j)]] (pM2 (l ++ tks true (hiT dc F j)) true u) (.tup []) (stp (pM2 (l ++ tks true (hiT dc F j)) true u) (l ++ tks true (hiT dc F (j+1))) true u):=by
      have:=pr_one hx.2 (l ++ tks true (hiT dc F j)) true u (by show _+(tks true [dc (F.hs j)]).length≤_; omega)
      rw [Bool.or_false] at this
      rw [hnx,← List.append_assoc]
      exact wl_lift (inv_pM2 _ true u) (fun _=>rfl) (fun _=>rfl) this
    refine leads_evWN (finN_subN _ (by rfl)) e_nil (k_cons kS_ok k_nil) B57_ok (w_cons wQ_ok w_nil) r_nil noL_okN ((fl_step (l ++ tks true (hiT dc F j)) (l ++ tks true (hiT dc F (j+1))) u F (j:Nat) dc).trans ?_)
    unfold flC
    rw [dec_lt hj,ixB_t hj,Int.toNat_natCast,gate_pos hx.1,propB_t hw,w64_next (by omega)]
    rfl
  · refine leads_evWN (finE_subN _ (by rfl)) e_nil (k_cons kS_ok k_nil) B57_ok (w_cons wQ_ok w_nil) r_nil noL_okN ((fl_end (l ++ tks true (hiT dc F F.n)) [] u F (F.n:Nat) dc).trans ?_)
    unfold flC
    rw [dec_self]
    rfl
/-- The tokens of a field. -/
def fdT (dc:Int→List UInt8) (tn:Nat→Int) (F:Hs.Fm.Fd):List (List UInt8):=fdW F ++ (vT dc tn F.at_ 0 ++ ([115,105,100,101]::(ntk dc tn F.sd::([104,105,103,104]::hiT dc F F.n))))
def fdB (tb:Nat→Bool) (F:Hs.Fm.Fd):Bool:=vB tb F.at_ 0||!(tb F.sd)
def fdI (dc:Int→List UInt8) (tn:Nat→Int) (tb:Nat→Bool) (F:Hs.Fm.Fd):List SI:=[sVec dc tn tb F.at_ 0,sPut [115,105,100,101],sFl dc tn tb F.sd,sPut [104,105,103,104]]
theorem gspecGWD {l : List Entry} {ks : List KEntry} {ms : List MEntry} {ws : List WEntry} {rs : List REntry} {L : Nat → Option LFun} (hl : ∀ e, e ∈ l → EOk Tryz.prog e) (hks : ∀ e, e ∈ ks → KOk Tryz.prog e) (hms : ∀ e, e ∈ ms → MEOk Tryz.prog e) (hws : ∀ e, e ∈ ws → WEOk Tryz.prog e) (hrs : ∀ e, e ∈ rs → REOk Tryz.prog e) {d : Nat} {ops0 : Array Oper} {s0 s1 : St} (hreg : RegOk Tryz.prog ops0 s0 s1) {f : Nat} {fn : Func} (hf : Tryz.prog.funcs[f]? = some fn) (hnm : (fn.name == "runtime.NumGoroutine") = false) (hb : fn.body = some (bodyOf fn))
    {args:List AV} {mem:List Row} (hL:LOkN mem.length Tryz.prog L (bodyOf fn)) (hlen:Nat.ble args.length fn.ntmps=true) {τ:List (Option Nat)} (hpin:pinT mem.length τ=true) {v:AV} {mem1:List Row} (h:evGWD Tryz.prog l ks ms ws rs d ops0.toList s0 s1 L fn args mem τ=gout v mem1):GSpec Tryz.prog f args mem v mem1 :=
  gspec_of_body (tabW_ok hl hks hms hws hrs) (toldD_ok (drawnK_ok (tabW_ok hl hks hms hws hrs) (by kernel_rfl)) hreg) 40 hf hnm hb hL hlen hpin h
theorem pr_field (hW:FIt F.W∧Lib.itoa F.W≠[]) (hH:FIt F.H∧Lib.itoa F.H≠[]) (ha:NV dc tn tb F.at_ 0) (hs:Nu dc tn tb F.sd) (hn:F.n≤1000) (hd:∀ q,q < F.n→FDc dc (F.hs q)∧dc (F.hs q)≠[]):Pr 95 [.agg F.c] (fun b=>tks b (fdT dc tn F)) (fdB tb F) true:=fun l b u hl=>by
  have hT:tks b (fdT dc tn F)=tks b (fdW F) ++ (comp (fdI dc tn tb F) true ++ tks true (hiT dc F F.n)):=by
    unfold fdT
    rw [tks_app _ _ _ (by simp [fdW])]
    congr 1
    rw [tks_appT]
    simp [fdI,vT]
  have hl:l.length+(tks b (fdT dc tn F)).length≤900000000:=hl
  rw [hT,List.length_append,List.length_append] at hl
  have hI0:Inv (fdM l b u F) l b u:=inv_app [.c F.c]
  have hp:Pr 87 [tokL (fdW F)] (fun b=>tks b (fdW F)) false true:=pr_putL (by simp [fdW]) (ne_c (by simp) <| ne_c hW.2 <| ne_c hH.2 <| ne_c (by simp) ne_n) (by simp [fdW])
  let Z:List (List UInt8 × Bool):=(l ++ tks b (fdW F),u)::LU (fdI dc tn tb F) (l ++ tks b (fdW F)) true u
  let L:Nat→List UInt8:=fun n=>(Z.getD (n - 3) ([],false)).1
  let U:Nat→Bool:=fun n=>(Z.getD (n - 3) ([],false)).2
  have hw:WSpec Tryz.prog 87 [.own 0 0,tokL (fdW F)] (fdM l b u F) (.tup []) (fdM1 L U l b u F):=by
    have:=hp l b u (by show _+(tks b (fdW F)).length≤_; omega)
    rw [Bool.or_false] at this
    exact wl_lift hI0 (fun _=>rfl) (fun _=>rfl) this
  obtain ⟨hI1,hlen1⟩:=hI0.stp (l':=l ++ tks b (fdW F)) (b':=true) (u':=u)
  have hl1:(l ++ tks b (fdW F)).length=l.length+(tks b (fdW F)).length:=List.length_append
  obtain ⟨m',hm1,hm2⟩:=chW_run (fdI dc tn tb F) Z 3 (fdM1 L U l b u F) (l ++ tks b (fdW F)) true u (fun _=>gout (.tup []) (pM2 (l ++ tks b (fdT dc tn F)) true (u||fdB tb F))) hI1 (by show 3≤4; omega) (fun i _=>by
      show Z[4 - 3+i]?=_
      rw [show 4 - 3+i=i+1 by omega]
      rfl)
    (si_cons (sVec_ok ha) <| si_cons (sPut_ok (by simp)) <| si_cons (sFl_ok hs) <| si_cons (sPut_ok (by simp)) si_nil) (by omega)
  have e7:(Z.getD (7 - 3) ([],false))=(l ++ tks b (fdW F) ++ comp (fdI dc tn tb F) true,u||fdB tb F):=by
    show (LU (fdI dc tn tb F) (l ++ tks b (fdW F)) true u).getD 3 ([],false)=_
    simp [LU,fdI,fdB,Bool.or_assoc]
  have eL:L 7=l ++ tks b (fdW F) ++ comp (fdI dc tn tb F) true:=congrArg Prod.fst e7
  have eU:U 7=(u||fdB tb F):=congrArg Prod.snd e7
  have hlen2:(l ++ tks b (fdW F) ++ comp (fdI dc tn tb F) true).length=l.length+(tks b (fdW F)).length+(comp (fdI dc tn tb F) true).length:=by rw [List.length_append,hl1]
  have key:=fl_leads (dc:=dc) (F:=F) (l:=L 7) (u:=U 7) hn hd (by rw [eL,hlen2]; omega)
  have eE:L 7 ++ tks true (hiT dc F F.n)=l ++ tks b (fdT dc tn F):=by rw [eL,hT]; simp
  refine gspecGWD e_nil (k_cons kS_ok k_nil) B57_ok (w_cons wP_ok (w_cons wP_ok (w_cons wP_ok w_nil))) r_nil (fd_reg hW.1 hH.1 hw) Tryz.func95 (by kernel_rfl) (by kernel_rfl) (mem:=pM l b u) (lokN_one (i:=7) 1 (by kernel_rfl) fun j hj _=>?_) rfl (τ:=[some 0,some 1,some 2]) (by rfl) ((fd_ev L U l (L 7 ++ tks true (hiT dc F F.n)) b u F).trans ?_)
  · have:j=0:=by omega
    subst this
    exact toldP_sound (by rfl) key
  · rw [gate_pos ⟨rfl,rfl⟩,gate_pos (SubN.refl _),eE,eU]
    exact hm2
end
end Go.Proofs.YtefphimaggjihaaGreatDoor.Pi

namespace Go.Proofs.YtefphimaggjihaaGreatDoor.Pi
open Go.Shelf Go.RowKit Go.Gv
open Hs.Sc (Scn)
def scM (s:Scn) (l:List UInt8) (b u:Bool):List Row:=[prR 2 l.length b u,.c s.c,bR l]
def cmp3 (m:List Row):List Row:=match m with
  | .t T [a,.osl k s o n,b,u]::bx::r=>[.t T [a,.osl 2 s o n,b,u],bx,(bx::r).getD (k - 1) .dead]
  | _=>[]
def skyW:List UInt8:=[115,107,121]
section
variable (L:Nat→List UInt8) (U:Nat→Bool) (s:Scn) (l l1:List UInt8) (b u u1:Bool) (i:Int)
def q1 (i:Int) (mem:List Row):St:=mkS 96 [(0,.own 0 0),(3,.own 1 0),(28,s.vK),(29,iA s.nK),(30,iA i)] mem
def q2 (i:Int) (mem:List Row):St:=mkS 96 [(0,.own 0 0),(3,.own 1 0),(41,s.vL),(42,iA s.nL),(43,iA i)] mem
def q3 (i:Int) (mem:List Row):St:=mkS 96 [(0,.own 0 0),(3,.own 1 0),(52,s.vS),(53,iA s.nS),(54,iA i)] mem
def q4 (i:Int) (mem:List Row):St:=mkS 96 [(0,.own 0 0),(3,.own 1 0),(67,s.vO),(68,iA s.nO),(69,iA i)] mem
def q5 (i:Int) (mem:List Row):St:=mkS 96 [(0,.own 0 0),(3,.own 1 0),(82,s.vF),(83,iA s.nF),(84,iA i)] mem
def kq1:List Nat:=[0,3,28,29,30]
def kq2:List Nat:=[0,3,41,42,43]
def kq3:List Nat:=[0,3,52,53,54]
def kq4:List Nat:=[0,3,67,68,69]
def kq5:List Nat:=[0,3,82,83,84]
noncomputable def qC (n:Nat) (x y:Option Out):Option Out:=cond (decide (i < (n:Nat))) (cond (ixB i n||false) x none) y
noncomputable def scW:List WEntry:=[wP 90 false L U,wP 91 false L U,wP 92 true L U,wP 93 false L U,wP 94 true L U,wP 95 true L U]
def iWr (k:Int):Itm:=.w 93 [iA k] false
theorem q1_step:evCW Tryz.prog [] [] B57 (scW L U) [] noL (loopAt Tryz.f31 0) (q1 s i (scM s l b u)) (finN kq1 [some 0,some 1,some 4]) =
  qC i s.nK (chW L U [.w 90 [.agg (Hs.Sc.skC (s.K i.toNat)),iA i] false] (scM s l b u ++ [.c (Hs.Sc.skC (s.K i.toNat))]) fun m=>some ⟨.normal,q1 s (w64 (i+1)) (cmp3 m),.any⟩) none:=by kernel_rfl
theorem q1_end:evCW Tryz.prog [] [] B57 (scW L U) [] noL (loopAt Tryz.f31 0) (q1 s i (scM s l b u)) (finE kq1 [some 0,some 1,some 2]) =
  qC i s.nK (chW L U [.w 90 [.agg (Hs.Sc.skC (s.K i.toNat)),iA i] false] (scM s l b u ++ [.c (Hs.Sc.skC (s.K i.toNat))]) fun _=>none) (some ⟨.exit 0,q1 s i (scM s l b u),.any⟩):=by kernel_rfl
theorem q2_step:evCW Tryz.prog [] [] B57 (scW L U) [] noL (loopAt Tryz.f31 1) (q2 s i (scM s l b u)) (finN kq2 [some 0,some 1,some 4]) =
  qC i s.nL (chW L U [.w 91 [.agg (Hs.Sc.lmC (s.LA i.toNat) (s.LL i.toNat))] false] (scM s l b u ++ [.c (Hs.Sc.lmC (s.LA i.toNat) (s.LL i.toNat))]) fun m=>some ⟨.normal,q2 s (w64 (i+1)) (cmp3 m),.any⟩) none:=by kernel_rfl
theorem q2_end:evCW Tryz.prog [] [] B57 (scW L U) [] noL (loopAt Tryz.f31 1) (q2 s i (scM s l b u)) (finE kq2 [some 0,some 1,some 2]) =
  qC i s.nL (chW L U [.w 91 [.agg (Hs.Sc.lmC (s.LA i.toNat) (s.LL i.toNat))] false] (scM s l b u ++ [.c (Hs.Sc.lmC (s.LA i.toNat) (s.LL i.toNat))]) fun _=>none) (some ⟨.exit 2,q2 s i (scM s l b u),.any⟩):=by kernel_rfl
theorem q3_step:evCW Tryz.prog [] [] B57 (scW L U) [] noL (loopAt Tryz.f31 2) (q3 s i (scM s l b u)) (finN kq3 [some 0,some 1,some 5]) =
  qC i s.nS (chW L U [.w 92 [.agg (s.S i.toNat).c] true,iWr (s.S i.toNat).sk] (scM s l b u ++ [.c (s.S i.toNat).c]) fun m=>some ⟨.normal,q3 s (w64 (i+1)) (cmp3 m),.any⟩) none:=by kernel_rfl
theorem q3_end:evCW Tryz.prog [] [] B57 (scW L U) [] noL (loopAt Tryz.f31 2) (q3 s i (scM s l b u)) (finE kq3 [some 0,some 1,some 2]) =
  qC i s.nS (chW L U [.w 92 [.agg (s.S i.toNat).c] true,iWr (s.S i.toNat).sk] (scM s l b u ++ [.c (s.S i.toNat).c]) fun _=>none) (some ⟨.exit 4,q3 s i (scM s l b u),.any⟩):=by kernel_rfl
theorem q4_step:evCW Tryz.prog [] [] B57 (scW L U) [] noL (loopAt Tryz.f31 3) (q4 s i (scM s l b u)) (finN kq4 [some 0,some 1,some 5]) =
  qC i s.nO (chW L U [.w 94 [.agg (s.O i.toNat).c] true,iWr (s.O i.toNat).sk] (scM s l b u ++ [.c (s.O i.toNat).c]) fun m=>some ⟨.normal,q4 s (w64 (i+1)) (cmp3 m),.any⟩) none:=by kernel_rfl
theorem q4_end:evCW Tryz.prog [] [] B57 (scW L U) [] noL (loopAt Tryz.f31 3) (q4 s i (scM s l b u)) (finE kq4 [some 0,some 1,some 2]) =
  qC i s.nO (chW L U [.w 94 [.agg (s.O i.toNat).c] true,iWr (s.O i.toNat).sk] (scM s l b u ++ [.c (s.O i.toNat).c]) fun _=>none) (some ⟨.exit 6,q4 s i (scM s l b u),.any⟩):=by kernel_rfl
theorem q5_step:evCW Tryz.prog [] [] B57 (scW L U) [] noL (loopAt Tryz.f31 4) (q5 s i (scM s l b u)) (finN kq5 [some 0,some 1,some 5]) =
  qC i s.nF (chW L U [.w 95 [.agg (s.F i.toNat).c] true,iWr (s.F i.toNat).sk] (scM s l b u ++ [.c (s.F i.toNat).c]) fun m=>some ⟨.normal,q5 s (w64 (i+1)) (cmp3 m),.any⟩) none:=by kernel_rfl
theorem q5_end:evCW Tryz.prog [] [] B57 (scW L U) [] noL (loopAt Tryz.f31 4) (q5 s i (scM s l b u)) (finE kq5 [some 0,some 1,some 2]) =
  qC i s.nF (chW L U [.w 95 [.agg (s.F i.toNat).c] true,iWr (s.F i.toNat).sk] (scM s l b u ++ [.c (s.F i.toNat).c]) fun _=>none) (some ⟨.exit 8,q5 s i (scM s l b u),.any⟩):=by kernel_rfl
end
section
variable (L:Nat→List UInt8) (U:Nat→Bool) (s:Scn) (l1 k1 k2 k3 k4 k5:List UInt8) (u1 v1 v2 v3 v4 v5:Bool)
noncomputable def scL:Nat→Option LFun:=manyL [(6,toldP 1 kq1 [some 0,some 1,some 5] (q1 s 0 (scM s (L 5) false (U 5))) (.exit 0) (q1 s s.nK (scM s k1 false v1))),
  (11,toldP 1 kq2 [some 0,some 1,some 2] (q2 s 0 (scM s k1 false v1)) (.exit 2) (q2 s s.nL (scM s k2 false v2))),(16,toldP 1 kq3 [some 0,some 1,some 2] (q3 s 0 (scM s k2 false v2)) (.exit 4) (q3 s s.nS (scM s k3 false v3))),
  (22,toldP 1 kq4 [some 0,some 1,some 2] (q4 s 0 (scM s k3 false v3)) (.exit 6) (q4 s s.nO (scM s k4 false v4))),(28,toldP 1 kq5 [some 0,some 1,some 2] (q5 s 0 (scM s k4 false v4)) (.exit 8) (q5 s s.nF (scM s k5 false v5)))]
theorem sc_ev:evGW Tryz.prog [] [] B57 [wQ Tryz.prog 86 (fun _ _=>.tup []) (fun _ _=>scM s l1 false u1),wPut L U,wWh L U,wEnd L U] [] (scL L U s k1 k2 k3 k4 k5 v1 v2 v3 v4 v5) Tryz.f31 [.own 0 0,.agg s.c] (pM0 false false) [some 0,some 2] =
  cond (propB (WSpec Tryz.prog 86 [.own 0 0,.agg (eyA s.eye)] (pM0 false false ++ [.c s.c]) (.tup []) (scM s l1 false u1)))
   (chW L U [iPut [skyW],iWh s.sky,iEnd] (scM s l1 false u1) fun _=>gate (SubN 1 (q1 s 0 (scM s (L 5) false (U 5))) (q1 s 0 (scM s (L 5) false (U 5)))) (gate (SubN 1 (q2 s 0 (scM s k1 false v1)) (q2 s 0 (scM s k1 false v1))) (gate (SubN 1 (q3 s 0 (scM s k2 false v2)) (q3 s 0 (scM s k2 false v2)))
     (gate (SubN 1 (q4 s 0 (scM s k3 false v3)) (q4 s 0 (scM s k3 false v3))) (gate (SubN 1 (q5 s 0 (scM s k4 false v4)) (q5 s 0 (scM s k4 false v4))) (gout (.tup []) (pM k5 false v5))))))) none:=by kernel_rfl
end
structure InvS (s:Scn) (mem:List Row) (l:List UInt8) (b u:Bool):Prop where
  inv:Inv mem l b u
  two:2≤curK mem
  box:mem[1]?=some (.c s.c)
theorem InvS.stp {s:Scn} {mem:List Row} {l l':List UInt8} {b u b' u':Bool} (h:InvS s mem l b u):InvS s (stp mem l' b' u') l' b' u'∧(Pi.stp mem l' b' u').length=mem.length+1:=by
  obtain ⟨h1,h2⟩:=h.inv.stp (l':=l') (b':=b') (u':=u')
  obtain ⟨k,r,rfl,hk,hc⟩:=h.inv.cons
  have hkl:k < r.length:=(List.getElem?_eq_some_iff.1 hk).1
  have h2':2≤k+1:=by rw [← hc]; exact h.two
  refine ⟨⟨h1,by show 2≤r.length+1; omega,?_⟩,h2⟩
  show ((prR _ _ _ _::r.set (k+1 - 1) .dead) ++ [bR l'])[1]?=_
  rw [List.getElem?_append_left (by simp; omega),List.getElem?_cons_succ,List.getElem?_set_ne (by omega)]
  have:=h.box
  rwa [List.getElem?_cons_succ] at this
theorem InvS.need {s:Scn} {mem:List Row} {l:List UInt8} {b u:Bool} (h:InvS s mem l b u) (t:Bool):InvS s (needM t mem) l b (cond u true (!t))∧(needM t mem).length=mem.length:=by
  obtain ⟨h1,h2⟩:=h.inv.need t
  obtain ⟨k,r,rfl,hk,hc⟩:=h.inv.cons
  exact ⟨⟨h1,by have:=h.two; rw [hc] at this; exact this,h.box⟩,h2⟩
theorem InvS.cmp3 {s:Scn} {mem:List Row} {l:List UInt8} {b u:Bool} (h:InvS s mem l b u):cmp3 mem=scM s l b u:=by
  obtain ⟨k,r,rfl,hk,hc⟩:=h.inv.cons
  have hb:=h.box
  rw [List.getElem?_cons_succ] at hb
  cases r with
  | nil=>simp at hb
  | cons bx r =>
    simp at hb
    subst hb
    show [_,_,(_::r).getD (k+1 - 1) .dead]=_
    rw [List.getD_eq_getElem?_getD,Nat.add_sub_cancel,hk]
    rfl
theorem chW_runS {s:Scn}:∀ (its:List SI) (Z:List (List UInt8 × Bool)) (n0:Nat) (m:List Row) (l:List UInt8) (b u:Bool) (k:List Row→Option Out),InvS s m l b u→n0≤m.length→(∀ i,(LU its l b u)[i]?≠none→Z[m.length - n0+i]?=(LU its l b u)[i]?)→(∀ i,i ∈ its→i.ok)→l.length+(comp its b).length≤900000000 →
    ∃ m',InvS s m' (l ++ comp its b) (cbf its b) (u||cbad its)∧chW (fun n=>(Z.getD (n - n0) ([],false)).1) (fun n=>(Z.getD (n - n0) ([],false)).2) (its.map SI.itm) m k=k m'
  | [],Z,n0,m,l,b,u,k,hI,_,_,_,_=>⟨m,by simpa [cbf] using hI,rfl⟩
  | .g p::r,Z,n0,m,l,b,u,k,hI,h0,hZ,hok,hl=>by
    have hp:p:=hok (.g p) (by simp)
    obtain ⟨m',h1,h2⟩:=chW_runS r Z n0 m l b u k hI h0 hZ (fun i hi=>hok i (by simp [hi])) hl
    refine ⟨m',h1,?_⟩
    show gate p _=_
    rw [gate_pos hp]
    exact h2
  | .n t::r,Z,n0,m,l,b,u,k,hI,h0,hZ,hok,hl=>by
    obtain ⟨hI',hlen⟩:=hI.need t
    obtain ⟨m',h1,h2⟩:=chW_runS r Z n0 (needM t m) l b (cond u true (!t)) k hI' (by rw [hlen]; exact h0) (by rw [hlen]; exact hZ) (fun i hi=>hok i (by simp [hi])) hl
    refine ⟨m',?_,?_⟩
    · have e:(u||(!t||cbad r))=(cond u true (!t)||cbad r):=by cases u<;>rfl
      show InvS s m' (l ++ comp r b) (cbf r b) (u||(!t||cbad r))
      rw [e]
      exact h1
    · show cond (propB _) _ none=_
      rw [propB_t (need_lift hI.inv t)]
      exact h2
  | .w f a E bad bf::r,Z,n0,m,l,b,u,k,hI,h0,hZ,hok,hl=>by
    obtain ⟨hP,ha⟩:SI.ok (.w f a E bad bf):=hok (.w f a E bad bf) (by simp)
    have hl':l.length+((E b).length+(comp r bf).length)≤900000000:=by
      have:(comp (.w f a E bad bf::r) b).length=(E b).length+(comp r bf).length:=List.length_append
      omega
    obtain ⟨hI',hlen⟩:=hI.stp (l':=l ++ E b) (b':=bf) (u':=u||bad)
    have hz:Z.getD (m.length - n0) ([],false)=(l ++ E b,u||bad):=by
      have:=hZ 0 (by simp [LU])
      rw [Nat.add_zero] at this
      rw [List.getD_eq_getElem?_getD,this]
      rfl
    obtain ⟨m',h1,h2⟩:=chW_runS r Z n0 (stp m (l ++ E b) bf (u||bad)) (l ++ E b) bf (u||bad) k hI' (by rw [hlen]; omega) (fun i hi=>by
      have:=hZ (i+1) (by simpa [LU] using hi)
      rw [hlen,show m.length+1 - n0+i=m.length - n0+(i+1) by omega,this]
      rfl) (fun i hi=>hok i (by simp [hi])) (by rw [List.length_append]; omega)
    refine ⟨m',?_,?_⟩
    · have e1:l ++ comp (.w f a E bad bf::r) b=l ++ E b ++ comp r bf:=(List.append_assoc _ _ _).symm
      have e2:(u||cbad (.w f a E bad bf::r))=(u||bad||cbad r):=(Bool.or_assoc _ _ _).symm
      rw [e1,e2]
      exact h1
    · show cond (propB (WSpec Tryz.prog f (.own 0 0::a) m (.tup []) (stp m (Z.getD (m.length - n0) ([],false)).1 bf (Z.getD (m.length - n0) ([],false)).2))) (chW _ _ (r.map SI.itm) (stp m (Z.getD (m.length - n0) ([],false)).1 bf (Z.getD (m.length - n0) ([],false)).2) k) none=_
      rw [hz,propB_t (wl_lift hI.inv ha (fun _=>rfl) (hP l b u (by omega)))]
      exact h2
theorem invS_scM (s:Scn) (l:List UInt8) (b u:Bool) (r:List Row):InvS s (scM s l b u ++ r) l b u:=⟨⟨by show 0 < 2; omega,rfl,rfl⟩,by show 2≤2; omega,rfl⟩
def lineL (E:Nat→List UInt8):Nat→List UInt8
  | 0=>[]
  | j+1=>lineL E j ++ E j
def anyN (B:Nat→Bool):Nat→Bool
  | 0=>false
  | j+1=>anyN B j||B j
theorem lineL_le {E:Nat→List UInt8} {n:Nat}:∀ {j:Nat},j≤n→(lineL E j).length≤(lineL E n).length:=fun {j} h=>by
  induction n with
  | zero => have:j=0:=by omega
            subst this; exact Nat.le_refl _
  | succ n ih =>
    by_cases c:j=n+1
    · subst c; exact Nat.le_refl _
    · have:=ih (by omega)
      show _≤(lineL E n ++ E n).length
      rw [List.length_append]; omega
theorem qC_on {j n:Nat} (hj:j < n) (x y:Option Out):qC (j:Nat) n x y=x:=by unfold qC; rw [dec_lt hj,ixB_t hj]; rfl
theorem scW_ok (L:Nat→List UInt8) (U:Nat→Bool):∀ e,e ∈ scW L U→WEOk Tryz.prog e:=w_cons wP_ok <| w_cons wP_ok <| w_cons wP_ok <| w_cons wP_ok <| w_cons wP_ok <| w_cons wP_ok w_nil
theorem q_leads {s:Scn} {c:Code} {q:Int→List Row→St} {n:Nat} {ex:Exit} {kq:List Nat} {τ:List (Option Nat)} (hex:ex≠.normal) (hk:KSubN 1 (finN kq τ)) (hk2:KSubN 1 (finE kq [some 0,some 1,some 2])) (hn:n≤100000) (its:Nat→List SI) (bx:Nat→Row) (X:(Nat→List UInt8)→(Nat→Bool)→List UInt8→Bool→Option Out)
    (hS:∀ L U l u (j:Nat),evCW Tryz.prog [] [] B57 (scW L U) [] noL c (q (j:Nat) (scM s l false u)) (finN kq τ)=qC (j:Nat) n (chW L U ((its j).map SI.itm) (scM s l false u ++ [bx j]) fun m=>some ⟨.normal,q (w64 ((j:Nat)+1)) (cmp3 m),.any⟩) none)
    (hE:∀ L U l u,evCW Tryz.prog [] [] B57 (scW L U) [] noL c (q (n:Nat) (scM s l false u)) (finE kq [some 0,some 1,some 2])=qC (n:Nat) n (X L U l u) (some ⟨ex,q (n:Nat) (scM s l false u),.any⟩))
    (hok:∀ j,j < n→∀ i,i ∈ its j→i.ok) (hbf:∀ j,cbf (its j) false=false) {l:List UInt8} {u:Bool} (hl:l.length+(lineL (fun j=>comp (its j) false) n).length≤900000000) :
    LeadsN 1 Tryz.prog (.loop c) (q 0 (scM s l false u)) ex (q (n:Nat) (scM s (l ++ lineL (fun j=>comp (its j) false) n) false (u||anyN (fun j=>cbad (its j)) n))):=by
  suffices key:LeadsN 1 Tryz.prog (.loop c) (q ((0:Nat):Int) (scM s (l ++ lineL (fun j=>comp (its j) false) 0) false (u||anyN (fun j=>cbad (its j)) 0))) ex (q (n:Nat) (scM s (l ++ lineL (fun j=>comp (its j) false) n) false (u||anyN (fun j=>cbad (its j)) n))) by
    have e1:l ++ lineL (fun j=>comp (its j) false) 0=l:=List.append_nil _
    have e2:(u||anyN (fun j=>cbad (its j)) 0)=u:=Bool.or_false _
    rw [e1,e2] at key
    exact key
  have stepL:∀ (j:Nat) (lj:List UInt8) (uj:Bool),j < n→lj.length+(comp (its j) false).length≤900000000→LeadsN 1 Tryz.prog c (q (j:Nat) (scM s lj false uj)) .normal (q ((j+1:Nat):Int) (scM s (lj ++ comp (its j) false) false (uj||cbad (its j)))):=fun j lj uj hj hlj=>by
    obtain ⟨m',h1,h2⟩:=chW_runS (s:=s) (its j) (LU (its j) lj false uj) 4 (scM s lj false uj ++ [bx j]) lj false uj (fun m=>some ⟨.normal,q (w64 ((j:Nat)+1)) (cmp3 m),.any⟩) (invS_scM s _ _ _ _) (Nat.le_refl _) (fun i _=>by rw [show (scM s lj false uj ++ [bx j]).length - 4+i=i by show 4 - 4+i=i; omega]) (hok j hj) hlj
    refine leads_evWN hk e_nil k_nil B57_ok (scW_ok _ _) r_nil noL_okN ((hS (fun n=>((LU (its j) lj false uj).getD (n - 4) ([],false)).1) (fun n=>((LU (its j) lj false uj).getD (n - 4) ([],false)).2) lj uj j).trans ?_)
    rw [qC_on hj]
    refine h2.trans ?_
    rw [h1.cmp3,hbf,w64_next (by omega)]
  refine loop_rule (fun j=>q (j:Nat) (scM s (l ++ lineL (fun j=>comp (its j) false) j) false (u||anyN (fun j=>cbad (its j)) j))) n ex _ hex (fun j hj=>?_) ?_
  · have hle:=lineL_le (E:=fun j=>comp (its j) false) (n:=n) (j:=j+1) (by omega)
    have hnx:(lineL (fun j=>comp (its j) false) (j+1)).length=(lineL (fun j=>comp (its j) false) j).length+(comp (its j) false).length:=List.length_append
    have hlen:(l ++ lineL (fun j=>comp (its j) false) j).length=l.length+(lineL (fun j=>comp (its j) false) j).length:=List.length_append
    have:=stepL j (l ++ lineL (fun j=>comp (its j) false) j) (u||anyN (fun j=>cbad (its j)) j) hj (by omega)
    rw [List.append_assoc,Bool.or_assoc] at this
    exact this
  · refine leads_evWN hk2 e_nil k_nil B57_ok (scW_ok (fun _=>[]) (fun _=>false)) r_nil noL_okN ((hE (fun _=>[]) (fun _=>false) _ _).trans ?_)
    unfold qC
    rw [dec_self]
    rfl
end Go.Proofs.YtefphimaggjihaaGreatDoor.Pi

namespace Go.Proofs.YtefphimaggjihaaGreatDoor.Pi
open Go.Shelf Go.RowKit Go.Gv
open Hs.Sc (Scn)
section
variable (dc:Int→List UInt8) (tn:Nat→Int) (tb:Nat→Bool) (s:Scn)
def skI (j:Nat):List SI:=[.w 90 [.agg (Hs.Sc.skC (s.K j)),iA (j:Nat)] (fun b=>lineE b (skT dc (s.K j) (fun q=>s.K j (3+q)) (fun q=>s.K j (6+q)) (s.K j 9) (j:Nat))) false false]
def lmI (j:Nat):List SI:=[.w 91 [.agg (Hs.Sc.lmC (s.LA j) (s.LL j))] (fun b=>lineE b (lamT dc tn (s.LA j) (s.LL j))) (vB tb (s.LA j) 0) false]
def sWr (k:Int):SI:=.w 93 [iA k] (fun b=>lineE b [nmT k]) false false
def shI (j:Nat):List SI:=[.w 92 [.agg (s.S j).c] (fun b=>tks b (shT dc tn (s.S j).k (s.S j).a)) (shB tb (s.S j).k (s.S j).a (s.S j).sk) true,sWr (s.S j).sk]
noncomputable def soI (j:Nat):List SI:=[.w 94 [.agg (s.O j).c] (fun b=>tks b (soT dc tn (s.O j).n (s.O j).P)) (soB tb (s.O j).n (s.O j).P) true,sWr (s.O j).sk]
def feI (j:Nat):List SI:=[.w 95 [.agg (s.F j).c] (fun b=>tks b (fdT dc tn (s.F j))) (fdB tb (s.F j)) true,sWr (s.F j).sk]
def skyI:List SI:=[sPut skyW,sWh s.sky,sEnd]
def x0:List UInt8:=lineE false (eyT dc tn s.eye)
def x1:List UInt8:=x0 dc tn s ++ comp (skyI s) false
def x2:List UInt8:=x1 dc tn s ++ lineL (fun j=>comp (skI dc s j) false) s.nK
def x3:List UInt8:=x2 dc tn s ++ lineL (fun j=>comp (lmI dc tn tb s j) false) s.nL
def x4:List UInt8:=x3 dc tn tb s ++ lineL (fun j=>comp (shI dc tn tb s j) false) s.nS
noncomputable def x5:List UInt8:=x4 dc tn tb s ++ lineL (fun j=>comp (soI dc tn tb s j) false) s.nO
noncomputable def x6:List UInt8:=x5 dc tn tb s ++ lineL (fun j=>comp (feI dc tn tb s j) false) s.nF
def w1:Bool:=eyB tb s.eye||cbad (skyI s)
def w2:Bool:=w1 tb s||anyN (fun j=>cbad (skI dc s j)) s.nK
def w3:Bool:=w2 dc tb s||anyN (fun j=>cbad (lmI dc tn tb s j)) s.nL
def w4:Bool:=w3 dc tn tb s||anyN (fun j=>cbad (shI dc tn tb s j)) s.nS
noncomputable def w5:Bool:=w4 dc tn tb s||anyN (fun j=>cbad (soI dc tn tb s j)) s.nO
noncomputable def w6:Bool:=w5 dc tn tb s||anyN (fun j=>cbad (feI dc tn tb s j)) s.nF
/-- What is known of a scene's numbers. -/
structure ScN:Prop where
  e0:NV dc tn tb s.eye 0
  e3:NV dc tn tb s.eye 3
  e6:NV dc tn tb s.eye 6
  e9:Nu dc tn tb (s.eye 9)
  sky:Wh s.sky
  sk:∀ j,j < s.nK→FNm nmT (j:Nat)∧Wh (s.K j)∧Wh (fun q=>s.K j (3+q))∧Wh (fun q=>s.K j (6+q))∧FDc dc (s.K j 9)∧dc (s.K j 9)≠[]
  lm:∀ j,j < s.nL→NV dc tn tb (s.LA j) 0∧Wh (s.LL j)
  sh:∀ j,j < s.nS→ShN dc tn tb (s.S j).k (s.S j).a∧FNm nmT (s.S j).sk
  so:∀ j,j < s.nO→((1≤(s.O j).n∧(s.O j).n≤16)∧PM (s.O j).n (s.O j).P∧∀ i,i < (s.O j).n→((s.O j).P i).op=0→ShN dc tn tb ((s.O j).P i).k ((s.O j).P i).a)∧FNm nmT (s.O j).sk
  fd:∀ j,j < s.nF→((FIt (s.F j).W∧Lib.itoa (s.F j).W≠[])∧(FIt (s.F j).H∧Lib.itoa (s.F j).H≠[])∧NV dc tn tb (s.F j).at_ 0∧Nu dc tn tb (s.F j).sd∧(s.F j).n≤1000∧∀ q,q < (s.F j).n→FDc dc ((s.F j).hs q)∧dc ((s.F j).hs q)≠[])∧FNm nmT (s.F j).sk
  few:s.nS≤1000∧s.nO≤1000∧s.nF≤1000∧s.nK≤1000∧s.nL≤1000
end
section
variable {dc:Int→List UInt8} {tn:Nat→Int} {tb:Nat→Bool} {s:Scn}
theorem sWr_ok {k:Int} (h:FNm nmT k):(sWr k).ok:=⟨pr_wear h,fun _=>rfl⟩
theorem eye_lift {l:List UInt8} {u:Bool} (h:GSpec Tryz.prog 86 [.own 0 0,.agg (eyA s.eye)] (pM0 false false) (.tup []) (pM l false u)):WSpec Tryz.prog 86 [.own 0 0,.agg (eyA s.eye)] (pM0 false false ++ [.c s.c]) (.tup []) (scM s l false u):=by
  refine wframe (v:=.tup []) h [0] rfl rfl rfl (fun i j hi=>?_) ⟨fun j hj hl=>?_,fun i j r hi hr=>?_,fun i r hi hr=>?_⟩
  · match i,hi with
    | 0,hi=>simp at hi; subst hi; exact ⟨_,rfl,rfl,rfl⟩
    | n+1,hi=>simp at hi
  · match j,hj,hl with
    | 0,hj,_=>exact absurd (by simp) hj
    | 1,_,_=>rfl
    | n+2,_,hl=>exact absurd hl (by show ¬ n+2 < 2; omega)
  · match i,hi with
    | 0,hi=>simp at hi; subst hi; cases hr; rfl
    | n+1,hi=>simp at hi
  · match i,hi,hr with
    | 0,hi,_=>exact absurd hi (by show ¬ 1≤0; omega)
    | 1,_,hr=>cases hr; rfl
    | n+2,_,hr=>cases hr
theorem lokN_nil {np:Nat} {P:Program} {c:Code}:LOkN np P (manyL []) c:=fun _ _ _ _ _ h=>by cases h
theorem lokN_cons {np:Nat} {P:Program} {c:Code} {i:Nat} {g:LFun} {l:List (Nat × LFun)} (hg:LOkN np P (oneL i g) c) (hl:LOkN np P (manyL l) c):LOkN np P (manyL ((i,g)::l)) c:=by
  intro c' hc j f hj hf
  have hf:cond (Nat.beq j i) (some g) (manyL l j)=some f:=hf
  cases hb:Nat.beq j i
  · rw [hb,cond_false] at hf
    exact hl c' hc j f hj hf
  · rw [hb,cond_true] at hf
    refine hg c' hc j f hj ?_
    unfold oneL
    rw [hb,cond_true]
    exact hf
/-- A told loop, by its place among all. -/
theorem lokN_at {np:Nat} {P:Program} {c:Code} {i:Nat} {g:LFun} (q m:Nat) (hlen:(loopsOf c).length=m) (hid:((List.range m).all fun j=>Nat.beq j q||!(isId (firstId ((loopsOf c).getD j .skip)) i))=true) (h:LSoundN np P ((loopsOf c).getD q .skip) g):LOkN np P (oneL i g) c :=
  lokN_one m hlen fun j hj hf=>by
    have:=List.all_eq_true.1 hid j (List.mem_range.2 hj)
    cases hb:Nat.beq j q
    · rw [hb,hf] at this
      simp [isId] at this
    · rw [Nat.eq_of_beq_eq_true hb]
      exact h
theorem scene_spec (h:ScN dc tn tb s) (hl:(x6 dc tn tb s).length≤900000):GSpec Tryz.prog 31 [.own 0 0,.agg s.c] (pM0 false false) (.tup []) (pM (x6 dc tn tb s) false (w6 dc tn tb s)):=by
  have l6:(x6 dc tn tb s).length=(x5 dc tn tb s).length+(lineL (fun j=>comp (feI dc tn tb s j) false) s.nF).length:=List.length_append
  have l5:(x5 dc tn tb s).length=(x4 dc tn tb s).length+(lineL (fun j=>comp (soI dc tn tb s j) false) s.nO).length:=List.length_append
  have l4:(x4 dc tn tb s).length=(x3 dc tn tb s).length+(lineL (fun j=>comp (shI dc tn tb s j) false) s.nS).length:=List.length_append
  have l3:(x3 dc tn tb s).length=(x2 dc tn s).length+(lineL (fun j=>comp (lmI dc tn tb s j) false) s.nL).length:=List.length_append
  have l2:(x2 dc tn s).length=(x1 dc tn s).length+(lineL (fun j=>comp (skI dc s j) false) s.nK).length:=List.length_append
  have l1:(x1 dc tn s).length=(x0 dc tn s).length+(comp (skyI s) false).length:=List.length_append
  have hf:=h.few
  have hw:WSpec Tryz.prog 86 [.own 0 0,.agg (eyA s.eye)] (pM0 false false ++ [.c s.c]) (.tup []) (scM s (x0 dc tn s) false (eyB tb s.eye)):=eye_lift (eye_spec h.e0 h.e3 h.e6 h.e9 (show (x0 dc tn s).length≤900000 by omega))
  have k1:=q_leads (s:=s) (c:=loopAt Tryz.f31 0) (q:=q1 s) (n:=s.nK) (ex:=.exit 0) (kq:=kq1) (τ:=[some 0,some 1,some 4]) (by simp) (finN_subN _ (by rfl)) (finE_subN _ (by rfl)) (by omega) (skI dc s) (fun j=>.c (Hs.Sc.skC (s.K j))) _ (fun L U l u j=>q1_step L U s l false u (j:Nat)) (fun L U l u=>q1_end L U s l false u (s.nK:Nat))
    (fun j hj=>si_cons ⟨pr_skin (h.sk j hj).1 (h.sk j hj).2.1 (h.sk j hj).2.2.1 (h.sk j hj).2.2.2.1 (h.sk j hj).2.2.2.2.1 (h.sk j hj).2.2.2.2.2,fun _=>rfl⟩ si_nil) (fun _=>rfl) (l:=x1 dc tn s) (u:=w1 tb s) (by omega)
  have k2:=q_leads (s:=s) (c:=loopAt Tryz.f31 1) (q:=q2 s) (n:=s.nL) (ex:=.exit 2) (kq:=kq2) (τ:=[some 0,some 1,some 4]) (by simp) (finN_subN _ (by rfl)) (finE_subN _ (by rfl)) (by omega) (lmI dc tn tb s) (fun j=>.c (Hs.Sc.lmC (s.LA j) (s.LL j))) _ (fun L U l u j=>q2_step L U s l false u (j:Nat)) (fun L U l u=>q2_end L U s l false u (s.nL:Nat))
    (fun j hj=>si_cons ⟨pr_lamp (h.lm j hj).1 (h.lm j hj).2,fun _=>rfl⟩ si_nil) (fun _=>rfl) (l:=x2 dc tn s) (u:=w2 dc tb s) (by omega)
  have k3:=q_leads (s:=s) (c:=loopAt Tryz.f31 2) (q:=q3 s) (n:=s.nS) (ex:=.exit 4) (kq:=kq3) (τ:=[some 0,some 1,some 5]) (by simp) (finN_subN _ (by rfl)) (finE_subN _ (by rfl)) (by omega) (shI dc tn tb s) (fun j=>.c (s.S j).c) _ (fun L U l u j=>q3_step L U s l false u (j:Nat)) (fun L U l u=>q3_end L U s l false u (s.nS:Nat))
    (fun j hj=>si_cons ⟨pr_shape (h.sh j hj).1,fun _=>rfl⟩ (si_cons (sWr_ok (h.sh j hj).2) si_nil)) (fun _=>rfl) (l:=x3 dc tn tb s) (u:=w3 dc tn tb s) (by omega)
  have k4:=q_leads (s:=s) (c:=loopAt Tryz.f31 3) (q:=q4 s) (n:=s.nO) (ex:=.exit 6) (kq:=kq4) (τ:=[some 0,some 1,some 5]) (by simp) (finN_subN _ (by rfl)) (finE_subN _ (by rfl)) (by omega) (soI dc tn tb s) (fun j=>.c (s.O j).c) _ (fun L U l u j=>q4_step L U s l false u (j:Nat)) (fun L U l u=>q4_end L U s l false u (s.nO:Nat))
    (fun j hj=>si_cons ⟨pr_solid (h.so j hj).1.1.1 (h.so j hj).1.1.2 (h.so j hj).1.2.1 (h.so j hj).1.2.2,fun _=>rfl⟩ (si_cons (sWr_ok (h.so j hj).2) si_nil)) (fun _=>rfl) (l:=x4 dc tn tb s) (u:=w4 dc tn tb s) (by omega)
  have k5:=q_leads (s:=s) (c:=loopAt Tryz.f31 4) (q:=q5 s) (n:=s.nF) (ex:=.exit 8) (kq:=kq5) (τ:=[some 0,some 1,some 5]) (by simp) (finN_subN _ (by rfl)) (finE_subN _ (by rfl)) (by omega) (feI dc tn tb s) (fun j=>.c (s.F j).c) _ (fun L U l u j=>q5_step L U s l false u (j:Nat)) (fun L U l u=>q5_end L U s l false u (s.nF:Nat))
    (fun j hj=>si_cons ⟨pr_field (h.fd j hj).1.1 (h.fd j hj).1.2.1 (h.fd j hj).1.2.2.1 (h.fd j hj).1.2.2.2.1 (h.fd j hj).1.2.2.2.2.1 (h.fd j hj).1.2.2.2.2.2,fun _=>rfl⟩ (si_cons (sWr_ok (h.fd j hj).2) si_nil)) (fun _=>rfl) (l:=x5 dc tn tb s) (u:=w5 dc tn tb s) (by omega)
  obtain ⟨m',hm1,hm2⟩:=chW_runS (s:=s) (skyI s) (LU (skyI s) (x0 dc tn s) false (eyB tb s.eye)) 3 (scM s (x0 dc tn s) false (eyB tb s.eye)) (x0 dc tn s) false (eyB tb s.eye) (fun _=>gout (.tup []) (pM (x6 dc tn tb s) false (w6 dc tn tb s))) (by have:=invS_scM s (x0 dc tn s) false (eyB tb s.eye) []; rwa [List.append_nil] at this) (Nat.le_refl _) (fun i _=>by rw [show (scM s (x0 dc tn s) false (eyB tb s.eye)).length - 3+i=i by show 3 - 3+i=i; omega])
    (si_cons (sPut_ok (by simp [skyW])) <| si_cons (sWh_ok h.sky) <| si_cons sEnd_ok si_nil) (by omega)
  have e5:(LU (skyI s) (x0 dc tn s) false (eyB tb s.eye)).getD (5 - 3) ([],false)=(x1 dc tn s,w1 tb s):=by
    unfold x1 w1
    simp [LU,skyI]
  have hL:LOkN 1 Tryz.prog (scL (fun n=>((LU (skyI s) (x0 dc tn s) false (eyB tb s.eye)).getD (n - 3) ([],false)).1) (fun n=>((LU (skyI s) (x0 dc tn s) false (eyB tb s.eye)).getD (n - 3) ([],false)).2) s (x2 dc tn s) (x3 dc tn tb s) (x4 dc tn tb s) (x5 dc tn tb s) (x6 dc tn tb s) (w2 dc tb s) (w3 dc tn tb s) (w4 dc tn tb s) (w5 dc tn tb s) (w6 dc tn tb s)) (bodyOf Tryz.f31):=by
    refine lokN_cons (lokN_at 0 5 (by kernel_rfl) (by kernel_rfl) (toldP_sound (by rfl) ?_)) <| lokN_cons (lokN_at 1 5 (by kernel_rfl) (by kernel_rfl) (toldP_sound (by rfl) k2)) <| lokN_cons (lokN_at 2 5 (by kernel_rfl) (by kernel_rfl) (toldP_sound (by rfl) k3)) <| lokN_cons (lokN_at 3 5 (by kernel_rfl) (by kernel_rfl) (toldP_sound (by rfl) k4)) <| lokN_cons (lokN_at 4 5 (by kernel_rfl) (by kernel_rfl) (toldP_sound (by rfl) k5)) lokN_nil
    show LeadsN 1 Tryz.prog _ (q1 s 0 (scM s ((LU (skyI s) (x0 dc tn s) false (eyB tb s.eye)).getD (5 - 3) ([],false)).1 false ((LU (skyI s) (x0 dc tn s) false (eyB tb s.eye)).getD (5 - 3) ([],false)).2)) _ _
    rw [e5]
    exact k1
  refine gspecGW e_nil k_nil B57_ok (w_cons wQ_ok (w_cons wP_ok (w_cons wP_ok (w_cons wP_ok w_nil)))) r_nil Tryz.func31 (by kernel_rfl) (by kernel_rfl) (mem:=pM0 false false) hL rfl (τ:=[some 0,some 2]) (by rfl) ((sc_ev (fun n=>((LU (skyI s) (x0 dc tn s) false (eyB tb s.eye)).getD (n - 3) ([],false)).1) (fun n=>((LU (skyI s) (x0 dc tn s) false (eyB tb s.eye)).getD (n - 3) ([],false)).2) s (x0 dc tn s) (x2 dc tn s) (x3 dc tn tb s) (x4 dc tn tb s) (x5 dc tn tb s) (x6 dc tn tb s) (eyB tb s.eye) (w2 dc tb s) (w3 dc tn tb s) (w4 dc tn tb s) (w5 dc tn tb s) (w6 dc tn tb s)).trans ?_)
  rw [propB_t hw,gate_pos (SubN.refl _),gate_pos (SubN.refl _),gate_pos (SubN.refl _),gate_pos (SubN.refl _),gate_pos (SubN.refl _)]
  exact hm2
end
end Go.Proofs.YtefphimaggjihaaGreatDoor.Pi

namespace Go.Proofs.YtefphimaggjihaaGreatDoor
open Go.Shelf
def Tryz.lays169_ren:Go.Shelf.Ren:=⟨fun | 169=>32 | n=>n,fun | 0=>0 | 3=>3 | 5=>5 | 9=>9 | 37=>78 | 70=>77 | 72=>80 | 127=>135 | n=>n,fun  | n=>n⟩
theorem Tryz.lays169:Go.Proofs.Lays.n169 Tryz.prog Tryz.lays169_ren:={
  mixed:=by kernel_rfl
  f169:=Tryz.func32.trans (congrArg some (by kernel_rfl))
  t0:=Tryz.underlying0
  a0:=Tryz.isAgg0
  z0:=Tryz.sizeOf0
  v0:=Tryz.zeroValue0
  t3:=Tryz.underlying3
  a3:=Tryz.isAgg3
  z3:=Tryz.sizeOf3
  v3:=Tryz.zeroValue3
  t9:=Tryz.underlying9
  a9:=Tryz.isAgg9
  z9:=Tryz.sizeOf9
  v9:=Tryz.zeroValue9
  t37:=Tryz.underlying78
  a37:=Tryz.isAgg78
  z37:=Tryz.sizeOf78
  v37:=Tryz.zeroValue78
  t70:=Tryz.underlying77
  a70:=Tryz.isAgg77
  z70:=Tryz.sizeOf77
  v70:=Tryz.zeroValue77
  t72:=Tryz.underlying80
  a72:=Tryz.isAgg80
  z72:=Tryz.sizeOf80
  v72:=Tryz.zeroValue80
  t127:=Tryz.underlying135
  a127:=Tryz.isAgg135
  z127:=Tryz.sizeOf135
  v127:=Tryz.zeroValue135
}
end Go.Proofs.YtefphimaggjihaaGreatDoor
namespace Go.Proofs.YtefphimaggjihaaGreatDoor.Pi
open Go.Shelf Go.RowKit Go.Gv

theorem freeze_grown (w:World) (g n:Nat):w.grownBy (w.drew.freeze ⟨g,0,none⟩ n) (some g):=by
  unfold World.freeze
  split
  · exact ⟨rfl,rfl,rfl,Nat.le_refl _,fun _ _ _=>rfl⟩
  · refine ⟨rfl,rfl,rfl,by simp,fun k _ hk=>?_⟩
    have hne:g≠k:=fun e=>hk (by rw [e])
    show (w.heap.modify g _)[k]?=_
    rw [Array.getElem?_modify,if_neg hne]
/-- String of a builder whose bytes lie in a row. -/
theorem string_run (b g cap:Nat) (p y0 y1:Value) (cur:Array Value) (l:List UInt8) (w:World) (h0:l≠[]) (hbk:w.heap[b]?=some (.cells #[p,.slice (some ⟨g,0,none⟩) l.length cap,y0,y1] 82 (0,0)))
    (hg:w.heap[g]?=some (.cells cur 5 (0,0))) (hcap:l.length≤cap) (hsz:cur.size=cap) (hcm:cap≤maxLen) (hel:∀ (j:Nat) (x:UInt8),l[j]?=some x→cur[j]?=some (.int .u8 (x.toNat:Nat))) :
    Calls Tryz.prog 32 #[.pointer (some ⟨b,0,none⟩)] w fun e w'=>e=.returned (.string ⟨l.toArray⟩)∧w'=w.drew.freeze ⟨g,0,none⟩ l.length:=by
  have hl0:l.length≠0:=by simpa using h0
  have c1:w.drew.cell? ⟨b,1,none⟩=some (.slice (some ⟨g,0,none⟩) l.length cap):=by
    have h:w.drew.heap[b]?=some (.cells #[p,.slice (some ⟨g,0,none⟩) l.length cap,y0,y1] 82 (0,0)):=hbk
    rw [Lib.cell_of_heap h]; rfl
  have hSD:(Builtin.unsafeSliceData_ #[78] 135 #[.slice (some ⟨g,0,none⟩) l.length cap]).run Tryz.prog w.drew=.ok (.pointer (some ⟨g,0,none⟩)) w.drew :=
    Lib.run_unsafeSliceData_row _ _ _ _ _ _ (by omega)
  have hUS:(Builtin.unsafeString_ #[135,3] 9 #[.pointer (some ⟨g,0,none⟩),.int .i64 l.length]).run Tryz.prog w.drew=.ok (.string ⟨l.toArray⟩) (w.drew.freeze ⟨g,0,none⟩ l.length):=by
    have hg':w.drew.heap[g]?=some (.cells cur 5 (0,0)):=hg
    refine Lib.run_unsafeString_row w.drew 135 3 9 5 Tryz.underlying135 (by kernel_rfl) g cur.size (by simp [World.shape?,hg']) l h0 (by omega) (by unfold maxLen at hcm; omega) ?_
    intro j x hx
    rw [Addr.add_lit,Lib.cell_of_heap hg']
    simpa using hel j x hx
  have hlay:=Tryz.lays169
  have u80:=run_underlying Tryz.underlying80
  have u77:=run_underlying Tryz.underlying77
  have u78:=run_underlying Tryz.underlying78
  have u135:=run_underlying Tryz.underlying135
  have u3:=run_underlying Tryz.underlying3
  have u9:=run_underlying Tryz.underlying9
  have u5:=run_underlying Tryz.underlying5
  go_enter Tryz.func32,Tryz.ntmps32
  go_wp2
  go_region
  all_goals (go_wp2; go_ret; exact ⟨rfl,rfl⟩)
theorem string_w {mem:List Row} {k k2:Nat} {P0 Y0 Y1:AV} {l:List UInt8} (hk:mem[k]?=some (.t 82 [P0,.osl k2 1 0 l.length,Y0,Y1])) (hk2:mem[k2]?=some (bR l)) (h0:l≠[]):WSpec Tryz.prog 32 [.own k 0] mem (zA (lB l)) (mem.set k2 .dead):=by
  refine ⟨⟨_,Tryz.func32,by kernel_rfl,by kernel_rfl⟩,fun A0 R w0 E cargs hW hgl hr=>?_⟩
  obtain ⟨u0,t0,e0,r0,hr⟩:=rels_cons.1 hr
  have e1:=rels_nil.1 hr
  subst e1
  obtain ⟨b,c,hO,rfl⟩:=rel_own.1 r0
  have ec:cargs=#[.pointer (some ⟨b,0,none⟩)]:=by apply Array.ext'; simpa using e0
  subst ec
  obtain ⟨row,hrow,hrel⟩:=hW.rows k b c hO
  rw [hk] at hrow
  cases hrow
  obtain ⟨cs,hcs,hpre,hsz⟩:=hrel
  obtain ⟨p,us,e2,rp,hpre⟩:=pre_cons.1 hpre
  obtain ⟨v,us1,e3,rv,hpre⟩:=pre_cons.1 hpre
  obtain ⟨y0,us2,e4,ry0,hpre⟩:=pre_cons.1 hpre
  obtain ⟨y1,us3,e5,ry1,_⟩:=pre_cons.1 hpre
  have hus:us3=[]:=by
    have:=congrArg List.length e2
    rw [e3,e4,e5] at this
    simp only [Array.length_toList,List.length_cons,hsz] at this
    exact List.eq_nil_of_length_eq_zero (by simpa using this.symm)
  subst hus e5 e4 e3
  have hcs2:cs=#[p,v,y0,y1]:=by apply Array.ext'; simpa using e2
  subst hcs2
  have hl0:l.length≠0:=by simpa using h0
  rcases rel_osl.1 rv with ⟨_,h,_⟩ | ⟨g,cap,n,hO2,hn1,hn2,rfl⟩
  · exact absurd h hl0
  obtain ⟨row2,hrow2,hrel2⟩:=hW.rows k2 g (cap,n) hO2
  rw [hk2] at hrow2
  cases hrow2
  obtain ⟨cur,hcur,hcz,hn,hnc,hcm,hel⟩:=hrel2
  have hn:n=l.length:=hn
  subst hn
  have hlive:liveAt mem k2=true:=by unfold liveAt; rw [hk2]; rfl
  refine (string_run b g cap p y0 y1 cur l E.w h0 (by simpa using hcs) hcur hn2 (by simpa using hcz) hcm ?_).mono ?_
  · intro j x hx
    have hj:j < l.length:=(List.getElem?_eq_some_iff.1 hx).1
    obtain ⟨u,us,e4,r4,_⟩:=pre_cons.1 (hel j hj).2
    have e5:=rel_x.1 r4
    have e6:cur.toList[j]?=some u:=by
      have:=congrArg (fun l:List Value=>l[0]?) e4
      simpa using this
    rw [← Array.getElem?_toList,e6,e5,List.getD_eq_getElem?_getD,hx]
    rfl
  · rintro e w' ⟨rfl,rfl⟩
    have hg:=freeze_grown E.w g l.length
    obtain ⟨hA,hR⟩:=hW.own k2 g (cap,l.length) hO2 hlive
    have hlt:g < E.w.heap.size:=hW.small g hA
    refine ⟨_,E.row (E.w.drew.freeze ⟨g,0,none⟩ l.length) k2 g (cap,l.length),rfl,rfl,Env.row_le hg (Or.inl hA) (Or.inr hO2),?_,rel_x.2 rfl⟩
    refine hW.row (row1:=.dead) hg (Nat.lt_of_lt_of_le hlt hg.size) hR (Or.inl hA) (Or.inr hO2) (List.getElem?_set_self (List.getElem?_eq_some_iff.1 hk2).1) (fun k' hk' b' c' hb'=>Or.inl ⟨List.getElem?_set_ne (fun h=>hk' h.symm),fun hl e=>?_⟩) trivial
    subst e
    exact hk' (hW.one k' k2 b' c' (cap,l.length) hb' hO2 hl hlive)
end Go.Proofs.YtefphimaggjihaaGreatDoor.Pi

namespace Go.Proofs.YtefphimaggjihaaGreatDoor.Pi
open Go.Shelf Go.RowKit Go.Gv
open Hs.Sc (Scn)
section
variable (s:Scn) (l:List UInt8) (u:Bool) (e:Int)
def pnM0:List Row:=[.c s.c,.t 82 [.x (.pointer none),.x (.slice none 0 0),bA false,bA false]]
def pnM:List Row:=[.c s.c,.t 82 [.own 1 0,.osl 2 1 0 l.length,bA false,bA u],bR l]
def pnD:List Row:=[.c s.c,.t 82 [.own 1 0,.osl 2 1 0 l.length,bA false,bA u],.dead]
noncomputable def pnW:List WEntry:=[wQ Tryz.prog 31 (fun _ _=>.tup []) (fun _ _=>pnM s l u),wQ Tryz.prog 32 (fun _ _=>zA (lB l)) (fun _ _=>pnD s l u)]
theorem pn_ev:evW Tryz.prog [] [kS Tryz.prog 14 fun _=>iA e] [typed 82] (pnW s l u) [] noL Tryz.f12 [.agg s.c] ret =
  gate (FSpec Tryz.prog 14 [.agg s.c] (iA e)) (cond (!(e==0)) (some (Out.of (.tup [zA ⟨#[]⟩,iA e])))
    (cond (propB (WSpec Tryz.prog 31 [.own 1 0,.agg s.c] (pnM0 s) (.tup []) (pnM s l u))) (cond u (some (Out.of (.tup [zA ⟨#[]⟩,iA 11])))
      (cond (propB (WSpec Tryz.prog 32 [.own 1 0] (pnM s l u) (zA (lB l)) (pnD s l u))) (some (Out.of (.tup [zA (lB l),iA 0]))) none)) none)):=by kernel_rfl
end
open Hs.Sc (scE sc_spec)
theorem print_bad {s:Scn} (h:scE s≠0):FSpec Tryz.prog 12 [.agg s.c] (.tup [zA ⟨#[]⟩,iA (scE s)]):=by
  refine gspecW e_nil (k_cons kS_ok k_nil) (m_cons (typed_ok _) m_nil) (w_cons wQ_ok (w_cons wQ_ok w_nil)) r_nil Tryz.func12 (by kernel_rfl) (by kernel_rfl) noL_ok rfl ((pn_ev s [] false (scE s)).trans ?_)
  rw [gate_pos (sc_spec s),beq_false_of_ne h]
  rfl
section
variable {dc:Int→List UInt8} {tn:Nat→Int} {tb:Nat→Bool} {s:Scn}
theorem scene_lift {l:List UInt8} {u:Bool} (h:GSpec Tryz.prog 31 [.own 0 0,.agg s.c] (pM0 false false) (.tup []) (pM l false u)):WSpec Tryz.prog 31 [.own 1 0,.agg s.c] (pnM0 s) (.tup []) (pnM s l u):=by
  refine wframe (v:=.tup []) h [1] rfl rfl ?_ (fun i j hi=>?_) ⟨fun j hj hl=>?_,fun i j r hi hr=>?_,fun i r hi hr=>?_⟩
  · rfl
  · match i,hi with
    | 0,hi=>simp at hi; subst hi; exact ⟨_,rfl,rfl,rfl⟩
    | n+1,hi=>simp at hi
  · match j,hj,hl with
    | 0,_,_=>rfl
    | 1,hj,_=>exact absurd (by simp) hj
    | n+2,_,hl=>exact absurd hl (by show ¬ n+2 < 2; omega)
  · match i,hi with
    | 0,hi=>simp at hi; subst hi; cases hr; rfl
    | n+1,hi=>simp at hi
  · match i,hi,hr with
    | 0,hi,_=>exact absurd hi (by show ¬ 1≤0; omega)
    | 1,_,hr=>cases hr; rfl
    | n+2,_,hr=>cases hr
theorem x0_ne:x0 dc tn s≠[]:=by
  unfold x0 lineE eyT
  simp [eyW]
theorem x6_ne:x6 dc tn tb s≠[]:=fun h=>x0_ne (dc:=dc) (tn:=tn) (s:=s) (by
  unfold x6 x5 x4 x3 x2 x1 at h
  simp only [List.append_eq_nil_iff] at h
  exact h.1.1.1.1.1.1)
theorem print_good (h0:scE s=0) (h:ScN dc tn tb s) (hl:(x6 dc tn tb s).length≤900000):FSpec Tryz.prog 12 [.agg s.c] (cond (w6 dc tn tb s) (.tup [zA ⟨#[]⟩,iA 11]) (.tup [zA (lB (x6 dc tn tb s)),iA 0])):=by
  have hm:=sc_spec s
  rw [h0] at hm
  have hw:=scene_lift (scene_spec h hl)
  have hS:WSpec Tryz.prog 32 [.own 1 0] (pnM s (x6 dc tn tb s) (w6 dc tn tb s)) (zA (lB (x6 dc tn tb s))) (pnD s (x6 dc tn tb s) (w6 dc tn tb s)):=string_w (mem:=pnM s (x6 dc tn tb s) (w6 dc tn tb s)) (k:=1) (k2:=2) rfl rfl x6_ne
  refine gspecW e_nil (k_cons kS_ok k_nil) (m_cons (typed_ok _) m_nil) (w_cons wQ_ok (w_cons wQ_ok w_nil)) r_nil Tryz.func12 (by kernel_rfl) (by kernel_rfl) noL_ok rfl ((pn_ev s (x6 dc tn tb s) (w6 dc tn tb s) 0).trans ?_)
  rw [gate_pos hm,propB_t hw,propB_t hS]
  cases w6 dc tn tb s<;>rfl
end
end Go.Proofs.YtefphimaggjihaaGreatDoor.Pi

namespace Go.Gv
open Go.RowKit Go.Ev
/-- A number in a slot, told outright. -/
noncomputable def zSl (j:Nat) (v:Int):ZFun:=fun s k=>match s.slots[j]? with
  | some (.x (.int .u64 n),c)=>gate (n=v) (k ⟨s.slots.set j (.x (.int .u64 v),c),s.mem⟩)
  | _=>none
theorem zSl_ok {np:Nat} (j:Nat) (v:Int):ZSoundN np (zSl j v):=fun s k r h=>by
  unfold zSl at h
  split at h
  · rename_i n c hm
    obtain ⟨hp,h⟩:=gate_some h
    subst hp
    have e:s.slots.set j (.x (.int .u64 n),c)=s.slots:=by
      obtain ⟨hl,he⟩:=List.getElem?_eq_some_iff.1 hm
      rw [← he]
      exact List.set_getElem_self hl
    rw [e] at h
    exact ⟨s,h,SubN.refl s⟩
  · cases h
end Go.Gv
namespace Go.Proofs.YtefphimaggjihaaGreatDoor.Pi
open Go.Shelf Go.RowKit Go.Gv
def gFb:List AV→AV
  | [.f w]=>.x (.int .u64 (w:Int))
  | _=>.any
def cFb (nn:Nat→Bool):List AV→Bool
  | [.f w]=>nn w
  | _=>false
def gFf (ff:Int→Nat):List AV→AV
  | [.x (.int .u64 n)]=>.f (ff n)
  | _=>.any
def cFf:List AV→Bool
  | [.x (.int .u64 _)]=>true
  | _=>false
def kFb (nn:Nat→Bool):KEntry:=kIf 197 (cFb nn) gFb
def kFf (ff:Int→Nat):KEntry:=kIf 198 cFf (gFf ff)
def uB (op:BitVec 64→BitVec 64→BitVec 64) (x y:Int):Int:=IntKind.u64.wrap ((op (BitVec.ofInt 64 x) (BitVec.ofInt 64 y)).toNat:Nat)
def uAnd (x y:Int):Int:=uB (fun a b=>a &&& b) x y
def uOr (x y:Int):Int:=uB (fun a b=>a ||| b) x y
def uAn (x y:Int):Int:=uB (fun a b=>a &&& ~~~b) x y
section
variable (w:Nat) (ff:Int→Nat) (nn:Nat→Bool)
def rE (w:Nat):Int:=uAnd ((w:Int).fdiv (2 ^ 52)) 2047
noncomputable def rG (e c1 c2:Int):Option Out:=cond (nn w) (cond (decide (rE w < 1023)) (cond (rE w==1022) (some (Out.of (.f (ff (uOr (uAnd w 9223372036854775808) 4607182418800017408))))) (some (Out.of (.f (ff (uAnd w 9223372036854775808))))))
   (cond (decide (rE w < 1075)) (gate (IntKind.u64.wrap (rE w - 1023)=e) (some (Out.of (.f (ff (uAn (IntKind.u64.wrap ((w:Int)+c1)) c2))))))
     (some (Out.of (.f (ff (w:Int))))))) none
theorem rd0:evZ Tryz.prog [] [kFb nn,kFf ff] [] noL (oneZ 9 (zSl 4 0)) Tryz.f171 [.f w] ret=rG w ff nn 0 2251799813685248 4503599627370495:=by kernel_rfl
theorem rd1:evZ Tryz.prog [] [kFb nn,kFf ff] [] noL (oneZ 9 (zSl 4 1)) Tryz.f171 [.f w] ret=rG w ff nn 1 1125899906842624 2251799813685247:=by kernel_rfl
theorem rd2:evZ Tryz.prog [] [kFb nn,kFf ff] [] noL (oneZ 9 (zSl 4 2)) Tryz.f171 [.f w] ret=rG w ff nn 2 562949953421312 1125899906842623:=by kernel_rfl
theorem rd3:evZ Tryz.prog [] [kFb nn,kFf ff] [] noL (oneZ 9 (zSl 4 3)) Tryz.f171 [.f w] ret=rG w ff nn 3 281474976710656 562949953421311:=by kernel_rfl
theorem rd4:evZ Tryz.prog [] [kFb nn,kFf ff] [] noL (oneZ 9 (zSl 4 4)) Tryz.f171 [.f w] ret=rG w ff nn 4 140737488355328 281474976710655:=by kernel_rfl
theorem rd5:evZ Tryz.prog [] [kFb nn,kFf ff] [] noL (oneZ 9 (zSl 4 5)) Tryz.f171 [.f w] ret=rG w ff nn 5 70368744177664 140737488355327:=by kernel_rfl
theorem rd6:evZ Tryz.prog [] [kFb nn,kFf ff] [] noL (oneZ 9 (zSl 4 6)) Tryz.f171 [.f w] ret=rG w ff nn 6 35184372088832 70368744177663:=by kernel_rfl
theorem rd7:evZ Tryz.prog [] [kFb nn,kFf ff] [] noL (oneZ 9 (zSl 4 7)) Tryz.f171 [.f w] ret=rG w ff nn 7 17592186044416 35184372088831:=by kernel_rfl
theorem rd8:evZ Tryz.prog [] [kFb nn,kFf ff] [] noL (oneZ 9 (zSl 4 8)) Tryz.f171 [.f w] ret=rG w ff nn 8 8796093022208 17592186044415:=by kernel_rfl
theorem rd9:evZ Tryz.prog [] [kFb nn,kFf ff] [] noL (oneZ 9 (zSl 4 9)) Tryz.f171 [.f w] ret=rG w ff nn 9 4398046511104 8796093022207:=by kernel_rfl
theorem rd10:evZ Tryz.prog [] [kFb nn,kFf ff] [] noL (oneZ 9 (zSl 4 10)) Tryz.f171 [.f w] ret=rG w ff nn 10 2199023255552 4398046511103:=by kernel_rfl
theorem rd11:evZ Tryz.prog [] [kFb nn,kFf ff] [] noL (oneZ 9 (zSl 4 11)) Tryz.f171 [.f w] ret=rG w ff nn 11 1099511627776 2199023255551:=by kernel_rfl
theorem rd12:evZ Tryz.prog [] [kFb nn,kFf ff] [] noL (oneZ 9 (zSl 4 12)) Tryz.f171 [.f w] ret=rG w ff nn 12 549755813888 1099511627775:=by kernel_rfl
theorem rd13:evZ Tryz.prog [] [kFb nn,kFf ff] [] noL (oneZ 9 (zSl 4 13)) Tryz.f171 [.f w] ret=rG w ff nn 13 274877906944 549755813887:=by kernel_rfl
theorem rd14:evZ Tryz.prog [] [kFb nn,kFf ff] [] noL (oneZ 9 (zSl 4 14)) Tryz.f171 [.f w] ret=rG w ff nn 14 137438953472 274877906943:=by kernel_rfl
theorem rd15:evZ Tryz.prog [] [kFb nn,kFf ff] [] noL (oneZ 9 (zSl 4 15)) Tryz.f171 [.f w] ret=rG w ff nn 15 68719476736 137438953471:=by kernel_rfl
theorem rd16:evZ Tryz.prog [] [kFb nn,kFf ff] [] noL (oneZ 9 (zSl 4 16)) Tryz.f171 [.f w] ret=rG w ff nn 16 34359738368 68719476735:=by kernel_rfl
theorem rd17:evZ Tryz.prog [] [kFb nn,kFf ff] [] noL (oneZ 9 (zSl 4 17)) Tryz.f171 [.f w] ret=rG w ff nn 17 17179869184 34359738367:=by kernel_rfl
theorem rd18:evZ Tryz.prog [] [kFb nn,kFf ff] [] noL (oneZ 9 (zSl 4 18)) Tryz.f171 [.f w] ret=rG w ff nn 18 8589934592 17179869183:=by kernel_rfl
theorem rd19:evZ Tryz.prog [] [kFb nn,kFf ff] [] noL (oneZ 9 (zSl 4 19)) Tryz.f171 [.f w] ret=rG w ff nn 19 4294967296 8589934591:=by kernel_rfl
theorem rd20:evZ Tryz.prog [] [kFb nn,kFf ff] [] noL (oneZ 9 (zSl 4 20)) Tryz.f171 [.f w] ret=rG w ff nn 20 2147483648 4294967295:=by kernel_rfl
theorem rd21:evZ Tryz.prog [] [kFb nn,kFf ff] [] noL (oneZ 9 (zSl 4 21)) Tryz.f171 [.f w] ret=rG w ff nn 21 1073741824 2147483647:=by kernel_rfl
theorem rd22:evZ Tryz.prog [] [kFb nn,kFf ff] [] noL (oneZ 9 (zSl 4 22)) Tryz.f171 [.f w] ret=rG w ff nn 22 536870912 1073741823:=by kernel_rfl
theorem rd23:evZ Tryz.prog [] [kFb nn,kFf ff] [] noL (oneZ 9 (zSl 4 23)) Tryz.f171 [.f w] ret=rG w ff nn 23 268435456 536870911:=by kernel_rfl
theorem rd24:evZ Tryz.prog [] [kFb nn,kFf ff] [] noL (oneZ 9 (zSl 4 24)) Tryz.f171 [.f w] ret=rG w ff nn 24 134217728 268435455:=by kernel_rfl
theorem rd25:evZ Tryz.prog [] [kFb nn,kFf ff] [] noL (oneZ 9 (zSl 4 25)) Tryz.f171 [.f w] ret=rG w ff nn 25 67108864 134217727:=by kernel_rfl
theorem rd26:evZ Tryz.prog [] [kFb nn,kFf ff] [] noL (oneZ 9 (zSl 4 26)) Tryz.f171 [.f w] ret=rG w ff nn 26 33554432 67108863:=by kernel_rfl
theorem rd27:evZ Tryz.prog [] [kFb nn,kFf ff] [] noL (oneZ 9 (zSl 4 27)) Tryz.f171 [.f w] ret=rG w ff nn 27 16777216 33554431:=by kernel_rfl
theorem rd28:evZ Tryz.prog [] [kFb nn,kFf ff] [] noL (oneZ 9 (zSl 4 28)) Tryz.f171 [.f w] ret=rG w ff nn 28 8388608 16777215:=by kernel_rfl
theorem rd29:evZ Tryz.prog [] [kFb nn,kFf ff] [] noL (oneZ 9 (zSl 4 29)) Tryz.f171 [.f w] ret=rG w ff nn 29 4194304 8388607:=by kernel_rfl
theorem rd30:evZ Tryz.prog [] [kFb nn,kFf ff] [] noL (oneZ 9 (zSl 4 30)) Tryz.f171 [.f w] ret=rG w ff nn 30 2097152 4194303:=by kernel_rfl
theorem rd31:evZ Tryz.prog [] [kFb nn,kFf ff] [] noL (oneZ 9 (zSl 4 31)) Tryz.f171 [.f w] ret=rG w ff nn 31 1048576 2097151:=by kernel_rfl
theorem rd_all:∀ k:Nat,k < 32→evZ Tryz.prog [] [kFb nn,kFf ff] [] noL (oneZ 9 (zSl 4 (k:Nat))) Tryz.f171 [.f w] ret=rG w ff nn (k:Nat) ((2 ^ (51 - k):Nat):Int) ((2 ^ (52 - k) - 1:Nat):Int):=fun k hk=>by
  match k,hk with
  | 0,_=>exact rd0 w ff nn
  | 1,_=>exact rd1 w ff nn
  | 2,_=>exact rd2 w ff nn
  | 3,_=>exact rd3 w ff nn
  | 4,_=>exact rd4 w ff nn
  | 5,_=>exact rd5 w ff nn
  | 6,_=>exact rd6 w ff nn
  | 7,_=>exact rd7 w ff nn
  | 8,_=>exact rd8 w ff nn
  | 9,_=>exact rd9 w ff nn
  | 10,_=>exact rd10 w ff nn
  | 11,_=>exact rd11 w ff nn
  | 12,_=>exact rd12 w ff nn
  | 13,_=>exact rd13 w ff nn
  | 14,_=>exact rd14 w ff nn
  | 15,_=>exact rd15 w ff nn
  | 16,_=>exact rd16 w ff nn
  | 17,_=>exact rd17 w ff nn
  | 18,_=>exact rd18 w ff nn
  | 19,_=>exact rd19 w ff nn
  | 20,_=>exact rd20 w ff nn
  | 21,_=>exact rd21 w ff nn
  | 22,_=>exact rd22 w ff nn
  | 23,_=>exact rd23 w ff nn
  | 24,_=>exact rd24 w ff nn
  | 25,_=>exact rd25 w ff nn
  | 26,_=>exact rd26 w ff nn
  | 27,_=>exact rd27 w ff nn
  | 28,_=>exact rd28 w ff nn
  | 29,_=>exact rd29 w ff nn
  | 30,_=>exact rd30 w ff nn
  | 31,_=>exact rd31 w ff nn
  | n+32,h=>exact absurd h (by omega)
end
def bB (op:BitVec 64→BitVec 64→BitVec 64) (x y:Int):Int:=(((op (BitVec.ofInt 64 x) (BitVec.ofInt 64 y)).toNat:Nat):Int)
theorem wrapU {n:Int} (h0:0≤n) (h1:n < 18446744073709551616):IntKind.u64.wrap n=n:=by
  have e:IntKind.u64.wrap n=n % 18446744073709551616:=by
    unfold IntKind.wrap
    simp only [IntKind.bits,IntKind.signed,Bool.false_and]
    rfl
  rw [e]
  omega
theorem uB_eq (op:BitVec 64→BitVec 64→BitVec 64) (x y:Int):uB op x y=bB op x y:=by
  unfold uB bB
  exact wrapU (by omega) (by have:=(op (BitVec.ofInt 64 x) (BitVec.ofInt 64 y)).isLt; omega)
theorem bv_ofI {x:Nat} (h:x < 2 ^ 64):(BitVec.ofInt 64 (x:Int)).toNat=x:=by
  rw [BitVec.toNat_ofInt]
  omega
theorem and_mod {x:Nat} (h:x < 2 ^ 64):bB (fun a b=>a &&& b) (x:Int) 2047=((x % 2048:Nat):Int):=by
  unfold bB
  rw [BitVec.toNat_and,bv_ofI h,show (2047:Int)=((2047:Nat):Int) from rfl,bv_ofI (by decide)]
  congr 1
  exact Nat.and_two_pow_sub_one_eq_mod x 11
theorem and_top {x:Nat} (h:x < 2 ^ 64):bB (fun a b=>a &&& b) (x:Int) 9223372036854775808=((x / 9223372036854775808*9223372036854775808:Nat):Int):=by
  unfold bB
  rw [BitVec.toNat_and,bv_ofI h,show (9223372036854775808:Int)=((9223372036854775808:Nat):Int) from rfl,bv_ofI (by decide)]
  congr 1
  apply Nat.eq_of_testBit_eq
  intro i
  rw [show x / 9223372036854775808*9223372036854775808=(x >>> 63) <<< 63 by rw [Nat.shiftLeft_eq,Nat.shiftRight_eq_div_pow],Nat.testBit_shiftLeft,Nat.testBit_shiftRight,Nat.testBit_and,show (9223372036854775808:Nat)=2 ^ 63 from rfl,Nat.testBit_two_pow]
  by_cases hi:i < 63
  · simp [Nat.not_le.2 hi,show ¬ 63=i by omega]
  · by_cases h63:i=63
    · subst h63; simp
    · have:x.testBit i=false:=Nat.testBit_lt_two_pow (Nat.lt_of_lt_of_le h (Nat.pow_le_pow_right (by decide) (by omega)))
      rw [show 63+(i - 63)=i by omega,this]; simp
theorem an_low {x q:Nat} (h:x < 2 ^ 64) (hq:q≤52):bB (fun a b=>a &&& ~~~b) (x:Int) ((2 ^ q - 1:Nat):Int)=((x / 2 ^ q*2 ^ q:Nat):Int):=by
  unfold bB
  congr 1
  have hp:2 ^ q≤2 ^ 52:=Nat.pow_le_pow_right (by decide) hq
  have h0:0 < 2 ^ q:=Nat.two_pow_pos q
  apply Nat.eq_of_testBit_eq
  intro i
  rw [show x / 2 ^ q*2 ^ q=(x >>> q) <<< q by rw [Nat.shiftLeft_eq,Nat.shiftRight_eq_div_pow],Nat.testBit_shiftLeft,Nat.testBit_shiftRight]
  rw [BitVec.toNat_and,Nat.testBit_and,bv_ofI h,BitVec.testBit_toNat,BitVec.getLsbD_not,← BitVec.testBit_toNat,bv_ofI (by omega),Nat.testBit_two_pow_sub_one]
  by_cases hi:i < q
  · simp [hi,Nat.not_le.2 hi]
  · rw [decide_eq_false hi,decide_eq_true (show i ≥ q by omega)]
    by_cases h64:i < 64
    · rw [decide_eq_true h64]; simp; congr 1; omega
    · have:x.testBit i=false:=Nat.testBit_lt_two_pow (Nat.lt_of_lt_of_le h (Nat.pow_le_pow_right (by decide) (by omega)))
      rw [show q+(i - q)=i by omega,this]; simp
def rndR (w:Nat):Nat:=if w / 2 ^ 52 % 2048 < 1023 then (if w / 2 ^ 52 % 2048=1022 then w / 9223372036854775808*9223372036854775808+4607182418800017408 else w / 9223372036854775808*9223372036854775808) else (w+2 ^ (1074 - w / 2 ^ 52 % 2048)) / 2 ^ (1075 - w / 2 ^ 52 % 2048)*2 ^ (1075 - w / 2 ^ 52 % 2048)
open Go.Ev (cn isNan)
def nnF (w:Nat):Bool:=!(isNan w)&&decide (w < 18446744073709551616)
theorem cn_back {b w:Nat} (h:cn b=w) (hn:isNan w=false):b=w:=by
  unfold cn at h
  cases hb:isNan b
  · rw [hb] at h; exact h
  · rw [hb] at h
    have h:Go.Ev.nanB=w:=h
    subst h
    exact absurd hn (by decide +kernel)
theorem fb_X {w:Nat} (hn:isNan w=false):XSpec Tryz.prog 197 [.f w] (.x (.int .u64 (w:Int))):=fun E cargs hv=>by
  obtain ⟨l⟩:=cargs
  obtain ⟨v,t,e1,h1,h2⟩:=rels_cons.1 hv
  have e2:=rels_nil.1 h2
  obtain ⟨b,rfl,hb⟩:=rel_f.1 h1
  obtain rfl:=cn_back hb hn
  have e3:l=[.float .f64 b]:=by rw [e2] at e1; exact e1
  subst e3
  refine ⟨.int .u64 b,E.w,?_,Or.inl rfl,rel_x.2 rfl⟩
  rw [run_callFunc_extern Tryz.func197 (by kernel_rfl) rfl (by kernel_rfl) (e:=Extern.MathFloatBits.float64bits) (by kernel_rfl)]
  rfl
theorem ff_X (n:Int):XSpec Tryz.prog 198 [.x (.int .u64 n)] (.f (cn n.toNat)):=fun E cargs hv=>by
  obtain ⟨l⟩:=cargs
  obtain ⟨v,t,e1,h1,h2⟩:=rels_cons.1 hv
  have e2:=rels_nil.1 h2
  have e0:=rel_x.1 h1
  subst e0
  have e3:l=[.int .u64 n]:=by rw [e2] at e1; exact e1
  subst e3
  refine ⟨.float .f64 n.toNat,E.w,?_,Or.inl rfl,rel_f.2 ⟨_,rfl,rfl⟩⟩
  rw [run_callFunc_extern Tryz.func198 (by kernel_rfl) rfl (by kernel_rfl) (e:=Extern.MathFloatBits.float64frombits) (by kernel_rfl)]
  rfl
theorem kIf_X {P:Program} {f:Nat} {c:List AV→Bool} {g:List AV→AV} (h:∀ args,c args=true→XSpec P f args (g args)):KOk P (kIf f c g):=by
  constructor
  · intro args k o ho
    simp only [kIf] at ho ⊢
    cases hc:c args
    · rw [hc] at ho; cases ho
    · rw [hc] at ho
      exact ⟨g args,ho,fun k'=>rfl⟩
  · intro args v hv
    have h1:=hv fun x=>some (Out.of x)
    simp only [kIf] at h1
    cases hc:c args
    · rw [hc] at h1; cases h1
    · rw [hc] at h1
      simp only [cond_true,Option.some.injEq,Out.of,Out.mk.injEq,true_and] at h1
      subst h1
      exact Or.inr (h args hc)
theorem kFb_ok:KOk Tryz.prog (kFb nnF):=kIf_X fun args h=>by
  unfold cFb at h
  split at h
  · unfold nnF at h
    simp only [Bool.and_eq_true,Bool.not_eq_true'] at h
    exact fb_X h.1
  · cases h
theorem kFf_ok:KOk Tryz.prog (kFf fun n=>cn n.toNat):=kIf_X fun args h=>by
  unfold cFf at h
  split at h
  · exact ff_X _
  · cases h
theorem gspecZ {l : List Entry} {ks : List KEntry} {ms : List MEntry} {L : Nat → Option LFun} {Z : Nat → Option ZFun} (hZ : ∀ i h, Z i = some h → ZSoundN 0 h) (hl : ∀ e, e ∈ l → EOk Tryz.prog e) (hks : ∀ e, e ∈ ks → KOk Tryz.prog e) (hms : ∀ e, e ∈ ms → MEOk Tryz.prog e) {f : Nat} {fn : Func} (hf : Tryz.prog.funcs[f]? = some fn) (hnm : (fn.name == "runtime.NumGoroutine") = false) (hb : fn.body = some (bodyOf fn)) (hL : LOk Tryz.prog L (bodyOf fn))
    {args:List AV} (hlen:Nat.ble args.length fn.ntmps=true) {r:AV} (h:evZ Tryz.prog l ks ms L Z fn args ret=some (Out.of r)):FSpec Tryz.prog f args r:=spec_of_bodyZ hZ (tabM_ok hl hks hms) (drawnK_ok (tabM_ok hl hks hms) (by kernel_rfl)) 40 hf hnm hb hL hlen h
theorem rE_eq {w:Nat} (hw:w < 18446744073709551616):rE w=((w / 2 ^ 52 % 2048:Nat):Int):=by
  unfold rE uAnd
  have e:(w:Int).fdiv (2 ^ 52)=((w / 2 ^ 52:Nat):Int):=by
    rw [Int.fdiv_eq_ediv_of_nonneg _ (by decide)]
    rfl
  rw [e,uB_eq]
  exact and_mod (by omega)
theorem round_spec {w:Nat} (hw:w < 18446744073709551616) (hn:isNan w=false) (hE:w / 2 ^ 52 % 2048 < 1055):FSpec Tryz.prog 171 [.f w] (.f (cn (rndR w))):=by
  have hnn:nnF w=true:=by unfold nnF; rw [hn,decide_eq_true hw]; rfl
  have hr:=rE_eq hw
  by_cases h1:w / 2 ^ 52 % 2048 < 1023
  · refine gspecZ (oneZ_ok (zSl_ok 4 ((0:Nat):Int))) e_nil (k_cons kFb_ok (k_cons kFf_ok k_nil)) m_nil Tryz.func171 (by kernel_rfl) (by kernel_rfl) noL_ok rfl ((rd_all w (fun n=>cn n.toNat) nnF 0 (by omega)).trans ?_)
    unfold rG rndR
    have ht:uAnd (w:Int) 9223372036854775808=((w / 9223372036854775808*9223372036854775808:Nat):Int):=by unfold uAnd; rw [uB_eq]; exact and_top (by omega)
    rw [hnn,hr,decide_eq_true (by omega),if_pos h1,ht]
    by_cases h2:w / 2 ^ 52 % 2048=1022
    · rw [h2,if_pos rfl]
      have ho:uOr ((w / 9223372036854775808*9223372036854775808:Nat):Int) 4607182418800017408=((w / 9223372036854775808*9223372036854775808+4607182418800017408:Nat):Int):=by
        have:w / 9223372036854775808=0∨w / 9223372036854775808=1:=by omega
        rcases this with h | h<;>rw [h]<;>rfl
      rw [ho]
      rfl
    · rw [if_neg h2,beq_false_of_ne (by omega)]
      rfl
  · obtain ⟨k,hk⟩:∃ k,w / 2 ^ 52 % 2048=1023+k:=⟨w / 2 ^ 52 % 2048 - 1023,by omega⟩
    refine gspecZ (oneZ_ok (zSl_ok 4 ((k:Nat):Int))) e_nil (k_cons kFb_ok (k_cons kFf_ok k_nil)) m_nil Tryz.func171 (by kernel_rfl) (by kernel_rfl) noL_ok rfl ((rd_all w (fun n=>cn n.toNat) nnF k (by omega)).trans ?_)
    unfold rG rndR
    have h0:0 < 2 ^ (51 - k):=Nat.two_pow_pos _
    have hp:2 ^ (51 - k)≤2 ^ 51:=Nat.pow_le_pow_right (by decide) (by omega)
    have hw2:w < 2 ^ 63+2047*2 ^ 52:=by
      have h3:w / 2 ^ 52 % 2048≤1054:=by omega
      omega
    have hs:IntKind.u64.wrap ((w:Int)+((2 ^ (51 - k):Nat):Int))=((w+2 ^ (51 - k):Nat):Int):=by
      generalize 2 ^ (51 - k)=d at h0 hp ⊢
      rw [wrapU (by omega) (by omega)]; omega
    have ha:uAn ((w+2 ^ (51 - k):Nat):Int) ((2 ^ (52 - k) - 1:Nat):Int)=(((w+2 ^ (51 - k)) / 2 ^ (52 - k)*2 ^ (52 - k):Nat):Int):=by unfold uAn; rw [uB_eq]; exact an_low (by omega) (by omega)
    rw [hnn,hr,hk,decide_eq_false (by omega),decide_eq_true (by omega),if_neg (by omega),gate_pos (by rw [wrapU (by omega) (by omega)]; omega),hs,ha,show 1074 - (1023+k)=51 - k by omega,show 1075 - (1023+k)=52 - k by omega]
    rfl
end Go.Proofs.YtefphimaggjihaaGreatDoor.Pi

namespace Go.Proofs.YtefphimaggjihaaGreatDoor.Hs
open Go.Gv
open Go.Ev (cn fadd fsub fmul fdiv fsqrt fneg feq flt fle fgt fge fabs)

def k1000:Nat:=4652007308841189376
def mth (n:Int):Nat:=fdiv (cn (FloatKind.f64.nearest n)) k1000
section
variable (n:Nat) (hs:Nat→Int) (pf:Int→Int→Int) (tf:Int→Nat) (rf:Int→Int) (k fr mo c:Int)
end
section
variable (n:Nat) (hs:Nat→Int) (rf:Int→Int) (mf:Int→Int→Nat) (fr mo:Int)
end
section
variable (n:Nat) (hs:Nat→Int) (pf:Int→Int→Int) (tf:Int→Nat) (rf:Int→Int) (vf:Int→Int→Nat→Nat)
end
section
variable (n:Nat) (hs:Nat→Int) (pf:Int→Int→Int) (tf:Int→Nat) (rf:Int→Int) (vf:Int→Int→Nat→Nat) (x y w:Nat)
def z3:Nat→Nat:=fun _=>0
end
end Go.Proofs.YtefphimaggjihaaGreatDoor.Hs

namespace Go.Proofs.YtefphimaggjihaaGreatDoor.Hs.So
open Go.Gv
open Go.Ev (cn fadd fsub fmul fdiv fsqrt fneg feq flt fle fgt fge fabs isNan)

end Go.Proofs.YtefphimaggjihaaGreatDoor.Hs.So

namespace Go.Proofs.YtefphimaggjihaaGreatDoor.Hs.So
open Go.Gv
open Go.Ev (cn fadd fsub fmul fdiv fsqrt fneg feq flt fle fgt fge fabs)

section
variable (n:Nat) (hs:Nat→Int) (pf:Int→Int→Int) (tf:Int→Nat) (rf:Int→Int) (vf:Int→Int→Nat→Nat) (x y w:Nat) (fr:Int)
def xK:Int:=w64 (1+pf (rf fr) 6)
def xR:Nat:=tf (w64 (1+pf (rf (w64 (fr+8))) 2500))
def xA (B C:Nat→Nat) (R Q:Nat):List AV:=[iA (xK pf rf fr),.f (vf (w64 (fr+1)) 4000 0),.f (vf (w64 (fr+1)) 4000 1),.f (vf (w64 (fr+1)) 4000 2),.f (B 0),.f (B 1),.f (B 2),.f (C 0),.f (C 1),.f (C 2),.f R,.f Q,iA (pf (rf (w64 (fr+7))) 1)]
def xO (B C:Nat→Nat) (R Q:Nat):Option Out:=some (Out.of (.agg (xA pf rf vf fr B C R Q)))
def x4:Option Out:=cond (noughtB (vf (w64 (fr+4)) 3000 0) (vf (w64 (fr+4)) 3000 1) (vf (w64 (fr+4)) 3000 2)) (xO pf rf vf fr (ls [0,one,0]) z3 (xR pf tf rf fr) 0) (xO pf rf vf fr (vf (w64 (fr+4)) 3000) z3 (xR pf tf rf fr) 0)
end
end Go.Proofs.YtefphimaggjihaaGreatDoor.Hs.So

namespace Go.Ev
open Ieee

theorem leastP:double.leastPlace=-1074:=by decide +kernel
theorem fracB:(double.fractionBits:Int)=52:=rfl
theorem log2_shl {m:Nat} (k:Nat) (hm:m≠0):(m <<< k).log2=m.log2+k:=by
  have hp:0 < 2 ^ k:=Nat.two_pow_pos k
  have hne:m <<< k≠0:=by rw [Nat.shiftLeft_eq]; exact Nat.mul_ne_zero hm (Nat.pos_iff_ne_zero.1 hp)
  rw [Nat.log2_eq_iff hne,Nat.shiftLeft_eq]
  refine ⟨by rw [Nat.pow_add]; exact Nat.mul_le_mul_right _ (Nat.log2_self_le hm),?_⟩
  rw [show m.log2+k+1=m.log2+1+k by omega,Nat.pow_add]
  exact Nat.mul_lt_mul_of_pos_right Nat.lt_log2_self hp

theorem log2_lt53 {m:Nat} (h:m < 9007199254740992):m.log2≤52:=by
  by_cases h0:m=0
  · subst h0; decide
  · have:=(Nat.log2_lt h0).2 (show m < 2 ^ 53 by omega)
    omega

theorem nearest_zero (s:Bool) (p:Int):double.nearest s 0 p=double.word s 0:=by simp [Format.nearest]

theorem word_neg (s:Bool) {r:Nat} (h:r≤9218868437227405312):double.word s r ^^^ 9223372036854775808=double.word (!s) r:=by
  have h63:r < 2 ^ 63:=by omega
  unfold Format.word
  rw [signW]
  have e:(9223372036854775808:Nat)=2 ^ 63:=by decide
  rw [e]
  cases s
  · simp only [Bool.false_eq_true,if_false,Bool.not_false,if_true]
    have hor:=Nat.two_pow_add_eq_or_of_lt h63 1
    rw [Nat.mul_one] at hor
    rw [hor]
    apply Nat.eq_of_testBit_eq
    intro n
    simp only [Nat.testBit_xor,Nat.testBit_or,Nat.testBit_two_pow]
    by_cases hn:63=n
    · subst hn; simp [Nat.testBit_lt_two_pow h63]
    · simp [hn]
  · simp only [if_true,Bool.not_true,Bool.false_eq_true,if_false]
    have hor:=Nat.two_pow_add_eq_or_of_lt h63 1
    rw [Nat.mul_one] at hor
    rw [hor]
    apply Nat.eq_of_testBit_eq
    intro n
    simp only [Nat.testBit_xor,Nat.testBit_or,Nat.testBit_two_pow]
    by_cases hn:63=n
    · subst hn; simp [Nat.testBit_lt_two_pow h63]
    · simp [hn]

theorem fneg_word (s:Bool) {r:Nat} (h:r≤9218868437227405312):fneg (double.word s r)=double.word (!s) r:=by
  unfold fneg
  rw [isNan_word s h,cond_false,word_neg s h]

end Go.Ev

namespace Go.Ev
open Ieee

/-- 'a / g' to the nearest whole number, between two to the even one. -/
def rnd (a g:Nat):Nat:=a / g+(decide (g < 2*(a % g))||(g==2*(a % g)&&a / g % 2==1)).toNat

theorem rnd_small {a g:Nat} (h:2*a < g):rnd a g=0:=by
  have h1:a / g=0:=Nat.div_eq_of_lt (by omega)
  have h2:a % g=a:=Nat.mod_eq_of_lt (by omega)
  have h3:decide (g < 2*a)=false:=decide_eq_false (by omega)
  have h4:(g==2*a)=false:=by simp; omega
  unfold rnd
  rw [h1,h2,h3,h4]; rfl

theorem toNat_le_one (b:Bool):b.toNat≤1:=by cases b<;>decide
theorem rnd_le (a g:Nat):rnd a g≤a / g+1:=Nat.add_le_add_left (toNat_le_one _) _
theorem le_rnd (a g:Nat):a / g≤rnd a g:=Nat.le_add_right _ _

theorem rnd_mono {a b g:Nat} (h:a≤b):rnd a g≤rnd b g:=by
  have hd:a / g≤b / g:=Nat.div_le_div_right h
  rcases Nat.eq_or_lt_of_le hd with e | e
  · have h1:=Nat.div_add_mod a g
    have h2:=Nat.div_add_mod b g
    have hm:a % g≤b % g:=by rw [e] at h1; omega
    unfold rnd
    rw [e]
    refine Nat.add_le_add_left ?_ _
    cases hx:(decide (g < 2*(a % g))||(g==2*(a % g)&&b / g % 2==1))
    · exact Nat.zero_le _
    · have:(decide (g < 2*(b % g))||(g==2*(b % g)&&b / g % 2==1))=true:=by
        simp only [Bool.or_eq_true,Bool.and_eq_true,decide_eq_true_eq,beq_iff_eq] at hx ⊢
        omega
      rw [this]; exact Nat.le_refl _
  · exact Nat.le_trans (rnd_le a g) (Nat.le_trans e (le_rnd b g))

theorem rnd_mul (a g:Nat) {c:Nat} (hc:0 < c):rnd (a*c) (g*c)=rnd a g:=by
  unfold rnd
  rw [Nat.mul_div_mul_right _ _ hc,Nat.mul_mod_mul_right]
  have h1:decide (g*c < 2*(a % g*c))=decide (g < 2*(a % g)):=by
    rw [← Nat.mul_assoc]
    exact decide_eq_decide.2 (Nat.mul_lt_mul_right hc)
  have h2:(g*c==2*(a % g*c))=(g==2*(a % g)):=by
    rw [← Nat.mul_assoc,Bool.eq_iff_iff,beq_iff_eq,beq_iff_eq]
    exact Nat.mul_left_inj (by omega)
  rw [h1,h2]

theorem cut_rnd (s:Bool) (n d:Nat):Toward.even.cut s n d=rnd n (2 ^ d):=by
  have hn:n < 2 ^ (n.log2+1):=Nat.lt_log2_self
  by_cases h:d≤n.log2+2
  · unfold Toward.cut rnd
    rw [Nat.min_eq_left h,Nat.one_shiftLeft]
  · have hL:2*n < 2 ^ (n.log2+2):=by rw [Nat.pow_succ]; omega
    have hd:2*n < 2 ^ d:=Nat.lt_of_lt_of_le hL (Nat.pow_le_pow_right (by decide) (by omega))
    rw [rnd_small hd]
    have:=rnd_small hL
    unfold rnd at this
    unfold Toward.cut
    rw [Nat.min_eq_right (by omega),Nat.one_shiftLeft]
    exact this

/-- A quotient with one digit more that tells whether anything is left. -/
theorem rnd_sticky (d n k:Nat) (hn:0 < n):rnd (2*(d / n)+(d % n != 0).toNat) (2 ^ (k+2))=rnd d (n*2 ^ (k+1)):=by
  have hp:0 < 2 ^ k:=Nat.two_pow_pos k
  have e1:2 ^ (k+1)=2*2 ^ k:=by rw [Nat.pow_succ]; omega
  have e2:2 ^ (k+2)=2*(2*2 ^ k):=by rw [Nat.pow_succ,e1]; omega
  rw [e1,e2]
  generalize 2 ^ k=H at hp
  have hr:d % n < n:=Nat.mod_lt _ hn
  have hd:=Nat.div_add_mod d n
  generalize hst:(d % n != 0).toNat=st
  have hs:(st=0∧d % n=0)∨(st=1∧0 < d % n):=by
    cases hb:(d % n != 0)
    · rw [hb] at hst; left; exact ⟨hst.symm,by simpa using hb⟩
    · rw [hb] at hst; right; refine ⟨hst.symm,?_⟩
      have:d % n≠0:=by simpa using hb
      omega
  generalize d % n=r at hr hd hs
  have hQ:=Nat.div_add_mod (d / n) (2*H)
  have hB:d / n % (2*H) < 2*H:=Nat.mod_lt _ (by omega)
  -- the whole part
  have w1:(2*(d / n)+st) / (2*(2*H))=d / n / (2*H):=by
    rw [← Nat.div_div_eq_div_mul]
    congr 1
    omega
  have w2:d / (n*(2*H))=d / n / (2*H):=(Nat.div_div_eq_div_mul d n (2*H)).symm
  generalize hA:d / n / (2*H)=A at *
  generalize hBe:d / n % (2*H)=Bq at *
  generalize hq:d / n=Q at *
  -- what is left
  have m1:(2*Q+st) % (2*(2*H))=2*Bq+st:=by
    have:=Nat.div_add_mod (2*Q+st) (2*(2*H))
    rw [w1] at this
    have e:2*(2*H)*A=2*(2*H*A):=by rw [Nat.mul_assoc]
    omega
  have m2:d % (n*(2*H))=n*Bq+r:=by
    have:=Nat.div_add_mod d (n*(2*H))
    rw [w2] at this
    have e:n*Q=n*(2*H)*A+n*Bq:=by rw [← hQ,Nat.mul_add,Nat.mul_assoc n]
    omega
  unfold rnd
  rw [w1,w2,m1,m2]
  congr 2
  have c1:(2*(2*H) < 2*(2*Bq+st)) ↔ (n*(2*H) < 2*(n*Bq+r)):=by
    have q1:n*(2*H)=2*(n*H):=by rw [Nat.mul_left_comm]
    rw [q1]
    constructor
    · intro h
      have:H≤Bq:=by omega
      rcases Nat.eq_or_lt_of_le this with e | e
      · subst e; omega
      · have:=Nat.mul_le_mul_left n (show H+1≤Bq from e)
        rw [Nat.mul_add] at this; omega
    · intro h
      by_cases hl:Bq < H
      · have:=Nat.mul_le_mul_left n (show Bq+1≤H from hl)
        rw [Nat.mul_add] at this; omega
      · rcases Nat.eq_or_lt_of_le (Nat.le_of_not_lt hl) with e | e
        · subst e; omega
        · omega
  have c2:(2*(2*H)=2*(2*Bq+st)) ↔ (n*(2*H)=2*(n*Bq+r)):=by
    have q1:n*(2*H)=2*(n*H):=by rw [Nat.mul_left_comm]
    rw [q1]
    constructor
    · intro h
      have:H=Bq:=by omega
      subst this; omega
    · intro h
      rcases Nat.lt_trichotomy Bq H with hl | e | hl
      · have:=Nat.mul_le_mul_left n (show Bq+1≤H from hl)
        rw [Nat.mul_add] at this; omega
      · subst e; omega
      · have:=Nat.mul_le_mul_left n (show H+1≤Bq from hl)
        rw [Nat.mul_add] at this; omega
  have d1:decide (2*(2*H) < 2*(2*Bq+st))=decide (n*(2*H) < 2*(n*Bq+r)):=decide_eq_decide.2 c1
  have d2:(2*(2*H)==2*(2*Bq+st))=(n*(2*H)==2*(n*Bq+r)):=by
    rw [Bool.eq_iff_iff,beq_iff_eq,beq_iff_eq]; exact c2
  rw [d1,d2]

/-- The rung of 'a / g' units, uncapped: 'b' bits of fraction. -/
def rq (b a g:Nat):Nat:=((a / g).log2 - b)*2 ^ b+rnd a (g*2 ^ ((a / g).log2 - b))

theorem rq_mul (b a g:Nat) {c:Nat} (hc:0 < c):rq b (a*c) (g*c)=rq b a g:=by
  unfold rq
  rw [Nat.mul_div_mul_right _ _ hc,Nat.mul_right_comm,rnd_mul _ _ hc]

theorem rq_mono1 (b:Nat) {a c g:Nat} (h:a≤c):rq b a g≤rq b c g:=by
  have hd:a / g≤c / g:=Nat.div_le_div_right h
  have hl:(a / g).log2≤(c / g).log2:=by
    by_cases h0:a / g=0
    · rw [h0]; simp
    · exact (Nat.le_log2 (fun hc=>h0 (Nat.le_zero.1 (hc ▸ hd)))).2 (Nat.le_trans (Nat.log2_self_le h0) hd)
  unfold rq
  have hl2:(a / g).log2 - b≤(c / g).log2 - b:=by omega
  rcases Nat.eq_or_lt_of_le hl2 with e | e
  · rw [e]
    exact Nat.add_le_add_left (rnd_mono h) _
  · -- the lower one is at most the next binade's first
    have h1:rnd a (g*2 ^ ((a / g).log2 - b))≤2 ^ (b+1):=by
      refine Nat.le_trans (rnd_le _ _) ?_
      rw [← Nat.div_div_eq_div_mul]
      have:a / g < 2 ^ ((a / g).log2+1):=Nat.lt_log2_self
      have h2:a / g / 2 ^ ((a / g).log2 - b) < 2 ^ (b+1):=by
        rw [Nat.div_lt_iff_lt_mul (Nat.two_pow_pos _),← Nat.pow_add]
        exact Nat.lt_of_lt_of_le this (Nat.pow_le_pow_right (by decide) (by omega))
      omega
    have h2:2 ^ b≤rnd c (g*2 ^ ((c / g).log2 - b)):=by
      refine Nat.le_trans ?_ (le_rnd _ _)
      rw [← Nat.div_div_eq_div_mul,Nat.le_div_iff_mul_le (Nat.two_pow_pos _),← Nat.pow_add]
      have h0:c / g≠0:=by
        intro h0; rw [h0] at e; simp at e
      refine Nat.le_trans (Nat.pow_le_pow_right (by decide) (by omega)) (Nat.log2_self_le h0)
    have h3:=Nat.mul_le_mul_right (2 ^ b) e
    rw [Nat.succ_mul] at h3
    rw [Nat.pow_succ] at h1
    omega

theorem rq_mono (b:Nat) {a c g h:Nat} (hg:0 < g) (hh:0 < h) (hle:a*h≤c*g):rq b a g≤rq b c h:=by
  rw [← rq_mul b a g hh,← rq_mul b c h hg,Nat.mul_comm h g]
  exact rq_mono1 b hle

theorem rq_zero (b:Nat) {g:Nat} (hg:0 < g):rq b 0 g=0:=by
  unfold rq
  rw [Nat.zero_div,Nat.log2_zero,Nat.zero_sub,Nat.zero_mul,Nat.zero_add]
  exact rnd_small (by rw [Nat.mul_zero]; exact Nat.mul_pos hg (Nat.two_pow_pos _))
end Go.Ev

namespace Go.Ev
open Ieee

theorem log2_half (n:Nat):(n / 2).log2=n.log2 - 1:=by
  rw [Nat.log2_def n]
  by_cases h:n ≥ 2
  · rw [if_pos h]; simp
  · rw [if_neg h]
    have:n / 2=0:=by omega
    rw [this]; simp
theorem log2_div (n:Nat):∀ v,(n / 2 ^ v).log2=n.log2 - v
  | 0=>by simp
  | v+1=>by rw [Nat.pow_succ,← Nat.div_div_eq_div_mul,log2_half,log2_div n v]; omega

theorem nearest_rq0 (s:Bool) (m u:Nat) (p:Int) (hp:p=u - 1074):double.nearest s m p=double.word s (min (rq 52 (m*2 ^ u) 1) double.infRung):=by
  by_cases hm:m=0
  · subst hm; rw [nearest_zero,Nat.zero_mul,rq_zero 52 (by decide),Nat.zero_min]
  · have hl:(m*2 ^ u / 1).log2=m.log2+u:=by rw [Nat.div_one,← Nat.shiftLeft_eq,log2_shl u hm]
    have e1:(max (p+m.log2 - (double.fractionBits:Int)) double.leastPlace - double.leastPlace).toNat=m.log2+u - 52:=by rw [leastP,fracB]; omega
    have e2:(p - max (p+m.log2 - (double.fractionBits:Int)) double.leastPlace).toNat=u - (m.log2+u - 52):=by rw [leastP,fracB]; omega
    have e3:(max (p+m.log2 - (double.fractionBits:Int)) double.leastPlace - p).toNat=(m.log2+u - 52) - u:=by rw [leastP,fracB]; omega
    unfold Format.nearest rq
    rw [if_neg hm,hl]
    simp only [e1,e2,e3]
    generalize m.log2+u - 52=l
    rw [cut_rnd,Nat.shiftLeft_eq,Nat.one_mul]
    have:rnd (m*2 ^ (u - l)) (2 ^ (l - u))=rnd (m*2 ^ u) (2 ^ l):=by
      rw [← rnd_mul _ _ (Nat.two_pow_pos (min u l)),Nat.mul_assoc,← Nat.pow_add,← Nat.pow_add]
      congr 3<;>omega
    rw [this]
    rfl

theorem nearest_rq1 (s:Bool) (m v:Nat) (p:Int) (hp:p=-1074 - v):double.nearest s m p=double.word s (min (rq 52 m (2 ^ v)) double.infRung):=by
  by_cases hm:m=0
  · subst hm; rw [nearest_zero,rq_zero 52 (Nat.two_pow_pos _),Nat.zero_min]
  · have e1:(max (p+m.log2 - (double.fractionBits:Int)) double.leastPlace - double.leastPlace).toNat=m.log2 - v - 52:=by rw [leastP,fracB]; omega
    have e2:(p - max (p+m.log2 - (double.fractionBits:Int)) double.leastPlace).toNat=0:=by rw [leastP,fracB]; omega
    have e3:(max (p+m.log2 - (double.fractionBits:Int)) double.leastPlace - p).toNat=v+(m.log2 - v - 52):=by rw [leastP,fracB]; omega
    unfold Format.nearest rq
    rw [if_neg hm,log2_div]
    simp only [e1,e2,e3]
    rw [cut_rnd,Nat.shiftLeft_eq,Nat.pow_zero,Nat.mul_one,Nat.pow_add]
    rfl

/-- What is written of 'm * 2 ^ p', with 'p + 1074 = u - v'. -/
theorem nearest_rq (s:Bool) (m u v:Nat) (p:Int) (hp:p+1074=u - v):double.nearest s m p=double.word s (min (rq 52 (m*2 ^ u) (2 ^ v)) double.infRung):=by
  by_cases h:v≤u
  · rw [nearest_rq0 s m (u - v) p (by omega)]
    have:=rq_mul 52 (m*2 ^ (u - v)) 1 (Nat.two_pow_pos v)
    rw [Nat.mul_assoc,← Nat.pow_add,Nat.one_mul,Nat.sub_add_cancel h] at this
    rw [this]
  · rw [nearest_rq1 s m (v - u) p (by omega)]
    have:=rq_mul 52 m (2 ^ (v - u)) (Nat.two_pow_pos u)
    rw [← Nat.pow_add,Nat.sub_add_cancel (by omega)] at this
    rw [this]

theorem log2_of_iff {x y:Nat} (h:∀ k,2 ^ k≤x ↔ 2 ^ k≤y):x.log2=y.log2:=by
  by_cases hx:x=0
  · have:y=0:=by
      by_cases hy:y=0
      · exact hy
      · have:=(h 0).2 (by rw [Nat.pow_zero]; omega)
        rw [Nat.pow_zero] at this; omega
    rw [hx,this]
  · have hy:y≠0:=by
      have:=(h 0).1 (by rw [Nat.pow_zero]; omega)
      rw [Nat.pow_zero] at this; omega
    exact Nat.le_antisymm ((Nat.le_log2 hy).2 ((h _).1 (Nat.log2_self_le hx))) ((Nat.le_log2 hx).2 ((h _).2 (Nat.log2_self_le hy)))

theorem rq_sticky (b d n u v:Nat) (hn:0 < n) (hq:2 ^ (b+1)≤d / n):rq b ((2*(d / n)+(d % n != 0).toNat)*2 ^ u) (2 ^ v)=rq b (2*d*2 ^ u) (n*2 ^ v):=by
  have hp:0 < 2 ^ (b+1):=Nat.two_pow_pos _
  have hst:=toNat_le_one (d % n != 0)
  have hlog:((2*(d / n)+(d % n != 0).toNat)*2 ^ u / 2 ^ v).log2=(2*d*2 ^ u / (n*2 ^ v)).log2:=by
    refine log2_of_iff fun k=>?_
    rw [Nat.le_div_iff_mul_le (Nat.two_pow_pos _),Nat.le_div_iff_mul_le (Nat.mul_pos hn (Nat.two_pow_pos _)),← Nat.pow_add,Nat.mul_left_comm,← Nat.pow_add]
    have hnd:n≤d:=by
      have:=(Nat.le_div_iff_mul_le hn (x:=1) (y:=d)).1 (by omega)
      omega
    by_cases hk:k+v≤u
    · have hle:2 ^ (k+v)≤2 ^ u:=Nat.pow_le_pow_right (by decide) hk
      constructor
      · intro _; exact Nat.le_trans (Nat.mul_le_mul hnd hle) (Nat.mul_le_mul_right _ (by omega))
      · intro _
        exact Nat.le_trans hle (Nat.le_mul_of_pos_left _ (by omega))
    · obtain ⟨w,hw⟩:∃ w,k+v=w+1+u:=⟨k+v - u - 1,by omega⟩
      rw [hw,Nat.pow_add,← Nat.mul_assoc,Nat.mul_le_mul_right_iff (Nat.two_pow_pos u),Nat.mul_le_mul_right_iff (Nat.two_pow_pos u),Nat.pow_succ]
      have hiff:=Nat.le_div_iff_mul_le hn (x:=2 ^ w) (y:=d)
      have e:n*(2 ^ w*2)=2*(2 ^ w*n):=by rw [Nat.mul_comm,Nat.mul_assoc,Nat.mul_left_comm]
      rw [e]
      omega
  have hl:u+2≤v+(((2*(d / n)+(d % n != 0).toNat)*2 ^ u / 2 ^ v).log2 - b):=by
    by_cases h:v≤b+2+u
    · have h1:2 ^ (b+2+u - v)≤(2*(d / n)+(d % n != 0).toNat)*2 ^ u / 2 ^ v:=by
        rw [Nat.le_div_iff_mul_le (Nat.two_pow_pos _),← Nat.pow_add,Nat.sub_add_cancel h,Nat.pow_add]
        refine Nat.mul_le_mul_right _ ?_
        rw [Nat.pow_succ]; omega
      have h0:(2*(d / n)+(d % n != 0).toNat)*2 ^ u / 2 ^ v≠0:=by
        have:=Nat.two_pow_pos (b+2+u - v)
        intro h0; rw [h0] at h1; omega
      have:=(Nat.le_log2 h0).2 h1
      omega
    · omega
  unfold rq
  rw [hlog] at hl ⊢
  generalize (2*d*2 ^ u / (n*2 ^ v)).log2 - b=l at hl
  obtain ⟨k,hk⟩:∃ k,v+l=k+2+u:=⟨v+l - u - 2,by omega⟩
  congr 1
  rw [← Nat.pow_add,Nat.mul_assoc n,← Nat.pow_add,hk,Nat.pow_add,rnd_mul _ _ (Nat.two_pow_pos u),rnd_sticky d n k hn,← Nat.mul_assoc,rnd_mul _ _ (Nat.two_pow_pos u)]
  have:=rnd_mul d (n*2 ^ (k+1)) (c:=2) (by decide)
  rw [← this,Nat.mul_comm d 2,Nat.mul_assoc n,← Nat.pow_succ]
end Go.Ev

namespace Go.Ev
open Ieee

theorem signed_mul (s:Bool) (m k:Nat):signed s m k=signed s 1 0*((m:Int)*2 ^ k):=by
  cases s<;>simp [signed,Nat.shiftLeft_eq]

theorem signed_split (s:Bool) (m a b:Nat):signed s m (a+b)=signed s m a*2 ^ b:=by
  rw [signed_mul,signed_mul s m a,Int.mul_assoc,Int.mul_assoc,Int.pow_add]

end Go.Ev

namespace Go.Ev
open Ieee

/-- The magnitude of a rung, in the least units: 'b' bits of fraction. -/
def rv (b r:Nat):Nat:=if r < 2 ^ b then r else (2 ^ b+r % 2 ^ b)*2 ^ (r / 2 ^ b - 1)

theorem rv_step (b r:Nat):rv b r < rv b (r+1):=by
  have hN:0 < 2 ^ b:=Nat.two_pow_pos b
  unfold rv
  generalize 2 ^ b=N at hN
  by_cases h1:r+1 < N
  · rw [if_pos (by omega),if_pos h1]; omega
  · rw [if_neg h1]
    by_cases h2:r < N
    · rw [if_pos h2]
      have e:r+1=N:=by omega
      rw [e,Nat.mod_self,Nat.div_self hN,Nat.sub_self,Nat.pow_zero]; omega
    · rw [if_neg h2]
      have hd:=Nat.div_add_mod r N
      have hm:r % N < N:=Nat.mod_lt _ hN
      have hq:1≤r / N:=(Nat.le_div_iff_mul_le hN).2 (by omega)
      by_cases h3:r % N+1 < N
      · have e1:(r+1) / N=r / N:=by
          rw [Nat.div_eq_iff hN]
          have:r / N*N=N*(r / N):=Nat.mul_comm _ _
          omega
        have e2:(r+1) % N=r % N+1:=by
          have:=Nat.div_add_mod (r+1) N
          rw [e1] at this; omega
        rw [e1,e2]
        exact Nat.mul_lt_mul_of_pos_right (by omega) (Nat.two_pow_pos _)
      · have h4:r % N+1=N:=by omega
        have e0:r+1=N*(r / N+1):=by rw [Nat.mul_add]; omega
        have e1:(r+1) / N=r / N+1:=by rw [e0,Nat.mul_div_cancel_left _ hN]
        have e2:(r+1) % N=0:=by rw [e0,Nat.mul_mod_right]
        rw [e1,e2]
        obtain ⟨q,hq'⟩:∃ q,r / N=q+1:=⟨r / N - 1,by omega⟩
        rw [hq',Nat.add_sub_cancel,Nat.add_sub_cancel,Nat.pow_succ,Nat.add_zero,Nat.mul_comm (2 ^ q) 2,← Nat.mul_assoc]
        exact Nat.mul_lt_mul_of_pos_right (by omega) (Nat.two_pow_pos _)
theorem rv_lt (b:Nat) {r:Nat}:∀ {q:Nat},r < q→rv b r < rv b q
  | 0,h=>by omega
  | q+1,h=>by
    rcases Nat.eq_or_lt_of_le (Nat.lt_succ_iff.1 h) with e | e
    · rw [e]; exact rv_step b q
    · exact Nat.lt_trans (rv_lt b e) (rv_step b q)
theorem rv_lt_iff (b r q:Nat):rv b r < rv b q ↔ r < q:=by
  constructor
  · intro h
    rcases Nat.lt_trichotomy r q with e | e | e
    · exact e
    · rw [e] at h; omega
    · have:=rv_lt b e; omega
  · exact rv_lt b
theorem rv_zero (b:Nat):rv b 0=0:=by unfold rv; rw [if_pos (Nat.two_pow_pos b)]

theorem log2_mul_pow {m:Nat} (k:Nat) (hm:m≠0):(m*2 ^ k).log2=m.log2+k:=by rw [← Nat.shiftLeft_eq,log2_shl k hm]
theorem rnd_one (a:Nat):rnd a 1=a:=by
  unfold rnd
  rw [Nat.div_one,Nat.mod_one]; rfl
/-- Rounding what is a rung's gives that rung. -/
theorem rq_rv (b r:Nat):rq b (rv b r) 1=r:=by
  have hN:0 < 2 ^ b:=Nat.two_pow_pos b
  unfold rq rv
  rw [Nat.div_one]
  by_cases h:r < 2 ^ b
  · rw [if_pos h]
    have hl:r.log2 - b=0:=by
      by_cases h0:r=0
      · rw [h0]; simp
      · have:=(Nat.log2_lt h0).2 h; omega
    rw [hl,Nat.zero_mul,Nat.zero_add,Nat.pow_zero,rnd_one]
  · rw [if_neg h]
    have hm:r % 2 ^ b < 2 ^ b:=Nat.mod_lt _ hN
    have hd:=Nat.div_add_mod r (2 ^ b)
    have hq:1≤r / 2 ^ b:=(Nat.le_div_iff_mul_le hN).2 (by omega)
    have hl:((2 ^ b+r % 2 ^ b)*2 ^ (r / 2 ^ b - 1)).log2=b+(r / 2 ^ b - 1):=by
      rw [log2_mul_pow _ (by omega)]
      congr 1
      rw [Nat.log2_eq_iff (by omega),Nat.pow_succ]
      omega
    rw [hl,Nat.add_sub_cancel_left,rnd_mul _ 1 (Nat.two_pow_pos _),rnd_one]
    obtain ⟨q,hq'⟩:∃ q,r / 2 ^ b=q+1:=⟨r / 2 ^ b - 1,by omega⟩
    rw [hq',Nat.mul_add] at hd
    rw [hq',Nat.add_sub_cancel,Nat.mul_comm q]
    omega

def sgn (x:Nat):Bool:=x / 9223372036854775808 % 2==1
def rung (x:Nat):Nat:=x % 9223372036854775808
def key (x:Nat):Int:=cond (sgn x) (-(rung x:Int)) (rung x)
def isFin (x:Nat):Bool:=Nat.blt (rung x) 9218868437227405312
def val (x:Nat):Int:=cond (sgn x) (-(rv 52 (rung x):Int)) (rv 52 (rung x))

theorem isFin_lt {x:Nat} (h:isFin x=true):rung x < 9218868437227405312:=Nat.le_of_ble_eq_true h

theorem rv_low {r:Nat} (h:r < 4503599627370496):rv 52 r=r:=by unfold rv; rw [if_pos (show r < 2 ^ 52 from h)]
theorem rv_high {r:Nat} (h:¬ r < 4503599627370496):rv 52 r=(4503599627370496+r % 4503599627370496)*2 ^ (r / 4503599627370496 - 1):=by
  unfold rv; rw [if_neg (show ¬ r < 2 ^ 52 from h)]

theorem signed_val (s:Bool) (m k:Nat):signed s m k=cond s (-((m*2 ^ k:Nat):Int)) ((m*2 ^ k:Nat):Int):=by
  unfold signed; rw [Nat.shiftLeft_eq]; cases s<;>rfl

/-- What a word that is a number stands for. -/
theorem read_fin {x:Nat} (h:isFin x=true):∃ m i,double.read x=.number (sgn x) m i∧-1074≤i∧m < 9007199254740992∧rv 52 (rung x)=m*2 ^ (i+1074).toNat:=by
  have hl:=isFin_lt h
  unfold rung at hl ⊢
  unfold Format.read sgn
  simp only [signW,infR,binadeV,leastP]
  by_cases h1:x % 9223372036854775808 < 4503599627370496
  · rw [if_pos h1]
    refine ⟨_,_,rfl,by omega,by omega,?_⟩
    rw [rv_low h1,show (-1074+1074:Int).toNat=0 from rfl,Nat.pow_zero,Nat.mul_one]
  · rw [if_neg h1,if_pos hl]
    have:=Nat.mod_lt (x % 9223372036854775808) (show 0 < 4503599627370496 by decide)
    refine ⟨_,_,rfl,by omega,by omega,?_⟩
    rw [rv_high h1]
    congr 2
    omega
theorem read_inf {x:Nat} (h:rung x=9218868437227405312):double.read x=.infinity (sgn x):=by
  unfold rung at h
  unfold Format.read sgn
  simp only [signW,infR,binadeV,leastP,h]
  rfl
theorem fin_or_inf {x:Nat} (h:isNan x=false):isFin x=true∨rung x=9218868437227405312:=by
  cases hf:isFin x
  · right
    have h1:¬ rung x < 9218868437227405312:=fun hl=>by
      have:isFin x=true:=Nat.ble_eq_true_of_le hl
      rw [hf] at this; cases this
    unfold rung at h1 ⊢
    unfold isNan Format.read at h
    simp only [signW,infR,binadeV,leastP] at h
    rw [if_neg (by omega),if_neg h1] at h
    by_cases he:x % 9223372036854775808=9218868437227405312
    · exact he
    · rw [if_neg he] at h; simp [Datum.isNaN] at h
  · exact Or.inl rfl
theorem fin_not_nan {x:Nat} (h:isFin x=true):isNan x=false:=by
  obtain ⟨m,i,hr,_⟩:=read_fin h
  unfold isNan; rw [hr]; rfl

theorem cmp_congr {a b c d:Int} (h1:a < b ↔ c < d) (h2:a=b ↔ c=d):compare a b=compare c d:=by
  show compareOfLessAndEq a b=compareOfLessAndEq c d
  unfold compareOfLessAndEq
  simp only [h1,h2]
theorem order_val {x y:Nat} (hx:isFin x=true) (hy:isFin y=true):double.order x y=some (compare (val x) (val y)):=by
  obtain ⟨m,i,hrx,hi,_,hvx⟩:=read_fin hx
  obtain ⟨n,j,hry,hj,_,hvy⟩:=read_fin hy
  unfold Format.order
  rw [hrx,hry]
  simp only [Datum.order,Option.some.injEq]
  have e1:val x=signed (sgn x) m (i - min i j).toNat*2 ^ (min i j+1074).toNat:=by
    rw [← signed_split,show (i - min i j).toNat+(min i j+1074).toNat=(i+1074).toNat by omega,signed_val,← hvx]; rfl
  have e2:val y=signed (sgn y) n (j - min i j).toNat*2 ^ (min i j+1074).toNat:=by
    rw [← signed_split,show (j - min i j).toNat+(min i j+1074).toNat=(j+1074).toNat by omega,signed_val,← hvy]; rfl
  have hp:(0:Int) < 2 ^ (min i j+1074).toNat:=Int.pow_pos (by decide)
  rw [e1,e2]
  generalize (2:Int) ^ (min i j+1074).toNat=c at hp
  refine cmp_congr ?_ ?_
  · exact (Int.mul_lt_mul_right hp).symm
  · exact (Int.mul_eq_mul_right_iff (by omega)).symm
theorem val_lt {x y:Nat}:val x < val y ↔ key x < key y:=by
  unfold val key
  have a1:=rv_lt_iff 52 (rung x) (rung y)
  have a2:=rv_lt_iff 52 (rung y) (rung x)
  have a3:=rv_lt_iff 52 0 (rung x)
  have a4:=rv_lt_iff 52 0 (rung y)
  rw [rv_zero] at a3 a4
  cases sgn x<;>cases sgn y<;>simp only [cond_true,cond_false]<;>omega
theorem val_le {x y:Nat}:val x≤val y ↔ key x≤key y:=by
  have:=val_lt (x:=y) (y:=x); omega
theorem order_key {x y:Nat} (hx:isNan x=false) (hy:isNan y=false):double.order x y=some (compare (key x) (key y)):=by
  rcases fin_or_inf hx with fx | ix
  · rcases fin_or_inf hy with fy | iy
    · rw [order_val fx fy]
      have:=val_lt (x:=x) (y:=y)
      have:=val_lt (x:=y) (y:=x)
      exact congrArg some (cmp_congr (by omega) (by omega))
    · obtain ⟨m,i,hr,_⟩:=read_fin fx
      have hl:=isFin_lt fx
      unfold Format.order
      rw [hr,read_inf iy]
      simp only [Datum.order,Option.some.injEq]
      unfold key
      rw [iy]
      cases sgn y
      · exact (show compare _ _=compare (0:Int) 1 from cmp_congr (by cases sgn x<;>simp only [cond_true,cond_false]<;>omega) (by cases sgn x<;>simp only [cond_true,cond_false]<;>omega)).symm
      · exact (show compare _ _=compare (1:Int) 0 from cmp_congr (by cases sgn x<;>simp only [cond_true,cond_false]<;>omega) (by cases sgn x<;>simp only [cond_true,cond_false]<;>omega)).symm
  · rcases fin_or_inf hy with fy | iy
    · obtain ⟨m,i,hr,_⟩:=read_fin fy
      have hl:=isFin_lt fy
      unfold Format.order
      rw [hr,read_inf ix]
      simp only [Datum.order,Option.some.injEq]
      unfold key
      rw [ix]
      cases sgn x
      · exact (show compare _ _=compare (1:Int) 0 from cmp_congr (by cases sgn y<;>simp only [cond_true,cond_false]<;>omega) (by cases sgn y<;>simp only [cond_true,cond_false]<;>omega)).symm
      · exact (show compare _ _=compare (0:Int) 1 from cmp_congr (by cases sgn y<;>simp only [cond_true,cond_false]<;>omega) (by cases sgn y<;>simp only [cond_true,cond_false]<;>omega)).symm
    · unfold Format.order key
      rw [read_inf ix,read_inf iy,ix,iy]
      cases sgn x<;>cases sgn y<;>decide
end Go.Ev

namespace Go.Ev
open Ieee

theorem cmp_lt (a b:Int):(compare a b==Ordering.lt)=decide (a < b):=by
  show (compareOfLessAndEq a b==Ordering.lt)=_
  unfold compareOfLessAndEq
  by_cases h:a < b
  · simp [h]
  · by_cases h2:a=b
    · simp [h2]
    · simp [h,h2]
theorem cmp_eq (a b:Int):(compare a b==Ordering.eq)=decide (a=b):=by
  show (compareOfLessAndEq a b==Ordering.eq)=_
  unfold compareOfLessAndEq
  by_cases h:a < b
  · have:a≠b:=by omega
    simp [h,this]
  · by_cases h2:a=b
    · simp [h2]
    · simp [h,h2]
theorem cmp_gt (a b:Int):(compare a b==Ordering.gt)=decide (b < a):=by
  show (compareOfLessAndEq a b==Ordering.gt)=_
  unfold compareOfLessAndEq
  by_cases h:a < b
  · have:¬ b < a:=by omega
    simp [h,this]
  · by_cases h2:a=b
    · simp [h2]
    · have:b < a:=by omega
      simp [h,h2,this]
theorem some_beq (a b:Ordering):(some a==some b)=(a==b):=rfl

theorem flt_key {x y:Nat} (hx:isNan x=false) (hy:isNan y=false):flt x y=decide (key x < key y):=by
  unfold flt; rw [order_key hx hy,some_beq,cmp_lt]
theorem feq_key {x y:Nat} (hx:isNan x=false) (hy:isNan y=false):feq x y=decide (key x=key y):=by
  unfold feq; rw [order_key hx hy,some_beq,cmp_eq]
theorem fle_key {x y:Nat} (hx:isNan x=false) (hy:isNan y=false):fle x y=decide (key x≤key y):=by
  unfold fle; rw [order_key hx hy,some_beq,some_beq,cmp_lt,cmp_eq,Bool.eq_iff_iff]; simp; omega
theorem fge_key {x y:Nat} (hx:isNan x=false) (hy:isNan y=false):fge x y=decide (key y≤key x):=by
  unfold fge; rw [order_key hx hy,some_beq,some_beq,cmp_gt,cmp_eq,Bool.eq_iff_iff]; simp; omega
theorem not_nan_of {x y:Nat} {o:Ordering} (h:double.order x y=some o):isNan x=false∧isNan y=false:=by
  constructor
  · cases hx:isNan x
    · rfl
    · have:double.order x y=none:=order_nan_left hx
      rw [this] at h; cases h
  · cases hy:isNan y
    · rfl
    · have:double.order x y=none:=order_nan_right hy
      rw [this] at h; cases h
theorem fle_true {x y:Nat} (h:fle x y=true):isNan x=false∧isNan y=false∧key x≤key y:=by
  have h':=h
  unfold fle at h
  cases ho:double.order x y with
  | none=>rw [ho] at h; cases h
  | some o =>
    obtain ⟨a,b⟩:=not_nan_of ho
    rw [fle_key a b] at h'
    exact ⟨a,b,of_decide_eq_true h'⟩
theorem fge_true {x y:Nat} (h:fge x y=true):isNan x=false∧isNan y=false∧key y≤key x:=by
  have h':=h
  unfold fge at h
  cases ho:double.order x y with
  | none=>rw [ho] at h; cases h
  | some o =>
    obtain ⟨a,b⟩:=not_nan_of ho
    rw [fge_key a b] at h'
    exact ⟨a,b,of_decide_eq_true h'⟩
theorem feq_true {x y:Nat} (h:feq x y=true):isNan x=false∧isNan y=false∧key x=key y:=by
  have h':=h
  unfold feq at h
  cases ho:double.order x y with
  | none=>rw [ho] at h; cases h
  | some o =>
    obtain ⟨a,b⟩:=not_nan_of ho
    rw [feq_key a b] at h'
    exact ⟨a,b,of_decide_eq_true h'⟩

def KR (v:Int) (g:Nat):Int:=cond (decide (v < 0)) (-((min (rq 52 v.natAbs g) 9218868437227405312:Nat):Int)) ((min (rq 52 v.natAbs g) 9218868437227405312:Nat):Int)

theorem KR_mono {v w:Int} (g:Nat) (h:v≤w):KR v g≤KR w g:=by
  unfold KR
  by_cases h1:v < 0
  · rw [decide_eq_true h1,cond_true]
    by_cases h2:w < 0
    · rw [decide_eq_true h2,cond_true]
      have:=rq_mono1 52 (g:=g) (show w.natAbs≤v.natAbs by omega)
      omega
    · rw [decide_eq_false h2,cond_false]; omega
  · rw [decide_eq_false h1,decide_eq_false (show ¬ w < 0 by omega),cond_false,cond_false]
    have:=rq_mono1 52 (g:=g) (show v.natAbs≤w.natAbs by omega)
    omega
theorem KR_neg (v:Int) {g:Nat} (hg:0 < g):KR (-v) g=- KR v g:=by
  unfold KR
  rw [Int.natAbs_neg]
  rcases Int.lt_trichotomy v 0 with h | h | h
  · rw [decide_eq_true h,decide_eq_false (show ¬ -v < 0 by omega),cond_true,cond_false,Int.neg_neg]
  · subst h
    rw [Int.neg_zero,Int.natAbs_zero,rq_zero 52 hg]; decide
  · rw [decide_eq_false (show ¬ v < 0 by omega),decide_eq_true (show -v < 0 by omega),cond_true,cond_false]
theorem KR_zero {g:Nat} (hg:0 < g):KR 0 g=0:=by
  unfold KR
  rw [Int.natAbs_zero,rq_zero 52 hg]; decide
theorem KR_sign {v:Int} {g:Nat}:(0≤v→0≤KR v g)∧(v≤0→0 < g→KR v g≤0):=by
  unfold KR
  constructor
  · intro h; rw [decide_eq_false (show ¬ v < 0 by omega),cond_false]; omega
  · intro h hg
    by_cases h0:v=0
    · subst h0; rw [Int.natAbs_zero,rq_zero 52 hg]; decide
    · rw [decide_eq_true (show v < 0 by omega),cond_true]; omega

theorem key_word (s:Bool) {r:Nat} (h:r≤9218868437227405312):key (double.word s r)=cond s (-(r:Int)) r:=by
  unfold key rung sgn Format.word
  rw [signW]
  cases s
  · have h1:r / 9223372036854775808=0:=Nat.div_eq_of_lt (by omega)
    have h2:r % 9223372036854775808=r:=Nat.mod_eq_of_lt (by omega)
    simp [h1,h2]
  · have h1:(9223372036854775808+r) / 9223372036854775808=1:=by omega
    have h2:(9223372036854775808+r) % 9223372036854775808=r:=by omega
    simp [h1,h2]

/-- What is written of an exact value 'v / g' units, where the sign is the value's (of nought either). -/
theorem key_nearest {s:Bool} {m u w:Nat} {p:Int} {v:Int} {g:Nat} (hg:0 < g) (hp:p+1074=u - w) (ha:rq 52 (m*2 ^ u) (2 ^ w)=rq 52 v.natAbs g) (hs:v≠0→s=decide (v < 0)):key (double.nearest s m p)=KR v g:=by
  rw [nearest_rq s m u w p hp,ha,infR,key_word _ (Nat.min_le_right _ _)]
  unfold KR
  by_cases h0:v=0
  · subst h0
    rw [Int.natAbs_zero,rq_zero 52 hg]
    cases s<;>decide
  · rw [hs h0]

theorem val_signed {x m:Nat} {i base:Int} (hv:rv 52 (rung x)=m*2 ^ (i+1074).toNat) (h1:base≤i) (h2:-1074≤base):val x=signed (sgn x) m (i - base).toNat*2 ^ (base+1074).toNat:=by
  rw [← signed_split,show (i - base).toNat+(base+1074).toNat=(i+1074).toNat by omega,signed_val,← hv]; rfl

theorem key_sum {x:Nat} {s t:Bool} {m n:Nat} {i j:Int} {r:Bool} {a b:Int} (hi:-1074≤i) (hj:-1074≤j)
    (ea:a=signed s m (i - min i j).toNat*2 ^ (min i j+1074).toNat) (eb:b=signed t n (j - min i j).toNat*2 ^ (min i j+1074).toNat)
    (hr:x=double.write (.number r (signed s m (i - min i j).toNat+signed t n (j - min i j).toNat).natAbs (min i j)))
    (hs:signed s m (i - min i j).toNat+signed t n (j - min i j).toNat≠0→r=decide (signed s m (i - min i j).toNat+signed t n (j - min i j).toNat < 0)):key x=KR (a+b) 1:=by
  generalize signed s m (i - min i j).toNat=A at *
  generalize signed t n (j - min i j).toNat=B at *
  have e:a+b=(A+B)*2 ^ (min i j+1074).toNat:=by rw [ea,eb,Int.add_mul]
  have hc:(0:Int) < 2 ^ (min i j+1074).toNat:=Int.pow_pos (by decide)
  rw [hr,e]
  refine key_nearest (u:=(min i j+1074).toNat) (w:=0) (by decide) (by omega) ?_ ?_
  · rw [Int.natAbs_mul,Int.natAbs_pow]; rfl
  · intro h0
    have hAB:A+B≠0:=fun h=>h0 (by rw [h,Int.zero_mul])
    rw [hs hAB]
    refine decide_eq_decide.2 ?_
    constructor
    · intro h; exact Int.mul_neg_of_neg_of_pos h hc
    · intro h
      rcases Int.lt_trichotomy (A+B) 0 with h1 | h1 | h1
      · exact h1
      · exact absurd h1 hAB
      · have:=Int.mul_pos h1 hc; omega

theorem key_add {x y:Nat} (hx:isFin x=true) (hy:isFin y=true):key (fadd x y)=KR (val x+val y) 1∧isNan (fadd x y)=false:=by
  obtain ⟨m,i,hrx,hi,_,hvx⟩:=read_fin hx
  obtain ⟨n,j,hry,hj,_,hvy⟩:=read_fin hy
  constructor
  · unfold fadd Format.add
    rw [hrx,hry]
    simp only [Datum.sum,Option.map_some,Option.getD_some]
    refine key_sum hi hj (val_signed hvx (by omega) (by omega)) (val_signed hvy (by omega) (by omega)) rfl ?_
    intro h; rw [if_neg h]
  · have:∃ r,double.add x y=some r:=by unfold Format.add; rw [hrx,hry]; exact ⟨_,rfl⟩
    obtain ⟨r,hr⟩:=this
    unfold fadd; rw [hr]; exact isNan_add hr
theorem val_abs (x:Nat):(val x).natAbs=rv 52 (rung x):=by unfold val; cases sgn x<;>simp only [cond_true,cond_false]<;>omega
theorem val_neg {x:Nat} (h:val x≠0):sgn x=decide (val x < 0):=by
  unfold val at h ⊢
  cases hs:sgn x
  · rw [cond_false,decide_eq_false (by omega)]
  · rw [hs,cond_true] at h; rw [cond_true,decide_eq_true (by omega)]
theorem mul_sign {a b:Int} (h:a*b≠0):(decide (a < 0) ^^ decide (b < 0))=decide (a*b < 0):=by
  have ha:a≠0:=fun e=>h (by rw [e,Int.zero_mul])
  have hb:b≠0:=fun e=>h (by rw [e,Int.mul_zero])
  rcases Int.lt_or_gt_of_ne ha with h1 | h1<;>rcases Int.lt_or_gt_of_ne hb with h2 | h2
  · have:=Int.mul_pos_of_neg_of_neg h1 h2
    rw [decide_eq_true h1,decide_eq_true h2,decide_eq_false (by omega)]; rfl
  · have:=Int.mul_neg_of_neg_of_pos h1 h2
    rw [decide_eq_true h1,decide_eq_false (by omega),decide_eq_true this]; rfl
  · have:=Int.mul_neg_of_pos_of_neg h1 h2
    rw [decide_eq_false (by omega),decide_eq_true h2,decide_eq_true this]; rfl
  · have:=Int.mul_pos h1 h2
    rw [decide_eq_false (by omega),decide_eq_false (by omega),decide_eq_false (by omega)]; rfl

theorem key_mul {x y c:Nat} (hc:c=1074) (hx:isFin x=true) (hy:isFin y=true):key (fmul x y)=KR (val x*val y) (2 ^ c)∧isNan (fmul x y)=false:=by
  obtain ⟨m,i,hrx,hi,_,hvx⟩:=read_fin hx
  obtain ⟨n,j,hry,hj,_,hvy⟩:=read_fin hy
  constructor
  · unfold fmul Format.mul
    rw [hrx,hry]
    simp only [Datum.product,Option.map_some,Option.getD_some,Format.write]
    refine key_nearest (u:=(i+1074).toNat+(j+1074).toNat) (w:=c) (Nat.two_pow_pos _) (by omega) ?_ ?_
    · rw [Int.natAbs_mul,val_abs,val_abs,hvx,hvy,Nat.pow_add]
      congr 1
      rw [Nat.mul_assoc,Nat.mul_assoc,Nat.mul_left_comm n]
    · intro h
      have ha:val x≠0:=fun e=>h (by rw [e,Int.zero_mul])
      have hb:val y≠0:=fun e=>h (by rw [e,Int.mul_zero])
      rw [val_neg ha,val_neg hb,mul_sign h]
  · have:∃ r,double.mul x y=some r:=by unfold Format.mul; rw [hrx,hry]; exact ⟨_,rfl⟩
    obtain ⟨r,hr⟩:=this
    unfold fmul; rw [hr]; exact isNan_mul hr

/-- A number's sign, as a factor. -/
def sg (v:Int):Int:=cond (decide (v < 0)) (-1) 1

theorem key_div {x y c:Nat} (hc:c=1074) (hx:isFin x=true) (hy:isFin y=true) (h0:val y≠0):key (fdiv x y)=KR (val x*sg (val y)*((2 ^ c:Nat):Int)) (val y).natAbs∧isNan (fdiv x y)=false:=by
  obtain ⟨m,i,hrx,hi,hm,hvx⟩:=read_fin hx
  obtain ⟨n,j,hry,hj,hn,hvy⟩:=read_fin hy
  have hn0:n≠0:=fun e=>h0 (by
    have:(val y).natAbs=0:=by rw [val_abs,hvy,e,Nat.zero_mul]
    omega)
  have hr:double.div x y=some (double.write (.number (sgn x ^^ sgn y) (2*(m <<< (54+n.log2 - m.log2) / n)+(m <<< (54+n.log2 - m.log2) % n != 0).toNat) (i - j - (54+n.log2 - m.log2:Nat) - 1))):=by
    unfold Format.div
    rw [hrx,hry]
    simp only [Datum.quotient]
    rw [if_neg hn0]
    rfl
  refine ⟨?_,by unfold fdiv; rw [hr]; exact isNan_div hr⟩
  unfold fdiv
  rw [hr,Option.getD_some]
  have hsg:(sg (val y)).natAbs=1:=by unfold sg; cases decide (val y < 0)<;>rfl
  have hP:0 < (2 ^ c:Nat):=Nat.two_pow_pos _
  refine key_nearest (u:=(i+1074).toNat+c) (w:=(j+1074).toNat+(54+n.log2 - m.log2)+1) (by omega) (by omega) ?_ ?_
  · rw [Int.natAbs_mul,Int.natAbs_mul,hsg,Nat.mul_one,Int.natAbs_natCast,val_abs,val_abs,hvx,hvy]
    by_cases hm0:m=0
    · rw [hm0,Nat.zero_shiftLeft,Nat.zero_div,Nat.zero_mod,Nat.zero_mul,Nat.zero_mul]
      show rq 52 (0*_) _=_
      rw [Nat.zero_mul,rq_zero 52 (Nat.two_pow_pos _),rq_zero 52 (Nat.mul_pos (by omega) (Nat.two_pow_pos _))]
    · have hl:=log2_lt53 hm
      have hq:2 ^ (52+1)≤m <<< (54+n.log2 - m.log2) / n:=by
        rw [Nat.le_div_iff_mul_le (by omega)]
        have h1:2 ^ (54+n.log2)≤m <<< (54+n.log2 - m.log2):=by
          rw [Nat.shiftLeft_eq]
          have:=Nat.mul_le_mul_right (2 ^ (54+n.log2 - m.log2)) (Nat.log2_self_le hm0)
          rw [← Nat.pow_add,show m.log2+(54+n.log2 - m.log2)=54+n.log2 by omega] at this
          exact this
        refine Nat.le_trans ?_ h1
        rw [show 54+n.log2=(52+1)+(n.log2+1) by omega,Nat.pow_add 2 (52+1)]
        exact Nat.mul_le_mul_left _ (Nat.le_of_lt Nat.lt_log2_self)
      rw [rq_sticky 52 _ n _ _ (by omega) hq,Nat.shiftLeft_eq]
      generalize 54+n.log2 - m.log2=k
      have:=rq_mul 52 (m*2 ^ (i+1074).toNat*2 ^ c) (n*2 ^ (j+1074).toNat) (Nat.two_pow_pos (k+1))
      rw [← this]
      congr 1
      · rw [Nat.pow_add,Nat.pow_succ]
        generalize 2 ^ (i+1074).toNat=a
        generalize 2 ^ c=b
        generalize 2 ^ k=d
        simp only [Nat.mul_assoc,Nat.mul_comm,Nat.mul_left_comm]
      · rw [Nat.mul_assoc,← Nat.pow_add,Nat.add_assoc]
  · intro h
    have hP':(0:Int) < ((2 ^ c:Nat):Int):=Int.ofNat_lt.2 hP
    generalize ((2 ^ c:Nat):Int)=P at h hP'
    have h1:val x*sg (val y)≠0:=fun e=>h (by rw [e,Int.zero_mul])
    have ha:val x≠0:=fun e=>h1 (by rw [e,Int.zero_mul])
    have h2:=mul_sign h
    rw [← h2,decide_eq_false (show ¬ P < 0 by omega),Bool.xor_false,← mul_sign h1,val_neg ha,val_neg h0]
    congr 1
    unfold sg
    cases decide (val y < 0)<;>decide
end Go.Ev

namespace Go.Ev
open Ieee

theorem fadd_mono {a b o:Nat} (ha:isFin a=true) (hb:isFin b=true) (ho:isFin o=true) (h:key a≤key b):key (fadd a o)≤key (fadd b o):=by
  rw [(key_add ha ho).1,(key_add hb ho).1]
  have:=val_le.2 h
  exact KR_mono 1 (by omega)
theorem val_pos {x:Nat}:0 < val x ↔ 0 < key x:=by
  have h:=val_lt (x:=0) (y:=x)
  have h1:val 0=0:=by decide +kernel
  have h2:key 0=0:=by decide +kernel
  rw [h1,h2] at h; exact h
theorem val_negative {x:Nat}:val x < 0 ↔ key x < 0:=by
  have h:=val_lt (x:=x) (y:=0)
  have h1:val 0=0:=by decide +kernel
  have h2:key 0=0:=by decide +kernel
  rw [h1,h2] at h; exact h
theorem fdiv_mono {a b d:Nat} (ha:isFin a=true) (hb:isFin b=true) (hd:isFin d=true) (h0:0 < key d) (h:key a≤key b):key (fdiv a d)≤key (fdiv b d):=by
  have hv:=val_pos.2 h0
  obtain ⟨c,hc⟩:∃ c,c=1074:=⟨_,rfl⟩
  rw [(key_div hc ha hd (by omega)).1,(key_div hc hb hd (by omega)).1]
  have hsg:sg (val d)=1:=by unfold sg; rw [decide_eq_false (by omega)]; rfl
  rw [hsg,Int.mul_one,Int.mul_one]
  exact KR_mono _ (Int.mul_le_mul_of_nonneg_right (val_le.2 h) (Int.natCast_nonneg _))
/-- A float between two numbers is a number. -/
theorem fin_between {x lo hi:Nat} (h0:isNan x=false) (h1:key lo≤key x) (h2:key x≤key hi) (hl:-9218868437227405312 < key lo) (hh:key hi < 9218868437227405312):isFin x=true:=by
  rcases fin_or_inf h0 with h | h
  · exact h
  · exfalso
    have e:key x=9218868437227405312∨key x=-9218868437227405312:=by
      unfold key; rw [h]; cases sgn x
      · exact Or.inl rfl
      · exact Or.inr rfl
    omega
end Go.Ev

namespace Go.Ev
open Ieee

/-- The word of a power of two, in units of the least float. -/
def pw (n:Nat):Nat:=(n - 51)*4503599627370496
theorem rv_pw {n:Nat} (h:52≤n):rv 52 (pw n)=2 ^ n:=by
  obtain ⟨k,rfl⟩:∃ k,n=52+k:=⟨n - 52,by omega⟩
  have e:pw (52+k)=(k+1)*4503599627370496:=by unfold pw; congr 1; omega
  rw [e,rv_high (by omega),Nat.mul_mod_left,Nat.mul_div_cancel _ (by decide),Nat.add_zero,Nat.add_sub_cancel,Nat.pow_add]
/-- At most that. -/
def Bd (n x:Nat):Prop:=rung x≤pw n
theorem Bd.fin {n x:Nat} (h:Bd n x) (hn:n≤2097):isFin x=true:=by
  unfold Bd pw at h
  unfold isFin
  exact Nat.ble_eq_true_of_le (by show rung x+1≤_; omega)
theorem Bd.val {n x:Nat} (h:Bd n x) (hn:52≤n):(val x).natAbs≤2 ^ n:=by
  rw [val_abs,← rv_pw hn]
  rcases Nat.lt_or_ge (rung x) (pw n) with e | e
  · exact Nat.le_of_lt (rv_lt 52 e)
  · rw [show rung x=pw n from Nat.le_antisymm h e]; exact Nat.le_refl _
theorem key_abs (x:Nat):(key x).natAbs=rung x:=by unfold key; cases sgn x<;>simp only [cond_true,cond_false]<;>omega
theorem KR_abs (v:Int) (g:Nat):(KR v g).natAbs≤rq 52 v.natAbs g:=by
  unfold KR
  cases decide (v < 0)
  · rw [cond_false,Int.natAbs_natCast]; exact Nat.min_le_left _ _
  · rw [cond_true,Int.natAbs_neg,Int.natAbs_natCast]; exact Nat.min_le_left _ _
theorem bd_of {x g n:Nat} {v:Int} (hk:key x=KR v g) (hg:0 < g) (hv:v.natAbs≤2 ^ n*g) (hn:52≤n):Bd n x:=by
  unfold Bd
  rw [← key_abs,hk]
  refine Nat.le_trans (KR_abs v g) (Nat.le_trans (rq_mono1 52 hv) ?_)
  have:=rq_mul 52 (2 ^ n) 1 hg
  rw [Nat.one_mul] at this
  rw [this,← rv_pw hn,rq_rv]
  exact Nat.le_refl _
theorem Bd.mono {n m x:Nat} (h:Bd n x) (hm:n≤m):Bd m x :=
  Nat.le_trans h (Nat.mul_le_mul_right _ (Nat.sub_le_sub_right hm _))
theorem rv_le {r q:Nat} (h:r≤q):rv 52 r≤rv 52 q:=by
  rcases Nat.lt_or_ge r q with e | e
  · exact Nat.le_of_lt (rv_lt 52 e)
  · rw [Nat.le_antisymm h e]; exact Nat.le_refl _
theorem val_zero {x:Nat}:val x=0 ↔ rung x=0:=by
  constructor
  · intro h
    have h1:=val_abs x
    rw [h,Int.natAbs_zero] at h1
    rcases Nat.eq_zero_or_pos (rung x) with e | e
    · exact e
    · have:=rv_lt 52 e; rw [rv_zero] at this; omega
  · intro h
    have h1:=val_abs x
    rw [h,rv_zero] at h1
    omega
theorem key_fneg {x:Nat} (h:isNan x=false):key (fneg x)=- key x∧isNan (fneg x)=false:=by
  have hx:∀ s r,r≤9218868437227405312→key (fneg (double.word s r))=- key (double.word s r)∧isNan (fneg (double.word s r))=false:=fun s r hr=>by
    rw [fneg_word s hr,key_word _ hr,key_word _ hr,isNan_word _ hr]
    cases s<;>simp
  have e:fneg x=x ^^^ 9223372036854775808:=by unfold fneg; rw [h]; rfl
  have hr:rung x≤9218868437227405312:=by
    rcases fin_or_inf h with h | h
    · have:=isFin_lt h; omega
    · omega
  have hb:(x ^^^ 9223372036854775808) % 9223372036854775808=x % 9223372036854775808:=by
    rw [show (9223372036854775808:Nat)=2 ^ 63 from by decide]
    rw [Nat.xor_mod_two_pow,Nat.mod_self]; simp
  have hs:sgn (x ^^^ 9223372036854775808)=!sgn x:=by
    unfold sgn
    have:(x ^^^ 9223372036854775808) / 9223372036854775808=x / 9223372036854775808 ^^^ 1:=by
      rw [show (9223372036854775808:Nat)=2 ^ 63 from by decide,← Nat.shiftRight_eq_div_pow,← Nat.shiftRight_eq_div_pow,Nat.shiftRight_xor_distrib]
      rfl
    rw [this]
    have h2:(x / 9223372036854775808 ^^^ 1) % 2=(x / 9223372036854775808 % 2) ^^^ 1:=by
      rw [show (2:Nat)=2 ^ 1 from rfl,Nat.xor_mod_two_pow]
    rw [h2]
    have:x / 9223372036854775808 % 2=0∨x / 9223372036854775808 % 2=1:=by omega
    rcases this with e | e<;>rw [e]<;>rfl
  rw [e]
  constructor
  · unfold key
    rw [hs]
    have:rung (x ^^^ 9223372036854775808)=rung x:=hb
    rw [this]
    cases sgn x<;>simp
  · unfold isNan at *
    rw [read_isNaN] at *
    rw [hb]; exact h
end Go.Ev

namespace Go.Ev
open Ieee

/-- y is 2^j times x, both nought or both normal numbers, of one sign. -/
structure Sc (j x y:Nat):Prop where
  s:sgn x=sgn y
  fx:isFin x=true
  fy:isFin y=true
  r:(rung x=0∧rung y=0)∨(2 ^ 52≤rung x∧rung y=rung x+j*2 ^ 52)
theorem rv_scale {r:Nat} (j:Nat) (h:2 ^ 52≤r):rv 52 (r+j*2 ^ 52)=rv 52 r*2 ^ j:=by
  have p:0 < 2 ^ 52:=Nat.two_pow_pos 52
  unfold rv
  generalize 2 ^ 52=b at *
  rw [if_neg (by have:r≤r+j*b:=Nat.le_add_right _ _; omega),if_neg (by omega),Nat.add_mul_mod_self_right,Nat.add_mul_div_right _ _ p]
  have:1≤r / b:=(Nat.le_div_iff_mul_le p).2 (by omega)
  rw [show r / b+j - 1=(r / b - 1)+j by omega,Nat.pow_add,Nat.mul_assoc]
theorem Sc.val {j x y:Nat} (h:Sc j x y):val y=val x*((2 ^ j:Nat):Int):=by
  unfold Go.Ev.val
  rw [← h.s]
  have e:rv 52 (rung y)=rv 52 (rung x)*2 ^ j:=by
    rcases h.r with ⟨a,b⟩ | ⟨a,b⟩
    · rw [a,b,rv_zero,Nat.zero_mul]
    · rw [b]; exact rv_scale j a
  rw [e]
  cases sgn x
  · simp only [cond_false]; push_cast; rfl
  · simp only [cond_true]; push_cast; rw [Int.neg_mul]
theorem KR_big {v:Int} {g:Nat} (h:rq 52 v.natAbs g < 9218868437227405312):(KR v g).natAbs=rq 52 v.natAbs g:=by
  unfold KR
  rw [Nat.min_eq_left (Nat.le_of_lt h)]
  cases decide (v < 0)
  · rw [cond_false,Int.natAbs_natCast]
  · rw [cond_true,Int.natAbs_neg,Int.natAbs_natCast]
end Go.Ev

namespace Go.Ev
open Ieee

theorem KR_mul (v:Int) (g:Nat) {m:Nat} (hm:0 < m):KR (v*(m:Int)) (g*m)=KR v g:=by
  unfold KR
  have e:=rq_mul 52 v.natAbs g hm
  rw [Int.natAbs_mul,Int.natAbs_natCast,e]
  have hg':(0:Int) < (m:Int):=by omega
  by_cases h:v < 0
  · rw [decide_eq_true h,decide_eq_true (Int.mul_neg_of_neg_of_pos h hg')]
  · rw [decide_eq_false h,decide_eq_false (Int.not_lt.2 (Int.mul_nonneg (by omega) (by omega)))]
end Go.Ev

namespace Go.Ev
open Ieee

end Go.Ev

namespace Go.Ev
open Ieee

theorem rnd_exact {a g:Nat} (hg:0 < g) (h:g ∣ a):rnd a g=a / g:=by
  obtain ⟨t,rfl⟩:=h
  unfold rnd
  rw [Nat.mul_mod_right,Nat.mul_zero]
  have h1:decide (g < 0)=false:=decide_eq_false (Nat.not_lt_zero _)
  have h2:(g==0)=false:=by
    cases h3:g==0
    · rfl
    · have:=eq_of_beq h3; omega
  rw [h1,h2]
  rfl
theorem rnd_lo {a:Nat} (h:2 ^ 52≤a):2 ^ 52≤rnd a (2 ^ (a.log2 - 52))∧rnd a (2 ^ (a.log2 - 52))≤2 ^ 53:=by
  have h0:a≠0:=by have:=Nat.two_pow_pos 52; omega
  have hL:52≤a.log2:=(Nat.le_log2 h0).2 h
  have l1:=Nat.log2_self_le h0
  have l2:=Nat.lt_log2_self (n:=a)
  constructor
  · refine Nat.le_trans ?_ (le_rnd _ _)
    rw [Nat.le_div_iff_mul_le (Nat.two_pow_pos _),← Nat.pow_add,show 52+(a.log2 - 52)=a.log2 by omega]
    exact l1
  · refine Nat.le_trans (rnd_le _ _) ?_
    have:a / 2 ^ (a.log2 - 52) < 2 ^ 53:=by
      rw [Nat.div_lt_iff_lt_mul (Nat.two_pow_pos _),← Nat.pow_add,show 53+(a.log2 - 52)=a.log2+1 by omega]
      exact l2
    exact this
/-- The value of what is rounded. -/
theorem rv_rq {a:Nat} (h:2 ^ 52≤a):rv 52 (rq 52 a 1)=rnd a (2 ^ (a.log2 - 52))*2 ^ (a.log2 - 52):=by
  obtain ⟨r1,r2⟩:=rnd_lo h
  unfold rq
  rw [Nat.div_one,Nat.one_mul]
  generalize rnd a (2 ^ (a.log2 - 52))=R at *
  generalize a.log2 - 52=k
  have p52:(2:Nat) ^ 52=4503599627370496:=by decide
  have p53:(2:Nat) ^ 53=9007199254740992:=by decide
  rw [p52] at r1
  rw [p53] at r2
  rw [p52,rv_high (by omega)]
  rcases Nat.lt_or_ge R 9007199254740992 with e | e
  · have h1:(k*4503599627370496+R) % 4503599627370496=R - 4503599627370496:=by omega
    have h2:(k*4503599627370496+R) / 4503599627370496=k+1:=by omega
    rw [h1,h2,Nat.add_sub_cancel,show 4503599627370496+(R - 4503599627370496)=R by omega]
  · have h0:R=9007199254740992:=by omega
    subst h0
    have h1:(k*4503599627370496+9007199254740992) % 4503599627370496=0:=by omega
    have h2:(k*4503599627370496+9007199254740992) / 4503599627370496=k+2:=by omega
    rw [h1,h2,Nat.add_zero,show k+2 - 1=k+1 by omega,Nat.pow_succ,show (9007199254740992:Nat)=4503599627370496*2 by decide,Nat.mul_assoc,Nat.mul_comm (2 ^ k) 2]
/-- A multiple of a power of two. -/
def Gr (k x:Nat):Prop:=2 ^ k ∣ (val x).natAbs
theorem Gr.mono {k l x:Nat} (h:Gr k x) (hl:l≤k):Gr l x:=Nat.dvd_trans (Nat.pow_dvd_pow 2 hl) h
end Go.Ev

namespace Go.Ev
open Ieee

end Go.Ev

namespace Go.Ev
open Ieee

/-- x is the whole number a (c stands for 1074; of nought the sign is left open). -/
structure Wh (c x:Nat) (a:Int):Prop where
  fin:isFin x=true
  val:val x=a*((2 ^ c:Nat):Int)
theorem wh_rv {c n:Nat} (hc:52≤c) (h0:n≠0) (h:n < 2 ^ 53):rv 52 (rq 52 (n*2 ^ c) 1)=n*2 ^ c:=by
  have h52:2 ^ 52≤n*2 ^ c:=Nat.le_trans (Nat.pow_le_pow_right (by decide) hc) (Nat.le_mul_of_pos_left _ (by omega))
  have hl:n.log2 < 53:=(Nat.log2_lt h0).2 h
  have hd:2 ^ ((n*2 ^ c).log2 - 52) ∣ n*2 ^ c:=by
    rw [log2_mul_pow c h0]
    exact Nat.dvd_trans (Nat.pow_dvd_pow 2 (by omega)) (Nat.dvd_mul_left _ _)
  rw [rv_rq h52,rnd_exact (Nat.two_pow_pos _) hd,Nat.div_mul_cancel hd]
theorem wh_of {c z:Nat} {a:Int} (hc:c=1074) (hz:key z=KR (a*((2 ^ c:Nat):Int)) 1) (ha:a.natAbs < 2 ^ 53):Wh c z a:=by
  have hP:0 < 2 ^ c:=Nat.two_pow_pos c
  have en:(a*((2 ^ c:Nat):Int)).natAbs=a.natAbs*2 ^ c:=by rw [Int.natAbs_mul,Int.natAbs_natCast]
  have hb:Bd (53+c) z:=by
    refine bd_of hz (by decide) ?_ (by omega)
    rw [en,Nat.mul_one,Nat.pow_add]
    exact Nat.mul_le_mul_right _ (by omega)
  have hf:isFin z=true:=hb.fin (by omega)
  refine ⟨hf,?_⟩
  by_cases h0:a=0
  · subst h0
    rw [Int.zero_mul,KR_zero (by decide)] at hz
    rw [Int.zero_mul]
    refine val_zero.2 ?_
    rw [← key_abs,hz]; rfl
  · have hn:a.natAbs≠0:=by omega
    have hr:rung z=rq 52 (a.natAbs*2 ^ c) 1:=by
      have hlt:rq 52 (a*((2 ^ c:Nat):Int)).natAbs 1 < 9218868437227405312:=by
        rw [en]
        refine Nat.lt_of_le_of_lt (rq_mono1 52 (Nat.mul_le_mul_right _ (Nat.le_of_lt ha))) ?_
        rw [← Nat.pow_add,← rv_pw (by omega),rq_rv]
        unfold pw
        omega
      rw [← key_abs,hz,KR_big hlt,en]
    have hv:(val z).natAbs=a.natAbs*2 ^ c:=by rw [val_abs,hr,wh_rv (by omega) hn ha]
    have hk0:key z≠0:=fun e=>by
      have e1:rung z=0:=by rw [← key_abs,e]; rfl
      have e2:=val_zero.2 e1
      rw [e2] at hv
      have:=Nat.mul_pos (Nat.pos_of_ne_zero hn) hP
      have e3:(0:Int).natAbs=0:=rfl
      omega
    generalize (2 ^ c:Nat)=P at *
    rcases Int.lt_or_gt_of_ne h0 with h | h
    · have hk:key z < 0:=by
        have:=(KR_sign (v:=a*(P:Int)) (g:=1)).2 (by have:=Int.mul_neg_of_neg_of_pos h (show (0:Int) < P by omega); omega) (by decide)
        omega
      have h1:=val_negative.2 hk
      have e:((a.natAbs*P:Nat):Int)=-a*P:=by rw [Int.natCast_mul,show ((a.natAbs:Nat):Int)=-a by omega]
      rw [Int.neg_mul] at e
      omega
    · have hk:0 < key z:=by
        have:=(KR_sign (v:=a*(P:Int)) (g:=1)).1 (by have:=Int.mul_pos h (show (0:Int) < P by omega); omega)
        omega
      have h1:=val_pos.2 hk
      have e:((a.natAbs*P:Nat):Int)=a*P:=by rw [Int.natCast_mul,show ((a.natAbs:Nat):Int)=a by omega]
      omega
section
variable {c x y:Nat} {a b:Int} (hc:c=1074)
include hc
omit hc
end
end Go.Ev

namespace Go.Ev
open Ieee

def VB (a j x:Nat):Prop:=isFin x=true∧(val x).natAbs≤a*2 ^ j
theorem VB.up {a j k x:Nat} (h:VB a j x) (hk:a≤2 ^ k):VB 1 (j+k) x:=⟨h.1,Nat.le_trans h.2 (by rw [Nat.one_mul,Nat.pow_add,Nat.mul_comm]; exact Nat.mul_le_mul_left _ hk)⟩
theorem vb_of {z g a j:Nat} {v:Int} (hz:key z=KR v g) (hg:0 < g) (hv:v.natAbs≤a*2 ^ j*g) (ha:a≠0) (ha':a < 2 ^ 53) (hj:52≤j) (hj':j≤2000):VB a j z:=by
  have h1:rung z≤rq 52 (a*2 ^ j) 1:=by
    rw [← key_abs,hz]
    exact Nat.le_trans (KR_abs v g) (rq_mono 52 hg (by decide) (by rw [Nat.mul_one]; exact hv))
  constructor
  · have h2:rq 52 (a*2 ^ j) 1≤pw (53+j):=by
      refine Nat.le_trans (rq_mono1 52 (Nat.mul_le_mul_right _ (Nat.le_of_lt ha'))) ?_
      rw [← Nat.pow_add,← rv_pw (by omega),rq_rv]
      exact Nat.le_refl _
    have h3:Bd (53+j) z:=Nat.le_trans h1 h2
    exact h3.fin (by omega)
  · rw [val_abs]
    have h4:=rv_le h1
    rw [wh_rv hj ha ha'] at h4
    exact h4
section
variable {c x y a b i j:Nat} (hc:c=1074)
include hc
end
theorem cut_le (way:Toward) (s:Bool) (n d:Nat):way.cut s n d≤n+1:=by
  unfold Toward.cut
  exact Nat.add_le_add (Nat.div_le_self n _) (toNat_le_one _)
/-- A number of no more than 2^54, made whole. -/
theorem whole_le {c j x:Nat} (way:Toward) (hc:c=1074) (hx:VB 1 (c+j) x) (hj:53≤j):∃ s M,(double.read x).integral way=.number s M 0∧M≤2 ^ j+1:=by
  obtain ⟨m,i,h1,h2,h3,h4⟩:=read_fin hx.1
  have hv:=hx.2
  rw [val_abs,h4,Nat.one_mul] at hv
  rw [h1]
  refine ⟨_,_,rfl,Nat.le_trans (cut_le _ _ _ _) (Nat.add_le_add_right ?_ 1)⟩
  rw [Nat.shiftLeft_eq]
  by_cases hi:0≤i
  · obtain ⟨u,rfl⟩:∃ u:Nat,i=u:=⟨i.toNat,by omega⟩
    rw [show ((u:Int)+1074).toNat=u+c by omega,Nat.pow_add,← Nat.mul_assoc,Nat.add_comm c j,Nat.pow_add] at hv
    have:=Nat.le_of_mul_le_mul_right hv (Nat.two_pow_pos c)
    rw [Int.toNat_natCast]
    exact this
  · rw [show i.toNat=0 by omega,Nat.pow_zero,Nat.mul_one]
    have:2 ^ 53≤2 ^ j:=Nat.pow_le_pow_right (by decide) hj
    have e:2 ^ 53=9007199254740992:=by decide
    omega
theorem fit_vb {c j x:Nat} (hc:c=1074) (hx:VB 1 (c+j) x) (hj:53≤j) (hj':j≤60):Go.Gv.fitI .i64 x=true:=by
  obtain ⟨s,M,h1,h2⟩:=whole_le .zero hc hx hj
  have hM:M≤2 ^ 60+1:=Nat.le_trans h2 (Nat.add_le_add_right (Nat.pow_le_pow_right (by decide) hj') 1)
  have e60:2 ^ 60=1152921504606846976:=by decide
  unfold Go.Gv.fitI floatToIntVal
  have ht:(FloatKind.f64.decode x).toInt .zero=some (signed s M 0):=by
    show (double.read x).toInt .zero=_
    unfold Datum.toInt
    rw [h1]
  rw [ht]
  have hs:signed s M 0=cond s (-(M:Int)) (M:Int):=by
    rw [signed_val,Nat.pow_zero,Nat.mul_one]
  have h3:IntKind.i64.min≤signed s M 0∧signed s M 0≤IntKind.i64.max:=by
    rw [hs,show IntKind.i64.min=-9223372036854775808 by decide,show IntKind.i64.max=9223372036854775807 by decide]
    cases s
    · rw [cond_false]; omega
    · rw [cond_true]; omega
  simp only [h3,and_self,if_true]
  rfl
end Go.Ev

namespace Go.Ev
open Ieee
end Go.Ev
namespace Go.Proofs.YtefphimaggjihaaGreatDoor
open Go.Gv

end Go.Proofs.YtefphimaggjihaaGreatDoor
namespace Go.Proofs.YtefphimaggjihaaGreatDoor.Hs
open Go.Gv
open Go.Ev (cn fadd fsub fmul fdiv fsqrt fneg feq flt fle fgt fge fabs isNan VB)

end Go.Proofs.YtefphimaggjihaaGreatDoor.Hs

namespace Go.Ev
open Ieee
theorem mth_whole {c:Nat} (hc:c=1074) (n:Int):key (cn (FloatKind.f64.nearest n))=KR (n*((2 ^ c:Nat):Int)) 1∧isNan (cn (FloatKind.f64.nearest n))=false:=by
  have hd:FloatKind.f64.nearest n=Ieee.double.nearest (decide (n < 0)) n.natAbs 0:=rfl
  have hn:isNan (FloatKind.f64.nearest n)=false:=by rw [hd]; exact isNan_nearest _ _ _
  rw [cn_of_not hn]
  refine ⟨?_,hn⟩
  rw [hd]
  refine key_nearest (u:=c) (w:=0) (by decide) (by omega) ?_ ?_
  · rw [Int.natAbs_mul,Int.natAbs_natCast,Nat.pow_zero]
  · intro h
    have hp:(0:Int) < ((2 ^ c:Nat):Int):=by have:=Nat.two_pow_pos c; omega
    by_cases h0:n < 0
    · rw [decide_eq_true h0,decide_eq_true (Int.mul_neg_of_neg_of_pos h0 hp)]
    · rw [decide_eq_false h0,decide_eq_false (Int.not_lt.2 (Int.mul_nonneg (by omega) (by omega)))]
theorem near_vb {c j:Nat} (hc:c=1074) (hj:j≤70) {n:Int} (h:n.natAbs≤2 ^ j):VB 1 (c+j) (cn (FloatKind.f64.nearest n)):=by
  refine vb_of (mth_whole hc n).1 (by decide) ?_ (by decide) (by decide) (by omega) (by omega)
  rw [Int.natAbs_mul,Int.natAbs_natCast,Nat.mul_one,Nat.one_mul,Nat.pow_add,Nat.mul_comm]
  exact Nat.mul_le_mul_left _ h
end Go.Ev
namespace Go.Proofs.YtefphimaggjihaaGreatDoor.Hs.So
open Go.Gv
open Go.Ev (cn fadd fsub fmul fdiv fsqrt fneg feq flt fle fgt fge fabs VB key isNan isFin val)

theorem mth_vb {c j:Nat} (hc:c=1074) (hj:j≤60) {n:Int} (h:n.natAbs≤2 ^ (j+9)):VB 1 (c+j) (mth n):=by
  have h1:=Go.Ev.near_vb hc (j:=j+9) (by omega) h
  have ev:val k1000=((1000*2 ^ c:Nat):Int):=by subst hc; decide +kernel
  have hp:=Nat.two_pow_pos c
  have hk:=(Go.Ev.key_div hc h1.1 (show isFin k1000=true by decide +kernel) (by rw [ev]; omega)).1
  unfold mth
  refine Go.Ev.vb_of hk ?_ ?_ (by decide) (by decide) (by omega) (by omega)
  · rw [ev,Int.natAbs_natCast]; omega
  · rw [ev,Int.natAbs_mul,Int.natAbs_mul,Int.natAbs_natCast,Int.natAbs_natCast]
    have es:(Go.Ev.sg ((1000*2 ^ c:Nat):Int)).natAbs=1:=by
      unfold Go.Ev.sg
      rw [decide_eq_false (by omega)]; rfl
    rw [es,Nat.mul_one,Nat.one_mul,← Nat.mul_assoc]
    refine Nat.mul_le_mul_right _ (Nat.le_trans h1.2 ?_)
    rw [Nat.one_mul,← Nat.add_assoc,Nat.pow_add _ _ 9]
    exact Nat.mul_le_mul_left _ (by decide)
end Go.Proofs.YtefphimaggjihaaGreatDoor.Hs.So
