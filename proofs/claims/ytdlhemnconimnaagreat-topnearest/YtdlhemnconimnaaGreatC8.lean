/- Texts, one behind the other. -/
import Derived.Test.YtdlhemnconimnaaGreatC7
import Derived.Test.YtdlhemnconimnaaGreatC6
import Derived.Test.YtdlhemnconimnaaGreatC4
import Derived.Test.YtdlhemnconimnaaGreatC5
open Array renaming all_eq_true'->aMv,getD->aKw,getElem?_eq_getElem->ayT,getElem?_toList->aIh
open Bool renaming and_eq_true->CX,and_self->aJ9,and_true->aMo,not_eq_true'->aIp,not_false->aJ5,not_true->aH7,or_false->aMw
open Go.Proofs.Tryz renaming f100->aLY,f143->aIR,f167->aJV,f168->aGz,f189->aLV,f203->aLU,f24->aLk,f297->aNr,f30->aOO,f31->aKr,f36->aJg,f42->aHT,f54->aMM,func105->aLX,func168->aLW,func24->aOm,func297->aLT,func30->aMx,func304->aLS,func31->aKX,func36->aKY,func54->aOl,func8->aOw,prog->bO
open Go.Region renaming binds->avn,ready->aFj
open Ieee renaming double->aIS
open Int renaming le_refl->af2,le_trans->aHF,mul_le_mul->aNN,mul_nonneg->aNM,neg_mul_neg->aND,ofNat_lt->aKH,tdiv->aN9,toNat->aON,toNat_natCast->pF
open List renaming all_eq_true->ab3,count_pos_iff->aML,drop_zero->aJw,getD_eq_getElem?_getD->Gd,getElem?_append_left->aiK,getElem?_append_right->aqb,getElem?_eq_getElem->Ga,getElem?_eq_none->apa,getElem?_eq_some_iff->abK,getElem?_map->aG1,getElem?_set_ne->aIV,getElem?_set_self->aJE,getElem_mem->aJk,length_map->aLf,length_range->aIq,mem_filter->aII,mem_map->aN8,mem_of_getElem?->ajw,mem_range->aHi,range->aFB,replicate->aGe
open List.cons renaming injEq->aIn
open Nat renaming beq->amH,beq_refl->aIC,ble->apB,blt->Tv,div_one->aJe,eq_of_beq_eq_true->aiL,le_mul_of_pos_left->aLZ,le_of_ble_eq_true->Ou,le_of_eq->aOk,le_refl->ND,le_trans->aa2,not_lt_zero->avm,pow_zero->axO,strongRecOn->aHf,zero_add->ZO,zero_le->alz
open Option renaming getD_none->aFz,getD_some->apP,map_some->aaF
open Option.some renaming injEq->gU
open Or renaming inl->wV,inr->Gc
namespace Go.Proofs.YtdlhemnconimnaaGreat
open Go.Gv
def Cx(x:Int):Prop:=-2147483648<=x/\x<=2147483648
theorem Cx.i64{x:Int}(h:Cx x):I64 x:=⟨by have:=h.1;omega,by have:=h.2;omega⟩
theorem Cx.zw{x:Int}(h:Cx x):Zw x<=1:=G5 (by obtain⟨l,d⟩:=h;omega)
theorem iI.len'{p:fZ}{k m B:Nat}(h:iI p k B)(d:k<=m):iI p m B:=⟨aa2 h.len d,h.cn,h.zw⟩
noncomputable def cP(o d:Int):fZ:=poY (2,cf o d)
noncomputable def Ao(o d:Int):fZ:=tmY (cP o d) (cP o d)
theorem avb{o d:Int}(l:Cx o)(q:Cx d):iI (2,cf o d) 2 1:=⟨ND _,aBN o d,λ i=>by
 match i with
 | 0=>exact l.zw
 | 1=>exact q.zw
 |i+2=>exact aa2 (aOk tL) (alz _)⟩
theorem af4{o d:Int}(l:Cx o)(q:Cx d):iI (cP o d) 2 1:=auo (avb l q)
theorem rY{o d:Int}(l:Cx o)(q:Cx d):iI (Ao o d) 3 4:=aex (af4 l q) (af4 l q)
theorem af5{x:Int}(h:Zw x<=3):iI (poY (1,NT x)) 1 3:=auo ⟨ND _,aBO x,λ i=>by
 match i with
 | 0=>exact h
 |i+1=>exact aa2 (aOk tL) (alz _)⟩
theorem aop(o d:Int):rgC whC poC o d=cP o d:=by unfold rgC;rw[show whC [p2A o d]=(2,cf o d) from ajB o d,aBP];rfl
theorem Wt(o d:Int):Fh whC poC tmC o d=Ao o d:=by unfold Fh;rw[aop,ajC];rfl
theorem vR{o d:Int}{x:Option Out}(l:Cx o)(q:Cx d):rgI whC poC tmC o d x=x:=by unfold rgI gY;rw[Wt,aop,show whC [p2A o d]=(2,cf o d) from ajB o d];rw[ak (aBS l.i64 q.i64),ak (show aj bO 311 [fD (2,cf o d)] (fD (cP o d)) from aBT (avb l q) (by omega)),ak (show aj bO 313 [fD (cP o d),fD (cP o d)] (fD (Ao o d)) from ajF (af4 l q) (af4 l q) (by omega) (by omega) (by omega) (by omega))]
noncomputable def Cc(x:Int):fZ:=poY (1,NT x)
noncomputable def inP(a:fZ)(w t:Int):fZ:=QI a (Cc (w*w+-(t*t)))
noncomputable def ouP(b:fZ)(w:Int):fZ:=tmY b (Cc (w*w*-4))
noncomputable def riP(a b:fZ)(w t:Int):fZ:=QI (tmY (inP a w t) (inP a w t)) (ouP b w)
theorem EW{s:fZ}{k B:Nat}{x:Option Out}(h:iI s k B)(d:k<=1000)(l:B<=1000):gp0 ppC s x=x:=by unfold gp0 gY pl0;rw[aew];exact ak (awf h d l)
theorem vT{a s:fZ}{k B:Nat}{x:Option Out}(g:iI a k B)(h:iI s k B)(d:k<=1000)(l:B<=1000):gp1 ppC a s x=x:=by unfold gp1 gY pl1;rw[Rn];exact ak (ajE g h d l)
section
variable{w t:Int}(hw:Cx w)(ht:Cx t)
include hw in
theorem aac:Zw (w*w)<=2:=by have:=su w w;have:=hw.zw;omega
include hw ht in
theorem avc:Zw (w*w+-(t*t))<=3:=Kn (aac hw) (by rw[Ww];exact aac ht)
include hw in
theorem avd:Zw (w*w*-4)<=3:=by have:=su (w*w) (-4);have:=aac hw;have:Zw (-4)<=1:=G5 (by decide);omega
theorem eW2(w:Int):rW2 twC w=w*w:=aum w w
theorem eM2(t:Int):rM2 twC miY t=-(t*t):=by unfold rM2;rw[eW2,aBR]
theorem eD2(w t:Int):rD2 twC pwC miY w t=w*w+-(t*t):=by unfold rD2;rw[eW2,eM2,aBQ]
theorem eF2(w:Int):rF2 twC w=w*w*-4:=by unfold rF2;rw[eW2,aum]
theorem ave(x:Int):poC [p1A x]=Cc x:=congrArg poY (awc x)
theorem eDp(w t:Int):rDp poC twC pwC miY w t=Cc (w*w+-(t*t)):=by unfold rDp;rw[eD2,ave]
theorem eFp(w:Int):rFp poC twC w=Cc (w*w*-4):=by unfold rFp;rw[eF2,ave]
theorem eIn(a:fZ)(w t:Int):rIn poC ppC twC pwC miY a w t=inP a w t:=by unfold rIn;rw[eDp,Rn];rfl
theorem eOu(b:fZ)(w:Int):rOu poC tmC twC b w=ouP b w:=by unfold rOu;rw[eFp,ajC];rfl
theorem eSq(a:fZ)(w t:Int):rSq poC tmC ppC twC pwC miY a w t=tmY (inP a w t) (inP a w t):=by unfold rSq;rw[eIn,ajC]
theorem eRe(a b:fZ)(w t:Int):rRe poC tmC ppC twC pwC miY a b w t=riP a b w t:=by unfold rRe;rw[eSq,eOu,Rn];rfl
include hw ht in
theorem aoq{a:fZ}(h:iI a 3 7):iI (inP a w t) 3 8:=Xr h (((af5 (avc hw ht)).len' (by omega)).mono (by omega))
include hw in
theorem avf{b:fZ}(h:iI b 3 6):iI (ouP b w) 3 12:=aex h (af5 (avd hw))
include hw ht in
theorem aET{a b:fZ}(h:iI a 3 7)(g:iI b 3 6):iI (riP a b w t) 5 20:=Xr (aex (aoq hw ht h) (aoq hw ht h)) (((avf hw g).len' (by omega)).mono (by omega))
include hw ht in
theorem Wu{a b:fZ}(h:iI a 3 7)(g:iI b 3 6):rgZ poC tmC ppC twC pwC miY a b w t=some (Out.of (fD (riP a b w t))):=by unfold rgZ gY gW;rw[eRe,eSq,eOu,eIn,eFp,eDp,eF2,eD2,eM2,eW2,eW2];have d:Sm w:=nZ (by have:=hw.zw;omega);have s2:Sm t:=nZ (by have:=ht.zw;omega);have o:Sm (w*w):=nZ (by have:=aac hw;omega);have y:Sm (-(t*t)):=nZ (by rw[Ww];have:=aac ht;omega);have u:Sm (-4):=nZ (by have:Zw (-4)<=1:=G5 (by decide);omega);have l:=aoq hw ht h;have q:∀x,aj bO 311 [p1A x] (fD (Cc x)):=awe;have I:aj bO 314 [fD a,fD (Cc (w*w+-(t*t)))] (fD (inP a w t)):=ajE h (((af5 (avc hw ht)).len' (by omega)).mono (by omega)) (by omega) (by omega);have G:aj bO 313 [fD b,fD (Cc (w*w*-4))] (fD (ouP b w)):=ajF g (af5 (avd hw)) (by omega) (by omega) (by omega) (by omega);have C:aj bO 314 [fD (tmY (inP a w t) (inP a w t)),fD (ouP b w)] (fD (riP a b w t)):=ajE (aex l l) (((avf hw g).len' (by omega)).mono (by omega)) (by omega) (by omega);rw[ak (qQ hw.i64.1 hw.i64.2),ak (qQ ht.i64.1 ht.i64.2),ak (qY d d),ak (qY s2 s2),ak (MB (t*t)),ak (Ig o y),ak (q _),ak I];rw[ak (qY d d),ak (qQ (by decide) (by decide)),ak (qY o u),ak (q _),ak G,ak (ajF l l (by omega) (by omega) (by omega) (by omega))];exact ak C
end
section
variable(wf:Int->Bool)(ff:Int->Int->Bool)(cu mu ad by':List AV->BP)(bm ba bn:List AV->Bg)(L:List Int)
variable(o0 o1 o2 d0 d1 d2 w t lo hi:Int)
def awz(b:Bool)(o d:Int):Bool:=cond (cond b true (wf o)) true (wf d)
def rrB:Bool:=cond (awz wf (awz wf (awz wf (cond (wf w) true (wf t)) o0 d0) o1 d1) o2 d2) true (ff lo hi)
end
open Go.Em (kJ)
structure GB(p:BP)(k B:Nat):Prop where
 len:p.1<=k
 pb:PBP p B
theorem GB.mono{p:BP}{k B C:Nat}(h:GB p k B)(d:B<=C):GB p k C:=⟨h.len,h.pb.le d⟩
theorem aok:∀e,e∈Ve whC poC tmC ppC twC pwC miY->sZ bO e:=au aG (au aG (au aG (au aG (au aG (au aG (au aG (au aG ay)))))))
noncomputable def f2P(o d l q:Int):fZ:=QI (QI zP0 (Ao o d)) (Ao l q)
noncomputable def a3P(o0 o1 o2 d0 d1 d2:Int):fZ:=QI (f2P o0 d0 o1 d1) (Ao o2 d2)
theorem Qa{o d:Int}(q:Cx o)(l:Cx d):iI (QI zP0 (Ao o d)) 3 5:=Xr (aFq.mono (by omega)) (rY q l)
theorem F8{o d l q:Int}(C:Cx o)(y:Cx d)(x:Cx l)(u:Cx q):iI (f2P o d l q) 3 6:=Xr (Qa C y) ((rY x u).mono (by omega))
structure Six(o0 o1 o2 d0 d1 d2 w t:Int):Prop where
 o0:Cx o0
 o1:Cx o1
 o2:Cx o2
 d0:Cx d0
 d1:Cx d1
 d2:Cx d2
 w:Cx w
 t:Cx t
noncomputable def flP(ax o0 o1 o2 d0 d1 d2:Int):fZ:=if ax=0 then f2P o1 d1 o2 d2 else if ax=1 then f2P o0 d0 o2 d2 else f2P o0 d0 o1 d1
section
variable{o0 o1 o2 d0 d1 d2 w t:Int}(h:Six o0 o1 o2 d0 d1 d2 w t)
include h
theorem af3:iI (a3P o0 o1 o2 d0 d1 d2) 3 7:=Xr (F8 h.o0 h.d0 h.o1 h.d1) ((rY h.o2 h.d2).mono (by omega))
theorem rp0:aj bO 304 [v3 o0 o1 o2,v3 d0 d1 d2,iA 0,iA w,iA t] (fD (riP (a3P o0 o1 o2 d0 d1 d2) (f2P o1 d1 o2 d2) w t)):=by refine lY EI aB aok (gK (Bp _) (gK (Bp _) aV)) aLS aC ((ax4 whC poC tmC ppC twC pwC miY o0 o1 o2 d0 d1 d2 w t).trans ?_);simp only[rA2,rA3,pl0,pl1,Wt,aew,Rn];rw[vR h.o0 h.d0,EW (rY h.o0 h.d0) (by omega) (by omega),vR h.o1 h.d1,vT (Qa h.o0 h.d0) ((rY h.o1 h.d1).mono (by omega)) (by omega) (by omega),EW (rY h.o1 h.d1) (by omega) (by omega),vR h.o2 h.d2];rw[vT (show iI (QI (QI zP0 (Ao o0 d0)) (Ao o1 d1)) 3 6 from F8 h.o0 h.d0 h.o1 h.d1) ((rY h.o2 h.d2).mono (by omega)) (by omega) (by omega),vT (Qa h.o1 h.d1) ((rY h.o2 h.d2).mono (by omega)) (by omega) (by omega)];exact Wu h.w h.t (af3 h) (F8 h.o1 h.d1 h.o2 h.d2)
theorem rp1:aj bO 304 [v3 o0 o1 o2,v3 d0 d1 d2,iA 1,iA w,iA t] (fD (riP (a3P o0 o1 o2 d0 d1 d2) (f2P o0 d0 o2 d2) w t)):=by refine lY EI aB aok (gK (Bp _) (gK (Bp _) aV)) aLS aC ((ax5 whC poC tmC ppC twC pwC miY o0 o1 o2 d0 d1 d2 w t).trans ?_);simp only[rA2,rA3,pl0,pl1,Wt,aew,Rn];rw[vR h.o0 h.d0,EW (rY h.o0 h.d0) (by omega) (by omega),EW (rY h.o0 h.d0) (by omega) (by omega),vR h.o1 h.d1,vT (Qa h.o0 h.d0) ((rY h.o1 h.d1).mono (by omega)) (by omega) (by omega),vR h.o2 h.d2];rw[vT (show iI (QI (QI zP0 (Ao o0 d0)) (Ao o1 d1)) 3 6 from F8 h.o0 h.d0 h.o1 h.d1) ((rY h.o2 h.d2).mono (by omega)) (by omega) (by omega),vT (Qa h.o0 h.d0) ((rY h.o2 h.d2).mono (by omega)) (by omega) (by omega)];exact Wu h.w h.t (af3 h) (F8 h.o0 h.d0 h.o2 h.d2)
theorem rp2:aj bO 304 [v3 o0 o1 o2,v3 d0 d1 d2,iA 2,iA w,iA t] (fD (riP (a3P o0 o1 o2 d0 d1 d2) (f2P o0 d0 o1 d1) w t)):=by refine lY EI aB aok (gK (Bp _) (gK (Bp _) aV)) aLS aC ((ax6 whC poC tmC ppC twC pwC miY o0 o1 o2 d0 d1 d2 w t).trans ?_);simp only[rA2,rA3,pl0,pl1,Wt,aew,Rn];rw[vR h.o0 h.d0,EW (rY h.o0 h.d0) (by omega) (by omega),EW (rY h.o0 h.d0) (by omega) (by omega),vR h.o1 h.d1,vT (Qa h.o0 h.d0) ((rY h.o1 h.d1).mono (by omega)) (by omega) (by omega),vT (Qa h.o0 h.d0) ((rY h.o1 h.d1).mono (by omega)) (by omega) (by omega),vR h.o2 h.d2];rw[vT (show iI (QI (QI zP0 (Ao o0 d0)) (Ao o1 d1)) 3 6 from F8 h.o0 h.d0 h.o1 h.d1) ((rY h.o2 h.d2).mono (by omega)) (by omega) (by omega)];exact Wu h.w h.t (af3 h) (F8 h.o0 h.d0 h.o1 h.d1)
theorem atz{ax:Int}(d:0<=ax/\ax<=2):aj bO 304 [v3 o0 o1 o2,v3 d0 d1 d2,iA ax,iA w,iA t] (fD (riP (a3P o0 o1 o2 d0 d1 d2) (flP ax o0 o1 o2 d0 d1 d2) w t))/\iI (flP ax o0 o1 o2 d0 d1 d2) 3 6:=by
 have:ax=0\/ax=1\/ax=2:=by omega
 rcases this with rfl |rfl |rfl
 .exact⟨rp0 h,F8 h.o1 h.d1 h.o2 h.d2⟩
 .exact⟨rp1 h,F8 h.o0 h.d0 h.o2 h.d2⟩
 .exact⟨rp2 h,F8 h.o0 h.d0 h.o1 h.d1⟩
end
theorem aE4(p q:fZ):Tp (QI p q):=by
 by_cases g:tl (fV p.2 q.2) (max p.1 q.1)=0
 .exact wV g
 .exact Gc (U6 _ _ g)
noncomputable def plL(P:fZ)(lo hi:Int):List Int:=cond (Bl P.1 lo hi) [] (aEi P lo hi)
theorem aoD{P:fZ}{lo hi:Int}(g:iI P 5 20)(ht:Tp P)(hlo:-1125899906842624<=lo)(hhi:hi<=1125899906842624):aj bO 303 [fD P,iA lo,iA hi] (lsJ (plL P lo hi)):=by
 unfold plL;cases d:Bl P.1 lo hi
 .have l:2<=P.1/\lo<=hi:=by
   unfold Bl at d;by_cases g:((P.1:Nat):Int)<2
   .rw[gG g]at d;cases d
   .rw[iH g,eU]at d;have:=oDf d;omega
  exact anm (p:=P) (B:=20) l.1 g.len g.cn ht (by decide) g.zw l.2 (by omega) (by omega) λ a b _ h _=>aru (P:=nV P) l.1 (ade g.cn) (VI ht) h
 .exact axv d
section
variable{a b:BP}{a' b':fZ}{w t lo hi:Int}(hw:Cx w)(ht:Cx t)(ha:iI a' 3 7)(hb:iI b' 3 6)(h:bV a=a'.2)(g:bV b=b'.2)(ga:GB a 4 13)(gb:GB b 4 12)(hlo:-1125899906842624<=lo)(hhi:hi<=1125899906842624)
include hw ht ha hb h g ga gb hlo hhi
end
section
variable{o0 o1 o2 d0 d1 d2 w t lo hi:Int}
variable(h:Six o0 o1 o2 d0 d1 d2 w t)(hlo:-1125899906842624<=lo)(hhi:hi<=1125899906842624)(hb:rrB wdB frB o0 o1 o2 d0 d1 d2 w t lo hi=false)
include h hlo hhi hb
end
section
variable(o0 o1 o2 d0 d1 d2 ax w t lo hi:Int)(L:List Int)(e:Int)
end
section
variable{o0 o1 o2 d0 d1 d2 w t lo hi:Int}
theorem aDx(d:msI lo hi=true):-1125899906842624<=lo/\hi<=1125899906842624:=by
 unfold msI at d;by_cases l:lo≥-1125899906842624
 .rw[gG l,aY]at d;exact⟨l,Qx d⟩
 .rw[iH l]at d;cases d
end
structure ayU:Prop where
 bad:∀o0 o1 o2 d0 d1 d2 ax w t lo hi:Int,(ax<0\/ax>2)->aj bO 299 [v3 o0 o1 o2,v3 d0 d1 d2,iA ax,iA w,iA t,iA lo,iA hi] (rtA ([],3))
 far:∀o0 o1 o2 d0 d1 d2 ax w t lo hi:Int,0<=ax/\ax<=2->¬(Six o0 o1 o2 d0 d1 d2 w t/\msI lo hi=true)->aj bO 299 [v3 o0 o1 o2,v3 d0 d1 d2,iA ax,iA w,iA t,iA lo,iA hi] (rtA ([],1))
 good:∀o0 o1 o2 d0 d1 d2 ax w t lo hi:Int,0<=ax/\ax<=2->Six o0 o1 o2 d0 d1 d2 w t->msI lo hi=true->aj bO 299 [v3 o0 o1 o2,v3 d0 d1 d2,iA ax,iA w,iA t,iA lo,iA hi] (rtA (plL (riP (a3P o0 o1 o2 d0 d1 d2) (flP ax o0 o1 o2 d0 d1 d2) w t) lo hi,0))
def v3S(a b c:Int):AV:=.sl 1 3 λ i=>([iA a,iA b,iA c].drop (0*1+0+i*1)).take 1
section
variable(mb:List AV->Bool)(sf:Int->Int->Bool)(rp:List AV->fZ)(L:List Int)(o0 o1 o2 d0 d1 d2 ax w t lo hi:Int)
def riB:Bool:=cond (cond (cond (!mb [v3S o0 o1 o2]) true (!mb [v3S d0 d1 d2])) true (!mb [p2A w t])) true (!sf lo hi)
noncomputable def afi(l:List AV)(b:Bool)(o:Option Out):Option Out:=gate (aj bO 301 l (bA b)) o
theorem aC6:Q6 bO [⟨302,gMs sf⟩] [kS bO 301 (λ l=>bA (mb l)),kS bO 304 (λ l=>fD (rp l)),kS bO 303 (λ _=>lsJ L)] [born 56] bC OG Tryz.f299 [v3 o0 o1 o2,v3 d0 d1 d2,iA ax,iA w,iA t,iA lo,iA hi] ret =
    cond (cond (decide (ax<0)) true (decide (ax>2))) (afj 3)
      (afi [v3S o0 o1 o2] (mb [v3S o0 o1 o2]) (afi [v3S d0 d1 d2] (mb [v3S d0 d1 d2]) (afi [p2A w t] (mb [p2A w t])
        (cond (riB mb sf o0 o1 o2 d0 d1 d2 w t lo hi) (afj 1)
          (gY 304 [v3 o0 o1 o2,v3 d0 d1 d2,iA ax,iA w,iA t] (rp [v3 o0 o1 o2,v3 d0 d1 d2,iA ax,iA w,iA t])
            (gate (aj bO 303 [fD (rp [v3 o0 o1 o2,v3 d0 d1 d2,iA ax,iA w,iA t]),iA lo,iA hi] (lsJ L)) (some (Out.of (.bK [lsJ L,iA 0]))))))))):=by kernel_rfl
end
noncomputable def mbR(l:List AV):Bool:=mbI (apM (a0 l)).1 (apM (a0 l)).2
def u3(a b c:Int)(i:Nat):Int:=[a,b,c].getD i 0
theorem adO(x:Int):mbB x=false↔Cx x:=by
 unfold mbB Cx;by_cases d:x< -2147483648
 .rw[gG d,aY];exact⟨λ h=>(by cases h),λ h=>(by omega)⟩
 .rw[iH d,eU];by_cases g2:x>2147483648
  .rw[gG g2];exact⟨λ h=>(by cases h),λ h=>(by omega)⟩
  .rw[iH g2];exact⟨λ _=>(by omega),λ _=>rfl⟩
theorem aag{n:Nat}{u v:Nat->Int}(h:∀i,i<n->u i=v i):mbI n u=mbI n v:=by
 unfold mbI;rcases o9 (λ i=>!mbB (u i)) n with o | ⟨K,d,l,_⟩
 .rw[Qc o,Qc λ i hi=>(by rw[<-h i hi];exact o i hi)]
 .rw[adN d l,adN d (by rw[<-h K d];exact l)]
theorem JM(a b c:Int):aj bO 301 [v3S a b c] (bA (mbR [v3S a b c]))/\(mbR [v3S a b c]=true↔Cx a/\Cx b/\Cx c):=by
 have e:mbR [v3S a b c]=mbI 3 (u3 a b c):=aag (n:=3) λ i hi=>by
  match i,hi with
  | 0,_=>rfl
  | 1,_=>rfl
  | 2,_=>rfl
 rw[e];refine⟨aj.vD (af7 (n:=3) (u3 a b c) (by decide)) λ E q h=>?_,?_⟩
 .obtain⟨v,o,rfl,l,d⟩:=aD.1 h
  exact aD.2 ⟨v,o,rfl,ql l λ i hi=>(by
   match i,hi with
   | 0,_=>rfl
   | 1,_=>rfl
   | 2,_=>rfl),d⟩
 .constructor
  .intro h;have k:=λ i hi=>(adO _).1 (show mbB (u3 a b c i)=false by simpa using aaf h i hi);exact⟨k 0 (by omega),k 1 (by omega),k 2 (by omega)⟩
  .rintro⟨h0,l,d⟩;refine Qc λ i hi=>?_
   match i,hi with
   | 0,_=>rw[show mbB (u3 a b c 0)=false from(adO _).2 h0];rfl
   | 1,_=>rw[show mbB (u3 a b c 1)=false from(adO _).2 l];rfl
   | 2,_=>rw[show mbB (u3 a b c 2)=false from(adO _).2 d];rfl
theorem aoA(a b:Int):aj bO 301 [p2A a b] (bA (mbR [p2A a b]))/\(mbR [p2A a b]=true↔Cx a/\Cx b):=by
 have e:mbR [p2A a b]=mbI 2 (u3 a b 0):=aag (n:=2) λ i hi=>by
  match i,hi with
  | 0,_=>rfl
  | 1,_=>rfl
 rw[e];refine⟨aj.vD (af7 (n:=2) (u3 a b 0) (by decide)) λ E q h=>?_,?_⟩
 .obtain⟨v,l,rfl,d,o⟩:=aD.1 h
  exact aD.2 ⟨v,l,rfl,ql d λ i hi=>(by
   match i,hi with
   | 0,_=>rfl
   | 1,_=>rfl),o⟩
 .constructor
  .intro h;have k:=λ i hi=>(adO _).1 (show mbB (u3 a b 0 i)=false by simpa using aaf h i hi);exact⟨k 0 (by omega),k 1 (by omega)⟩
  .rintro⟨h0,d⟩;refine Qc λ i hi=>?_
   match i,hi with
   | 0,_=>rw[show mbB (u3 a b 0 0)=false from(adO _).2 h0];rfl
   | 1,_=>rw[show mbB (u3 a b 0 1)=false from(adO _).2 d];rfl
section
variable{o0 o1 o2 d0 d1 d2 ax w t lo hi:Int}
theorem aoB:riB mbR msI o0 o1 o2 d0 d1 d2 w t lo hi=false↔Six o0 o1 o2 d0 d1 d2 w t/\msI lo hi=true:=by
 have a:=(JM o0 o1 o2).2;have b:=(JM d0 d1 d2).2;have c:=(aoA w t).2;unfold riB;generalize mbR [v3S o0 o1 o2]=x at *;generalize mbR [v3S d0 d1 d2]=y at *;generalize mbR [p2A w t]=z at *;generalize msI lo hi=u at *;constructor
 .intro h;cases x<;>cases y<;>cases z<;>cases u<;>first | (cases h;done) |skip
  obtain⟨M,I,G⟩:=a.1 rfl;obtain⟨C,q,o⟩:=b.1 rfl;obtain⟨l,d⟩:=c.1 rfl;exact⟨⟨M,I,G,C,q,o,l,d⟩,rfl⟩
 .rintro⟨h,rfl⟩;rw[a.2 ⟨h.o0,h.o1,h.o2⟩,b.2 ⟨h.d0,h.d1,h.d2⟩,c.2 ⟨h.w,h.t⟩];rfl
theorem aoC{rp:List AV->fZ}{L:List Int}{r:AV}(h:cond (cond (decide (ax<0)) true (decide (ax>2))) (afj 3) (cond (riB mbR msI o0 o1 o2 d0 d1 d2 w t lo hi) (afj 1) (gY 304 [v3 o0 o1 o2,v3 d0 d1 d2,iA ax,iA w,iA t] (rp [v3 o0 o1 o2,v3 d0 d1 d2,iA ax,iA w,iA t])
  (gate (aj bO 303 [fD (rp [v3 o0 o1 o2,v3 d0 d1 d2,iA ax,iA w,iA t]),iA lo,iA hi] (lsJ L)) (some (Out.of (.bK [lsJ L,iA 0]))))))=some (Out.of r)):aj bO 299 [v3 o0 o1 o2,v3 d0 d1 d2,iA ax,iA w,iA t,iA lo,iA hi] r:=by
 refine lY EI (aL aAI aB) (au aG (au aG (au aG ay))) (gK (Bp _) aV) Tryz.func299 aC ((aC6 mbR msI rp L o0 o1 o2 d0 d1 d2 ax w t lo hi).trans ?_);unfold afi;rw[ak (JM o0 o1 o2).1,ak (JM d0 d1 d2).1,ak (aoA w t).1];exact h
end
theorem aAJ{ax:Int}(h:ax<0\/ax>2):cond (decide (ax<0)) true (decide (ax>2))=true:=by
 by_cases g:ax<0
 .rw[gG g];rfl
 .rw[iH g,gG (show ax>2 by omega)];rfl
theorem af8{ax:Int}(h:0<=ax/\ax<=2):cond (decide (ax<0)) true (decide (ax>2))=false:=by rw[iH (show ¬ax<0 by omega),iH (show ¬ax>2 by omega)];rfl
theorem acP:ayU where
 bad:=λ o0 o1 o2 d0 d1 d2 ax w t lo hi d=>by refine Yl (aoC (rp:=λ _=>zP0) (L:=[]) ?_);rw[aAJ d];rfl
 far:=λ o0 o1 o2 d0 d1 d2 ax w t lo hi d hs=>by
  refine Yl (aoC (rp:=λ _=>zP0) (L:=[]) ?_)
  have hb:riB mbR msI o0 o1 o2 d0 d1 d2 w t lo hi=true:=by
   cases h:riB mbR msI o0 o1 o2 d0 d1 d2 w t lo hi
   .exact absurd (aoB.1 h) hs
   .rfl
  rw[af8 d,hb];rfl
 good:=λ o0 o1 o2 d0 d1 d2 ax w t lo hi d l q=>by obtain⟨hlo,hhi⟩:=aDx q;obtain⟨u,g⟩:=atz l d;have o:=aoD (lo:=lo) (hi:=hi) (aET l.w l.t (af3 l) g) (aE4 _ _) hlo hhi;generalize plL (riP (a3P o0 o1 o2 d0 d1 d2) (flP ax o0 o1 o2 d0 d1 d2) w t) lo hi=L at o ⊢;generalize riP (a3P o0 o1 o2 d0 d1 d2) (flP ax o0 o1 o2 d0 d1 d2) w t=Q at u o;refine aoC (rp:=λ _=>Q) (L:=L) ?_;unfold gY;rw[af8 d,aoB.2 ⟨l,q⟩,ak u,ak o];rfl
end Go.Proofs.YtdlhemnconimnaaGreat
namespace Go.Proofs.YtdlhemnconimnaaGreat.Hs
open Go.Gv
open Go.Ev (cn aM aU aX fdiv bD dG dR dN iB bW iL fabs aF flr cel)
def afl(n:Int):Nat:=cn (FloatKind.f64.nearest n)
section
variable(k:Int)(a:Nat->Nat)(sk:Int)(r:Nat->Nat)(n f z:Nat)(L:List Int)(e:Int)
def KO(i:Nat):Nat:=aU (r i) (a i)
def ro3:AV:=w3 (FZ (KO a r 0)) (FZ (KO a r 1)) (FZ (KO a r 2))
def rd3:AV:=w3 (FZ (r 3)) (FZ (r 4)) (FZ (r 5))
def acD:List AV:=[ro3 a r,rd3 r,iA (z:Nat),iA (FZ (a 9)),iA (FZ (a 10)),iA (FE .i64 (leF (r 6))),iA 70368744177664]
def rdZ:Bool:=(FZ (r 3)==0)&&((FZ (r 4)==0)&&((FZ (r 5)==0)&&true))
def KP:Bool:=cond (rdZ r) false (!(cond (!(e==0)) true ((L.length:Int)==0)))
def rgT:Nat:=cond (KP r L e) (fdiv (afl (L.getD 0 0)) Vr) 0
def rgE:Option Out:=cond (cond (!(e==0)) true ((L.length:Int)==0)) (s2 0 false) (cond (iP 0 L.length||false) (s2 (fdiv (afl (L.getD 0 0)) Vr) true) none)
def wsG:List AV->AV
 | [.agg [.f x,.f y,.f w]]=>w3 (FZ x) (FZ y) (FZ w)
 |_=>.any
noncomputable def rsX:Option Out:=gate (aj bO 298 [V (KO a r 0) (KO a r 1) (KO a r 2)] (ro3 a r)) (gate (aj bO 298 [V (r 3) (r 4) (r 5)] (rd3 r)) (cond (rdZ r) (s2 0 false) (cond (Fb .i64 (leF (r 6))||false)
 (gRi k a sk z (gWh (a 9) (gWh (a 10) (gate (aj bO 299 (acD a r z) (rtA (L,e))) (rgE L e))))) none)))
noncomputable def rsK:List bf:=[kS bO 298 wsG,whK,riK z,kS bO 299 λ _=>rtA (L,e)]
theorem ayy:ev bO Y0 (rsK 0 L e) bC aNr [SH k a sk,RY r,.f n,.f f] ret=rsX k a sk r 0 L e:=by kernel_rfl
theorem ayz:ev bO Y0 (rsK 1 L e) bC aNr [SH k a sk,RY r,.f n,.f f] ret=rsX k a sk r 1 L e:=by kernel_rfl
theorem ayA:ev bO Y0 (rsK 2 L e) bC aNr [SH k a sk,RY r,.f n,.f f] ret=rsX k a sk r 2 L e:=by kernel_rfl
theorem ayB(h:rdZ r=false):rgE L e=some (Out.of (.bK [.f (rgT r L e),bA (KP r L e)])):=by
 unfold rgE rgT KP s2;rw[h];cases q:(e==0)
 .rfl
 .cases L with
  |nil=>rfl
  |cons x l =>
   have o:(((x::l).length:Int)==0)=false:=mI (by simp only[List.length_cons];omega);have d:iP 0 (x::l).length=true:=bZ (i:=0) (by simp);rw[o,d];rfl
end
structure ayC(a r:Nat->Nat):Prop where
 o:∀i,i<3->whO (KO a r i)=true
 d:whO (r 3)=true/\whO (r 4)=true/\whO (r 5)=true
 w:whO (a 9)=true/\whO (a 10)=true
 l:Fb .i64 (leF (r 6))=true
theorem aFV{a r:Nat->Nat}(h:Kk a=false)(l:gP r=0):ayC a r:=by
 have d:=acE l;obtain⟨a0,a1,u⟩:=EN (arH h).1;obtain⟨q,f1,o⟩:=EN d.from';obtain⟨d0,d1,d2⟩:=EN d.dir;refine⟨λ i hi=>?_,⟨Jq d0,Jq d1,Jq d2⟩,⟨Jq (yF h).1,Jq (yF h).2⟩,arI d.least⟩
 match i,hi with
 | 0,_=>exact acF q a0
 | 1,_=>exact acF f1 a1
 | 2,_=>exact acF o u
section
variable{k:Int}{a:Nat->Nat}{sk:Int}{r:Nat->Nat}{n f:Nat}{L:List Int}{e:Int}
theorem Vs(h:ayC a r){z:Nat}(u:zB a=z)(x:aj bO 299 (acD a r z) (rtA (L,e))):rsX k a sk r z L e=some (Out.of (.bK [.f (rgT r L e),bA (KP r L e)])):=by
 unfold rsX;have y:aj bO 298 [V (KO a r 0) (KO a r 1) (KO a r 2)] (ro3 a r):=afm (h.o 0 (by omega)) (h.o 1 (by omega)) (h.o 2 (by omega));have g2:aj bO 298 [V (r 3) (r 4) (r 5)] (rd3 r):=afm h.d.1 h.d.2.1 h.d.2.2;rw[ak y,ak g2];cases q:rdZ r
 .rw[eU,h.l,BD k a sk u];unfold gWh;rw[ak (O4 h.w.1),ak (O4 h.w.2),ak x];exact ayB r L e q
 .unfold rgT KP s2;rw[q];rfl
theorem aDn(h:ayC a r)(l:aj bO 299 (acD a r (zB a)) (rtA (L,e))):aj bO 297 [SH k a sk,RY r,.f n,.f f] (.bK [.f (rgT r L e),bA (KP r L e)]):=by
 rcases HZ a with d |d |d
 .rw[d]at l;exact aR Y6 (au aG (au aG (au aG (au aG ay)))) aLT aC ((ayy k a sk r n f L e).trans (Vs h d l))
 .rw[d]at l;exact aR Y6 (au aG (au aG (au aG (au aG ay)))) aLT aC ((ayz k a sk r n f L e).trans (Vs h d l))
 .rw[d]at l;exact aR Y6 (au aG (au aG (au aG (au aG ay)))) aLT aC ((ayA k a sk r n f L e).trans (Vs h d l))
end
section
variable(a:Nat->Nat)(sk:Int)(r:Nat->Nat)(t:Nat)(ok:Bool)
noncomputable def amr:Option Out:=cond (!dw (kM a (zB a)) r) (s2 0 false) (gate (aj bO 297 [SH 6 a sk,RY r,.f (bP (kM a (zB a)) r),.f (bX (kM a (zB a)) r)] (.bK [.f t,bA ok])) (cond (cond (!ok) true (!iL t (r 6))) (s2 0 false) (cond (dN t (bP (kM a (zB a)) r)) (s2 (bP (kM a (zB a)) r) true) (cond (bW t (bX (kM a (zB a)) r)) (s2 (bX (kM a (zB a)) r) true) (s2 t true)))))
theorem ayD:ev bO X3 [kS bO 297 λ _=>.bK [.f t,bA ok]] bC Tryz.f88 [.jd 247 (SH 6 a sk),RY r] ret=amr a sk r t ok:=by kernel_rfl
theorem sk6{a:Nat->Nat}{sk:Int}{r:Nat->Nat}{t:Nat}{ok:Bool}(h:aj bO 297 [SH 6 a sk,RY r,.f (bP (kM a (zB a)) r),.f (bX (kM a (zB a)) r)] (.bK [.f t,bA ok])) :
  aj bO 88 [.jd 247 (SH 6 a sk),RY r] (.bK [.f (htT (dw (kM a (zB a)) r) ok t (bP (kM a (zB a)) r) (bX (kM a (zB a)) r) (r 6)),bA (htK (dw (kM a (zB a)) r) ok t (r 6))]):=by
 refine aR qh (au aG ay) Tryz.func88 aC ((ayD a sk r t ok).trans ?_);unfold amr;rw[ak h];exact KI _ _ _ _ _ _
end
section
variable(k:Int)(a:Nat->Nat)(sk:Int)(r:Nat->Nat)(n f z:Nat)(L:List Int)(e:Int)
end
section
variable{k:Int}{a:Nat->Nat}{sk:Int}{r:Nat->Nat}{L:List Int}{e:Int}
end
end Go.Proofs.YtdlhemnconimnaaGreat.Hs
namespace Go.Gv
open Go.RowKit Go.Ev
noncomputable section
def jW(ops:Array Oper)(i:Nat):List Nat:=match ops[i]? with
 |some o=>(o.after.toList.filter λ e=>avn .any e).map (·.on)
 |none=>[]
theorem aad{ops:Array Oper}{listed:Array Bool}{i:Nat}(h:i∈aFj .any ops listed)(hs:listed.size=ops.size):i<ops.size/\listed.toList[i]?=some false/\∀d,d∈jW ops i->listed.toList[d]?=some true:=by
 unfold aFj at h;obtain⟨M,C⟩:=aII.1 h;have hi:i<ops.size:=aHi.1 M;simp only[CX,aIp]at C;obtain⟨I,y⟩:=C;have l:i<listed.size:=by omega
 refine⟨hi,?_,λ d x=>?_⟩
 .rw[aIh,ayT l];simpa[aKw,l]using I
 .unfold jW at x;rw[ayT hi]at x y;simp only[aaF,apP]at y;obtain⟨e,G,rfl⟩:=aN8.1 x;obtain⟨u,q⟩:=aII.1 G;have:=aMv.1 y e (by simpa using u);rw[q]at this;simp only[aH7,Bool.false_or]at this;by_cases o:e.on<listed.size
  .rw[aIh,ayT o];simpa[aKw,o]using this
  .simp[aKw,o]at this
theorem aae{ops:Array Oper}{listed:Array Bool}(hs:listed.size=ops.size)(l:∀i,i<ops.size->∀d,d∈jW ops i->d<i)(h:aFj .any ops listed=[]):∀i,i<ops.size->listed.toList[i]?=some true:=by
 intro i
 induction i using aHf with
 |ind i y =>
  intro hi;have o:i<listed.size:=by omega
  rw[aIh,ayT o];cases hb:listed[i]with
  |true=>rfl
  |false =>
   have x:i∈aFj .any ops listed:=by
    unfold aFj;refine aII.2 ⟨aHi.2 hi,?_⟩;simp only[CX,aIp];refine⟨by simp[aKw,o,hb],?_⟩;rw[ayT hi];simp only[aaF,apP];refine aMv.2 λ e C=>?_;cases u:avn .any e
    .rfl
    .have G:e.on∈jW ops i:=by unfold jW;rw[ayT hi];exact aN8.2 ⟨e,aII.2 ⟨by simpa using C,u⟩,rfl⟩
     have q:=l i hi _ G;have:=y e.on q (by omega);rw[aIh,ayT (by omega)]at this;simp only[gU]at this;simp[aKw,show e.on<listed.size by omega,this]
   rw[h]at x;cases x
end
noncomputable section
theorem aiu{P:Program}{T:Tab}{ops:Array Oper}{K:St->Prop}(st:List Bool->St)(C:∀i,i<ops.size->∀d,d∈jW ops i->d<i)
  (hstep:∀(bs:List Bool) (i:Nat),bs.length=ops.size->i<ops.size->bs[i]?=some false->(∀d,d∈jW ops i->bs[d]?=some true)->(∀j d,bs[j]?=some true->d∈jW ops j->bs[d]?=some true)->∃o,ops[i]?=some o/\LH P T ops.toList (st bs) o (st (bs.set i true)))
  (q:K (st (aGe ops.size true))):∀(fuel:Nat) (listed:Array Bool),listed.size=ops.size->listed.toList.count false<=fuel->(∀j d,listed.toList[j]?=some true->d∈jW ops j->listed.toList[d]?=some true)->AnyS P T ops K fuel listed (st listed.toList):=by
 have x:∀listed:Array Bool,listed.size=ops.size->(∀i,i<ops.size->listed.toList[i]?=some true)->listed.toList=aGe ops.size true:=λ listed hs h=>by
  apply List.ext_getElem?;intro i;by_cases hi:i<ops.size
  .rw[h i hi,List.getElem?_replicate,gH hi]
  .rw[apa (by simp;omega),apa (by simp;omega)]
 intro fuel
 induction fuel with
 |zero =>
  intro listed hs hc _
  have u:∀i,i<ops.size->listed.toList[i]?=some true:=λ i hi=>by
   rw[Ga (by simp;omega)];cases hb:listed.toList[i]'(by simp;omega)with
   |true=>rfl
   |false =>
    have:false∈listed.toList:=by rw[<-hb];exact aJk _
    have:=aML.2 this;omega
  refine⟨?_,by rw[x listed hs u];exact q⟩;cases hr:aFj .any ops listed with
  |nil=>rfl
  |cons i r =>
   obtain⟨Q,y,_⟩:=aad (i:=i) (by rw[hr];simp) hs;rw[u i Q]at y;cases y
 |succ fuel ih =>
  intro listed hs hc M;refine⟨λ h0=>by rw[x listed hs (aae hs C h0)];exact q,λ i hi=>?_⟩;obtain⟨Q,y,Z⟩:=aad hi hs;obtain⟨o,ho,hA⟩:=hstep listed.toList i (by simpa using hs) Q y Z M;have e:(listed.setIfInBounds i true).toList=listed.toList.set i true:=by simp
  refine⟨o,_,ho,hA,?_⟩;rw[<-e];have G:i<listed.toList.length:=by simpa[hs]using Q
  refine ih _ (by simpa using hs) ?_ (λ j d U W=>?_)
  rotate_left
  .rw[e]at U ⊢;by_cases I:j=i
   .subst I;have:=Z d W;by_cases l:d=j
    .rw[l,aJE G]
    .rw[aIV (λ c=>l c.symm)];exact this
   .rw[aIV (λ c=>I c.symm)]at U;have:=M j d U W;by_cases l:d=i
    .rw[l,aJE G]
    .rw[aIV (λ c=>l c.symm)];exact this
  rw[e];have R:i<listed.toList.length:=by simpa[hs]using Q
  have hb:listed.toList[i]=false:=by rw[Ga R]at y;simpa using y
  have hp:0<listed.toList.count false:=aML.2 (by rw[<-hb];exact aJk R);rw[List.count_set R,hb];show listed.toList.count false - 1+0<=fuel;omega
end
noncomputable section
def qV(f:AV->AV):Row->Row
 |.c c=>.c (c.map f)
 |r=>r
theorem aeg{E E':Env}{f:AV->AV}(h:∀x u,rel E x u->rel E' (f x) u):∀{c:List AV} {us:List Value},pre E c us->pre E' (c.map f) us
 | [],_,_=>pre_nil
 |x::xs,us,hp=>by obtain⟨u,d,rfl,o,l⟩:=bF.1 hp;exact bF.2 ⟨u,d,rfl,h x u o,aeg h l⟩
theorem Xc{np k:Nat}{s:St}{y:Row}(hk:s.mem[k]?=some y)(hl0:y.live=true)(hnp:np<=k)(hlv:∀j,j<np->aN s.mem j=true)(hb:s.slots.all (λ q=>q.2.isEmpty)=true)(f:AV->AV)
  (hV:∀(E E':Env),E.le E'->E'.w=E.w->(∀b c,E.O k=some (b,c)->lQ E b c y/\¬E'.A b)->∀x u,rel E x u->rel E' (f x) u) :
  fQ np s ⟨s.slots.map λ q=>(f q.1,q.2),(s.mem.map (qV f)).set k .dead⟩:=by
 have hkl:k<s.mem.length:=(abK.1 hk).1;intro A0 R w0 E a W hI;have d:Wd A0 R w0 E s.mem:=hI.wd;have P:aN s.mem k=true:=by unfold aN;rw[hk];exact hl0
 let E':Env:={ E with A:=λ b=>E.A b/\∀c,E.O k≠some (b,c) }
 have o:E.le E':=⟨λ b hb ob yS=>⟨λ h=>hb h.1,yS⟩,λ _ _ h=>h⟩
 have I:∀x u,rel E x u->rel E' (f x) u:=hV E E' o rfl λ b c hO=>by obtain⟨row,Q,g2⟩:=d.rows k b c hO;rw[hk]at Q;cases Q;exact⟨g2,λ h=>h.2 _ hO⟩
 have hm:∀(j:Nat) (row:Row),s.mem[j]?=some row->∃l,((s.mem.map (qV f)).set k .dead)[j]?=some l/\((j=k/\l=.dead)\/(j≠k/\l=qV f row)):=λ j row C=>by
  by_cases e1:j=k
  .subst e1;exact⟨.dead,by rw[aJE (by simpa using hkl)],wV ⟨rfl,rfl⟩⟩
  .exact⟨qV f row,by rw[aIV (by omega),aG1,C];rfl,Gc ⟨e1,rfl⟩⟩
 have lv:∀row:Row,(qV f row).live=row.live:=λ row=>by cases row<;>rfl
 have hlive:∀j,aN ((s.mem.map (qV f)).set k .dead) j=true->(∃p,E.O j=some p)->j≠k/\aN s.mem j=true:=λ j C ⟨p,hp⟩=>by
  obtain⟨row,Q,_⟩:=d.rows j p.1 p.2 hp;obtain⟨l,g2,g3⟩:=hm j row Q;unfold aN at C ⊢;rw[g2]at C;rw[Q];rcases g3 with⟨_,rfl⟩ | ⟨G,rfl⟩
  .cases C
  .have C:(qV f row).live=true:=C;rw[lv]at C;exact⟨G,C⟩
 have hch:∀t,(s.slots.getD t dflt).2=[]:=λ t=>by
  rw[Gd];cases hq:s.slots[t]? with
  |none=>rfl
  |some q=>simpa using ab3.1 hb q (ajw hq)
 have hS:∀t,t<s.slots.length->(s.slots.map λ q=>(f q.1,q.2)).getD t dflt=(f (s.slots.getD t dflt).1,(s.slots.getD t dflt).2):=λ t ht=>by simp only[Gd,aG1];rw[Ga ht];rfl
 have hS':∀t,¬t<s.slots.length->(s.slots.map λ q=>(f q.1,q.2)).getD t dflt=dflt:=λ t ht=>by rw[Gd,apa (by simpa using ht)];rfl
 have hfr:AB E' (s.slots.map λ q=>(f q.1,q.2)) (s.slots.map λ q=>(f q.1,q.2)) a.tmps:=by
  have h0:=hI.frame;refine⟨⟨by rw[aLf];exact h0.1.1,vo o h0.1.2⟩,λ t=>?_⟩;have M:(tF s.slots (s.slots.getD t dflt).2=true->rel E (s.slots.getD t dflt).1 (a.tmps.getD t undef))/\_:=h0.2 t;by_cases ht:t<s.slots.length
  .rw[hS t ht];rw[hch t]at M ⊢;exact⟨λ _=>I _ _ (M.1 rfl),λ h=>by cases h⟩
  .rw[hS' t ht];have e:s.slots.getD t dflt=dflt:=by rw[Gd,apa (by omega)];rfl
   rw[e]at M;exact⟨λ _=>lS o (M.1 rfl),λ h=>by cases h⟩
 refine⟨E',rfl,hI.defers,hfr,⟨λ j b c hb=>?_,λ b hb=>d.small b hb.1,λ b hb=>⟨d.old b hb,λ c hc=>?_⟩,λ j b c hb hl=>?_,λ j j' b c c' hb hb' hl hl'=>?_,d.below,⟨λ b hb ob yS=>?_,d.zA.own⟩⟩⟩
 .obtain⟨row,Q,g2⟩:=d.rows j b c hb;obtain⟨l,g3,g4⟩:=hm j row Q;refine⟨l,g3,?_⟩;rcases g4 with⟨_,rfl⟩ | ⟨G,rfl⟩
  .trivial
  .cases row with
   |c cl =>
    obtain⟨cs,e0,U,h4⟩:=g2;exact⟨cs,e0,U,aeg I h4⟩
   |a _ _ _ _=>exact iT o g2 λ _=>rfl
   |dead=>exact iT o g2 λ _=>rfl
   |z _ _ _ _=>exact iT o g2 λ _=>rfl
   |t _ _=>exact iT o g2 λ _=>rfl
   |i _ _ _=>exact iT o g2 λ _=>rfl
 .have h2:=W.2.2;have U:=(d.own k b c hc P).2;have h4:=h2 b hb;rcases U with U |U
  .obtain⟨j,c',C,hO⟩:=W.2.1 b U;have:=d.one k j b c c' hc (d.zA.own j _ hO) P (hlv j C);omega
  .omega
 .obtain⟨G,Z⟩:=hlive j hl ⟨_,hb⟩;obtain⟨M,h2⟩:=d.own j b c hb Z;exact⟨⟨M,λ c' hc=>G (d.one j k b c c' hb hc Z P)⟩,h2⟩
 .exact d.one j j' b c c' hb hb' (hlive j hl ⟨_,hb⟩).2 (hlive j' hl' ⟨_,hb'⟩).2
 .obtain⟨M,h2⟩:=d.zA.keep b hb ob yS;exact⟨λ h=>M h.1,h2⟩
def TR(k:Nat)(l:List AV):AV->AV
 |.own k' off=>cond (amH k' k) (.iN l off) (.own k' off)
 |x=>x
def ai7(np k:Nat):kH:=λ s d=>match s.mem[k]? with
 |some (.c l)=>cond ((aFB np).all (aN s.mem)&&s.slots.all (λ q=>q.2.isEmpty)) (d ⟨s.slots.map λ q=>(TR k l q.1,q.2),(s.mem.map (qV (TR k l))).set k .dead⟩) none
 |_=>none
theorem aeh(np k:Nat)(C:np<=k):gD np (ai7 np k):=λ s Ka r h=>by
 unfold ai7 at h;split at h
 .rename_i l M;cases hb:((aFB np).all (aN s.mem)&&s.slots.all (λ q=>q.2.isEmpty))
  .rw[hb]at h;cases h
  .rw[hb]at h;simp only[aY]at h;simp only[CX]at hb;refine⟨_,h,Xc M rfl C (λ j P=>ab3.1 hb.1 j (aHi.2 P)) hb.2 (TR k l) λ E E' d hw Q x u y=>?_⟩;cases x<;>try exact lS d y
   rename_i I G;cases o:amH I k
   .simp only[TR,o,eU];exact lS d y
   .simp only[TR,o,aY];have e0:=aiL o;subst e0;obtain⟨b,c,Z,rfl⟩:=mP.1 y;obtain⟨⟨cs,e,W,U⟩,R⟩:=Q b c Z;exact zD.2 ⟨b,0,cs,e,(0,0),by rw[ZO],R,by rw[hw];exact W,by rw[aJw];exact lT d U⟩
 .cases h
mutual
def zG(k:Nat)(el:Nat->List AV):AV->AV
 |.bQ k' sz st len=>cond (amH k' k) (.sl sz len λ i=>el (st+i)) (.bQ k' sz st len)
 |.iN l off=>.ref (wI k el l) off
 |x=>x
def wI(k:Nat)(el:Nat->List AV):List AV->List AV
 | []=>[]
 |x::xs=>zG k el x::wI k el xs
end
mutual
def okO(k sz n:Nat):AV->Bool
 |.bQ k' sz' st len=>amH k' k&&(amH sz' sz&&apB (st+len) n)
 |.iN l _=>Kc k sz n l
 |x=>iq x
def Kc(k sz n:Nat):List AV->Bool
 | []=>true
 |x::xs=>okO k sz n x&&Kc k sz n xs
end
section
variable{k sz n:Nat}{el:Nat->List AV}{E E':Env}
mutual
theorem Nn(q:E.le E')(hw:E'.w=E.w)(I:∀b c,E.O k=some (b,c)->∃e,lQ E b c (.a e sz n el)/\¬E'.A b):∀(x:AV) {u:Value},okO k sz n x=true->bY x E u->bY (zG k el x) E'.fz u
 |.bQ k' sz' st len,u,hb,hr=>by
  rw[okO]at hb;simp only[CX]at hb;have e0:=aiL hb.1;have e1:=aiL hb.2.1;have P:=Ou hb.2.2;subst e0 e1;rw[zG,aIC,aY];rcases dV.1 hr with⟨_,Q,rfl⟩ | ⟨b,c,n0,y,M,h4,rfl⟩
  .exact iZ.2 ⟨none,0,by rw[Q],by omega,wV Q⟩
  .obtain⟨e,⟨G,C,g2,g3,g4,g5,Z⟩,R⟩:=I b _ y;refine iZ.2 ⟨_,_,rfl,by omega,Gc ⟨b,st*sz',G,e,(0,0),rfl,R,by show E'.w.heap[b]?=_;rw[hw];exact C,λ i hi=>?_⟩⟩;obtain⟨W,U⟩:=Z (st+i) (by omega);refine⟨W,?_⟩;rw[<-Nat.add_mul];exact lT (E:=E.fz) (E':=E'.fz.fz) q.fz U
 |.iN l off,u,hb,hr=>by rw[okO]at hb;rw[zG];obtain⟨b,o,G,e,fz,rfl,y,P,M⟩:=zD.1 hr;obtain⟨C,g2⟩:=q.keep b y _ P;exact nR.2 ⟨b,o,G,e,fz,rfl,C,g2,Xd q hw I l hb M⟩
 |.x v,u,hb,hr=>by simp only[zG];exact fG _ (E:=E) (E':=E'.fz) q.keep (by simpa[okO]using hb) _ hr
 |.f v,u,hb,hr=>by simp only[zG];exact fG _ (E:=E) (E':=E'.fz) q.keep (by simpa[okO]using hb) _ hr
 |.cx a b,u,hb,hr=>by simp only[zG];exact fG _ (E:=E) (E':=E'.fz) q.keep (by simpa[okO]using hb) _ hr
 |.agg l,u,hb,hr=>by simp only[zG];exact fG _ (E:=E) (E':=E'.fz) q.keep (by simpa[okO]using hb) _ hr
 |.bK l,u,hb,hr=>by simp only[zG];exact fG _ (E:=E) (E':=E'.fz) q.keep (by simpa[okO]using hb) _ hr
 |.own a b,u,hb,hr=>by simp[okO,iq]at hb
 |.qX a b c d,u,hb,hr=>by simp[okO,iq]at hb
 |.view a b c d e,u,hb,hr=>by simp[okO,iq]at hb
 |.ref l off,u,hb,hr=>by simp only[zG];exact fG _ (E:=E) (E':=E'.fz) q.keep (by simpa[okO]using hb) _ hr
 |.sl a b c,u,hb,hr=>by simp only[zG];exact fG _ (E:=E) (E':=E'.fz) q.keep (by simpa[okO]using hb) _ hr
 |.jd t x,u,hb,hr=>by simp only[zG];exact fG _ (E:=E) (E':=E'.fz) q.keep (by simpa[okO]using hb) _ hr
 |.fn g a b,u,hb,hr=>by simp only[zG];exact fG _ (E:=E) (E':=E'.fz) q.keep (by simpa[okO]using hb) _ hr
 |.any,u,hb,hr=>by simp only[zG];exact fG _ (E:=E) (E':=E'.fz) q.keep (by simpa[okO]using hb) _ hr
theorem Xd(d:E.le E')(hw:E'.w=E.w)(l:∀b c,E.O k=some (b,c)->∃e,lQ E b c (.a e sz n el)/\¬E'.A b):∀(xs:List AV) {us:List Value},Kc k sz n xs=true->lu xs E us->lu (wI k el xs) E'.fz us
 | [],us,_,_=>by rw[wI];unfold lu;trivial
 |x::xs,u::us,hb,hr=>by rw[Kc]at hb;simp only[CX]at hb;rw[wI];unfold lu at *;exact⟨Nn d hw l x hb.1 hr.1,Xd d hw l xs hb.2 hr.2⟩
 |_::_,[],_,hr=>by unfold lu at hr;exact hr.elim
end
end
def Xe(k sz n:Nat)(el:Nat->List AV):AV->AV
 |.bQ k' sz' st len=>cond (okO k sz n (.bQ k' sz' st len)) (zG k el (.bQ k' sz' st len)) (.bQ k' sz' st len)
 |.iN l off=>cond (Kc k sz n l) (.ref (wI k el l) off) (.iN l off)
 |x=>x
theorem ai8{np k:Nat}{s:St}{e:TypeId}{sz n:Nat}{el:Nat->List AV}(R:s.mem[k]?=some (.a e sz n el))(M:np<=k)(P:∀j,j<np->aN s.mem j=true)(hb:s.slots.all (λ q=>q.2.isEmpty)=true) :
  fQ np s ⟨s.slots.map λ q=>(Xe k sz n el q.1,q.2),(s.mem.map (qV (Xe k sz n el))).set k .dead⟩:=by
 refine Xc R rfl M P hb (Xe k sz n el) λ E E' d hw Q x u G=>?_;have up:∀{y:AV},rel E'.fz y u->rel E' y u:=λ h=>lS (E:=E'.fz) (E':=E') ⟨λ _ W _ U=>⟨W,U⟩,λ _ _ hb=>by cases hb⟩ h;cases x<;>try exact lS d G
 .rename_i I o st len;show rel E' (cond (okO k sz n (.bQ I o st len)) (zG k el (.bQ I o st len)) (.bQ I o st len)) u;cases hb:okO k sz n (.bQ I o st len)
  .rw[eU];exact lS d G
  .rw[aY];exact up (Nn d hw (λ b c h=>⟨e,Q b c h⟩) _ hb G)
 .rename_i l C;show rel E' (cond (Kc k sz n l) (.ref (wI k el l) C) (.iN l C)) u;cases hb:Kc k sz n l
  .rw[eU];exact lS d G
  .rw[aY];have:=Nn (k:=k) (sz:=sz) (n:=n) (el:=el) d hw (λ b c h=>⟨e,Q b c h⟩) (.iN l C) (u:=u) (by rw[okO];exact hb) G;rw[zG]at this;exact up this
def aBx(np:Nat)(s2:St):kH:=λ s k=>gate (fQ np s s2) (k s2)
theorem apv(np:Nat)(s2:St):gD np (aBx np s2):=λ s k r h=>by exact⟨s2,(ji h).2,(ji h).1⟩
def auc(P:Program)(l:List Entry)(ks:List bf)(ms:List dZ)(d:List iM)(rs:List jK)(L:Nat->Option dY)(Z:Nat->Option kH)(fn:Func)(args:List AV)(mem:List Row)(τ:List (Option Nat)):Option Out:=Ms P (yR l ks ms d rs) (lq P (yR l ks ms d rs)) L Z 40 fn args mem τ
def aBy(P:Program)(l:List Entry)(ks:List bf)(ms:List dZ)(d:List iM)(rs:List jK)(L:Nat->Option dY)(Z:Nat->Option kH)(fn:Func)(args:List AV)(k:AV->Option Out):Option Out:=TS P (yR l ks ms d rs) (lq P (yR l ks ms d rs)) L Z 40 fn args k
end
noncomputable section
theorem avx{A0 R:Nat->Prop}{w0 E:Env}{mem:List Row}(X:List Row)(d:Wd A0 R w0 E mem):Wd A0 R w0 E (mem++X):=by
 have y:∀k p,E.O k=some p->(mem++X)[k]?=mem[k]?:=λ k p u=>aiK (d.dom k p.1 p.2 u);have lives:∀k p,E.O k=some p->aN (mem++X) k=aN mem k:=λ k p u=>by unfold aN;rw[y k p u]
 refine⟨λ k b c hb=>?_,d.small,d.old,λ k b c hb q=>d.own k b c hb (by rw[<-lives k _ hb];exact q),λ k x b c I hb l q o=>d.one k x b c I hb l (by rw[<-lives k _ hb];exact q) (by rw[<-lives x _ l];exact o),d.below,d.zA⟩;obtain⟨row,G,C⟩:=d.rows k b c hb;exact⟨row,(y k _ hb).trans G,C⟩
theorem apn{np:Nat}{sl:List (AV × Chain)}{mem:List Row}(X:List Row):fQ np ⟨sl,mem⟩ ⟨sl,mem++X⟩:=λ _ _ _ E _ _ d=>⟨E,rfl,d.defers,d.frame,avx X d.wd⟩
def CL:List AV->List AV->Prop
 | [],[]=>True
 |x::xs,y::ys=>(y=x\/∀(E:Env) (u:Value),rel E x u->rel E y u)/\CL xs ys
 |_,_=>False
theorem CL.pre:∀{l o:List AV},CL l o->∀(E:Env) (us:List Value),pre E l us->pre E o us
 | [],[],_,_,_,_=>pre_nil
 |x::xs,y::ys,h,E,us,hp=>by
  obtain⟨u,d,rfl,q,C⟩:=bF.1 hp;refine bF.2 ⟨u,d,rfl,?_,CL.pre h.2 E d C⟩;rcases h.1 with rfl |g
  .exact q
  .exact g E u q
 | [],_::_,h,_,_,_=>h.elim
 |_::_,[],h,_,_,_=>h.elim
theorem aBt{l d:List AV}(h:CL l d):H7 (.c l) (.c d):=Gc (Gc ⟨l,d,rfl,rfl,h.pre⟩)
theorem ad9{e sz n:Nat}{el d:Nat->List AV}(h:∀i,i<n->d i=el i):H7 (.a e sz n el) (.a e sz n d):=Gc (wV ⟨e,sz,n,el,d,rfl,rfl,λ i hi=>by rw[h i hi];exact⟨rfl,λ _ _ h=>h⟩⟩)
def shX(n x:Nat)(i:Nat):Option Nat:=Ng (aFB n) (n+x) i
theorem TI{P:Program}{f:Nat}{args:List AV}{o mem1:List Row}{v:AV}(n:Nat)(y:o.length=n)(h:dJ P f args o v mem1)(X:List Row)(x:nodupB (aFB n)=true)(hlive:∀(i:Nat) (r:Row),o[i]?=some r->r.live=true/\wE (rU (aFB n)) r=r)(hargs:args=jo (rU (aFB n)) args)(Z:n<=mem1.length){I:AV}(hv:I=kG (shX n X.length) v){mem':List Row}(d:mem'=(mem1.take n).map (wE (shX n X.length))++(X++(mem1.drop n).map (wE (shX n X.length)))) :
  rW P f args (o++X) I mem':=by
 have u:(o++X).length=n+X.length:=by rw[List.length_append,y]
 have M:∀i,i<n->(aFB n)[i]?=some i:=λ i hi=>by rw[List.getElem?_range hi]
 have ht:((mem1.take n).map (wE (shX n X.length))).length=n:=by rw[aLf,List.length_take];omega
 have hw:=TJ (args:=args) (mem:=o++X) (mem':=mem') h (aFB n) (by rw[aIq,y]) x hargs (λ i k hi=>?_) ⟨λ k Q C=>?_,λ i k r hi q=>?_,λ i r hi q=>?_⟩
 .rw[u]at hw;rw[hv];exact hw
 .have l:i<n:=by have:=(abK.1 hi).1;rwa [aIq]at this
  rw[M i l]at hi;cases hi;have R:(o++X)[i]?=o[i]?:=aiK (by omega);have hs:∃r,o[i]?=some r:=⟨_,Ga (by omega)⟩;obtain⟨r,hs⟩:=hs;obtain⟨W,U⟩:=hlive i r hs;exact⟨r,by rw[R,hs],W,by rw[hs,U]⟩
 .have G:n<=k:=by
   by_cases c:k<n
   .exact absurd (aHi.2 c) Q
   .omega
  rw[u]at C;rw[d,aqb (by rw[ht];exact G),ht,aiK (by omega),aqb (by omega),y]
 .have l:i<n:=by have:=(abK.1 hi).1;rwa [aIq]at this
  rw[M i l]at hi;cases hi;rw[d,aiK (by rw[ht];exact l),aG1,List.getElem?_take_of_lt l,q];show some _=some _;rw[u];rfl
 .rw[aIq]at hi;rw[u,aIq,d,aqb (by rw[ht];omega),ht,aqb (by omega),show n+X.length+(i - n) - n - X.length=i - n by omega,aG1,List.getElem?_drop,show n+(i - n)=i by omega,q];rfl
structure qR where
 s:String
 g:apo
def aea:List qR->String->Option apo
 | [],_=>none
 |e::l,s=>cond (e.s==s) (some e.g) (aea l s)
def TK(P:Program)(e:qR):Prop:=∀v d r,e.g (v::d)=(true,r)->rX P e.s v d r
theorem WW{P:Program}{d:String}{g:apo}:∀(l:List qR),(∀e,e∈l->TK P e)->aea l d=some g->∀v args r,g (v::args)=(true,r)->rX P d v args r
 | [],_,h=>by cases h
 |e::l,hl,h=>by
  simp only[aea]at h;cases hb:(e.s==d)
  .rw[hb]at h;exact WW l (λ q o=>hl q (by simp[o])) h
  .rw[hb]at h;simp only[aY,gU]at h;rw[<-h,<-Aw hb];exact hl e (by simp)
def aiU(l:List Entry)(ks:List bf)(ms:List dZ)(d:List iM)(rs:List jK)(is:List qR):Tab:={ yR l ks ms d rs with i:=aea is }
theorem Ml{P:Program}{l:List Entry}{ks:List bf}{ms:List dZ}{d:List iM}{rs:List jK}{is:List qR}(x:∀e,e∈l->jr P e)(y:∀e,e∈ks->sZ P e)(u:∀e,e∈ms->oN P e)(hw:∀e,e∈d->H6 P e)(q:∀e,e∈rs->E9 P e)(hi:∀e,e∈is->TK P e):BR P (aiU l ks ms d rs is):=by obtain⟨⟨I,G,_⟩,C⟩:=jV x y u hw q;exact⟨⟨I,G,λ o g h=>WW is hi h⟩,C⟩
def iQ(P:Program)(d:String)(r:AV->AV):qR:=⟨d,λ l=>match l with
 |v::us=>(jv (rX P d v us (r v)),r v)
 | []=>(false,.any)⟩
theorem WX{P:Program}{d:String}{r:AV->AV}:TK P (iQ P d r):=λ v l q h=>by simp only[iQ,Prod.mk.injEq]at h;obtain⟨o,rfl⟩:=h;exact qU o
def agm(P:Program)(l:List Entry)(ks:List bf)(is:List qR)(L:Nat->Option dY)(c:Code)(s:St)(k:jL):Option Out:=jw P (aiU l ks [] [] [] is) (lq P (aiU l ks [] [] [] is)) L 40 c s k
def evI(P:Program)(l:List Entry)(ks:List bf)(is:List qR)(L:Nat->Option dY)(fn:Func)(args:List AV)(k:AV->Option Out):Option Out:=abody P (aiU l ks [] [] [] is) (lq P (aiU l ks [] [] [] is)) L 40 fn args k
end
end Go.Gv
namespace Go.Proofs.YtdlhemnconimnaaGreat.Tr
open Go.Gv
theorem dF{np:Nat}{l:List Entry}{ks:List bf}{ms:List dZ}{x:List iM}{rs:List jK}{L:Nat->Option dY}{c:Code}{s s':St}{e:Exit}{k:jL}(C:FB np k)(y:∀e,e∈l->jr bO e)(u:∀e,e∈ks->sZ bO e)(q:∀e,e∈ms->oN bO e)(d:∀e,e∈x->H6 bO e)(o:∀e,e∈rs->E9 bO e)(G:nT np bO L c)(h:qN bO l ks ms x rs L c s k=some ⟨e,s',.any⟩):fM np bO c s e s' :=Az C (jV y u q d o) (gJ (jV y u q d o) (by kernel_rfl)) G h
theorem aiV{l:List Entry}{ks:List bf}{ms:List dZ}{C:List iM}{rs:List jK}{L:Nat->Option dY}{Z:Nat->Option kH}(G:∀e,e∈l->jr bO e)(x:∀e,e∈ks->sZ bO e)(q:∀e,e∈ms->oN bO e)(d:∀e,e∈C->H6 bO e)(o:∀e,e∈rs->E9 bO e){f:Nat}{fn:Func}(hf:bO.funcs[f]?=some fn)
  {args : List AV} {mem : List Row} (I : ∀ i h, Z i = some h -> gD mem.length h) (M : nT mem.length bO L (dH fn)) {τ : List (Option Nat)} (P : Fa mem.length τ = true) {v : AV} {mem1 : List Row} (h : auc bO l ks ms C rs L Z fn args mem τ = nU v mem1) (y : (fn.name == "runtime.NumGoroutine") = false := by kernel_rfl) (hb : fn.body = some (dH fn) := by kernel_rfl) (u : apB args.length fn.ntmps = true := by rfl) : dJ bO f args mem v mem1 :=
 CQ (jV G x q d o) (gJ (jV G x q d o) (by kernel_rfl)) 40 hf y hb I M u P h
def fK(np:Nat)(c:Code)(s:St)(e:Exit)(sf:St):Prop:=∃(S:Nat->St) (n:Nat),S 0=s/\(∀j,j<n->fM np bO c (S j) .normal (S (j+1)))/\fM np bO c (S n) e sf
theorem fK.last{np:Nat}{c:Code}{s sf:St}{e:Exit}(h:fM np bO c s e sf):fK np c s e sf:=⟨λ _=>s,0,rfl,λ j d=>absurd d (avm j),h⟩
theorem fK.cons{np:Nat}{c:Code}{s s1 sf:St}{e:Exit}(h:fM np bO c s .normal s1)(g:fK np c s1 e sf):fK np c s e sf:=by
 obtain⟨S,n,o,l,d⟩:=g;refine⟨λ j=>match j with | 0=>s |j+1=>S j,n+1,rfl,λ j q=>?_,d⟩
 cases j with
 |zero=>show fM np bO c s .normal (S 0);rw[o];exact h
 |succ j=>exact l j (by omega)
theorem fK.loop{np:Nat}{c:Code}{s sf:St}{e:Exit}(d:e≠.normal)(h:fK np c s e sf):fM np bO (.loop c) s e sf:=by obtain⟨S,n,rfl,o,l⟩:=h;exact aP S n e sf d o l
end Go.Proofs.YtdlhemnconimnaaGreat.Tr
namespace Go.Gv
def PB(lo n:Nat)(X Y:Nat->Int):Prop:=∃ σ τ:Nat->Nat,(∀i,σ (τ i)=i)/\(∀i,τ (σ i)=i)/\(∀i,i<lo\/lo+n<=i->σ i=i)/\∀i,Y i=X (σ i)
theorem PB.refl(lo n:Nat)(X:Nat->Int):PB lo n X X:=⟨id,id,λ _=>rfl,λ _=>rfl,λ _ _=>rfl,λ _=>rfl⟩
theorem PB.trans{lo n:Nat}{X Y Z:Nat->Int}(h:PB lo n X Y)(g:PB lo n Y Z):PB lo n X Z:=by
 obtain⟨σ,τ,q,o,l,d⟩:=h;obtain⟨σ',τ',x,g2,g3,u⟩:=g;refine⟨λ i=>σ (σ' i),λ i=>τ' (τ i),λ i=>?_,λ i=>?_,λ i hi=>?_,λ i=>?_⟩
 .show σ (σ' (τ' (τ i)))=i;rw[x,q]
 .show τ' (τ (σ (σ' i)))=i;rw[o,g2]
 .show σ (σ' i)=i;rw[g3 i hi,l i hi]
 .rw[u,d]
theorem PB.mono{lo n l n':Nat}{X Y:Nat->Int}(h:PB lo n X Y)(q:l<=lo)(o:lo+n<=l+n'):PB l n' X Y:=by obtain⟨σ,τ,a,b,c,d⟩:=h;exact⟨σ,τ,a,b,λ i hi=>c i (by omega),d⟩
def zh(X:Nat->Int)(p q:Nat):Nat->Int:=λ i=>cond (i==p) (X q) (cond (i==q) (X p) (X i))
theorem PB.swap{lo n p q:Nat}(X:Nat->Int)(u:lo<=p/\p<lo+n)(hq:lo<=q/\q<lo+n):PB lo n X (zh X p q):=by
 have o:∀i:Nat,(λ i:Nat=>if i=p then q else if i=q then p else i) ((λ i:Nat=>if i=p then q else if i=q then p else i) i)=i:=by
  intro i;simp only;by_cases l:i=p
  .subst l;rw[gH rfl];by_cases d:q=i
   .rw[gH d];exact d
   .rw[fP d,gH rfl]
  .rw[fP l];by_cases d:i=q
   .rw[gH d,gH rfl,d]
   .rw[fP d,fP l,fP d]
 refine⟨λ i=>if i=p then q else if i=q then p else i,λ i=>if i=p then q else if i=q then p else i,o,o,λ i hi=>?_,λ i=>?_⟩
 .show(if i=p then q else if i=q then p else i)=i
  rw[fP (by omega),fP (by omega)]
 .show zh X p q i=X (if i=p then q else if i=q then p else i)
  unfold zh;by_cases l:i=p
  .rw[gH l,l,BEq.rfl,aY]
  .rw[fP l,mI l,eU];by_cases d:i=q
   .rw[gH d,d,BEq.rfl,aY]
   .rw[fP d,mI d,eU]
theorem PB.out{lo n:Nat}{X Y:Nat->Int}(h:PB lo n X Y){i:Nat}(hi:i<lo\/lo+n<=i):Y i=X i:=by obtain⟨σ,τ,_,_,c,d⟩:=h;rw[d,c i hi]
theorem PB.from{lo n:Nat}{X Y:Nat->Int}(h:PB lo n X Y){i:Nat}(hi:lo<=i/\i<lo+n):∃j,(lo<=j/\j<lo+n)/\Y i=X j:=by obtain⟨σ,τ,a,b,c,d⟩:=h;refine⟨σ i,?_,d i⟩;refine Classical.byContradiction λ l=>?_;have:=c (σ i) (by omega);have e:=congrArg τ this;rw[b (σ i),b i]at e;omega
theorem PB.symm{lo n:Nat}{X Y:Nat->Int}(h:PB lo n X Y):PB lo n Y X:=by
 obtain⟨σ,τ,a,b,c,d⟩:=h;refine⟨τ,σ,b,a,λ i hi=>?_,λ i=>?_⟩
 .have:=congrArg τ (c i hi);rw[b]at this;exact this.symm
 .rw[d,a]
theorem PB.all{lo n:Nat}{X Y:Nat->Int}(h:PB lo n X Y){p:Int->Prop}(d:∀i,lo<=i/\i<lo+n->p (X i)):∀i,lo<=i/\i<lo+n->p (Y i):=λ i hi=>by obtain⟨j,o,l⟩:=h.from hi;rw[l];exact d j o
open Go.RowKit Go.Ev
noncomputable section
def agc(P:Program)(f:Nat)(cf:Int->Int->Int):jK:=⟨f,λ l d=>match l with
 | [.x (.int .i64 x),.x (.int .i64 y),.own kt 0,.own ka 0]=>match d kt with
  |some (.c [.own k 0])=>match d k with
   |some (.c [th,bx,rt])=>match d ka with
    |some (.c [ax])=>some (jv (aj P f [.x (.int .i64 x),.x (.int .i64 y),.ref [.ref [th,bx,rt] 0] 0,.ref [ax] 0] (.x (.int .i64 (cf x y)))/\cK [th,bx,rt,ax]=true),.x (.int .i64 (cf x y)),[kt,k,ka])
    |_=>none
   |_=>none
  |_=>none
 |_=>none⟩
theorem aCP{P:Program}{f:Nat}{cf:Int->Int->Int}:E9 P (agc P f cf):=by
 refine⟨λ M C FK b v rd h o=>?_,λ M C v rd h=>?_⟩
 .simp only[agc]at h ⊢;split at h
  .rename_i x y Q U;split at h
   .rename_i k q;split at h
    .rename_i th bx rt hk;split at h
     .rename_i ax u;have h':=h;simp only[gU,Prod.mk.injEq]at h';obtain⟨_,_,rfl⟩:=h';rw[<-o Q (by simp),q];simp only;rw[<-o k (by simp),hk];simp only;rw[<-o U (by simp),u];exact h
     .cases h
    .cases h
   .cases h
  .cases h
 .simp only[agc]at h;split at h
  .rename_i x y Q U;split at h
   .rename_i k q;split at h
    .rename_i th bx rt hk;split at h
     .rename_i ax u;simp only[gU,Prod.mk.injEq]at h;obtain⟨h1,rfl,rfl⟩:=h;obtain⟨hF,d⟩:=qU h1;simp only[cK,CX,aMo]at d;refine⟨hF.1,λ A0 R w0 E mem bG hW o hg hr=>?_⟩;have hg':xk (Env.shut E):=Db (vo (E:=E) (E':=⟨E.w,λ _=>False,E.O⟩) ⟨λ _ _ _ W=>⟨id,W⟩,λ _ _ h=>h⟩ hg) _;obtain⟨u0,us0,e0,r0,q0⟩:=aD.1 hr;obtain⟨u1,us1,e1,r1,q1⟩:=aD.1 q0;obtain⟨u2,us2,e2,r2,q2⟩:=aD.1 q1;obtain⟨u3,us3,e3,r3,q3⟩:=aD.1 q2;have e4:=bR.1 q3;subst e4;obtain⟨bt,ct,hOt,rfl⟩:=mP.1 r2;obtain⟨ba,ca,hOa,rfl⟩:=mP.1 r3;obtain⟨aHj,g1,g2⟩:=hW.rows Q bt ct hOt;rw[o Q (by simp),q]at g1;cases g1;obtain⟨cst,et,t1,t2⟩:=g2;obtain⟨v0,vs0,ev0,p0,_⟩:=bF.1 t2;obtain⟨b,c,hO,rfl⟩:=mP.1 p0;obtain⟨row,g3,g4⟩:=hW.rows k b c hO;rw[o k (by simp),hk]at g3;cases g3;obtain⟨cs,e,k1,G⟩:=g4;obtain⟨aHk,g5,g6⟩:=hW.rows U ba ca hOa;rw[o U (by simp),u]at g5;cases g5;obtain⟨csa,ea,a1,a2⟩:=g6;have l:∀b,¬E.A b->∀ob,E.w.heap[b]?=some ob->¬E.shut.fz.A b/\E.shut.fz.w.heap[b]?=some ob:=λ _ _ _ W=>⟨λ h=>h,W⟩;obtain⟨w0',ws0,ew0,s0,G⟩:=bF.1 G;obtain⟨w1',ws1,ew1,s1,G⟩:=bF.1 G;obtain⟨w2',ws2,ew2,s2,_⟩:=bF.1 G;obtain⟨x0,xs0,ex0,y0,_⟩:=bF.1 a2
      have Z:dW E.shut [.x (.int .i64 x),.x (.int .i64 y),.ref [.ref [th,bx,rt] 0] 0,.ref [ax] 0] bG.toList:=by
       rw[e0,e1,e2,e3];refine aD.2 ⟨_,_,rfl,cB.2 (cB.1 r0),aD.2 ⟨_,_,rfl,cB.2 (cB.1 r1),aD.2 ⟨_,_,rfl,?_,aD.2 ⟨_,_,rfl,?_,bR.2 rfl⟩⟩⟩⟩
       .refine nR.2 ⟨bt,0,cst,et,(0,0),rfl,λ h=>h,t1,?_⟩;rw[aJw,ev0];refine bF.2 ⟨_,_,rfl,nR.2 ⟨b,0,cs,e,(0,0),rfl,λ h=>h,k1,?_⟩,pre_nil⟩;rw[aJw,ew0,ew1,ew2];exact bF.2 ⟨_,_,rfl,fG th l d.1 _ s0,bF.2 ⟨_,_,rfl,fG bx l d.2.1 _ s1,bF.2 ⟨_,_,rfl,fG rt l d.2.2.1 _ s2,pre_nil⟩⟩⟩
       .refine nR.2 ⟨ba,0,csa,ea,(0,0),rfl,λ h=>h,a1,?_⟩;rw[aJw,ex0];exact bF.2 ⟨_,_,rfl,fG ax l d.2.2.2 _ y0,pre_nil⟩
      refine(hF.2 (λ _=>False) E.w bG (λ _ h=>h.elim) Z hg').mono ?_;rintro e' w' ⟨v',rfl,hv,I⟩;exact⟨v',rfl,cB.2 (cB.1 hv),I⟩
     .cases h
    .cases h
   .cases h
  .cases h
end
end Go.Gv
namespace Go.Proofs.YtdlhemnconimnaaGreat.Tr
open Go.Gv
open Go.Ev (cn aM aU aX fdiv bD dG dR dN iB bW iL fabs aF)
structure Ctx where
 tn:Nat
 te:Nat->List AV
 bn:Nat
 B:Nat->Nat->Nat
 N:Nat
 b:Nat->Nat
 ax:Int
 cf:Int->Int->Int
def Bn(b:Nat->Nat):List AV:=[.f (b 0),.f (b 1),.f (b 2),.f (b 3),.f (b 4),.f (b 5)]
def Ctx.th(c:Ctx):AV:=.sl 1 c.tn c.te
def Ctx.bx(c:Ctx):AV:=.sl 6 c.bn λ q=>Bn (c.B q)
def vB(X:Nat->Int):Nat->List AV:=λ q=>[iA (X q)]
def Ctx.m(c:Ctx)(X:Nat->Int):List Row:=[.c [c.th,c.bx,.x (.pointer none)],.a 3 1 c.N (vB X),.c [.own 0 0],.c (Bn c.b),.c [iA c.ax]]
def gX:AV:=.fn (.func 103) [] [.own 2 0,.own 4 0]
def τ5:List (Option Nat):=[some 0,some 1,some 2,some 3,some 4]
noncomputable def RC(c:Ctx):List jK:=[agc bO 103 c.cf]
def Ctx.ok(c:Ctx)(x y:Int):Prop:=aj bO 103 [iA x,iA y,.ref [.ref [c.th,c.bx,.x (.pointer none)] 0] 0,.ref [iA c.ax] 0] (iA (c.cf x y))/\cK [c.th,c.bx,.x (.pointer none),iA c.ax]=true
noncomputable def Ctx.okB(c:Ctx)(x y:Int):Bool:=jv (c.ok x y)
def Sd(b:Bool):Bool:=!(decide (b=true)&&true)
section
variable(c:Ctx)(lo n:Nat)(a b i j:Int)(X:Nat->Int)
def Bu:St:=mkS 53 [(0,.bQ 1 1 lo n),(1,iA a),(2,iA b),(3,gX),(8,iA i),(9,iA j)] (c.m X)
def vY:List Nat:=[0,1,2,3,8,9]
def pj(j:Int):Nat:=lo+j.toNat
noncomputable def Vk:Bool:=(iP j n||Sd (decide (j>a)))&&((Tv (pj lo j) c.N||Sd (decide (j>a)))&&((iP (aH (j - 1)) n||Sd (decide (j>a)))&&((Tv (pj lo (aH (j - 1))) c.N||Sd (decide (j>a)))&&((c.okB (X (pj lo j)) (X (pj lo (aH (j - 1))))||Sd (decide (j>a)))&&true))))
def ach:Bool:=cond (decide (j>a)) (decide (c.cf (X (pj lo j)) (X (pj lo (aH (j - 1))))<0)) false
def sO(j:Int):Bool:=Tv (pj lo j) c.N||false
def acg:Bool:=(iP (aH (j - 1)) n||false)&&((sO c lo (aH (j - 1)))&&((iP j n||false)&&((sO c lo j)&&((iP j n||false)&&((sO c lo j)&&((iP (aH (j - 1)) n||false)&&((sO c lo (aH (j - 1)))&&true)))))))
noncomputable def OU(o d:Option Out):Option Out:=cond (Vk c lo n a j X) (cond (ach c lo a j X) (cond (acg c lo n j) o none) d) none
def sw2(p q:Nat):Nat->List AV:=λ k=>bM (k==q) [iA (X p)] (bM (k==p) [iA (X q)] [iA (X k)])
def Ctx.mE(c:Ctx)(el:Nat->List AV):List Row:=[.c [c.th,c.bx,.x (.pointer none)],.a 3 1 c.N el,.c [.own 0 0],.c (Bn c.b),.c [iA c.ax]]
end
section
variable(c:Ctx)(lo n:Nat)(a b i j:Int)(X:Nat->Int)
theorem aci:qN bO [] [] [] [] (RC c) bC (av aJV 1) (Bu c lo n a b i j X) (gu vY τ5)=OU c lo n a j X (some ⟨.normal,mkS 53 [(0,.bQ 1 1 lo n),(1,iA a),(2,iA b),(3,gX),(8,iA i),(9,iA (aH (j - 1)))] (c.mE (sw2 X (pj lo j) (pj lo (aH (j - 1))))),.any⟩) none:=by kernel_rfl
theorem Sg:qN bO [] [] [] [] (RC c) bC (av aJV 1) (Bu c lo n a b i j X) (iG vY τ5)=OU c lo n a j X none (some ⟨.exit 2,Bu c lo n a b i j X,.any⟩):=by kernel_rfl
end
structure Ctx.Good(c:Ctx)(nb:Int):Prop where
 small:c.N<=1000
 ok:∀x y:Int,0<=x/\x<nb->0<=y/\y<nb->c.ok x y
def qg(nb:Int)(lo n:Nat)(X:Nat->Int):Prop:=∀i,lo<=i/\i<lo+n->0<=X i/\X i<nb
theorem qg.pb{nb:Int}{lo n:Nat}{X Y:Nat->Int}(h:qg nb lo n X)(g:PB lo n X Y):qg nb lo n Y:=g.all (p:=λ x=>0<=x/\x<nb) h
theorem Ch(c:Ctx):∀e,e∈RC c->E9 bO e:=J3 aCP gQ
theorem mW(lo j:Nat):pj lo (j:Nat)=lo+j:=by unfold pj;rw[pF]
theorem uD{j:Nat}(h:0<j)(d:j<=1000000):aH ((j:Int) - 1)=((j - 1:Nat):Int):=by rw[aO];omega
theorem afb{c:Ctx}{sl:List (AV × Chain)}{el:Nat->List AV}{Y:Nat->Int}(h:∀q,q<c.N->[iA (Y q)]=el q):fQ 5 ⟨sl,c.mE el⟩ ⟨sl,c.m Y⟩:=gZ ⟨wV rfl,ad9 h,wV rfl,wV rfl,wV rfl,trivial⟩
theorem Vj(X:Nat->Int)(p q:Nat)(k:Nat):[iA (zh X p q k)]=sw2 X p q k:=by
 unfold zh sw2;by_cases l:k=q
 .subst l;rw[BEq.rfl];by_cases d:k=p
  .subst d;rw[BEq.rfl];rfl
  .rw[mI d];rfl
 .rw[mI l];by_cases d:k=p
  .subst d;rw[BEq.rfl];rfl
  .rw[mI d];rfl
section
variable{c:Ctx}{nb:Int}{lo n:Nat}{X:Nat->Int}
theorem YK{a j:Nat}(l:j<n)(o:lo+n<=c.N)(hs:c.N<=1000)(d:a<j->c.ok (X (lo+j)) (X (lo+(j - 1)))):Vk c lo n (a:Nat) (j:Nat) X=true:=by
 unfold Vk Sd;by_cases h:a<j
 .rw[mW,uD (by omega) (by omega),mW,bZ l,bZ (by omega),iU (by omega),iU (by omega)];unfold Ctx.okB;rw[jl (d h)];rfl
 .rw[iH (show ¬((j:Nat):Int)>(a:Nat) by omega)];simp
theorem alM{j:Nat}(o:0<j)(d:j<n)(l:lo+n<=c.N)(hs:c.N<=1000):acg c lo n (j:Nat)=true:=by unfold acg sO;rw[mW,uD (by omega) (by omega),mW,bZ d,bZ (by omega),iU (by omega),iU (by omega)];rfl
theorem ark(g:c.Good nb)(u:lo+n<=c.N)(a:Nat)(b i:Int):∀(j:Nat) (X:Nat->Int),qg nb lo n X->j<n->∃(X':Nat->Int) (o:Int),PB lo n X X'/\fK 5 (av aJV 1) (Bu c lo n (a:Nat) b i (j:Nat) X) (.exit 2) (Bu c lo n (a:Nat) b i o X'):=by
 intro j
 induction j with
 |zero =>
  intro X l d;refine⟨X,((0:Nat):Int),PB.refl _ _ _,fK.last (dF (fC vY (τ:=τ5) (by rfl)) aB ay aV fH (Ch c) bN ((Sg c lo n (a:Nat) b i ((0:Nat):Int) X).trans ?_))⟩;unfold OU;rw[YK d u g.small (λ h=>absurd h (by omega))];unfold ach;rw[iH (show ¬((0:Nat):Int)>(a:Nat) by omega)];rfl
 |succ j ih =>
  intro X l d;have hs:=g.small;have C:Vk c lo n (a:Nat) ((j+1:Nat):Int) X=true:=YK d u g.small (λ h=>g.ok _ _ (l _ ⟨by omega,by omega⟩) (l _ ⟨by omega,by omega⟩));cases y:ach c lo (a:Nat) ((j+1:Nat):Int) X
  .refine⟨X,((j+1:Nat):Int),PB.refl _ _ _,fK.last (dF (fC vY (τ:=τ5) (by rfl)) aB ay aV fH (Ch c) bN ((Sg c lo n (a:Nat) b i ((j+1:Nat):Int) X).trans ?_))⟩;unfold OU;rw[C,y];rfl
  .have x:PB lo n X (zh X (lo+(j+1)) (lo+j)):=PB.swap X ⟨by omega,by omega⟩ ⟨by omega,by omega⟩;obtain⟨X',o,I,G⟩:=ih (zh X (lo+(j+1)) (lo+j)) (l.pb x) (by omega);refine⟨X',o,x.trans I,fK.cons ?_ G⟩;refine(dF (fA vY (τ:=τ5) (by rfl)) aB ay aV fH (Ch c) bN ((aci c lo n (a:Nat) b i ((j+1:Nat):Int) X).trans ?_)).sub (fQ.refl _) (s2:=mkS 53 [(0,.bQ 1 1 lo n),(1,iA (a:Nat)),(2,iA b),(3,gX),(8,iA i),(9,iA (aH (((j+1:Nat):Int) - 1)))] (c.mE (sw2 X (pj lo ((j+1:Nat):Int)) (pj lo (aH (((j+1:Nat):Int) - 1)))))) ?_
   .unfold OU;rw[C,y,alM (by omega) d u g.small];rfl
   .rw[uD (by omega) (by omega),mW,show j+1 - 1=j by omega,mW];exact afb λ q _=>Vj X _ _ q
end
def Af:List Nat:=[0,1,2,3,8]
section
variable(c:Ctx)(lo n:Nat)(a b i:Int)(X X':Nat->Int)
def zi:St:=mkS 53 [(0,.bQ 1 1 lo n),(1,iA a),(2,iA b),(3,gX),(8,iA i)] (c.m X)
noncomputable def ax8(d:Int):Nat->Option dY:=eZ 4 (jS 5 vY τ5 (Bu c lo n a b i i X) (.exit 2) (Bu c lo n a b i d X'))
theorem acj(d:Int):qN bO [] [] [] [] [] (ax8 c lo n a b i X X' d) (av aJV 0) (zi c lo n a b i X) (gu Af τ5)=cond (decide (i<b)) (gate (fQ 5 (Bu c lo n a b i i X) (Bu c lo n a b i i X)) (some ⟨.normal,zi c lo n a b (aH (i+1)) X',.any⟩)) none:=by kernel_rfl
theorem aht:qN bO [] [] [] [] [] (eZ 4 λ _ _=>none) (av aJV 0) (zi c lo n a b i X) (iG Af τ5)=cond (decide (i<b)) none (some ⟨.exit 0,zi c lo n a b i X,.any⟩):=by kernel_rfl
theorem alN:Gj bO [] [] [] [] [] (eZ 1 (jS 5 Af τ5 (zi c lo n a b (aH (a+1)) X) (.exit 0) (zi c lo n a b i X'))) aJV [.bQ 1 1 lo n,iA a,iA b,gX] (c.m X) τ5=gate (fQ 5 (zi c lo n a b (aH (a+1)) X) (zi c lo n a b (aH (a+1)) X)) (nU (.bK []) (c.m X')):=by kernel_rfl
end
theorem gN{np:Nat}{P:Program}{c:Code}:o7 np P c (λ _ _=>none):=⟨λ s k r h=>(by cases h),λ s l e d=>(by have:=d (λ _ _=>some ⟨.normal,s,.any⟩);cases this)⟩
section
variable{c:Ctx}{nb:Int}{lo n:Nat}
theorem arl(g:c.Good nb)(x:lo+n<=c.N)(a b:Nat)(hb:b<=n):∀(k i:Nat) (X:Nat->Int),b - i=k->qg nb lo n X->∃(X':Nat->Int) (i':Int),PB lo n X X'/\fK 5 (av aJV 0) (zi c lo n (a:Nat) (b:Nat) (i:Nat) X) (.exit 0) (zi c lo n (a:Nat) (b:Nat) i' X'):=by
 intro k
 induction k with
 |zero =>
  intro i X u d;refine⟨X,((i:Nat):Int),PB.refl _ _ _,fK.last (dF (fC Af (τ:=τ5) (by rfl)) aB ay aV fH gQ (iW (i:=4) 1 (by kernel_rfl) λ _ _ _=>gN) ((aht c lo n (a:Nat) (b:Nat) (i:Nat) X).trans ?_))⟩;rw[iH (by omega)];rfl
 |succ k ih =>
  intro i X u d;obtain⟨X1,o,l,G⟩:=ark g x a (b:Nat) (i:Nat) i X d (by omega);obtain⟨X',i',C,y⟩:=ih (i+1) X1 (by omega) (d.pb l);refine⟨X',i',l.trans C,fK.cons ?_ y⟩;have hs:=g.small;rw[<-aQ (n:=i) (by omega)];refine dF (fA Af (τ:=τ5) (by rfl)) aB ay aV fH gQ (iW (i:=4) 1 (by kernel_rfl) λ q hq _=>?_) ((acj c lo n (a:Nat) (b:Nat) (i:Nat) X X1 o).trans ?_)
  .have:q=0:=by omega
   subst this;exact fq (by rfl) (fK.loop (by simp) G)
  .rw[gG (by omega),ak (fQ.refl _)];rfl
theorem LK(g:c.Good nb)(o:lo+n<=c.N){X:Nat->Int}(l:qg nb lo n X){a b:Nat}(ha:a<=n)(hb:b<=n):∃X',PB lo n X X'/\dJ bO 167 [.bQ 1 1 lo n,iA (a:Nat),iA (b:Nat),gX] (c.m X) (.bK []) (c.m X'):=by
 have hs:=g.small;obtain⟨X',i',x,u⟩:=arl g o a b hb _ (a+1) X rfl l;refine⟨X',x,nM aB ay aV fH gQ Tryz.func167 (iW (i:=1) 2 (by kernel_rfl) λ q hq d=>?_) (τ:=τ5) (by rfl) ((alN c lo n (a:Nat) (b:Nat) i' X X').trans ?_)⟩
 .have:q=0\/q=1:=by omega
  rcases this with rfl |rfl
  .rw[aQ (n:=a) (by omega)];exact fq (by rfl) (fK.loop (by simp) u)
  .exact absurd d (by decide)
 .rw[ak (fQ.refl _)]
end
noncomputable def qW(f:Nat)(args:List AV)(r:AV)(m d:List Row)(k:Option Out):Option Out:=cond (jv (rW bO f args m r d)) k none
theorem Gw{f:Nat}{args:List AV}{r:AV}{m d:List Row}(h:rW bO f args m r d)(k:Option Out):qW f args r m d k=k:=by unfold qW;rw[jl h];rfl
def O7:List Nat:=[0,1,2,3,10]
section
variable(c:Ctx)(lo n:Nat)(a b k i:Int)(X X':Nat->Int)
def srS:St:=mkS 38 [(0,.bQ 1 1 lo n),(1,iA a),(2,iA b),(3,iA k),(10,iA i)] (c.m X)
def srW(p q:Int):Bool:=(iP p n||false)&&((sO c lo p)&&((iP q n||false)&&((sO c lo q)&&((iP q n||false)&&((sO c lo q)&&((iP p n||false)&&((sO c lo p)&&true)))))))
def srN:St:=mkS 38 [(0,.bQ 1 1 lo n),(1,iA a),(2,iA b),(3,iA k),(10,iA (aH (i+1)))] (c.mE (sw2 X (pj lo (aH (a+i))) (pj lo (aH (b+i)))))
theorem arL:qN bO [] [] [] [] [] bC (av aLU 0) (srS c lo n a b k i X) (gu O7 τ5)=cond (decide (i<k)) (cond (srW c lo n (aH (b+i)) (aH (a+i))) (some ⟨.normal,srN c lo n a b k i X,.any⟩) none) none:=by kernel_rfl
theorem ayF:qN bO [] [] [] [] [] bC (av aLU 0) (srS c lo n a b k i X) (iG O7 τ5)=cond (decide (i<k)) (cond (srW c lo n (aH (b+i)) (aH (a+i))) none none) (some ⟨.exit 0,srS c lo n a b k i X,.any⟩):=by kernel_rfl
theorem ayG:Gj bO [] [] [] [] [] (eZ 1 (jS 5 O7 τ5 (srS c lo n a b k 0 X) (.exit 0) (srS c lo n a b k i X'))) aLU [.bQ 1 1 lo n,iA a,iA b,iA k,gX] (c.m X) τ5=gate (fQ 5 (srS c lo n a b k 0 X) (srS c lo n a b k 0 X)) (nU (.bK []) (c.m X')):=by kernel_rfl
end
section
variable{c:Ctx}{lo n:Nat}
theorem amx{p q:Nat}(d:p<n)(hq:q<n)(l:lo+n<=c.N):srW c lo n (p:Nat) (q:Nat)=true:=by unfold srW sO;rw[mW,mW,bZ d,bZ hq,iU (by omega),iU (by omega)];rfl
theorem rA{x y:Nat}(l:x<=100000)(d:y<=100000):aH ((x:Int)+(y:Int))=((x+y:Nat):Int):=by rw[aO];omega
theorem lI{x y:Nat}(l:x<=100000)(d:y<=x):aH ((x:Int) - (y:Int))=((x - y:Nat):Int):=by rw[aO];omega
theorem arM(hs:c.N<=1000)(o:lo+n<=c.N){a b k:Nat}(ha:a+k<=n)(hb:b+k<=n):∀(d i:Nat) (X:Nat->Int),k - i=d->∃(X':Nat->Int) (i':Int),PB lo n X X'/\fK 5 (av aLU 0) (srS c lo n (a:Nat) (b:Nat) (k:Nat) (i:Nat) X) (.exit 0) (srS c lo n (a:Nat) (b:Nat) (k:Nat) i' X'):=by
 intro d
 induction d with
 |zero =>
  intro i X l;refine⟨X,((i:Nat):Int),PB.refl _ _ _,fK.last (dF (fC O7 (τ:=τ5) (by rfl)) aB ay aV fH gQ bN ((ayF c lo n (a:Nat) (b:Nat) (k:Nat) (i:Nat) X).trans ?_))⟩;rw[iH (by omega)];rfl
 |succ d ih =>
  intro i X l;obtain⟨X',i',x,u⟩:=ih (i+1) (zh X (lo+(a+i)) (lo+(b+i))) (by omega);refine⟨X',i',(PB.swap X ⟨by omega,by omega⟩ ⟨by omega,by omega⟩).trans x,fK.cons ?_ u⟩;refine(dF (fA O7 (τ:=τ5) (by rfl)) aB ay aV fH gQ bN ((arL c lo n (a:Nat) (b:Nat) (k:Nat) (i:Nat) X).trans ?_)).sub (fQ.refl _) (s2:=srN c lo n (a:Nat) (b:Nat) (k:Nat) (i:Nat) X) ?_
  .rw[gG (by omega),rA (by omega) (by omega),rA (by omega) (by omega),amx (by omega) (by omega) o];rfl
  .unfold srN srS;rw[aQ (by omega),rA (by omega) (by omega),rA (by omega) (by omega),mW,mW];exact afb λ q _=>Vj X _ _ q
theorem wN(hs:c.N<=1000)(d:lo+n<=c.N)(X:Nat->Int){a b k:Nat}(ha:a+k<=n)(hb:b+k<=n):∃X',PB lo n X X'/\dJ bO 203 [.bQ 1 1 lo n,iA (a:Nat),iA (b:Nat),iA (k:Nat),gX] (c.m X) (.bK []) (c.m X'):=by
 obtain⟨X',i',o,l⟩:=arM hs d ha hb _ 0 X rfl;refine⟨X',o,nM aB ay aV fH gQ Tryz.func203 (iW (i:=1) 1 (by kernel_rfl) λ q hq _=>?_) (τ:=τ5) (by rfl) ((ayG c lo n (a:Nat) (b:Nat) (k:Nat) i' X X').trans ?_)⟩
 .have:q=0:=by omega
  subst this;exact fq (by rfl) (fK.loop (by simp) l)
 .rw[ak (fQ.refl _)]
end
def Ko:List Nat:=[0,1,2,3,4,10,11]
section
variable(c:Ctx)(lo n:Nat)(a m b i j:Int)(X X':Nat->Int)
def roS:St:=mkS 58 [(0,.bQ 1 1 lo n),(1,iA a),(2,iA m),(3,iA b),(4,gX),(10,iA i),(11,iA j)] (c.m X)
noncomputable def wSr:iM:=wQ bO 203 (λ _ _=>.bK []) (λ _ _=>c.m X')
noncomputable def qSr(a b k:Int)(o:Option Out):Option Out:=qW 203 [.bQ 1 1 lo n,iA a,iA b,iA k,gX] (.bK []) (c.m X) (c.m X') o
theorem aez:qN bO [] [] [] [wSr c X'] [] bC (av aLV 0) (roS c lo n a m b i j X) (gu Ko τ5)=cond (!(i==j)) (cond (decide (i>j)) (qSr c lo n X X' (aH (m - i)) m j (some ⟨.normal,roS c lo n a m b (aH (i - j)) j X',.any⟩)) (qSr c lo n X X' (aH (m - i)) (aH (aH (m+j) - i)) i (some ⟨.normal,roS c lo n a m b i (aH (j - i)) X',.any⟩))) none:=by kernel_rfl
theorem awg:qN bO [] [] [] [wSr c X'] [] bC (av aLV 0) (roS c lo n a m b i j X) (iG Ko τ5)=cond (!(i==j)) (cond (decide (i>j)) (qSr c lo n X X' (aH (m - i)) m j none) (qSr c lo n X X' (aH (m - i)) (aH (aH (m+j) - i)) i none)) (some ⟨.exit 0,roS c lo n a m b i j X,.any⟩):=by kernel_rfl
theorem awh(X1:Nat->Int):Gj bO [] [] [] [wSr c X'] [] (eZ 2 (jS 5 Ko τ5 (roS c lo n a m b (aH (m - a)) (aH (b - m)) X) (.exit 0) (roS c lo n a m b i j X1))) aLV [.bQ 1 1 lo n,iA a,iA m,iA b,gX] (c.m X) τ5=gate (fQ 5 (roS c lo n a m b (aH (m - a)) (aH (b - m)) X) (roS c lo n a m b (aH (m - a)) (aH (b - m)) X)) (qSr c lo n X1 X' (aH (m - i)) m i (nU (.bK []) (c.m X'))):=by kernel_rfl
end
section
variable{c:Ctx}{lo n:Nat}
theorem Mv(x y:Nat):((x:Int)==(y:Int))=decide (x=y):=by
 by_cases h:x=y
 .subst h;rw[BEq.rfl,gG rfl]
 .rw[iH h];exact mI (λ e=>h (by omega))
theorem apO(hs:c.N<=1000)(I:lo+n<=c.N){a m b:Nat}(Q:a<=m)(M:m<=b)(hb:b<=n):∀(d i j:Nat) (X:Nat->Int),i+j=d->0<i->0<j->a+i<=m->m+j<=b ->
  ∃(X':Nat->Int) (i':Nat),PB lo n X X'/\0<i'/\a+i'<=m/\m+i'<=b/\fK 5 (av aLV 0) (roS c lo n (a:Nat) (m:Nat) (b:Nat) (i:Nat) (j:Nat) X) (.exit 0) (roS c lo n (a:Nat) (m:Nat) (b:Nat) (i':Nat) (i':Nat) X'):=by
 intro d
 induction d using aHf with
 |ind d G =>
  intro i j X R hi P o l;rcases Nat.lt_trichotomy i j with h |h |h
  .obtain⟨X1,y,C⟩:=wN hs I X (a:=m - i) (b:=m+j - i) (k:=i) (by omega) (by omega);obtain⟨X',i',p2,x,u,q,r⟩:=G (i+(j - i)) (by omega) i (j - i) X1 rfl hi (by omega) o (by omega);refine⟨X',i',y.trans p2,x,u,q,fK.cons (dF (fA Ko (τ:=τ5) (by rfl)) aB ay aV (jU pq fH) gQ bN ((aez c lo n (a:Nat) (m:Nat) (b:Nat) (i:Nat) (j:Nat) X X1).trans ?_)) r⟩;unfold qSr;rw[Mv,iH (show ¬i=j by omega),iH (show ¬((i:Nat):Int)>(j:Nat) by omega),aJ5,aY,eU,lI (by omega) (by omega),rA (by omega) (by omega),lI (by omega) (by omega),lI (by omega) (by omega)];exact Gw (lV C) _
  .subst h;refine⟨X,i,PB.refl _ _ _,hi,o,l,fK.last (dF (fC Ko (τ:=τ5) (by rfl)) aB ay aV (jU pq fH) gQ bN ((awg c lo n (a:Nat) (m:Nat) (b:Nat) (i:Nat) (i:Nat) X X).trans ?_))⟩;rw[Mv,gG rfl];rfl
  .obtain⟨X1,y,C⟩:=wN hs I X (a:=m - i) (b:=m) (k:=j) (by omega) (by omega);obtain⟨X',i',p2,x,u,q,r⟩:=G (i - j+j) (by omega) (i - j) j X1 rfl (by omega) P (by omega) l;refine⟨X',i',y.trans p2,x,u,q,fK.cons (dF (fA Ko (τ:=τ5) (by rfl)) aB ay aV (jU pq fH) gQ bN ((aez c lo n (a:Nat) (m:Nat) (b:Nat) (i:Nat) (j:Nat) X X1).trans ?_)) r⟩;unfold qSr;rw[Mv,iH (show ¬i=j by omega),gG (show((i:Nat):Int)>(j:Nat) by omega),aJ5,aY,aY,lI (by omega) (by omega),lI (by omega) (by omega)];exact Gw (lV C) _
theorem Xt(hs:c.N<=1000)(d:lo+n<=c.N)(X:Nat->Int){a m b:Nat}(u:a<m)(o:m<b)(hb:b<=n):∃X',PB lo n X X'/\dJ bO 189 [.bQ 1 1 lo n,iA (a:Nat),iA (m:Nat),iA (b:Nat),gX] (c.m X) (.bK []) (c.m X'):=by
 obtain⟨X1,i',l,C,y,x,r⟩:=apO hs d (a:=a) (m:=m) (b:=b) (by omega) (by omega) hb _ (m - a) (b - m) X rfl (by omega) (by omega) (by omega) (by omega);obtain⟨X',p2,g⟩:=wN hs d X1 (a:=m - i') (b:=m) (k:=i') (by omega) (by omega);refine⟨X',l.trans p2,nM aB ay aV (jU pq fH) gQ Tryz.func189 (iW (i:=2) 1 (by kernel_rfl) λ q hq _=>?_) (τ:=τ5) (by rfl) ((awh c lo n (a:Nat) (m:Nat) (b:Nat) (i':Nat) (i':Nat) X X' X1).trans ?_)⟩
 .have:q=0:=by omega
  subst this;rw[lI (by omega) (by omega),lI (by omega) (by omega)];exact fq (by rfl) (fK.loop (by simp) r)
 .rw[ak (fQ.refl _)];unfold qSr;rw[lI (by omega) (by omega)];exact Gw (lV g) _
end
def hf(i j:Int):Int:=aH ((IntKind.u64.wrap (aH (i+j))).fdiv (2 ^ min (aON 1) IntKind.u64.bits))
theorem VH{i j:Nat}(hi:i<=100000)(d:j<=100000):hf (i:Nat) (j:Nat)=(((i+j) / 2:Nat):Int):=by unfold hf;rw[rA hi d,show((2:Int) ^ min (aON 1) IntKind.u64.bits)=2 from rfl,IntKind.wrap_u64];rw[show(((i+j:Nat):Int) % 18446744073709551616)=((i+j:Nat):Int) by omega];rw[Int.fdiv_eq_ediv_of_nonneg _ (by omega),aO];omega
section
variable(c:Ctx)(lo n:Nat)(a m b i j k mid N st r p:Int)(X:Nat->Int)
def Sn:List Nat:=[0,1,4,10,11]
def s0S:St:=mkS 220 [(0,.bQ 1 1 lo n),(1,iA a),(4,gX),(10,iA i),(11,iA j)] (c.m X)
def Y5:List Nat:=[0,10,13]
def zk:St:=mkS 220 [(0,.bQ 1 1 lo n),(10,iA i),(13,iA k)] (c.m X)
def s1N:St:=mkS 220 [(0,.bQ 1 1 lo n),(10,iA i),(13,iA (aH (k+1)))] (c.mE (sw2 X (pj lo k) (pj lo (aH (k+1)))))
def Sq:List Nat:=[0,2,4,14,15]
def s2S:St:=mkS 220 [(0,.bQ 1 1 lo n),(2,iA m),(4,gX),(14,iA i),(15,iA j)] (c.m X)
def k3:List Nat:=[0,14,17]
def s3S:St:=mkS 220 [(0,.bQ 1 1 lo n),(14,iA i),(17,iA k)] (c.m X)
def s3N:St:=mkS 220 [(0,.bQ 1 1 lo n),(14,iA i),(17,iA (aH (k - 1)))] (c.mE (sw2 X (pj lo k) (pj lo (aH (k - 1)))))
def k4:List Nat:=[0,1,2,3,4,18,19,20,21,22]
def s4S:St:=mkS 220 [(0,.bQ 1 1 lo n),(1,iA a),(2,iA m),(3,iA b),(4,gX),(18,iA mid),(19,iA N),(20,iA st),(21,iA r),(22,iA p)] (c.m X)
noncomputable def cw(p q:Int):Bool:=(iP p n||false)&&(sO c lo p&&((iP q n||false)&&(sO c lo q&&((c.okB (X (pj lo p)) (X (pj lo q))||false)&&true))))
def cl(p q:Int):Bool:=decide (c.cf (X (pj lo p)) (X (pj lo q))<0)
theorem atF:qN bO [] [] [] [] (RC c) bC (av aGz 0) (s0S c lo n a i j X) (gu Sn τ5)=cond (decide (i<j)) (cond (cw c lo n X (hf i j) a) (cond (cl c lo X (hf i j) a) (some ⟨.normal,s0S c lo n a (aH (hf i j+1)) j X,.any⟩) (some ⟨.normal,s0S c lo n a i (hf i j) X,.any⟩)) none) none:=by kernel_rfl
theorem atI:qN bO [] [] [] [] [] bC (av aGz 1) (zk c lo n i k X) (gu Y5 τ5)=cond (decide (k<aH (i - 1))) (cond (srW c lo n (aH (k+1)) k) (some ⟨.normal,s1N c lo n i k X,.any⟩) none) none:=by kernel_rfl
theorem atG:qN bO [] [] [] [] (RC c) bC (av aGz 2) (s2S c lo n m i j X) (gu Sq τ5)=cond (decide (i<j)) (cond (cw c lo n X m (hf i j)) (cond (!cl c lo X m (hf i j)) (some ⟨.normal,s2S c lo n m (aH (hf i j+1)) j X,.any⟩) (some ⟨.normal,s2S c lo n m i (hf i j) X,.any⟩)) none) none:=by kernel_rfl
theorem atJ:qN bO [] [] [] [] [] bC (av aGz 3) (s3S c lo n i k X) (gu k3 τ5)=cond (decide (k>i)) (cond (srW c lo n (aH (k - 1)) k) (some ⟨.normal,s3N c lo n i k X,.any⟩) none) none:=by kernel_rfl
theorem atH:qN bO [] [] [] [] (RC c) bC (av aGz 4) (s4S c lo n a m b mid N st r p X) (gu k4 τ5)=cond (decide (st<r)) (cond (cw c lo n X (aH (p - hf st r)) (hf st r)) (cond (!cl c lo X (aH (p - hf st r)) (hf st r)) (some ⟨.normal,s4S c lo n a m b mid N (aH (hf st r+1)) r p X,.any⟩) (some ⟨.normal,s4S c lo n a m b mid N st (hf st r) p X,.any⟩)) none) none:=by kernel_rfl
theorem aAA:qN bO [] [] [] [] (RC c) bC (av aGz 0) (s0S c lo n a i j X) (iG Sn τ5)=cond (decide (i<j)) (cond (cw c lo n X (hf i j) a) (cond (cl c lo X (hf i j) a) none none) none) (some ⟨.exit 0,s0S c lo n a i j X,.any⟩):=by kernel_rfl
theorem aAD:qN bO [] [] [] [] [] bC (av aGz 1) (zk c lo n i k X) (iG Y5 τ5)=cond (decide (k<aH (i - 1))) (cond (srW c lo n (aH (k+1)) k) none none) (some ⟨.exit 2,zk c lo n i k X,.any⟩):=by kernel_rfl
theorem aAB:qN bO [] [] [] [] (RC c) bC (av aGz 2) (s2S c lo n m i j X) (iG Sq τ5)=cond (decide (i<j)) (cond (cw c lo n X m (hf i j)) (cond (!cl c lo X m (hf i j)) none none) none) (some ⟨.exit 4,s2S c lo n m i j X,.any⟩):=by kernel_rfl
theorem aAE:qN bO [] [] [] [] [] bC (av aGz 3) (s3S c lo n i k X) (iG k3 τ5)=cond (decide (k>i)) (cond (srW c lo n (aH (k - 1)) k) none none) (some ⟨.exit 6,s3S c lo n i k X,.any⟩):=by kernel_rfl
theorem aAC:qN bO [] [] [] [] (RC c) bC (av aGz 4) (s4S c lo n a m b mid N st r p X) (iG k4 τ5)=cond (decide (st<r)) (cond (cw c lo n X (aH (p - hf st r)) (hf st r)) (cond (!cl c lo X (aH (p - hf st r)) (hf st r)) none none) none) (some ⟨.exit 8,s4S c lo n a m b mid N st r p X,.any⟩):=by kernel_rfl
end
end Go.Proofs.YtdlhemnconimnaaGreat.Tr
namespace Go.Gv
theorem Y3{np:Nat}{P:Program}{c:Code}{L:Nat->Option dY}(d:List Nat)(l:(bL c).map jI=d.map some)(h:∀j,j<d.length->∀g,L (d.getD j 0)=some g->o7 np P ((bL c).getD j .skip) g):nT np P L c:=by
 intro x hc i g hi u;obtain⟨j,q,rfl⟩:=List.mem_iff_getElem.1 hc;have o:(bL c).length=d.length:=by simpa using congrArg List.length l
 have e1:(bL c).getD j .skip=(bL c)[j]:=by rw[Gd,Ga q];rfl
 rw[<-e1];refine h j (by omega) g ?_;have e2:((bL c).map jI)[j]?=(d.map some)[j]?:=by rw[l]
 rw[aG1,aG1,Ga q,Ga (show j<d.length by omega)]at e2;have e3:jI (bL c)[j]=some (d[j]'(by omega)):=by simpa using e2
 rw[hi]at e3;rw[Gd,Ga (show j<d.length by omega)];simp only[gU]at e3;rw[<-u,e3];rfl
end Go.Gv
namespace Go.Proofs.YtdlhemnconimnaaGreat.Tr
open Go.Gv
def noG:dY:=λ _ _=>none
def Y4(o l g2 g3 d:dY):Nat->Option dY:=λ j=>cond (amH j 3) (some o) (cond (amH j 9) (some l) (cond (amH j 15) (some g2) (cond (amH j 21) (some g3) (cond (amH j 33) (some d) none))))
theorem Vq{q o g2 g3 l:dY}(I:o7 5 bO (av aGz 0) q)(G:o7 5 bO (av aGz 1) o)(C:o7 5 bO (av aGz 2) g2)
  (y:o7 5 bO (av aGz 3) g3) (x:o7 5 bO (av aGz 4) l):nT 5 bO (Y4 q o g2 g3 l) (dH aGz):=by
 refine Y3 [3,9,15,21,33] (by kernel_rfl) λ j u g d=>?_;have u:j<5:=u;have:j=0\/j=1\/j=2\/j=3\/j=4:=by omega
 rcases this with rfl |rfl |rfl |rfl |rfl
 .cases(show some q=some g from d);exact I
 .cases(show some o=some g from d);exact G
 .cases(show some g2=some g from d);exact C
 .cases(show some g3=some g from d);exact y
 .cases(show some l=some g from d);exact x
section
variable(c:Ctx)(lo n:Nat)(a m b i i' k mid st st0 r0:Int)(X X' Y:Nat->Int)(F:Int->Nat->Int)
noncomputable def smA(o:Option Out):Option Out:=cond (aH (m - a)==1) o (cond (aH (b - m)==1) none (cond (decide (m>hf a b)) none none))
noncomputable def smB(o:Option Out):Option Out:=cond (aH (m - a)==1) none (cond (aH (b - m)==1) o (cond (decide (m>hf a b)) none none))
theorem aFS:Gj bO [] [] [] [] [] (Y4 (jS 5 Sn τ5 (s0S c lo n a m b X) (.exit 0) (s0S c lo n a i i' X)) (jS 5 Y5 τ5 (zk c lo n i a X) (.exit 2) (zk c lo n i k X')) noG noG noG) aGz [.bQ 1 1 lo n,iA a,iA m,iA b,gX] (c.m X) τ5
 = smA a m b (gate (fQ 5 (s0S c lo n a m b X) (s0S c lo n a m b X)) (gate (fQ 5 (zk c lo n i a X) (zk c lo n i a X)) (nU (.bK []) (c.m X')))):=by kernel_rfl
theorem aFT:Gj bO [] [] [] [] [] (Y4 noG noG (jS 5 Sq τ5 (s2S c lo n m a m X) (.exit 4) (s2S c lo n m i i' X)) (jS 5 k3 τ5 (s3S c lo n i m X) (.exit 6) (s3S c lo n i k X')) noG) aGz [.bQ 1 1 lo n,iA a,iA m,iA b,gX] (c.m X) τ5
 = smB a m b (gate (fQ 5 (s2S c lo n m a m X) (s2S c lo n m a m X)) (gate (fQ 5 (s3S c lo n i m X) (s3S c lo n i m X)) (nU (.bK []) (c.m X')))):=by kernel_rfl
noncomputable def wRo:iM:=wQ bO 189 (λ _ _=>.bK []) (λ _ _=>c.m X')
noncomputable def wSm:iM:=wQ bO 168 (λ _ _=>.bK []) (λ d _=>match d with
 | [_,.x (.int _ a),_,_,_]=>c.m (F a)
 |_=>[])
noncomputable def qSm(a m b:Int)(Y d:Nat->Int)(o:Option Out):Option Out:=qW 168 [.bQ 1 1 lo n,iA a,iA m,iA b,gX] (.bK []) (c.m Y) (c.m d) o
noncomputable def qRo(a m b:Int)(Y d:Nat->Int)(o:Option Out):Option Out:=qW 189 [.bQ 1 1 lo n,iA a,iA m,iA b,gX] (.bK []) (c.m Y) (c.m d) o
noncomputable def tl2(e:Int)(Y:Nat->Int):Option Out:=cond (cond (decide (mid<e)) (decide (e<b)) false) (qSm c lo n mid e b Y (F mid) (nU (.bK []) (c.m (F mid)))) (nU (.bK []) (c.m Y))
noncomputable def tl1(e:Int)(Y:Nat->Int):Option Out:=cond (cond (decide (a<st)) (decide (st<mid)) false) (qSm c lo n a st mid Y (F a) (tl2 c lo n b mid F e (F a))) (tl2 c lo n b mid F e Y)
noncomputable def tl0(e:Int):Option Out:=cond (cond (decide (st<m)) (decide (m<e)) false) (qRo c lo n st m e X X' (tl1 c lo n a b mid st F e X')) (tl1 c lo n a b mid st F e X)
def sN(a m b:Int):Int:=aH (hf a b+m)
def FY(a m b:Int):Int:=aH (sN a m b - 1)
theorem aFU:Gj bO [] [] [] [wRo c X',wSm c F] [] (Y4 noG noG noG noG (jS 5 k4 τ5 (s4S c lo n a m b (hf a b) (sN a m b) st0 r0 (FY a m b) X) (.exit 8) (s4S c lo n a m b (hf a b) (sN a m b) st i (FY a m b) X))) aGz [.bQ 1 1 lo n,iA a,iA m,iA b,gX] (c.m X) τ5
 = cond (aH (m - a)==1) none (cond (aH (b - m)==1) none (cond (decide (m>hf a b))
  (gate (fQ 5 (s4S c lo n a m b (hf a b) (sN a m b) (aH (sN a m b - b)) (hf a b) (FY a m b) X) (s4S c lo n a m b (hf a b) (sN a m b) st0 r0 (FY a m b) X)) (tl0 c lo n a m b (hf a b) st X X' F (aH (sN a m b - st))))
  (gate (fQ 5 (s4S c lo n a m b (hf a b) (sN a m b) a m (FY a m b) X) (s4S c lo n a m b (hf a b) (sN a m b) st0 r0 (FY a m b) X)) (tl0 c lo n a m b (hf a b) st X X' F (aH (sN a m b - st)))))):=by kernel_rfl
end
section
variable{c:Ctx}{nb:Int}{lo n:Nat}
theorem aAz(g:c.Good nb)(o:lo+n<=c.N){X:Nat->Int}(d:qg nb lo n X){p q:Nat}(l:p<n)(hq:q<n):cw c lo n X (p:Nat) (q:Nat)=true:=by unfold cw sO Ctx.okB;rw[mW,mW,bZ l,bZ hq,iU (by omega),iU (by omega),jl (g.ok _ _ (d _ ⟨by omega,by omega⟩) (d _ ⟨by omega,by omega⟩))];rfl
theorem asS(g:c.Good nb)(G:lo+n<=c.N){X:Nat->Int}(C:qg nb lo n X){a:Nat}(ha:a<n):∀(d i j:Nat),j - i=d->i<=j->j<=n->∃i':Nat,i<=i'/\i'<=j/\fK 5 (av aGz 0) (s0S c lo n (a:Nat) (i:Nat) (j:Nat) X) (.exit 0) (s0S c lo n (a:Nat) (i':Nat) (i':Nat) X):=by
 have hs:=g.small;intro d
 induction d using aHf with
 |ind d o =>
  intro i j I y x;by_cases h:i<j
  .have st:=atF c lo n (a:Nat) (i:Nat) (j:Nat) X;rw[gG (show((i:Nat):Int)<(j:Nat) by omega),aY,VH (by omega) (by omega),aAz g G C (by omega) ha,aY]at st;cases hc:cl c lo X (((i+j) / 2:Nat):Int) (a:Nat)
   .rw[hc,eU]at st;obtain⟨i',u,q,l⟩:=o ((i+j) / 2 - i) (by omega) i ((i+j) / 2) rfl (by omega) (by omega);exact⟨i',u,by omega,fK.cons (dF (fA Sn (τ:=τ5) (by rfl)) aB ay aV fH (Ch c) bN st) l⟩
   .rw[hc,aY,aQ (by omega)]at st;obtain⟨i',u,q,l⟩:=o (j - ((i+j) / 2+1)) (by omega) ((i+j) / 2+1) j rfl (by omega) x;exact⟨i',by omega,q,fK.cons (dF (fA Sn (τ:=τ5) (by rfl)) aB ay aV fH (Ch c) bN st) l⟩
  .have:i=j:=by omega
   subst this;refine⟨i,ND _,ND _,fK.last (dF (fC Sn (τ:=τ5) (by rfl)) aB ay aV fH (Ch c) bN ((aAA c lo n (a:Nat) (i:Nat) (i:Nat) X).trans ?_))⟩;rw[iH (by omega)];rfl
theorem asU(g:c.Good nb)(I:lo+n<=c.N){X:Nat->Int}(G:qg nb lo n X){m:Nat}(x:m<n):∀(d i j:Nat),j - i=d->i<=j->j<=n->∃i':Nat,i<=i'/\i'<=j/\fK 5 (av aGz 2) (s2S c lo n (m:Nat) (i:Nat) (j:Nat) X) (.exit 4) (s2S c lo n (m:Nat) (i':Nat) (i':Nat) X):=by
 have hs:=g.small;intro d
 induction d using aHf with
 |ind d o =>
  intro i j M C y;by_cases h:i<j
  .have st:=atG c lo n (m:Nat) (i:Nat) (j:Nat) X;rw[gG (show((i:Nat):Int)<(j:Nat) by omega),aY,VH (by omega) (by omega),aAz g I G x (by omega),aY]at st;cases hc:cl c lo X (m:Nat) (((i+j) / 2:Nat):Int)
   .rw[hc,aJ5,aY,aQ (by omega)]at st;obtain⟨i',u,q,l⟩:=o (j - ((i+j) / 2+1)) (by omega) ((i+j) / 2+1) j rfl (by omega) y;exact⟨i',by omega,q,fK.cons (dF (fA Sq (τ:=τ5) (by rfl)) aB ay aV fH (Ch c) bN st) l⟩
   .rw[hc,aH7,eU]at st;obtain⟨i',u,q,l⟩:=o ((i+j) / 2 - i) (by omega) i ((i+j) / 2) rfl (by omega) (by omega);exact⟨i',u,by omega,fK.cons (dF (fA Sq (τ:=τ5) (by rfl)) aB ay aV fH (Ch c) bN st) l⟩
  .have:i=j:=by omega
   subst this;refine⟨i,ND _,ND _,fK.last (dF (fC Sq (τ:=τ5) (by rfl)) aB ay aV fH (Ch c) bN ((aAB c lo n (m:Nat) (i:Nat) (i:Nat) X).trans ?_))⟩;rw[iH (by omega)];rfl
theorem asW(g:c.Good nb)(G:lo+n<=c.N){X:Nat->Int}(C:qg nb lo n X)(a m b mid N:Int){p:Nat}(P:p<=100000):∀(d s r:Nat),r - s=d->s<=r->r<=n->r<=p+1->p<n+s ->
  ∃s':Nat,s<=s'/\s'<=r/\fK 5 (av aGz 4) (s4S c lo n a m b mid N (s:Nat) (r:Nat) (p:Nat) X) (.exit 8) (s4S c lo n a m b mid N (s':Nat) (s':Nat) (p:Nat) X):=by
 have hs:=g.small;intro d
 induction d using aHf with
 |ind d o =>
  intro i j Q y x M I;by_cases h:i<j
  .have st:=atH c lo n a m b mid N (i:Nat) (j:Nat) (p:Nat) X;rw[gG (show((i:Nat):Int)<(j:Nat) by omega),aY,VH (by omega) (by omega),lI (by omega) (by omega),aAz g G C (by omega) (by omega),aY]at st;cases hc:cl c lo X ((p - (i+j) / 2:Nat):Int) (((i+j) / 2:Nat):Int)
   .rw[hc,aJ5,aY,aQ (by omega)]at st;obtain⟨i',u,q,l⟩:=o (j - ((i+j) / 2+1)) (by omega) ((i+j) / 2+1) j rfl (by omega) x M (by omega);exact⟨i',by omega,q,fK.cons (dF (fA k4 (τ:=τ5) (by rfl)) aB ay aV fH (Ch c) bN st) l⟩
   .rw[hc,aH7,eU]at st;obtain⟨i',u,q,l⟩:=o ((i+j) / 2 - i) (by omega) i ((i+j) / 2) rfl (by omega) (by omega) (by omega) I;exact⟨i',u,by omega,fK.cons (dF (fA k4 (τ:=τ5) (by rfl)) aB ay aV fH (Ch c) bN st) l⟩
  .have:i=j:=by omega
   subst this;refine⟨i,ND _,ND _,fK.last (dF (fC k4 (τ:=τ5) (by rfl)) aB ay aV fH (Ch c) bN ((aAC c lo n a m b mid N (i:Nat) (i:Nat) (p:Nat) X).trans ?_))⟩;rw[iH (by omega)];rfl
theorem asT(hs:c.N<=1000)(u:lo+n<=c.N){i:Nat}(hi:0<i)(C:i<=n):∀(d k:Nat) (X:Nat->Int),i - 1 - k=d->∃(X':Nat->Int) (l:Int),PB lo n X X'/\fK 5 (av aGz 1) (zk c lo n (i:Nat) (k:Nat) X) (.exit 2) (zk c lo n (i:Nat) l X'):=by
 intro d
 induction d with
 |zero =>
  intro k X o;refine⟨X,((k:Nat):Int),PB.refl _ _ _,fK.last (dF (fC Y5 (τ:=τ5) (by rfl)) aB ay aV fH gQ bN ((aAD c lo n (i:Nat) (k:Nat) X).trans ?_))⟩;rw[uD hi (by omega),iH (by omega)];rfl
 |succ d ih =>
  intro k X o;obtain⟨X',l,y,x⟩:=ih (k+1) (zh X (lo+k) (lo+(k+1))) (by omega);refine⟨X',l,(PB.swap X ⟨by omega,by omega⟩ ⟨by omega,by omega⟩).trans y,fK.cons ?_ x⟩;refine(dF (fA Y5 (τ:=τ5) (by rfl)) aB ay aV fH gQ bN ((atI c lo n (i:Nat) (k:Nat) X).trans ?_)).sub (fQ.refl _) (s2:=s1N c lo n (i:Nat) (k:Nat) X) ?_
  .rw[uD hi (by omega),gG (by omega),aQ (by omega),amx (by omega) (by omega) u];rfl
  .unfold s1N zk;rw[aQ (by omega),mW,mW];exact afb λ q _=>Vj X _ _ q
theorem asV(hs:c.N<=1000)(x:lo+n<=c.N){i:Nat}:∀(d k:Nat) (X:Nat->Int),k - i=d->k<n->∃(X':Nat->Int) (l:Int),PB lo n X X'/\fK 5 (av aGz 3) (s3S c lo n (i:Nat) (k:Nat) X) (.exit 6) (s3S c lo n (i:Nat) l X'):=by
 intro d
 induction d with
 |zero =>
  intro k X u o;refine⟨X,((k:Nat):Int),PB.refl _ _ _,fK.last (dF (fC k3 (τ:=τ5) (by rfl)) aB ay aV fH gQ bN ((aAE c lo n (i:Nat) (k:Nat) X).trans ?_))⟩;rw[iH (by omega)];rfl
 |succ d ih =>
  intro k X u o;obtain⟨X',l,C,y⟩:=ih (k - 1) (zh X (lo+k) (lo+(k - 1))) (by omega) (by omega);refine⟨X',l,(PB.swap X ⟨by omega,by omega⟩ ⟨by omega,by omega⟩).trans C,fK.cons ?_ y⟩;refine(dF (fA k3 (τ:=τ5) (by rfl)) aB ay aV fH gQ bN ((atJ c lo n (i:Nat) (k:Nat) X).trans ?_)).sub (fQ.refl _) (s2:=s3N c lo n (i:Nat) (k:Nat) X) ?_
  .rw[gG (by omega),uD (by omega) (by omega),amx (by omega) (by omega) x];rfl
  .unfold s3N s3S;rw[uD (by omega) (by omega),mW,mW];exact afb λ q _=>Vj X _ _ q
end
section
variable{c:Ctx}{lo n:Nat}{a m b mid st e:Int}{X X' Y:Nat->Int}{F:Int->Nat->Int}
theorem aot{p q:Prop}[Decidable p][Decidable q]:cond (decide p) (decide q) false=decide (p/\q):=by by_cases l:p<;>by_cases d:q<;>simp[l,d]
theorem azC(h:mid<e/\e<b->dJ bO 168 [.bQ 1 1 lo n,iA mid,iA e,iA b,gX] (c.m Y) (.bK []) (c.m (F mid)))(d:¬(mid<e/\e<b)->F mid=Y):tl2 c lo n b mid F e Y=nU (.bK []) (c.m (F mid)):=by
 unfold tl2;rw[aot];by_cases hc:mid<e/\e<b
 .rw[gG hc,aY];exact Gw (lV (h hc)) _
 .rw[iH hc,eU,d hc]
theorem azB(h:a<st/\st<mid->dJ bO 168 [.bQ 1 1 lo n,iA a,iA st,iA mid,gX] (c.m Y) (.bK []) (c.m (F a)))(d:¬(a<st/\st<mid)->F a=Y):tl1 c lo n a b mid st F e Y=tl2 c lo n b mid F e (F a):=by
 unfold tl1;rw[aot];by_cases hc:a<st/\st<mid
 .rw[gG hc,aY];exact Gw (lV (h hc)) _
 .rw[iH hc,eU,d hc]
theorem azA(h:st<m/\m<e->dJ bO 189 [.bQ 1 1 lo n,iA st,iA m,iA e,gX] (c.m X) (.bK []) (c.m X'))(d:¬(st<m/\m<e)->X'=X):tl0 c lo n a m b mid st X X' F e=tl1 c lo n a b mid st F e X':=by
 unfold tl0;rw[aot];by_cases hc:st<m/\m<e
 .rw[gG hc,aY];exact Gw (lV (h hc)) _
 .rw[iH hc,eU,d hc]
end
section
variable{c:Ctx}{nb:Int}{lo n:Nat}
theorem DU(x:Nat):((x:Int)==1)=decide (x=1):=Mv x 1
theorem F4 (g:c.Good nb) (I:lo+n<=c.N):∀(d a m b:Nat) (X:Nat->Int),b - a=d->a<m->m<b->b<=n->qg nb lo n X->∃X',PB lo n X X'/\dJ bO 168 [.bQ 1 1 lo n,iA (a:Nat),iA (m:Nat),iA (b:Nat),gX] (c.m X) (.bK []) (c.m X'):=by
  have hs:=g.small;intro d
  induction d using aHf with
  |ind d ih =>
    intro a m b X hd ham hmb hb P;by_cases h1:m - a=1
    . obtain⟨i',q1,q2,U⟩:=asS g I P (a:=a) (by omega) _ m b rfl (by omega) hb;obtain⟨X',W,C,R⟩:=asT hs I (i:=i') (by omega) (by omega) _ a X rfl;refine⟨X',C,nM aB ay aV fH gQ aLW ?_ (τ:=τ5) (by rfl) ((aFS c lo n (a:Nat) (m:Nat) (b:Nat) (i':Nat) (i':Nat) W X X').trans ?_)⟩
      . exact Vq (fq (by rfl) (fK.loop (by simp) U)) (fq (by rfl) (fK.loop (by simp) R)) gN gN gN
      unfold smA;rw[lI (by omega) (by omega),DU,gG h1,aY,ak (fQ.refl _),ak (fQ.refl _)]
    . by_cases h2:b - m=1
      . obtain⟨i',q1,q2,U⟩:=asU g I P (m:=m) (by omega) _ a m rfl (by omega) (by omega);obtain⟨X',W,C,R⟩:=asV hs I (i:=i') _ m X rfl (by omega);refine⟨X',C,nM aB ay aV fH gQ aLW ?_ (τ:=τ5) (by rfl) ((aFT c lo n (a:Nat) (m:Nat) (b:Nat) (i':Nat) (i':Nat) W X X').trans ?_)⟩
        . exact Vq gN gN (fq (by rfl) (fK.loop (by simp) U)) (fq (by rfl) (fK.loop (by simp) R)) gN
        unfold smB;rw[lI (by omega) (by omega),DU,iH h1,eU,lI (by omega) (by omega),DU,gG h2,aY,ak (fQ.refl _),ak (fQ.refl _)]
      .
        have o:hf (a:Nat) (b:Nat)=(((a+b) / 2:Nat):Int):=VH (by omega) (by omega);generalize hmd:(a+b) / 2=mid at o;have eN:sN (a:Nat) (m:Nat) (b:Nat)=((mid+m:Nat):Int):=by unfold sN;rw[o,rA (by omega) (by omega)]
        have eP:FY (a:Nat) (m:Nat) (b:Nat)=((mid+m - 1:Nat):Int):=by unfold FY;rw[eN,uD (by omega) (by omega)]
        obtain⟨u,r0,Z,key⟩:∃u r0:Nat,(a<=u/\u<=r0/\r0<=m/\r0<=mid+m - 1+1/\mid+m - 1<n+u/\mid<=mid+m - r0/\mid+m<=b+u)/\((m>mid->u=mid+m - b/\r0=mid)/\(¬m>mid->u=a/\r0=m)):=by
          by_cases G:m>mid
          . exact⟨mid+m - b,mid,⟨by omega,by omega,by omega,by omega,by omega,by omega,by omega⟩,λ _=>⟨rfl,rfl⟩,λ h=>absurd G h⟩
          . exact⟨a,m,⟨by omega,by omega,by omega,by omega,by omega,by omega,by omega⟩,λ h=>absurd h G,λ _=>⟨rfl,rfl⟩⟩
        obtain⟨b1,b2,b3,b4,b5,b6,b8⟩:=Z;obtain⟨l,q1,q2,r⟩:=asW g I P (a:Nat) (m:Nat) (b:Nat) (mid:Nat) ((mid+m:Nat):Int) (p:=mid+m - 1) (by omega) _ u r0 rfl b2 (by omega) b4 b5;have f1:mid - a<d:=by omega
        have f2:b - mid<d:=by omega
        have f3:mid<=n:=by omega
        have f4:mid+m - l<=b:=by omega
        have M:∀{x y:Nat},((x:Nat):Int)<(y:Nat)->x<y:=λ h=>by omega
        have hne:¬((mid:Nat):Int)=(a:Nat):=by omega
        have z4:m<=100000:=by omega
        have z5:a<=m:=by omega
        have z6:b<=100000:=by omega
        have z7:m<=b:=by omega
        have z8:mid+m<=100000:=by omega
        have z9:l<=mid+m:=by omega
        have Q:m>mid->b<=mid+m:=λ h=>by omega
        obtain⟨X1,C,g1,g1'⟩:∃X1,PB lo n X X1/\(((l:Nat):Int)<(m:Nat)/\((m:Nat):Int)<((mid+m - l:Nat):Int)->dJ bO 189 [.bQ 1 1 lo n,iA (l:Nat),iA (m:Nat),iA ((mid+m - l:Nat):Int),gX] (c.m X) (.bK []) (c.m X1))/\(¬(((l:Nat):Int)<(m:Nat)/\((m:Nat):Int)<((mid+m - l:Nat):Int))->X1=X):=by
          by_cases hc:((l:Nat):Int)<(m:Nat)/\((m:Nat):Int)<((mid+m - l:Nat):Int)
          . obtain⟨X1,C,g1⟩:=Xt hs I X (a:=l) (m:=m) (b:=mid+m - l) (M hc.1) (M hc.2) (aa2 f4 hb);exact⟨X1,C,λ _=>g1,λ h=>absurd hc h⟩
          . exact⟨X,PB.refl _ _ _,λ h=>absurd h hc,λ _=>rfl⟩
        obtain⟨X2,p2,g2,g2'⟩:∃X2,PB lo n X1 X2/\(((a:Nat):Int)<(l:Nat)/\((l:Nat):Int)<(mid:Nat)->dJ bO 168 [.bQ 1 1 lo n,iA (a:Nat),iA (l:Nat),iA (mid:Nat),gX] (c.m X1) (.bK []) (c.m X2))/\(¬(((a:Nat):Int)<(l:Nat)/\((l:Nat):Int)<(mid:Nat))->X2=X1):=by
          by_cases hc:((a:Nat):Int)<(l:Nat)/\((l:Nat):Int)<(mid:Nat)
          . obtain⟨X2,p2,g2⟩:=ih (mid - a) f1 a l mid X1 rfl (M hc.1) (M hc.2) f3 (P.pb C);exact⟨X2,p2,λ _=>g2,λ h=>absurd hc h⟩
          . exact⟨X1,PB.refl _ _ _,λ h=>absurd h hc,λ _=>rfl⟩
        obtain⟨X3,p3,g3,g3'⟩:∃X3,PB lo n X2 X3/\(((mid:Nat):Int)<((mid+m - l:Nat):Int)/\((mid+m - l:Nat):Int)<(b:Nat)->dJ bO 168 [.bQ 1 1 lo n,iA (mid:Nat),iA ((mid+m - l:Nat):Int),iA (b:Nat),gX] (c.m X2) (.bK []) (c.m X3))/\(¬(((mid:Nat):Int)<((mid+m - l:Nat):Int)/\((mid+m - l:Nat):Int)<(b:Nat))->X3=X2):=by
          by_cases hc:((mid:Nat):Int)<((mid+m - l:Nat):Int)/\((mid+m - l:Nat):Int)<(b:Nat)
          . obtain⟨X3,p3,g3⟩:=ih (b - mid) f2 mid (mid+m - l) b X2 rfl (M hc.1) (M hc.2) hb ((P.pb C).pb p2);exact⟨X3,p3,λ _=>g3,λ h=>absurd hc h⟩
          . exact⟨X2,PB.refl _ _ _,λ h=>absurd h hc,λ _=>rfl⟩
        have hL:nT 5 bO (Y4 noG noG noG noG (jS 5 k4 τ5 (s4S c lo n (a:Nat) (m:Nat) (b:Nat) (hf (a:Nat) (b:Nat)) (sN (a:Nat) (m:Nat) (b:Nat)) (u:Nat) (r0:Nat) (FY (a:Nat) (m:Nat) (b:Nat)) X) (.exit 8) (s4S c lo n (a:Nat) (m:Nat) (b:Nat) (hf (a:Nat) (b:Nat)) (sN (a:Nat) (m:Nat) (b:Nat)) (l:Nat) (l:Nat) (FY (a:Nat) (m:Nat) (b:Nat)) X))) (dH aGz):=by refine Vq gN gN gN gN (fq (by rfl) (fK.loop (by simp) ?_));rw[o,eN,eP];exact r
        obtain⟨F,ea,em⟩:∃F:Int->Nat->Int,F (a:Nat)=X2/\F (mid:Nat)=X3:=⟨λ q=>if q=(a:Nat)then X2 else X3,gH rfl,fP hne⟩
        have hev:=aFU c lo n (a:Nat) (m:Nat) (b:Nat) (l:Nat) (l:Nat) (u:Nat) (r0:Nat) X X1 F;refine⟨X3,(C.trans p2).trans p3,nM aB ay aV (jU pq (jU pq fH)) gQ aLW (mem:=c.m X) hL (τ:=τ5) (by rfl) (hev.trans ?_)⟩;have z1:(aH (((m:Nat):Int) - (a:Nat))==1)=false:=by rw[lI z4 z5,DU,iH h1]
        have z2:(aH (((b:Nat):Int) - (m:Nat))==1)=false:=by rw[lI z6 z7,DU,iH h2]
        rw[z1,eU,z2,eU,o,eN,eP,lI (x:=mid+m) (y:=l) z8 z9]
        have htail:tl0 c lo n (a:Nat) (m:Nat) (b:Nat) (mid:Nat) (l:Nat) X X1 F ((mid+m - l:Nat):Int)=nU (.bK []) (c.m X3):=by rw[azA g1 g1'];rw[azB (Y:=X1) (by rw[ea];exact g2) (by rw[ea];exact g2'),ea,azC (Y:=X2) (by rw[em];exact g3) (by rw[em];exact g3'),em]
        rw[htail];by_cases G:m>mid
        . obtain⟨e1,e2⟩:=key.1 G;rw[gG (aKH.2 G),aY,lI z8 (Q G),e1,e2];exact ak (fQ.refl _)
        . obtain⟨e1,e2⟩:=key.2 G;rw[iH (λ h=>G (aKH.1 h)),eU,e1,e2];exact ak (fQ.refl _)
end
def ks:List Nat:=[0,1,2,6,7,8]
section
variable(c:Ctx)(lo n:Nat)(N bs a b bs' a' b':Int)(X X1 X2 X3:Nat->Int)
def Dy:St:=mkS 63 [(0,.bQ 1 1 lo n),(1,iA N),(2,gX),(6,iA bs),(7,iA a),(8,iA b)] (c.m X)
noncomputable def wIs:iM:=wQ bO 167 (λ _ _=>.bK []) (λ _ _=>c.m X1)
noncomputable def wSy:iM:=wQ bO 168 (λ _ _=>.bK []) (λ _ _=>c.m X1)
noncomputable def qIs(a b:Int)(Y d:Nat->Int)(o:Option Out):Option Out:=qW 167 [.bQ 1 1 lo n,iA a,iA b,gX] (.bK []) (c.m Y) (c.m d) o
theorem arR:qN bO [] [] [] [wIs c X1] [] bC (av aIR 0) (Dy c lo n N bs a b X) (gu ks τ5)=cond (decide (b<=N)) (qIs c lo n a b X X1 (some ⟨.normal,Dy c lo n N bs b (aH (b+bs)) X1,.any⟩)) none:=by kernel_rfl
theorem ayV:qN bO [] [] [] [wIs c X1] [] bC (av aIR 0) (Dy c lo n N bs a b X) (iG ks τ5)=cond (decide (b<=N)) (qIs c lo n a b X X1 none) (some ⟨.exit 0,Dy c lo n N bs a b X,.any⟩):=by kernel_rfl
theorem arT:qN bO [] [] [] [wSy c X1] [] bC (av aIR 2) (Dy c lo n N bs a b X) (gu ks τ5)=cond (decide (b<=N)) (qSm c lo n a (aH (a+bs)) b X X1 (some ⟨.normal,Dy c lo n N bs b (aH (b+aH (2*bs))) X1,.any⟩)) none:=by kernel_rfl
theorem ayW:qN bO [] [] [] [wSy c X1] [] bC (av aIR 2) (Dy c lo n N bs a b X) (iG ks τ5)=cond (decide (b<=N)) (qSm c lo n a (aH (a+bs)) b X X1 none) (some ⟨.exit 4,Dy c lo n N bs a b X,.any⟩):=by kernel_rfl
theorem arU:qN bO [] [] [] [wSy c X2] [] (eZ 9 (jS 5 ks τ5 (Dy c lo n N bs 0 (aH (2*bs)) X) (.exit 4) (Dy c lo n N bs a' b' X1))) (av aIR 1) (Dy c lo n N bs a b X) (gu ks τ5)=cond (decide (bs<N)) (gate (fQ 5 (Dy c lo n N bs 0 (aH (2*bs)) X) (Dy c lo n N bs 0 (aH (2*bs)) X)) (cond (decide (aH (a'+bs)<N)) (qSm c lo n a' (aH (a'+bs)) N X1 X2 (some ⟨.normal,Dy c lo n N (aH (bs*2)) a' b' X2,.any⟩)) (some ⟨.normal,Dy c lo n N (aH (bs*2)) a' b' X1,.any⟩))) none:=by kernel_rfl
theorem ayX:qN bO [] [] [] [] [] (eZ 9 noG) (av aIR 1) (Dy c lo n N bs a b X) (iG ks τ5)=cond (decide (bs<N)) none (some ⟨.exit 2,Dy c lo n N bs a b X,.any⟩):=by kernel_rfl
theorem amI:Gj bO [] [] [] [wIs c X2] [] (aly 2 (jS 5 ks τ5 (Dy c lo n N 20 0 20 X) (.exit 0) (Dy c lo n N 20 a b X1)) 7 (jS 5 ks τ5 (Dy c lo n N 20 a b X2) (.exit 2) (Dy c lo n N bs' a' b' X3))) aIR [.bQ 1 1 lo n,iA N,gX] (c.m X) τ5
 = gate (fQ 5 (Dy c lo n N 20 0 20 X) (Dy c lo n N 20 0 20 X)) (qIs c lo n a N X1 X2 (gate (fQ 5 (Dy c lo n N 20 a b X2) (Dy c lo n N 20 a b X2)) (nU (.bK []) (c.m X3)))):=by kernel_rfl
noncomputable def wSt:iM:=wQ bO 143 (λ _ _=>.bK []) (λ _ _=>c.m X1)
theorem ayY:Gj bO [] [] [] [wSt c X1] [] bC Tryz.f102 [.bQ 1 1 lo n,gX] (c.m X) τ5=qW 143 [.bQ 1 1 lo n,iA (n:Nat),gX] (.bK []) (c.m X) (c.m X1) (nU (.bK []) (c.m X1)):=by kernel_rfl
end
section
variable{c:Ctx}{nb:Int}{lo n:Nat}
theorem arV(g:c.Good nb)(C:lo+n<=c.N):∀(d a:Nat) (X:Nat->Int),n - a=d->a<=n->qg nb lo n X->∃(X':Nat->Int) (a' b':Nat),PB lo n X X'/\a'<=n/\fK 5 (av aIR 0) (Dy c lo n (n:Nat) 20 (a:Nat) ((a+20:Nat):Int) X) (.exit 0) (Dy c lo n (n:Nat) 20 (a':Nat) (b':Nat) X'):=by
 have hs:=g.small;intro d
 induction d using aHf with
 |ind d u =>
  intro a X I ha o;by_cases h:a+20<=n
  .obtain⟨X1,l,G⟩:=LK g C o (a:=a) (b:=a+20) ha h;obtain⟨X',a',b',p2,q,r⟩:=u (n - (a+20)) (by omega) (a+20) X1 rfl h (o.pb l);refine⟨X',a',b',l.trans p2,q,fK.cons (dF (fA ks (τ:=τ5) (by rfl)) aB ay aV (jU pq fH) gQ bN ((arR c lo n (n:Nat) 20 (a:Nat) ((a+20:Nat):Int) X X1).trans ?_)) r⟩;have z:aH (((a+20:Nat):Int)+20)=((a+20+20:Nat):Int):=rA (x:=a+20) (y:=20) (by omega) (by omega);rw[gG (by omega),z];exact Gw (lV G) _
  .refine⟨X,a,a+20,PB.refl _ _ _,ha,fK.last (dF (fC ks (τ:=τ5) (by rfl)) aB ay aV (jU pq fH) gQ bN ((ayV c lo n (n:Nat) 20 (a:Nat) ((a+20:Nat):Int) X X).trans ?_))⟩;rw[iH (by omega)];rfl
theorem arW(g:c.Good nb)(G:lo+n<=c.N){bs:Nat}(P:0<bs)(C:bs<=2000):∀(d a:Nat) (X:Nat->Int),n - a=d->a<=n->qg nb lo n X->∃(X':Nat->Int) (a' b':Nat),PB lo n X X'/\a'<=n/\fK 5 (av aIR 2) (Dy c lo n (n:Nat) (bs:Nat) (a:Nat) ((a+2*bs:Nat):Int) X) (.exit 4) (Dy c lo n (n:Nat) (bs:Nat) (a':Nat) (b':Nat) X'):=by
 have hs:=g.small;intro d
 induction d using aHf with
 |ind d y =>
  intro a X M ha o;by_cases h:a+2*bs<=n
  .obtain⟨X1,l,I⟩:=F4 g G _ a (a+bs) (a+2*bs) X rfl (by omega) (by omega) h o;obtain⟨X',a',b',p2,q,r⟩:=y (n - (a+2*bs)) (by omega) (a+2*bs) X1 rfl h (o.pb l);refine⟨X',a',b',l.trans p2,q,fK.cons (dF (fA ks (τ:=τ5) (by rfl)) aB ay aV (jU pq fH) gQ bN ((arT c lo n (n:Nat) (bs:Nat) (a:Nat) ((a+2*bs:Nat):Int) X X1).trans ?_)) r⟩;have x:aH (2*((bs:Nat):Int))=((2*bs:Nat):Int):=by rw[aO];omega
   have z:aH (((a+2*bs:Nat):Int)+((2*bs:Nat):Int))=((a+2*bs+2*bs:Nat):Int):=rA (by omega) (by omega);have u:aH (((a:Nat):Int)+((bs:Nat):Int))=((a+bs:Nat):Int):=rA (by omega) (by omega);rw[gG (by omega),x,z,u];exact Gw (lV I) _
  .refine⟨X,a,a+2*bs,PB.refl _ _ _,ha,fK.last (dF (fC ks (τ:=τ5) (by rfl)) aB ay aV (jU pq fH) gQ bN ((ayW c lo n (n:Nat) (bs:Nat) (a:Nat) ((a+2*bs:Nat):Int) X X).trans ?_))⟩;rw[iH (by omega)];rfl
theorem arX(g:c.Good nb)(y:lo+n<=c.N):∀(d bs:Nat) (a b:Int) (X:Nat->Int),n - bs=d->0<bs->bs<=2000->qg nb lo n X->∃(X':Nat->Int) (bs' a' b':Int),PB lo n X X'/\fK 5 (av aIR 1) (Dy c lo n (n:Nat) (bs:Nat) a b X) (.exit 2) (Dy c lo n (n:Nat) bs' a' b' X'):=by
 have hs:=g.small;intro d
 induction d using aHf with
 |ind d R =>
  intro bs a b X hd U o u;by_cases h:bs<n
  .obtain⟨X1,a1,C,l,q1,Q⟩:=arW g y U o _ 0 X rfl (alz _) u
   obtain⟨X2,p2,g2,x⟩:∃X2,PB lo n X1 X2/\(a1+bs<n->dJ bO 168 [.bQ 1 1 lo n,iA (a1:Nat),iA ((a1+bs:Nat):Int),iA (n:Nat),gX] (c.m X1) (.bK []) (c.m X2))/\(¬a1+bs<n->X2=X1):=by
    by_cases hc:a1+bs<n
    .obtain⟨X2,p2,g2⟩:=F4 g y _ a1 (a1+bs) n X1 rfl (by omega) hc (ND _) (u.pb l);exact⟨X2,p2,λ _=>g2,λ h=>absurd hc h⟩
    .exact⟨X1,PB.refl _ _ _,λ h=>absurd h hc,λ _=>rfl⟩
   have f1:n - bs*2<d:=by omega
   have f2:bs*2<=2000:=by omega
   have Z:a1<=100000:=by omega
   have W:bs<=100000:=by omega
   obtain⟨X',bs',a',b',p3,P⟩:=R (n - bs*2) f1 (bs*2) a1 C X2 rfl (by omega) f2 ((u.pb l).pb p2);refine⟨X',bs',a',b',(l.trans p2).trans p3,fK.cons (dF (fA ks (τ:=τ5) (by rfl)) aB ay aV (jU pq fH) gQ (iW (i:=9) 1 (by kernel_rfl) λ q hq _=>?_) ((arU c lo n (n:Nat) (bs:Nat) a b (a1:Nat) (C:Nat) X X1 X2).trans ?_)) P⟩
   .have:q=0:=by omega
    subst this;refine fq (by rfl) (fK.loop (by simp) ?_);have M:aH (2*((bs:Nat):Int))=((0+2*bs:Nat):Int):=by rw[aO];omega
    rw[M];exact Q
   .have I:aH (((a1:Nat):Int)+((bs:Nat):Int))=((a1+bs:Nat):Int):=rA Z W;have G:aH (((bs:Nat):Int)*2)=((bs*2:Nat):Int):=by rw[aO];omega
    rw[gG (by omega),aY,ak (fQ.refl _),I,G];by_cases hc:a1+bs<n
    .rw[gG (aKH.2 hc),aY];exact Gw (lV (g2 hc)) _
    .rw[iH (λ h=>hc (aKH.1 h)),eU,x hc]
  .refine⟨X,(bs:Nat),a,b,PB.refl _ _ _,fK.last (dF (fC ks (τ:=τ5) (by rfl)) aB ay aV fH gQ (iW (i:=9) 1 (by kernel_rfl) λ _ _ _=>gN) ((ayX c lo n (n:Nat) (bs:Nat) a b X).trans ?_))⟩;rw[iH (by omega)];rfl
theorem Zc(g:c.Good nb)(q:lo+n<=c.N){X:Nat->Int}(o:qg nb lo n X):∃X',PB lo n X X'/\dJ bO 143 [.bQ 1 1 lo n,iA (n:Nat),gX] (c.m X) (.bK []) (c.m X'):=by
 obtain⟨X1,a1,d,l,C,y⟩:=arV g q _ 0 X rfl (alz _) o;obtain⟨X2,p2,g2⟩:=LK g q (o.pb l) (a:=a1) (b:=n) C (ND _);obtain⟨X3,bs',a',b',p3,x⟩:=arX g q _ 20 (a1:Nat) (d:Nat) X2 rfl (by omega) (by omega) ((o.pb l).pb p2);refine⟨X3,(l.trans p2).trans p3,nM aB ay aV (jU pq fH) gQ Tryz.func143 (mem:=c.m X) (Y3 [2,7,9] (by kernel_rfl) λ j u f hf=>?_) (τ:=τ5) (by rfl) ((amI c lo n (n:Nat) (a1:Nat) (d:Nat) bs' a' b' X X1 X2 X3).trans ?_)⟩
 .have u:j<3:=u;have:j=0\/j=1\/j=2:=by omega
  rcases this with rfl |rfl |rfl
  .cases(show some (jS 5 ks τ5 (Dy c lo n (n:Nat) 20 0 20 X) (.exit 0) (Dy c lo n (n:Nat) 20 (a1:Nat) (d:Nat) X1))=some f from hf);exact fq (by rfl) (fK.loop (by simp) y)
  .cases(show some (jS 5 ks τ5 (Dy c lo n (n:Nat) 20 (a1:Nat) (d:Nat) X2) (.exit 2) (Dy c lo n (n:Nat) bs' a' b' X3))=some f from hf);exact fq (by rfl) (fK.loop (by simp) x)
  .cases(show none=some f from hf)
 .rw[ak (fQ.refl _),ak (fQ.refl _)];exact Gw (lV g2) _
theorem ahS(g:c.Good nb)(o:lo+n<=c.N){X:Nat->Int}(l:qg nb lo n X):∃X',PB lo n X X'/\dJ bO 102 [.bQ 1 1 lo n,gX] (c.m X) (.bK []) (c.m X'):=by obtain⟨X1,d,q⟩:=Zc g o l;exact⟨X1,d,nM aB ay aV (jU pq fH) gQ Tryz.func102 (mem:=c.m X) bN (τ:=τ5) (by rfl) ((ayY c lo n X X1).trans (Gw (lV q) _))⟩
end
open Hs
open Go.Ev (cn aM aU aX fdiv bD dG dR dN iB bW iL fabs aF)
theorem akY(p q u:Nat):aj bO 142 [V p q u] (.agg [.f p,.f q,.f u]):=sp aB Tryz.func142 (by kernel_rfl)
def aCx:Entry:=⟨142,eV λ p q u=>.agg [.f p,.f q,.f u]⟩
theorem MN:jr bO aCx:=uq akY
def aby(ax:Int)(b:Nat->Nat):Nat:=cond (ax==0) (aM (b 0) (b 3)) (cond (ax==1) (aM (b 1) (b 4)) (aM (b 2) (b 5)))
theorem Yg{ax:Int}(h:ax=0\/ax=1\/ax=2)(b:Nat->Nat):aj bO 105 [BX b,iA ax] (.f (aby ax b)):=by
 rcases h with rfl |rfl |rfl
 .exact sp (aL MN aB) aLX (by kernel_rfl)
 .exact sp (aL MN aB) aLX (by kernel_rfl)
 .exact sp (aL MN aB) aLX (by kernel_rfl)
def Cu(b:Nat->Nat)(i:Nat):Nat:=aU (b (i+3)) (b i)
def oI(k:Int):Option Out:=some (Out.of (iA k))
def axh(b:Nat->Nat)(i:Nat):Option Out:=cond (bW (Cu b 2) (Cu b i)) (oI 2) (oI (i:Nat))
def Yh(b:Nat->Nat):Option Out:=cond (bW (Cu b 1) (Cu b 0)) (axh b 1) (axh b 0)
theorem aCy(b:Nat->Nat):ev bO [aCx] [] bC Tryz.f101 [BX b] ret=cond (bW (Cu b 0) (Cu b 0)) (Yh b) (Yh b):=by kernel_rfl
theorem UU(b:Nat->Nat):∃ax:Int,(ax=0\/ax=1\/ax=2)/\aj bO 101 [BX b] (iA ax):=by
 have h:∃ax:Int,(ax=0\/ax=1\/ax=2)/\cond (bW (Cu b 0) (Cu b 0)) (Yh b) (Yh b)=oI ax:=by
  have e:cond (bW (Cu b 0) (Cu b 0)) (Yh b) (Yh b)=Yh b:=by cases bW (Cu b 0) (Cu b 0)<;>rfl
  rw[e];unfold Yh axh;cases bW (Cu b 1) (Cu b 0)<;>cases bW (Cu b 2) (Cu b 0)<;>cases bW (Cu b 2) (Cu b 1)
  all_goals first
   |exact⟨0,wV rfl,rfl⟩
   |exact⟨1,Gc (wV rfl),rfl⟩
   |exact⟨2,Gc (Gc rfl),rfl⟩
 obtain⟨ax,l,d⟩:=h;exact⟨ax,l,sp (aL MN aB) Tryz.func101 ((aCy b).trans d)⟩
theorem ahe(a:Nat):ev bO [] [] bC Tryz.f144 [.f a] ret=some (Out.of (bA (!(dR a a)))):=by kernel_rfl
theorem aqI(a:Nat):aj bO 144 [.f a] (bA (!(dR a a))):=sp aB Tryz.func144 (ahe a)
def MO(a b:Nat):Int:=cond (!(dR a a)) (cond (!(dR b b)) 0 (-1)) (cond (!(dR b b)) 1 (cond (dN a b) (-1) (cond (bW a b) 1 0)))
theorem ahf(d:Nat->Bool)(a b:Nat):ev bO [⟨144,eF λ a=>bA (d a)⟩] [] bC Tryz.f104 [.f a,.f b] ret=cond (d a) (cond (d b) (oI 0) (oI (-1))) (cond (d b) (oI 1) (cond (dN a b) (oI (-1)) (cond (bW a b) (oI 1) (oI 0)))):=by kernel_rfl
theorem aqJ(a b:Nat):aj bO 104 [.f a,.f b] (iA (MO a b)):=by refine sp (aL (Je aqI) aB) Tryz.func104 ((ahf (λ a=>!(dR a a)) a b).trans ?_);unfold MO oI;cases dR a a<;>cases dR b b<;>cases dN a b<;>cases bW a b<;>rfl
def aCz:AV->Nat->Nat
 |.agg [.f a0,.f a1,.f a2,.f a3,.f a4,.f a5]=>ls [a0,a1,a2,a3,a4,a5]
 |_=>λ _=>0
noncomputable def aFE:bf:=kS bO 105 λ d=>match d with
 | [b,.x (.int _ ax)]=>.f (aby ax (aCz b))
 |_=>.any
def pz(b:Nat->Nat):Nat->Nat:=ls [b 0,b 1,b 2,b 3,b 4,b 5]
noncomputable def axi(ax:Int)(b:Nat->Nat)(o:Option Out):Option Out:=gate (aj bO 105 [BX (pz b),iA ax] (.f (aby ax (pz b)))) o
theorem akZ(c:Ctx)(cf:Nat->Nat->Int)(x y:Int):ev bO [⟨104,eFF λ a b=>iA (cf a b)⟩] [aFE] bC Tryz.f103 [iA x,iA y,.ref [.ref [c.th,c.bx,.x (.pointer none)] 0] 0,.ref [iA c.ax] 0] ret
 = axi c.ax (c.B x.toNat) (axi c.ax (c.B y.toNat) (cond ((iP x c.bn||false)&&((iP y c.bn||false)&&true)) (oI (cf (aby c.ax (pz (c.B x.toNat))) (aby c.ax (pz (c.B y.toNat))))) none)):=by kernel_rfl
def cfX(ax:Int)(B:Nat->Nat->Nat)(x y:Int):Int:=MO (aby ax (pz (B x.toNat))) (aby ax (pz (B y.toNat)))
theorem Rm{x:Int}{n:Nat}(l:0<=x)(d:x<(n:Int)):iP x n=true:=by unfold iP;rw[gG l,gG d];rfl
theorem abz{c:Ctx}(hs:c.N<=1000)(d:c.ax=0\/c.ax=1\/c.ax=2)(l:c.cf=cfX c.ax c.B):c.Good c.bn:=by refine⟨hs,λ x y q o=>⟨?_,rfl⟩⟩;refine aR (aL (Dp aqJ) aB) (au aG ay) Tryz.func103 aC ((akZ c MO x y).trans ?_);unfold axi;rw[ak (Yg d _),ak (Yg d _),Rm q.1 q.2,Rm o.1 o.2,l];rfl
open Go.Ev
structure Nr(x:Nat):Prop where
 fin:isFin x=true
 lo:-4696837146684686336<=key x
 hi:key x<=4696837146684686336
theorem Nr.nan{x:Nat}(h:Nr x):aF x=false:=dX h.fin
theorem Lm{x:Nat}(h:iF x=true):Nr x:=by
 unfold iF at h;cases d:iL x 13920209183539462144
 .rw[d]at h;cases h
 .rw[d]at h;obtain⟨a,b,c⟩:=Xb d h;exact⟨a,b,c⟩
theorem Ub{x:Nat}(h:Nr x):iF x=true:=by
 unfold iF;have e1:aF 13920209183539462144=false:=by decide +kernel
 have e2:aF 4696837146684686336=false:=by decide +kernel
 have l:key 13920209183539462144=-4696837146684686336:=by decide +kernel
 have d:key 4696837146684686336=4696837146684686336:=by decide +kernel
 rw[qm h.nan e1,iX h.nan e2,l,d];have:=h.lo;have:=h.hi;simp[*]
theorem qZ{a b c:Nat}(h:fE a b c=true):Nr a/\Nr b/\Nr c:=by unfold fE at h;cases o:iF a<;>cases l:iF b<;>cases d:iF c<;>rw[o,l,d]at h<;>simp at h;exact⟨Lm o,Lm l,Lm d⟩
theorem aeu{a b c:Nat}(ha:Nr a)(hb:Nr b)(hc:Nr c):fE a b c=true:=by unfold fE;rw[Ub ha,Ub hb,Ub hc];rfl
structure Bx(b:Nat->Nat):Prop where
 n0:Nr (b 0)
 n1:Nr (b 1)
 n2:Nr (b 2)
 n3:Nr (b 3)
 n4:Nr (b 4)
 n5:Nr (b 5)
 x:key (b 0)<=key (b 3)
 y:key (b 1)<=key (b 4)
 z:key (b 2)<=key (b 5)
theorem Ki{x y:Nat}(l:Nr x)(d:Nr y)(h:bW x y=false):key x<=key y:=by rw[cZ l.nan d.nan]at h;simp at h;exact h
theorem Xo{b:Nat->Nat}(h:lG b=0):Bx b:=by unfold lG Uc aaP at h;cases u:fE (b 0) (b 1) (b 2)<;>cases q:fE (b 3) (b 4) (b 5)<;>rw[u,q]at h<;>simp at h;obtain⟨a0,a1,G⟩:=qZ u;obtain⟨C,y,x⟩:=qZ q;cases o:bW (b 0) (b 3)<;>cases l:bW (b 1) (b 4)<;>cases d:bW (b 2) (b 5)<;>rw[o,l,d]at h<;>simp at h;exact⟨a0,a1,G,C,y,x,Ki a0 C o,Ki a1 y l,Ki G x d⟩
theorem aaQ{x y:Nat}(l:Nr x)(d:Nr y)(h:key x<=key y):bW x y=false:=by rw[cZ l.nan d.nan];simp;exact h
theorem NJ{b:Nat->Nat}(h:Bx b):lG b=0:=by unfold lG Uc aaP;rw[aeu h.n0 h.n1 h.n2,aeu h.n3 h.n4 h.n5,aaQ h.n0 h.n3 h.x,aaQ h.n1 h.n4 h.y,aaQ h.n2 h.n5 h.z];rfl
theorem Ud{a b:Nat}(ha:Nr a)(hb:Nr b):Nr (jy a b)/\key (jy a b)<=key a/\key (jy a b)<=key b:=by
 unfold jy;rw[bS hb.nan ha.nan];by_cases h:key b<key a
 .simp only[h,decide_true,aY];exact⟨hb,by omega,by omega⟩
 .simp only[h,decide_false,eU];exact⟨ha,by omega,by omega⟩
theorem Ue{a b:Nat}(ha:Nr a)(hb:Nr b):Nr (jA a b)/\key a<=key (jA a b)/\key b<=key (jA a b):=by
 unfold jA;rw[cZ hb.nan ha.nan];by_cases h:key a<key b
 .simp only[h,decide_true,aY];exact⟨hb,by omega,by omega⟩
 .simp only[h,decide_false,eU];exact⟨ha,by omega,by omega⟩
structure Wi(b d:Nat->Nat):Prop where
 a0:key (d 0)<=key (b 0)
 a1:key (d 1)<=key (b 1)
 a2:key (d 2)<=key (b 2)
 a3:key (b 3)<=key (d 3)
 a4:key (b 4)<=key (d 4)
 a5:key (b 5)<=key (d 5)
theorem AQ{b c:Nat->Nat}(hb:Bx b)(hc:Bx c):Bx (ug b c)/\Wi b (ug b c)/\Wi c (ug b c):=by obtain⟨R,q0,r0⟩:=Ud hb.n0 hc.n0;obtain⟨Q,u,P⟩:=Ud hb.n1 hc.n1;obtain⟨p2,q,M⟩:=Ud hb.n2 hc.n2;obtain⟨p3,o,I⟩:=Ue hb.n3 hc.n3;obtain⟨p4,l,G⟩:=Ue hb.n4 hc.n4;obtain⟨p5,d,C⟩:=Ue hb.n5 hc.n5;have Z:=hb.x;have W:=hb.y;have U:=hb.z;exact⟨⟨R,Q,p2,p3,p4,p5,aHF q0 (aHF Z o),aHF u (aHF W l),aHF q (aHF U d)⟩,⟨q0,u,q,o,l,d⟩,⟨r0,P,M,I,G,C⟩⟩
theorem Ii{a o d:Nat}(ha:Nr a)(l:Nr o)(q:Nr d)(h:key d≠0):aF (fdiv (aU a o) d)=false:=by have hf:=Ia ha.fin l.fin ha.lo ha.hi l.lo l.hi;refine(Ei rfl hf q.fin ?_).2;intro e;have y:=(aef (x:=d));have u:=(H9 (x:=d));omega
theorem NK{lo hi l q o d n n' f f':Nat}(hlo:Nr lo)(hhi:Nr hi)(C:Nr l)(y:Nr q)(u:Nr o)(G:Nr d)(hn:aF n=false)(P:aF n'=false)(hf:aF f=false)(Q:aF f'=false)
  (h1:key l<=key lo) (h2:key hi<=key q) (h3:key n'<=key n) (h4:key f<=key f') :
  aF (vv lo hi o d n)=false/\aF (vv l q o d n')=false/\aF (wJ lo hi o d f)=false/\aF (wJ l q o d f')=false /\
  key (vv l q o d n')<=key (vv lo hi o d n)/\key n<=key (vv lo hi o d n)/\key (wJ lo hi o d f)<=key (wJ l q o d f')/\(Ca lo hi o d=true->Ca l q o d=true):=by
 have e0:aF 0=false:=by decide +kernel
 have k0:key 0=0:=by decide +kernel
 by_cases R:key d=0
 .have M:dR d 0=true:=by rw[dU G.nan e0,k0,R];rfl
  unfold vv wJ Ca;rw[M];simp only[aY];refine⟨hn,P,hf,Q,h3,af2 _,h4,?_⟩;rw[qm u.nan hlo.nan,iX u.nan hhi.nan,qm u.nan C.nan,iX u.nan y.nan];by_cases g1:key lo<=key o<;>by_cases g2:key o<=key hi<;>simp[g1,g2];exact⟨by omega,by omega⟩
 .have M:dR d 0=false:=by rw[dU G.nan e0,k0];simpa using R
  have sl:=Ia hlo.fin u.fin hlo.lo hlo.hi u.lo u.hi;have U:=Ia C.fin u.fin C.lo C.hi u.lo u.hi;have sh:=Ia hhi.fin u.fin hhi.lo hhi.hi u.lo u.hi;have W:=Ia y.fin u.fin y.lo y.hi u.lo u.hi;have ml:=Rb C.fin hlo.fin u.fin h1;have mh:=Rb hhi.fin y.fin u.fin h2;have nl:=Ii hlo u G R;have Z:=Ii C u G R;have nh:=Ii hhi u G R;have nh':=Ii y u G R
  have hA:aF (tH lo hi o d)=false/\aF (tH l q o d)=false/\aF (tJ lo hi o d)=false/\aF (tJ l q o d)=false/\key (tH l q o d)<=key (tH lo hi o d)/\key (tJ lo hi o d)<=key (tJ l q o d):=by
   unfold tH tJ;rw[bS G.nan e0,k0];by_cases x:key d<0
   .simp only[x,decide_true,aY];exact⟨nh,nh',nl,Z,Rh sh W G.fin x mh,Rh U sl G.fin x ml⟩
   .simp only[x,decide_false,eU];have I:0<key d:=by omega
    exact⟨nl,Z,nh,nh',J9 U sl G.fin I ml,J9 sh W G.fin I mh⟩
  obtain⟨a1,a2,a3,a4,a5,a6⟩:=hA;unfold vv wJ Ca jA jy;rw[M];simp only[eU];rw[cZ a1 hn,cZ a2 P,bS a3 hf,bS a4 Q]
  by_cases g1:key n<key (tH lo hi o d)<;>by_cases g2:key n'<key (tH l q o d)<;>by_cases g3:key (tJ lo hi o d)<key f<;>by_cases g4:key (tJ l q o d)<key f' <;>
   simp only[g1,g2,g3,g4,decide_true,decide_false,aY,eU,a1,a2,a3,a4,hn,P,hf,Q,true_and,implies_true,and_true]<;>(refine⟨?_,?_,?_⟩<;>omega)
structure Ry(r:Nat->Nat):Prop where
 n0:Nr (r 0)
 n1:Nr (r 1)
 n2:Nr (r 2)
 n3:Nr (r 3)
 n4:Nr (r 4)
 n5:Nr (r 5)
 n6:Nr (r 6)
theorem aBH{r:Nat->Nat}(h:gP r=0):Ry r:=by
 unfold gP at h;cases hf:QG r
 .unfold QG at hf;cases o:fE (r 0) (r 1) (r 2)<;>cases l:fE (r 3) (r 4) (r 5)<;>cases d:iF (r 6)<;>rw[o,l,d]at hf<;>simp at hf;obtain⟨a0,a1,y⟩:=qZ o;obtain⟨x,u,q⟩:=qZ l;exact⟨a0,a1,y,x,u,q,Lm d⟩
 .rw[hf]at h;simp at h
theorem meet_mono{b d r:Nat->Nat}(hb:Bx b)(x:Bx d)(h:Wi b d)(l:dw b r=true) :
  dw d r=true/\iB (bP d r) (bP b r)=true/\iB (bX b r) (bX d r)=true/\iB (bP b r) (bX b r)=true/\iL (bP b r) (r 6)=true:=by
 have o:Ij b r=false:=by
  cases e:Ij b r
  .rfl
  .unfold dw at l;rw[e]at l;cases l
 have C:gP r=0:=by unfold Ij at o;rw[NJ hb]at o;simpa using o
 have q:=aBH C
 have R:Ij d r=false:=by unfold Ij;rw[NJ x,C];rfl
 have I:m1K b r=true/\m2K b r=true/\m3K b r=true/\bW (m3N b r) (m3F b r)=false:=by
  unfold dw at l;rw[o]at l;cases e1:m1K b r<;>rw[e1]at l<;>try (cases l;done)
  cases e2:m2K b r<;>rw[e2]at l<;>try (cases l;done)
  cases e3:m3K b r<;>rw[e3]at l<;>try (cases l;done)
  exact⟨rfl,rfl,rfl,by simpa using l⟩
 obtain⟨Q,c2,c3,G⟩:=I;have eF:aF Gs=false:=by decide +kernel
 obtain⟨x1,x2,x3,x4,x5,x6,x7,x8⟩:=NK (n:=r 6) (n':=r 6) (f:=Gs) (f':=Gs) hb.n0 hb.n3 x.n0 x.n3 q.n0 q.n3 q.n6.nan q.n6.nan eF eF h.a0 h.a3 (af2 _) (af2 _);obtain⟨y1,y2,y3,y4,y5,y6,y7,y8⟩:=NK hb.n1 hb.n4 x.n1 x.n4 q.n1 q.n4 x1 x2 x3 x4 h.a1 h.a4 x5 x7;obtain⟨y,M,z3,z4,z5,z6,z7,z8⟩:=NK hb.n2 hb.n5 x.n2 x.n5 q.n2 q.n5 y1 y2 y3 y4 h.a2 h.a5 y5 y7;have d1:m1K d r=true:=x8 Q;have d2:m2K d r=true:=y8 c2;have d3:m3K d r=true:=z8 c3;have eb:m3N b r=vv (b 2) (b 5) (r 2) (r 5) (vv (b 1) (b 4) (r 1) (r 4) (vv (b 0) (b 3) (r 0) (r 3) (r 6))):=rfl;have Z:m3N d r=vv (d 2) (d 5) (r 2) (r 5) (vv (d 1) (d 4) (r 1) (r 4) (vv (d 0) (d 3) (r 0) (r 3) (r 6))):=rfl;have W:m3F b r=wJ (b 2) (b 5) (r 2) (r 5) (wJ (b 1) (b 4) (r 1) (r 4) (wJ (b 0) (b 3) (r 0) (r 3) Gs)):=rfl;have U:m3F d r=wJ (d 2) (d 5) (r 2) (r 5) (wJ (d 1) (d 4) (r 1) (r 4) (wJ (d 0) (d 3) (r 0) (r 3) Gs)):=rfl;rw[<-eb,<-Z]at z5;rw[<-W,<-U]at z7;rw[<-eb]at y z6;rw[<-Z]at M;rw[<-W]at z3;rw[<-U]at z4;rw[cZ y z3]at G;simp only[decide_eq_false_iff_not]at G
 have P:bW (m3N d r) (m3F d r)=false:=by rw[cZ M z4];simp;omega
 have u:dw d r=true:=by unfold dw;rw[R,d1,d2,d3,P];rfl
 have nb:bP b r=m3N b r:=by unfold bP;rw[l];rfl
 have nd:bP d r=m3N d r:=by unfold bP;rw[u];rfl
 have gb:bX b r=m3F b r:=by unfold bX;rw[l];rfl
 have gd:bX d r=m3F d r:=by unfold bX;rw[u];rfl
 refine⟨u,?_,?_,?_,?_⟩
 .rw[nb,nd,iX M y];simp;omega
 .rw[gb,gd,iX z3 z4];simp;omega
 .rw[nb,gb,iX y z3];simp;omega
 .rw[nb,qm y q.n6.nan];simp;omega
def aFa:List AV:=[.f 0,.f 0,.f 0,.f 0,.f 0,.f 0]
def Ctx.tR(c:Ctx):Row:=.c [c.th,c.bx,.x (.pointer none)]
def Ctx.oR(c:Ctx)(X:Nat->Int):Row:=.a 3 1 c.N (vB X)
def Ctx.m2(c:Ctx)(X:Nat->Int):List Row:=[c.tR,c.oR X]
def eJn:Entry:=⟨131,eBB λ a b=>BX (ug a b)⟩
def Qj:List Nat:=[0,4,5,18,19,20]
section
variable(c:Ctx)(X:Nat->Int)(lo n1:Nat)(i:Int)(J J':Nat->Nat)
def arS:St:=mkS 35 [(0,.own 0 0),(4,.own 2 0),(5,.own 3 0),(18,.view 1 1 lo 0 n1),(19,iA n1),(20,iA i)] [c.tR,c.oR X,.c aFa,.c (Bn J)]
def arJ(k:Int):Nat->Nat:=ug (pz J) (pz (c.B k.toNat))
def τ4:List (Option Nat):=[some 0,some 1,some 2,some 3]
theorem atY:qN bO [eJn] [] [] [] [] bC (av aLY 0) (arS c X lo n1 i J) (gu Qj τ4)=cond (decide (i<(n1:Int))) (cond (iP i n1||false) (cond (Tv (pj lo i) c.N||false) (cond ((iP (X (pj lo i)) c.bn||false)&&true) (some ⟨.normal,arS c X lo n1 (aH (i+1)) (arJ c J (X (pj lo i))),.any⟩) none) none) none) none:=by kernel_rfl
theorem aAW:qN bO [eJn] [] [] [] [] bC (av aLY 0) (arS c X lo n1 i J) (iG Qj τ4)=cond (decide (i<(n1:Int))) (cond (iP i n1||false) (cond (Tv (pj lo i) c.N||false) (cond ((iP (X (pj lo i)) c.bn||false)&&true) none none) none) none) (some ⟨.exit 0,arS c X lo n1 i J,.any⟩):=by kernel_rfl
theorem aFb(n:Nat):Gj bO [eJn] [] [] [] [] (eZ 3 (jS 2 Qj τ4 (arS c X (lo+1) n1 0 J') (.exit 0) (arS c X (lo+1) n1 (n1:Nat) J))) aLY [.own 0 0,.bQ 1 1 lo n] (c.m2 X) [some 0,some 1]
 = cond ((iP 0 n||false)&&((Tv (pj lo 0) c.N||false)&&((iP (X (pj lo 0)) c.bn||false)&&true))) (cond (AY (some 1) none none n||false) (gate (fQ 2 (arS c X (lo+1) (uV (some 1) none n) 0 (c.B (X (pj lo 0)).toNat)) (arS c X (lo+1) n1 0 J')) (nU (.agg (Bn J)) (c.m2 X))) none) none:=by kernel_rfl
end
theorem adV:jr bO eJn:=abb aj2
section
variable{c:Ctx}{lo n:Nat}{X:Nat->Int}
def arB(c:Ctx)(X:Nat->Int)(lo:Nat):Nat->Nat->Nat
 | 0=>c.B (X lo).toNat
 |k+1=>arJ c (arB c X lo k) (X (lo+1+k))
theorem P8(o:0<n)(hs:c.N<=1000)(y:lo+n<=c.N)(l:qg c.bn lo n X):dJ bO 100 [.own 0 0,.bQ 1 1 lo n] (c.m2 X) (.agg (Bn (arB c X lo (n - 1)))) (c.m2 X):=by
 have x:uV (some 1) none n=n - 1:=by unfold uV;simp only[aFz,apP];omega
 have key:fM 2 bO (.loop (av aLY 0)) (arS c X (lo+1) (n - 1) ((0:Nat):Int) (arB c X lo 0)) (.exit 0) (arS c X (lo+1) (n - 1) ((n - 1:Nat):Int) (arB c X lo (n - 1))):=by
  refine aP (λ k=>arS c X (lo+1) (n - 1) (k:Nat) (arB c X lo k)) (n - 1) (.exit 0) _ (by simp) (λ k u=>?_) ?_
  .refine dF (fA Qj (τ:=τ4) (by rfl)) (aL adV aB) ay aV fH gQ bN ((atY c X (lo+1) (n - 1) (k:Nat) (arB c X lo k)).trans ?_);have d:=l (lo+1+k) ⟨by omega,by omega⟩;rw[gG (by omega),aY,bZ u,mW,iU (by omega),Rm d.1 d.2,aQ (by omega)];rfl
  .refine dF (fC Qj (τ:=τ4) (by rfl)) (aL adV aB) ay aV fH gQ bN ((aAW c X (lo+1) (n - 1) ((n - 1:Nat):Int) (arB c X lo (n - 1))).trans ?_);rw[iH (by omega)];rfl
 refine nM (aL adV aB) ay aV fH gQ Tryz.func100 (mem:=c.m2 X) (iW (i:=3) 1 (by kernel_rfl) λ q hq _=>?_) (τ:=[some 0,some 1]) (by rfl) ((aFb c X lo (n - 1) (arB c X lo (n - 1)) (arB c X lo 0) n).trans ?_)
 .have:q=0:=by omega
  subst this;exact fq (by rfl) key
 .have d:=l lo ⟨by omega,by omega⟩;have e0:pj lo 0=lo:=rfl
  have hb:AY (some 1) none none n=true:=by unfold AY;simp only[aFz,apP,CX,UM];omega
  rw[show iP 0 n=true from bZ o,e0,iU (by omega),Rm d.1 d.2,hb,x];exact ak (fQ.refl _)
end
theorem aft{b:Nat->Nat}(h:Bx b):Bx (pz b):=⟨h.n0,h.n1,h.n2,h.n3,h.n4,h.n5,h.x,h.y,h.z⟩
theorem Wi.trans{a b d:Nat->Nat}(h:Wi a b)(g:Wi b d):Wi a d:=⟨aHF g.a0 h.a0,aHF g.a1 h.a1,aHF g.a2 h.a2,aHF h.a3 g.a3,aHF h.a4 g.a4,aHF h.a5 g.a5⟩
theorem avi{a b:Nat->Nat}(h:Wi (pz a) b):Wi a b:=⟨h.a0,h.a1,h.a2,h.a3,h.a4,h.a5⟩
theorem aoe{c:Ctx}{X:Nat->Int}{lo:Nat}:∀(k:Nat),(∀i,i<=k->Bx (c.B (X (lo+i)).toNat))->Bx (arB c X lo k)/\∀i,i<=k->Wi (c.B (X (lo+i)).toNat) (arB c X lo k)
 | 0,h=>⟨h 0 (ND _),λ i hi=>by
   have:i=0:=by omega
   subst this;exact⟨af2 _,af2 _,af2 _,af2 _,af2 _,af2 _⟩⟩
 |k+1,h=>by
  obtain⟨x,u⟩:=aoe k λ i hi=>h i (by omega);have d:=h (k+1) (ND _);rw[show lo+(k+1)=lo+1+k by omega]at d;obtain⟨q,o,l⟩:=AQ (aft x) (aft d);refine⟨q,λ i hi=>?_⟩;by_cases e:i=k+1
  .subst e;rw[show lo+(k+1)=lo+1+k by omega];exact avi l
  .exact(u i (by omega)).trans (avi o)
end Go.Proofs.YtdlhemnconimnaaGreat.Tr
namespace Go.Gv
open Go.RowKit Go.Ev
noncomputable section
def fgZ(keep:List Nat)(τ:List (Option Nat)):kH:=λ s k=>cond (lF τ s) (k (bW keep τ s)) none
theorem afD{np:Nat}{keep:List Nat}{τ:List (Option Nat)}(d:Fa np τ=true):gD np (fgZ keep τ):=λ s k r h=>by
 unfold fgZ at h;cases hf:lF τ s
 .rw[hf]at h;cases h
 .rw[hf]at h;exact⟨_,h,DC d hf⟩
theorem KN{np:Nat}:gD np (λ _ _=>none):=λ _ _ _ h=>by cases h
def azl(P:Program)(l:List Entry)(ks:List bf)(ms:List dZ)(o:List iM)(rs:List jK)(d:Nat)(u:List Oper)(q s1:St)(L:Nat->Option dY)(Z:Nat->Option kH)(fn:Func)(args:List AV)(mem:List Row)(τ:List (Option Nat)):Option Out:=Ms P (yR l ks ms o rs) (Pq d u q s1 (lq P (yR l ks ms o rs))) L Z 40 fn args mem τ
theorem SE{P:Program}{f:Nat}{args:List AV}{mem mem1 mem2:List Row}{v o:AV}(h:dJ P f args mem v mem1)(hs:fQ mem.length ⟨[(v,[])],mem1⟩ ⟨[(o,[])],mem2⟩):dJ P f args mem o mem2:=by
 refine⟨h.1,λ R E Q q I x G=>(h.2 R E Q q I x G).mono ?_⟩;rintro e W ⟨u,E',rfl,rfl,d,C⟩
 have l:AB E' [(v,[])] [(v,[])] #[u]:=by
  refine⟨⟨rfl,vo d.zA x⟩,λ t=>?_⟩;cases t with
  |zero=>exact⟨λ _=>C,λ h=>by cases h⟩
  |succ t=>exact⟨λ _=>cB.2 rfl,λ h=>by cases h⟩
 obtain⟨U,e2,y⟩:=hs E.A R E E' ⟨#[u],[]⟩ q ⟨rfl,l,d⟩;have M:=(y.frame.2 0).1 rfl;exact⟨u,U,rfl,e2,y.wd,M⟩
end
end Go.Gv
namespace Go.Proofs.YtdlhemnconimnaaGreat.Tr
open Go.Gv Hs
def mkA(n:Nat)(l:List (Nat × AV))(mem:List Row):St:=mkS n l mem
def cbA(b:Bool)(v:AV):AV:=cond b v .any
def Zj:Code->Nat->Option (Array Oper)
 |.region id ops _,i=>cond (amH id i) (some ops) none
 |.seq a b,i=>match Zj a i with
  |some o=>some o
  |none=>Zj b i
 |.loop c,i=>Zj c i
 |.block _ c,i=>Zj c i
 |.scope c,i=>Zj c i
 |.cond _ a b,i=>match Zj a i with
  |some o=>some o
  |none=>Zj b i
 |_,_=>none
inductive Tn where
 |lf (b:Nat->Nat) (lo n:Nat)
 |nd (b:Nat->Nat) (l r:Tn)
def C8:AV:=.x (.slice none 0 0)
def mG:AV:=.x (.pointer none)
def Tn.cO:Tn->List AV
 |.lf b lo n=>[.f (b 0),.f (b 1),.f (b 2),.f (b 3),.f (b 4),.f (b 5),.bQ 1 1 lo n,mG,mG]
 |.nd b l r=>[.f (b 0),.f (b 1),.f (b 2),.f (b 3),.f (b 4),.f (b 5),C8,.iN l.cO 0,.iN r.cO 0]
theorem DL{σ:Nat->Option Nat}(h:σ 1=some 1):∀t:Tn,jo σ t.cO=t.cO
 |.lf b lo n=>by unfold Tn.cO mG;simp only[jo,kG,h]
 |.nd b l r=>by unfold Tn.cO C8;simp only[jo,kG,DL h l,DL h r]
def aAx:SK:=λ d=>some ⟨.normal,d,.any⟩
def hS(lo h:Nat):Nat:=lo+CF (some ((h:Nat):Int))
def ndC(b:Nat->Nat)(l r:List AV):List AV:=[.f (b 0),.f (b 1),.f (b 2),.f (b 3),.f (b 4),.f (b 5),C8,.iN l 0,.iN r 0]
noncomputable def wGr(c:Ctx)(Fc:Nat->List AV)(FX:Nat->Nat->Int):iM:=wQ bO 54 (λ d _=>match d with
 | [_,.bQ _ _ st _]=>.iN (Fc st) 0
 |_=>.any) (λ d _=>match d with
 | [_,.bQ _ _ st _]=>c.m (FX st)
 |_=>[])
noncomputable def atE(c:Ctx)(Fc:Nat->List AV)(FX:Nat->Nat->Int):Tab:=yR [] [] [] [wGr c Fc FX] []
noncomputable def GV:Array Oper:=((Zj (dH aMM) 7).getD #[])
theorem xS:GV.size=14:=by kernel_rfl
theorem aGE:jW GV 0=[]:=by kernel_rfl
theorem aGF:jW GV 1=[]:=by kernel_rfl
theorem aGG:jW GV 2=[]:=by kernel_rfl
theorem aGH:jW GV 3=[]:=by kernel_rfl
theorem aor:jW GV 4=[2,3]:=by kernel_rfl
theorem adK:jW GV 5=[1,4]:=by kernel_rfl
theorem aGI:jW GV 6=[]:=by kernel_rfl
theorem aGJ:jW GV 7=[]:=by kernel_rfl
theorem aGK:jW GV 8=[]:=by kernel_rfl
theorem aos:jW GV 9=[7,8]:=by kernel_rfl
theorem Ap:jW GV 10=[6,9,5]:=by kernel_rfl
theorem xU:jW GV 11=[0,5,10]:=by kernel_rfl
theorem yN:jW GV 12=[11]:=by kernel_rfl
theorem mD:jW GV 13=[12,10,0,1,2,3,4,5,6,7,8,9,10,11,12]:=by kernel_rfl
section
variable(c:Ctx)(lo n h:Nat)(Fc:Nat->List AV)(FX:Nat->Nat->Int)(X:Nat->Int)
def F9(Q P M I G u b6 C y x l q d o:Bool):St:=mkA 39 [(1,.bQ 1 1 lo n),(2,.own 2 0),(4,cond o (.own 5 0) mG),(5,.own 3 0),(7,iA (h:Nat)),(26,cbA Q (.agg (Bn c.b))),(27,cbA P (.own 0 0)),(28,cbA M (.bQ 1 1 lo n)),(29,cbA I (iA (h:Nat))),(30,cbA G (.bQ 1 1 lo (uV none (some (h:Nat)) n))),(31,cbA u (.iN (Fc lo) 0)),(32,cbA b6 (.own 0 0)),(33,cbA C (.bQ 1 1 lo n)),(34,cbA y (iA (h:Nat))),(35,cbA x (.bQ 1 1 (hS lo h) (uV (some (h:Nat)) none n))),(36,cbA l (.iN (Fc (hS lo h)) 0)),(37,cbA q (.agg (ndC c.b (Fc lo) (Fc (hS lo h))))),(38,cbA d (.own 5 0))] (c.m (cond l (FX (hS lo h)) (cond u (FX lo) X))++cond d [.c (ndC c.b (Fc lo) (Fc (hS lo h)))] [])
noncomputable def grX (i : Nat) (s : St) : Option Out := Jk bO (atE c Fc FX) GV.toList [(GV[i]?).getD ⟨none, .move (.const undef), 0, "", #[], none⟩] s aAx
theorem aGL(G C y x l b6 u q o d:Bool):grX c Fc FX 0 (F9 c lo n h Fc FX X false G C y x l b6 u q o d false false false)=some ⟨.normal,F9 c lo n h Fc FX X true G C y x l b6 u q o d false false false,.any⟩:=by cases l<;>cases d<;>kernel_rfl
theorem aGM(y x u q b6 o l d:Bool):grX c Fc FX 1 (F9 c lo n h Fc FX X y false x u q false b6 o l d false false false false)=some ⟨.normal,F9 c lo n h Fc FX X y true x u q false b6 o l d false false false false,.any⟩:=by kernel_rfl
theorem aGN(x u q b6 o l d:Bool):grX c Fc FX 2 (F9 c lo n h Fc FX X x u false q false false b6 o l d false false false false)=some ⟨.normal,F9 c lo n h Fc FX X x u true q false false b6 o l d false false false false,.any⟩:=by kernel_rfl
theorem aGO(x u q b6 o l d:Bool):grX c Fc FX 3 (F9 c lo n h Fc FX X x u q false false false b6 o l d false false false false)=some ⟨.normal,F9 c lo n h Fc FX X x u q true false false b6 o l d false false false false,.any⟩:=by kernel_rfl
theorem aGP(u q b6 o l d:Bool):grX c Fc FX 4 (F9 c lo n h Fc FX X u q true true false false b6 o l d false false false false)=cond ((or (AY none (some (h:Nat)) none n) false)) (some ⟨.normal,F9 c lo n h Fc FX X u q true true true false b6 o l d false false false false,.any⟩) none:=by kernel_rfl
theorem aGQ(x u q b6 o l d:Bool):grX c Fc FX 5 (F9 c lo n h Fc FX X x true u q true false b6 o l d false false false false)=cond (jv (rW bO 54 [.own 0 0,.bQ 1 1 lo (uV none (some (h:Nat)) n)] (c.m X) (.iN (Fc lo) 0) (c.m (FX lo)))) (some ⟨.normal,F9 c lo n h Fc FX X x true u q true true b6 o l d false false false false,.any⟩) none:=by kernel_rfl
theorem aGR(G C y x u d q o l:Bool):grX c Fc FX 6 (F9 c lo n h Fc FX X G C y x u d false q o l false false false false)=some ⟨.normal,F9 c lo n h Fc FX X G C y x u d true q o l false false false false,.any⟩:=by cases d<;>kernel_rfl
theorem aGS(y x u q o d b6 l:Bool):grX c Fc FX 7 (F9 c lo n h Fc FX X y x u q o d b6 false l false false false false false)=some ⟨.normal,F9 c lo n h Fc FX X y x u q o d b6 true l false false false false false,.any⟩:=by cases d<;>kernel_rfl
theorem aGT(y x u q o d b6 l:Bool):grX c Fc FX 8 (F9 c lo n h Fc FX X y x u q o d b6 l false false false false false false)=some ⟨.normal,F9 c lo n h Fc FX X y x u q o d b6 l true false false false false false,.any⟩:=by cases d<;>kernel_rfl
theorem aGU(x u q o l d b6:Bool):grX c Fc FX 9 (F9 c lo n h Fc FX X x u q o l d b6 true true false false false false false)=cond ((or (AY (some (h:Nat)) none none n&&Tv 0 (uV (some (h:Nat)) none n)) false)) (some ⟨.normal,F9 c lo n h Fc FX X x u q o l d b6 true true true false false false false,.any⟩) none:=by cases d<;>kernel_rfl
theorem aEW(y x u q o l d:Bool):grX c Fc FX 10 (F9 c lo n h Fc FX X y x u q o true true l d true false false false false)=cond (jv (rW bO 54 [.own 0 0,.bQ 1 1 (hS lo h) (uV (some (h:Nat)) none n)] (c.m (FX lo)) (.iN (Fc (hS lo h)) 0) (c.m (FX (hS lo h))))) (some ⟨.normal,F9 c lo n h Fc FX X y x u q o true true l d true true false false false,.any⟩) none:=by kernel_rfl
theorem aEX(y x u q b6 o l d:Bool):grX c Fc FX 11 (F9 c lo n h Fc FX X true y x u q true b6 o l d true false false false)=some ⟨.normal,F9 c lo n h Fc FX X true y x u q true b6 o l d true true false false,.any⟩:=by kernel_rfl
theorem aEY(I G C y x l b6 u q o d:Bool):grX c Fc FX 12 (F9 c lo n h Fc FX X I G C y x l b6 u q o d true false false)=some ⟨.normal,F9 c lo n h Fc FX X I G C y x l b6 u q o d true true false,.any⟩:=by cases l<;>cases d<;>kernel_rfl
theorem aEZ :grX c Fc FX 13 (F9 c lo n h Fc FX X true true true true true true true true true true true true true false)=some ⟨.normal,F9 c lo n h Fc FX X true true true true true true true true true true true true true true,.any⟩:=by kernel_rfl
def aGV:List Bool->St
 | [b0,b1,b2,b3,b4,b5,b6,b7,b8,b9,b10,b11,b12,b13]=>F9 c lo n h Fc FX X b0 b1 b2 b3 b4 b5 b6 b7 b8 b9 b10 b11 b12 b13
 |_=>F9 c lo n h Fc FX X false false false false false false false false false false false false false false
abbrev asC:St:=F9 c lo n h Fc FX X false false false false false false false false false false false false false false
abbrev asD:St:=F9 c lo n h Fc FX X true true true true true true true true true true true true true true
end
theorem aAy {i : Nat} (h : i < 14) : GV[i]? = some ((GV[i]?).getD ⟨none, .move (.const undef), 0, "", #[], none⟩) := by
 rw[ayT (by rw[xS];exact h)];rfl
theorem aAe(c:Ctx)(lo n h:Nat)(Fc:Nat->List AV)(FX:Nat->Nat->Int)(X:Nat->Int)(aGW:((or (AY none (some (h:Nat)) none n) false))=true)(aGX:rW bO 54 [.own 0 0,.bQ 1 1 lo (uV none (some (h:Nat)) n)] (c.m X) (.iN (Fc lo) 0) (c.m (FX lo)))(aGY:((or (AY (some (h:Nat)) none none n&&Tv 0 (uV (some (h:Nat)) none n)) false))=true)(aE0:rW bO 54 [.own 0 0,.bQ 1 1 (hS lo h) (uV (some (h:Nat)) none n)] (c.m (FX lo)) (.iN (Fc (hS lo h)) 0) (c.m (FX (hS lo h)))):Sv bO GV (asC c lo n h Fc FX X) (asD c lo n h Fc FX X):=by
 have st : ∀ {i : Nat} {s s1 : St}, grX c Fc FX i s = some ⟨.normal, s1, .any⟩ -> LH bO (atE c Fc FX) GV.toList s ((GV[i]?).getD ⟨none, .move (.const undef), 0, "", #[], none⟩) s1 := λ h => Za (jV aB ay aV (jU pq fH) gQ).par h
 refine afq (T:=(atE c Fc FX)) (jV aB ay aV (jU pq fH) gQ) (by kernel_rfl) ?_
 have Q:∀i,i<GV.size->∀d,d∈jW GV i->d<i:=λ i hi d o=>by
  rw[xS]at hi
  match i,hi with
  | 0,_=>rw[aGE]at o;cases o
  | 1,_=>rw[aGF]at o;cases o
  | 2,_=>rw[aGG]at o;cases o
  | 3,_=>rw[aGH]at o;cases o
  | 4,_=>rw[aor]at o;simp at o;omega
  | 5,_=>rw[adK]at o;simp at o;omega
  | 6,_=>rw[aGI]at o;cases o
  | 7,_=>rw[aGJ]at o;cases o
  | 8,_=>rw[aGK]at o;cases o
  | 9,_=>rw[aos]at o;simp at o;omega
  | 10,_=>rw[Ap]at o;simp at o;omega
  | 11,_=>rw[xU]at o;simp at o;omega
  | 12,_=>rw[yN]at o;simp at o;omega
  | 13,_=>rw[mD]at o;simp at o;omega
  |n+14,hi=>exact absurd hi (by omega)
 have:=aiu (P:=bO) (T:=(atE c Fc FX)) (ops:=GV) (K:=λ s'=>WL s'=WL (asD c lo n h Fc FX X)) (aGV c lo n h Fc FX X) Q (λ bs i hl hi hb o l=>?_) (by rw[xS];rfl) GV.size (Array.replicate GV.size false) (by simp) (by rw[xS];decide) (λ j d hj _=>by have hm:=ajw hj;rw[xS]at hm;simp at hm)
 .rw[xS]at this ⊢;exact this
 .rw[xS]at hl hi
  match bs,hl with
  | [b0,b1,b2,b3,b4,b5,b6,b7,b8,b9,b10,b11,b12,b13],_ =>
   refine⟨_,aAy hi,?_⟩
   match i,hi,hb,o with
   | 0,_,hb,o =>
    simp at hb;subst hb
    have x:b11=false:=by
     cases b11 with
     |false=>rfl
     |true=>exact absurd (l 11 0 rfl (by rw[xU];simp)) (by simp)
    subst x
    have u:b12=false:=by
     cases b12 with
     |false=>rfl
     |true=>exact absurd (l 12 11 rfl (by rw[yN];simp)) (by simp)
    subst u
    have q:b13=false:=by
     cases b13 with
     |false=>rfl
     |true=>exact absurd (l 13 0 rfl (by rw[mD];simp)) (by simp)
    subst q;exact st (aGL c lo n h Fc FX X _ _ _ _ _ _ _ _ _ _)
   | 1,_,hb,o =>
    simp at hb;subst hb
    have M:b5=false:=by
     cases b5 with
     |false=>rfl
     |true=>exact absurd (l 5 1 rfl (by rw[adK];simp)) (by simp)
    subst M
    have y:b10=false:=by
     cases b10 with
     |false=>rfl
     |true=>exact absurd (l 10 5 rfl (by rw[Ap];simp)) (by simp)
    subst y
    have x:b11=false:=by
     cases b11 with
     |false=>rfl
     |true=>exact absurd (l 11 5 rfl (by rw[xU];simp)) (by simp)
    subst x
    have u:b12=false:=by
     cases b12 with
     |false=>rfl
     |true=>exact absurd (l 12 11 rfl (by rw[yN];simp)) (by simp)
    subst u
    have q:b13=false:=by
     cases b13 with
     |false=>rfl
     |true=>exact absurd (l 13 1 rfl (by rw[mD];simp)) (by simp)
    subst q;exact st (aGM c lo n h Fc FX X _ _ _ _ _ _ _ _)
   | 2,_,hb,o =>
    simp at hb;subst hb
    have f4:b4=false:=by
     cases b4 with
     |false=>rfl
     |true=>exact absurd (l 4 2 rfl (by rw[aor];simp)) (by simp)
    subst f4
    have M:b5=false:=by
     cases b5 with
     |false=>rfl
     |true=>exact absurd (l 5 4 rfl (by rw[adK];simp)) (by simp)
    subst M
    have y:b10=false:=by
     cases b10 with
     |false=>rfl
     |true=>exact absurd (l 10 5 rfl (by rw[Ap];simp)) (by simp)
    subst y
    have x:b11=false:=by
     cases b11 with
     |false=>rfl
     |true=>exact absurd (l 11 5 rfl (by rw[xU];simp)) (by simp)
    subst x
    have u:b12=false:=by
     cases b12 with
     |false=>rfl
     |true=>exact absurd (l 12 11 rfl (by rw[yN];simp)) (by simp)
    subst u
    have q:b13=false:=by
     cases b13 with
     |false=>rfl
     |true=>exact absurd (l 13 2 rfl (by rw[mD];simp)) (by simp)
    subst q;exact st (aGN c lo n h Fc FX X _ _ _ _ _ _ _)
   | 3,_,hb,o =>
    simp at hb;subst hb
    have f4:b4=false:=by
     cases b4 with
     |false=>rfl
     |true=>exact absurd (l 4 3 rfl (by rw[aor];simp)) (by simp)
    subst f4
    have M:b5=false:=by
     cases b5 with
     |false=>rfl
     |true=>exact absurd (l 5 4 rfl (by rw[adK];simp)) (by simp)
    subst M
    have y:b10=false:=by
     cases b10 with
     |false=>rfl
     |true=>exact absurd (l 10 5 rfl (by rw[Ap];simp)) (by simp)
    subst y
    have x:b11=false:=by
     cases b11 with
     |false=>rfl
     |true=>exact absurd (l 11 5 rfl (by rw[xU];simp)) (by simp)
    subst x
    have u:b12=false:=by
     cases b12 with
     |false=>rfl
     |true=>exact absurd (l 12 11 rfl (by rw[yN];simp)) (by simp)
    subst u
    have q:b13=false:=by
     cases b13 with
     |false=>rfl
     |true=>exact absurd (l 13 3 rfl (by rw[mD];simp)) (by simp)
    subst q;exact st (aGO c lo n h Fc FX X _ _ _ _ _ _ _)
   | 4,_,hb,o =>
    simp at hb;have d2:=o 2 (by rw[aor];simp);simp at d2;have d3:=o 3 (by rw[aor];simp);simp at d3;subst hb d2 d3
    have M:b5=false:=by
     cases b5 with
     |false=>rfl
     |true=>exact absurd (l 5 4 rfl (by rw[adK];simp)) (by simp)
    subst M
    have y:b10=false:=by
     cases b10 with
     |false=>rfl
     |true=>exact absurd (l 10 5 rfl (by rw[Ap];simp)) (by simp)
    subst y
    have x:b11=false:=by
     cases b11 with
     |false=>rfl
     |true=>exact absurd (l 11 5 rfl (by rw[xU];simp)) (by simp)
    subst x
    have u:b12=false:=by
     cases b12 with
     |false=>rfl
     |true=>exact absurd (l 12 11 rfl (by rw[yN];simp)) (by simp)
    subst u
    have q:b13=false:=by
     cases b13 with
     |false=>rfl
     |true=>exact absurd (l 13 4 rfl (by rw[mD];simp)) (by simp)
    subst q;refine st ((aGP c lo n h Fc FX X _ _ _ _ _ _).trans ?_);rw[aGW];rfl
   | 5,_,hb,o =>
    simp at hb;have d1:=o 1 (by rw[adK];simp);simp at d1;have d4:=o 4 (by rw[adK];simp);simp at d4;subst hb d1 d4
    have y:b10=false:=by
     cases b10 with
     |false=>rfl
     |true=>exact absurd (l 10 5 rfl (by rw[Ap];simp)) (by simp)
    subst y
    have x:b11=false:=by
     cases b11 with
     |false=>rfl
     |true=>exact absurd (l 11 5 rfl (by rw[xU];simp)) (by simp)
    subst x
    have u:b12=false:=by
     cases b12 with
     |false=>rfl
     |true=>exact absurd (l 12 11 rfl (by rw[yN];simp)) (by simp)
    subst u
    have q:b13=false:=by
     cases b13 with
     |false=>rfl
     |true=>exact absurd (l 13 5 rfl (by rw[mD];simp)) (by simp)
    subst q;refine st ((aGQ c lo n h Fc FX X _ _ _ _ _ _ _).trans ?_);rw[jl aGX];rfl
   | 6,_,hb,o =>
    simp at hb;subst hb
    have y:b10=false:=by
     cases b10 with
     |false=>rfl
     |true=>exact absurd (l 10 6 rfl (by rw[Ap];simp)) (by simp)
    subst y
    have x:b11=false:=by
     cases b11 with
     |false=>rfl
     |true=>exact absurd (l 11 10 rfl (by rw[xU];simp)) (by simp)
    subst x
    have u:b12=false:=by
     cases b12 with
     |false=>rfl
     |true=>exact absurd (l 12 11 rfl (by rw[yN];simp)) (by simp)
    subst u
    have q:b13=false:=by
     cases b13 with
     |false=>rfl
     |true=>exact absurd (l 13 6 rfl (by rw[mD];simp)) (by simp)
    subst q;exact st (aGR c lo n h Fc FX X _ _ _ _ _ _ _ _ _)
   | 7,_,hb,o =>
    simp at hb;subst hb
    have f9:b9=false:=by
     cases b9 with
     |false=>rfl
     |true=>exact absurd (l 9 7 rfl (by rw[aos];simp)) (by simp)
    subst f9
    have y:b10=false:=by
     cases b10 with
     |false=>rfl
     |true=>exact absurd (l 10 9 rfl (by rw[Ap];simp)) (by simp)
    subst y
    have x:b11=false:=by
     cases b11 with
     |false=>rfl
     |true=>exact absurd (l 11 10 rfl (by rw[xU];simp)) (by simp)
    subst x
    have u:b12=false:=by
     cases b12 with
     |false=>rfl
     |true=>exact absurd (l 12 11 rfl (by rw[yN];simp)) (by simp)
    subst u
    have q:b13=false:=by
     cases b13 with
     |false=>rfl
     |true=>exact absurd (l 13 7 rfl (by rw[mD];simp)) (by simp)
    subst q;exact st (aGS c lo n h Fc FX X _ _ _ _ _ _ _ _)
   | 8,_,hb,o =>
    simp at hb;subst hb
    have f9:b9=false:=by
     cases b9 with
     |false=>rfl
     |true=>exact absurd (l 9 8 rfl (by rw[aos];simp)) (by simp)
    subst f9
    have y:b10=false:=by
     cases b10 with
     |false=>rfl
     |true=>exact absurd (l 10 9 rfl (by rw[Ap];simp)) (by simp)
    subst y
    have x:b11=false:=by
     cases b11 with
     |false=>rfl
     |true=>exact absurd (l 11 10 rfl (by rw[xU];simp)) (by simp)
    subst x
    have u:b12=false:=by
     cases b12 with
     |false=>rfl
     |true=>exact absurd (l 12 11 rfl (by rw[yN];simp)) (by simp)
    subst u
    have q:b13=false:=by
     cases b13 with
     |false=>rfl
     |true=>exact absurd (l 13 8 rfl (by rw[mD];simp)) (by simp)
    subst q;exact st (aGT c lo n h Fc FX X _ _ _ _ _ _ _ _)
   | 9,_,hb,o =>
    simp at hb;have W:=o 7 (by rw[aos];simp);simp at W;have U:=o 8 (by rw[aos];simp);simp at U;subst hb W U
    have y:b10=false:=by
     cases b10 with
     |false=>rfl
     |true=>exact absurd (l 10 9 rfl (by rw[Ap];simp)) (by simp)
    subst y
    have x:b11=false:=by
     cases b11 with
     |false=>rfl
     |true=>exact absurd (l 11 10 rfl (by rw[xU];simp)) (by simp)
    subst x
    have u:b12=false:=by
     cases b12 with
     |false=>rfl
     |true=>exact absurd (l 12 11 rfl (by rw[yN];simp)) (by simp)
    subst u
    have q:b13=false:=by
     cases b13 with
     |false=>rfl
     |true=>exact absurd (l 13 9 rfl (by rw[mD];simp)) (by simp)
    subst q;refine st ((aGU c lo n h Fc FX X _ _ _ _ _ _ _).trans ?_);rw[aGY];rfl
   | 10,_,hb,o =>
    simp at hb;have Z:=o 6 (by rw[Ap];simp);simp at Z;have R:=o 9 (by rw[Ap];simp);simp at R;have I:=o 5 (by rw[Ap];simp);simp at I;subst hb Z R I
    have x:b11=false:=by
     cases b11 with
     |false=>rfl
     |true=>exact absurd (l 11 10 rfl (by rw[xU];simp)) (by simp)
    subst x
    have u:b12=false:=by
     cases b12 with
     |false=>rfl
     |true=>exact absurd (l 12 11 rfl (by rw[yN];simp)) (by simp)
    subst u
    have q:b13=false:=by
     cases b13 with
     |false=>rfl
     |true=>exact absurd (l 13 10 rfl (by rw[mD];simp)) (by simp)
    subst q;refine st ((aEW c lo n h Fc FX X _ _ _ _ _ _ _).trans ?_);rw[jl aE0];rfl
   | 11,_,hb,o =>
    simp at hb;have d0:=o 0 (by rw[xU];simp);simp at d0;have I:=o 5 (by rw[xU];simp);simp at I;have G:=o 10 (by rw[xU];simp);simp at G;subst hb d0 I G
    have u:b12=false:=by
     cases b12 with
     |false=>rfl
     |true=>exact absurd (l 12 11 rfl (by rw[yN];simp)) (by simp)
    subst u
    have q:b13=false:=by
     cases b13 with
     |false=>rfl
     |true=>exact absurd (l 13 11 rfl (by rw[mD];simp)) (by simp)
    subst q;exact st (aEX c lo n h Fc FX X _ _ _ _ _ _ _ _)
   | 12,_,hb,o =>
    simp at hb;have C:=o 11 (by rw[yN];simp);simp at C;subst hb C
    have q:b13=false:=by
     cases b13 with
     |false=>rfl
     |true=>exact absurd (l 13 12 rfl (by rw[mD];simp)) (by simp)
    subst q;exact st (aEY c lo n h Fc FX X _ _ _ _ _ _ _ _ _ _ _)
   | 13,_,hb,o =>
    simp at hb;have d12:=o 12 (by rw[mD];simp);simp at d12;have G:=o 10 (by rw[mD];simp);simp at G;have d0:=o 0 (by rw[mD];simp);simp at d0;have d1:=o 1 (by rw[mD];simp);simp at d1;have d2:=o 2 (by rw[mD];simp);simp at d2;have d3:=o 3 (by rw[mD];simp);simp at d3;have d4:=o 4 (by rw[mD];simp);simp at d4;have I:=o 5 (by rw[mD];simp);simp at I;have Z:=o 6 (by rw[mD];simp);simp at Z;have W:=o 7 (by rw[mD];simp);simp at W;have U:=o 8 (by rw[mD];simp);simp at U;have R:=o 9 (by rw[mD];simp);simp at R;have C:=o 11 (by rw[mD];simp);simp at C;subst hb d12 G d0 d1 d2 d3 d4 I Z W U R C;exact st (aEZ c lo n h Fc FX X)
   |n+14,hi,_,_=>exact absurd hi (by omega)
noncomputable def wAr(c:Ctx):iM:=wQ bO 100 (λ _ _=>.agg (Bn c.b)) (λ _ m=>m)
noncomputable def wSo(c:Ctx)(X1:Nat->Int):iM:=wQ bO 102 (λ _ _=>.bK []) (λ _ _=>c.m X1)
noncomputable def kLg(c:Ctx):bf:=kS bO 101 λ _=>iA c.ax
def ac2:kH:=λ _ _=>none
def Ctx.m3(c:Ctx)(X:Nat->Int):List Row:=[c.tR,c.oR X,.c [.own 0 0]]
def lfC(b:Nat->Nat)(lo n:Nat):List AV:=[.f (b 0),.f (b 1),.f (b 2),.f (b 3),.f (b 4),.f (b 5),.bQ 1 1 lo n,mG,mG]
noncomputable def qAr(c:Ctx)(lo n:Nat)(X:Nat->Int)(o:Option Out):Option Out:=qW 100 [.own 0 0,.bQ 1 1 lo n] (.agg (Bn c.b)) (c.m3 X) (c.m3 X) o
def σ5:Nat->Option Nat:=jC [some 0,some 1,some 5]
def grS(c:Ctx)(lo n:Nat)(h:Int)(X:Nat->Int):St:=mkS 39 [(1,.bQ 1 1 lo n),(2,.own 2 0),(4,mG),(5,.own 3 0),(7,iA h)] (c.m X)
def zGr:Nat->Option kH:=apy 3 ac2 7 (fgZ [1,2,4,5,7] [some 0,some 1,some 2,some 3,some 4])
section
variable(c:Ctx)(lo n h:Nat)(Fc:Nat->List AV)(FX:Nat->Nat->Int)(X X1:Nat->Int)
theorem am3:auc bO [] [] [] [wAr c] [] bC (Ay 4 ac2) aMM [.own 0 0,.bQ 1 1 lo n] (c.m2 X) [some 0,some 1,some 4]=qAr c lo n X (cond (decide ((n:Int)<=2)) (nU (.own 2 0) [c.tR,c.oR X,.c (lfC c.b lo n)]) none):=by kernel_rfl
theorem aDV:azl bO [] [kLg c] [] [wAr c,wSo c X1] [] 26 GV.toList (asC c lo n h Fc FX X1) (asD c lo n h Fc FX X1) bC zGr aMM [.own 0 0,.bQ 1 1 lo n] (c.m2 X) [some 0,some 1,some 5]
 = qAr c lo n X (cond (decide ((n:Int)<=2)) none (gate (aj bO 101 [.agg (Bn c.b)] (iA c.ax)) (qW 102 [.bQ 1 1 lo n,gX] (.bK []) (c.m X) (c.m X1) (gate (GV.toList=GV.toList/\grS c lo n (aH (aN9 (n:Int) 2)) X1=asC c lo n h Fc FX X1)
  (nU (.own 2 0) [c.tR,c.oR (FX (hS lo h)),.c (ndC c.b (jo σ5 (Fc lo)) (jo σ5 (Fc (hS lo h))))]))))):=by kernel_rfl
end
def Cov(B:Nat->Nat->Nat)(X:Nat->Int)(b:Nat->Nat)(lo n:Nat):Prop:=Bx b/\∀i,lo<=i->i<lo+n->Wi (B (X i).toNat) b
def zq(B:Nat->Nat->Nat)(X:Nat->Int):Tn->Nat->Nat->Prop
 |.lf b lo' n',lo,n=>lo'=lo/\n'=n/\0<n/\n<=2/\Cov B X b lo n
 |.nd b l r,lo,n=>Cov B X b lo n/\∃k,0<k/\k<n/\zq B X l lo k/\zq B X r (lo+k) (n - k)
section
variable{B:Nat->Nat->Nat}{X X':Nat->Int}{b:Nat->Nat}{lo n:Nat}
theorem Cov.congr(h:Cov B X b lo n)(e:∀i,lo<=i->i<lo+n->X' i=X i):Cov B X' b lo n:=⟨h.1,λ i l d=>by rw[e i l d];exact h.2 i l d⟩
theorem Cov.pb(h:Cov B X b lo n)(g:PB lo n X X'):Cov B X' b lo n:=⟨h.1,λ i q o=>by obtain⟨j,d,l⟩:=g.from ⟨q,o⟩;rw[l];exact h.2 j d.1 d.2⟩
theorem zq.congr:∀(t:Tn) {lo n:Nat},zq B X t lo n->(∀i,lo<=i->i<lo+n->X' i=X i)->zq B X' t lo n
 |.lf b lo' n',lo,n,h,e=>⟨h.1,h.2.1,h.2.2.1,h.2.2.2.1,h.2.2.2.2.congr e⟩
 |.nd b l r,lo,n,h,e=>by obtain⟨x,k,u,q,o,d⟩:=h;exact⟨x.congr e,k,u,q,zq.congr l o λ i a b=>e i a (by omega),zq.congr r d λ i a b=>e i (by omega) (by omega)⟩
end
theorem aoc{tR oR:Row}{l:List AV}(y:tR.live=true)(x:oR.live=true)(e0:qV (TR 2 l) tR=tR)(e1:qV (TR 2 l) oR=oR)(r0:K5 (jC [some 0,some 1]) tR=tR)(q:K5 (jC [some 0,some 1]) oR=oR)(u:jo (jC [some 0,some 1]) l=l) :
  fQ 2 ⟨[(.own 2 0,[])],[tR,oR,.c l]⟩ ⟨[(.iN l 0,[])],[tR,oR]⟩:=by
 have a:ai7 2 2 ⟨[(.own 2 0,[])],[tR,oR,.c l]⟩ (λ d=>some ⟨.normal,d,.any⟩)=some ⟨.normal,⟨[(.iN l 0,[])],[tR,oR,.dead]⟩,.any⟩:=by have e:ai7 2 2 ⟨[(.own 2 0,[])],[tR,oR,.c l]⟩ (λ d=>some ⟨.normal,d,.any⟩)=cond ((tR.live&&(oR.live&&true))&&true) (some ⟨.normal,⟨[(.iN l 0,[])],[qV (TR 2 l) tR,qV (TR 2 l) oR,.dead]⟩,.any⟩) none:=rfl;rw[e,y,x,e0,e1];rfl
 obtain⟨C,o,g2⟩:=aeh 2 2 (ND _) _ _ _ a;simp only[gU,Out.mk.injEq,and_true,true_and]at o;subst o;refine g2.trans ?_;have f:=DC (np:=2) (keep:=[0]) (τ:=[some 0,some 1]) (s:=⟨[(.iN l 0,[])],[tR,oR,.dead]⟩) (by rfl) (by rfl);have e:bW [0] [some 0,some 1] ⟨[(.iN l 0,[])],[tR,oR,.dead]⟩=⟨[(.iN (jo (jC [some 0,some 1]) l) 0,[])],[K5 (jC [some 0,some 1]) tR,K5 (jC [some 0,some 1]) oR]⟩:=rfl;rw[e,u,r0,q]at f;exact f
section
variable{c:Ctx}{lo n:Nat}{X X1:Nat->Int}
theorem Z6(t:Tn):fQ 2 ⟨[(.own 2 0,[])],[c.tR,c.oR X,.c t.cO]⟩ ⟨[(.iN t.cO 0,[])],c.m2 X⟩:=aoc rfl rfl rfl rfl rfl rfl (DL (σ:=jC [some 0,some 1]) rfl t)
theorem Z7(h:dJ bO 100 [.own 0 0,.bQ 1 1 lo n] (c.m2 X) (.agg (Bn c.b)) (c.m2 X)):rW bO 100 [.own 0 0,.bQ 1 1 lo n] (c.m3 X) (.agg (Bn c.b)) (c.m3 X) :=
 TI 2 rfl h [.c [.own 0 0]] (by rfl) (λ i r hi=>by
  match i,hi with
  | 0,hi=>cases hi;exact⟨rfl,rfl⟩
  | 1,hi=>cases hi;exact⟨rfl,rfl⟩) (by rfl) (by show 2<=2;omega) (by rfl) (by rfl)
theorem aod{m:Nat}{t:Tn}(h:dJ bO 54 [.own 0 0,.bQ 1 1 lo m] (c.m2 X) (.iN t.cO 0) (c.m2 X1)):rW bO 54 [.own 0 0,.bQ 1 1 lo m] (c.m X) (.iN t.cO 0) (c.m X1) :=
 TI 2 rfl h [.c [.own 0 0],.c (Bn c.b),.c [iA c.ax]] (by rfl) (λ i r hi=>by
  match i,hi with
  | 0,hi=>cases hi;exact⟨rfl,rfl⟩
  | 1,hi=>cases hi;exact⟨rfl,rfl⟩) (by rfl) (by show 2<=2;omega) (by exact(congrArg (λ l=>AV.iN l 0) (DL (by rfl) t)).symm) (by rfl)
theorem Ws(d:n<=2)(ha:dJ bO 100 [.own 0 0,.bQ 1 1 lo n] (c.m2 X) (.agg (Bn c.b)) (c.m2 X)):dJ bO 54 [.own 0 0,.bQ 1 1 lo n] (c.m2 X) (.iN (Tn.lf c.b lo n).cO 0) (c.m2 X):=by refine SE (aiV aB ay aV (jU pq fH) gQ aOl (mem:=c.m2 X) (jJ KN) bN (τ:=[some 0,some 1,some 4]) (by rfl) ((am3 c lo n X).trans ?_)) (Z6 (.lf c.b lo n));refine(Gw (Z7 ha) _).trans ?_;rw[gG (by omega)];rfl
theorem au9(lo h:Nat):hS lo h=lo+h:=by unfold hS CF;rw[apP,pF]
theorem aEI(n:Nat)(d:n<=1000):aH (aN9 (n:Int) 2)=((n / 2:Nat):Int):=by rw[show aN9 (n:Int) 2=((n / 2:Nat):Int) from by rw[Int.tdiv_eq_ediv_of_nonneg (by omega)];omega];exact aO
theorem air(hs:n<=1000)(hn:2<n)(ha:dJ bO 100 [.own 0 0,.bQ 1 1 lo n] (c.m2 X) (.agg (Bn c.b)) (c.m2 X))(I:aj bO 101 [.agg (Bn c.b)] (iA c.ax))(G:dJ bO 102 [.bQ 1 1 lo n,gX] (c.m X) (.bK []) (c.m X1))
  {X2 X3:Nat->Int} {tl l:Tn} (Q:dJ bO 54 [.own 0 0,.bQ 1 1 lo (n / 2)] (c.m2 X1) (.iN tl.cO 0) (c.m2 X2)) (P:dJ bO 54 [.own 0 0,.bQ 1 1 (lo+n / 2) (n - n / 2)] (c.m2 X2) (.iN l.cO 0) (c.m2 X3)) :
  dJ bO 54 [.own 0 0,.bQ 1 1 lo n] (c.m2 X) (.iN (Tn.nd c.b tl l).cO 0) (c.m2 X3):=by
 generalize U:n / 2=h at Q P;have o:¬hS lo h=lo:=by rw[au9];omega
 obtain⟨Fc,C,y⟩:∃F:Nat->List AV,F lo=tl.cO/\F (hS lo h)=l.cO:=⟨λ q=>if q=lo then tl.cO else l.cO,gH rfl,fP o⟩
 obtain⟨FX,x,u⟩:∃F:Nat->Nat->Int,F lo=X2/\F (hS lo h)=X3:=⟨λ q=>if q=lo then X2 else X3,gH rfl,fP o⟩
 have R:uV none (some ((h:Nat):Int)) n=h:=by unfold uV;simp only[aFz,apP];omega
 have s2:uV (some ((h:Nat):Int)) none n=n - h:=by unfold uV;simp only[aFz,apP];omega
 have b1:(AY none (some ((h:Nat):Int)) none n||false)=true:=by rw[aMw];unfold AY;simp only[aFz,apP,CX,UM];omega
 have b2:((AY (some ((h:Nat):Int)) none none n&&Tv 0 (uV (some ((h:Nat):Int)) none n))||false)=true:=by rw[aMw,s2,iU (by omega),aMo];unfold AY;simp only[aFz,apP,CX,UM];omega
 have M:Sv bO GV (asC c lo n h Fc FX X1) (asD c lo n h Fc FX X1):=aAe c lo n h Fc FX X1 b1 (by rw[R,C,x];exact aod Q) b2 (by rw[s2,y,x,u,au9];exact aod P);have ht:BR bO (yR [] [kLg c] [] [wAr c,wSo c X1] []):=jV aB (au aG ay) aV (jU pq (jU pq fH)) gQ;have W:=CQ ht (ZP (d:=26) (gJ ht (by kernel_rfl)) M) 40 (f:=54) (c:=dH aMM) aOl (by kernel_rfl) (by kernel_rfl) (mem:=c.m2 X) (Z:=zGr) (aek KN (afD (by rfl))) bN (args:=[.own 0 0,.bQ 1 1 lo n]) rfl (τ:=[some 0,some 1,some 5]) (by rfl) (v:=.own 2 0) (mem1:=[c.tR,c.oR X3,.c (Tn.nd c.b tl l).cO]) ((aDV c lo n h Fc FX X X1).trans ?_)
 .exact SE W (Z6 _)
 .refine(Gw (Z7 ha) _).trans ?_;rw[iH (by omega),eU,ak I];refine(Gw (lV G) _).trans ?_;rw[ak ⟨rfl,by rw[aEI n hs,U];rfl⟩,C,y,u,DL (σ:=σ5) rfl tl,DL (σ:=σ5) rfl l];rfl
end
theorem Wj{c:Ctx}(hs:c.N<=1000)(hB:∀i,i<c.bn->Bx (c.B i)):∀(n lo:Nat) (X:Nat->Int),0<n->lo+n<=c.N->qg c.bn lo n X->∃(X':Nat->Int) (t:Tn),PB lo n X X'/\zq c.B X' t lo n/\dJ bO 54 [.own 0 0,.bQ 1 1 lo n] (c.m2 X) (.iN t.cO 0) (c.m2 X'):=by
 intro n
 induction n using aHf with
 |ind n M =>
  intro lo X P Q o;have ha:=P8 P hs Q o
  have U:Cov c.B X (arB c X lo (n - 1)) lo n:=by
   obtain⟨h1,q⟩:=aoe (c:=c) (X:=X) (lo:=lo) (n - 1) λ i hi=>by have hx:=o (lo+i) ⟨by omega,by omega⟩;exact hB _ (by omega)
   refine⟨h1,λ i h3 h4=>?_⟩;have:=q (i - lo) (by omega);rw[show lo+(i - lo)=i by omega]at this;exact this
  obtain⟨ax,C,y⟩:=UU (arB c X lo (n - 1));let l:Ctx:={ c with b:=arB c X lo (n - 1),ax:=ax,cf:=cfX ax c.B }
  by_cases q:n<=2
  .exact⟨X,.lf (arB c X lo (n - 1)) lo n,PB.refl _ _ _,⟨rfl,rfl,P,q,U⟩,Ws (c:=l) q ha⟩
  .have hgood:l.Good l.bn:=abz hs C rfl;obtain⟨X1,x,g1⟩:=ahS (c:=l) hgood Q o;have f1:n / 2<n:=by omega
   have f2:n - n / 2<n:=by omega
   have R:0<n / 2:=by omega
   have f4:0<n - n / 2:=by omega
   have f5:lo+n / 2<=c.N:=by omega
   have f6:lo+n / 2+(n - n / 2)<=c.N:=by omega
   have f7:n<=1000:=by omega
   have f8:2<n:=by omega
   have d:=o.pb x;have i1:qg c.bn lo (n / 2) X1:=λ i hi=>d i ⟨hi.1,by omega⟩;obtain⟨X2,tl,p2,o2,g2⟩:=M (n / 2) f1 lo X1 R f5 i1;have u:PB lo n X1 X2:=p2.mono (ND _) (by omega);have G:=d.pb u;have i2:qg c.bn (lo+n / 2) (n - n / 2) X2:=λ i hi=>G i ⟨by omega,by omega⟩;obtain⟨X3,W,p3,Z,g3⟩:=M (n - n / 2) f2 (lo+n / 2) X2 f4 f6 i2;have I:PB lo n X2 X3:=p3.mono (by omega) (by omega);refine⟨X3,.nd (arB c X lo (n - 1)) tl W,(x.trans u).trans I,⟨((U.pb x).pb u).pb I,n / 2,R,f1,zq.congr tl o2 λ i a b=>p3.out (wV (by omega)),Z⟩,air (c:=l) f7 f8 ha y g1 g2 g3⟩
end Go.Proofs.YtdlhemnconimnaaGreat.Tr
namespace Go.Gv
open Go.RowKit Go.Ev
noncomputable section
def eqZ(k:Nat)(v:AV):kH:=λ s d=>match s.slots[k]? with
 |some q=>gate (q.1=v) (d ⟨s.slots.set k (v,q.2),s.mem⟩)
 |none=>none
theorem ayl{np:Nat}(k:Nat)(v:AV):gD np (eqZ k v):=λ s o r h=>by
 unfold eqZ at h;split at h
 .rename_i q hq;obtain⟨e,h⟩:=ji h;subst e
  have e:s.slots.set k (q.1,q.2)=s.slots:=by obtain⟨d,l⟩:=abK.1 hq;rw[<-l];exact List.set_getElem_self d
  rw[e]at h;exact⟨s,h,fQ.refl s⟩
 .cases h
def avg(P:Program)(l:List Entry)(ks:List bf)(ms:List dZ)(d:List iM)(rs:List jK)(L:Nat->Option dY)(Z:Nat->Option kH)(c:Code)(s:St)(k:jL):Option Out:=j4 P (yR l ks ms d rs) (lq P (yR l ks ms d rs)) L Z 40 c s k
theorem OY{np:Nat}{P:Program}{T:Tab}{D:List Oper->St->SK->Option Out}{L:Nat->Option dY}{Z:Nat->Option kH}{N:Nat}{c:Code}{s s':St}{e:Exit}{k:jL}(q:FB np k)(x:∀i h,Z i=some h->gD np h)(y:BR P T)(I:DOk P D)(C:nT np P L c)(h:j4 P T D L Z N c s k=some ⟨e,s',.any⟩):fM np P c s e s':=λ A0 R w0 E a l G=>by refine Go.Code.wp_mono ?_ (Ej x l y I N c C G h);rintro W a' w' ⟨E',o,rfl,d,u⟩;obtain⟨U,Q⟩:=q W o _ u;obtain⟨E2,e2,M⟩:=Q A0 R w0 E' a' l d;exact⟨U.symm,E2,e2,M⟩
end
end Go.Gv
namespace Go.Proofs.YtdlhemnconimnaaGreat.Tr
open Go.Gv Hs
def vZ:List Nat:=[3,4,13,14,15]
section
variable(n:Nat)(tv:Nat->AV)(B:Nat->Nat->Nat)(k:Nat)(O:Nat->Int)
def rP:St:=mkS 46 [(3,.own 0 0),(4,.bQ 1 1 0 n),(13,.sl 1 n (λ q=>[tv q])),(14,iA (n:Nat)),(15,iA (k:Nat))] [.c [.sl 1 n (λ q=>[tv q]),.bQ 2 6 0 k,mG],.a 3 1 n (vB O),.a 119 6 k λ q=>Bn (B q)]
noncomputable def kBd(f:Nat)(b:Nat->Nat):bf:=kS bO f λ _=>.agg (Bn b)
def τTo:List (Option Nat):=[some 0,some 1,some 4]
noncomputable def toE(f T:Nat)(x:List AV)(τ:List (Option Nat)):Option Out:=avg bO [] [kBd f (B k)] [] [] [] bC (Ay 6 (eqZ 6 (.jd T (.agg x)))) (av aLk 0) (rP n tv B k O) (gu vZ τ)
def toN:St:=mkS 46 [(3,.own 0 0),(4,.bQ 1 1 0 n),(13,.sl 1 n λ q=>[tv q]),(14,iA (n:Nat)),(15,iA (aH ((k:Int)+1)))] [.c [.sl 1 n (λ q=>[tv q]),.bQ 2 6 0 (k+1),mG],.a 3 1 n (λ q=>bM (q==pj 0 (k:Nat)) [iA (k:Nat)] [iA (O q)]),.a 119 6 (k+1) λ q=>bM (Tv q k) (Bn (B q)) (spread k [Bn (B k)] q)]
theorem ahv:avg bO [] [] [] [] [] bC (Ay 5 ac2) (av aLk 0) (rP n tv B n O) (iG vZ [some 0,some 1,some 2])=cond (decide ((n:Int)<(n:Int))) none (some ⟨.exit 0,rP n tv B n O,.any⟩):=by kernel_rfl
end
inductive Th where
 |si (kd:Int) (a:Nat->Nat) (sk:Int)
 |bo (n:Nat) (e:Nat->List AV) (sk:Int)
 |gd (W H:Int) (x y z s:Nat) (sk:Int) (tc:List AV)
def Th.c:Th->List AV
 |.si kd a sk=>[iA kd,.f (a 0),.f (a 1),.f (a 2),.f (a 3),.f (a 4),.f (a 5),.f (a 6),.f (a 7),.f (a 8),.f (a 9),.f (a 10),iA sk]
 |.bo n e sk=>[.sl 16 n e,iA sk]
 |.gd W H x y z s sk tc=>[iA W,iA H,.f x,.f y,.f z,.f s,C8,iA sk,.ref tc 0]
def Th.T:Th->Nat
 |.si _ _ _=>123
 |.bo _ _ _=>125
 |.gd _ _ _ _ _ _ _ _=>128
def Th.v(t:Th):AV:=.jd t.T (.agg t.c)
def Th.fB:Th->Nat
 |.si _ _ _=>232
 |.bo _ _ _=>240
 |.gd _ _ _ _ _ _ _ _=>247
def Th.Bd(t:Th)(b:Nat->Nat):Prop:=aj bO t.fB [.agg t.c] (.agg (Bn b))
section
variable(n:Nat)(tv:Nat->AV)(B:Nat->Nat->Nat)(k:Nat)(O:Nat->Int)
noncomputable def toX(t:Th):Option Out:=cond (decide ((k:Int)<(n:Int))) (cond (iP (k:Nat) n||false) (gate (tv (k:Int).toNat=t.v) (gate (aj bO t.fB [.agg t.c] (.agg (Bn (B k)))) (cond ((Qz k 48||false)&&true) (cond (iP (k:Nat) n||false) (cond (Tv (pj 0 (k:Nat)) n||false) (some ⟨.normal,toN n tv B k O,.any⟩) none) none) none))) none) none
theorem aCR(d:Int)(a:Nat->Nat)(sk:Int):toE n tv B k O (Th.si d a sk).fB (Th.si d a sk).T (Th.si d a sk).c τTo=toX n tv B k O (.si d a sk):=by kernel_rfl
theorem aCS(m:Nat)(e:Nat->List AV)(sk:Int):toE n tv B k O (Th.bo m e sk).fB (Th.bo m e sk).T (Th.bo m e sk).c τTo=toX n tv B k O (.bo m e sk):=by kernel_rfl
theorem aCT(W H:Int)(x y z s:Nat)(sk:Int)(tc:List AV):toE n tv B k O (Th.gd W H x y z s sk tc).fB (Th.gd W H x y z s sk tc).T (Th.gd W H x y z s sk tc).c τTo=toX n tv B k O (.gd W H x y z s sk tc):=by kernel_rfl
theorem aCU(t:Th):toE n tv B k O t.fB t.T t.c τTo=toX n tv B k O t:=by
 cases t with
 |si d a sk=>exact aCR n tv B k O d a sk
 |bo m e sk=>exact aCS n tv B k O m e sk
 |gd W H x y z s sk tc=>exact aCT n tv B k O W H x y z s sk tc
end
def qy(k:Nat):Nat->Int:=λ q=>cond (Tv q k) (q:Int) 0
theorem Gg{q k:Nat}(h:q<k):Tv q k=true:=iU h
theorem Vm{q k:Nat}(h:k<=q):Tv q k=false:=by
 cases hb:Tv q k
 .rfl
 .exact absurd (Ou hb) (by omega)
theorem al0(b:Bool)(x y:Nat->Nat):bM b (Bn x) (Bn y)=Bn (λ i=>cond b (x i) (y i)):=by cases b<;>rfl
theorem aCV(b:Bool)(x y:Int):bM b [iA x] [iA y]=[iA (cond b x y)]:=by cases b<;>rfl
section
variable{n:Nat}{tv:Nat->AV}{B:Nat->Nat->Nat}
theorem YO(y:n<=1000)(h:∀k,k<n->∃t:Th,tv k=t.v/\t.Bd (B k)):fM 0 bO (.loop (av aLk 0)) (rP n tv B 0 (qy 0)) (.exit 0) (rP n tv B n (qy n)):=by
 refine aP (λ k=>rP n tv B k (qy k)) n (.exit 0) _ (by simp) (λ k l=>?_) ?_
 .obtain⟨t,x,o⟩:=h k l;unfold Th.Bd at o;have d:BR bO (yR [] [kBd t.fB (B k)] [] [] []):=jV aB (au aG ay) aV fH gQ
  have u:toX n tv B k (qy k) t=some ⟨.normal,toN n tv B k (qy k),.any⟩:=by unfold toX;rw[gG (by omega),aY,bZ l,pF,ak x,ak o,yB (by omega),mW,ZO,iU l];rfl
  refine(OY (fA vZ (τ:=τTo) (by rfl)) (jJ (ayl 6 t.v)) d (gJ d (by kernel_rfl)) bN ((aCU n tv B k (qy k) t).trans u)).sub (fQ.refl _) ?_;unfold toN rP;rw[aQ (by omega),mW,ZO];refine gZ ⟨wV rfl,ad9 λ q hq=>?_,ad9 λ q hq=>?_,trivial⟩
  .rw[aCV];unfold vB qy;by_cases e:q=k
   .subst e;rw[BEq.rfl,aY,Gg (by omega),aY]
   .rw[mI e,eU];by_cases e2:q<k
    .rw[Gg e2,Gg (by omega)]
    .rw[Vm (by omega),Vm (by omega)]
  .by_cases e:q<k
   .rw[Gg e];unfold spread;cases hs:q - k with
    |zero=>show Bn (B q)=bM true (Bn (B q)) (Bn (B k));rw[al0];rfl
    |succ m=>omega
   .have e2:q=k:=by omega
    subst e2;rw[Vm (ND _)];show Bn (B q)=bM false (Bn (B q)) (Bn (B q));rw[al0];rfl
 .have d:BR bO (yR [] [] [] [] []):=jV aB ay aV fH gQ;refine OY (fC vZ (τ:=[some 0,some 1,some 2]) (by rfl)) (jJ KN) d (gJ d (by kernel_rfl)) bN ((ahv n tv B (qy n)).trans ?_);rw[iH (by omega)];rfl
end
end Go.Proofs.YtdlhemnconimnaaGreat.Tr
namespace Go.Gv
def aE1(h g:kH):kH:=λ s k=>h s λ d=>g d k
theorem atl{np:Nat}{h g:kH}(o:gD np h)(q:gD np g):gD np (aE1 h g):=λ s k r e=>by obtain⟨d,e1,l⟩:=o s _ r e;obtain⟨s2,e2,p2⟩:=q d k r e1;exact⟨s2,e2,l.trans p2⟩
end Go.Gv
namespace Go.Proofs.YtdlhemnconimnaaGreat.Tr
open Go.Gv Hs
section
variable(n:Nat)(tv:Nat->AV)(B:Nat->Nat->Nat)(X:Nat->Int)(tc rt:List AV)
def gM(n:Nat)(tv:Nat->AV):AV:=.sl 1 n λ q=>[tv q]
def lD(n:Nat)(B:Nat->Nat->Nat):AV:=.sl 6 n λ q=>Bn (B q)
def toA:St:=mkS 46 [(3,.own 0 0),(4,.bQ 1 1 0 n),(13,gM n tv),(14,iA (n:Nat)),(15,iA 0)] [.c [gM n tv,C8,mG],.a 3 1 n (λ _=>[iA 0])]
def toZ(rt:AV)(el:Nat->List AV):St:=mkS 46 [(3,.own 0 0)] [.c [gM n tv,lD n B,rt],.a 3 1 n el]
noncomputable def wGt:iM:=wQ bO 54 (λ _ _=>.iN tc 0) (λ _ _=>[.c [gM n tv,lD n B,mG],.a 3 1 n (vB X),.dead])
noncomputable def zTo(s2:St):Nat->Option kH:=apy 9 (yQ 2) 11 (aE1 (fgZ [3] [some 0,some 1]) (aBx 0 s2))
noncomputable def toF(s2:St):Option Out:=aBy bO [] [] [] [wGt n tv B X tc] [] (eZ 4 (jS 0 vZ [some 0,some 1] (rP n tv B 0 (qy 0)) (.exit 0) (rP n tv B n (qy n)))) (zTo s2) aLk [gM n tv] ret
def adB(n:Nat):Bool:=decide ((0:Int)<=(n:Nat))&&(decide (((n:Nat):Int)<=(n:Nat))&&decide ((8:Int)*(n:Nat)<=281474976710656))
noncomputable def toR(s2:St)(v:AV):Option Out:=cond (adB n||false) (gate (fQ 0 (toA n tv) (rP n tv B 0 (qy 0))) (cond ((amH n n&&true)&&true) (cond (decide ((n:Int)>0))
 (qW 54 [.own 0 0,.bQ 1 1 0 n] (.iN tc 0) [.c [gM n tv,lD n B,mG],.a 3 1 n (vB (qy n)),.dead] [.c [gM n tv,lD n B,mG],.a 3 1 n (vB X),.dead] (gate (fQ 0 (toZ n tv B (.iN (jo (jC [some 0,some 1]) tc) 0) (vB X)) s2) (some (Out.of v))))
 (gate (fQ 0 (toZ n tv B mG (vB (qy n))) s2) (some (Out.of v)))) none)) none
theorem ZT:toF n tv B X tc (mkS 46 [(3,.ref rt 0)] [])=toR n tv B X tc (mkS 46 [(3,.ref rt 0)] []) (.ref rt 0):=by kernel_rfl
end
def Tn.cF(el:Nat->List AV):Tn->List AV
 |.lf b lo n=>[.f (b 0),.f (b 1),.f (b 2),.f (b 3),.f (b 4),.f (b 5),.sl 1 n (λ i=>el (lo+i)),mG,mG]
 |.nd b l r=>[.f (b 0),.f (b 1),.f (b 2),.f (b 3),.f (b 4),.f (b 5),C8,.ref (l.cF el) 0,.ref (r.cF el) 0]
theorem adA(el:Nat->List AV):∀t:Tn,wI 1 el t.cO=t.cF el
 |.lf b lo n=>by unfold Tn.cO Tn.cF mG;simp only[wI,zG,aIC,aY]
 |.nd b l r=>by unfold Tn.cO Tn.cF C8;simp only[wI,zG,adA el l,adA el r]
theorem anW{B:Nat->Nat->Nat}{X:Nat->Int}{N:Nat}:∀(t:Tn) {lo n:Nat},zq B X t lo n->lo+n<=N->Kc 1 1 N t.cO=true
 |.lf b lo' n',lo,n,h,hN=>by obtain⟨rfl,rfl,_⟩:=h;have hb:apB (lo'+n') N=true:=Nat.ble_eq_true_of_le hN;unfold Tn.cO mG;simp only[Kc,okO,iq,aIC,hb,aJ9]
 |.nd b l r,lo,n,h,hN=>by obtain⟨_,k,u,q,o,d⟩:=h;have e1:=anW (N:=N) l o (by omega);have e2:=anW (N:=N) r d (by omega);unfold Tn.cO C8;simp only[Kc,okO,iq,e1,e2,aJ9]
theorem afT{l:List AV}{el:Nat->List AV}{n:Nat}(d:Kc 1 1 n l=true):fQ 0 (mkS 46 [(3,.own 0 0)] [.c l,.a 3 1 n el]) (mkS 46 [(3,.ref (wI 1 el l) 0)] []):=by
 have a:ai7 0 0 (mkS 46 [(3,.own 0 0)] [.c l,.a 3 1 n el]) (λ u=>some ⟨.normal,u,.any⟩)=some ⟨.normal,mkS 46 [(3,.iN l 0)] [.dead,.a 3 1 n el],.any⟩:=by kernel_rfl
 obtain⟨y,o,g2⟩:=aeh 0 0 (ND _) _ _ _ a;simp only[gU,Out.mk.injEq,and_true,true_and]at o;subst o;refine g2.trans ?_;have b:=ai8 (np:=0) (k:=1) (s:=mkS 46 [(3,.iN l 0)] [.dead,.a 3 1 n el]) (e:=3) (sz:=1) (n:=n) (el:=el) rfl (alz _) (λ j x=>absurd x (avm j)) (by rfl);have e:(⟨(mkS 46 [(3,.iN l 0)] [.dead,.a 3 1 n el]).slots.map λ q=>(Xe 1 1 n el q.1,q.2),((mkS 46 [(3,.iN l 0)] [.dead,.a 3 1 n el]).mem.map (qV (Xe 1 1 n el))).set 1 .dead⟩:St)=mkS 46 [(3,cond (Kc 1 1 n l) (.ref (wI 1 el l) 0) (.iN l 0))] [.dead,.dead]:=by kernel_rfl
 rw[e,d,aY]at b;refine b.trans ?_;have f:=DC (np:=0) (keep:=[3]) (τ:=[]) (s:=mkS 46 [(3,.ref (wI 1 el l) 0)] [.dead,.dead]) (by rfl) (by rfl);exact f
def au8(n:Nat)(tv:Nat->AV)(B:Nat->Nat->Nat):Ctx:=⟨n,λ q=>[tv q],n,B,n,λ _=>0,0,λ _ _=>0⟩
section
variable{n:Nat}{tv:Nat->AV}{B:Nat->Nat->Nat}
theorem afU:fQ 0 (toA n tv) (rP n tv B 0 (qy 0)):=by unfold toA rP;refine fQ.trans (apn [.a 119 6 0 λ q=>Bn (B q)]) (gZ ⟨aBt ⟨wV rfl,Gc λ E u d=>dV.2 (wV ⟨rfl,rfl,cB.1 d⟩),wV rfl,trivial⟩,wV rfl,wV rfl,trivial⟩)
theorem ZQ(d:n<=1000):adB n=true:=by unfold adB;rw[gG (by omega),gG (by omega),gG (by omega)];rfl
theorem anY(d:n<=1000)(h:∀k,k<n->∃t:Th,tv k=t.v/\t.Bd (B k)):nT 0 bO (eZ 4 (jS 0 vZ [some 0,some 1] (rP n tv B 0 (qy 0)) (.exit 0) (rP n tv B n (qy n)))) (dH aLk) :=
 iW 1 (by kernel_rfl) λ q hq _=>by
  have:q=0:=by omega
  subst this;exact fq (by rfl) (YO d h)
theorem anZ(s2:St):∀i z,zTo s2 i=some z->gD 0 z:=aek (jm 2) (atl (afD (by rfl)) (apv 0 s2))
theorem Tc{l:List Entry}{ks:List bf}{ms:List dZ}{C:List iM}{rs:List jK}{L:Nat->Option dY}{Z:Nat->Option kH}(G:∀e,e∈l->jr bO e)(x:∀e,e∈ks->sZ bO e)(q:∀e,e∈ms->oN bO e)(d:∀e,e∈C->H6 bO e)(o:∀e,e∈rs->E9 bO e){f:Nat}{fn:Func}(hf:bO.funcs[f]?=some fn)
  (I : ∀ i h, Z i = some h -> gD 0 h) (M : nT 0 bO L (dH fn)) {args : List AV} {r : AV} (h : aBy bO l ks ms C rs L Z fn args ret = some (Out.of r)) (y : (fn.name == "runtime.NumGoroutine") = false := by kernel_rfl) (hb : fn.body = some (dH fn) := by kernel_rfl) (u : apB args.length fn.ntmps = true := by rfl) : aj bO f args r :=
 yT I (jV G x q d o) (gJ (jV G x q d o) (by kernel_rfl)) 40 hf y hb M u h
theorem ZR(tv:Nat->AV)(B:Nat->Nat->Nat):aj bO 24 [gM 0 tv] (.ref [gM 0 tv,lD 0 B,mG] 0):=by have d:=ZT 0 tv B (qy 0) [] [gM 0 tv,lD 0 B,mG];unfold toF at d;refine Tc aB ay aV (jU pq fH) gQ (f:=24) aOm (anZ _) (anY (B:=B) (alz _) λ k o=>absurd o (avm k)) (d.trans ?_);unfold toR;rw[ZQ (alz _),ak afU];exact ak (afT (l:=[gM 0 tv,lD 0 B,mG]) (el:=vB (qy 0)) (n:=0) (by rfl))
theorem Yx(y:0<n)(q:n<=1000)(h:∀k,k<n->∃t:Th,tv k=t.v/\t.Bd (B k))(x:∀k,k<n->Bx (B k)) :
  ∃(X:Nat->Int) (t:Tn),PB 0 n (qy n) X/\zq B X t 0 n/\aj bO 24 [gM n tv] (.ref [gM n tv,lD n B,.ref (t.cF (vB X)) 0] 0):=by
 have u:qg ((au8 n tv B).bn:Nat) 0 n (qy n):=λ i hi=>by
  have:qy n i=(i:Int):=by unfold qy;rw[Gg (by omega)];rfl
  rw[this];show 0<=(i:Int)/\(i:Int)<((n:Nat):Int);omega
 obtain⟨X,t,p,o,g⟩:=Wj (c:=au8 n tv B) q x n 0 (qy n) y (by show 0+n<=n;omega) u;refine⟨X,t,p,o,?_⟩
 have hw:rW bO 54 [.own 0 0,.bQ 1 1 0 n] [.c [gM n tv,lD n B,mG],.a 3 1 n (vB (qy n)),.dead] (.iN t.cO 0) [.c [gM n tv,lD n B,mG],.a 3 1 n (vB X),.dead] :=
  TI 2 rfl g [.dead] (by rfl) (λ i r hi=>by
   match i,hi with
   | 0,hi=>cases hi;exact⟨rfl,rfl⟩
   | 1,hi=>cases hi;exact⟨rfl,rfl⟩) (by rfl) (by show 2<=2;omega) (by exact(congrArg (λ l=>AV.iN l 0) (DL (by rfl) t)).symm) (by rfl)
 have d:=ZT n tv B X t.cO [gM n tv,lD n B,.ref (t.cF (vB X)) 0];unfold toF at d;refine Tc aB ay aV (jU pq fH) gQ (f:=24) aOm (anZ _) (anY (B:=B) q h) (d.trans ?_);unfold toR;rw[ZQ q,Bool.true_or,aY,ak afU,aIC,gG (by omega)];refine(Gw hw _).trans ?_
 have e:=afT (l:=[gM n tv,lD n B,.iN t.cO 0]) (el:=vB X) (n:=n) (by have:=anW t o (N:=n) (by omega);unfold gM lD;simp only[Kc,okO,iq,this,aJ9])
 have e2:wI 1 (vB X) [gM n tv,lD n B,.iN t.cO 0]=[gM n tv,lD n B,.ref (t.cF (vB X)) 0]:=by unfold gM lD;simp only[wI,zG,adA]
 rw[e2]at e;rw[DL (σ:=jC [some 0,some 1]) rfl t];exact ak e
end
open Go.Ev (cn aM aU aX fdiv bD dG dR dN iB bW iL fabs aF)
structure kE where
 w:Int
 p:Int
 u:Bool
 t:Nat
def kE.c(f:kE):List AV:=[iA f.w,iA f.p,bA f.u,.f f.t]
def ari(a b:kE):Bool:=cond (cond (decide (a.w<0)) true (dN b.t a.t)) true (cond (dR b.t a.t) (decide (b.w<a.w)) false)
def sj(a b:kE):kE:=cond (ari a b) b a
theorem YE(a b:kE):ev bO [] [] bC Tryz.f68 [.agg a.c,.agg b.c] ret=cond (ari a b) (some (Out.of (.agg b.c))) (some (Out.of (.agg a.c))):=by kernel_rfl
theorem QU(a b:kE):aj bO 68 [.agg a.c,.agg b.c] (.agg (sj a b).c):=by refine sp aB Tryz.func68 ((YE a b).trans ?_);unfold sj;cases ari a b<;>rfl
def XU:Entry:=⟨68,λ d=>match d with
 | [.agg [.x (.int .i64 w),.x (.int .i64 p),.x (.bool u),.f t],.agg [.x (.int .i64 w'),.x (.int .i64 p'),.x (.bool u'),.f t']]=>some (.agg (sj ⟨w,p,u,t⟩ ⟨w',p',u',t'⟩).c)
 |_=>none⟩
theorem Eo:jr bO XU:=λ l r d=>by
 simp only[XU]at d;split at d
 .cases d;exact wV (QU ⟨_,_,_,_⟩ ⟨_,_,_,_⟩)
 .cases d
def eMt:Entry:=⟨67,eBY FV⟩
def kW(r:Nat->Nat):List AV:=[.f (r 0),.f (r 1),.f (r 2),.f (r 3),.f (r 4),.f (r 5),.f (r 6)]
def z4:List AV:=[iA 0,iA 0,bA false,.f 0]
def Cq(h:kE × Bool):AV:=.bK [.agg h.1.c,bA h.2]
noncomputable def iSt (hA : AV -> kE × Bool) : qR := iQ bO "rayhouse/tree.strike" λ v => Cq (hA v)
def NM:List Nat:=[0,1,6,7,8,46,47,48]
def τ3:List (Option Nat):=[some 0,some 1,some 2]
section
variable(n m:Nat)(tv:Nat->AV)(bxs root node:AV)(r:Nat->Nat)(f f':kE)(N:Nat->Int)(i:Int)(hA:AV->kE × Bool)
def trA:AV:=.ref [.sl 1 n λ q=>[tv q],bxs,root] 0
def neS(T node:AV):St:=mkS 86 [(0,T),(1,node),(6,.own 0 0),(7,.own 1 0),(8,.own 2 0),(46,.sl 1 m λ q=>[iA (N q)]),(47,iA m),(48,iA i)] [.c (kW r),.c f.c,.c z4]
noncomputable def neX (k : kE -> Option Out) : Option Out := cond (decide (i < (m : Int))) (cond (iP i m || false) (cond ((iP (N i.toNat) n || false) && ((jv (rX bO "rayhouse/tree.strike" (tv (N i.toNat).toNat) [.agg (kW r)] (Cq (hA (tv (N i.toNat).toNat)))) || false) && true)) (cond (hA (tv (N i.toNat).toNat)).2 (k (sj f { (hA (tv (N i.toNat).toNat)).1 with w := N i.toNat })) (k f)) none) none) none
def r7(r:Nat->Nat):Nat->Nat:=ls [r 0,r 1,r 2,r 3,r 4,r 5,r 6]
def q8(b r:Nat->Nat)(f:kE):Bool:=cond (!dw (pz b) (r7 r)) true (cond (decide (f.w≥0)) (bW (bP (pz b) (r7 r)) f.t) false)
def QA(b:Nat->Nat)(m:Nat)(N:Nat->Int):List AV:=[.f (b 0),.f (b 1),.f (b 2),.f (b 3),.f (b 4),.f (b 5),.sl 1 m λ q=>[iA (N q)],mG,mG]
def ndF(b:Nat->Nat)(l r:List AV):List AV:=[.f (b 0),.f (b 1),.f (b 2),.f (b 3),.f (b 4),.f (b 5),C8,.ref l 0,.ref r 0]
noncomputable def kNe(g:AV->AV->AV):bf:=kS bO 31 λ d=>match d with
 | [_,nd,_,f]=>g nd f
 |_=>.any
end
section
variable(n m bn:Nat)(be:Nat->List AV)(rt:List AV)(tv:Nat->AV)(nd lc rc:List AV)(b r:Nat->Nat)(f f1:kE)(N:Nat->Int)(i:Int)(hA:AV->kE × Bool)(RF:AV->AV->kE)
def tA:AV:=trA n tv (.sl 6 bn be) (.ref rt 0)
theorem apK:agm bO [XU] [] [iSt hA] bC (av aKr 0) (neS m r f N i (tA n bn be rt tv) (.ref nd 0)) (gu NM τ3)=neX n m tv r f N i hA λ f'=>some ⟨.normal,neS m r f' N (aH (i+1)) (tA n bn be rt tv) (.ref nd 0),.any⟩:=by kernel_rfl
theorem av6 : agm bO [XU] [] [iSt hA] bC (av aKr 0) (neS m r f N i (tA n bn be rt tv) (.ref nd 0)) (iG NM τ3) = cond (decide (i < (m : Int))) (cond (iP i m || false) (cond ((iP (N i.toNat) n || false) && ((jv (rX bO "rayhouse/tree.strike" (tv (N i.toNat).toNat) [.agg (kW r)] (Cq (hA (tv (N i.toNat).toNat)))) || false) && true)) (cond (hA (tv (N i.toNat).toNat)).2 none none) none) none) (some ⟨.exit 0, neS m r f N i (tA n bn be rt tv) (.ref nd 0), .any⟩) := by kernel_rfl
noncomputable def gNe(nd:AV)(f f':kE)(o:Option Out):Option Out:=gate (aj bO 31 [tA n bn be rt tv,nd,.agg (kW r),.agg f.c] (.agg f'.c)) o
theorem av7:evI bO [XU,eMt] [kNe λ _ f=>f] [] (eZ 7 (fF NM τ3 (neS m r f N 0 (tA n bn be rt tv) (.ref (QA b m N) 0)) (.exit 0) (neS m r f1 N (m:Nat) (tA n bn be rt tv) (.ref (QA b m N) 0)))) aKr [tA n bn be rt tv,.ref (QA b m N) 0,.agg (kW r),.agg f.c] ret
 = cond (q8 b r f) (some (Out.of (.agg f.c))) (gate (Sub (neS m r f N 0 (tA n bn be rt tv) (.ref (QA b m N) 0)) (neS m r f N 0 (tA n bn be rt tv) (.ref (QA b m N) 0))) (gNe n bn be rt tv r mG f1 f1 (gNe n bn be rt tv r mG f1 f1 (some (Out.of (.agg f1.c)))))):=by kernel_rfl
theorem av8:evI bO [XU,eMt] [kNe λ nd f=>.agg (RF nd f).c] [] bC aKr [tA n bn be rt tv,.ref (ndF b lc rc) 0,.agg (kW r),.agg f.c] ret
 = cond (q8 b r f) (some (Out.of (.agg f.c))) (gNe n bn be rt tv r (.ref lc 0) f (RF (.ref lc 0) (.agg f.c)) (gNe n bn be rt tv r (.ref rc 0) (RF (.ref lc 0) (.agg f.c)) (RF (.ref rc 0) (.agg (RF (.ref lc 0) (.agg f.c)).c)) (some (Out.of (.agg (RF (.ref rc 0) (.agg (RF (.ref lc 0) (.agg f.c)).c)).c))))):=by kernel_rfl
theorem av5:evI bO [XU,eMt] [] [] bC aKr [tA n bn be rt tv,mG,.agg (kW r),.agg f.c] ret=some (Out.of (.agg f.c)):=by kernel_rfl
end
theorem q9{P:Program}:∀e,e∈([]:List qR)->TK P e:=λ _ h=>by cases h
theorem NN{P:Program}{e:qR}{l:List qR}(h:TK P e)(q:∀e,e∈l->TK P e):∀d,d∈e::l->TK P d:=λ d o=>by
 rcases List.mem_cons.1 o with rfl |o
 .exact h
 .exact q d o
theorem kX{l:List Entry}{ks:List bf}{is:List qR}{L:Nat->Option dY}(x:∀e,e∈l->jr bO e)(o:∀e,e∈ks->sZ bO e)(q:∀e,e∈is->TK bO e){f:Nat}{fn:Func}(hf:bO.funcs[f]?=some fn)(y:yx bO L (dH fn))
  {args : List AV} {v : AV} (h : evI bO l ks is L fn args ret = some (Out.of v)) (u : (fn.name == "runtime.NumGoroutine") = false := by kernel_rfl) (hb : fn.body = some (dH fn) := by kernel_rfl) (d : apB args.length fn.ntmps = true := by rfl) : aj bO f args v :=
 vG (Ml x o aV fH gQ q) (gJ (Ml x o aV fH gQ q) (by kernel_rfl)) 40 hf u hb y d h
theorem zL{l:List Entry}{ks:List bf}{is:List qR}{L:Nat->Option dY}{c:Code}{s s':St}{e:Exit}{k:jL}(u:FB 0 k)(q:∀e,e∈l->jr bO e)(d:∀e,e∈ks->sZ bO e)(o:∀e,e∈is->TK bO e)(x:nT 0 bO L c)(h:agm bO l ks is L c s k=some ⟨e,s',.any⟩):fM 0 bO c s e s' :=Az u (Ml q d aV fH gQ o) (gJ (Ml q d aV fH gQ o) (by kernel_rfl)) x h
def Xp(H:Nat->kE × Bool)(k:Int)(f:kE):kE:=cond (H k.toNat).2 (sj f { (H k.toNat).1 with w:=k }) f
def lfM(H:Nat->kE × Bool)(N:Nat->Int):Nat->kE->kE
 | 0,f=>f
 |k+1,f=>Xp H (N k) (lfM H N k f)
def iR(H:Nat->kE × Bool)(X:Nat->Int)(r:Nat->Nat):Tn->kE->kE
 |.lf b lo n,f=>cond (q8 b r f) f (lfM H (λ q=>X (lo+q)) n f)
 |.nd b l r',f=>cond (q8 b r f) f (iR H X r r' (iR H X r l f))
theorem aBI{f g:kE}(h:f.c=g.c):f=g:=by obtain⟨w,p,u,t⟩:=f;obtain⟨d,q,l,o⟩:=g;unfold kE.c iA bA at h;simp only[aIn,AV.x.injEq,Value.int.injEq,true_and,Value.bool.injEq,AV.f.injEq,and_true]at h;obtain⟨rfl,rfl,rfl,rfl⟩:=h;rfl
theorem aev{b b':Nat->Nat}(x:b 0=b' 0)(u:b 1=b' 1)(q:b 2=b' 2)(o:b 3=b' 3)(l:b 4=b' 4)(d:b 5=b' 5):pz b=pz b':=by unfold pz;rw[x,u,q,o,l,d]
theorem CZ{H:Nat->kE × Bool}{X:Nat->Int}{r:Nat->Nat}:∀(t t':Tn),t.cF (vB X)=t'.cF (vB X)->∀f,iR H X r t f=iR H X r t' f
 |.lf b lo n,.lf b' lo' n',h,f=>by
  unfold Tn.cF at h;simp only[aIn,AV.f.injEq,AV.sl.injEq,true_and,and_true]at h;obtain⟨G,C,y,x,u,o,rfl,d⟩:=h
  have I:(λ q=>X (lo+q))=λ q=>X (lo'+q):=by funext q;have:=congrFun d q;unfold vB iA at this;simpa using this
  unfold iR q8;rw[aev G C y x u o,I]
 |.lf b lo n,.nd b' l r',h,f=>by unfold Tn.cF C8 at h;simp at h
 |.nd b' l r',.lf b lo n,h,f=>by unfold Tn.cF C8 at h;simp at h
 |.nd b l r1,.nd b' l' r1',h,f=>by unfold Tn.cF at h;simp only[aIn,AV.f.injEq,AV.ref.injEq,true_and,and_true]at h;obtain⟨G,C,y,x,u,o,d,M⟩:=h;unfold iR q8;rw[aev G C y x u o,CZ l l' d,CZ r1 r1' M]
section
variable{n bn:Nat}{be:Nat->List AV}{rt:List AV}{tv:Nat->AV}{r:Nat->Nat}{H:Nat->kE × Bool}{hA:AV->kE × Bool}
theorem Xq(f:kE):aj bO 31 [tA n bn be rt tv,mG,.agg (kW r),.agg f.c] (.agg f.c) :=kX (aL Eo (aL (wL wM) aB)) ay q9 aKX bN (av5 n bn be rt tv r f)
theorem agz (o : ∀ i, i < n -> rX bO "rayhouse/tree.strike" (tv i) [.agg (kW r)] (Cq (hA (tv i)))) (hc : ∀ i, i < n -> hA (tv i) = H i) {m : Nat} (C : m <= 1000) (nd : List AV) {N : Nat -> Int} (u : ∀ q, q < m -> 0 <= N q /\ N q < (n : Int)) (f : kE) :
  fM 0 bO (.loop (av aKr 0)) (neS m r f N 0 (tA n bn be rt tv) (.ref nd 0)) (.exit 0) (neS m r (lfM H N m f) N (m:Nat) (tA n bn be rt tv) (.ref nd 0)):=by
 refine aP (λ k=>neS m r (lfM H N k f) N (k:Nat) (tA n bn be rt tv) (.ref nd 0)) m (.exit 0) _ (by simp) (λ k l=>?_) ?_
 .obtain⟨y,x⟩:=u k l;have d:(N k).toNat<n:=by omega
  refine zL (fA NM (τ:=τ3) (by rfl)) (aL Eo aB) ay (NN WX q9) bN ((apK n m bn be rt tv nd r (lfM H N k f) N (k:Nat) hA).trans ?_);unfold neX;rw[gG (by omega),aY,bZ l,pF,Rm y x,jl (o _ d),hc _ d,aQ (by omega)];show cond (H (N k).toNat).2 _ _=_;rw[show lfM H N (k+1) f=Xp H (N k) (lfM H N k f) from rfl];unfold Xp;cases(H (N k).toNat).2<;>rfl
 .refine zL (fC NM (τ:=τ3) (by rfl)) (aL Eo aB) ay (NN WX q9) bN ((av6 n m bn be rt tv nd r (lfM H N m f) N (m:Nat) hA).trans ?_);rw[iH (by omega)];rfl
theorem Ik{α:Type}{b:Bool}{x y z:α}(l:b=true->x=z)(d:b=false->y=z):cond b x y=z:=by cases b<;>simp[*]
theorem Kj (o : ∀ i, i < n -> rX bO "rayhouse/tree.strike" (tv i) [.agg (kW r)] (Cq (hA (tv i)))) (hc : ∀ i, i < n -> hA (tv i) = H i) {B : Nat -> Nat -> Nat} {X : Nat -> Int} (u : n <= 1000) : ∀ (t : Tn) {lo m : Nat}, zq B X t lo m -> (∀ i, lo <= i -> i < lo + m -> 0 <= X i /\ X i < (n : Int)) -> ∀ f : kE,
  aj bO 31 [tA n bn be rt tv,.ref (t.cF (vB X)) 0,.agg (kW r),.agg f.c] (.agg (iR H X r t f).c)
 |.lf b lo' n',lo,m,ho,hX,f=>by
  obtain⟨rfl,rfl,U,M,_⟩:=ho;have C:∀q,q<n'->0<=X (lo'+q)/\X (lo'+q)<(n:Int):=λ q hq=>hX (lo'+q) (by omega) (by omega);have y:=agz (H:=H) o hc (m:=n') (by omega) (bn:=bn) (be:=be) (rt:=rt) (QA b n' λ q=>X (lo'+q)) (N:=λ q=>X (lo'+q)) C f;refine kX (aL Eo (aL (wL wM) aB)) (au aG ay) q9 aKX (iW (i:=7) 1 (by kernel_rfl) λ q hq _=>?_) ((av7 n n' bn be rt tv b r f (lfM H (λ q=>X (lo'+q)) n' f) (λ q=>X (lo'+q))).trans ?_)
  .have:q=0:=by omega
   subst this;exact aS y
  .unfold iR;refine Ik (λ e=>by rw[e];rfl) λ e=>?_;rw[ak (Sub.refl _),e];unfold gNe;rw[ak (Xq _),ak (Xq _)];rfl
 |.nd b l d,lo,m,ho,hX,f=>by
  obtain⟨_,k,R,M,I,G⟩:=ho;have sl:=Kj o hc u l I (λ i a c=>hX i a (by omega)) f;have x:=Kj o hc u d G (λ i a c=>hX i (by omega) (by omega)) (iR H X r l f)
  obtain⟨RF,e1,e2⟩:∃RF:AV->AV->kE,RF (.ref (l.cF (vB X)) 0) (.agg f.c)=iR H X r l f/\RF (.ref (d.cF (vB X)) 0) (.agg (iR H X r l f).c)=iR H X r d (iR H X r l f):=by
   refine⟨λ nd P=>open Classical in if nd=.ref (d.cF (vB X)) 0/\P=.agg (iR H X r l f).c then iR H X r d (iR H X r l f)else iR H X r l f,?_,gH ⟨rfl,rfl⟩⟩
   refine Classical.byCases (λ hc=>(gH hc).trans ?_) (λ hc=>fP hc)
   .have a1:l.cF (vB X)=d.cF (vB X):=by simpa using hc.1
    have Q:f=iR H X r l f:=aBI (by simpa using hc.2);rw[<-CZ l d a1];exact congrArg (iR H X r l) Q.symm
  refine kX (aL Eo (aL (wL wM) aB)) (au aG ay) q9 aKX bN ((av8 n bn be rt tv (l.cF (vB X)) (d.cF (vB X)) b r f RF).trans ?_);rw[e1,e2];have e0:iR H X r (.nd b l d) f=cond (q8 b r f) f (iR H X r d (iR H X r l f)):=rfl;rw[e0];refine Ik (λ e=>by rw[e];rfl) λ e=>?_;unfold gNe;rw[ak sl,ak x,e];rfl
end
def Lb:List Nat:=[0,1,3,6,8,39,40,41]
def τ1:List (Option Nat):=[some 0]
section
variable(n m bn:Nat)(be:Nat->List AV)(rt:List AV)(tv:Nat->AV)(nd lc rc:List AV)(b r:Nat->Nat)(far:Nat)(N:Nat->Int)(i:Int)(hA:AV->kE × Bool)(RB:AV->Bool)
def WB(T node:AV):St:=mkS 83 [(0,T),(1,node),(3,.f far),(6,.own 0 0),(8,bA false),(39,.sl 1 m λ q=>[iA (N q)]),(40,iA m),(41,iA i)] [.c (kW r)]
def anR:St:=mkS 83 [(8,bA true)] []
def Na(h:kE × Bool)(far:Nat):Bool:=cond h.2 (dN h.1.t far) false
noncomputable def anX (x y : Option Out) : Option Out := cond (decide (i < (m : Int))) (cond (iP i m || false) (cond ((iP (N i.toNat) n || false) && ((jv (rX bO "rayhouse/tree.strike" (tv (N i.toNat).toNat) [.agg (kW r)] (Cq (hA (tv (N i.toNat).toNat)))) || false) && true)) (cond (Na (hA (tv (N i.toNat).toNat)) far) x y) none) none) none
def qP(b r:Nat->Nat)(far:Nat):Bool:=cond (!dw (pz b) (r7 r)) true (!dN (bP (pz b) (r7 r)) far)
noncomputable def kAn(RB:AV->Bool):bf:=kS bO 36 λ d=>match d with
 | [_,nd,_,_]=>bA (RB nd)
 |_=>.any
noncomputable def gAn(nd:AV)(v:Bool)(o:Option Out):Option Out:=gate (aj bO 36 [tA n bn be rt tv,nd,.agg (kW r),.f far] (bA v)) o
theorem atW:agm bO [] [] [iSt hA] bC (av aJg 0) (WB m r far N i (tA n bn be rt tv) (.ref nd 0)) (gu Lb τ1)=anX n m tv r far N i hA none (some ⟨.normal,WB m r far N (aH (i+1)) (tA n bn be rt tv) (.ref nd 0),.any⟩):=by kernel_rfl
theorem aAR:agm bO [] [] [iSt hA] bC (av aJg 0) (WB m r far N i (tA n bn be rt tv) (.ref nd 0)) (aaw [8] [])=anX n m tv r far N i hA (some ⟨.ret,anR,.any⟩) none:=by kernel_rfl
theorem aAS : agm bO [] [] [iSt hA] bC (av aJg 0) (WB m r far N i (tA n bn be rt tv) (.ref nd 0)) (iG Lb τ1) = cond (decide (i < (m : Int))) (cond (iP i m || false) (cond ((iP (N i.toNat) n || false) && ((jv (rX bO "rayhouse/tree.strike" (tv (N i.toNat).toNat) [.agg (kW r)] (Cq (hA (tv (N i.toNat).toNat)))) || false) && true)) (cond (Na (hA (tv (N i.toNat).toNat)) far) none none) none) none) (some ⟨.exit 0, WB m r far N i (tA n bn be rt tv) (.ref nd 0), .any⟩) := by kernel_rfl
theorem aAT:evI bO [eMt] [kAn RB] [] (eZ 7 (fF Lb τ1 (WB m r far N 0 (tA n bn be rt tv) (.ref (QA b m N) 0)) (.exit 0) (WB m r far N (m:Nat) (tA n bn be rt tv) (.ref (QA b m N) 0)))) aJg [tA n bn be rt tv,.ref (QA b m N) 0,.agg (kW r),.f far] ret
 = cond (qP b r far) (some (Out.of (bA false))) (gate (Sub (WB m r far N 0 (tA n bn be rt tv) (.ref (QA b m N) 0)) (WB m r far N 0 (tA n bn be rt tv) (.ref (QA b m N) 0))) (gAn n bn be rt tv r far mG (RB mG) (gAn n bn be rt tv r far mG (RB mG) (some (Out.of (bA (cond (RB mG) true (RB mG)))))))):=by kernel_rfl
theorem aAU:evI bO [eMt] [] [] (eZ 7 (fF Lb τ1 (WB m r far N 0 (tA n bn be rt tv) (.ref (QA b m N) 0)) .ret anR)) aJg [tA n bn be rt tv,.ref (QA b m N) 0,.agg (kW r),.f far] ret
 = cond (qP b r far) (some (Out.of (bA false))) (gate (Sub (WB m r far N 0 (tA n bn be rt tv) (.ref (QA b m N) 0)) (WB m r far N 0 (tA n bn be rt tv) (.ref (QA b m N) 0))) (some (Out.of (bA true)))):=by kernel_rfl
theorem aAV:evI bO [eMt] [kAn RB] [] bC aJg [tA n bn be rt tv,.ref (ndF b lc rc) 0,.agg (kW r),.f far] ret
 = cond (qP b r far) (some (Out.of (bA false))) (gAn n bn be rt tv r far (.ref lc 0) (RB (.ref lc 0)) (gAn n bn be rt tv r far (.ref rc 0) (RB (.ref rc 0)) (some (Out.of (bA (cond (RB (.ref lc 0)) true (RB (.ref rc 0)))))))):=by kernel_rfl
theorem atX:evI bO [eMt] [] [] bC aJg [tA n bn be rt tv,mG,.agg (kW r),.f far] ret=some (Out.of (bA false)):=by kernel_rfl
end
def lfA(H:Nat->kE × Bool)(N:Nat->Int)(far:Nat):Nat->Bool
 | 0=>false
 |k+1=>lfA H N far k||Na (H (N k).toNat) far
def anyM(H:Nat->kE × Bool)(X:Nat->Int)(r:Nat->Nat)(far:Nat):Tn->Bool
 |.lf b lo n=>cond (qP b r far) false (lfA H (λ q=>X (lo+q)) far n)
 |.nd b l r'=>cond (qP b r far) false (cond (anyM H X r far l) true (anyM H X r far r'))
theorem anyM_congr{H:Nat->kE × Bool}{X:Nat->Int}{r:Nat->Nat}{far:Nat}:∀(t t':Tn),t.cF (vB X)=t'.cF (vB X)->anyM H X r far t=anyM H X r far t'
 |.lf b lo n,.lf b' lo' n',h=>by
  unfold Tn.cF at h;simp only[aIn,AV.f.injEq,AV.sl.injEq,true_and,and_true]at h;obtain⟨G,C,y,x,u,o,rfl,d⟩:=h
  have I:(λ q=>X (lo+q))=λ q=>X (lo'+q):=by funext q;have:=congrFun d q;unfold vB iA at this;simpa using this
  unfold anyM qP;rw[aev G C y x u o,I]
 |.lf b lo n,.nd b' l r',h=>by unfold Tn.cF C8 at h;simp at h
 |.nd b' l r',.lf b lo n,h=>by unfold Tn.cF C8 at h;simp at h
 |.nd b l r1,.nd b' l' r1',h=>by unfold Tn.cF at h;simp only[aIn,AV.f.injEq,AV.ref.injEq,true_and,and_true]at h;obtain⟨G,C,y,x,u,o,d,M⟩:=h;unfold anyM qP;rw[aev G C y x u o,anyM_congr l l' d,anyM_congr r1 r1' M]
theorem J2(H:Nat->kE × Bool)(N:Nat->Int)(far:Nat):∀m,(lfA H N far m=false/\∀k,k<m->Na (H (N k).toNat) far=false)\/(lfA H N far m=true/\∃K,K<m/\Na (H (N K).toNat) far=true/\∀k,k<K->Na (H (N k).toNat) far=false)
 | 0=>wV ⟨rfl,λ k o=>absurd o (avm k)⟩
 |m+1=>by
  rcases J2 H N far m with⟨d,l⟩ | ⟨d,K,l,u,q⟩
  .cases hb:Na (H (N m).toNat) far
   .refine wV ⟨by show(_||_)=false;rw[d,hb];rfl,λ k o=>?_⟩;by_cases e:k=m
    .subst e;exact hb
    .exact l k (by omega)
   .exact Gc ⟨by show(_||_)=true;rw[d,hb];rfl,m,by omega,hb,l⟩
  .exact Gc ⟨by show(_||_)=true;rw[d];rfl,K,by omega,u,q⟩
section
variable{n bn:Nat}{be:Nat->List AV}{rt:List AV}{tv:Nat->AV}{r:Nat->Nat}{far:Nat}{H:Nat->kE × Bool}{hA:AV->kE × Bool}
theorem Tg:aj bO 36 [tA n bn be rt tv,mG,.agg (kW r),.f far] (bA false) :=kX (aL (wL wM) aB) ay q9 aKY bN (atX n bn be rt tv r far)
theorem aoL (o : ∀ i, i < n -> rX bO "rayhouse/tree.strike" (tv i) [.agg (kW r)] (Cq (hA (tv i)))) (hc : ∀ i, i < n -> hA (tv i) = H i) {m : Nat} {N : Nat -> Int} {k : Nat} (l : k < m) (u : 0 <= N k) (q : N k < (n : Int)) (x y : Option Out) : anX n m tv r far N (k : Nat) hA x y = cond (Na (H (N k).toNat) far) x y := by
 have d:(N k).toNat<n:=by omega
 unfold anX;rw[gG (by omega),aY,bZ l,pF,Rm u q,jl (o _ d),hc _ d];rfl
theorem Og (x : ∀ i, i < n -> rX bO "rayhouse/tree.strike" (tv i) [.agg (kW r)] (Cq (hA (tv i)))) (hc : ∀ i, i < n -> hA (tv i) = H i) {B : Nat -> Nat -> Nat} {X : Nat -> Int} (M : n <= 1000) : ∀ (t : Tn) {lo m : Nat}, zq B X t lo m -> (∀ i, lo <= i -> i < lo + m -> 0 <= X i /\ X i < (n : Int)) ->
  aj bO 36 [tA n bn be rt tv,.ref (t.cF (vB X)) 0,.agg (kW r),.f far] (bA (anyM H X r far t))
 |.lf b lo' n',lo,m,ho,hX=>by
  obtain⟨rfl,rfl,U,R,_⟩:=ho;have y:∀q,q<n'->0<=X (lo'+q)/\X (lo'+q)<(n:Int):=λ q hq=>hX (lo'+q) (by omega) (by omega)
  have st:∀k,k<n'->Na (H (X (lo'+k)).toNat) far=false->fM 0 bO (av aJg 0) (WB n' r far (λ q=>X (lo'+q)) (k:Nat) (tA n bn be rt tv) (.ref (QA b n' λ q=>X (lo'+q)) 0)) .normal (WB n' r far (λ q=>X (lo'+q)) ((k+1:Nat):Int) (tA n bn be rt tv) (.ref (QA b n' λ q=>X (lo'+q)) 0)):=λ k o hb=>by refine zL (fA Lb (τ:=τ1) (by rfl)) aB ay (NN WX q9) bN ((atW n n' bn be rt tv _ r far (λ q=>X (lo'+q)) (k:Nat) hA).trans ((aoL x hc o (y k o).1 (y k o).2 _ _).trans ?_));rw[hb,aQ (by omega)];rfl
  rcases J2 H (λ q=>X (lo'+q)) far n' with⟨C,u⟩ | ⟨C,K,u,I,Q⟩
  .have G:fM 0 bO (.loop (av aJg 0)) (WB n' r far (λ q=>X (lo'+q)) 0 (tA n bn be rt tv) (.ref (QA b n' λ q=>X (lo'+q)) 0)) (.exit 0) (WB n' r far (λ q=>X (lo'+q)) (n':Nat) (tA n bn be rt tv) (.ref (QA b n' λ q=>X (lo'+q)) 0)):=by refine aP (λ k=>WB n' r far (λ q=>X (lo'+q)) (k:Nat) (tA n bn be rt tv) (.ref (QA b n' λ q=>X (lo'+q)) 0)) n' (.exit 0) _ (by simp) (λ k o=>st k o (u k o)) ?_;refine zL (fC Lb (τ:=τ1) (by rfl)) aB ay (NN WX q9) bN ((aAS n n' bn be rt tv _ r far (λ q=>X (lo'+q)) (n':Nat) hA).trans ?_);rw[iH (by omega)];rfl
   refine kX (aL (wL wM) aB) (au aG ay) q9 aKY (iW (i:=7) 1 (by kernel_rfl) λ q hq _=>?_) ((aAT n n' bn be rt tv b r far (λ q=>X (lo'+q)) λ _=>false).trans ?_)
   .have:q=0:=by omega
    subst this;exact aS G
   .unfold anyM;rw[C];refine Ik (λ e=>by rw[e];rfl) λ e=>?_;rw[ak (Sub.refl _),e];unfold gAn;rw[ak Tg,ak Tg];rfl
  .have G:fM 0 bO (.loop (av aJg 0)) (WB n' r far (λ q=>X (lo'+q)) 0 (tA n bn be rt tv) (.ref (QA b n' λ q=>X (lo'+q)) 0)) .ret anR:=by refine aP (λ k=>WB n' r far (λ q=>X (lo'+q)) (k:Nat) (tA n bn be rt tv) (.ref (QA b n' λ q=>X (lo'+q)) 0)) K .ret _ (by simp) (λ k o=>st k (by omega) (Q k o)) ?_;refine zL (CG [8] []) aB ay (NN WX q9) bN ((aAR n n' bn be rt tv _ r far (λ q=>X (lo'+q)) (K:Nat) hA).trans ((aoL x hc u (y K u).1 (y K u).2 _ _).trans ?_));rw[I];rfl
   refine kX (aL (wL wM) aB) ay q9 aKY (iW (i:=7) 1 (by kernel_rfl) λ q hq _=>?_) ((aAU n n' bn be rt tv b r far (λ q=>X (lo'+q))).trans ?_)
   .have:q=0:=by omega
    subst this;exact aS G
   .unfold anyM;rw[C];refine Ik (λ e=>by rw[e];rfl) λ e=>?_;rw[ak (Sub.refl _),e];rfl
 |.nd b l d,lo,m,ho,hX=>by
  obtain⟨_,k,C,R,u,I⟩:=ho;have sl:=Og x hc M l u (λ i a c=>hX i a (by omega));have P:=Og x hc M d I (λ i a c=>hX i (by omega) (by omega))
  obtain⟨RB,e1,e2⟩:∃RB:AV->Bool,RB (.ref (l.cF (vB X)) 0)=anyM H X r far l/\RB (.ref (d.cF (vB X)) 0)=anyM H X r far d:=by
   refine⟨λ nd=>open Classical in if nd=.ref (d.cF (vB X)) 0 then anyM H X r far d else anyM H X r far l,?_,gH rfl⟩
   refine Classical.byCases (λ hc=>(gH hc).trans ?_) (λ hc=>fP hc);have a1:l.cF (vB X)=d.cF (vB X):=by simpa using hc
   exact(anyM_congr l d a1).symm
  refine kX (aL (wL wM) aB) (au aG ay) q9 aKY bN ((aAV n bn be rt tv (l.cF (vB X)) (d.cF (vB X)) b r far RB).trans ?_);rw[e1,e2];have e0:anyM H X r far (.nd b l d)=cond (qP b r far) false (cond (anyM H X r far l) true (anyM H X r far d)):=rfl;rw[e0];refine Ik (λ e=>by rw[e];rfl) λ e=>?_;unfold gAn;rw[ak sl,ak P,e];rfl
end
def ajN:Entry:=⟨29,HV λ r=>iA (gP r)⟩
theorem Mw:jr bO ajN:=aki akj
def aFy:List AV->AV
 |x::_=>x
 | []=>.any
noncomputable def kOe:bf:=kS bO 30 aFy
def Hu:kE:=⟨-1,0,false,0⟩
section
variable(n bn:Nat)(be:Nat->List AV)(rt:List AV)(tv:Nat->AV)(r:Nat->Nat)(F:kE)(far:Nat)(v:Bool)
def tE(tv:Nat->AV)(bn:Nat)(be:Nat->List AV):AV:=trA 0 tv (.sl 6 bn be) mG
theorem auv:evI bO [] [] [] bC aOO [tA n bn be rt tv] ret=some (Out.of (tA n bn be rt tv)):=by kernel_rfl
theorem awM:evI bO [] [] [] bC aOO [tE tv bn be] ret=some (Out.of (tE tv bn be)):=by kernel_rfl
def QM(f:kE)(e:Int):AV:=.bK [.agg f.c,iA e]
noncomputable def gOe(T:AV)(o:Option Out):Option Out:=gate (aj bO 30 [T] T) o
noncomputable def ntX(T nd:AV):Option Out:=cond (!(gP (r7 r)==0)) (some (Out.of (QM Hu (gP (r7 r))))) (gOe T (gate (aj bO 31 [T,nd,.agg (kW r),.agg Hu.c] (.agg F.c)) (some (Out.of (QM F 0)))))
theorem aCd:evI bO [ajN] [kOe,kNe λ _ _=>.agg F.c] [] bC Tryz.f8 [tA n bn be rt tv,.agg (kW r)] ret=ntX r F (tA n bn be rt tv) (.ref rt 0):=by kernel_rfl
theorem awN:evI bO [ajN] [kOe,kNe λ _ _=>.agg F.c] [] bC Tryz.f8 [tE tv bn be,.agg (kW r)] ret=ntX r F (tE tv bn be) mG:=by kernel_rfl
noncomputable def aCe(T nd:AV):Option Out:=cond (!(gP (r7 r)==0)) (some (Out.of (.bK [bA false,iA (gP (r7 r))]))) (gOe T (gate (aj bO 36 [T,nd,.agg (kW r),.f far] (bA v)) (some (Out.of (.bK [bA v,iA 0])))))
theorem awO:evI bO [ajN] [kOe,kAn λ _=>v] [] bC Tryz.f11 [tA n bn be rt tv,.agg (kW r),.f far] ret=aCe r far v (tA n bn be rt tv) (.ref rt 0):=by kernel_rfl
theorem awP(f:kE):evI bO [XU,eMt] [] [] bC aKr [tE tv bn be,mG,.agg (kW r),.agg f.c] ret=some (Out.of (.agg f.c)):=by kernel_rfl
end
section
variable{n:Nat}{bn:Nat}{be:Nat->List AV}{tv:Nat->AV}{r:Nat->Nat}{H:Nat->kE × Bool}{hA:AV->kE × Bool}
def allM(ok:Bool)(F:kE):kE:=cond ok F Hu
theorem Uy (u : gP (r7 r) = 0 -> ∀ i, i < n -> rX bO "rayhouse/tree.strike" (tv i) [.agg (kW r)] (Cq (hA (tv i)))) (hc : ∀ i, i < n -> hA (tv i) = H i) {B : Nat -> Nat -> Nat} {X : Nat -> Int} (q : n <= 1000) {t : Tn} (o : zq B X t 0 n) (x : ∀ i, i < n -> 0 <= X i /\ X i < (n : Int)) :
  aj bO 8 [tA n bn be (t.cF (vB X)) tv,.agg (kW r)] (QM (allM (gP (r7 r)==0) (iR H X r t Hu)) (gP (r7 r))):=by
 refine kX (aL Mw aB) (au aG (au aG ay)) q9 aOw bN ((aCd n bn be _ tv r (iR H X r t Hu)).trans ?_);unfold ntX;cases l:(gP (r7 r)==0)
 .rfl
 .have d:=Aw l;rw[aH7,eU];unfold gOe;rw[ak (kX aB ay q9 aMx bN (auv n bn be _ tv)),ak (Kj (u d) hc q t o (λ i _ h=>x i (by omega)) Hu),d];rfl
theorem akk {far : Nat} (u : gP (r7 r) = 0 -> ∀ i, i < n -> rX bO "rayhouse/tree.strike" (tv i) [.agg (kW r)] (Cq (hA (tv i)))) (hc : ∀ i, i < n -> hA (tv i) = H i) {B : Nat -> Nat -> Nat} {X : Nat -> Int} (q : n <= 1000) {t : Tn} (o : zq B X t 0 n) (x : ∀ i, i < n -> 0 <= X i /\ X i < (n : Int)) :
  aj bO 11 [tA n bn be (t.cF (vB X)) tv,.agg (kW r),.f far] (.bK [bA (cond (gP (r7 r)==0) (anyM H X r far t) false),iA (gP (r7 r))]):=by
 refine kX (aL Mw aB) (au aG (au aG ay)) q9 Tryz.func11 bN ((awO n bn be _ tv r far (anyM H X r far t)).trans ?_);unfold aCe;cases l:(gP (r7 r)==0)
 .rfl
 .have d:=Aw l;rw[aH7,eU];unfold gOe;rw[ak (kX aB ay q9 aMx bN (auv n bn be _ tv)),ak (Og (u d) hc q t o (λ i _ h=>x i (by omega))),d];rfl
theorem QN:aj bO 8 [tE tv bn be,.agg (kW r)] (QM Hu (gP (r7 r))):=by
 refine kX (aL Mw aB) (au aG (au aG ay)) q9 aOw bN ((awN bn be tv r Hu).trans ?_);unfold ntX;cases d:(gP (r7 r)==0)
 .rfl
 .rw[aH7,eU];unfold gOe;rw[ak (kX aB ay q9 aMx bN (awM bn be tv)),ak (kX (aL Eo (aL (wL wM) aB)) ay q9 aKX bN (awP bn be tv r Hu)),Aw d]
end
end Go.Proofs.YtdlhemnconimnaaGreat.Tr
namespace Go.Ev
theorem o8{x y:Nat}(h:iB x y=true):aF x=false/\aF y=false:=by
 unfold iB at h;constructor
 .cases l:aF x
  .rfl
  .have e:aIS.order x y=none:=jh l;rw[e]at h;cases h
 .cases d:aF y
  .rfl
  .have e:aIS.order x y=none:=jQ d;rw[e]at h;cases h
end Go.Ev
namespace Go.Proofs.YtdlhemnconimnaaGreat.Tr
open Go.Gv Hs
open Go.Ev (o8)
open Go.Ev (cn aM aU aX fdiv bD dG dR dN iB bW iL fabs aF key bS dU cZ iX)
def bt(a b:kE):Prop:=key a.t<key b.t\/(key a.t=key b.t/\a.w<b.w)
def gI(H:Nat->kE × Bool)(i:Int):kE:={ (H i.toNat).1 with w:=i }
def M7(B:Nat->Nat->Nat)(r:Nat->Nat)(h:Nat->kE × Bool)(i:Nat):Prop:=(h i).2=true->aF (h i).1.t=false/\dw (B i) (r7 r)=true/\iB (bP (B i) (r7 r)) (h i).1.t=true
def az9(H:Nat->kE × Bool)(X:Nat->Int)(lo n:Nat)(g:kE):Prop:=∃p,lo<=p/\p<lo+n/\(H (X p).toNat).2=true/\g=gI H (X p)
structure VZ(S:kE->Prop)(f f':kE):Prop where
 one:f'=f\/S f'
 non:f'.w<0->f'=f/\∀g,¬S g
 fst:0<=f'.w->(0<=f.w->¬bt f f')/\∀g,S g->¬bt g f'
def FOk(f:kE):Prop:=0<=f.w->aF f.t=false
theorem Ta{a b c:kE}(h:¬bt a b)(g:¬bt b c):¬bt a c:=by unfold bt at *;omega
theorem VZ.refl{S:kE->Prop}{f:kE}(h:f.w<0->∀g,¬S g)(l:0<=f.w->∀g,S g->¬bt g f):VZ S f f:=⟨wV rfl,λ d=>⟨rfl,h d⟩,λ d=>⟨λ _=>by unfold bt;omega,l d⟩⟩
theorem VZ.trans{S x U:kE->Prop}{f f1 u:kE}(o:∀g,U g↔S g\/x g)(a:VZ S f f1)(b:VZ x f1 u):VZ U f u:=by
 refine⟨?_,λ h=>?_,λ h=>⟨λ q=>?_,λ g d=>?_⟩⟩
 .rcases b.one with e |e
  .rw[e];rcases a.one with e1 |e1
   .exact wV e1
   .exact Gc ((o _).2 (wV e1))
  .exact Gc ((o _).2 (Gc e))
 .obtain⟨e,y⟩:=b.non h;subst e;obtain⟨e,n1⟩:=a.non h
  exact⟨e,λ g d=>by
   rcases(o g).1 d with d |d
   .exact n1 g d
   .exact y g d⟩
 .by_cases l:0<=f1.w
  .exact Ta ((a.fst l).1 q) ((b.fst h).1 l)
  .obtain⟨e,_⟩:=a.non (by omega);rw[e]at l;exact absurd q l
 .rcases(o g).1 d with d |d
  .by_cases l:0<=f1.w
   .exact Ta ((a.fst l).2 g d) ((b.fst h).1 l)
   .exact absurd d ((a.non (by omega)).2 g)
  .exact(b.fst h).2 g d
theorem aio{a b:kE}(ha:FOk a)(hb:aF b.t=false)(hw:0<=b.w):VZ (λ g=>g=b) a (sj a b):=by
 unfold sj ari;by_cases o:a.w<0
 .rw[gG o];exact⟨Gc rfl,λ h=>absurd hw (by show ¬ 0<=b.w;have:b.w<0:=h;omega),λ _=>⟨λ h=>absurd o (by omega),λ g d=>by subst d;show ¬bt g g;unfold bt;omega⟩⟩
 .have l:=ha (by omega);rw[iH o,eU,bS hb l,dU hb l];by_cases x:key b.t<key a.t
  .rw[gG x];exact⟨Gc rfl,λ h=>absurd hw (by show ¬ 0<=b.w;have:b.w<0:=h;omega),λ _=>⟨λ _=>by show ¬bt a b;unfold bt;omega,λ g d=>by subst d;show ¬bt g g;unfold bt;omega⟩⟩
  .rw[iH x,eU];by_cases q:key b.t=key a.t
   .by_cases u:b.w<a.w
    .rw[gG u];simp only[q,decide_true,aY];exact⟨Gc rfl,λ h=>absurd hw (by show ¬ 0<=b.w;have:b.w<0:=h;omega),λ _=>⟨λ _=>by show ¬bt a b;unfold bt;omega,λ g d=>by subst d;show ¬bt g g;unfold bt;omega⟩⟩
    .rw[iH u];simp only[q,decide_true,aY,eU];exact⟨wV rfl,λ h=>absurd h o,λ _=>⟨λ _=>by show ¬bt a a;unfold bt;omega,λ g d=>by subst d;show ¬bt g a;unfold bt;omega⟩⟩
   .simp only[q,decide_false,eU];exact⟨wV rfl,λ h=>absurd h o,λ _=>⟨λ _=>by show ¬bt a a;unfold bt;omega,λ g d=>by subst d;show ¬bt g a;unfold bt;omega⟩⟩
section
variable{H:Nat->kE × Bool}{B:Nat->Nat->Nat}{X:Nat->Int}{r:Nat->Nat}{N:Nat}
theorem VZ.fok{S:kE->Prop}{f f':kE}(h:VZ S f f')(hf:FOk f)(hS:∀g,S g->aF g.t=false):FOk f':=by
 rcases h.one with e |e
 .rw[e];exact hf
 .exact λ _=>hS _ e
theorem anU{f:kE}{i:Int}(hf:FOk f)(q:0<=i)(o:M7 B r H i.toNat):VZ (λ g=>(H i.toNat).2=true/\g=gI H i) f (Xp H i f):=by
 unfold Xp;cases l:(H i.toNat).2
 .exact VZ.refl (λ _ g d=>by cases d.1) (λ _ g d=>by cases d.1)
 .have:=aio (b:=gI H i) hf (o l).1 q;exact⟨this.one.imp id λ e=>⟨rfl,e⟩,λ h=>⟨(this.non h).1,λ g d=>(this.non h).2 g d.2⟩,λ h=>⟨(this.fst h).1,λ g d=>(this.fst h).2 g d.2⟩⟩
theorem anV{lo:Nat}:∀(n:Nat) {f:kE},FOk f->(∀p,lo<=p->p<lo+n->0<=X p/\M7 B r H (X p).toNat)->VZ (az9 H X lo n) f (lfM H (λ q=>X (lo+q)) n f)
 | 0,f,_,_=>VZ.refl (λ _ g ⟨p,d,o,_⟩=>by omega) (λ _ g ⟨p,d,o,_⟩=>by omega)
 |n+1,f,hf,hp=>by
  have u:=anV n hf λ p d o=>hp p d (by omega);have x:=u.fok hf λ g ⟨p,d,o,l,e⟩=>by rw[e];exact((hp p d (by omega)).2 l).1
  have hs:=anU (H:=H) (i:=X (lo+n)) x (hp (lo+n) (by omega) (by omega)).1 (hp (lo+n) (by omega) (by omega)).2;refine VZ.trans (λ g=>⟨λ⟨p,d,o,l,e⟩=>?_,λ h=>?_⟩) u hs
  .by_cases e1:p=lo+n
   .subst e1;exact Gc ⟨l,e⟩
   .exact wV ⟨p,d,by omega,l,e⟩
  .rcases h with⟨p,d,o,l,e⟩ | ⟨l,e⟩
   .exact⟨p,d,by omega,l,e⟩
   .exact⟨lo+n,by omega,by omega,l,e⟩
theorem afS{b:Nat->Nat}{lo n:Nat}{f:kE}(hf:FOk f)(C:Cov B X b lo n)(I:∀p,lo<=p->p<lo+n->Bx (B (X p).toNat)/\M7 B r H (X p).toNat)(d:q8 b r f=true):VZ (az9 H X lo n) f f:=by
 have l:∀p,lo<=p->p<lo+n->(H (X p).toNat).2=true->dw b (r7 r)=true/\aF (bP b (r7 r))=false/\key (bP b (r7 r))<=key (H (X p).toNat).1.t:=λ p q o u=>by obtain⟨hb,M⟩:=I p q o;obtain⟨n1,G,l1⟩:=M u;obtain⟨m2,l2,_⟩:=meet_mono hb C.1 (C.2 p q o) G;have a1:=(o8 l2).1;have y:=(o8 l1).1;rw[iX a1 y]at l2;rw[iX y n1]at l1;have l2:=Qx l2;have l1:=Qx l1;exact⟨m2,a1,by omega⟩
 have d:cond (!dw b (r7 r)) true (cond (decide (f.w≥0)) (bW (bP b (r7 r)) f.t) false)=true:=d;cases x:dw b (r7 r)
 .refine VZ.refl (λ _ g ⟨p,q,o,u,_⟩=>?_) (λ _ g ⟨p,q,o,u,_⟩=>?_)
  .have:=(l p q o u).1;rw[x]at this;cases this
  .have:=(l p q o u).1;rw[x]at this;cases this
 .rw[x]at d;simp only[aH7,eU]at d;by_cases hw:f.w≥0
  .rw[gG hw,aY]at d;refine VZ.refl (λ h=>absurd h (by omega)) (λ _ g ⟨p,q,o,u,e⟩=>?_);obtain⟨_,a1,y⟩:=l p q o u;rw[cZ a1 (hf hw)]at d;have hc:=Qx d;rw[e];unfold bt gI;show ¬(key (H (X p).toNat).1.t<key f.t\/(key (H (X p).toNat).1.t=key f.t/\_));omega
  .rw[iH hw]at d;cases d
theorem M8:∀(t:Tn) {lo n:Nat} {f:kE},zq B X t lo n->FOk f->(∀p,lo<=p->p<lo+n->0<=X p/\Bx (B (X p).toNat)/\M7 B r H (X p).toNat)->VZ (az9 H X lo n) f (iR H X r t f)
 |.lf b lo' n',lo,n,f,ho,hf,hp=>by
  obtain⟨rfl,rfl,_,_,u⟩:=ho;unfold iR;cases hc:q8 b r f
  .exact anV n' hf λ p q o=>⟨(hp p q o).1,(hp p q o).2.2⟩
  .exact afS hf u (λ p q o=>(hp p q o).2) hc
 |.nd b l r',lo,n,f,ho,hf,hp=>by
  obtain⟨u,k,q,o,y,or_⟩:=ho;have e0:iR H X r (.nd b l r') f=cond (q8 b r f) f (iR H X r r' (iR H X r l f)):=rfl;rw[e0];cases hc:q8 b r f
  .have x:=M8 l (f:=f) y hf λ p a c=>hp p a (by omega);have G:=x.fok hf λ g ⟨p,a,c,d,e⟩=>by rw[e];exact((hp p a (by omega)).2.2 d).1
   have C:=M8 r' (f:=iR H X r l f) or_ G λ p a c=>hp p (by omega) (by omega);refine VZ.trans (λ g=>⟨λ⟨p,a,c,d,e⟩=>?_,λ h=>?_⟩) x C
   .by_cases e1:p<lo+k
    .exact wV ⟨p,a,e1,d,e⟩
    .exact Gc ⟨p,by omega,by omega,d,e⟩
   .rcases h with⟨p,a,c,d,e⟩ | ⟨p,a,c,d,e⟩
    .exact⟨p,a,by omega,d,e⟩
    .exact⟨p,by omega,by omega,d,e⟩
  .exact afS hf u (λ p q o=>(hp p q o).2) hc
end
section
variable{H:Nat->kE × Bool}{B:Nat->Nat->Nat}{X:Nat->Int}{r:Nat->Nat}{n:Nat}
theorem aiM{p:Nat}(h:p<n):qy n p=(p:Int):=by unfold qy;rw[Gg h];rfl
theorem WQ(d:PB 0 n (qy n) X){p:Nat}(h:p<n):0<=X p/\X p<(n:Int):=by obtain⟨j,o,l⟩:=d.from ⟨alz p,by omega⟩;rw[l,aiM (by omega)];omega
theorem aas(d:PB 0 n (qy n) X){j:Nat}(h:j<n):∃p,p<n/\X p=(j:Int):=by obtain⟨p,o,l⟩:=d.symm.from (i:=j) ⟨alz j,by omega⟩;exact⟨p,by omega,by rw[<-l,aiM h]⟩
structure u6(H:Nat->kE × Bool)(n:Nat)(F:kE):Prop where
 non:F.w<0->F=Hu/\∀j,j<n->(H j).2=false
 one:0<=F.w->F.w<(n:Int)/\(H F.w.toNat).2=true/\F=gI H F.w/\aF F.t=false
 fst:0<=F.w->∀j,j<n->(H j).2=true->¬bt (gI H (j:Nat)) F
theorem avl:FOk Hu:=λ h=>absurd h (by decide)
theorem aau{t:Tn}(y:zq B X t 0 n)(o:PB 0 n (qy n) X)(G:∀j,j<n->Bx (B j))(u:∀j,j<n->M7 B r H j):u6 H n (iR H X r t Hu):=by
 have d:=M8 (H:=H) (r:=r) t y avl λ p _ l=>by have:=WQ o (p:=p) (by omega);exact⟨this.1,G _ (by omega),u _ (by omega)⟩
 refine⟨λ h=>⟨(d.non h).1,λ j q=>?_⟩,λ h=>?_,λ h j q C=>?_⟩
 .obtain⟨p,I,l⟩:=aas o q;cases hc:(H j).2
  .rfl
  .exact absurd ⟨p,alz _,by omega,by rw[l];exact hc,rfl⟩ ((d.non h).2 (gI H (X p)))
 .rcases d.one with e | ⟨p,_,l,x,e⟩
  .rw[e]at h;exact absurd h (by decide)
  .have hb:=WQ o (p:=p) (by omega);have M:(iR H X r t Hu).w=X p:=by rw[e];rfl
   rw[M];exact⟨hb.2,x,e,by rw[e];exact((u _ (by omega)) x).1⟩
 .obtain⟨p,I,l⟩:=aas o q;rw[<-l];exact(d.fst h).2 _ ⟨p,alz _,by omega,by rw[l];exact C,rfl⟩
theorem M9{far:Nat}:∀(t:Tn) {lo m:Nat},zq B X t lo m->anyM H X r far t=true->∃p,lo<=p/\p<lo+m/\Na (H (X p).toNat) far=true
 |.lf b lo' n',lo,m,ho,h=>by
  obtain⟨rfl,rfl,_⟩:=ho;unfold anyM at h;cases hc:qP b r far
  .rw[hc,eU]at h;rcases J2 H (λ q=>X (lo'+q)) far n' with⟨x,_⟩ | ⟨_,K,C,o,_⟩
   .rw[x]at h;cases h
   .exact⟨lo'+K,by omega,by omega,o⟩
  .rw[hc]at h;cases h
 |.nd b l r',lo,m,ho,h=>by
  obtain⟨_,k,x,C,o,y⟩:=ho;have e0:anyM H X r far (.nd b l r')=cond (qP b r far) false (cond (anyM H X r far l) true (anyM H X r far r')):=rfl;rw[e0]at h;cases hc:qP b r far
  .rw[hc,eU]at h;cases u:anyM H X r far l
   .rw[u,eU]at h;obtain⟨p,a,c,d⟩:=M9 r' y h;exact⟨p,by omega,by omega,d⟩
   .obtain⟨p,a,c,d⟩:=M9 l o u;exact⟨p,a,by omega,d⟩
  .rw[hc]at h;cases h
theorem agj{t:Tn}{F:kE}(x:zq B X t 0 n)(u:PB 0 n (qy n) X)(C:∀j,j<n->M7 B r H j)(o:u6 H n F)(q:0<=F.w):anyM H X r F.t t=false:=by
 cases ha:anyM H X r F.t t
 .rfl
 .obtain⟨p,_,G,d⟩:=M9 t x ha;have hb:=WQ u (p:=p) (by omega);unfold Na at d;cases l:(H (X p).toNat).2
  .rw[l]at d;cases d
  .rw[l,aY]at d;have y:=(C _ (by omega) l).1;rw[bS y (o.one q).2.2.2]at d;have d:=Qx d;have:=o.fst q (X p).toNat (by omega) l
   have e:(gI H (((X p).toNat:Nat):Int)).t=(H (X p).toNat).1.t:=by unfold gI;rw[pF]
   unfold bt at this;rw[e]at this;exact absurd (wV d) this
end
end Go.Proofs.YtdlhemnconimnaaGreat.Tr
namespace Go.Ev
theorem aah{x y:Nat}(h:iL x y=true):aF x=false/\aF y=false:=by
 unfold iL at h;constructor
 .cases l:aF x
  .rfl
  .have e:aIS.order x y=none:=jh l;rw[e]at h;cases h
 .cases d:aF y
  .rfl
  .have e:aIS.order x y=none:=jQ d;rw[e]at h;cases h
end Go.Ev
namespace Go.Proofs.YtdlhemnconimnaaGreat.Tr
open Go.Gv Hs
open Go.Ev (cn aM aU aX fdiv bD dG dR dN iB bW iL fabs aF key bS dU cZ iX qm o8 aah)
theorem afv(b:Nat->Nat):Wi b b:=⟨af2 _,af2 _,af2 _,af2 _,af2 _,af2 _⟩
def Jh(b r:Nat->Nat)(t:Nat)(ok:Bool):Prop:=ok=true->aF t=false/\dw b r=true/\iB (bP b r) t=true
theorem aE7{b r:Nat->Nat}(hb:Bx b)(k:Bool)(t:Nat):Jh b r (htT (dw b r) k t (bP b r) (bX b r) (r 6)) (htK (dw b r) k t (r 6)):=λ h=>by
 have d:dw b r=true:=by
  unfold htK at h;cases d:dw b r
  .rw[d]at h;cases h
  .rfl
 have u:iL t (r 6)=true:=by
  unfold htK at h;rw[d]at h;cases k
  .cases h
  .exact h
 obtain⟨_,nn,ff,q,_⟩:=meet_mono hb hb (afv b) d;have n1:=(o8 nn).1;have f1:=(o8 ff).1;have l:=(aah u).1;refine⟨?_,d,?_⟩
 .unfold htT;rw[h,aY];cases dN t (bP b r)
  .cases bW t (bX b r)
   .exact l
   .exact f1
  .exact n1
 .unfold htT;rw[h,aY];cases o:dN t (bP b r)
  .cases bW t (bX b r)
   .rw[bS l n1]at o;have:=oDf o;rw[eU,eU,iX n1 l];exact gG (by omega)
   .exact q
  .exact nn
structure Dz(k:Int)(a:Nat->Nat)(sk:Int)(b:Nat->Nat):Prop where
 box:Bx b
 may:aj bO 49 [SH k a sk] (iA 0)
 bds:aj bO 130 [SH k a sk] (.bK [BX b,iA 0])
 stk:∀r,∃t ok e,aj bO 45 [SH k a sk,RY r] (.bK [.f t,bA ok,iA e])/\(gP r=0->e=0)/\Jh b r t ok
theorem Ba{a:Nat->Nat}{sk m:Int}{b:Nat->Nat}(h:NR a sk m b=0):Bx b:=by
 refine Xo ?_;unfold NR at h;cases q:jN sk<;>rw[q]at h<;>try (cases h;done)
 cases o:Kk a<;>rw[o]at h<;>try (cases h;done)
 cases d:(m==0)<;>rw[d]at h
 .have h:m=0:=h;rw[h]at d;cases d
 .cases l:(lG b==0)<;>rw[l]at h
  .cases h
  .exact Aw l
theorem EO{k:Int}{a:Nat->Nat}{sk:Int}{b:Nat->Nat}{T:Nat}(hb:Bx b)(l:KNg k a sk T)(o:aj bO 130 [SH k a sk] (.bK [BX b,iA 0]))(hs:∀r,gP r=0->∃ok t,aj bO 88 [.jd T (SH k a sk),RY r] (.bK [.f (htT (dw b r) ok t (bP b r) (bX b r) (r 6)),bA (htK (dw b r) ok t (r 6))])):Dz k a sk b:=by
 refine⟨hb,auI l,o,λ r=>?_⟩;by_cases d:gP r=0
 .obtain⟨ok,t,h⟩:=hs r d;exact⟨_,_,0,alE (ax3 l d) h,λ _=>rfl,aE7 hb ok t⟩
 .exact⟨0,false,gP r,YB (ax2 l d) d,λ h=>absurd h d,λ h=>by cases h⟩
section
variable{a:Nat->Nat}{sk:Int}
theorem aDB(h:e1 a sk=0):Dz 1 a sk (gL a):=EO (Ba h) (IV a sk h) (aEr a sk h) λ r _=>⟨_,_,sk1 a sk r⟩
theorem aDC(h:e2 a sk=0):Dz 2 a sk (eH a):=EO (Ba h) (IW a sk h) (aEs a sk h) λ r _=>⟨_,_,sk2 a sk r⟩
theorem auT(h:e3 a sk=0):Dz 3 a sk (rV a):=EO (Ba h) (IX a sk h) (aEt a sk h) λ r _=>⟨_,_,azW a sk r⟩
theorem aDD(h:e4 a sk=0):Dz 4 a sk (gL a):=EO (Ba h) (IY a sk h) (aEu a sk h) λ r _=>⟨_,_,azY a sk r⟩
theorem aDE(h:e5 a sk=0):Dz 5 a sk (dM a (zB a)):=EO (Ba h) (IZ a sk h) (aEv a sk h) λ r _=>⟨_,_,sk5 a sk r⟩
end
section
variable(k:Int)(a:Nat->Nat)(sk:Int)(r b:Nat->Nat)(t:Nat)(ok:Bool)(e:Int)
theorem az1:ev bO [] [kS bO 130 λ _=>.bK [BX b,iA e]] bC Tryz.f232 [.agg (Th.si k a sk).c] ret=gate (aj bO 130 [SH k a sk] (.bK [BX b,iA e])) (some (Out.of (.agg (Bn b)))):=by kernel_rfl
theorem az2:ev bO [] [kS bO 45 λ _=>.bK [.f t,bA ok,iA e]] bC Tryz.f235 [.agg (Th.si k a sk).c,.agg (kW r)] ret=gate (aj bO 45 [SH k a sk,RY r] (.bK [.f t,bA ok,iA e])) (some (Out.of (Cq (⟨0,0,false,t⟩,ok)))):=by kernel_rfl
end
theorem ahT(o0 o1 o2 d0 d1 d2 ax w t lo hi:Int):∃L e,aj bO 299 [v3 o0 o1 o2,v3 d0 d1 d2,iA ax,iA w,iA t,iA lo,iA hi] (rtA (L,e)):=by
 by_cases l:ax<0\/ax>2
 .exact⟨[],3,acP.bad _ _ _ _ _ _ _ _ _ _ _ l⟩
 .have d:0<=ax/\ax<=2:=by omega
  by_cases hs:Six o0 o1 o2 d0 d1 d2 w t/\msI lo hi=true
  .exact⟨_,0,acP.good _ _ _ _ _ _ _ _ _ _ _ d hs.1 hs.2⟩
  .exact⟨[],1,acP.far _ _ _ _ _ _ _ _ _ _ _ d hs⟩
theorem auB{a:Nat->Nat}{sk m:Int}{b:Nat->Nat}(h:NR a sk m b=0):Kk a=false:=by
 unfold NR at h;cases l:Hs.jN sk<;>rw[l]at h<;>try (cases h;done)
 cases d:Kk a
 .rfl
 .rw[d]at h;cases h
section
variable{a:Nat->Nat}{sk:Int}
theorem aDz(h:e6 a sk=0):Dz 6 a sk (kM a (zB a)):=EO (Ba h) (I4 a sk h) (aDA a sk h) λ r d=>by obtain⟨L,e,l⟩:=ahT (FZ (KO a r 0)) (FZ (KO a r 1)) (FZ (KO a r 2)) (FZ (r 3)) (FZ (r 4)) (FZ (r 5)) (zB a:Nat) (FZ (a 9)) (FZ (a 10)) (FE .i64 (leF (r 6))) 70368744177664;exact⟨_,_,sk6 (aDn (aFV (auB h) d) l)⟩
def zQ(k:Int)(a:Nat->Nat)(sk:Int):Prop:=(k=1/\e1 a sk=0)\/(k=2/\e2 a sk=0)\/(k=3/\e3 a sk=0)\/(k=4/\e4 a sk=0)\/(k=5/\e5 a sk=0)\/(k=6/\e6 a sk=0)
theorem Zd{k:Int}(h:zQ k a sk):∃b,Dz k a sk b:=by
 rcases h with⟨rfl,h⟩ | ⟨rfl,h⟩ | ⟨rfl,h⟩ | ⟨rfl,h⟩ | ⟨rfl,h⟩ | ⟨rfl,h⟩
 .exact⟨_,aDB h⟩
 .exact⟨_,aDC h⟩
 .exact⟨_,auT h⟩
 .exact⟨_,aDD h⟩
 .exact⟨_,aDE h⟩
 .exact⟨_,aDz h⟩
end
end Go.Proofs.YtdlhemnconimnaaGreat.Tr
namespace Go.Ev
open Ieee
theorem aqm{x y:Nat}(h:dR x y=true):aF x=false:=by
 unfold dR at h;cases d:aF x
 .rfl
 .have e:aIS.order x y=none:=jh d;rw[e]at h;cases h
theorem XV{x:Nat}(P:isFin x=true)(o:4503599627370496<=key x):dR (bD x) 0=false:=by
 cases hc:dR (bD x) 0
 .rfl
 .exfalso;have C:=aqm hc;have k0:key 0=0:=by decide +kernel
  rw[dU C (by decide +kernel),k0]at hc;have Z:=Qx hc
  have d:rung (bD x)=0:=by have:=MC (bD x);omega
  have hf:isFin (bD x)=true:=by unfold isFin;rw[d];rfl
  have hs:dP x=false:=by
   cases hs:dP x
   .rfl
   .unfold key at o;rw[hs,aY]at o;omega
  have I:2 ^ 52<=rung x:=by
   unfold key at o;rw[hs,eU]at o;have:(2:Nat) ^ 52=4503599627370496:=by decide
   omega
  have l:=agY P I;rw[hs]at l;generalize R:4503599627370496+rung x % 4503599627370496=m at l;generalize hi:(-1074+((rung x / 4503599627370496 - 1:Nat):Int))=i at l;have G:m≠0:=by omega
  have e1:=abf l G;have U:=agZ m (show -1074<=i by omega);have hw:=ag0 G i;rw[e1]at d hf;generalize aeJ m i=W at *;generalize aeK m i=E at *;have M:E+(((0:Nat)):Int)=E:=by omega
  have s:=abg (s:=false) (m:=W) (j:=0) (u:=(E+1074).toNat) (w:=0) (p:=E) (by omega) (by rw[axO,aJe];exact aa2 (Lu (show 52<=(E+1074).toNat by omega)) (aLZ _ hw)) (by rw[M];exact hf)
  have lo:2 ^ 52<=W*2 ^ (E+1074).toNat / 2 ^ 0:=by rw[axO,aJe];exact aa2 (Lu (show 52<=(E+1074).toNat by omega)) (aLZ _ hw)
  have e2:=wW false W (E+1074).toNat 0 E (by omega);have y:=akl lo;rw[Kv]at e2;rw[e2,zP false (Nat.min_le_right _ _)]at d;have q:(2:Nat) ^ 52=4503599627370496:=by decide
  rw[q]at y;generalize rq 52 (W*2 ^ (E+1074).toNat) (2 ^ 0)=Q at *;omega
theorem mK{x y:Nat}(d:isFin x=true)(l:isFin y=true)(h:0<=key y):key x<=key (aM x y):=by
 rw[(Eh d l).1,<-TQ d];have k0:key 0=0:=by decide +kernel
 have o:val 0=0:=by decide +kernel
 have:=jZ.2 (show key 0<=key y by omega);exact nQ 1 (by omega)
theorem A9{x y:Nat}(l:isFin x=true)(d:isFin y=true)(h:0<=key x):key y<=key (aM x y):=by
 rw[(Eh l d).1,<-TQ d];have k0:key 0=0:=by decide +kernel
 have o:val 0=0:=by decide +kernel
 have:=jZ.2 (show key 0<=key x by omega);exact nQ 1 (by omega)
theorem akm{x:Nat}(d:isFin x=true):0<=key (aX x x):=by
 obtain⟨c,hc⟩:∃c,c=1074:=⟨_,rfl⟩;rw[(yD hc d d).1];have:KR 0 (2 ^ c)=0:=by subst hc;decide +kernel
 rw[<-this]
 exact nQ _ (by
  by_cases h:0<=val x
  .exact aNM h h
  .have:=aNM (show 0<=-val x by omega) (show 0<=-val x by omega);rw[aND]at this;exact this)
end Go.Ev
namespace Go.Proofs.YtdlhemnconimnaaGreat.Hs.So
open Go.Gv
open Go.Ev (cn aM aU aX fdiv bD dG dR dN iB bW iL fabs VB key aF isFin val bS cZ qm dU nQ yD mK A9 akm XV)
open Tr (Bx NJ Xo AQ Nr Lm qZ Ba zQ)
theorem akn{p:Int}(u:p≠0)(h:p.natAbs<=6000):key (aX (bU 1) (bU 1))<=key (aX (bU p) (bU p)):=by
 obtain⟨c,hc⟩:∃c,c=1074:=⟨_,rfl⟩;have f1:isFin (bU 1)=true:=by decide +kernel
 have d:isFin (bU p)=true:=(rD hc (j:=4) (by decide) (by show _<=8192;omega)).1;have o:0<val (bU 1):=by decide +kernel
 have l:val (bU (-1))=-val (bU 1):=by decide +kernel
 rw[(yD hc f1 f1).1,(yD hc d d).1];refine nQ _ ?_;by_cases q:0<p
 .have:=Go.Ev.jZ.2 (nC hc (m:=1) (n:=p) (by omega) (by decide) (by omega));exact aNN this this (by omega) (by omega)
 .have:=Go.Ev.jZ.2 (nC hc (m:=p) (n:=-1) (by omega) (by omega) (by decide));rw[l]at this;have g:=aNN (show val (bU 1)<=-val (bU p) by omega) (show val (bU 1)<=-val (bU p) by omega) (by omega) (by omega);rw[aND]at g;exact g
theorem ako{p:Int}(h:dR (bU p) 0=false):p≠0:=λ e=>by
 rw[e]at h;have:dR (bU 0) 0=true:=by decide +kernel
 rw[this]at h;cases h
theorem awQ:4503599627370496<=key (aX (bU 1) (bU 1)):=by decide +kernel
theorem aCf{p q s:Int}(d:p.natAbs<=6000)(hq:q.natAbs<=6000)(hs:s.natAbs<=6000)(h:lH (bU p) (bU q) (bU s)=false):unE (bU p) (bU q) (bU s)=0:=by
 obtain⟨c,hc⟩:∃c,c=1074:=⟨_,rfl⟩;have v:∀{z:Int},z.natAbs<=6000->VB 1 (c+4) (bU z):=λ l=>rD hc (j:=4) (by decide) (by show _<=8192;omega);have m:∀{z:Int},z.natAbs<=6000->VB 1 (c+8) (aX (bU z) (bU z)):=λ l=>Go.Ev.Dh hc (v l) (v l) (k:=c+8) (by omega) (by decide) (by decide) (by omega) (by omega);have g:∀{z:Int},z.natAbs<=6000->0<=key (aX (bU z) (bU z)):=λ l=>akm (v l).1;have a1:VB 1 (c+9) (aM (aX (bU p) (bU p)) (aX (bU q) (bU q))):=lU (j:=8) hc (by decide) (m d) (m hq);have x:VB 1 (c+9) (aX (bU s) (bU s)):=Go.Ev.lg (m hs) (by omega);have G:VB 1 (c+10) (aM (aM (aX (bU p) (bU p)) (aX (bU q) (bU q))) (aX (bU s) (bU s))):=lU (j:=9) hc (by decide) a1 x;have M:=mK (m d).1 (m hq).1 (g hq);have I:=A9 (m d).1 (m hq).1 (g d);have p2:=mK a1.1 x.1 (g hs);have s2:=A9 a1.1 x.1 (by have:=g d;omega)
 have y:4503599627370496<=key (IG (bU p) (bU q) (bU s) (bU p) (bU q) (bU s)):=by
  have P:=awQ;show 4503599627370496<=key (aM (aM (aX (bU p) (bU p)) (aX (bU q) (bU q))) (aX (bU s) (bU s)));unfold lH at h;cases u:dR (bU p) 0
  .have:=akn (ako u) d;omega
  .cases o:dR (bU q) 0
   .have:=akn (ako o) hq;omega
   .rw[u,o]at h;have:=akn (ako h) hs;omega
 have C:dR (bD (IG (bU p) (bU q) (bU s) (bU p) (bU q) (bU s))) 0=false:=XV G.1 y;unfold unE kY;rw[vC hc (Go.Ev.lg (v d) (by omega)) (Go.Ev.lg (v hq) (by omega)) (Go.Ev.lg (v hs) (by omega)),C];rfl
theorem awR:unE 0 one 0=0:=by decide +kernel
section
variable{c:Nat}(hc:c=1074){a:Nat->Nat}{sk:Int}(hs:0<=sk/\sk<16)(hv:∀i,i<11->VB 1 (c+17) (a i))
include hc hs hv
theorem aCg:e3 a sk=0:=by unfold e3;have n:∀i,i<11->Nr (a i):=λ i hi=>Lm (ru hc (zH (hv i hi) (by decide)));have bx:∀i,i<7->Bx (ls [a i,a (i+1),a (i+2),a i,a (i+1),a (i+2)]):=λ i hi=>⟨n i (by omega),n (i+1) (by omega),n (i+2) (by omega),n i (by omega),n (i+1) (by omega),n (i+2) (by omega),af2 _,af2 _,af2 _⟩;exact Ke hc hs (λ i hi=>zH (hv i hi) (by decide)) rfl (NJ (AQ (AQ (bx 0 (by decide)) (bx 3 (by decide))).1 (bx 6 (by decide))).1)
theorem auw(d:0<key (a 9))(l:unE (a 3) (a 4) (a 5)=0):e4 a sk=0:=by have o:=NJ (Ba (aiP hc hs hv d));unfold e4;refine Ke hc hs (λ i hi=>zH (hv i hi) (by decide)) ?_ o;unfold Bb;rw[ai9 (hv 9 (by decide)).1 d,l];rfl
theorem aCh(G:Ef (a 3) (a 4) (a 5)=true)(I:0<key (a 10))(hq:key (a 10)<=key (a 9)):e6 a sk=0:=by
 unfold e6;have y:=hv 9 (by decide);have d:=hv 10 (by decide);refine Ke hc hs (λ i hi=>zH (hv i hi) (by decide)) ?_ ?_
 .unfold FL;rw[G,ai9 d.1 I,aY,qm (Go.Ev.dX y.1) (Go.Ev.dX d.1),gG (by omega)];rfl
 .generalize zB a=z;have Cc:key 0=0:=by decide +kernel
  have x:∀i,VB 1 (c+17) (Ri z i (a 9))/\0<=key (Ri z i (a 9)):=λ i=>by
   unfold Ri;cases amH i z
   .exact⟨y,by rw[eU];omega⟩
   .exact⟨Go.Ev.Ee 1 _,by rw[aY];omega⟩
  have s:∀i,i<3->VB 1 (c+19) (aU (a i) (riA a z i))/\VB 1 (c+19) (aM (a i) (riA a z i))/\key (aU (a i) (riA a z i))<=key (aM (a i) (riA a z i)):=λ i hi=>by
   have l:VB 1 (c+18) (a i):=Go.Ev.lg (hv i (by omega)) (by omega);have u:VB 1 (c+18) (riA a z i):=lU (j:=17) hc (by decide) (x i).1 d
   have C:0<=key (riA a z i):=by have:=mK (x i).1.1 d.1 (by omega);have:=(x i).2;unfold riA;omega
   exact⟨aaD (j:=18) hc (by decide) l u,lU (j:=18) hc (by decide) l u,TT l l u C (af2 _)⟩
  have q:=s 0 (by decide);have o:=s 1 (by decide);have s2:=s 2 (by decide);refine Mt hc (λ i hi=>?_) q.2.2 o.2.2 s2.2.2
  match i,hi with
  | 0,_=>exact q.1
  | 1,_=>exact o.1
  | 2,_=>exact s2.1
  | 3,_=>exact q.2.1
  | 4,_=>exact o.2.1
  | 5,_=>exact s2.2.1
end
def sfE(n:Nat)(hs:Nat->Int)(F N sk i:Int)(m:Nat)(d:Nat->List AV)(k:Nat)(l:Nat->List AV):St:=mkS 104 [(0,sI n hs),(1,iA F),(6,.own 0 0),(7,.own 1 0),(8,iA N),(9,.bQ 3 1 0 k),(10,iA i)] [.c [.x (.slice none 0 0),iA 0],.c [.bQ 2 16 0 m,iA sk],.a 136 16 m d,.a 3 1 k l]
def Mc(n:Nat)(hs:Nat->Int)(F N sk i:Int)(m:Nat)(PL:Nat->kC)(k:Nat)(OL:Nat->Int):St:=sfE n hs F N sk i m (λ q=>(PL q).c) k λ q=>[iA (OL q)]
def sfN(n:Nat)(hs:Nat->Int)(F N sk:Int):St:=mkS 104 [(0,sI n hs),(1,iA F),(6,.own 0 0),(7,.own 1 0),(8,iA N),(9,.x (.slice none 0 0)),(10,iA 0)] [.c [.x (.slice none 0 0),iA 0],.c [.x (.slice none 0 0),iA sk]]
def rC:List Nat:=[0,1,6,7,8,9,10]
section
variable(n:Nat)(hs:Nat->Int)(F:Int)(pf:Int->Int->Int)(rf:Int->Int)(N sk i:Int)(m:Nat)(PL:Nat->kC)(k:Nat)(OL:Nat->Int)(K:Int->Int)(A:Int->Nat->Nat)(S:Int->Int)
def sfT:Bool:=cond (decide ((k:Int)>1)) (cond (i==aH (N - 1)) true (pf (rf (aH (F+i))) 2==0)) false
def pR(k:Nat):Int:=aH ((k:Int) - 2)
def BQ(k:Nat):Int:=aH ((k:Int) - 1)
def ajG:Bool:=(iP (pR k) k||false)&&((lN (pR k) k)&&((iP (BQ k) k||false)&&((lN (BQ k) k)&&((Qz m 128||false)&&true))))
def NV:Nat:=uV none (some (pR k)) k
def ajH:Bool:=(AY none (some (pR k)) none k||false)&&((((apB (NV k) k)&&apB ((NV k+1)*8) 140737488355328)||false)&&true)
def zsP(op l r:Int):kC:=⟨op,l,r,0,λ _=>0,0⟩
def sfP:kC:=zsP (aH (1+pf (rf (aH (aH (F+3)+i))) 3)) (OL (0+(pR k).toNat)) (OL (0+(BQ k).toNat))
noncomputable def sfC(o d:Option Out):Option Out:=gR n hs rf (aH (F+i)) (cond (sfT F pf rf N i k) (gR n hs rf (aH (aH (F+3)+i)) (cond (ajG m k) (cond (ajH k) o none) none)) d)
def MP(pf:Int->Int->Int):List Entry:=[⟨17,ePk pf⟩]
theorem aBU:jR bO (MP pf) [Kg rf] bC (av aHT 1) (Mc n hs F N sk i m PL k OL) (gu rC [some 0,some 1,some 5,some 7])=sfC n hs F pf rf N i m k (some ⟨.normal,sfE n hs F N sk i (m+1) (λ q=>bM (Tv q m) (PL q).c (sfP F pf rf i k OL).c) (NV k+1) (λ q=>bM (Tv q (NV k)) [iA (OL q)] [iA (aH (((m+1:Nat):Int) - 1))]),.any⟩) none:=by kernel_rfl
theorem awi:jR bO (MP pf) [Kg rf] bC (av aHT 1) (Mc n hs F N sk i m PL k OL) (iG rC [some 0,some 1,some 2,some 3])=sfC n hs F pf rf N i m k none (some ⟨.exit 2,Mc n hs F N sk i m PL k OL,.any⟩):=by kernel_rfl
def lkG(K:Int->Int)(A:Int->Nat->Nat)(S:Int->Int):List AV->AV
 | [_,.x (.int .i64 f)]=>SH (K f) (A f) (S f)
 |_=>.any
noncomputable def aaU:bf:=kS bO 86 (lkG K A S)
def sfF(i:Int):Int:=aH (aH (F+2)+aH (9*i))
def lfP(f:Int):kC:=⟨0,0,0,K f,A f,S f⟩
noncomputable def gLf(f:Int)(o:Option Out):Option Out:=gate (aj bO 86 [sI n hs,iA f] (SH (K f) (A f) (S f))) o
theorem ajI:jR bO (MP pf) [Kg rf,aaU K A S] bC (av aHT 0) (sfN n hs F N sk) (gu rC [some 0,some 1,some 3,some 5])=cond (decide (0<N)) (gLf n hs K A S (sfF F 0) (gR n hs rf (aH (F+0)) (some ⟨.normal,sfE n hs F N sk (aH (0+1)) 1 (λ q=>bM (Tv q 0) [] (lfP K A S (sfF F 0)).c) 1 (λ q=>bM (Tv q 0) [] [iA 0]),.any⟩))) none:=by kernel_rfl
variable(m2:Nat)(PL1 PL2:Nat->kC)(k2':Nat)(OL1 OL2:Nat->Int)
noncomputable def sfL:Nat->Option dY:=eZ 9 (fF rC [some 0,some 1,some 5,some 7] (Mc n hs F N sk i (m+1) PL1 (k+1) OL1) (.exit 2) (Mc n hs F N sk i m2 PL2 k2' OL2))
noncomputable def sfO(o:Option Out):Option Out:=cond ((Qz m 128||false)&&true) (cond ((apB k k&&apB ((k+1)*8) 140737488355328)||false) (gate (Sub (sfE n hs F N sk i (m+1) (λ q=>bM (Tv q m) (PL q).c (lfP K A S (sfF F i)).c) (k+1) (λ q=>bM (Tv q k) [iA (OL q)] [iA (aH (((m+1:Nat):Int) - 1))])) (Mc n hs F N sk i (m+1) PL1 (k+1) OL1)) o) none) none
theorem apQ:jR bO (MP pf) [Kg rf,aaU K A S] (sfL n hs F N sk i m k m2 PL1 PL2 k2' OL1 OL2) (av aHT 0) (Mc n hs F N sk i m PL k OL) (gu rC [some 0,some 1,some 2,some 3])=cond (decide (i<N)) (gLf n hs K A S (sfF F i) (sfO n hs F N sk i m PL k OL K A S PL1 OL1 (some ⟨.normal,Mc n hs F N sk (aH (i+1)) m2 PL2 k2' OL2,.any⟩))) none:=by kernel_rfl
theorem awj:jR bO (MP pf) [Kg rf,aaU K A S] (eZ 9 λ _ _=>none) (av aHT 0) (Mc n hs F N sk i m PL k OL) (iG rC [some 0,some 1,some 2,some 3])=cond (decide (i<N)) (gLf n hs K A S (sfF F i) (cond ((Qz m 128||false)&&true) (cond ((apB k k&&apB ((k+1)*8) 140737488355328)||false) none none) none)) (some ⟨.exit 0,Mc n hs F N sk i m PL k OL,.any⟩):=by kernel_rfl
end
end Go.Proofs.YtdlhemnconimnaaGreat.Hs.So
