/- Texts, one behind the other. -/
import Derived.Test.YtefphimaggjihaaGreatDoorC21
import Derived.Test.YtefphimaggjihaaGreatDoorC22
import Derived.Shelf.Strings.Builder1
import Derived.Shelf.Strings.Trim
import Derived.Shelf.Strconv.Itoa3
import Derived.Shelf.Strings.Search1
import Derived.Test.YtefphimaggjihaaGreatDoorC13
import Derived.Test.YtefphimaggjihaaGreatDoorC4
namespace Go.Proofs.YtefphimaggjihaaGreatDoor.Pi
open Go.Shelf Go.RowKit Go.Gv
def zA(s:ByteArray):AV:=.x(.string s)
def bL(s:ByteArray):List UInt8:=s.data.toList
def lB(l:List UInt8):ByteArray:=⟨l.toArray⟩
@[simp]theorem jr(l:List UInt8):bL(lB l)=l:=by simp[bL,lB]
@[simp]theorem GJ(s:ByteArray):lB(bL s)=s:=by simp[bL,lB]
theorem apj {s t:ByteArray}(h:bL s=bL t):s=t:=by rw[←GJ s,h,GJ]
theorem abj(s:ByteArray):s.size=(bL s).length:=Lib.size_eq s
theorem aY(l:List UInt8):(lB l).size=l.length:=by rw[abj,jr]
theorem aog(s:ByteArray)(i:Nat):sAt s i=(((bL s).getD i 0).toNat:Int):=rfl
theorem oJ(s:ByteArray)(a b:Nat):bL(s.extract a b)=((bL s).take b).drop a:=by
 unfold bL
 rw[ByteArray.data_extract,Array.toList_extract]
 simp[List.extract_eq_take_drop,List.drop_take]
theorem sEq(s t:ByteArray):(s.toList==t.toList)=decide(bL s=bL t):=by
 rw[Lib.toList_data,Lib.toList_data]
 unfold bL
 by_cases h:s.data.toList=t.data.toList
 ·rw[h];simp
 ·rw[decide_eq_false h];simpa using h
theorem Yv {E:Env}:∀{vs us:List Value},dB E(vs.map .x)us→us=vs
 | [],us,h=>bK.1 h
 |v::vs,us,h=>by
  obtain⟨u,us',e,h1,h2⟩:=aH.1 h
  rw[e,bI.1 h1,Yv h2]
theorem GL {f : Nat} {fn : Func} (hf : Tryz.prog.funcs[f]? = some fn) (hnm : (fn.name == "runtime.NumGoroutine") = false) (hb : fn.body.isNone = false) (vs : List Value) {v : Value} {r : AV} (hr : ∀ E, rel E r v)
  (h:∀w,Calls Tryz.prog f vs.toArray w fun e w'=>e=.returned v∧Below w.heap.size w w'):aj Tryz.prog f(vs.map .x)r:=by
 refine⟨⟨fn,hf,hnm,hb⟩,fun A w aZ _ hr' _=>?_⟩
 have e:=Yv hr'
 have e2:aZ=vs.toArray:=by apply Array.ext';simpa using e
 subst e2
 exact(h w).mono fun e w'⟨h1,h2⟩=>⟨v,h1,hr _,h2⟩
end Go.Proofs.YtefphimaggjihaaGreatDoor.Pi
namespace Go.Proofs.YtefphimaggjihaaGreatDoor
open Go.Shelf
def Tryz.Ac:Go.Shelf.Ren:=⟨fun | 240=>154 | 276=>173 |n=>n,fun | 0=>0 | 4=>4 | 9=>9 | 20=>20 | 37=>78 | 70=>77 | 72=>80 | 164=>204 |n=>n,fun  |n=>n⟩
theorem Tryz.aa1:Go.Proofs.Lays.n240 Tryz.prog Tryz.Ac:={
 mixed:=by kernel_rfl
 f240:=Tryz.aly.trans(congrArg some(by kernel_rfl))
 f276:=Tryz.azv.trans(congrArg some(by kernel_rfl))
 t0:=Tryz.Ab
 a0:=Tryz.Yq
 z0:=Tryz.QD
 v0:=Tryz.C8
 t4:=Tryz.Aa
 a4:=Tryz.ag8
 z4:=Tryz.aa2
 v4:=Tryz.La
 t9:=Tryz.underlying9
 a9:=Tryz.OQ
 z9:=Tryz.Ih
 v9:=Tryz.wY
 t20:=Tryz.QK
 a20:=Tryz.alz
 z20:=Tryz.ag9
 v20:=Tryz.UO
 t70:=Tryz.ER
 a70:=Tryz.alq
 z70:=Tryz.ag1
 v70:=Tryz.UL
 t72:=Tryz.ES
 a72:=Tryz.alr
 z72:=Tryz.ag2
 v72:=Tryz.UM
 t164:=Tryz.aiz
 a164:=Tryz.aw1
 z164:=Tryz.atL
 v164:=Tryz.alA
}
def Tryz.QL:Go.Shelf.Ren:=⟨fun | 129=>224 | 171=>129 | 243=>155 | 246=>174 | 283=>199 | 284=>200 | 285=>201 | 286=>202 | 317=>223 | 318=>225 | 319=>226 | 320=>227 | 337=>238 | 338=>239 |n=>n,fun | 0=>0 | 2=>2 | 3=>3 | 4=>4 | 5=>5 | 9=>9 | 20=>20 | 37=>78 | 46=>225 | 51=>244 | 53=>223 | 171=>227 | 173=>230 | 212=>243 | 213=>245 | 232=>259 | 233=>260 |n=>n,fun | 17=>2 | 18=>3 | 19=>4 |n=>n⟩
theorem Tryz.aha:Go.Proofs.LaysM.n171 Tryz.prog Tryz.QL:={
 mixed:=by kernel_rfl
 f129:=Tryz.azw.trans(congrArg some(by kernel_rfl))
 f171:=Tryz.alB.trans(congrArg some(by kernel_rfl))
 f243:=Tryz.azx.trans(congrArg some(by kernel_rfl))
 f246:=Tryz.azy.trans(congrArg some(by kernel_rfl))
 f283:=Tryz.azz.trans(congrArg some(by kernel_rfl))
 f284:=Tryz.azA.trans(congrArg some(by kernel_rfl))
 f285:=Tryz.azB.trans(congrArg some(by kernel_rfl))
 f286:=Tryz.azC.trans(congrArg some(by kernel_rfl))
 f317:=Tryz.azD.trans(congrArg some(by kernel_rfl))
 f318:=Tryz.azE.trans(congrArg some(by kernel_rfl))
 f319:=Tryz.azF.trans(congrArg some(by kernel_rfl))
 f320:=Tryz.azG.trans(congrArg some(by kernel_rfl))
 f337:=Tryz.azH.trans(congrArg some(by kernel_rfl))
 f338:=Tryz.azI.trans(congrArg some(by kernel_rfl))
 t0:=Tryz.Ab
 a0:=Tryz.Yq
 z0:=Tryz.QD
 v0:=Tryz.C8
 t2:=Tryz.anB
 a2:=Tryz.aBX
 z2:=Tryz.azJ
 v2:=Tryz.arn
 t3:=Tryz.pG
 a3:=Tryz.VQ
 z3:=Tryz.OP
 v3:=Tryz.Ci
 t4:=Tryz.Aa
 a4:=Tryz.ag8
 z4:=Tryz.aa2
 v4:=Tryz.La
 t5:=Tryz.underlying5
 a5:=Tryz.adC
 z5:=Tryz.Zz
 v5:=Tryz.Jg
 t9:=Tryz.underlying9
 a9:=Tryz.OQ
 z9:=Tryz.Ih
 v9:=Tryz.wY
 t20:=Tryz.QK
 a20:=Tryz.alz
 z20:=Tryz.ag9
 v20:=Tryz.UO
 t37:=Tryz.EP
 a37:=Tryz.alp
 z37:=Tryz.ag0
 v37:=Tryz.UK
 t46:=Tryz.MU
 a46:=Tryz.ahb
 z46:=Tryz.acH
 v46:=Tryz.QM
 t51:=Tryz.aiA
 a51:=Tryz.aw2
 z51:=Tryz.atN
 v51:=Tryz.alC
 t53:=Tryz.MV
 a53:=Tryz.aw3
 z53:=Tryz.atO
 v53:=Tryz.alD
 t171:=Tryz.aiB
 a171:=Tryz.aw4
 z171:=Tryz.atP
 v171:=Tryz.alE
 t173:=Tryz.aiC
 a173:=Tryz.aw5
 z173:=Tryz.atQ
 v173:=Tryz.alF
 t212:=Tryz.MW
 a212:=Tryz.aw6
 z212:=Tryz.atS
 v212:=Tryz.alG
 t213:=Tryz.aiD
 a213:=Tryz.aw7
 z213:=Tryz.atT
 t232:=Tryz.aiE
 a232:=Tryz.aw8
 z232:=Tryz.atU
 v232:=Tryz.alH
 t233:=Tryz.aiF
 a233:=Tryz.aw9
 z233:=Tryz.atV
 v233:=Tryz.alI
 g17:=by kernel_rfl
 g18:=by kernel_rfl
 g19:=by kernel_rfl
 i0:=by kernel_rfl
 i2:=by kernel_rfl
 i3:=by kernel_rfl
 i4:=by kernel_rfl
 i5:=by kernel_rfl
 i9:=by kernel_rfl
 i20:=by kernel_rfl
 i37:=by kernel_rfl
 i46:=by kernel_rfl
 i51:=by kernel_rfl
 i53:=by kernel_rfl
 i171:=by kernel_rfl
 i173:=by kernel_rfl
 i212:=by kernel_rfl
 i232:=by kernel_rfl
 i233:=by kernel_rfl
 m17:=by kernel_rfl
 m18:=by kernel_rfl
 m19:=by kernel_rfl
}
def Tryz.UQ:Go.Shelf.Ren:=⟨fun | 119=>242 | 120=>228 | 137=>241 | 151=>205 | 152=>230 | 162=>156 | 197=>229 | 217=>250 | 224=>243 | 225=>244 | 227=>176 | 228=>203 | 232=>175 | 234=>177 | 236=>178 | 260=>240 | 266=>253 | 271=>204 |n=>n,fun | 0=>0 | 3=>3 | 4=>4 | 5=>5 | 9=>9 | 21=>21 | 46=>225 | 105=>233 | 116=>209 | 117=>210 | 119=>261 | 124=>213 | 138=>263 | 139=>264 |n=>n,fun | 3=>5 | 4=>6 |n=>n⟩
theorem Tryz.alJ:Go.Proofs.Lays.n162 Tryz.prog Tryz.UQ:={
 mixed:=by kernel_rfl
 f119:=Tryz.azK.trans(congrArg some(by kernel_rfl))
 f120:=Tryz.azL.trans(congrArg some(by kernel_rfl))
 f137:=Tryz.azM.trans(congrArg some(by kernel_rfl))
 f151:=Tryz.azN.trans(congrArg some(by kernel_rfl))
 f152:=Tryz.azO.trans(congrArg some(by kernel_rfl))
 f162:=Tryz.alK.trans(congrArg some(by kernel_rfl))
 f197:=Tryz.azP.trans(congrArg some(by kernel_rfl))
 f217:=Tryz.Zy.trans(congrArg some(by kernel_rfl))
 f224:=Tryz.azQ.trans(congrArg some(by kernel_rfl))
 f225:=Tryz.azR.trans(congrArg some(by kernel_rfl))
 f227:=Tryz.azS.trans(congrArg some(by kernel_rfl))
 f228:=Tryz.azT.trans(congrArg some(by kernel_rfl))
 f232:=Tryz.azU.trans(congrArg some(by kernel_rfl))
 f234:=Tryz.azV.trans(congrArg some(by kernel_rfl))
 f236:=Tryz.azW.trans(congrArg some(by kernel_rfl))
 f260:=Tryz.azX.trans(congrArg some(by kernel_rfl))
 f266:=Tryz.ai5.trans(congrArg some(by kernel_rfl))
 f271:=Tryz.azY.trans(congrArg some(by kernel_rfl))
 t0:=Tryz.Ab
 a0:=Tryz.Yq
 z0:=Tryz.QD
 v0:=Tryz.C8
 t3:=Tryz.pG
 a3:=Tryz.VQ
 z3:=Tryz.OP
 v3:=Tryz.Ci
 t4:=Tryz.Aa
 a4:=Tryz.ag8
 z4:=Tryz.aa2
 v4:=Tryz.La
 t5:=Tryz.underlying5
 a5:=Tryz.adC
 z5:=Tryz.Zz
 v5:=Tryz.Jg
 t9:=Tryz.underlying9
 a9:=Tryz.OQ
 z9:=Tryz.Ih
 v9:=Tryz.wY
 t21:=Tryz.underlying21
 a21:=Tryz.azZ
 z21:=Tryz.axa
 v21:=Tryz.anC
 t46:=Tryz.MU
 a46:=Tryz.ahb
 z46:=Tryz.acH
 v46:=Tryz.QM
 t105:=Tryz.aiG
 a105:=Tryz.axb
 z105:=Tryz.atW
 v105:=Tryz.alL
 t116:=Tryz.aiH
 a116:=Tryz.axc
 z116:=Tryz.atX
 t117:=Tryz.aiI
 a117:=Tryz.axd
 z117:=Tryz.atY
 v117:=Tryz.alM
 t119:=Tryz.aiJ
 a119:=Tryz.axe
 z119:=Tryz.atZ
 t124:=Tryz.aiK
 a124:=Tryz.axf
 z124:=Tryz.at0
 v124:=Tryz.alN
 t138:=Tryz.aiL
 a138:=Tryz.axg
 z138:=Tryz.at1
 v138:=Tryz.alO
 t139:=Tryz.aiM
 a139:=Tryz.axh
 z139:=Tryz.at5
 v139:=Tryz.alP
 g3:=by kernel_rfl
 g4:=by kernel_rfl
}
theorem Tryz.axi:Go.Proofs.Builder.X72 Tryz.prog Tryz.Ac:={ sizeBuilder:=by kernel_rfl,liesBuilder:=by kernel_rfl }
end Go.Proofs.YtefphimaggjihaaGreatDoor
namespace Go.Proofs.YtefphimaggjihaaGreatDoor.Pi
open Go.Shelf Go.RowKit Go.Gv
theorem anD {E:Env}:∀{vs us:List Value},pre E(vs.map .x)us→us.take vs.length=vs
 | [],us,_=>by simp
 |v::vs,us,h=>by
  obtain⟨u,us',rfl,h1,h2⟩:=bE.1 h
  rw[bI.1 h1,List.length_cons,List.take_succ_cons,anD h2]
theorem aro {w : World} {A : Nat → Prop} (hg : vH ⟨w, A, fun _ => none⟩) : Lib.TabIs Tryz.prog w "internal/strconv.uint64pow10" .u64 Lib.pow10Tab := by
 have hk:known 2=some((Lib.pow10Tab.map fun z=>Value.int .u64 z).map .x):=by kernel_rfl
 obtain⟨h1,h2⟩:=hg 2 _ hk
 have h1:bN _ _ _:=h1
 rw[bN]at h1
 obtain⟨b,o,cs,e,fz,hp,_,hb,hpre⟩:=h1
 simp only[Value.pointer.injEq,Option.some.injEq,Addr.mk.injEq]at hp
 obtain⟨rfl,ho,_⟩:=hp
 have hpre:pre _((Lib.pow10Tab.map fun z=>Value.int .u64 z).map .x)(cs.toList.drop o):=hpre
 have ho':o=0:=by omega
 subst ho'
 have hsz:=h2 cs e fz hb
 have ht:=anD hpre
 rw[List.drop_zero]at ht
 have hlen:(Lib.pow10Tab.map fun z=>Value.int .u64 z).length=cs.toList.length:=by
  rw[List.length_map]at hsz
  exact(Array.length_toList.trans hsz).symm
 rw[hlen,List.take_length]at ht
 unfold Lib.TabIs World.var?
 rw [show Tryz.prog.globalNamed "internal/strconv.uint64pow10" = some 2 by kernel_rfl]
 simp only[Option.bind_some,hb]
 rw[←ht]
theorem ab4 {n:Int}(h0:-9223372036854775808≤n)(h1:n≤9223372036854775807):aj Tryz.prog 129 [iA n](zA(lB(Lib.itoa n))):=by
 refine⟨⟨_,Tryz.alB,by kernel_rfl,by kernel_rfl⟩,fun A w aZ _ hr hg=>?_⟩
 have e:=Yv(vs:=[.int .i64 n])hr
 have e2:aZ=#[.int .i64 n]:=by apply Array.ext';simpa using e
 subst e2
 refine(Any.strconv_Itoa Tryz.aha n h0 h1 w(aro hg)).mono fun e w'⟨h2,k,os,h3⟩=>⟨_,h2,bI.2 rfl,?_⟩
 subst h3
 have hb:(w.drewN k).heap=w.heap:=by simp
 exact⟨rfl,rfl,rfl,by simp[Go.Sort.grow],fun i hi=>by simp only[Go.Sort.grow,hb,Array.getElem?_append,hi,if_true]⟩
theorem Xz(s:ByteArray)(hs:s.size≤9223372036854775807):aj Tryz.prog 156 [zA s,zA⟨#[48]⟩](zA(lB(Lib.trimRightB(bL s)48))) :=
 GL Tryz.alK(by kernel_rfl)(by kernel_rfl) [.string s,.string⟨#[48]⟩](v:=.string(lB(Lib.trimRightB(bL s)48)))(fun E=>bI.2 rfl)fun w=>(Any.strings_TrimRight_one Tryz.alJ s 48(by decide)w hs).mono fun e w'⟨h1,h2⟩=>⟨h1,by rw[h2];exact Below.refl _ _⟩
theorem arp:liesAt Tryz.prog Tryz.prog.depth 82(4 / Tryz.prog.cellsOf 82)0 80 1=true:=by kernel_rfl
set_option maxHeartbeats 1000000 in
set_option maxRecDepth 100000 in
theorem Yw(b:Nat)(w:World)(h0:w.cell?⟨b,0,none⟩=some(.pointer none))(hsh:w.shape? b=some(82,4))(hfz:w.frozen?⟨b,0,none⟩=false) :
  Calls Tryz.prog 154 #[.pointer(some⟨b,0,none⟩)]w fun e w'=>e=.returned(.tuple #[])∧w'=w.setCell⟨b,0,none⟩(.pointer(some⟨b,0,none⟩)):=by
 have L:=Tryz.aa1
 obtain⟨j,hj,hjs⟩:=Option.map_eq_some_iff.1 Tryz.axi.sizeBuilder
 have mixed:=L.mixed
 have t72:=L.t72;have a72:=L.a72;have z72:=L.z72;have v72:=L.v72;have u72:=run_underlying L.t72
 have t70:=L.t70;have a70:=L.a70;have z70:=L.z70;have v70:=L.v70;have u70:=run_underlying L.t70
 have t9:=L.t9;have a9:=L.a9;have z9:=L.z9;have v9:=L.v9;have u9:=run_underlying L.t9
 have t4:=L.t4;have a4:=L.a4;have z4:=L.z4;have v4:=L.v4;have u4:=run_underlying L.t4
 have t164:=L.t164;have a164:=L.a164;have z164:=L.z164;have v164:=L.v164;have u164:=run_underlying L.t164
 go_enter L.f240,Body.n240_ntmps Tryz.Ac
 go_wp2
 rw[Lib.run_to_unsafe w⟨b,0,none⟩L.t70 L.t164 hj(by rw[hjs];decide)hsh(Nat.zero_lt_succ 3)]
 simp only[Result.andThen]
 rw[Oper.upon_value]
 go_wp2
 rw[run_callFunc_extern L.f276(by kernel_rfl)(by kernel_rfl)(by kernel_rfl)(e:=Extern.AbiNoEscape.same)(by kernel_rfl)]
 rw[Lib.run_noEscape]
 simp only[Result.andThen]
 rw[Oper.upon_value]
 go_wp2
 rw[Lib.run_from_unsafe w⟨b,0,none⟩L.t164 L.t70 hj hsh arp]
 simp only[Result.andThen]
 rw[Oper.upon_value]
 go_wp2
 go_end0
 exact⟨rfl,rfl⟩
theorem UR {w:World}{b:Nat}{p v c d u:Value}{T:TypeId}(h:w.heap[b]?=some(.cells #[p,v,c,d]T(0,0))):w.setCell⟨b,0,none⟩u=w.setRow b #[u,v,c,d]:=by
 have hlt:b<w.heap.size:=(Array.getElem?_eq_some_iff.1 h).1
 have hv:w.heap[b]=.cells #[p,v,c,d]T(0,0):=(Array.getElem?_eq_some_iff.1 h).2
 unfold World.setCell World.setRow
 congr 1
 apply Array.ext_getElem?
 intro i
 simp only[Array.getElem?_modify]
 by_cases hi:b=i
 ·subst hi
  rw[if_pos rfl,if_pos rfl,h]
  rfl
 ·rw[if_neg hi,if_neg hi]
theorem axj {mem:List Row}{k:Nat}{P0 Bv C D:AV}(hk:mem[k]?=some(.t 82 [P0,Bv,C,D]))(hP:P0=.x(.pointer none)∨P0=.own k 0):bP Tryz.prog 154 [.own k 0]mem(.aN [])(mem.set k(.t 82 [.own k 0,Bv,C,D])):=by
 refine⟨⟨_,Tryz.aly,by kernel_rfl,by kernel_rfl⟩,fun A0 R w0 E aZ hW hgl hr=>?_⟩
 obtain⟨u0,t0,e0,r0,hr⟩:=aH.1 hr
 have e1:=bK.1 hr
 subst e1
 obtain⟨b,c,hO,rfl⟩:=jh.1 r0
 have ec:aZ=#[.pointer(some⟨b,0,none⟩)]:=by apply Array.ext';simpa using e0
 subst ec
 obtain⟨row,hrow,hrel⟩:=hW.rows k b c hO
 rw[hk]at hrow
 cases hrow
 obtain⟨cs,hcs,hpre,hsz⟩:=hrel
 obtain⟨p,us,e2,rp,hpre⟩:=bE.1 hpre
 obtain⟨v,us1,e3,rv,hpre⟩:=bE.1 hpre
 obtain⟨x,us2,e4,rx,hpre⟩:=bE.1 hpre
 obtain⟨y,us3,e5,ry,_⟩:=bE.1 hpre
 have hus:us3=[]:=by
  have:=congrArg List.length e2
  rw[e3,e4,e5]at this
  simp only[Array.length_toList,List.length_cons,hsz]at this
  exact List.eq_nil_of_length_eq_zero(by simpa using this.symm)
 subst hus e5 e4 e3
 have hcs2:cs=#[p,v,x,y]:=by apply Array.ext';simpa using e2
 subst hcs2
 rcases hP with rfl |rfl
 ·have ep:=bI.1 rp
  subst ep
  refine(Yw b E.w(by simp[World.cell?,hcs])(by simp[World.shape?,hcs])(by simp[World.frozen?,hcs])).mono fun e w'⟨h1,h2⟩=>?_
  subst h2
  rw[UR hcs]
  have hnk:E.O mem.length=none:=by
   cases hn:E.O mem.length with
   |none=>rfl
   |some q =>
    obtain⟨r,g1,_⟩:=hW.rows mem.length q.1 q.2 hn
    simp at g1
  have happ:jk E mem(mem.set k(.t 82 [.own k 0,Bv,C,D]))mem.length⟨.any,[],some(k,.t 82 [.own k 0,Bv,C,D]),none⟩:=by
   refine⟨fun j _ b' c' hj=>?_,fun row h=>by cases h⟩
   simp only
   by_cases hjk:j=k
   ·subst hjk
    rw[if_pos rfl,List.getElem?_set_self(List.getElem?_eq_some_iff.1 hk).1]
   ·rw[if_neg hjk,List.getElem?_set_ne(fun h=>hjk h.symm)]
  have hle:E.le(E.row(E.w.setRow b #[.pointer(some⟨b,0,none⟩),v,x,y])k b c):=Env.kN⟨rfl,rfl,rfl,by simp[World.setRow],fun j _ hj=>setRow_other _ _ _ _(fun e=>hj(by rw[e]))⟩(Or.inl(hW.own k b c hO(by unfold aK;rw[hk];rfl)).1)(Or.inr hO)
  obtain⟨g1,g2⟩:=hW.written hnk happ hO hk rfl #[.pointer(some⟨b,0,none⟩),v,x,y]⟨_,setRow_heap E.w b _ _ _(0,0)hcs,bE.2⟨_,_,rfl,jh.2⟨b,c,by simp[Env.row],rfl⟩,bE.2⟨_,_,rfl,mR hle rv,bE.2⟨_,_,rfl,mR hle rx,bE.2⟨_,_,rfl,mR hle ry,pre_nil⟩⟩⟩⟩,rfl⟩
  exact⟨_,_,h1,rfl,g1,g2,nJ.2⟨_,rfl,bK.2 rfl⟩⟩
 ·obtain⟨b',c',hO',rfl⟩:=jh.1 rp
  rw[hO]at hO'
  cases hO'
  refine(Any.Builder_copyCheck_used Tryz.aa1 Tryz.axi b E.w(by simp[World.cell?,hcs])).mono fun e w'⟨h1,h2⟩=>?_
  subst h2
  have hm:mem.set k(.t 82 [.own k 0,Bv,C,D])=mem:=by
   apply List.ext_getElem?
   intro j
   by_cases hjk:j=k
   ·subst hjk
    rw[List.getElem?_set_self(List.getElem?_eq_some_iff.1 hk).1,hk]
   ·rw[List.getElem?_set_ne(fun h=>hjk h.symm)]
  rw[hm]
  exact⟨_,E,h1,rfl,Env.le.refl E,hW,nJ.2⟨_,rfl,bK.2 rfl⟩⟩
def cA(c:Int):AV:=.x(.int .i32 c)
def dgB(c:Int):Bool:=cond(decide(48≤c))(decide(c≤57))false
def ltB(c:Int):Bool:=cond(cond(cond(decide(97≤c))(decide(c≤122))false)true(cond(cond(decide(223≤c))(decide(c≤255))false)(!(c==247))false))true(cond(decide(945≤c))(decide(c≤969))false)
def iwB(c:Int):Bool:=cond(cond(cond(ltB c)true(dgB c))true(c==46))true(c==45)
def btB(c:Int):Bool:=cond(cond(c==32)true(c==9))true(c==10)
section
variable(c:Int)
theorem ax9:ev Tryz.prog [] []aM Tryz.f116 [cA c]ret=some(Out.of(bA(dgB c))):=by kernel_rfl
theorem aya:ev Tryz.prog [] []aM Tryz.f115 [cA c]ret=some(Out.of(bA(ltB c))):=by kernel_rfl
theorem ayb:ev Tryz.prog [] []aM Tryz.f71 [cA c]ret=some(Out.of(bA(btB c))):=by kernel_rfl
theorem atH(n:Int):ev Tryz.prog [] []aM Tryz.f172 [iA n]ret=some(Out.of(bA(cond(decide(n<-1000000))true(decide(1000000<n))))):=by kernel_rfl
end
theorem OV(c:Int):aj Tryz.prog 116 [cA c](bA(dgB c)):=aP aB av Tryz.aAn(by kernel_rfl)(by kernel_rfl)aA rfl(ax9 c)
theorem ZE(c:Int):aj Tryz.prog 115 [cA c](bA(ltB c)):=aP aB av Tryz.aAo(by kernel_rfl)(by kernel_rfl)aA rfl(aya c)
theorem PU(c:Int):aj Tryz.prog 71 [cA c](bA(btB c)):=aP aB av Tryz.aC2(by kernel_rfl)(by kernel_rfl)aA rfl(ayb c)
def byB(n:Int):Bool:=cond(decide(n<-1000000))true(decide(1000000<n))
theorem aaC(n:Int):aj Tryz.prog 172 [iA n](bA(byB n)):=aP aB av Tryz.ak5(by kernel_rfl)(by kernel_rfl)aA rfl(atH n)
def gC(f:Int→Bool):List AV→AV
 | [.x(.int _ c)]=>bA(f c)
 |_=>.any
theorem ayc(c:Int)(f g:Int→Bool):ev Tryz.prog [] [kS Tryz.prog 115(gC f),kS Tryz.prog 116(gC g)]aM Tryz.f70 [cA c]ret=gate(aj Tryz.prog 115 [cA c](bA(f c)))(gate(aj Tryz.prog 116 [cA c](bA(g c)))(some(Out.of(bA(cond(cond(cond(f c)true(g c))true(c==46))true(c==45)))))):=by kernel_rfl
theorem En(c:Int):aj Tryz.prog 70 [cA c](bA(iwB c)) :=
 aP aB(ak aD(ak aD av))Tryz.aC3(by kernel_rfl)(by kernel_rfl)aA rfl((ayc c ltB dgB).trans(by rw[ah(ZE c),ah(OV c)];rfl))
def dS(s:ByteArray)(p:Nat)(e:Bool)(n:Int):St:=mkS 32 [(4,iA n),(18,.own 0 0)] [.i s p e]
noncomputable def Dh(s:ByteArray)(p:Nat):Int:=((dcX s p).1:Nat)
noncomputable def yT(s:ByteArray)(p:Nat):Nat:=p+(dcX s p).2
section
variable(s:ByteArray)(p:Nat)(n most:Int)
theorem ayd:gD Tryz.prog [] [kS Tryz.prog 116(fun _=>bA true)]aM(au Tryz.f249 0)(dS s p false n)(fu [4,18] [some 0])=gate(aj Tryz.prog 116 [cA(Dh s p)](bA true))(some⟨.normal,dS s(yT s p)(Nat.ble s.size(yT s p))(aI(aI(10*n)+aI(IntKind.i32.wrap(Dh s p - 48)))),.any⟩):=by kernel_rfl
theorem atI:gD Tryz.prog [] []aM(au Tryz.f249 0)(dS s p true n)(gM [4,18] [some 0])=some⟨.exit 0,dS s p true n,.any⟩:=by kernel_rfl
end
theorem abr {s:ByteArray}{p:Nat}(h:p<s.size)(hb:((bL s).getD p 0).toNat<128):Dh s p=(((bL s).getD p 0).toNat:Int)∧yT s p=p+1:=by
 have e:s[p]'h=(bL s).getD p 0:=by
  have h':p<s.data.size:=h
  show s.data[p]'h'=_
  unfold bL
  rw[List.getD_eq_getElem?_getD,List.getElem?_eq_getElem(by simpa using h')]
  simp
 unfold Dh yT
 rw[Xd,decode_ascii s p h(by rw[e];exact hb),e]
 exact⟨rfl,rfl⟩
def dv(n:Int)(b:UInt8):Int:=10*n+((b.toNat:Int) - 48)
def qI(l:List UInt8):Int:=l.foldl dv 0
def ZB(l:List UInt8):Prop:=∀b,b∈l→48≤b.toNat∧b.toNat≤57
theorem UN(l:List UInt8)(b:UInt8):qI(l++[b])=dv(qI l)b:=by unfold qI;rw[List.foldl_append];rfl
theorem Vw:∀(l:List UInt8)(n:Int),0≤n→ZB l→0≤l.foldl dv n∧l.foldl dv n<(n+1)*10 ^ l.length
 | [],n,h0,_=>⟨h0,by simp;omega⟩
 |b::l,n,h0,h=>by
  obtain⟨h3,h4⟩:=h b(by simp)
  have hn:0≤dv n b:=by unfold dv;omega
  obtain⟨h1,h2⟩:=Vw l(dv n b)hn fun x hx=>h x(by simp[hx])
  refine⟨h1,Int.lt_of_lt_of_le h2 ?_⟩
  rw[List.length_cons,Int.pow_succ,Int.mul_comm(10 ^ l.length)10,←Int.mul_assoc]
  exact Int.mul_le_mul_of_nonneg_right(by unfold dv;omega)(Int.pow_nonneg(by decide))
theorem OT(l:List UInt8)(h:ZB l):0≤qI l∧qI l<10 ^ l.length:=by
 have:=Vw l 0(Int.le_refl _)h
 rw[Int.zero_add,Int.one_mul]at this
 exact this
theorem ado {l:List UInt8}{j:Nat}(h:j<l.length):l.take(j+1)=l.take j++[l.getD j 0]:=by
 rw[List.take_add_one,List.getD_eq_getElem?_getD,List.getElem?_eq_getElem h]
 rfl
theorem aiw {l:List UInt8}{j:Nat}(h:j<l.length):l.getD j 0∈l:=by
 rw[List.getD_eq_getElem?_getD,List.getElem?_eq_getElem h]
 exact List.getElem_mem h
theorem amN:∀n:Fin 10,(10:Int) ^ n.val≤1000000000:=by decide
theorem VT {n:Nat}(h:n≤9):(10:Int) ^ n≤1000000000:=amN⟨n,by omega⟩
theorem aC4 {b:UInt8}(h:48≤b.toNat∧b.toNat≤57):dgB(b.toNat:Int)=true:=by
 unfold dgB
 rw[decide_eq_true(by omega),decide_eq_true(by omega)]
 rfl
theorem aC5 {n:Int}(h0:-1000≤n)(h1:n≤1000):IntKind.i32.wrap n=n:=by
 rw[IntKind.wrap_i32]
 omega
def dgF(s:ByteArray)(j:Nat):St:=dS s j(Nat.ble s.size j)(qI((bL s).take j))
theorem adp {s:ByteArray}(h9:s.size≤9)(hd:ZB(bL s)):bF Tryz.prog(.loop(au Tryz.f249 0))(dS s 0(Nat.ble s.size 0)0)(.exit 0)(dS s s.size true(qI(bL s))):=by
 have hlen:(bL s).length=s.size:=(abj s).symm
 refine aU(dgF s)s.size(.exit 0)_(by simp)(fun j hj=>?_) ?_
 ·have hm:=hd _(aiw(l:=bL s)(j:=j)(by omega))
  obtain⟨e1,e2⟩:=abr hj(by omega)
  have hv:=OT((bL s).take j)fun b hb=>hd b(List.mem_of_mem_take hb)
  have hl:=VT(n:=((bL s).take j).length)(by rw[List.length_take];omega)
  have hb:Nat.ble s.size j=false:=by
   cases h:Nat.ble s.size j
   ·rfl
   ·exact absurd(Nat.le_of_ble_eq_true h)(by omega)
  show bF _ _(dS s j(Nat.ble s.size j)(qI((bL s).take j)))_(dS s(j+1)(Nat.ble s.size(j+1))(qI((bL s).take(j+1))))
  rw[hb]
  refine aF(aT _ _)aB(ak aD av)aA((ayd s j _).trans ?_)
  rw[e1,e2]
  rw[ah(by have:=OV((((bL s).getD j 0).toNat:Nat):Int);rw[aC4 hm]at this;exact this),aC5(by omega)(by omega),aO(n:=10*_)(by omega)(by omega),aO(n:=_ - 48)(by omega)(by omega),aO(by omega)(by omega),ado(by omega),UN]
  rfl
 ·show bF _ _(dS s s.size(Nat.ble s.size s.size)(qI((bL s).take s.size)))_ _
  rw[Nat.ble_eq_true_of_le(Nat.le_refl _),show(bL s).take s.size=bL s by rw[←hlen];exact List.take_length]
  exact aF(bU _ _)aB av aA(atI s s.size _)
theorem aye(s:ByteArray)(most v:Int):ev Tryz.prog [] [](gu 4(fE [4,18] [some 0](dS s 0(Nat.ble s.size 0)0)(.exit 0)(dS s s.size true v)))Tryz.f249 [zA s,iA most]ret =
  cond(cond(decide((s.size:Int)<1))true(decide(most<(s.size:Int))))(some(Out.of(.aN [iA 0,bA false])))(gate(Sub(dS s 0(Nat.ble s.size 0)0)(dS s 0(Nat.ble s.size 0)0))(some(Out.of(.aN [iA v,bA true])))):=by kernel_rfl
theorem GN {s:ByteArray}{most:Int}(h1:1≤s.size)(h9:s.size≤9)(hm:(s.size:Int)≤most)(hd:ZB(bL s)):aj Tryz.prog 249 [zA s,iA most](.aN [iA(qI(bL s)),bA true]):=by
 refine aP aB av Tryz.aAp(by kernel_rfl)(by kernel_rfl)(kT(i:=4)1(by kernel_rfl)fun j hj _=>?_)rfl((aye s most(qI(bL s))).trans ?_)
 ·have:j=0:=by omega
  subst this
  exact aR(adp h9 hd)
 ·rw[decide_eq_false(by omega),decide_eq_false(by omega),ah(Sub.refl _)]
  rfl
end Go.Proofs.YtefphimaggjihaaGreatDoor.Pi
namespace Go.Proofs.YtefphimaggjihaaGreatDoor
open Go.Shelf
def Tryz.RI:Go.Shelf.Ren:=⟨fun | 217=>250 | 266=>253 |n=>n,fun | 3=>3 | 5=>5 | 9=>9 |n=>n,fun  |n=>n⟩
theorem Tryz.ai4:Go.Proofs.Lays.n217 Tryz.prog Tryz.RI:={
 mixed:=by kernel_rfl
 f217:=Tryz.Zy.trans(congrArg some(by kernel_rfl))
 f266:=Tryz.ai5.trans(congrArg some(by kernel_rfl))
 t3:=Tryz.pG
 a3:=Tryz.VQ
 z3:=Tryz.OP
 v3:=Tryz.Ci
 t5:=Tryz.underlying5
 a5:=Tryz.adC
 z5:=Tryz.Zz
 v5:=Tryz.Jg
 t9:=Tryz.underlying9
 a9:=Tryz.OQ
 z9:=Tryz.Ih
 v9:=Tryz.wY
}
end Go.Proofs.YtefphimaggjihaaGreatDoor
namespace Go.Proofs.YtefphimaggjihaaGreatDoor.Pi
open Go.Shelf Go.RowKit Go.Gv
def Runs(c:Code)(s:St)(e:Exit)(sf:St):Prop:=∃(S:Nat→St)(n:Nat),S 0=s∧(∀j,j<n→bF Tryz.prog c(S j) .normal(S(j+1)))∧bF Tryz.prog c(S n)e sf
theorem Runs.last {c:Code}{s sf:St}{e:Exit}(h:bF Tryz.prog c s e sf):Runs c s e sf:=⟨fun _=>s,0,rfl,fun j hj=>absurd hj(Nat.not_lt_zero j),h⟩
theorem Runs.cons {c:Code}{s s1 sf:St}{e:Exit}(h:bF Tryz.prog c s .normal s1)(g:Runs c s1 e sf):Runs c s e sf:=by
 obtain⟨S,n,h0,h1,h2⟩:=g
 refine⟨fun j=>match j with | 0=>s |j+1=>S j,n+1,rfl,fun j hj=>?_,h2⟩
 cases j with
 |zero=>show bF Tryz.prog c s .normal(S 0);rw[h0];exact h
 |succ j=>exact h1 j(by omega)
theorem Runs.loop {c:Code}{s sf:St}{e:Exit}(he:e≠.normal)(h:Runs c s e sf):bF Tryz.prog(.loop c)s e sf:=by
 obtain⟨S,n,rfl,h1,h2⟩:=h
 exact aU S n e sf he h1 h2
def mB:ByteArray:=⟨#[45]⟩
def pB:ByteArray:=⟨#[46]⟩
def eB:ByteArray:=⟨#[]⟩
section
variable(s:ByteArray)(most n1 n2:Int)(ix:Int)(b1 b2 neg pt:Bool)(r a b:ByteArray)(x y z:UInt8)(p:Nat)
def hpB:Bool:=cond(decide((1:Int)≤(s.size:Int)))((s.extract 0 1).toList==mB.toList)false
theorem auk:ev Tryz.prog [] []aM Tryz.f254 [zA s,zA mB]ret=cond(Bu none(some 1)none s.size||!(decide(decide((1:Int)≤(s.size:Int))=true)&&true))(some(Out.of(bA(hpB s))))none:=by kernel_rfl
theorem aul:ev Tryz.prog [] [kS Tryz.prog 254(fun _=>bA neg)]aM Tryz.f251 [zA s,zA mB]ret=gate(aj Tryz.prog 254 [zA s,zA mB](bA neg))(cond(!neg)(some(Out.of(.aN [zA s,bA false])))(cond(Bu(some 1)none none s.size||false)(some(Out.of(.aN [zA(s.extract 1 s.size),bA true])))none)):=by kernel_rfl
theorem aum:ev Tryz.prog [] [kS Tryz.prog 251(fun _=>.aN [zA r,bA neg])]aM Tryz.f246 [zA s,zA mB]ret=gate(aj Tryz.prog 251 [zA s,zA mB](.aN [zA r,bA neg]))(some(Out.of(.aN [zA r,bA neg]))):=by kernel_rfl
theorem auo:ev Tryz.prog [] [kS Tryz.prog 250(fun _=>iA ix)]aM Tryz.f255 [zA s,zA pB]ret=cond(pB.toList==s.toList)(some(Out.of(iA 0)))(gate(aj Tryz.prog 250 [zA s,.x(.int .u8 46)](iA ix))(some(Out.of(iA ix)))):=by kernel_rfl
theorem amQ:ev Tryz.prog [] [kS Tryz.prog 255(fun _=>iA ix)]aM Tryz.f252 [zA s,zA pB]ret=gate(aj Tryz.prog 255 [zA s,zA pB](iA ix))(cond(decide(0≤ix))(cond((Bu none(some ix)none s.size||false)&&((Bu(some(aI(ix+1)))none none s.size||false)&&true))(some(Out.of(.aN [zA(s.extract 0 ix.toNat),zA(s.extract(aI(ix+1)).toNat s.size),bA true])))none)(some(Out.of(.aN [zA s,zA eB,bA false])))):=by kernel_rfl
theorem aup:ev Tryz.prog [] [kS Tryz.prog 252(fun _=>.aN [zA a,zA b,bA pt])]aM Tryz.f247 [zA s,zA pB]ret=gate(aj Tryz.prog 252 [zA s,zA pB](.aN [zA a,zA b,bA pt]))(some(Out.of(.aN [zA a,zA b,bA pt]))):=by kernel_rfl
theorem auq:ev Tryz.prog [] [kS Tryz.prog 249(fun _=>.aN [iA n1,bA b1])]aM Tryz.f248 [zA s]ret=cond((decide((0:Int)≤0)&&decide((0:Int)<(s.size:Int)))||!(decide(decide((1:Int)<(s.size:Int))=true)&&true))(cond(cond(decide((1:Int)<(s.size:Int)))(sAt s 0==48)false)(some(Out.of(.aN [iA 0,bA false])))(gate(aj Tryz.prog 249 [zA s,iA 9](.aN [iA n1,bA b1]))(some(Out.of(.aN [iA n1,bA b1])))))none:=by kernel_rfl
noncomputable def nuK:List aV:=[kS Tryz.prog 246(fun _=>.aN [zA r,bA neg]),kS Tryz.prog 247(fun _=>.aN [zA a,zA b,bA pt]),kS Tryz.prog 248(fun _=>.aN [iA n1,bA true]),kS Tryz.prog 249(fun _=>.aN [iA n2,bA true])]
noncomputable def nuG(x:Option Out):Option Out:=gate(aj Tryz.prog 246 [zA s,zA mB](.aN [zA r,bA neg]))(gate(aj Tryz.prog 247 [zA r,zA pB](.aN [zA a,zA b,bA pt]))(gate(aj Tryz.prog 248 [zA a](.aN [iA n1,bA true]))x))
noncomputable def nuD(x:Option Out):Option Out:=gate(aj Tryz.prog 249 [zA b,iA 3](.aN [iA n2,bA true]))x
def ngO(n:Int):Option Out:=cond neg(some(Out.of(.aN [iA(aI(0 - n)),bA true])))(some(Out.of(.aN [iA n,bA true])))
theorem an9:ev Tryz.prog [](nuK n1 n2 neg false r a b)aM Tryz.f234 [zA s]ret=nuG s n1 neg false r a b(ngO neg(aI(n1*1000))):=by kernel_rfl
theorem aoa:ev Tryz.prog [](nuK n1 n2 neg true r a(lB [x,y,z]))aM Tryz.f234 [zA s]ret=nuG s n1 neg true r a(lB [x,y,z])(nuD n2(lB [x,y,z])(ngO neg(aI(aI(n1*1000)+n2)))):=by kernel_rfl
theorem aob:ev Tryz.prog [](nuK n1 n2 neg true r a(lB [x,y]))aM Tryz.f234 [zA s]ret=nuG s n1 neg true r a(lB [x,y])(nuD n2(lB [x,y])(ngO neg(aI(aI(n1*1000)+aI(n2*10))))):=by kernel_rfl
theorem aoc:ev Tryz.prog [](nuK n1 n2 neg true r a(lB [x]))aM Tryz.f234 [zA s]ret=nuG s n1 neg true r a(lB [x])(nuD n2(lB [x])(ngO neg(aI(aI(n1*1000)+aI(aI(n2*10)*10))))):=by kernel_rfl
theorem aod:ev Tryz.prog [](nuK n1 n2 false pt r a b)aM Tryz.f245 [zA s]ret=gate(aj Tryz.prog 246 [zA s,zA mB](.aN [zA r,bA false]))(gate(aj Tryz.prog 248 [zA r](.aN [iA n1,bA true]))(some(Out.of(.aN [iA n1,bA true])))):=by kernel_rfl
def nmS(p:Nat)(e:Bool)(n:Int):St:=mkS 31 [(3,iA n),(7,.own 0 0)] [.i s p e]
def nlB(c n:Int):Bool:=cond(!(ltB c))(cond(n==0)true(!(dgB c)))false
theorem aur(n:Int):gD Tryz.prog [] [kS Tryz.prog 115(gC ltB),kS Tryz.prog 116(gC dgB)]aM(au Tryz.f237 0)(nmS s p false n)(fu [3,7] [some 0])=gate(aj Tryz.prog 115 [cA(Dh s p)](bA(ltB(Dh s p))))(gate(aj Tryz.prog 116 [cA(Dh s p)](bA(dgB(Dh s p))))(cond(nlB(Dh s p)n)none(some⟨.normal,nmS s(yT s p)(Nat.ble s.size(yT s p))(aI(n+1)),.any⟩))):=by kernel_rfl
theorem aoe(n:Int):gD Tryz.prog [] []aM(au Tryz.f237 0)(nmS s p true n)(gM [3,7] [some 0])=some⟨.exit 0,nmS s p true n,.any⟩:=by kernel_rfl
theorem aus(n:Int)(q:Nat):ev Tryz.prog [] [](gu 3(fE [3,7] [some 0](nmS s 0(Nat.ble s.size 0)0)(.exit 0)(nmS s q true n)))Tryz.f237 [zA s]ret=gate(Sub(nmS s 0(Nat.ble s.size 0)0)(nmS s 0(Nat.ble s.size 0)0))(some(Out.of(bA(cond(decide(1≤n))(decide(n≤12))false)))):=by kernel_rfl
end
theorem aAD:bL mB=[45]:=rfl
theorem aAE:bL pB=[46]:=rfl
theorem ai6(s:ByteArray):aj Tryz.prog 254 [zA s,zA mB](bA(hpB s)):=by
 refine aP aB av Tryz.ayn(by kernel_rfl)(by kernel_rfl)aA rfl((auk s).trans ?_)
 have:(Bu none(some 1)none s.size||!(decide(decide((1:Int)≤(s.size:Int))=true)&&true))=true:=by
  by_cases h:(1:Int)≤(s.size:Int)
  ·unfold Bu
   simp[h]
  ·simp[h]
 rw[this]
 rfl
theorem abC {s r:ByteArray}{neg:Bool}(h:hpB s=neg)(h1:neg=true→1≤s.size∧s.extract 1 s.size=r)(h2:neg=false→r=s):aj Tryz.prog 246 [zA s,zA mB](.aN [zA r,bA neg]):=by
 have k1:aj Tryz.prog 251 [zA s,zA mB](.aN [zA r,bA neg]):=by
  refine aP aB(ak aD av)Tryz.ayo(by kernel_rfl)(by kernel_rfl)aA rfl((aul s neg).trans ?_)
  rw[ah(by rw[←h];exact ai6 s)]
  cases neg with
  |false=>rw[h2 rfl];rfl
  |true =>
   obtain⟨h3,h4⟩:=h1 rfl
   have:(Bu(some 1)none none s.size||false)=true:=by
    unfold Bu
    simp
    omega
   rw[this,h4]
   rfl
 exact aP aB(ak aD av)Tryz.ayp(by kernel_rfl)(by kernel_rfl)aA rfl((aum s neg r).trans(ah k1))
def sg(neg:Bool)(l:List UInt8):List UInt8:=if neg then 45::l else l
theorem adD {neg:Bool}{l:List UInt8}(h:l.head?≠some 45):aj Tryz.prog 246 [zA(lB(sg neg l)),zA mB](.aN [zA(lB l),bA neg]):=by
 refine abC ?_(fun e=>?_)fun e=>by rw[e];rfl
 ·unfold hpB
  rw[sEq,oJ,jr,aAD,aY]
  cases neg with
  |true=>simp[sg];omega
  |false =>
   cases l with
   |nil=>simp[sg]
   |cons x r =>
    have hx:x≠45:=fun e=>h(by rw[e];rfl)
    simp[sg,hx]
 ·rw[e]
  refine⟨by rw[aY];simp[sg],?_⟩
  rw[←GJ((lB(sg true l)).extract 1 _),oJ,jr,aY]
  simp[sg]
theorem ZA:∀{l:List UInt8}{c:UInt8},c ∉ l→Lib.indexByte l c=-1
 | [],_,_=>rfl
 |b::l,c,h=>by
  have hb:(b==c)=false:=by
   rw[beq_eq_false_iff_ne]
   intro e
   exact h(by rw[e];simp)
  unfold Lib.indexByte
  rw[hb,ZA(l:=l)fun hc=>h(by simp[hc])]
  rfl
theorem amR:∀{a:List UInt8}{b:List UInt8}{c:UInt8},c ∉ a→Lib.indexByte(a++c::b)c=(a.length:Int)
 | [],b,c,_=>by unfold Lib.indexByte;simp
 |x::a,b,c,h=>by
  have hb:(x==c)=false:=by
   rw[beq_eq_false_iff_ne]
   intro e
   exact h(by rw[e];simp)
  have ih:=amR(a:=a)(b:=b)(c:=c)fun hc=>h(by simp[hc])
  show Lib.indexByte(x::(a++c::b))c=_
  unfold Lib.indexByte
  rw[hb,ih]
  have:((a.length:Int)==-1)=false:=by rw[beq_eq_false_iff_ne];omega
  rw[this]
  simp
theorem adE(s:ByteArray):aj Tryz.prog 250 [zA s,.x(.int .u8 46)](iA(Lib.indexByte(bL s)46)) :=
 GL Tryz.Zy(by kernel_rfl)(by kernel_rfl) [.string s,.int .u8 46](v:=.int .i64(Lib.indexByte(bL s)46))(fun E=>bI.2 rfl)fun w=>(Any.stringslite_IndexByte Tryz.ai4 s 46 w).mono fun e w'⟨h1,h2⟩=>⟨h1,by rw[h2];exact Below.refl _ _⟩
theorem index_spec {s:ByteArray}(h:bL s≠[46]):aj Tryz.prog 255 [zA s,zA pB](iA(Lib.indexByte(bL s)46)):=by
 refine aP aB(ak aD av)Tryz.ayq(by kernel_rfl)(by kernel_rfl)aA rfl((auo s(Lib.indexByte(bL s)46)).trans ?_)
 rw[sEq,aAE,decide_eq_false(fun e=>h e.symm),ah(adE s)]
 rfl
theorem adF {s a b:ByteArray}{pt:Bool}(h:aj Tryz.prog 252 [zA s,zA pB](.aN [zA a,zA b,bA pt])):aj Tryz.prog 247 [zA s,zA pB](.aN [zA a,zA b,bA pt]) :=
 aP aB(ak aD av)Tryz.ayr(by kernel_rfl)(by kernel_rfl)aA rfl((aup s pt a b).trans(ah h))
theorem aof {l:List UInt8}(h:(46:UInt8) ∉ l):aj Tryz.prog 247 [zA(lB l),zA pB](.aN [zA(lB l),zA eB,bA false]):=by
 refine adF(aP aB(ak aD av)Tryz.ai7(by kernel_rfl)(by kernel_rfl)aA rfl((amQ(lB l)(-1)).trans ?_))
 rw[ah(by have:=index_spec(s:=lB l)(by rw[jr];rintro rfl;exact h(by simp));rw[jr,ZA h]at this;exact this)]
 rfl
theorem VR {a b:List UInt8}(h0:a≠[])(h:(46:UInt8) ∉ a)(hl:a.length+b.length<1000):aj Tryz.prog 247 [zA(lB(a++46::b)),zA pB](.aN [zA(lB a),zA(lB b),bA true]):=by
 refine adF(aP aB(ak aD av)Tryz.ai7(by kernel_rfl)(by kernel_rfl)aA rfl((amQ(lB(a++46::b))(a.length:Nat)).trans ?_))
 have hne:a++46::b≠[46]:=fun e=>by
  have:=congrArg List.length e
  have:=List.length_pos_iff.2 h0
  simp at *
  omega
 rw[ah(by have:=index_spec(s:=lB(a++46::b))(by rw[jr];exact hne);rw[jr,amR h]at this;exact this),decide_eq_true(by omega),aO(by omega)(by omega)]
 have hsz:(lB(a++46::b)).size=a.length+1+b.length:=by rw[aY,List.length_append,List.length_cons];omega
 have c1:Bu none(some((a.length:Nat):Int))none(lB(a++46::b)).size=true:=by
  rw[hsz]
  unfold Bu
  simp
  omega
 have c2:Bu(some(((a.length:Nat):Int)+1))none none(lB(a++46::b)).size=true:=by
  rw[hsz]
  unfold Bu
  simp
  omega
 have e1:(lB(a++46::b)).extract 0((a.length:Nat):Int).toNat=lB a:=by
  rw[←GJ((lB(a++46::b)).extract 0 _),oJ,jr]
  simp
 have e2:(lB(a++46::b)).extract(((a.length:Nat):Int)+1).toNat(lB(a++46::b)).size=lB b:=by
  rw[←GJ((lB(a++46::b)).extract _ _),oJ,jr,hsz,show(((a.length:Nat):Int)+1).toNat=a.length+1 by omega,List.take_of_length_le(by simp;omega),List.drop_append,List.drop_eq_nil_of_le(by omega)]
  simp
 rw[c1,c2,e1,e2]
 rfl
structure Pln(l:List UInt8):Prop where
 n:1≤l.length
 m:l.length≤9
 d:ZB l
 z:1<l.length→l.head?≠some 48
theorem Jh {l:List UInt8}(h:Pln l):aj Tryz.prog 248 [zA(lB l)](.aN [iA(qI l),bA true]):=by
 have hsz:=aY l
 have hn:=h.n
 have hm:=h.m
 refine aP aB(ak aD av)Tryz.ays(by kernel_rfl)(by kernel_rfl)aA rfl((auq(lB l)(qI l)true).trans ?_)
 rw[ah(by have:=GN(s:=lB l)(most:=9)(by omega)(by omega)(by omega)(by rw[jr];exact h.d);rw[jr]at this;exact this)]
 have c1:((decide((0:Int)≤0)&&decide((0:Int)<((lB l).size:Int)))||!(decide(decide((1:Int)<((lB l).size:Int))=true)&&true))=true:=by
  rw[decide_eq_true(show(0:Int)<((lB l).size:Int)by omega)]
  rfl
 have c2:(cond(decide((1:Int)<((lB l).size:Int)))(sAt(lB l)0==48)false)=false:=by
  by_cases h1:1<l.length
  ·rw[decide_eq_true(by omega),cond_true,aog,jr]
   have hz:=h.z h1
   cases l with
   |nil=>simp at h1
   |cons x r =>
    have hx:x≠48:=fun e=>hz(by rw[e];rfl)
    rw[beq_eq_false_iff_ne]
    intro e
    refine hx(UInt8.toNat_inj.1 ?_)
    simp at e
    show x.toNat=48
    omega
  ·rw[decide_eq_false(by omega)]
   rfl
 rw[c1,c2]
 rfl
theorem Ji {l:List UInt8}(h:ZB l) {c:UInt8}(hc:c.toNat<48):c ∉ l:=fun hm=>by
 have:=h c hm
 omega
theorem Jj {l:List UInt8}(h:ZB l):l.head?≠some 45:=fun e=>Ji h(c:=45)(by decide)(List.mem_of_mem_head? e)
def adG(neg:Bool)(a b:List UInt8):List UInt8:=sg neg(a++(if b=[]then []else 46::b))
def adH(neg:Bool)(a b:List UInt8):Int:=(if neg then -1 else 1)*(qI a*1000+qI b*(if b.length=1 then 100 else if b.length=2 then 10 else 1))
theorem RJ {neg:Bool}{a b:List UInt8}(ha:Pln a)(hb:ZB b)(hl:b.length≤3):aj Tryz.prog 234 [zA(lB(adG neg a b))](.aN [iA(adH neg a b),bA true]):=by
 have hn:=ha.n
 have hm:=ha.m
 have va:=OT a ha.d
 have vb:=OT b hb
 have ta:=VT hm
 have tb:=VT(n:=b.length)(by omega)
 have hne:a≠[]:=fun e=>by rw[e]at hn;simp at hn
 have hpl:=Jh ha
 have hh:∀r,(a++r).head?≠some 45:=fun r=>by
  cases a with
  |nil=>exact absurd rfl hne
  |cons x t=>exact Jj(l:=x::t)ha.d
 have fin:∀n:Int,0≤n→n<10000000000000→ngO neg n=some(Out.of(.aN [iA((if neg then -1 else 1)*n),bA true])):=fun n h0 h1=>by
  unfold ngO
  cases neg
  ·simp
  ·rw[aO(by omega)(by omega)]
   simp
 have dig:1≤b.length→aj Tryz.prog 249 [zA(lB b),iA 3](.aN [iA(qI b),bA true]):=fun h1=>by
  have:=GN(s:=lB b)(most:=3)(by rw[aY];omega)(by rw[aY];omega)(by rw[aY];omega)(by rw[jr];exact hb)
  rw[jr]at this
  exact this
 have kk:∀{n1 n2:Int}{pt:Bool}{r a b:ByteArray},∀e,e∈nuK n1 n2 neg pt r a b→tX Tryz.prog e:=ak aD(ak aD(ak aD(ak aD av)))
 have hv:∀k:Int,1≤k→k≤100→0≤qI a*1000+qI b*k∧qI a*1000+qI b*k<10000000000000:=fun k k0 k1=>by
  have h1:qI b*k≤qI b*100:=Int.mul_le_mul_of_nonneg_left k1 vb.1
  have h2:0≤qI b*k:=Int.mul_nonneg vb.1(by omega)
  omega
 unfold adG adH
 rcases b with _ | ⟨x,_ | ⟨y,_ | ⟨z,_ | ⟨w,r⟩⟩⟩⟩
 ·rw[if_pos rfl,List.append_nil]
  refine aP aB kk Tryz.OU(by kernel_rfl)(by kernel_rfl)aA rfl((an9(lB(sg neg a))(qI a)0 neg(lB a)(lB a)eB).trans ?_)
  unfold nuG
  have h0:=hv 1(by decide)(by decide)
  rw[ah(adD(Jj ha.d)),ah(aof(Ji ha.d(by decide))),ah hpl,aO(by omega)(by omega),fin _(by omega)(by omega)]
  simp[qI]
 ·rw[if_neg(by simp)]
  refine aP aB kk Tryz.OU(by kernel_rfl)(by kernel_rfl)aA rfl((aoc(lB(sg neg(a++46::[x])))(qI a)(qI [x])neg(lB(a++46::[x]))(lB a)x).trans ?_)
  unfold nuG nuD
  have h0:=hv 100(by decide)(by decide)
  rw[ah(adD(hh _)),ah(VR hne(Ji ha.d(by decide))(by simp;omega)),ah hpl,ah(dig(by simp)),aO(n:=qI a*1000)(by omega)(by omega),aO(n:=qI [x]*10)(by omega)(by omega),aO(n:=qI [x]*10*10)(by omega)(by omega),aO(by omega)(by omega),Int.mul_assoc,show(10:Int)*10=100 from rfl,fin _(by omega)(by omega)]
  simp
 ·rw[if_neg(by simp)]
  refine aP aB kk Tryz.OU(by kernel_rfl)(by kernel_rfl)aA rfl((aob(lB(sg neg(a++46::[x,y])))(qI a)(qI [x,y])neg(lB(a++46::[x,y]))(lB a)x y).trans ?_)
  unfold nuG nuD
  have h0:=hv 10(by decide)(by decide)
  rw[ah(adD(hh _)),ah(VR hne(Ji ha.d(by decide))(by simp;omega)),ah hpl,ah(dig(by simp)),aO(n:=qI a*1000)(by omega)(by omega),aO(n:=qI [x,y]*10)(by omega)(by omega),aO(by omega)(by omega),fin _(by omega)(by omega)]
  simp
 ·rw[if_neg(by simp)]
  refine aP aB kk Tryz.OU(by kernel_rfl)(by kernel_rfl)aA rfl((aoa(lB(sg neg(a++46::[x,y,z])))(qI a)(qI [x,y,z])neg(lB(a++46::[x,y,z]))(lB a)x y z).trans ?_)
  unfold nuG nuD
  have h0:=hv 1(by decide)(by decide)
  rw[ah(adD(hh _)),ah(VR hne(Ji ha.d(by decide))(by simp;omega)),ah hpl,ah(dig(by simp)),aO(n:=qI a*1000)(by omega)(by omega),aO(by omega)(by omega),fin _(by omega)(by omega)]
  simp
 ·simp at hl
theorem VU {a:List UInt8}(ha:Pln a):aj Tryz.prog 245 [zA(lB a)](.aN [iA(qI a),bA true]):=by
 refine aP aB(ak aD(ak aD(ak aD(ak aD av))))Tryz.ayt(by kernel_rfl)(by kernel_rfl)aA rfl((aod(lB a)(qI a)0 false(lB a)(lB a)(lB a)).trans ?_)
 rw[ah(by have:=adD(neg:=false)(Jj ha.d);exact this),ah(Jh ha)]
def Nms(s:ByteArray):Nat→Nat→Nat→Prop
 |p,_,0=>s.size≤p
 |p,n,k+1=>p<s.size∧nlB(Dh s p)(n:Nat)=false∧Nms s(yT s p)(n+1)k
theorem Fv {a b:Nat}(h:b<a):Nat.ble a b=false:=by
 cases e:Nat.ble a b
 ·rfl
 ·exact absurd(Nat.le_of_ble_eq_true e)(by omega)
theorem ZC {s:ByteArray}:∀(k p n:Nat),n+k≤100→Nms s p n k→∃q,Runs(au Tryz.f237 0)(nmS s p(Nat.ble s.size p)(n:Nat))(.exit 0)(nmS s q true((n+k:Nat):Int))
 | 0,p,n,_,h=>by
  rw[Nat.ble_eq_true_of_le h]
  exact⟨p,Runs.last(aF(bU _ _)aB av aA(aoe s p _))⟩
 |k+1,p,n,hk,⟨h1,h2,h3⟩=>by
  rw[Fv h1]
  obtain⟨q,hq⟩:=ZC k(yT s p)(n+1)(by omega)h3
  refine⟨q,Runs.cons(s1:=nmS s(yT s p)(Nat.ble s.size(yT s p))((n+1:Nat):Int)) ?_(by rw[show n+(k+1)=n+1+k by omega];exact hq)⟩
  refine aF(aT _ _)aB(ak aD(ak aD av))aA((aur s p(n:Nat)).trans ?_)
  rw[ah(ZE _),ah(OV _),h2,bD(by omega)]
  rfl
theorem abD {s:ByteArray}{k:Nat}(h1:1≤k)(h2:k≤12)(h:Nms s 0 0 k):aj Tryz.prog 237 [zA s](bA true):=by
 obtain⟨q,hq⟩:=ZC k 0 0(by omega)h
 rw[Nat.zero_add]at hq
 refine aP aB av Tryz.ayu(by kernel_rfl)(by kernel_rfl)(kT(i:=3)1(by kernel_rfl)fun j hj _=>?_)rfl((aus s(k:Nat)q).trans ?_)
 ·have:j=0:=by omega
  subst this
  exact aR(hq.loop(by simp))
 ·rw[ah(Sub.refl _),decide_eq_true(by omega),decide_eq_true(by omega)]
  rfl
def tkR(m:Nat)(T:Nat→ByteArray):Row:=.a 9 1 m fun q=>[zA(T q)]
def Ny(s:ByteArray)(p:Nat)(e:Bool)(m:Nat)(T:Nat→ByteArray)(fr:Int):St:=mkS 44 [(0,zA s),(3,.fJ 1 1 0 m),(4,iA fr),(8,.own 0 0)] [.i s p e,tkR m T]
def FW:List Nat:=[0,3,4,8]
noncomputable def tkK(iw bt:Bool):List aV:=[kS Tryz.prog 70(fun _=>bA iw),kS Tryz.prog 71(fun _=>bA bt)]
noncomputable def gIw(c:Int)(b:Bool)(x:Option Out):Option Out:=gate(aj Tryz.prog 70 [cA c](bA b))x
noncomputable def gBt(c:Int)(b:Bool)(x:Option Out):Option Out:=gate(aj Tryz.prog 71 [cA c](bA b))x
section
variable(s:ByteArray)(p m:Nat)(T:Nat→ByteArray)(fr:Int)
theorem avr:gD Tryz.prog [](tkK true false)aM(au Tryz.f25 0)(Ny s p false m T fr)(fu FW [some 0,some 1])=gIw(Dh s p)true(cond(decide(fr<0))(some⟨.normal,Ny s(yT s p)(Nat.ble s.size(yT s p))m T(p:Nat),.any⟩)(some⟨.normal,Ny s(yT s p)(Nat.ble s.size(yT s p))m T fr,.any⟩)):=by kernel_rfl
theorem aA6:gD Tryz.prog [](tkK false true)aM(au Tryz.f25 0)(Ny s p false m T(-1))(fu FW [some 0,some 1])=gIw(Dh s p)false(gBt(Dh s p)true(some⟨.normal,Ny s(yT s p)(Nat.ble s.size(yT s p))m T(-1),.any⟩)):=by kernel_rfl
theorem ao7:gD Tryz.prog [] []aM(au Tryz.f25 0)(Ny s p true m T fr)(gM FW [some 0,some 1])=some⟨.exit 0,Ny s p true m T fr,.any⟩:=by kernel_rfl
theorem aA7:gD Tryz.prog [](tkK false false)aM(au Tryz.f25 0)(Ny s p false m T(-1))(fu FW [some 0,some 3])=gIw(Dh s p)false(gBt(Dh s p)false(cond(Nz m 16||false)(some⟨.normal,mkS 44 [(0,zA s),(3,.fJ 1 1 0(m+1)),(4,iA(-1)),(8,.own 0 0)] [.i s(yT s p)(Nat.ble s.size(yT s p)),.a 9 1(m+1)fun q=>dn(Nat.blt q m) [zA(T q)](spread m [[zA(Utf8.encode(Dh s p))]]q)],.any⟩)none)):=by kernel_rfl
theorem aA8(f:Nat):gD Tryz.prog [](tkK false true)aM(au Tryz.f25 0)(Ny s p false m T(f:Nat))(fu FW [some 0,some 3])=gIw(Dh s p)false(cond(decide(0≤(f:Int)))(cond(Bu(some(f:Int))(some(p:Int))none s.size||false)(cond(Nz m 16||false)(gBt(Dh s p)true(some⟨.normal,mkS 44 [(0,zA s),(3,.fJ 1 1 0(m+1)),(4,iA(-1)),(8,.own 0 0)] [.i s(yT s p)(Nat.ble s.size(yT s p)),.a 9 1(m+1)fun q=>dn(Nat.blt q m) [zA(T q)](spread m [[zA(s.extract f p)]]q)],.any⟩))none)none)(gBt(Dh s p)true none)):=by kernel_rfl
theorem avs(T0:Nat→ByteArray):ev Tryz.prog [] [](gu 4(G8 FW [(3,1,1)](tkR 0 T0) [some 0,none](Ny s 0(Nat.ble s.size 0)0 T0(-1))(.exit 0)(Ny s p true m T(-1))))Tryz.f25 [zA s]ret=gate(Sub(Ny s 0(Nat.ble s.size 0)0 T0(-1))(Ny s 0(Nat.ble s.size 0)0 T0(-1)))(some(Out.of(.sl 1 m fun q=>[zA(T(0+q))]))):=by kernel_rfl
end
theorem afd {m:Nat}{T:Nat→ByteArray}{x:ByteArray}{q:Nat}(hq:q<m+1):[zA(if q<m then T q else if q=m then x else T q)]=dn(Nat.blt q m) [zA(T q)](spread m [[zA x]]q):=by
 by_cases h:q<m
 ·rw[show Nat.blt q m=true from Nat.ble_eq_true_of_le h,if_pos h]
  rfl
 ·have h2:q=m:=by omega
  have:Nat.blt q m=false:=by
   cases hb:Nat.blt q m
   ·rfl
   ·exact absurd(Nat.le_of_ble_eq_true hb)(by omega)
  rw[this,if_neg h,if_pos h2]
  unfold spread
  rfl
inductive Tx where
 |w(b:List UInt8)
 |g(c:UInt8)
def Wrd(s:ByteArray):Nat→Nat→Nat→Prop
 |p,0,q=>p=q
 |p,k+1,q=>p<s.size∧iwB(Dh s p)=true∧Wrd s(yT s p)k q
def Gap(s:ByteArray)(p:Nat):Prop:=p<s.size∧iwB(Dh s p)=false∧btB(Dh s p)=true
def Pun(s:ByteArray)(p:Nat):Prop:=p<s.size∧iwB(Dh s p)=false∧btB(Dh s p)=false
inductive Cut(s:ByteArray):Nat→List ByteArray→Prop where
 |fin {p:Nat}(h:s.size≤p):Cut s p []
 |gap {p:Nat}{l:List ByteArray}(h:Gap s p)(r:Cut s(yT s p)l):Cut s p l
 |pun {p:Nat}{l:List ByteArray}(h:Pun s p)(r:Cut s(yT s p)l):Cut s p(Utf8.encode(Dh s p)::l)
 |wrd {p k q:Nat}{l:List ByteArray}(h:Wrd s p(k+1)q)(hp:p≤q)(hq:Gap s q)(r:Cut s(yT s q)l):Cut s p(s.extract p q::l)
def upT(m:Nat)(T:Nat→ByteArray)(x:ByteArray):Nat→ByteArray:=fun q=>if q<m then T q else if q=m then x else T q
theorem up_sub {s:ByteArray}{p m:Nat}{e:Bool}{T:Nat→ByteArray}{x:ByteArray}:Sub(mkS 44 [(0,zA s),(3,.fJ 1 1 0(m+1)),(4,iA(-1)),(8,.own 0 0)] [.i s p e,.a 9 1(m+1)fun q=>dn(Nat.blt q m) [zA(T q)](spread m [[zA x]]q)])(Ny s p e(m+1)(upT m T x)(-1)) :=
 zL⟨Or.inl rfl,Or.inr⟨_,_,_,_,_,rfl,rfl,fun _ hi=>afd hi⟩,trivial⟩
theorem Tv {s:ByteArray}{m:Nat}{T:Nat→ByteArray}{f q:Nat}{sf:St}:∀(k p:Nat),Wrd s p k q→Runs(au Tryz.f25 0)(Ny s q(Nat.ble s.size q)m T(f:Nat))(.exit 0)sf→Runs(au Tryz.f25 0)(Ny s p(Nat.ble s.size p)m T(f:Nat))(.exit 0)sf
 | 0,p,h,g=>by
  have h:p=q:=h
  subst h
  exact g
 |k+1,p,⟨h1,h2,h3⟩,g=>by
  refine Runs.cons(s1:=Ny s(yT s p)(Nat.ble s.size(yT s p))m T(f:Nat)) ?_(Tv k(yT s p)h3 g)
  rw[Fv h1]
  refine aF(aT _ _)aB(ak aD(ak aD av))aA((avr s p m T(f:Nat)).trans ?_)
  unfold gIw
  rw[ah(by rw[←h2];exact En _),decide_eq_false(by omega)]
  rfl
theorem afe {s:ByteArray}{l:List ByteArray}{p:Nat}(h:Cut s p l):∀(m:Nat)(T:Nat→ByteArray),m+l.length≤1000000→∃q T',(∀i,i<m→T' i=T i)∧(∀i,i<l.length→T'(m+i)=l.getD i eB)∧Runs(au Tryz.f25 0)(Ny s p(Nat.ble s.size p)m T(-1))(.exit 0)(Ny s q true(m+l.length)T'(-1)):=by
 induction h with
 | @fin p h =>
  intro m T _
  rw[Nat.ble_eq_true_of_le h]
  exact⟨p,T,fun _ _=>rfl,fun i hi=>absurd hi(Nat.not_lt_zero i),Runs.last(aF(bU _ _)aB av aA(ao7 s p m T(-1)))⟩
 | @gap p l h r ih =>
  intro m T hm
  obtain⟨q,T',h1,h2,h3⟩:=ih m T hm
  refine⟨q,T',h1,h2,Runs.cons ?_ h3⟩
  rw[Fv h.1]
  refine aF(aT _ _)aB(ak aD(ak aD av))aA((aA6 s p m T).trans ?_)
  unfold gIw gBt
  rw[ah(by rw[←h.2.1];exact En _),ah(by rw[←h.2.2];exact PU _)]
 | @pun p l h r ih =>
  intro m T hm
  rw[List.length_cons]at hm
  obtain⟨q,T',h1,h2,h3⟩:=ih(m+1)(upT m T(Utf8.encode(Dh s p)))(by omega)
  refine⟨q,T',fun i hi=>?_,fun i hi=>?_,Runs.cons ?_(by rw[List.length_cons,show m+(l.length+1)=m+1+l.length by omega];exact h3)⟩
  ·rw[h1 i(by omega)];unfold upT;rw[if_pos hi]
  ·cases i with
   |zero=>rw[Nat.add_zero,h1 m(by omega)];unfold upT;rw[if_neg(by omega),if_pos rfl,List.getD_cons_zero]
   |succ i=>rw[List.length_cons]at hi;rw[show m+(i+1)=m+1+i by omega,h2 i(by omega),List.getD_cons_succ]
  ·rw[Fv h.1]
   refine bF.sub(aF(aT _ _)aB(ak aD(ak aD av))aA((aA7 s p m T).trans ?_))(Sub.refl _)up_sub
   unfold gIw gBt
   rw[ah(by rw[←h.2.1];exact En _),ah(by rw[←h.2.2];exact PU _),qD(by omega)]
   rfl
 | @wrd p k q l h hp hq r ih =>
  intro m T hm
  rw[List.length_cons]at hm
  obtain⟨q',T',h1,h2,h3⟩:=ih(m+1)(upT m T(s.extract p q))(by omega)
  obtain⟨w1,w2,w3⟩:=h
  refine⟨q',T',fun i hi=>?_,fun i hi=>?_,?_⟩
  ·rw[h1 i(by omega)];unfold upT;rw[if_pos hi]
  ·cases i with
   |zero=>rw[Nat.add_zero,h1 m(by omega)];unfold upT;rw[if_neg(by omega),if_pos rfl,List.getD_cons_zero]
   |succ i=>rw[List.length_cons]at hi;rw[show m+(i+1)=m+1+i by omega,h2 i(by omega),List.getD_cons_succ]
  ·rw[List.length_cons,show m+(l.length+1)=m+1+l.length by omega]
   refine Runs.cons(s1:=Ny s(yT s p)(Nat.ble s.size(yT s p))m T(p:Nat)) ?_(Tv k(yT s p)w3(Runs.cons ?_ h3))
   ·rw[Fv w1]
    refine aF(aT _ _)aB(ak aD(ak aD av))aA((avr s p m T(-1)).trans ?_)
    unfold gIw
    rw[ah(by rw[←w2];exact En _)]
    rfl
   ·rw[Fv hq.1]
    have hq1:=hq.1
    refine bF.sub(aF(aT _ _)aB(ak aD(ak aD av))aA((aA8 s q m T p).trans ?_))(Sub.refl _)up_sub
    unfold gIw gBt
    have hs:Bu(some(p:Int))(some(q:Int))none s.size=true:=by
     unfold Bu
     simp
     omega
    rw[ah(by rw[←hq.2.1];exact En _),ah(by rw[←hq.2.2];exact PU _),qD(by omega),decide_eq_true(by omega),hs]
    rfl
theorem Si {s:ByteArray}{l:List ByteArray}(h:Cut s 0 l)(hl:l.length≤1000000):aj Tryz.prog 25 [zA s](.sl 1 l.length fun q=>[zA(l.getD q eB)]):=by
 obtain⟨q,T',_,h2,h3⟩:=afe h 0(fun _=>eB)(by omega)
 rw[Nat.zero_add]at h3
 have k:aj Tryz.prog 25 [zA s](.sl 1 l.length fun q=>[zA(T'(0+q))]):=by
  refine aP aB av Tryz.func25(by kernel_rfl)(by kernel_rfl)(kT(i:=4)1(by kernel_rfl)fun j hj _=>?_)rfl((avs s q l.length T'(fun _=>eB)).trans(ah(Sub.refl _)))
  have:j=0:=by omega
  subst this
  exact Tw(h3.loop(by simp))
 exact aj.ad7 k fun E u hu=>El hu fun i hi=>by rw[h2 i hi]
end Go.Proofs.YtefphimaggjihaaGreatDoor.Pi
namespace Go.Gv
open Go.RowKit Go.Ev
noncomputable section
def hol:List(Option AV)→(Nat→AV)→Nat→List AV
 | [],_,_=>[]
 |some a::l,o,q=>a::hol l o(q+1)
 |none::l,o,q=>o q::hol l o(q+1)
theorem A8:∀(l:List(Option AV)) {o o':Nat→AV}(q:Nat),(∀k,q≤k→o k=o' k)→hol l o q=hol l o' q
 | [],_,_,_,_=>rfl
 |some a::l,o,o',q,h=>by
  show a::_=a::_
  rw[A8 l(q+1)fun k hk=>h k(by omega)]
 |none::l,o,o',q,h=>by
  show o q::_=o' q::_
  rw[h q(Nat.le_refl _),A8 l(q+1)fun k hk=>h k(by omega)]
def holes:List(Option AV)→Nat→List Nat
 | [],_=>[]
 |some _::l,q=>holes l(q+1)
 |none::l,q=>q::holes l(q+1)
theorem EN:∀(l:List(Option AV))(q k:Nat),k∈holes l q→q≤k
 | [],_,_,h=>by cases h
 |some _::l,q,k,h=>by have:=EN l(q+1)k h;omega
 |none::l,q,k,h=>by
  rcases List.mem_cons.1 h with rfl |h
  ·exact Nat.le_refl _
  ·have:=EN l(q+1)k h;omega
theorem Ew {E:Env}:∀(l:List(Option AV)) {o:Nat→AV}(q:Nat) {us:List Value},pre E(hol l o q)us→pre E(hol l(fun k=>.x(us.getD(k - q)undef))q)us∧∀k,k∈holes l q→rel E(o k)(us.getD(k - q)undef)
 | [],_,_,_,_=>⟨pre_nil,fun _ h=>by cases h⟩
 |some a::l,o,q,us,h=>by
  obtain⟨u,us',rfl,h1,h2⟩:=bE.1 h
  obtain⟨h3,h4⟩:=Ew l(q+1)h2
  have e:∀k,q+1≤k→(u::us').getD(k - q)undef=us'.getD(k - (q+1))undef:=fun k hk=>by
   rw[show k - q=(k - (q+1))+1 by omega];rfl
  refine⟨bE.2⟨u,us',rfl,h1,?_⟩,fun k hk=>?_⟩
  ·rw[A8 l(o':=fun k=>.x(us'.getD(k - (q+1))undef))(q+1)fun k hk=>by rw[e k hk]]
   exact h3
  ·rw[e k(EN l(q+1)k hk)]
   exact h4 k hk
 |none::l,o,q,us,h=>by
  obtain⟨u,us',rfl,h1,h2⟩:=bE.1 h
  obtain⟨h3,h4⟩:=Ew l(q+1)h2
  have e:∀k,q+1≤k→(u::us').getD(k - q)undef=us'.getD(k - (q+1))undef:=fun k hk=>by
   rw[show k - q=(k - (q+1))+1 by omega];rfl
  have e0:(u::us').getD(q - q)undef=u:=by rw[Nat.sub_self];rfl
  refine⟨bE.2⟨u,us',rfl,bI.2 e0.symm,?_⟩,fun k hk=>?_⟩
  ·rw[A8 l(o':=fun k=>.x(us'.getD(k - (q+1))undef))(q+1)fun k hk=>by rw[e k hk]]
   exact h3
  ·rcases List.mem_cons.1 hk with rfl |hk
   ·rw[e0];exact h1
   ·rw[e k(EN l(q+1)k hk)]
    exact h4 k hk
theorem Ey {E:Env}{o:Nat→AV}{v:Nat→Value}:∀(l:List(Option AV))(q:Nat) {us:List Value},(∀k,k∈holes l q→rel E(o k)(v k))→pre E(hol l(fun k=>.x(v k))q)us→pre E(hol l o q)us
 | [],_,_,_,_=>pre_nil
 |some a::l,q,us,hv,h=>by
  obtain⟨u,us',rfl,h1,h2⟩:=bE.1 h
  exact bE.2⟨u,us',rfl,h1,Ey l(q+1)hv h2⟩
 |none::l,q,us,hv,h=>by
  obtain⟨u,us',rfl,h1,h2⟩:=bE.1 h
  refine bE.2⟨u,us',rfl,?_,Ey l(q+1)(fun k hk=>hv k(List.mem_cons_of_mem _ hk))h2⟩
  rw[bI.1 h1]
  exact hv q(by simp[holes])
theorem I5 {v:Nat→Value}{σ:Nat→Option Nat}:∀(l:List(Option AV))(q:Nat),(∀a,some a∈l→jw σ a=a)→gP σ(hol l(fun k=>.x(v k))q)=hol l(fun k=>.x(v k))q
 | [],_,_=>by unfold hol;rw[gP]
 |some a::l,q,h=>by
  show gP σ(a::_)=a::_
  rw[gP,h a(by simp),I5 l(q+1)fun a ha=>h a(by simp[ha])]
 |none::l,q,h=>by
  show gP σ(.x(v q)::_)=.x(v q)::_
  rw[gP,jw,I5 l(q+1)fun a ha=>h a(by simp[ha])]
theorem amU {P:Program}{f:Nat}{args:List AV}{r:AV}{l l':List(Option AV)}{o:Nat→AV}{rest:List Row}(hh:holes l' 0=holes l 0)(hl:∀ σ a,some a∈l→jw σ a=a)(hl':∀ σ a,some a∈l'→jw σ a=a)(ha:gP(oK [0])args=args)(hr:∀ σ,jw σ r=r)
  (h:∀v:Nat→Value,cu P f(.own 0 0::args) [.c(hol l(fun q=>.x(v q))0)]r [.c(hol l'(fun q=>.x(v q))0)]):bP P f(.own 0 0::args)(.c(hol l o 0)::rest)r(.c(hol l' o 0)::rest):=by
 refine⟨(h fun _=>undef).1,fun A0 R w0 E aZ hW hg hrel=>?_⟩
 obtain⟨u0,us0,e0,k1,_⟩:=aH.1 hrel
 obtain⟨b,c,hO,_⟩:=jh.1 k1
 obtain⟨row,k2,k3⟩:=hW.rows 0 b c hO
 cases k2
 obtain⟨cs,ty,k4,k5⟩:=k3
 obtain⟨k6,k7⟩:=Ew l 0 k5
 let v:Nat→Value:=fun k=>cs.toList.getD(k - 0)undef
 have hlive:∀(x y:List AV)(k:Nat),aK(.c x::rest)k=aK(.c y::rest)k:=fun x y k=>by cases k<;>rfl
 have hw1:bP P f(.own 0 0::args)(.c(hol l(fun q=>.x(v q))0)::rest)r(.c(hol l'(fun q=>.x(v q))0)::rest):=by
  have hw:=xM(args:=.own 0 0::args)(mem:=.c(hol l(fun q=>.x(v q))0)::rest)(mem':=.c(hol l'(fun q=>.x(v q))0)::rest)(h v) [0]rfl rfl(by rw[gP,ha];rfl)(fun i k hi=>?_)⟨fun k hk hlt=>?_,fun i k r' hi hr'=>?_,fun i r' hi hr'=>?_⟩
  ·rw[hr]at hw
   exact hw
  ·match i,hi with
   | 0,hi =>
    simp at hi
    subst hi
    refine⟨_,rfl,rfl,?_⟩
    show some _=some(Row.c(gP _ _))
    rw[I5 l 0(hl _)]
   |n+1,hi=>simp at hi
  ·obtain⟨q,rfl⟩:∃q,k=q+1:=⟨k - 1,by have:k≠0:=fun e=>hk(by simp[e]);omega⟩
   rfl
  ·match i,hi with
   | 0,hi =>
    simp at hi
    subst hi
    cases hr'
    show some _=some(Row.c(gP _ _))
    rw[I5 l' 0(hl' _)]
   |n+1,hi=>simp at hi
  ·match i,hi,hr' with
   | 0,hi,_=>exact absurd hi(by show ¬ 1≤0;omega)
   |n+1,_,hr'=>cases hr'
 have hW1:Wd A0 R w0 E(.c(hol l(fun q=>.x(v q))0)::rest):=by
  refine⟨fun k b' c' hk=>?_,hW.small,hW.old,fun k b' c' hk hl=>hW.own k b' c' hk(by rw[hlive _(hol l(fun q=>.x(v q))0)];exact hl),fun k k' b' c' c'' hk hk' h1 h2=>hW.one k k' b' c' c'' hk hk'(by rw[hlive _(hol l(fun q=>.x(v q))0)];exact h1)(by rw[hlive _(hol l(fun q=>.x(v q))0)];exact h2),hW.below,hW.Dj⟩
  obtain⟨row,g1,g2⟩:=hW.rows k b' c' hk
  cases k with
  |zero =>
   rw[hO]at hk
   cases hk
   exact⟨_,rfl,cs,ty,k4,k6⟩
  |succ k=>exact⟨row,g1,g2⟩
 refine(hw1.2 A0 R w0 E aZ hW1 hg hrel).mono ?_
 rintro e w'⟨u,E',rfl,rfl,hle,hW2,hu⟩
 refine⟨u,E',rfl,rfl,hle,⟨fun k b' c' hk=>?_,hW2.small,hW2.old,fun k b' c' hk hl=>hW2.own k b' c' hk(by rw[hlive _(hol l' o 0)];exact hl),fun k k' b' c' c'' hk hk' h1 h2=>hW2.one k k' b' c' c'' hk hk'(by rw[hlive _(hol l' o 0)];exact h1)(by rw[hlive _(hol l' o 0)];exact h2),hW2.below,hW2.Dj⟩,hu⟩
 obtain⟨row,g1,g2⟩:=hW2.rows k b' c' hk
 cases k with
 |zero =>
  cases g1
  obtain⟨cs',ty',g3,g4⟩:=g2
  refine⟨_,rfl,cs',ty',g3,Ey l' 0(fun k hk=>?_)g4⟩
  rw[hh]at hk
  exact mR hle(k7 k hk)
 |succ k=>exact⟨row,g1,g2⟩
end
end Go.Gv
namespace Go.Proofs.YtefphimaggjihaaGreatDoor.Pi.Rd
open Go.Shelf Go.RowKit Go.Gv
open Go.Ev (cn fdiv)
structure Tk where
 n:Nat
 T:Nat→ByteArray
 N:Nat→Int
def Wq(t:Tk):AV:=.sl 1 t.n fun q=>[zA(t.T q)]
def rdM(t:Tk)(x:Int)(z:Nat→Int):List(Option AV):=[some(Wq t),some(iA x),none,none,none,none,none,none,none,none,none,none,none,none,none,none,none,none,none,none,none,some(iA(z 21)),some(iA(z 22)),some(iA(z 23)),some(iA(z 24)),some(iA(z 25)),some(iA(z 26)),none,some(iA(z 28))]
def rdC(t:Tk)(x:Int)(z:Nat→Int)(o:Nat→AV):List AV:=hol(rdM t x z)o 0
def lM(t:Tk)(a:Nat)(z:Nat→Int)(o:Nat→AV):Row:=.c(rdC t(a:Nat)z o)
def aAH(d:Nat):List AV→List AV
 |t::.x(.int k a)::l=>t::.x(.int k(a+(d:Nat)))::l
 |l=>l
def O8(d:Nat):List Row→List Row
 |.c l::r=>.c(aAH d l)::r
 |m=>m
def atM:List Row→Nat
 |.c(_::.x(.int _ a)::_)::_=>a.toNat
 |_=>0
def dw(z:Nat→Int)(i:Nat)(x:Int):Nat→Int:=fun q=>cond(Nat.beq q i)x(z q)
def Lf(t:Tk)(f:Nat)(args:List AV)(r:AV)(a d:Nat)(z z':Nat→Int):Prop:=∀v:Nat→Value,cu Tryz.prog f(.own 0 0::args) [lM t a z fun q=>.x(v q)]r [lM t(a+d)z' fun q=>.x(v q)]
theorem Ik {t:Tk}{x:Int}{z:Nat→Int}(σ:Nat→Option Nat)(a:AV)(h:some a∈rdM t x z):jw σ a=a:=by
 simp only[rdM,List.mem_cons,Option.some.injEq,reduceCtorEq,false_or,List.mem_nil_iff,or_false]at h
 rcases h with rfl |rfl |rfl |rfl |rfl |rfl |rfl |rfl |rfl<;>rfl
theorem Lf.w {t:Tk}{f:Nat}{args:List AV}{r:AV}{a d:Nat}{z z':Nat→Int}(h:Lf t f args r a d z z')(ha:∀ σ,gP σ args=args)(hr:∀ σ,jw σ r=r)(o:Nat→AV)(rest:List Row):bP Tryz.prog f(.own 0 0::args)(lM t a z o::rest)r(lM t(a+d)z' o::rest) :=
 amU(l:=rdM t(a:Nat)z)(l':=rdM t((a+d:Nat):Int)z')rfl(fun σ x=>Ik σ x)(fun σ x=>Ik σ x)(ha _)hr h
theorem Lf.w1 {t:Tk}{f:Nat}{args:List AV}{r:AV}{a d:Nat}{z z':Nat→Int}(h:Lf t f args r a d z z')(ha:gP(oK [0])args=args)(hr:∀ σ,jw σ r=r)(o:Nat→AV)(rest:List Row):bP Tryz.prog f(.own 0 0::args)(lM t a z o::rest)r(lM t(a+d)z' o::rest) :=
 amU(l:=rdM t(a:Nat)z)(l':=rdM t((a+d:Nat):Int)z')rfl(fun σ x=>Ik σ x)(fun σ x=>Ik σ x)ha hr h
abbrev vX(v:Nat→Value):Nat→AV:=fun q=>.x(v q)
noncomputable def yI(n:Int):Nat:=fdiv(cn(FloatKind.f64.nearest n))4652007308841189376
section
variable(t:Tk)(a:Nat)(z:Nat→Int)(v:Nat→Value)(o:Nat→AV)(rest:List Row)(s:ByteArray)(x y:Int)(b:Bool)
noncomputable def wNx:bH:=wQ Tryz.prog 167(fun _ mem=>zA(t.T(atM mem)))(fun _ mem=>O8 1 mem)
noncomputable def wAk:bH:=wQ Tryz.prog 194(fun _ _=>.aN [])(fun _ mem=>O8 1 mem)
noncomputable def wNu:bH:=wQ Tryz.prog 215(fun _ mem=>iA(t.N(atM mem)))(fun _ mem=>O8 1 mem)
noncomputable def wWo:bH:=wQ Tryz.prog 232(fun _ mem=>iA(t.N(atM mem)))(fun _ mem=>O8 1 mem)
noncomputable def wNm:bH:=wQ Tryz.prog 222(fun _ mem=>zA(t.T(atM mem)))(fun _ mem=>O8 1 mem)
noncomputable def qW(f:Nat)(args:List AV)(r:AV)(d:Nat)(k:Option Out):Option Out:=cond(iY(bP Tryz.prog f(.own 0 0::args)(lM t a z o::rest)r(lM t(a+d)z o::rest)))k none
theorem auG:eu Tryz.prog [] [] [] [] []aM Tryz.f167 [.own 0 0] [lM t a z(vX v)] [some 0] =
 cond(((a:Nat):Int)==((t.n:Nat):Int))none(cond((mJ(aI(aI(((a:Nat):Int)+1) - 1))t.n||false)&&true)(fD(zA(t.T(aI(aI(((a:Nat):Int)+1) - 1)).toNat)) [.c(rdC t(aI(((a:Nat):Int)+1))z(vX v))])none):=by kernel_rfl
theorem auH:eu Tryz.prog [] [] [] [wNx t] []aM Tryz.f194 [.own 0 0,zA s] [lM t a z(vX v)] [some 0] =
 qW t a z(vX v) [] 167 [](zA(t.T a))1(cond(!((t.T a).toList==s.toList))none(fD(.aN []) [lM t(a+1)z(vX v)])):=by kernel_rfl
theorem auI:eu Tryz.prog [] [] [] [] []aM Tryz.f195 [.own 0 0,iA x] [lM t a z(vX v)] [some 0]=cond(!(x==0))none(fD(.aN []) [lM t a z(vX v)]):=by kernel_rfl
theorem auJ:eu Tryz.prog [] [] [] [] []aM Tryz.f196 [.own 0 0,iA x,iA y] [lM t a z(vX v)] [some 0]=cond(decide(y≤x))none(fD(.aN []) [lM t a z(vX v)]):=by kernel_rfl
theorem auK:eu Tryz.prog [] [] [] [] []aM Tryz.f208 [.own 0 0] [lM t a z(vX v)] [some 0]=cond(decide(0<z 23))none(fD(.aN []) [lM t a z(vX v)]):=by kernel_rfl
theorem aok:eu Tryz.prog [] [] [] [] []aM Tryz.f209 [.own 0 0,.own 0 21] [lM t a z(vX v)] [some 0]=cond(decide(0<z 21))none(fD(.aN []) [lM t a(dw z 21(aI(z 21+1)))(vX v)]):=by kernel_rfl
theorem aol:eu Tryz.prog [] [] [] [] []aM Tryz.f209 [.own 0 0,.own 0 22] [lM t a z(vX v)] [some 0]=cond(decide(0<z 22))none(fD(.aN []) [lM t a(dw z 22(aI(z 22+1)))(vX v)]):=by kernel_rfl
theorem auL:eu Tryz.prog [] [] [] [wAk] []aM Tryz.f219 [.own 0 0,iA x] [lM t a z(vX v)] [some 0] =
 qW t a z(vX v) [] 194 [zA⟨#[123]⟩](.aN [])1(cond(x==3)none(fD(.aN []) [lM t(a+1)z(vX v)])):=by kernel_rfl
theorem auM:eu Tryz.prog [] [kS Tryz.prog 237(fun _=>bA b)] [] [wNx t] []aM Tryz.f222 [.own 0 0] [lM t a z(vX v)] [some 0] =
 qW t a z(vX v) [] 167 [](zA(t.T a))1(gate(aj Tryz.prog 237 [zA(t.T a)](bA b))(cond(!b)none(fD(zA(t.T a)) [lM t(a+1)z(vX v)]))):=by kernel_rfl
theorem auN:eu Tryz.prog [] [kS Tryz.prog 234(fun _=>.aN [iA x,bA true]),kS Tryz.prog 172(fun _=>bA b)] [] [wNx t] []aM Tryz.f215 [.own 0 0] [lM t a z(vX v)] [some 0] =
 qW t a z(vX v) [] 167 [](zA(t.T a))1(gate(aj Tryz.prog 234 [zA(t.T a)](.aN [iA x,bA true]))(gate(aj Tryz.prog 172 [iA x](bA b))(cond b none(fD(iA x) [lM t(a+1)z(vX v)])))):=by kernel_rfl
theorem auO:eu Tryz.prog [] [kS Tryz.prog 245(fun _=>.aN [iA x,bA true])] [] [wNx t] []aM Tryz.f232 [.own 0 0,iA y] [lM t a z(vX v)] [some 0] =
 qW t a z(vX v) [] 167 [](zA(t.T a))1(gate(aj Tryz.prog 245 [zA(t.T a)](.aN [iA x,bA true]))(cond(cond(decide(x<0))true(decide(y<x)))none(fD(iA x) [lM t(a+1)z(vX v)]))):=by kernel_rfl
theorem auP:eu Tryz.prog [] [] [] [wNu t] []aM Tryz.f212 [.own 0 0] [lM t a z(vX v)] [some 0] =
 qW t a z(vX v) [] 215 [](iA(t.N a))1(fD(.f(yI(t.N a))) [lM t(a+1)z(vX v)]):=by kernel_rfl
def l3(x y w:Int):Row:=.c [iA x,iA y,iA w]
theorem aom:eu Tryz.prog [] [] [] [wNu t] []aM Tryz.f218 [.own 0 0] [lM t a z(vX v)] [some 0] =
 qW t a z(vX v) [l3 0 0 0] 215 [](iA(t.N a))1(qW t(a+1)z(vX v) [l3(t.N a)0 0] 215 [](iA(t.N(a+1)))1(qW t(a+2)z(vX v) [l3(t.N a)(t.N(a+1))0] 215 [](iA(t.N(a+2)))1(fD(.agg [iA(t.N a),iA(t.N(a+1)),iA(t.N(a+2))]) [lM t(a+3)z(vX v)]))):=by kernel_rfl
theorem auQ(y:Int):eu Tryz.prog [] [] [] [wWo t] []aM Tryz.f213 [.own 0 0,iA y] [lM t a z(vX v)] [some 0] =
 qW t a z(vX v) [l3 0 0 0] 232 [iA y](iA(t.N a))1(qW t(a+1)z(vX v) [l3(t.N a)0 0] 232 [iA y](iA(t.N(a+1)))1(qW t(a+2)z(vX v) [l3(t.N a)(t.N(a+1))0] 232 [iA y](iA(t.N(a+2)))1(fD(.agg [iA(t.N a),iA(t.N(a+1)),iA(t.N(a+2))]) [lM t(a+3)z(vX v)]))):=by kernel_rfl
theorem adP(p q r:Int):ev Tryz.prog [] []aM Tryz.f231 [.agg [iA p,iA q,iA r]]ret=some(Out.of(.agg [.f(yI p),.f(yI q),.f(yI r)])):=by kernel_rfl
theorem auR:eu Tryz.prog [] [] [] [wNu t] []aM Tryz.f217 [.own 0 0,iA y] [lM t a z(vX v)] [some 0] =
 qW t a z(vX v) [] 215 [](iA(t.N a))1(cond(!((t.N a).tmod 1000==0))none(cond(cond(decide(t.N a<0))true(decide(aI(y*1000)<t.N a)))none(fD(iA(aI((t.N a).tdiv 1000))) [lM t(a+1)z(vX v)]))):=by kernel_rfl
end
end Go.Proofs.YtefphimaggjihaaGreatDoor.Pi.Rd
namespace Go.Proofs.YtefphimaggjihaaGreatDoor.Pi.Rd
open Go.Shelf Go.RowKit Go.Gv
theorem kX {ks : List aV} {ws : List bH} (hk : ∀ e, e ∈ ks → tX Tryz.prog e) (hw : ∀ e, e ∈ ws → vC Tryz.prog e) {f : Nat} {fn : Func} (hf : Tryz.prog.funcs[f]? = some fn) (hnm : (fn.name == "runtime.NumGoroutine") = false) (hb : fn.body = some (dG fn))
  {t:Tk}{a d:Nat}{z z':Nat→Int}{args:List AV}{r:AV}(hlen:Nat.ble((.own 0 0::args:List AV)).length fn.ntmps=true)
  (h:∀v:Nat→Value,eu Tryz.prog []ks []ws []aM fn(.own 0 0::args) [lM t a z(vX v)] [some 0]=fD r [lM t(a+d)z'(vX v)]):Lf t f args r a d z z':=fun v =>
 bM aB hk bO hw bS hf hnm hb(mem:=[lM t a z fun q=>.x(v q)])aS hlen(τ:=[some 0])(by rfl)(h v)
def Has(t:Tk)(a k:Nat):Prop:=a+k≤t.n∧t.n≤1000000
theorem Has.at {t:Tk}{a k:Nat}(h:Has t a k)(i:Nat)(hi:i<k):Has t(a+i)1:=⟨by have:=h.1;omega,h.2⟩
theorem wE {t:Tk}{a d:Nat}{z:Nat→Int}{f:Nat}{args:List AV}{r:AV}(h:Lf t f args r a d z z)(ha:∀ σ,gP σ args=args)(hr:∀ σ,jw σ r=r)(o:Nat→AV)(rest:List Row)(k:Option Out):qW t a z o rest f args r d k=k:=by
 unfold qW
 rw[fH(h.w ha hr o rest)]
 rfl
theorem qY {t:Tk}{a:Nat}(z:Nat→Int)(h:Has t a 1):Lf t 167 [](zA(t.T a))a 1 z z:=by
 obtain⟨h1,h2⟩:=h
 refine kX av bJ Tryz.ayM(by kernel_rfl)(by kernel_rfl)rfl fun v=>(auG t a z v).trans ?_
 rw[beq_false_of_ne(show((a:Nat):Int)≠((t.n:Nat):Int)by omega),aO(n:=((a:Nat):Int)+1)(by omega)(by omega),show((a:Nat):Int)+1 - 1=((a:Nat):Int)by omega,aO(by omega)(by omega),gy(by omega),Int.toNat_natCast]
 rfl
theorem KE {t:Tk}{a:Nat}{s:ByteArray}(z:Nat→Int)(h:Has t a 1)(hs:t.T a=s):Lf t 194 [zA s](.aN [])a 1 z z:=by
 refine kX av(aC aX bJ)Tryz.ayN(by kernel_rfl)(by kernel_rfl)rfl fun v=>(auH t a z v s).trans ?_
 rw[wE(qY z h)(fun _=>rfl)(fun _=>rfl),hs,show((s.toList==s.toList)=true)from beq_self_eq_true _]
 rfl
theorem wz(t:Tk)(a:Nat)(z:Nat→Int):Lf t 195 [iA 0](.aN [])a 0 z z :=
 kX av bJ Tryz.ayO(by kernel_rfl)(by kernel_rfl)rfl fun v=>(auI t a z v 0).trans rfl
theorem q9(t:Tk)(a:Nat)(z:Nat→Int) {x y:Int}(h:x<y):Lf t 196 [iA x,iA y](.aN [])a 0 z z :=
 kX av bJ Tryz.ayP(by kernel_rfl)(by kernel_rfl)rfl fun v=>(auJ t a z v x y).trans(by rw[decide_eq_false(by omega)];rfl)
theorem yc(t:Tk)(a:Nat) {z:Nat→Int}(h:z 23=0):Lf t 208 [](.aN [])a 0 z z :=
 kX av bJ Tryz.ayQ(by kernel_rfl)(by kernel_rfl)rfl fun v=>(auK t a z v).trans(by rw[h];rfl)
theorem XT(t:Tk)(a:Nat) {z:Nat→Int}(h:z 21=0):Lf t 209 [.own 0 21](.aN [])a 0 z(dw z 21 1) :=
 kX av bJ Tryz.akN(by kernel_rfl)(by kernel_rfl)rfl fun v=>(aok t a z v).trans(by rw[h];rfl)
theorem XU(t:Tk)(a:Nat) {z:Nat→Int}(h:z 22=0):Lf t 209 [.own 0 22](.aN [])a 0 z(dw z 22 1) :=
 kX av bJ Tryz.akN(by kernel_rfl)(by kernel_rfl)rfl fun v=>(aol t a z v).trans(by rw[h];rfl)
theorem Wp {t:Tk}{a:Nat}(z:Nat→Int) {x:Int}(h:Has t a 1)(hs:t.T a=⟨#[123]⟩)(hx:x≠3):Lf t 219 [iA x](.aN [])a 1 z z:=by
 refine kX av(aC aX bJ)Tryz.ayR(by kernel_rfl)(by kernel_rfl)rfl fun v=>(auL t a z v x).trans ?_
 rw[wE(KE z h hs)(fun _=>rfl)(fun _=>rfl),beq_false_of_ne hx]
 rfl
theorem KF {t:Tk}{a:Nat}(z:Nat→Int)(h:Has t a 1)(hn:aj Tryz.prog 237 [zA(t.T a)](bA true)):Lf t 222 [](zA(t.T a))a 1 z z:=by
 refine kX(ak aD av)(aC aX bJ)Tryz.ayS(by kernel_rfl)(by kernel_rfl)rfl fun v=>(auM t a z v true).trans ?_
 rw[wE(qY z h)(fun _=>rfl)(fun _=>rfl),ah hn]
 rfl
def mY(t:Tk)(a:Nat):Prop:=aj Tryz.prog 234 [zA(t.T a)](.aN [iA(t.N a),bA true])∧-1000000≤t.N a∧t.N a≤1000000
def BU(t:Tk)(m:Int)(a:Nat):Prop:=aj Tryz.prog 245 [zA(t.T a)](.aN [iA(t.N a),bA true])∧0≤t.N a∧t.N a≤m
theorem af3 {n:Int}(h0:-1000000≤n)(h1:n≤1000000):byB n=false:=by
 unfold byB
 rw[decide_eq_false(by omega),decide_eq_false(by omega)]
 rfl
theorem lH {t:Tk}{a:Nat}(z:Nat→Int)(h:Has t a 1)(hn:mY t a):Lf t 215 [](iA(t.N a))a 1 z z:=by
 refine kX(ak aD(ak aD av))(aC aX bJ)Tryz.ayT(by kernel_rfl)(by kernel_rfl)rfl fun v=>(auN t a z v(t.N a)false).trans ?_
 rw[wE(qY z h)(fun _=>rfl)(fun _=>rfl),ah hn.1,ah(by have:=aaC(t.N a);rw[af3 hn.2.1 hn.2.2]at this;exact this)]
 rfl
theorem zT {t:Tk}{a:Nat}{m:Int}(z:Nat→Int)(h:Has t a 1)(hn:BU t m a):Lf t 232 [iA m](iA(t.N a))a 1 z z:=by
 refine kX(ak aD av)(aC aX bJ)Tryz.ayU(by kernel_rfl)(by kernel_rfl)rfl fun v=>(auO t a z v(t.N a)m).trans ?_
 rw[wE(qY z h)(fun _=>rfl)(fun _=>rfl),ah hn.1,decide_eq_false(by have:=hn.2.1;omega),decide_eq_false(by have:=hn.2.2;omega)]
 rfl
theorem CU {t:Tk}{a:Nat}(z:Nat→Int)(h:Has t a 1)(hn:mY t a):Lf t 212 [](.f(yI(t.N a)))a 1 z z:=by
 refine kX av(aC aX bJ)Tryz.ayV(by kernel_rfl)(by kernel_rfl)rfl fun v=>(auP t a z v).trans ?_
 rw[wE(lH z h hn)(fun _=>rfl)(fun _=>rfl)]
def n3(t:Tk)(a:Nat):AV:=.agg [iA(t.N a),iA(t.N(a+1)),iA(t.N(a+2))]
theorem KG {t:Tk}{a:Nat}(z:Nat→Int)(h:Has t a 3)(hn:∀i,i<3→mY t(a+i)):Lf t 218 [](n3 t a)a 3 z z:=by
 refine kX av(aC aX bJ)Tryz.ayW(by kernel_rfl)(by kernel_rfl)rfl fun v=>(aom t a z v).trans ?_
 rw[wE(lH(a:=a)z(h.at 0(by omega))(hn 0(by omega)))(fun _=>rfl)(fun _=>rfl),wE(lH z(h.at 1(by omega))(hn 1(by omega)))(fun _=>rfl)(fun _=>rfl),wE(lH z(h.at 2(by omega))(hn 2(by omega)))(fun _=>rfl)(fun _=>rfl)]
 rfl
theorem nY {t:Tk}{a:Nat}{m:Int}(z:Nat→Int)(h:Has t a 3)(hn:∀i,i<3→BU t m(a+i)):Lf t 213 [iA m](n3 t a)a 3 z z:=by
 refine kX av(aC aX bJ)Tryz.ayX(by kernel_rfl)(by kernel_rfl)rfl fun v=>(auQ t a z v m).trans ?_
 rw[wE(zT(a:=a)z(h.at 0(by omega))(hn 0(by omega)))(fun _=>rfl)(fun _=>rfl),wE(zT z(h.at 1(by omega))(hn 1(by omega)))(fun _=>rfl)(fun _=>rfl),wE(zT z(h.at 2(by omega))(hn 2(by omega)))(fun _=>rfl)(fun _=>rfl)]
 rfl
noncomputable def v3A(p q r:Int):AV:=.agg [.f(yI p),.f(yI q),.f(yI r)]
theorem XV(p q r:Int):aj Tryz.prog 231 [.agg [iA p,iA q,iA r]](v3A p q r):=aP aB av Tryz.ayY(by kernel_rfl)(by kernel_rfl)aA rfl(adP p q r)
theorem XW {t:Tk}{a:Nat}{m:Int}(z:Nat→Int)(h:Has t a 1)(hn:mY t a)(h0:(t.N a).tmod 1000=0)(h1:0≤t.N a)(h2:t.N a≤m*1000)(hm:m≤1000):Lf t 217 [iA m](iA((t.N a).tdiv 1000))a 1 z z:=by
 refine kX av(aC aX bJ)Tryz.ayZ(by kernel_rfl)(by kernel_rfl)rfl fun v=>(auR t a z v m).trans ?_
 have hd:0≤(t.N a).tdiv 1000∧(t.N a).tdiv 1000≤1000:=by rw[Int.tdiv_eq_ediv_of_nonneg h1];omega
 rw[wE(lH z h hn)(fun _=>rfl)(fun _=>rfl),h0,decide_eq_false(by omega),aO(n:=m*1000)(by omega)(by omega),decide_eq_false(by omega),aO(by omega)(by omega)]
 rfl
end Go.Proofs.YtefphimaggjihaaGreatDoor.Pi.Rd
namespace Go.Gv
open Go.RowKit Go.Ev
noncomputable section
def shX(n x:Nat)(i:Nat):Option Nat:=CV(List.range n)(n+x)i
theorem IU {P:Program}{f:Nat}{args:List AV}{CW mem1:List Row}{v:AV}(n:Nat)(hn:CW.length=n)(h:cu P f args CW v mem1)(X:List Row)(hnd:nodupB(List.range n)=true)(hlive:∀(i:Nat)(r:Row),CW[i]?=some r→r.live=true∧iX(oK(List.range n))r=r)(hargs:args=gP(oK(List.range n))args)(hm:n≤mem1.length) {v':AV}(hv:v'=jw(shX n X.length)v) {mem':List Row}(hmem':mem'=(mem1.take n).map(iX(shX n X.length))++(X++(mem1.drop n).map(iX(shX n X.length)))) :
  bP P f args(CW++X)v' mem':=by
 have hl:(CW++X).length=n+X.length:=by rw[List.length_append,hn]
 have hr:∀i,i<n→(List.range n)[i]?=some i:=fun i hi=>by rw[List.getElem?_range hi]
 have ht:((mem1.take n).map(iX(shX n X.length))).length=n:=by rw[List.length_map,List.length_take];omega
 have hw:=xM(args:=args)(mem:=CW++X)(mem':=mem')h(List.range n)(by rw[List.length_range,hn])hnd hargs(fun i k hi=>?_)⟨fun k hk hlt=>?_,fun i k r hi hr'=>?_,fun i r hi hr'=>?_⟩
 ·rw[hl]at hw
  rw[hv]
  exact hw
 ·have hin:i<n:=by have:=(List.getElem?_eq_some_iff.1 hi).1;rwa [List.length_range]at this
  rw[hr i hin]at hi
  cases hi
  have hg:(CW++X)[i]?=CW[i]?:=List.getElem?_append_left(by omega)
  have hs:∃r,CW[i]?=some r:=⟨_,List.getElem?_eq_getElem(by omega)⟩
  obtain⟨r,hs⟩:=hs
  obtain⟨h1,h2⟩:=hlive i r hs
  exact⟨r,by rw[hg,hs],h1,by rw[hs,h2]⟩
 ·have hk':n≤k:=by
   by_cases c:k<n
   ·exact absurd(List.mem_range.2 c)hk
   ·omega
  rw[hl]at hlt
  rw[hmem',List.getElem?_append_right(by rw[ht];exact hk'),ht,List.getElem?_append_left(by omega),List.getElem?_append_right(by omega),hn]
 ·have hin:i<n:=by have:=(List.getElem?_eq_some_iff.1 hi).1;rwa [List.length_range]at this
  rw[hr i hin]at hi
  cases hi
  rw[hmem',List.getElem?_append_left(by rw[ht];exact hin),List.getElem?_map,List.getElem?_take_of_lt hin,hr']
  show some _=some _
  rw[hl]
  rfl
 ·rw[List.length_range]at hi
  rw[hl,List.length_range,hmem',List.getElem?_append_right(by rw[ht];omega),ht,List.getElem?_append_right(by omega),show n+X.length+(i - n) - n - X.length=i - n by omega,List.getElem?_map,List.getElem?_drop,show n+(i - n)=i by omega,hr']
  rfl
end
end Go.Gv
namespace Go.Proofs.YtefphimaggjihaaGreatDoor.Pi.Rd
open Go.Shelf Go.RowKit Go.Gv
def sC(k:Int)(a0 a1 a2 b0 b1 b2 c0 c1 c2 r q:Nat):List AV:=[iA k,.f a0,.f a1,.f a2,.f b0,.f b1,.f b2,.f c0,.f c1,.f c2,.f r,.f q,iA 0]
def zS:Row:=.c(sC 0 0 0 0 0 0 0 0 0 0 0 0)
def vA(p q r:Nat):AV:=.agg [.f p,.f q,.f r]
def Iy(t:Tk)(z:Nat→Int)(a i:Nat):Int:=aI(t.N(a+i)+z(24+i))
section
variable(t:Tk)(a:Nat)(z:Nat→Int)(v:Nat→Value)(y:Int→Nat)
def gBy:List AV→AV:=fun _=>bA false
def gVe(y:Int→Nat):List AV→AV
 | [.agg [.x(.int _ p),.x(.int _ q),.x(.int _ r)]]=>vA(y p)(y q)(y r)
 |_=>.any
noncomputable def wTh:bH:=wQ Tryz.prog 218(fun _ mem=>n3 t(atM mem))(fun _ mem=>O8 3 mem)
noncomputable def gVo(p q r:Int)(x:Option Out):Option Out:=gate(aj Tryz.prog 231 [.agg [iA p,iA q,iA r]](vA(y p)(y q)(y r)))x
noncomputable def gBo(p:Int)(x:Option Out):Option Out:=gate(aj Tryz.prog 172 [iA p](bA false))x
def ptV(a:Nat):AV:=vA(y(Iy t z a 0))(y(Iy t z a 1))(y(Iy t z a 2))
def drV(a:Nat):AV:=vA(y(t.N a))(y(t.N(a+1)))(y(t.N(a+2)))
theorem aq7:eu Tryz.prog [] [kS Tryz.prog 172 gBy,kS Tryz.prog 231(gVe y)] [] [wTh t] []aM Tryz.f210 [.own 0 0] [lM t a z(vX v)] [some 0] =
 qW t a z(vX v) [.c [.f 0,.f 0,.f 0]] 218 [](n3 t a)3(gBo(Iy t z a 0)(gBo(Iy t z a 1)(gBo(Iy t z a 2)(gVo y(Iy t z a 0)(Iy t z a 1)(Iy t z a 2)(fD(ptV t z y a) [lM t(a+3)z(vX v)]))))):=by kernel_rfl
theorem awx:eu Tryz.prog [] [kS Tryz.prog 231(gVe y)] [] [wTh t] []aM Tryz.f211 [.own 0 0] [lM t a z(vX v)] [some 0] =
 qW t a z(vX v) [.c [.f 0,.f 0,.f 0]] 218 [](n3 t a)3(gVo y(t.N a)(t.N(a+1))(t.N(a+2))(fD(drV t y a) [lM t(a+3)z(vX v)])):=by kernel_rfl
noncomputable def wPt:bH:=wQ Tryz.prog 210(fun _ mem=>ptV t z y(atM mem))(fun _ mem=>O8 3 mem)
noncomputable def wDr:bH:=wQ Tryz.prog 211(fun _ mem=>drV t y(atM mem))(fun _ mem=>O8 3 mem)
noncomputable def wFl:bH:=wQ Tryz.prog 212(fun _ mem=>.f(y(t.N(atM mem))))(fun _ mem=>O8 1 mem)
def fS(a i:Nat):Nat:=y(Iy t z a i)
def fN(a:Nat):Nat:=y(t.N a)
noncomputable def qPt(a:Nat)(rest:List Row)(k:Option Out):Option Out:=qW t a z(vX v)rest 210 [](ptV t z y a)3 k
noncomputable def qDr(a:Nat)(rest:List Row)(k:Option Out):Option Out:=qW t a z(vX v)rest 211 [](drV t y a)3 k
noncomputable def qAk(a:Nat)(rest:List Row)(s:List UInt8)(k:Option Out):Option Out:=qW t a z(vX v)rest 194 [zA(lB s)](.aN [])1 k
noncomputable def qFl(a:Nat)(rest:List Row)(k:Option Out):Option Out:=qW t a z(vX v)rest 212 [](.f(fN t y a))1 k
noncomputable def agN:List bH:=[wPt t z y,wAk,wFl t y,wDr t y]
def cBa(a:Nat):List AV:=sC 1(fS t z y a 0)(fS t z y a 1)(fS t z y a 2)0 0 0 0 0 0(fN t y(a+4))0
theorem agB:eu Tryz.prog [] [] [](agN t z y) []aM Tryz.f187 [.own 0 0] [lM t a z(vX v)] [some 0] =
 qPt t z v y a [zS](qAk t z v(a+3) [zS,.c(sC 1(fS t z y a 0)(fS t z y a 1)(fS t z y a 2)0 0 0 0 0 0 0 0)] [114,97,100,105,117,115](qFl t z v y(a+4) [zS,.c(sC 1(fS t z y a 0)(fS t z y a 1)(fS t z y a 2)0 0 0 0 0 0 0 0)]
  (fD(.agg(cBa t z y a)) [lM t(a+5)z(vX v)]))):=by kernel_rfl
def sB1(k:Int)(a:Nat):Row:=.c(sC k(fS t z y a 0)(fS t z y a 1)(fS t z y a 2)0 0 0 0 0 0 0 0)
def cBk(a:Nat):List AV:=sC 2(fS t z y a 0)(fS t z y a 1)(fS t z y a 2)(fS t z y(a+4)0)(fS t z y(a+4)1)(fS t z y(a+4)2)0 0 0 0 0
theorem awC:eu Tryz.prog [] [] [](agN t z y) []aM Tryz.f188 [.own 0 0] [lM t a z(vX v)] [some 0] =
 qPt t z v y a [zS](qAk t z v(a+3) [zS,sB1 t z y 2 a] [116,111](qPt t z v y(a+4) [zS,sB1 t z y 2 a]
  (fD(.agg(cBk t z y a)) [lM t(a+7)z(vX v)]))):=by kernel_rfl
def sB2(k:Int)(a:Nat):Row:=.c(sC k(fS t z y a 0)(fS t z y a 1)(fS t z y a 2)(fS t z y(a+4)0)(fS t z y(a+4)1)(fS t z y(a+4)2)0 0 0 0 0)
def cTr(a:Nat):List AV:=sC 3(fS t z y a 0)(fS t z y a 1)(fS t z y a 2)(fS t z y(a+4)0)(fS t z y(a+4)1)(fS t z y(a+4)2)(fS t z y(a+8)0)(fS t z y(a+8)1)(fS t z y(a+8)2)0 0
theorem awD:eu Tryz.prog [] [] [](agN t z y) []aM Tryz.f190 [.own 0 0] [lM t a z(vX v)] [some 0] =
 qPt t z v y a [zS](qAk t z v(a+3) [zS,sB1 t z y 3 a] [44](qPt t z v y(a+4) [zS,sB1 t z y 3 a](qAk t z v(a+7) [zS,sB2 t z y 3 a] [44](qPt t z v y(a+8) [zS,sB2 t z y 3 a]
  (fD(.agg(cTr t z y a)) [lM t(a+11)z(vX v)]))))):=by kernel_rfl
def VA(k:Int)(a:Nat):List AV:=sC k(fS t z y a 0)(fS t z y a 1)(fS t z y a 2)(fN t y(a+4))(fN t y(a+5))(fN t y(a+6))0 0 0(fN t y(a+8))0
def sB3(k:Int)(a:Nat):Row:=.c(sC k(fS t z y a 0)(fS t z y a 1)(fS t z y a 2)(fN t y(a+4))(fN t y(a+5))(fN t y(a+6))0 0 0 0 0)
theorem aef(k:Int)(w:List UInt8):eu Tryz.prog [] [] [](agN t z y) []aM Tryz.f220 [.own 0 0,iA k,zA(lB w)] [lM t a z(vX v)] [some 0] =
 qPt t z v y a [zS](qAk t z v(a+3) [zS,sB1 t z y k a]w(qDr t z v y(a+4) [zS,sB1 t z y k a](qAk t z v(a+7) [zS,sB3 t z y k a] [114,97,100,105,117,115](qFl t z v y(a+8) [zS,sB3 t z y k a]
  (fD(.agg(VA t z y k a)) [lM t(a+9)z(vX v)]))))):=by kernel_rfl
noncomputable def wRo:bH:=wQ Tryz.prog 220(fun ar mem=>match ar with
 | [_,.x(.int _ k),_]=>.agg(VA t z y k(atM mem))
 |_=>.any)(fun _ mem=>O8 9 mem)
noncomputable def qRo(k:Int)(w:List UInt8)(a:Nat)(rest:List Row)(x:Option Out):Option Out:=qW t a z(vX v)rest 220 [iA k,zA(lB w)](.agg(VA t z y k a))9 x
theorem aq9:eu Tryz.prog [] [] [] [wRo t z y] []aM Tryz.f191 [.own 0 0] [lM t a z(vX v)] [some 0]=qRo t z v y 4 [117,112]a [zS](fD(.agg(VA t z y 4 a)) [lM t(a+9)z(vX v)]):=by kernel_rfl
theorem awE:eu Tryz.prog [] [] [] [wRo t z y] []aM Tryz.f189 [.own 0 0] [lM t a z(vX v)] [some 0]=qRo t z v y 5 [97,108,111,110,103]a [zS](fD(.agg(VA t z y 5 a)) [lM t(a+9)z(vX v)]):=by kernel_rfl
def cRi(a:Nat):List AV:=sC 6(fS t z y a 0)(fS t z y a 1)(fS t z y a 2)(fN t y(a+4))(fN t y(a+5))(fN t y(a+6))0 0 0(fN t y(a+8))(fN t y(a+9))
theorem awF:eu Tryz.prog [] [] [] [wRo t z y,wFl t y] []aM Tryz.f192 [.own 0 0] [lM t a z(vX v)] [some 0]=qRo t z v y 6 [117,112]a [zS](qFl t z v y(a+9) [zS,.c(VA t z y 6 a)](fD(.agg(cRi t z y a)) [lM t(a+10)z(vX v)])):=by kernel_rfl
end
section
variable(n:Nat)(N:Nat→ByteArray)(s:ByteArray)(i:Int)
def FC:AV:=.sl 1 n fun q=>[zA(N q)]
def Bw:St:=mkS 19 [(0,FC n N),(1,zA s),(7,iA n),(8,iA i)] []
theorem au6:gD Tryz.prog [] []aM(au Tryz.f221 0)(Bw n N s i)(fu [0,1,7,8] [])=cond(decide(i<n))(cond(mJ i n||false)(cond(s.toList==(N i.toNat).toList)none(some⟨.normal,Bw n N s(aI(i+1)),.any⟩))none)none:=by kernel_rfl
theorem aov:gD Tryz.prog [] []aM(au Tryz.f221 0)(Bw n N s i)(vI [4] [])=cond(decide(i<n))(cond(mJ i n||false)(cond(s.toList==(N i.toNat).toList)(some⟨.ret,mkS 19 [(4,iA i)] [],.any⟩)none)none)none:=by kernel_rfl
theorem aow:gD Tryz.prog [] []aM(au Tryz.f221 0)(Bw n N s i)(gM [0,1,7,8] [])=cond(decide(i<n))(cond(mJ i n||false)(cond(s.toList==(N i.toNat).toList)none none)none)(some⟨.exit 0,Bw n N s i,.any⟩):=by kernel_rfl
theorem aox(k:Int):ev Tryz.prog [] [](gu 2(fE [0,1,7,8] [](Bw n N s 0) .ret(mkS 19 [(4,iA k)] [])))Tryz.f221 [FC n N,zA s]ret=gate(Sub(Bw n N s 0)(Bw n N s 0))(some(Out.of(iA k))):=by kernel_rfl
theorem aoy:ev Tryz.prog [] [](gu 2(fE [0,1,7,8] [](Bw n N s 0)(.exit 0)(Bw n N s n)))Tryz.f221 [FC n N,zA s]ret=gate(Sub(Bw n N s 0)(Bw n N s 0))(some(Out.of(iA(-1)))):=by kernel_rfl
theorem au7(k:Int):ev Tryz.prog [] [kS Tryz.prog 221(fun _=>iA k)]aM Tryz.f233 [FC n N,zA s]ret=gate(aj Tryz.prog 221 [FC n N,zA s](iA k))(some(Out.of(bA(decide(0≤k))))):=by kernel_rfl
end
theorem au8 {a b:ByteArray}(h:a≠b):(a.toList==b.toList)=false:=by
 rw[sEq]
 refine decide_eq_false fun e=>h ?_
 rw[←GJ a,←GJ b,e]
section
variable {n:Nat}{N:Nat→ByteArray}{s:ByteArray}
theorem ZT {j:Nat}(hn:n≤1000)(hj:j<n)(h:s≠N j):bF Tryz.prog(au Tryz.f221 0)(Bw n N s(j:Nat)) .normal(Bw n N s((j+1:Nat):Int)):=by
 refine aF(aT _ _)aB av aA((au6 n N s(j:Nat)).trans ?_)
 rw[dec_lt hj,gy hj,Int.toNat_natCast,au8 h,bD(by omega)]
 rfl
theorem ad8 {k:Nat}(hn:n≤1000)(hk:k<n)(h:N k=s)(hno:∀j,j<k→N j≠s):aj Tryz.prog 221 [FC n N,zA s](iA(k:Nat)):=by
 refine aP aB av Tryz.ajt(by kernel_rfl)(by kernel_rfl)(kT(i:=2)1(by kernel_rfl)fun j hj _=>?_)rfl((aox n N s(k:Nat)).trans(ah(Sub.refl _)))
 have:j=0:=by omega
 subst this
 refine aR(aU(fun j=>Bw n N s(j:Nat))k .ret _(by simp)(fun j hj=>ZT hn(by omega)fun e=>hno j hj e.symm) ?_)
 refine aF(gQ _ _)aB av aA((aov n N s(k:Nat)).trans ?_)
 rw[dec_lt hk,gy hk,Int.toNat_natCast,h,show((s.toList==s.toList)=true)from beq_self_eq_true _]
 rfl
theorem ad9(hn:n≤1000)(hno:∀j,j<n→N j≠s):aj Tryz.prog 221 [FC n N,zA s](iA(-1)):=by
 refine aP aB av Tryz.ajt(by kernel_rfl)(by kernel_rfl)(kT(i:=2)1(by kernel_rfl)fun j hj _=>?_)rfl((aoy n N s).trans(ah(Sub.refl _)))
 have:j=0:=by omega
 subst this
 refine aR(aU(fun j=>Bw n N s(j:Nat))n(.exit 0)_(by simp)(fun j hj=>ZT hn hj fun e=>hno j hj e.symm) ?_)
 exact aF(bU _ _)aB av aA((aow n N s(n:Nat)).trans(by rw[bQ];rfl))
theorem Sd(hn:n≤1000)(hno:∀j,j<n→N j≠s):aj Tryz.prog 233 [FC n N,zA s](bA false) :=
 aP aB(ak aD av)Tryz.ayw(by kernel_rfl)(by kernel_rfl)aA rfl((au7 n N s(-1)).trans(ah(ad9 hn hno)))
end
end Go.Proofs.YtefphimaggjihaaGreatDoor.Pi.Rd
namespace Go.Proofs.YtefphimaggjihaaGreatDoor.Pi
open Go.Shelf Go.RowKit Go.Gv
def uE(l:List UInt8):Nat→List AV:=fun q=>[.x(.int .u8((l.getD q 0).toNat:Nat))]
def Gf(k n:Nat)(b u:Bool):Row:=.t 82 [.own 0 0,.fJ k 1 0 n,bA b,bA u]
def bR(l:List UInt8):Row:=.a 5 1 l.length(uE l)
def pM(l:List UInt8)(b u:Bool):List Row:=[Gf 1 l.length b u,bR l]
def sF(l:List UInt8)(b u:Bool):List Row:=[Gf 2 l.length b u,.dead,bR l]
def HY(b u:Bool):List Row:=[.t 82 [.x(.pointer none),.x(.slice none 0 0),bA b,bA u]]
def pM1(b u:Bool):List Row:=[.t 82 [.own 0 0,.x(.slice none 0 0),bA b,bA u]]
def nU:AV:=.x .nilIface
section
variable(l:List UInt8)(s:ByteArray)(c:Int)(b u:Bool)
def asB(n m:Nat):Bool:=(cond(n==n)(cond(Nat.blt 0 m)(Nat.ble((n+m)*1)140737488355328)false)false)&&true
theorem axW:eu Tryz.prog [] [] [] [wQ Tryz.prog 154(fun _ _=>.aN [])(fun _ _=>pM l b u)] []aM Tryz.f128 [.own 0 0,zA s](pM l b u) [some 0,some 1,some 2] =
  cond(iY(bP Tryz.prog 154 [.own 0 0](pM l b u)(.aN [])(pM l b u)))(cond(asB l.length s.size)(fD(.aN [iA(Int.ofNat s.size),nU]) [Gf 2(l.length+s.size)b u,.dead,.a 5 1(l.length+s.size)fun q=>dn(Nat.blt q l.length)(uE l q) [.x(.int .u8(aey s(q - l.length)))]])none)none:=by kernel_rfl
theorem ati:eu Tryz.prog [] [] [] [wQ Tryz.prog 154(fun _ _=>.aN [])(fun _ _=>pM1 b u)] []aM Tryz.f128 [.own 0 0,zA s](HY b u) [some 0,some 1] =
  cond(iY(bP Tryz.prog 154 [.own 0 0](HY b u)(.aN [])(pM1 b u)))(cond(cond(Nat.blt 0 s.size)(Nat.ble((0+s.size)*1)140737488355328)false&&true)(fD(.aN [iA(Int.ofNat s.size),nU]) [Gf 1(0+s.size)b u,.a 5 1(0+s.size)fun q=>[.x(.int .u8(aey s(q - 0)))]])none)none:=by kernel_rfl
theorem axX:eu Tryz.prog [] [] [] [wQ Tryz.prog 154(fun _ _=>.aN [])(fun _ _=>pM l b u)] []aM Tryz.f127 [.own 0 0,yA c](pM l b u) [some 0,some 1,some 3] =
  cond(iY(bP Tryz.prog 154 [.own 0 0](pM l b u)(.aN [])(pM l b u)))(cond(Nz l.length 1&&true)(fD nU [Gf 2(l.length+1)b u,.dead,.a 5 1(l.length+1)fun q=>dn(Nat.blt q l.length)(uE l q)(spread l.length [[yA c]]q)])none)none:=by kernel_rfl
end
section
variable {l:List UInt8}{b u:Bool}
theorem abw:bP Tryz.prog 154 [.own 0 0](pM l b u)(.aN [])(pM l b u):=axj(mem:=pM l b u)(k:=0)(P0:=.own 0 0)(Bv:=.fJ 1 1 0 l.length)rfl(Or.inr rfl)
theorem ais:bP Tryz.prog 154 [.own 0 0](HY b u)(.aN [])(pM1 b u):=axj(mem:=HY b u)(k:=0)(P0:=.x(.pointer none))(Bv:=.x(.slice none 0 0))rfl(Or.inl rfl)
theorem axY {n m:Nat}(h0:0<m)(h:n+m≤1000000000):asB n m=true:=by
 unfold asB
 rw[BEq.rfl,show Nat.blt 0 m=true from Nat.ble_eq_true_of_le h0,Nat.ble_eq_true_of_le(by omega)]
 rfl
theorem ait(l:List UInt8)(s:List UInt8)(q:Nat):dn(Nat.blt q l.length)(uE l q) [.x(.int .u8(((s.getD(q - l.length)0).toNat:Nat):Int))]=uE(l++s)q:=by
 unfold uE
 by_cases h:q<l.length
 ·rw[show Nat.blt q l.length=true from Nat.ble_eq_true_of_le h]
  simp only[dn,List.getD_eq_getElem?_getD,List.getElem?_append_left h]
  rfl
 ·have hb:Nat.blt q l.length=false:=by
   cases hb:Nat.blt q l.length
   ·rfl
   ·exact absurd(Nat.le_of_ble_eq_true hb)h
  rw[hb]
  simp only[List.getD_eq_getElem?_getD,List.getElem?_append_right(Nat.le_of_not_lt h)]
  rfl
def wsV(s:ByteArray):AV:=.aN [iA(Int.ofNat s.size),nU]
theorem alv {s:ByteArray}(h0:0<s.size)(h:l.length+s.size≤1000000000):cu Tryz.prog 128 [.own 0 0,zA s](pM l b u)(wsV s)(sF(l++bL s)b u):=by
 refine(bM aB av bO(aC aX bJ)bS Tryz.amy(by kernel_rfl)(by kernel_rfl)(mem:=pM l b u)aS rfl(τ:=[some 0,some 1,some 2])(by rfl)((axW l s b u).trans(by rw[fH abw,axY h0 h];rfl))).Io ?_
 have hlen:(l++bL s).length=l.length+s.size:=by rw[List.length_append];rfl
 refine⟨Or.inl ?_,Or.inl rfl,Or.inr⟨5,1,l.length+s.size,_,uE(l++bL s),rfl,?_,fun q _=>(ait l(bL s)q).symm⟩,trivial⟩
 ·show Gf 2(l++bL s).length b u=_
  rw[hlen]
 ·unfold bR;rw[hlen]
theorem ahl {s:ByteArray}(h0:0<s.size)(h:s.size≤1000000000):cu Tryz.prog 128 [.own 0 0,zA s](HY b u)(wsV s)(pM(bL s)b u):=by
 refine(bM aB av bO(aC aX bJ)bS Tryz.amy(by kernel_rfl)(by kernel_rfl)(mem:=HY b u)aS rfl(τ:=[some 0,some 1])(by rfl)((ati s b u).trans(by rw[fH ais,show Nat.blt 0 s.size=true from Nat.ble_eq_true_of_le h0,Nat.ble_eq_true_of_le(by omega)];rfl))).Io ?_
 refine⟨Or.inl ?_,Or.inr⟨5,1,0+s.size,_,uE(bL s),rfl,?_,fun q _=>rfl⟩,trivial⟩
 ·rw[Nat.zero_add];rfl
 ·unfold bR;rw[Nat.zero_add];rfl
theorem alu {c:UInt8}(h:l.length≤1000000000):cu Tryz.prog 127 [.own 0 0,yA((c.toNat:Nat):Int)](pM l b u)nU(sF(l++[c])b u):=by
 refine(bM aB av bO(aC aX bJ)bS Tryz.aAa(by kernel_rfl)(by kernel_rfl)(mem:=pM l b u)aS rfl(τ:=[some 0,some 1,some 3])(by rfl)((axX l _ b u).trans(by rw[fH abw,qD(by omega)];rfl))).Io ?_
 have hlen:(l++[c]).length=l.length+1:=by simp
 refine⟨Or.inl ?_,Or.inl rfl,Or.inr⟨5,1,l.length+1,_,uE(l++[c]),rfl,?_,fun q hq=>?_⟩,trivial⟩
 ·show Gf 2(l++[c]).length b u=_
  rw[hlen]
 ·unfold bR;rw[hlen]
 ·rw[←ait l [c]q]
  by_cases hl:q<l.length
  ·rw[show Nat.blt q l.length=true from Nat.ble_eq_true_of_le hl]
   rfl
  ·have:q - l.length=0:=by omega
   unfold spread
   rw[this]
   rfl
end
def Qv(mem:List Row):Nat:=match mem with
 |.t _ [_,.fJ k _ _ _,_,_]::_=>k
 |_=>0
def oz(mem:List Row)(l:List UInt8)(b u:Bool):List Row:=(match mem with
 |_::r=>Gf mem.length l.length b u::r.set(Qv mem - 1) .dead
 | []=>[])++[bR l]
structure Inv(mem:List Row)(l:List UInt8)(b u:Bool):Prop where
 pos:0<Qv mem
 hd:mem[0]?=some(Gf(Qv mem)l.length b u)
 bd:mem[Qv mem]?=some(bR l)
theorem Inv.cons {mem:List Row}{l:List UInt8}{b u:Bool}(h:Inv mem l b u):∃k r,mem=Gf(k+1)l.length b u::r∧r[k]?=some(bR l)∧Qv mem=k+1:=by
 obtain⟨h0,h1,h2⟩:=h
 cases mem with
 |nil=>simp at h1
 |cons x r =>
  simp only[List.getElem?_cons_zero,Option.some.injEq]at h1
  obtain⟨k,hk⟩:∃k,Qv(x::r)=k+1:=⟨Qv(x::r) - 1,by omega⟩
  rw[hk]at h1 h2
  refine⟨k,r,by rw[h1],by simpa using h2,hk⟩
theorem Inv.oz {mem:List Row}{l l':List UInt8}{b u b' u':Bool}(h:Inv mem l b u):Inv(oz mem l' b' u')l' b' u'∧(Pi.oz mem l' b' u').length=mem.length+1:=by
 obtain⟨k,r,rfl,h2,h3⟩:=h.cons
 have hl:(Gf(k+1)l.length b u::r).length=r.length+1:=rfl
 have hc:Qv(Pi.oz(Gf(k+1)l.length b u::r)l' b' u')=r.length+1:=rfl
 refine⟨⟨by rw[hc];omega,by rw[hc];rfl,?_⟩,?_⟩
 ·rw[hc]
  show((Gf _ _ _ _::r.set _ _)++[bR l'])[r.length+1]?=_
  rw[List.getElem?_append_right(by simp)]
  simp
 ·unfold Pi.oz
  simp
theorem xZ {f:Nat}{args:List AV}{r:AV}{mem:List Row}{l l':List UInt8}{b u b' u':Bool}(hI:Inv mem l b u)(ha:∀g,gP g args=args)(hr:∀g,jw g r=r)(h:cu Tryz.prog f(.own 0 0::args)(pM l b u)r(sF l' b' u')):bP Tryz.prog f(.own 0 0::args)mem r(oz mem l' b' u'):=by
 obtain⟨k,rs,rfl,h2,h3⟩:=hI.cons
 have hk:k<rs.length:=(List.getElem?_eq_some_iff.1 h2).1
 have hst:oz(Gf(k+1)l.length b u::rs)l' b' u'=(Gf(rs.length+1)l'.length b' u'::rs.set k .dead)++[bR l']:=rfl
 rw[←hr(CV [0,k+1](Gf(k+1)l.length b u::rs).length),hst]
 refine xM h [0,k+1]rfl ?_(by show _=_::gP _ args;rw[ha];rfl)(fun i j hi=>?_)⟨fun j hj hl=>?_,fun i j r hi hr=>?_,fun i r hi hr=>?_⟩
 ·show(_&&(_&&true))=true
  simp
 ·match i,hi with
  | 0,hi=>simp at hi;subst hi;exact⟨_,rfl,rfl,by simp[iX,gP,jw,oK,List.findIdx?_cons,pM,Gf,bA]⟩
  | 1,hi =>
   simp at hi
   subst hi
   refine⟨bR l,by simpa using h2,rfl,rfl⟩
  |n+2,hi=>simp at hi
 ·have h0:j≠0:=fun e=>hj(by simp[e])
  have h1:j≠k+1:=fun e=>hj(by simp[e])
  obtain⟨q,rfl⟩:∃q,j=q+1:=⟨j - 1,by omega⟩
  have hq:q<rs.length:=by simpa using hl
  rw[List.getElem?_append_left(by simpa using hq)]
  simp only[List.getElem?_cons_succ]
  rw[List.getElem?_set_ne(by omega)]
 ·match i,hi with
  | 0,hi =>
   simp at hi;subst hi
   cases hr
   show some _=some _
   simp[iX,gP,jw,CV,Gf,bA]
  | 1,hi =>
   simp at hi;subst hi
   cases hr
   show((Gf _ _ _ _::rs.set k .dead)++[bR l'])[k+1]?=some .dead
   rw[List.getElem?_append_left(by simpa using hk)]
   simp only[List.getElem?_cons_succ]
   rw[List.getElem?_set_self hk]
  |n+2,hi=>simp at hi
 ·match i,hi,hr with
  | 0,hi,_=>exact absurd hi(by show ¬ 2≤0;omega)
  | 1,hi,_=>exact absurd hi(by show ¬ 2≤1;omega)
  | 2,_,hr =>
   cases hr
   show((Gf _ _ _ _::rs.set k .dead)++[bR l'])[rs.length+1+0]?=some _
   rw[List.getElem?_append_right(by simp)]
   simp[iX,bR]
  |n+3,_,hr=>cases hr
def tkA(ts:List(List UInt8)):AV:=.sl 1 ts.length fun q=>[zA(lB(ts.getD q []))]
def RB(ts:List(List UInt8))(mem:List Row)(i:Int):St:=mkS 29 [(0,.own 0 0),(6,tkA ts),(7,iA(ts.length:Nat)),(8,iA i)]mem
def K6:List Nat:=[0,6,7,8]
section
variable(ts:List(List UInt8))(l l1 l2:List UInt8)(b u:Bool)(i:Int)(mem:List Row)
noncomputable def ptW:List bH:=[wQ Tryz.prog 127(fun _ _=>nU)(fun _ mem=>oz mem l1 true u),wQ Tryz.prog 128(fun a _=>match a with | [_,.x(.string s)]=>wsV s |_=>.any)(fun _ mem=>oz mem l2 b u)]
def tkI:ByteArray:=lB(ts.getD i.toNat [])
noncomputable def ptB(m:List Row)(x:Option Out):Option Out:=cond(iY(bP Tryz.prog 127 [.own 0 0,yA 32]m nU(oz m l1 true u)))x none
noncomputable def ptT(m:List Row)(x:Option Out):Option Out:=cond(iY(bP Tryz.prog 128 [.own 0 0,zA(tkI ts i)]m(wsV(tkI ts i))(oz m l2 b u)))x none
noncomputable def ptC(x:Option Out)(y:Option Out):Option Out:=cond(decide(i<(ts.length:Nat)))(cond(mJ i ts.length||false)x none)y
theorem awO:tN Tryz.prog [] [] [](ptW l1 l2 true u) []aM(au Tryz.f87 0)(RB ts(pM l true u)i)(fu K6 [some 0,some 1,some 3])=ptC ts i(ptB l1 u(pM l true u)(ptT ts l2 true u i(oz(pM l true u)l1 true u)(some⟨.normal,RB ts(sF l2 true u)(aI(i+1)),.any⟩)))none:=by kernel_rfl
theorem awP:tN Tryz.prog [] [] [](ptW l1 l2 true u) []aM(au Tryz.f87 0)(RB ts(sF l true u)i)(fu K6 [some 0,some 1,some 4])=ptC ts i(ptB l1 u(sF l true u)(ptT ts l2 true u i(oz(sF l true u)l1 true u)(some⟨.normal,RB ts(sF l2 true u)(aI(i+1)),.any⟩)))none:=by kernel_rfl
theorem awQ:tN Tryz.prog [] [] [](ptW l1 l2 false u) []aM(au Tryz.f87 0)(RB ts(pM l false u)i)(fu K6 [some 0,some 1,some 2])=ptC ts i(ptT ts l2 false u i(pM l false u)(some⟨.normal,RB ts(sF l2 true u)(aI(i+1)),.any⟩))none:=by kernel_rfl
theorem arf:tN Tryz.prog [] [] [](ptW l1 l2 true u) []aM(au Tryz.f87 0)(RB ts(sF l true u)i)(gM K6 [some 0,some 1,some 2])=ptC ts i(ptB l1 u(sF l true u)(ptT ts l2 true u i(oz(sF l true u)l1 true u)none))(some⟨.exit 0,RB ts(sF l true u)i,.any⟩):=by kernel_rfl
theorem awR:eu Tryz.prog [] [] [] [] [](gu 1(rM 2 K6 [some 0,some 1](RB ts(pM l b u)0)(.exit 0)(RB ts(sF l2 true u)(ts.length:Nat))))Tryz.f87 [.own 0 0,tkA ts](pM l b u) [some 0,some 1,some 2] =
 gate(iV 2(RB ts(pM l b u)0)(RB ts(pM l b u)0))(fD(.aN [])(sF l2 true u)):=by kernel_rfl
end
def tks:Bool→List(List UInt8)→List UInt8
 |_,[]=>[]
 |b,t::r=>(if b then [32]else [])++(t++tks true r)
theorem qK:∀(A B:List(List UInt8))(b:Bool),A≠[]→tks b(A++B)=tks b A++tks true B
 | [],_,_,h=>absurd rfl h
 | [t],B,b,_=>by simp[tks]
 |t::t'::r,B,b,_=>by
  have ih:=qK(t'::r)B true(by simp)
  rw[List.cons_append]
  show(if b then [32]else [])++(t++tks true(t'::r++B))=((if b then [32]else [])++(t++tks true(t'::r)))++_
  rw[ih]
  simp only[List.append_assoc]
theorem aaV(b:Bool)(t:List UInt8):tks b [t]=(if b then [32]else [])++t:=by simp[tks]
theorem ag3 {ts:List(List UInt8)}(b:Bool) {j:Nat}(h0:0<j)(hj:j<ts.length):tks b(ts.take(j+1))=tks b(ts.take j)++([32]++ts.getD j []):=by
 have e:ts.take(j+1)=ts.take j++[ts.getD j []]:=by
  rw[List.take_add_one,List.getD_eq_getElem?_getD,List.getElem?_eq_getElem hj]
  rfl
 rw[e,qK _ _ _(by intro h;rcases List.take_eq_nil_iff.1 h with h |h<;>simp_all),aaV]
 rfl
theorem QF {ts:List(List UInt8)}(b:Bool)(j:Nat):(tks b(ts.take j)).length≤(tks b ts).length:=by
 by_cases h:ts.take j=[]
 ·rw[h];simp[tks]
 ·have:=qK(ts.take j)(ts.drop j)b h
  rw[List.take_append_drop]at this
  rw[this,List.length_append]
  omega
theorem ag4 {ts:List(List UInt8)}(hne:∀t,t∈ts→t≠[]) {j:Nat}(hj:j<ts.length):0<(lB(ts.getD j [])).size:=by
 have hm:ts.getD j []∈ts:=by
  rw[List.getD_eq_getElem?_getD,List.getElem?_eq_getElem hj]
  exact List.getElem_mem hj
 exact List.length_pos_iff.2(hne _ hm)
theorem jf {np:Nat}{l:List Entry}{ks:List aV}{ms:List fQ}{ws:List bH}{rs:List lY}{L:Nat→Option dN}{c:Code}{s s':St}{e:Exit}{k:jZ}(hk:K3 np k)(hl:∀e,e∈l→lg Tryz.prog e)(hks:∀e,e∈ks→tX Tryz.prog e)(hms:∀e,e∈ms→vZ Tryz.prog e)(hws:∀e,e∈ws→vC Tryz.prog e)(hrs:∀e,e∈rs→Xi Tryz.prog e)(hL:ny np Tryz.prog L c)(h:tN Tryz.prog l ks ms ws rs L c s k=some⟨e,s',.any⟩):fG np Tryz.prog c s e s' :=
 Ku hk(gL hl hks hms hws hrs)(iJ(gL hl hks hms hws hrs)(by kernel_rfl))hL h
theorem K7(l:List UInt8)(b u:Bool):Inv(pM l b u)l b u:=⟨by show 0<1;omega,rfl,rfl⟩
theorem Qc(l:List UInt8)(b u:Bool):Inv(sF l b u)l b u:=⟨by show 0<2;omega,rfl,rfl⟩
theorem aaW {mem:List Row}{l:List UInt8}{b u:Bool}(hI:Inv mem l b u)(c:UInt8)(h:l.length≤1000000000):bP Tryz.prog 127 [.own 0 0,yA((c.toNat:Nat):Int)]mem nU(oz mem(l++[c])b u):=xZ hI(fun _=>rfl)(fun _=>rfl)(alu h)
theorem QG {mem:List Row}{l:List UInt8}{b u:Bool}(hI:Inv mem l b u) {s:ByteArray}(h0:0<s.size)(h:l.length+s.size≤1000000000):bP Tryz.prog 128 [.own 0 0,zA s]mem(wsV s)(oz mem(l++bL s)b u):=xZ hI(fun _=>rfl)(fun _=>rfl)(alv h0 h)
theorem awS {mem:List Row}{l:List UInt8}{b u:Bool}(hI:Inv mem l b u)(h:l.length≤1000000000):bP Tryz.prog 127 [.own 0 0,yA 32]mem nU(oz mem(l++[32])b u):=aaW hI 32 h
theorem I6(x:List UInt8):(lB x).size=x.length:=rfl
def ptF(ts:List(List UInt8))(l:List UInt8)(b u:Bool):Nat→St
 | 0=>RB ts(pM l b u)0
 |j+1=>RB ts(sF(l++tks b(ts.take(j+1)))true u)((j+1:Nat):Int)
section
variable {ts:List(List UInt8)}{l:List UInt8}{b u:Bool}
theorem Yt {j:Nat}(hj:j<ts.length)(x y:Option Out):ptC ts((j:Nat):Int)x y=x:=by
 unfold ptC
 rw[dec_lt hj,gy hj]
 rfl
theorem QH(l1 l2:List UInt8)(b u:Bool):∀e,e∈ptW l1 l2 b u→vC Tryz.prog e:=aC aX(aC aX bJ)
theorem ag5(h0:ts≠[])(hne:∀t,t∈ts→t≠[])(hm:ts.length≤100000)(hb:l.length+(tks b ts).length≤900000000):fG 2 Tryz.prog(.loop(au Tryz.f87 0))(RB ts(pM l b u)0)(.exit 0)(RB ts(sF(l++tks b ts)true u)(ts.length:Nat)):=by
 have hpos:0<ts.length:=List.length_pos_iff.2 h0
 refine aU(ptF ts l b u)ts.length(.exit 0)_(by simp)(fun j hj=>?_) ?_
 ·have hs:=ag4 hne hj
  have hl:=QF(ts:=ts)b(j+1)
  have hI:∀i:Nat,tkI ts(i:Nat)=lB(ts.getD i []):=fun i=>by unfold tkI;rw[Int.toNat_natCast]
  cases j with
  |zero =>
   have e0:tks b(ts.take 1)=(if b then [32]else [])++ts.getD 0 []:=by
    rw[show ts.take 1=[ts.getD 0 []]by cases ts with |nil=>exact absurd rfl h0 |cons a r=>rfl,aaV]
   have hz:(0:Int)=((0:Nat):Int):=rfl
   cases b with
   |true =>
    have e1:l++tks true(ts.take 1)=(l++[32])++bL(lB(ts.getD 0 [])):=by rw[e0,jr];simp
    have hl':(l++[32]).length=l.length+1:=by simp
    rw[e0]at hl
    simp only[if_true,List.length_append,List.length_cons,List.length_nil]at hl
    refine jf(jI _(by rfl))aB av bO(QH _ _ _ _)bS aS((awO ts l(l++[32])(l++tks true(ts.take 1))u 0).trans ?_)
    rw[hz,Yt hj]
    unfold ptB ptT
    have hw:bP Tryz.prog 128 [.own 0 0,zA(lB(ts.getD 0 []))](oz(pM l true u)(l++[32])true u)(wsV(lB(ts.getD 0 [])))(oz(oz(pM l true u)(l++[32])true u)(l++tks true(ts.take 1))true u):=by
     rw[e1]
     exact QG(K7 l true u).oz.1 hs(by rw[hl',I6];omega)
    rw[hI,fH(awS(K7 l true u)(by omega)),fH hw]
    rfl
   |false =>
    have e1:l++tks false(ts.take 1)=l++bL(lB(ts.getD 0 [])):=by rw[e0,jr];simp
    rw[e0]at hl
    simp only[Bool.false_eq_true,if_false,List.nil_append]at hl
    refine jf(jI _(by rfl))aB av bO(QH _ _ _ _)bS aS((awQ ts l [](l++tks false(ts.take 1))u 0).trans ?_)
    rw[hz,Yt hj]
    unfold ptT
    have hw:bP Tryz.prog 128 [.own 0 0,zA(lB(ts.getD 0 []))](pM l false u)(wsV(lB(ts.getD 0 [])))(oz(pM l false u)(l++tks false(ts.take 1))false u):=by
     rw[e1]
     exact QG(K7 l false u)hs(by rw[I6];omega)
    rw[hI,fH hw]
    rfl
  |succ j =>
   have e0:=ag3(ts:=ts)b(j:=j+1)(by omega)hj
   have e1:l++tks b(ts.take(j+2))=(l++tks b(ts.take(j+1))++[32])++bL(lB(ts.getD(j+1) [])):=by rw[e0,jr];simp
   have hl':(l++tks b(ts.take(j+1))++[32]).length=l.length+(tks b(ts.take(j+1))).length+1:=by simp[Nat.add_assoc]
   have hl2:(l++tks b(ts.take(j+1))).length=l.length+(tks b(ts.take(j+1))).length:=List.length_append
   rw[show j+1+1=j+2 from rfl,e0]at hl
   simp only[List.length_append,List.length_cons,List.length_nil]at hl
   refine jf(jI _(by rfl))aB av bO(QH _ _ _ _)bS aS((awP ts(l++tks b(ts.take(j+1)))(l++tks b(ts.take(j+1))++[32])(l++tks b(ts.take(j+2)))u((j+1:Nat):Int)).trans ?_)
   rw[Yt hj]
   unfold ptB ptT
   have hw:bP Tryz.prog 128 [.own 0 0,zA(lB(ts.getD(j+1) []))](oz(sF(l++tks b(ts.take(j+1)))true u)(l++tks b(ts.take(j+1))++[32])true u)(wsV(lB(ts.getD(j+1) [])))(oz(oz(sF(l++tks b(ts.take(j+1)))true u)(l++tks b(ts.take(j+1))++[32])true u)(l++tks b(ts.take(j+2)))true u):=by
    rw[e1]
    exact QG(Qc _ true u).oz.1 hs(by rw[hl',I6];omega)
   rw[hI,fH(awS(Qc _ true u)(by rw[hl2];omega)),fH hw,bD(by omega)]
   rfl
 ·obtain⟨k,hk⟩:∃k,ts.length=k+1:=⟨ts.length - 1,by omega⟩
  have et:ts.take(k+1)=ts:=by rw[←hk];exact List.take_length
  have es:ptF ts l b u ts.length=RB ts(sF(l++tks b ts)true u)(ts.length:Nat):=by
   rw[hk]
   show RB ts(sF(l++tks b(ts.take(k+1)))true u)_=_
   rw[et]
  rw[es]
  refine jf(lT _(by rfl))aB av bO(QH _ _ _ _)bS aS((arf ts(l++tks b ts) [] []u(ts.length:Nat)).trans ?_)
  unfold ptC
  rw[bQ]
  rfl
theorem ag6(h0:ts≠[])(hne:∀t,t∈ts→t≠[])(hm:ts.length≤100000)(hb:l.length+(tks b ts).length≤900000000):cu Tryz.prog 87 [.own 0 0,tkA ts](pM l b u)(.aN [])(sF(l++tks b ts)true u):=by
 refine bM aB av bO bJ bS Tryz.arh(by kernel_rfl)(by kernel_rfl)(mem:=pM l b u)(zq(i:=1)1(by kernel_rfl)fun j hj _=>?_)rfl(τ:=[some 0,some 1,some 2])(by rfl)((awR ts l(l++tks b ts)b u).trans ?_)
 ·have:j=0:=by omega
  subst this
  exact jy(by rfl)(ag5 h0 hne hm hb)
 ·rw[ah(iV.refl _)]
end
def Pr(f:Nat)(args:List AV)(E:Bool→List UInt8)(bad bf:Bool):Prop:=∀l b u,l.length+(E b).length≤900000000→cu Tryz.prog f(.own 0 0::args)(pM l b u)(.aN [])(sF(l++E b)bf(u||bad))
inductive Itm where
 |w(f:Nat)(a:List AV)(bf:Bool)
 |g(p:Prop)
 |n(t:Bool)
def Cb(t:Bool)(m:List Row):List Row:=match m with
 |.t T [a,o,b,.x(.bool u)]::r=>.t T [a,o,b,bA(cond u true(!t))]::r
 |m=>m
noncomputable def tQ(L:Nat→List UInt8)(U:Nat→Bool):List Itm→List Row→(List Row→Option Out)→Option Out
 | [],m,k=>k m
 |.w f a bf::r,m,k=>cond(iY(bP Tryz.prog f(.own 0 0::a)m(.aN [])(oz m(L m.length)bf(U m.length))))(tQ L U r(oz m(L m.length)bf(U m.length))k)none
 |.g p::r,m,k=>gate p(tQ L U r m k)
 |.n t::r,m,k=>cond(iY(bP Tryz.prog 133 [.own 0 0,bA t]m(.aN [])(Cb t m)))(tQ L U r(Cb t m)k)none
noncomputable def wP(f:Nat)(bf:Bool)(L:Nat→List UInt8)(U:Nat→Bool):bH:=wQ Tryz.prog f(fun _ _=>.aN [])(fun _ mem=>oz mem(L mem.length)bf(U mem.length))
noncomputable def wNd:bH:=wQ Tryz.prog 133(fun _ _=>.aN [])(fun a mem=>match a with
 | [_,.x(.bool t)]=>Cb t mem
 |_=>mem)
theorem bX {f:Nat}{bf:Bool}{L:Nat→List UInt8}{U:Nat→Bool}:vC Tryz.prog(wP f bf L U):=aX
theorem u6:vC Tryz.prog wNd:=aX
def cmp(m:List Row):List Row:=match m with
 |.t T [a,.fJ k s o n,b,u]::r=>[.t T [a,.fJ 2 s o n,b,u],.dead,r.getD(k - 1) .dead]
 |_=>[]
theorem Inv.cmp {mem:List Row}{l:List UInt8}{b u:Bool}(h:Inv mem l b u):cmp mem=sF l b u:=by
 obtain⟨k,r,rfl,h2,h3⟩:=h.cons
 show [_,_,r.getD k .dead]=_
 rw[List.getD_eq_getElem?_getD,h2]
 rfl
section
variable(l:List UInt8)(b u t:Bool)
theorem axE:eu Tryz.prog [] [] [] [] []aM Tryz.f133 [.own 0 0,bA t](pM l b u) [some 0,some 1]=fD(.aN [])(pM l b(cond u true(!t))):=by kernel_rfl
end
theorem ade(l:List UInt8)(b u t:Bool):cu Tryz.prog 133 [.own 0 0,bA t](pM l b u)(.aN [])(pM l b(cond u true(!t))) :=
 bM aB av bO bJ bS Tryz.az7(by kernel_rfl)(by kernel_rfl)(mem:=pM l b u)aS rfl(τ:=[some 0,some 1])(by rfl)(axE l b u t)
theorem Inv.need {mem:List Row}{l:List UInt8}{b u:Bool}(h:Inv mem l b u)(t:Bool):Inv(Cb t mem)l b(cond u true(!t))∧(Cb t mem).length=mem.length:=by
 obtain⟨k,r,rfl,h2,h3⟩:=h.cons
 exact⟨⟨by show 0<k+1;omega,rfl,h2⟩,rfl⟩
theorem Ob {mem:List Row}{l:List UInt8}{b u:Bool}(hI:Inv mem l b u)(t:Bool):bP Tryz.prog 133 [.own 0 0,bA t]mem(.aN [])(Cb t mem):=by
 obtain⟨k,rs,rfl,h2,h3⟩:=hI.cons
 have hk:k<rs.length:=(List.getElem?_eq_some_iff.1 h2).1
 refine xM(v:=.aN [])(ade l b u t) [0,k+1]rfl(by show(_&&(_&&true))=true;simp)rfl(fun i j hi=>?_)⟨fun j hj hl=>?_,fun i j r hi hr=>?_,fun i r hi hr=>?_⟩
 ·match i,hi with
  | 0,hi=>simp at hi;subst hi;exact⟨_,rfl,rfl,by simp[iX,gP,jw,oK,List.findIdx?_cons,pM,Gf,bA]⟩
  | 1,hi =>
   simp at hi
   subst hi
   refine⟨bR l,by simpa using h2,rfl,rfl⟩
  |n+2,hi=>simp at hi
 ·have h0:j≠0:=fun e=>hj(by simp[e])
  obtain⟨q,rfl⟩:∃q,j=q+1:=⟨j - 1,by omega⟩
  rfl
 ·match i,hi with
  | 0,hi =>
   simp at hi;subst hi
   cases hr
   show some _=some _
   simp[iX,gP,jw,CV,Gf,bA]
  | 1,hi =>
   simp at hi;subst hi
   cases hr
   show rs[k]?=_
   rw[h2]
   rfl
  |n+2,hi=>simp at hi
 ·match i,hi,hr with
  | 0,hi,_=>exact absurd hi(by show ¬ 2≤0;omega)
  | 1,hi,_=>exact absurd hi(by show ¬ 2≤1;omega)
  |n+2,_,hr=>cases hr
inductive SI where
 |w(f:Nat)(a:List AV)(E:Bool→List UInt8)(bad bf:Bool)
 |g(p:Prop)
 |n(t:Bool)
def SI.itm:SI→Itm
 |.w f a _ _ bf=>.w f a bf
 |.g p=>.g p
 |.n t=>.n t
def SI.ok:SI→Prop
 |.w f a E bad bf=>Pr f a E bad bf∧∀g,gP g a=a
 |.g p=>p
 |.n _=>True
def comp:List SI→Bool→List UInt8
 | [],_=>[]
 |.w _ _ E _ bf::r,b=>E b++comp r bf
 |.g _::r,b=>comp r b
 |.n _::r,b=>comp r b
def fU:List SI→Bool
 | []=>false
 |.w _ _ _ bad _::r=>bad||fU r
 |.g _::r=>fU r
 |.n t::r=>!t||fU r
def cbf:List SI→Bool→Bool
 | [],b=>b
 |.w _ _ _ _ bf::r,_=>cbf r bf
 |.g _::r,b=>cbf r b
 |.n _::r,b=>cbf r b
def LU:List SI→List UInt8→Bool→Bool→List(List UInt8 × Bool)
 | [],_,_,_=>[]
 |.w _ _ E bad bf::r,l,b,u=>(l++E b,u||bad)::LU r(l++E b)bf(u||bad)
 |.g _::r,l,b,u=>LU r l b u
 |.n t::r,l,b,u=>LU r l b(cond u true(!t))
theorem AX:∀(its:List SI)(Z:List(List UInt8 × Bool))(n0:Nat)(m:List Row)(l:List UInt8)(b u:Bool)(k:List Row→Option Out),Inv m l b u→n0≤m.length→(∀i,(LU its l b u)[i]?≠none→Z[m.length - n0+i]?=(LU its l b u)[i]?)→(∀i,i∈its→i.ok)→l.length+(comp its b).length≤900000000 →
  ∃m',Inv m'(l++comp its b)(cbf its b)(u||fU its)∧tQ(fun n=>(Z.getD(n - n0)([],false)).1)(fun n=>(Z.getD(n - n0)([],false)).2)(its.map SI.itm)m k=k m'
 | [],Z,n0,m,l,b,u,k,hI,_,_,_,_=>⟨m,by simpa[comp,fU,cbf]using hI,rfl⟩
 |.g p::r,Z,n0,m,l,b,u,k,hI,h0,hZ,hok,hl=>by
  have hp:p:=hok(.g p)(by simp)
  obtain⟨m',h1,h2⟩:=AX r Z n0 m l b u k hI h0 hZ(fun i hi=>hok i(by simp[hi]))hl
  refine⟨m',h1,?_⟩
  show gate p _=_
  rw[ah hp]
  exact h2
 |.n t::r,Z,n0,m,l,b,u,k,hI,h0,hZ,hok,hl=>by
  obtain⟨hI',hlen⟩:=hI.need t
  obtain⟨m',h1,h2⟩:=AX r Z n0(Cb t m)l b(cond u true(!t))k hI'(by rw[hlen];exact h0)(by rw[hlen];exact hZ)(fun i hi=>hok i(by simp[hi]))hl
  refine⟨m',?_,?_⟩
  ·have e:(u||(!t||fU r))=(cond u true(!t)||fU r):=by cases u<;>rfl
   show Inv m'(l++comp r b)(cbf r b)(u||(!t||fU r))
   rw[e]
   exact h1
  ·show cond(iY _)_ none=_
   rw[fH(Ob hI t)]
   exact h2
 |.w f a E bad bf::r,Z,n0,m,l,b,u,k,hI,h0,hZ,hok,hl=>by
  obtain⟨hP,ha⟩:SI.ok(.w f a E bad bf):=hok(.w f a E bad bf)(by simp)
  have hl':l.length+((E b).length+(comp r bf).length)≤900000000:=by
   have:(comp(.w f a E bad bf::r)b).length=(E b).length+(comp r bf).length:=List.length_append
   omega
  obtain⟨hI',hlen⟩:=hI.oz(l':=l++E b)(b':=bf)(u':=u||bad)
  have hz:Z.getD(m.length - n0)([],false)=(l++E b,u||bad):=by
   have:=hZ 0(by simp[LU])
   rw[Nat.add_zero]at this
   rw[List.getD_eq_getElem?_getD,this]
   rfl
  obtain⟨m',h1,h2⟩:=AX r Z n0(oz m(l++E b)bf(u||bad))(l++E b)bf(u||bad)k hI'(by rw[hlen];omega)(fun i hi=>by
   have:=hZ(i+1)(by simpa[LU]using hi)
   rw[hlen,show m.length+1 - n0+i=m.length - n0+(i+1)by omega,this]
   rfl)(fun i hi=>hok i(by simp[hi]))(by rw[List.length_append];omega)
  refine⟨m',?_,?_⟩
  ·have e1:l++comp(.w f a E bad bf::r)b=l++E b++comp r bf:=(List.append_assoc _ _ _).symm
   have e2:(u||fU(.w f a E bad bf::r))=(u||bad||fU r):=(Bool.or_assoc _ _ _).symm
   rw[e1,e2]
   exact h1
  ·show cond(iY(bP Tryz.prog f(.own 0 0::a)m(.aN [])(oz m(Z.getD(m.length - n0)([],false)).1 bf(Z.getD(m.length - n0)([],false)).2)))(tQ _ _(r.map SI.itm)(oz m(Z.getD(m.length - n0)([],false)).1 bf(Z.getD(m.length - n0)([],false)).2)k)none=_
   rw[hz,fH(xZ hI ha(fun _=>rfl)(hP l b u(by omega)))]
   exact h2
theorem aav {l:List UInt8}{b u:Bool}(r:List Row):Inv(pM l b u++r)l b u:=⟨by show 0<1;omega,rfl,rfl⟩
theorem mX {f:Nat}{args:List AV}{bx:List Row}(its:List SI)(hok:∀i,i∈its→i.ok)
  (h:∀L U l b u,tQ L U(its.map SI.itm)(pM l b u++bx)(fun m=>fD(.aN [])(cmp m))=fD(.aN [])(sF(l++comp its b)(cbf its b)(u||fU its))→cu Tryz.prog f(.own 0 0::args)(pM l b u)(.aN [])(sF(l++comp its b)(cbf its b)(u||fU its)))
  {E:Bool→List UInt8}{bad bf:Bool}(hE:comp its=E)(hbad:fU its=bad)(hbf:∀b,cbf its b=bf):Pr f args E bad bf:=fun l b u hl=>by
 subst hE hbad
 obtain⟨m',h1,h2⟩:=AX its(LU its l b u)(pM l b u++bx).length(pM l b u++bx)l b u(fun m=>fD(.aN [])(cmp m))(aav bx)(Nat.le_refl _)(fun i _=>by rw[Nat.sub_self,Nat.zero_add])hok hl
 have:=h _ _ l b u(h2.trans(by rw[h1.cmp]))
 rw[hbf]at this
 exact this
theorem asZ {ts:List(List UInt8)}(h0:ts≠[])(hne:∀t,t∈ts→t≠[])(hm:ts.length≤100000):Pr 87 [tkA ts](fun b=>tks b ts)false true:=fun l b u hl=>by
 rw[Bool.or_false]
 exact ag6 h0 hne hm hl
def typed(t:Nat):fQ:=⟨am7 t,fun _ _ _=>none,none⟩
theorem UD {P:Program}(t:Nat):vZ P(typed t):=⟨⟨fun _ _ _ _ h=>(by cases h),fun _ _ _ _ _ _ h=>(by cases h)⟩,fun _ h=>(by cases h)⟩
def born(t:Nat):fQ:=⟨aez t,fun _ _ _=>none,none⟩
theorem iK {P:Program}(t:Nat):vZ P(born t):=⟨⟨fun _ _ _ _ h=>(by cases h),fun _ _ _ _ _ _ h=>(by cases h)⟩,fun _ h=>(by cases h)⟩
def tT(ts:List(List UInt8)):AV:=.sl 1 ts.length(chunk(ts.map fun t=>zA(lB t))1)
def Zn(xs:List Nat):AV:=.sl 1 xs.length(chunk(xs.map .f)1)
def gIt:List AV→AV
 | [.x(.int _ n)]=>zA(lB(Lib.itoa n))
 |_=>.any
def gDc(dc:Int→List UInt8):List AV→AV
 | [.x(.int _ n)]=>zA(lB(dc n))
 |_=>.any
def gTh(tn:Nat→Int)(tb:Nat→Bool):List AV→AV
 | [.f w]=>.aN [iA(tn w),bA(tb w)]
 |_=>.any
noncomputable def kIt:aV:=kS Tryz.prog 129 gIt
noncomputable def kNm(nm:Int→List UInt8):aV:=kS Tryz.prog 130(gDc nm)
noncomputable def kDc(dc:Int→List UInt8):aV:=kS Tryz.prog 131(gDc dc)
noncomputable def kTh(tn:Nat→Int)(tb:Nat→Bool):aV:=kS Tryz.prog 153(gTh tn tb)
def J7(n:Int):Prop:=aj Tryz.prog 129 [iA n](zA(lB(Lib.itoa n)))
def Xn(nm:Int→List UInt8)(n:Int):Prop:=aj Tryz.prog 130 [iA n](zA(lB(nm n)))
def FDc(dc:Int→List UInt8)(n:Int):Prop:=aj Tryz.prog 131 [iA n](zA(lB(dc n)))
def FTh(tn:Nat→Int)(tb:Nat→Bool)(w:Nat):Prop:=aj Tryz.prog 153 [.f w](.aN [iA(tn w),bA(tb w)])
abbrev wU:List fQ:=[born 57,born 88]
section
variable(L:Nat→List UInt8)(U:Nat→Bool)(l l1 l2:List UInt8)(b u u1:Bool)(nm dc:Int→List UInt8)(tn:Nat→Int)(tb:Nat→Bool)
def ko(ts:List(List UInt8)):Itm:=.w 87 [tT ts]true
def agR:Itm:=.w 89 []false
def amb(a b c:Nat):AV:=.agg [.f a,.f b,.f c]
def F3(a b c:Nat):Itm:=.w 125 [amb a b c]true
def iFl(xs:List Nat):Itm:=.w 126 [Zn xs]true
def iWh(f:Nat→Int):Itm:=.w 88 [.agg [iA(f 0),iA(f 1),iA(f 2)]]true
noncomputable def Ec:bH:=wP 87 true L U
noncomputable def agQ:bH:=wP 89 false L U
noncomputable def wVc:bH:=wP 125 true L U
noncomputable def wFl:bH:=wP 126 true L U
noncomputable def wWh:bH:=wP 88 true L U
noncomputable def kF(m:List Row):Option Out:=fD(.aN [])(cmp m)
theorem atr:eu Tryz.prog [] []wU [wQ Tryz.prog 87(fun _ _=>.aN [])(fun _ mem=>oz mem l1 true u),wQ Tryz.prog 127(fun _ _=>nU)(fun _ mem=>oz mem l2 true u)] []aM Tryz.f89 [.own 0 0](pM l b u) [some 0,some 1,some 3] =
 cond(iY(bP Tryz.prog 87 [.own 0 0,tT [[59]]](pM l b u)(.aN [])(oz(pM l b u)l1 true u)))(cond(iY(bP Tryz.prog 127 [.own 0 0,yA 10](oz(pM l b u)l1 true u)nU(oz(oz(pM l b u)l1 true u)l2 true u)))(fD(.aN [])(sF l2 false u))none)none:=by kernel_rfl
theorem amH(k:Int):eu Tryz.prog [] [kNm nm]wU [Ec L U,agQ L U] []aM Tryz.f93 [.own 0 0,iA k](pM l b u) [some 0,some 1,some 3]=tQ L U [.g(Xn nm k),ko [nm k],agR](pM l b u)kF:=by kernel_rfl
theorem adj(f:Nat→Int):eu Tryz.prog [] [kIt]wU [Ec L U] []aM Tryz.f88 [.own 0 0,.agg [iA(f 0),iA(f 1),iA(f 2)]](pM l b u) [some 0,some 1,some 5]=tQ L U [.g(J7(f 0)),ko [Lib.itoa(f 0)],.g(J7(f 1)),ko [Lib.itoa(f 1)],.g(J7(f 2)),ko [Lib.itoa(f 2)]](pM l b u++[.c [iA(f 0),iA(f 1),iA(f 2)]])kF:=by kernel_rfl
def amI(x:Nat):List Itm:=[.g(FTh tn tb x),.n(tb x),.g(FDc dc(tn x)),ko [dc(tn x)]]
theorem att(x:Nat):eu Tryz.prog [] [kTh tn tb,kDc dc]wU [Ec L U,wNd] []aM Tryz.f126 [.own 0 0,Zn [x]](pM l b u) [some 0,some 1,some 2]=tQ L U(amI dc tn tb x)(pM l b u)kF:=by kernel_rfl
theorem atu(x y z:Nat):eu Tryz.prog [] [kTh tn tb,kDc dc]wU [Ec L U,wNd] []aM Tryz.f126 [.own 0 0,Zn [x,y,z]](pM l b u) [some 0,some 1,some 4]=tQ L U(amI dc tn tb x++(amI dc tn tb y++amI dc tn tb z))(pM l b u)kF:=by kernel_rfl
theorem atv(x y z:Nat):eu Tryz.prog [] []wU [wFl L U] []aM Tryz.f125 [.own 0 0,amb x y z](pM l b u) [some 0,some 1,some 3]=tQ L U [iFl [x,y,z]](pM l b u++[.c [.f x,.f y,.f z]])kF:=by kernel_rfl
theorem amc(a:Nat→Nat)(f:Nat→Int):eu Tryz.prog [] []wU [Ec L U,wVc L U,wWh L U,agQ L U] []aM Tryz.f91 [.own 0 0,.agg [.f(a 0),.f(a 1),.f(a 2),iA(f 0),iA(f 1),iA(f 2)]](pM l b u) [some 0,some 1,some 7] =
 tQ L U [ko [[108,97,109,112]],F3(a 0)(a 1)(a 2),ko [[108,105,103,104,116]],iWh f,agR](pM l b u++[.c [.f(a 0),.f(a 1),.f(a 2),iA(f 0),iA(f 1),iA(f 2)]])kF:=by kernel_rfl
end
theorem gG:∀e,e∈wU→vZ Tryz.prog e:=jl(iK _)(jl(iK _)bO)
theorem adk {f:Nat}{a a' r:AV}{mem mem':List Row}(ha:∀E u,rel E a u→rel E a' u)(k:cu Tryz.prog f [.own 0 0,a']mem r mem'):cu Tryz.prog f [.own 0 0,a]mem r mem':=by
 refine⟨k.1,fun R E aZ hp hW hg hr=>k.2 R E aZ hp hW hg ?_⟩
 obtain⟨u,us,e1,r1,r2⟩:=aH.1 hr
 obtain⟨u2,us2,e2,r3,r4⟩:=aH.1 r2
 exact aH.2⟨u,us,e1,r1,aH.2⟨u2,us2,e2,ha E u2 r3,r4⟩⟩
theorem adl {l:List AV}{i:Nat}(h:i<l.length):chunk l 1 i=[l[i]]:=by
 unfold chunk
 rw[Nat.mul_one,List.drop_eq_getElem_cons h]
 rfl
theorem amJ(ts:List(List UInt8))(E:Env)(u:Value)(h:rel E(tT ts)u):rel E(tkA ts)u:=by
 refine El h fun i hi=>?_
 rw[adl(by simpa using hi),List.getD_eq_getElem?_getD,List.getElem?_eq_getElem hi]
 simp
theorem Qd {ts:List(List UInt8)}(h0:ts≠[])(hne:∀t,t∈ts→t≠[])(hm:ts.length≤100000):Pr 87 [tT ts](fun b=>tks b ts)false true:=fun l b u hl=>adk(amJ ts)(asZ h0 hne hm l b u hl)
theorem XH {t:List UInt8}(h:t≠[]):Pr 87 [tT [t]](fun b=>tks b [t])false true:=Qd(by simp)(fun x hx=>by simp at hx;subst hx;exact h)(by simp)
def ku(t:List UInt8):SI:=.w 87 [tT [t]](fun b=>tks b [t])false true
theorem fq {t:List UInt8}(h:t≠[]):(ku t).ok:=⟨XH h,fun _=>rfl⟩
theorem atw:Pr 89 [](fun b=>tks b [[59]]++[10])false false:=fun l b u hl=>by
 rw[Bool.or_false]
 have hl1:(l++tks b [[59]]).length=l.length+(tks b [[59]]).length:=List.length_append
 have hl2:l.length+((tks b [[59]]).length+1)≤900000000:=by simpa using hl
 have h1:bP Tryz.prog 87 [.own 0 0,tT [[59]]](pM l b u)(.aN [])(oz(pM l b u)(l++tks b [[59]])true u):=by
  have:=XH(t:=[59])(by simp)l b u(by show l.length+(tks b [[59]]).length≤_;omega)
  rw[Bool.or_false]at this
  exact xZ(K7 l b u)(fun _=>rfl)(fun _=>rfl)this
 have h2:bP Tryz.prog 127 [.own 0 0,yA 10](oz(pM l b u)(l++tks b [[59]])true u)nU(oz(oz(pM l b u)(l++tks b [[59]])true u)(l++tks b [[59]]++[10])true u):=aaW(K7 l b u).oz.1 10(by omega)
 rw[←List.append_assoc]
 refine bM aB av gG(aC aX(aC aX bJ))bS Tryz.aCA(by kernel_rfl)(by kernel_rfl)(mem:=pM l b u)aS rfl(τ:=[some 0,some 1,some 3])(by rfl)((atr l(l++tks b [[59]])(l++tks b [[59]]++[10])b u).trans ?_)
 rw[fH h1,fH h2]
 rfl
def iD(b:Bool)(ts:List(List UInt8)):List UInt8:=tks b(ts++[[59]])++[10]
def Tn:SI:=.w 89 [](fun b=>tks b [[59]]++[10])false false
theorem Eh:Tn.ok:=⟨atw,fun _=>rfl⟩
theorem iO {P:SI→Prop}:∀i,i∈([]:List SI)→P i:=fun _ h=>by cases h
theorem aJ {P:SI→Prop}{x:SI}{l:List SI}(h:P x)(hl:∀i,i∈l→P i):∀i,i∈x::l→P i:=fun i hi=>by
 rcases List.mem_cons.1 hi with rfl |hi
 ·exact h
 ·exact hl i hi
def oM(k:Int):List UInt8:=115::Lib.itoa k
theorem ajP {k:Int}(hn:Xn oM k):Pr 93 [iA k](fun b=>iD b [oM k])false false :=
 mX(bx:=[]) [.g(Xn oM k),ku(oM k),Tn](aJ hn(aJ(fq(by unfold oM;simp))(aJ Eh iO)))
  (fun L U l b u h=>bM aB(ak aD av)gG(aC bX(aC bX bJ))bS Tryz.aCB(by kernel_rfl)(by kernel_rfl)(mem:=pM l b u)aS rfl(τ:=[some 0,some 1,some 3])(by rfl)((amH L U l b u oM k).trans h))
  (by funext b;simp[comp,ku,Tn,tks,iD])rfl(fun _=>rfl)
theorem ac1 {f:Nat→Int}(h:∀q,q<3→J7(f q)∧Lib.itoa(f q)≠[]):Pr 88 [.agg [iA(f 0),iA(f 1),iA(f 2)]](fun b=>tks b [Lib.itoa(f 0),Lib.itoa(f 1),Lib.itoa(f 2)])false true :=
 mX(bx:=[.c [iA(f 0),iA(f 1),iA(f 2)]]) [.g(J7(f 0)),ku(Lib.itoa(f 0)),.g(J7(f 1)),ku(Lib.itoa(f 1)),.g(J7(f 2)),ku(Lib.itoa(f 2))]
  (aJ(h 0(by omega)).1 <|aJ(fq(h 0(by omega)).2) <|aJ(h 1(by omega)).1 <|aJ(fq(h 1(by omega)).2) <|aJ(h 2(by omega)).1 <|aJ(fq(h 2(by omega)).2)iO)
  (fun L U l b u h=>bM aB(ak aD av)gG(aC bX bJ)bS Tryz.aCC(by kernel_rfl)(by kernel_rfl)(mem:=pM l b u)aS rfl(τ:=[some 0,some 1,some 5])(by rfl)((adj L U l b u f).trans h))
  (by funext b;simp[comp,ku,tks])rfl(fun _=>rfl)
section
variable {dc:Int→List UInt8}{tn:Nat→Int}{tb:Nat→Bool}
structure Nu(dc:Int→List UInt8)(tn:Nat→Int)(tb:Nat→Bool)(x:Nat):Prop where
 th:FTh tn tb x
 de:FDc dc(tn x)
 ne:dc(tn x)≠[]
def Rv(dc:Int→List UInt8)(tn:Nat→Int)(tb:Nat→Bool)(x:Nat):List SI:=[.g(FTh tn tb x),.n(tb x),.g(FDc dc(tn x)),ku(dc(tn x))]
theorem Jc {x:Nat}(h:Nu dc tn tb x):∀i,i∈Rv dc tn tb x→i.ok:=aJ h.th <|aJ trivial <|aJ h.de <|aJ(fq h.ne)iO
theorem asr {x:Nat}(h:Nu dc tn tb x):Pr 126 [Zn [x]](fun b=>tks b [dc(tn x)])(!(tb x))true :=
 mX(bx:=[])(Rv dc tn tb x)(Jc h)
  (fun L U l b u h=>bM aB(ak aD(ak aD av))gG(aC bX(aC u6 bJ))bS Tryz.amK(by kernel_rfl)(by kernel_rfl)(mem:=pM l b u)aS rfl(τ:=[some 0,some 1,some 2])(by rfl)((att L U l b u dc tn tb x).trans h))
  (by funext b;simp[comp,Rv,ku,tks])(by simp[fU,Rv,ku])(fun _=>rfl)
theorem atx {x y z:Nat}(hx:Nu dc tn tb x)(hy:Nu dc tn tb y)(hz:Nu dc tn tb z):Pr 126 [Zn [x,y,z]](fun b=>tks b [dc(tn x),dc(tn y),dc(tn z)])(!(tb x)||(!(tb y)||!(tb z)))true :=
  mX (bx:=[])(Rv dc tn tb x++(Rv dc tn tb y++Rv dc tn tb z))(fun i hi=>by
      rcases List.mem_append.1 hi with hi |hi
      · exact Jc hx i hi
      · rcases List.mem_append.1 hi with hi |hi
        · exact Jc hy i hi
        · exact Jc hz i hi)
    (fun L U l b u h=>bM aB(ak aD(ak aD av))gG(aC bX(aC u6 bJ))bS Tryz.amK(by kernel_rfl)(by kernel_rfl)(mem:=pM l b u)aS rfl(τ:=[some 0,some 1,some 4])(by rfl)((atu L U l b u dc tn tb x y z).trans h))
    (by funext b;simp[comp,Rv,ku,tks])(by simp[fU,Rv,ku])(fun _=>rfl)
def Jy(dc:Int→List UInt8)(tn:Nat→Int)(x:Nat):List UInt8:=dc(tn x)
def aky(tb:Nat→Bool)(x y z:Nat):Bool:=!(tb x)||(!(tb y)||!(tb z))
theorem asq {x y z:Nat}(hx:Nu dc tn tb x)(hy:Nu dc tn tb y)(hz:Nu dc tn tb z):Pr 125 [amb x y z](fun b=>tks b [Jy dc tn x,Jy dc tn y,Jy dc tn z])(aky tb x y z)true :=
 mX(bx:=[.c [.f x,.f y,.f z]]) [.w 126 [Zn [x,y,z]](fun b=>tks b [Jy dc tn x,Jy dc tn y,Jy dc tn z])(aky tb x y z)true](aJ⟨atx hx hy hz,fun _=>rfl⟩iO)
  (fun L U l b u h=>bM aB av gG(aC bX bJ)bS Tryz.aAb(by kernel_rfl)(by kernel_rfl)(mem:=pM l b u)aS rfl(τ:=[some 0,some 1,some 3])(by rfl)((atv L U l b u x y z).trans h))
  (by funext b;simp[comp])(by simp[fU])(fun _=>rfl)
end
end Go.Proofs.YtefphimaggjihaaGreatDoor.Pi
namespace Go.Ev
open Go.RowKit
def fabs(x:Nat):Nat:=cond(aL x)uT(x % 9223372036854775808)
end Go.Ev
namespace Go.Gv
open Go.RowKit Go.Ev
end Go.Gv
namespace Go.Proofs.YtefphimaggjihaaGreatDoor.Hs
open Go.Gv
open Go.Ev (cn bq dI bT fdiv d9 fI dK jO kL gN lK fabs)
abbrev V(a b c:Nat):AV:=.agg [.f a,.f b,.f c]
def one:Nat:=4607182418800017408
def eP(x:Nat):Bool:=cond(lK x 13920209183539462144)(kL x 4696837146684686336)false
def dL(a b c:Nat):Bool:=cond(cond(eP a)(eP b)false)(eP c)false
def abK(a b c d e f:Nat):Nat:=bq(bq(bT a d)(bT b e))(bT c f)
def RU(b c e f:Nat):Nat:=dI(bT b f)(bT c e)
def iT(a b c:Nat):Nat:=d9(abK a b c a b c)
def uf(a b:Nat):Nat:=cond(jO b a)b a
def ug(a b:Nat):Nat:=cond(gN b a)b a
def eF(g:Nat→AV):List AV→Option AV
 | [.f a]=>some(g a)
 |_=>none
def eFF(g:Nat→Nat→AV):List AV→Option AV
 | [.f a,.f b]=>some(g a b)
 |_=>none
def eV(g:Nat→Nat→Nat→AV):List AV→Option AV
 | [.agg [.f a,.f b,.f c]]=>some(g a b c)
 |_=>none
def Zt(g:Nat→Nat→Nat→Nat→Nat→Nat→AV):List AV→Option AV
 | [.agg [.f a,.f b,.f c],.agg [.f d,.f e,.f f]]=>some(g a b c d e f)
 |_=>none
def eVF(g:Nat→Nat→Nat→Nat→AV):List AV→Option AV
 | [.agg [.f a,.f b,.f c],.f d]=>some(g a b c d)
 |_=>none
theorem aaB {f:Nat}{g:Nat→AV}(h:∀a,aj Tryz.prog f [.f a](g a)):lg Tryz.prog⟨f,eF g⟩:=fun args r hr=>by
 simp only[eF]at hr
 split at hr
 ·cases hr;exact Or.inl(h _)
 ·cases hr
theorem Fq {f:Nat}{g:Nat→Nat→AV}(h:∀a b,aj Tryz.prog f [.f a,.f b](g a b)):lg Tryz.prog⟨f,eFF g⟩:=fun args r hr=>by
 simp only[eFF]at hr
 split at hr
 ·cases hr;exact Or.inl(h _ _)
 ·cases hr
theorem tZ {f:Nat}{g:Nat→Nat→Nat→AV}(h:∀a b c,aj Tryz.prog f [V a b c](g a b c)):lg Tryz.prog⟨f,eV g⟩:=fun args r hr=>by
 simp only[eV]at hr
 split at hr
 ·cases hr;exact Or.inl(h _ _ _)
 ·cases hr
theorem ql {f:Nat}{g:Nat→Nat→Nat→Nat→Nat→Nat→AV}(h:∀a b c d e f',aj Tryz.prog f [V a b c,V d e f'](g a b c d e f')):lg Tryz.prog⟨f,Zt g⟩:=fun args r hr=>by
 simp only[Zt]at hr
 split at hr
 ·cases hr;exact Or.inl(h _ _ _ _ _ _)
 ·cases hr
theorem P7 {f:Nat}{g:Nat→Nat→Nat→Nat→AV}(h:∀a b c d,aj Tryz.prog f [V a b c,.f d](g a b c d)):lg Tryz.prog⟨f,eVF g⟩:=fun args r hr=>by
 simp only[eVF]at hr
 split at hr
 ·cases hr;exact Or.inl(h _ _ _ _)
 ·cases hr
def ls(l:List Nat):Nat→Nat:=fun i=>l.getD i 0
abbrev BX(m:Nat→Nat):AV:=.agg [.f(m 0),.f(m 1),.f(m 2),.f(m 3),.f(m 4),.f(m 5)]
def eB(g:(Nat→Nat)→AV):List AV→Option AV
 | [.agg [.f a,.f b,.f c,.f d,.f e,.f f]]=>some(g(ls [a,b,c,d,e,f]))
 |_=>none
def eBB(g:(Nat→Nat)→(Nat→Nat)→AV):List AV→Option AV
 | [.agg [.f a,.f b,.f c,.f d,.f e,.f f],.agg [.f a',.f b',.f c',.f d',.f e',.f f']]=>some(g(ls [a,b,c,d,e,f])(ls [a',b',c',d',e',f']))
 |_=>none
theorem anj {f:Nat}{g:(Nat→Nat)→AV}(h:∀a,aj Tryz.prog f [BX a](g a)):lg Tryz.prog⟨f,eB g⟩:=fun args r hr=>by
 simp only[eB]at hr
 split at hr
 ·cases hr;exact Or.inl(h(ls [_,_,_,_,_,_]))
 ·cases hr
theorem aqo {f:Nat}{g:(Nat→Nat)→(Nat→Nat)→AV}(h:∀a b,aj Tryz.prog f [BX a,BX b](g a b)):lg Tryz.prog⟨f,eBB g⟩:=fun args r hr=>by
 simp only[eBB]at hr
 split at hr
 ·cases hr;exact Or.inl(h(ls [_,_,_,_,_,_])(ls [_,_,_,_,_,_]))
 ·cases hr
theorem sp {l : List Entry} (hl : ∀ e, e ∈ l → lg Tryz.prog e) {f : Nat} {fn : Func} (hf : Tryz.prog.funcs[f]? = some fn) (hnm : (fn.name == "runtime.NumGoroutine") = false) (hb : fn.body = some (dG fn)) {args : List AV} (hlen : Nat.ble args.length fn.ntmps = true) {r : AV}
  (h:ev Tryz.prog l []aM fn args ret=some(Out.of r)):aj Tryz.prog f args r:=aP hl av hf hnm hb aA hlen h
end Go.Proofs.YtefphimaggjihaaGreatDoor.Hs
namespace Go.Ev
open Go.RowKit
theorem aix(P:Program)(w:World)(b:Nat):∃r w',(Extern.MathSqrt.sqrt #[.float .f64 b]).run P w=.ok(.float .f64 r)w'∧(w'=w∨w'=w.drew)∧cn r=d9(cn b):=by
 have e:Extern.MathSqrt.sqrt #[.float .f64 b]=(match FloatKind.f64.format.sqrt b with
  |some r=>(pure(.float .f64 r):Sem Value)
  |none=>do pure(.float .f64(←choose(.nanBits .f64 b b)))):=rfl
 rw[e]
 unfold d9
 rw[akU]
 cases h:Ieee.double.sqrt b with
 |some r =>
  refine⟨r,w,?_,Or.inl rfl,?_⟩
  ·have h':FloatKind.f64.format.sqrt b=some r:=h
   simp[h']
  ·rw[iI(X6 h)];rfl
 |none =>
  refine⟨(Question.nanBits .f64 b b).cut(w.tape w.drawn(.nanBits .f64 b b)),w.drew,?_,Or.inr rfl,?_⟩
  ·have h':FloatKind.f64.format.sqrt b=none:=h
   simp[h',Question.forced]
  ·rw[wI(NW _ _ _)];rfl
end Go.Ev
namespace Go.Proofs.YtefphimaggjihaaGreatDoor
open Go.Gv
open Go.Ev (cn bq dI bT fdiv d9 fI dK jO kL gN lK fabs)
theorem ayf {f : Nat} {fn : Func} (hf : Tryz.prog.funcs[f]? = some fn) (hname : (fn.name == "runtime.NumGoroutine") = false) (hb : fn.body.isNone = true) (hn : Extern.findNext fn = none)
  (he:Extern.find fn=some Extern.MathSqrt.sqrt)(a:Nat):EW Tryz.prog f [.f a](.f(d9 a)):=fun E aZ hv=>by
 obtain⟨l⟩:=aZ
 obtain⟨v,t,e1,h1,h2⟩:=aH.1 hv
 have e2:=bK.1 h2
 obtain⟨b,rfl,rfl⟩:=jB.1 h1
 have e3:l=[.float .f64 b]:=by rw[e2]at e1;exact e1
 subst e3
 obtain⟨r,w',g1,g2,g3⟩:=Go.Ev.aix Tryz.prog E.w b
 refine⟨.float .f64 r,w',?_,g2,jB.2⟨r,rfl,g3⟩⟩
 rw[run_callFunc_extern hf hname hb hn he,g1]
 rfl
end Go.Proofs.YtefphimaggjihaaGreatDoor
namespace Go.Proofs.YtefphimaggjihaaGreatDoor.Hs
open Go.Gv
open Go.Ev (cn bq dI bT fdiv d9 fI dK jO kL gN lK fabs)
theorem amO:lg Tryz.prog⟨145,eF fun x=>.f(d9 x)⟩:=fun args r hr=>by
 simp only[eF]at hr
 split at hr
 ·cases hr;exact Or.inr(ayf Tryz.aAq(by kernel_rfl)rfl(by kernel_rfl)(by kernel_rfl)_)
 ·cases hr
def Sq0:List Entry:=[⟨145,eF fun x=>.f(d9 x)⟩]
theorem anT(x:Nat):aj Tryz.prog 106 [.f x](.f(d9 x)):=sp(l:=Sq0)(bn amO aB)Tryz.aAr(by kernel_rfl)(by kernel_rfl)rfl(by kernel_rfl)
theorem ayg(x:Nat):aj Tryz.prog 52 [.f x](bA(eP x)):=sp aB Tryz.aC6(by kernel_rfl)(by kernel_rfl)rfl(by kernel_rfl)
theorem aC7(a b c d e f:Nat):aj Tryz.prog 280 [V a b c,V d e f](V(bq a d)(bq b e)(bq c f)):=sp aB Tryz.aAs(by kernel_rfl)(by kernel_rfl)rfl(by kernel_rfl)
theorem aC8(a b c d e f:Nat):aj Tryz.prog 54 [V a b c,V d e f](V(dI a d)(dI b e)(dI c f)):=sp aB Tryz.aC9(by kernel_rfl)(by kernel_rfl)rfl(by kernel_rfl)
theorem ayh(a b c k:Nat):aj Tryz.prog 105 [V a b c,.f k](V(fdiv a k)(fdiv b k)(fdiv c k)):=sp aB Tryz.aAt(by kernel_rfl)(by kernel_rfl)rfl(by kernel_rfl)
theorem aDa(a b c d e f:Nat):aj Tryz.prog 107 [V a b c,V d e f](.f(abK a b c d e f)):=sp aB Tryz.aAu(by kernel_rfl)(by kernel_rfl)rfl(by kernel_rfl)
theorem atJ(a b c d e f:Nat):aj Tryz.prog 56 [V a b c,V d e f](V(RU b c e f)(RU c a f d)(RU a b d e)):=sp aB Tryz.aDb(by kernel_rfl)(by kernel_rfl)rfl(by kernel_rfl)
def V1:List Entry:=[⟨106,eF fun x=>.f(d9 x)⟩,⟨52,eF fun x=>bA(eP x)⟩,⟨280,Zt fun a b c d e f=>V(bq a d)(bq b e)(bq c f)⟩,⟨54,Zt fun a b c d e f=>V(dI a d)(dI b e)(dI c f)⟩,⟨105,eVF fun a b c k=>V(fdiv a k)(fdiv b k)(fdiv c k)⟩,⟨107,Zt fun a b c d e f=>.f(abK a b c d e f)⟩,⟨56,Zt fun a b c d e f=>V(RU b c e f)(RU c a f d)(RU a b d e)⟩]
theorem aiy:∀e,e∈V1→lg Tryz.prog e:=bn(aaB anT) <|bn(aaB ayg) <|bn(ql aC7) <|bn(ql aC8) <|bn(P7 ayh) <|bn(ql aDa) <|bn(ql atJ)aB
theorem ayi(a b c:Nat):aj Tryz.prog 51 [V a b c](bA(dL a b c)):=sp aiy Tryz.aDc(by kernel_rfl)(by kernel_rfl)rfl(by kernel_rfl)
theorem amP(a b c:Nat):aj Tryz.prog 55 [V a b c](.f(iT a b c)):=sp aiy Tryz.aDd(by kernel_rfl)(by kernel_rfl)rfl(by kernel_rfl)
def V2:List Entry:=⟨51,eV fun a b c=>bA(dL a b c)⟩::⟨55,eV fun a b c=>.f(iT a b c)⟩::V1
theorem afp:∀e,e∈V2→lg Tryz.prog e:=bn(tZ ayi) <|bn(tZ amP)aiy
def Vx(a b c:Nat):Int:=cond(!dL a b c)1(cond(dK(iT a b c)0)2 0)
def unN(a b c x:Nat):Nat:=cond(!dL a b c)0(cond(dK(iT a b c)0)0(fdiv x(iT a b c)))
def unV(a b c:Nat):AV:=.aN [V(unN a b c a)(unN a b c b)(unN a b c c),iA(Vx a b c)]
def unX(a b c:Nat):Option Out:=cond(!dL a b c)(some(Out.of(.aN [V 0 0 0,iA 1])))(cond(dK(iT a b c)0)(some(Out.of(.aN [V 0 0 0,iA 2])))(some(Out.of(.aN [V(fdiv a(iT a b c))(fdiv b(iT a b c))(fdiv c(iT a b c)),iA 0]))))
theorem aiu(a b c:Nat):unX a b c=some(Out.of(unV a b c)):=by
 unfold unX unV unN Vx
 cases dL a b c<;>cases dK(iT a b c)0<;>rfl
theorem ayj(a b c:Nat):aj Tryz.prog 53 [V a b c](unV a b c) :=
 sp afp Tryz.aDe(by kernel_rfl)(by kernel_rfl)rfl((show ev Tryz.prog V2 []aM Tryz.f53 [V a b c]ret=unX a b c by kernel_rfl).trans(aiu a b c))
theorem ayk(a b:Nat):aj Tryz.prog 206 [.f a,.f b](.f(uf a b)):=by
 refine sp aB Tryz.aAv(by kernel_rfl)(by kernel_rfl)rfl ?_
 have h:ev Tryz.prog [] []aM Tryz.f206 [.f a,.f b]ret=cond(jO b a)(some(Out.of(.f b)))(some(Out.of(.f a))):=by kernel_rfl
 rw[h];unfold uf;cases jO b a<;>rfl
theorem ayl(a b:Nat):aj Tryz.prog 207 [.f a,.f b](.f(ug a b)):=by
 refine sp aB Tryz.aAw(by kernel_rfl)(by kernel_rfl)rfl ?_
 have h:ev Tryz.prog [] []aM Tryz.f207 [.f a,.f b]ret=cond(gN b a)(some(Out.of(.f b)))(some(Out.of(.f a))):=by kernel_rfl
 rw[h];unfold ug;cases gN b a<;>rfl
def BN(a b:Nat→Nat):Nat→Nat:=ls [uf(a 0)(b 0),uf(a 1)(b 1),uf(a 2)(b 2),ug(a 3)(b 3),ug(a 4)(b 4),ug(a 5)(b 5)]
def V3:List Entry:=⟨53,eV unV⟩::⟨206,eFF fun a b=>.f(uf a b)⟩::⟨207,eFF fun a b=>.f(ug a b)⟩::V2
theorem aak:∀e,e∈V3→lg Tryz.prog e:=bn(tZ ayj) <|bn(Fq ayk) <|bn(Fq ayl)afp
theorem aym(a b:Nat→Nat):aj Tryz.prog 179 [BX a,BX b](BX(BN a b)):=sp aak Tryz.aAx(by kernel_rfl)(by kernel_rfl)rfl(by kernel_rfl)
def abJ(b:Nat→Nat):Bool:=cond(!dL(b 0)(b 1)(b 2))true(!dL(b 3)(b 4)(b 5))
def adW(b:Nat→Nat):Bool:=cond(cond(gN(b 0)(b 3))true(gN(b 1)(b 4)))true(gN(b 2)(b 5))
def kM(b:Nat→Nat):Int:=cond(abJ b)1(cond(adW b)6 0)
theorem aDf(b:Nat→Nat):aj Tryz.prog 159 [BX b](iA(kM b)):=by
 refine sp aak Tryz.aAy(by kernel_rfl)(by kernel_rfl)rfl ?_
 have h:ev Tryz.prog V3 []aM Tryz.f159 [BX b]ret=cond(abJ b)(some(Out.of(iA 1)))(cond(adW b)(some(Out.of(iA 6)))(some(Out.of(iA 0)))):=by kernel_rfl
 rw[h];unfold kM;cases abJ b<;>cases adW b<;>rfl
def V4:List Entry:=⟨179,eBB fun a b=>BX(BN a b)⟩::⟨159,eB fun b=>iA(kM b)⟩::V3
theorem wK:∀e,e∈V4→lg Tryz.prog e:=bn(aqo aym) <|bn(anj aDf)aak
section
variable(lo hi o d n f:Nat)
end
section
variable(b r:Nat→Nat)
end
def V5:List Entry:=V4
theorem avF:∀e,e∈V5→lg Tryz.prog e:=wK
theorem axZ(x:Nat):aj Tryz.prog 57 [.f x](bA(eP x)):=sp aB Tryz.aCD(by kernel_rfl)(by kernel_rfl)rfl(by kernel_rfl)
theorem aty(a b:Nat):aj Tryz.prog 110 [.f a,.f b](.f(bT a b)):=sp aB Tryz.aAc(by kernel_rfl)(by kernel_rfl)rfl(by kernel_rfl)
theorem aCE(a b c d e f:Nat):aj Tryz.prog 140 [V a b c,V d e f](V(bq a d)(bq b e)(bq c f)):=sp aB Tryz.aAd(by kernel_rfl)(by kernel_rfl)rfl(by kernel_rfl)
theorem aCF(a b c d e f:Nat):aj Tryz.prog 59 [V a b c,V d e f](V(dI a d)(dI b e)(dI c f)):=sp aB Tryz.aCG(by kernel_rfl)(by kernel_rfl)rfl(by kernel_rfl)
theorem atz(a b c k:Nat):aj Tryz.prog 146 [V a b c,.f k](V(bT a k)(bT b k)(bT c k)):=sp aB Tryz.aAe(by kernel_rfl)(by kernel_rfl)rfl(by kernel_rfl)
theorem ax0(a b c k:Nat):aj Tryz.prog 108 [V a b c,.f k](V(fdiv a k)(fdiv b k)(fdiv c k)):=sp aB Tryz.aAf(by kernel_rfl)(by kernel_rfl)rfl(by kernel_rfl)
theorem ax1(a b:Nat):aj Tryz.prog 165 [.f a,.f b](.f(uf a b)):=by
 refine sp aB Tryz.aAg(by kernel_rfl)(by kernel_rfl)rfl ?_
 have h:ev Tryz.prog [] []aM Tryz.f165 [.f a,.f b]ret=cond(jO b a)(some(Out.of(.f b)))(some(Out.of(.f a))):=by kernel_rfl
 rw[h];unfold uf;cases jO b a<;>rfl
theorem ax2(a b:Nat):aj Tryz.prog 166 [.f a,.f b](.f(ug a b)):=by
 refine sp aB Tryz.aAh(by kernel_rfl)(by kernel_rfl)rfl ?_
 have h:ev Tryz.prog [] []aM Tryz.f166 [.f a,.f b]ret=cond(gN b a)(some(Out.of(.f b)))(some(Out.of(.f a))):=by kernel_rfl
 rw[h];unfold ug;cases gN b a<;>rfl
def eVI(g:Nat→Nat→Nat→Int→Option AV):List AV→Option AV
 | [.agg [.f a,.f b,.f c],.x(.int .i64 k)]=>g a b c k
 |_=>none
def axG(a b c:Nat)(k:Int):Option AV:=cond(k==0)(some(.f a))(cond(k==1)(some(.f b))(cond(k==2)(some(.f c))none))
theorem ax3(a b c:Nat)(k:Int):ev Tryz.prog [] []aM Tryz.f139 [V a b c,iA k]ret=cond(k==0)(some(Out.of(.f a)))(cond(k==1)(some(Out.of(.f b)))(some(Out.of(.f c)))):=by kernel_rfl
theorem atA:lg Tryz.prog⟨139,eVI axG⟩:=fun args r hr=>by
 simp only[eVI]at hr
 split at hr
 ·rename_i a b c k
  refine Or.inl(sp aB Tryz.aAi(by kernel_rfl)(by kernel_rfl)rfl((ax3 a b c k).trans ?_))
  unfold axG at hr
  cases h0:k==0
  ·rw[h0]at hr
   cases h1:k==1
   ·rw[h1]at hr
    cases h2:k==2
    ·rw[h2]at hr;cases hr
    ·rw[h2]at hr;cases hr;rfl
   ·rw[h1]at hr;cases hr;rfl
  ·rw[h0]at hr;cases hr;rfl
 ·cases hr
def R1:List Entry:=[⟨106,eF fun x=>.f(d9 x)⟩,⟨57,eF fun x=>bA(eP x)⟩,⟨110,eFF fun a b=>.f(bT a b)⟩,⟨140,Zt fun a b c d e f=>V(bq a d)(bq b e)(bq c f)⟩,⟨59,Zt fun a b c d e f=>V(dI a d)(dI b e)(dI c f)⟩,⟨146,eVF fun a b c k=>V(bT a k)(bT b k)(bT c k)⟩,⟨108,eVF fun a b c k=>V(fdiv a k)(fdiv b k)(fdiv c k)⟩,⟨165,eFF fun a b=>.f(uf a b)⟩,⟨166,eFF fun a b=>.f(ug a b)⟩,⟨139,eVI axG⟩]
theorem OH:∀e,e∈R1→lg Tryz.prog e:=bn(aaB anT) <|bn(aaB axZ) <|bn(Fq aty) <|bn(ql aCE) <|bn(ql aCF) <|bn(P7 atz) <|bn(P7 ax0) <|bn(Fq ax1) <|bn(Fq ax2) <|bn atA aB
theorem ax4(a b c:Nat):aj Tryz.prog 49 [V a b c](bA(dL a b c)):=sp OH Tryz.aCH(by kernel_rfl)(by kernel_rfl)rfl(by kernel_rfl)
theorem aCI(a b c d e f:Nat):aj Tryz.prog 109 [V a b c,V d e f](.f(abK a b c d e f)):=sp OH Tryz.aAj(by kernel_rfl)(by kernel_rfl)rfl(by kernel_rfl)
theorem atB(a b c d e f:Nat):aj Tryz.prog 61 [V a b c,V d e f](V(RU b c e f)(RU c a f d)(RU a b d e)):=sp OH Tryz.aCJ(by kernel_rfl)(by kernel_rfl)rfl(by kernel_rfl)
def ax5(a b c d e f:Nat):AV:=V(uf a d)(uf b e)(uf c f)
def anU(a b c d e f:Nat):AV:=V(ug a d)(ug b e)(ug c f)
theorem aCK(a b c d e f:Nat):aj Tryz.prog 142 [V a b c,V d e f](ax5 a b c d e f):=sp OH Tryz.aAk(by kernel_rfl)(by kernel_rfl)rfl(by kernel_rfl)
theorem ax6(a b c d e f:Nat):aj Tryz.prog 143 [V a b c,V d e f](anU a b c d e f):=sp OH Tryz.aAl(by kernel_rfl)(by kernel_rfl)rfl(by kernel_rfl)
def R2:List Entry:=⟨49,eV fun a b c=>bA(dL a b c)⟩::⟨109,Zt fun a b c d e f=>.f(abK a b c d e f)⟩::⟨61,Zt fun a b c d e f=>V(RU b c e f)(RU c a f d)(RU a b d e)⟩::⟨142,Zt ax5⟩::⟨143,Zt anU⟩::R1
theorem UF:∀e,e∈R2→lg Tryz.prog e:=bn(tZ ax4) <|bn(ql aCI) <|bn(ql atB) <|bn(ql aCK) <|bn(ql ax6)OH
theorem aby(a b c:Nat):aj Tryz.prog 60 [V a b c](.f(iT a b c)):=sp UF Tryz.aCL(by kernel_rfl)(by kernel_rfl)rfl(by kernel_rfl)
theorem aCM(b:Nat→Nat):aj Tryz.prog 102 [BX b](iA(kM b)):=by
 refine sp UF Tryz.aAm(by kernel_rfl)(by kernel_rfl)rfl ?_
 have h:ev Tryz.prog R2 []aM Tryz.f102 [BX b]ret=cond(abJ b)(some(Out.of(iA 1)))(cond(gN(b 0)(b 3))(some(Out.of(iA 6)))(cond(gN(b 1)(b 4))(some(Out.of(iA 6)))(cond(gN(b 2)(b 5))(some(Out.of(iA 6)))(some(Out.of(iA 0)))))):=by kernel_rfl
 rw[h]
 unfold kM adW
 cases abJ b<;>cases gN(b 0)(b 3)<;>cases gN(b 1)(b 4)<;>cases gN(b 2)(b 5)<;>rfl
theorem ax7(a b c:Nat):aj Tryz.prog 58 [V a b c](unV a b c) :=
 sp(l:=⟨60,eV fun a b c=>.f(iT a b c)⟩::R2)(bn(tZ aby)UF)Tryz.aCN(by kernel_rfl)(by kernel_rfl)rfl((show ev Tryz.prog(⟨60,eV fun a b c=>.f(iT a b c)⟩::R2) []aM Tryz.f58 [V a b c]ret=unX a b c by kernel_rfl).trans(aiu a b c))
def R3:List Entry:=⟨60,eV fun a b c=>.f(iT a b c)⟩::⟨58,eV unV⟩::⟨102,eB fun b=>iA(kM b)⟩::R2
theorem pJ:∀e,e∈R3→lg Tryz.prog e:=bn(tZ aby) <|bn(tZ ax7) <|bn(anj aCM)UF
def vo(x:Nat):Bool:=!dK x 0
theorem afr(a b c:Nat):aj Tryz.prog 300 [V a b c](V a b c):=sp aB Tryz.ayF(by kernel_rfl)(by kernel_rfl)rfl(by kernel_rfl)
theorem apk(a b c:Nat):aj Tryz.prog 301 [V a b c](V a b c):=sp aB Tryz.ayG(by kernel_rfl)(by kernel_rfl)rfl(by kernel_rfl)
def V6:List Entry:=⟨300,eV fun a b c=>V a b c⟩::⟨301,eV fun a b c=>V a b c⟩::V5
theorem Kk:∀e,e∈V6→lg Tryz.prog e:=bn(tZ afr) <|bn(tZ apk)avF
theorem apl(a b c:Nat):aj Tryz.prog 298 [V a b c,iA 0](V 0 b c):=sp Kk Tryz.aam(by kernel_rfl)(by kernel_rfl)rfl(by kernel_rfl)
theorem apm(a b c:Nat):aj Tryz.prog 298 [V a b c,iA 1](V a 0 c):=sp Kk Tryz.aam(by kernel_rfl)(by kernel_rfl)rfl(by kernel_rfl)
theorem apn(a b c:Nat):aj Tryz.prog 298 [V a b c,iA 2](V a b 0):=sp Kk Tryz.aam(by kernel_rfl)(by kernel_rfl)rfl(by kernel_rfl)
def flG(a b c:Nat)(k:Int):Option AV:=cond(k==0)(some(V 0 b c))(cond(k==1)(some(V a 0 c))(cond(k==2)(some(V a b 0))none))
theorem afs:lg Tryz.prog⟨298,eVI flG⟩:=fun args r hr=>by
 simp only[eVI]at hr
 split at hr
 ·rename_i a b c k
  unfold flG at hr
  cases h0:k==0
  ·rw[h0]at hr
   cases h1:k==1
   ·rw[h1]at hr
    cases h2:k==2
    ·rw[h2]at hr;cases hr
    ·rw[h2]at hr;cases hr;rw[eq_of_beq h2];exact Or.inl(apn a b c)
   ·rw[h1]at hr;cases hr;rw[eq_of_beq h1];exact Or.inl(apm a b c)
  ·rw[h0]at hr;cases hr;rw[eq_of_beq h0];exact Or.inl(apl a b c)
 ·cases hr
def axR(k:Int)(b:Bool):Option Out:=some(Out.of(.aN [iA k,bA b]))
def axT(a b c:Nat):Option Out:=cond(vo a)(cond(vo b)(cond(vo c)(axR 2 false)(axR 1 false))(cond(vo c)(axR 2 false)(axR 0 true)))(cond(vo b)(cond(vo c)(axR 2 false)(axR 1 true))(cond(vo c)(axR 2 true)(axR 0 false)))
def axI(a b c:Nat):Int:=cond(vo c)2(cond(vo b)1(cond(vo a)0 0))
def LW(a b c:Nat):Bool:=cond(vo a)(cond(vo b)false(!vo c))(cond(vo b)(!vo c)(vo c))
theorem avG(a b c:Nat):aj Tryz.prog 299 [V a b c](.aN [iA(axI a b c),bA(LW a b c)]):=by
 refine sp Kk Tryz.ayH(by kernel_rfl)(by kernel_rfl)rfl((show ev Tryz.prog V6 []aM Tryz.f299 [V a b c]ret=axT a b c by kernel_rfl).trans ?_)
 unfold axT axI LW axR
 cases vo a<;>cases vo b<;>cases vo c<;>rfl
theorem avH(a b c R:Nat):aj Tryz.prog 279 [V a b c,.f R](BX(ls [dI a R,dI b R,dI c R,bq a R,bq b R,bq c R])):=sp Kk Tryz.ayI(by kernel_rfl)(by kernel_rfl)rfl(by kernel_rfl)
def jg(a b c d e f:Nat):Nat→Nat:=BN(ls [a,b,c,a,b,c])(ls [d,e,f,d,e,f])
theorem akc(a b c d e f:Nat):aj Tryz.prog 288 [V a b c,V d e f](BX(jg a b c d e f)):=sp Kk Tryz.ayJ(by kernel_rfl)(by kernel_rfl)rfl(by kernel_rfl)
section
variable(o d:Nat→Nat)(r:Nat)
end
def V7:List Entry:=⟨298,eVI flG⟩::⟨279,eVF fun a b c R=>BX(ls [dI a R,dI b R,dI c R,bq a R,bq b R,bq c R])⟩::⟨288,Zt fun a b c d e f=>BX(jg a b c d e f)⟩::V6
theorem G9:∀e,e∈V7→lg Tryz.prog e:=bn afs <|bn(P7 avH) <|bn(ql akc)Kk
abbrev SH(k:Int)(a:Nat→Nat)(sk:Int):AV:=.agg [iA k,.f(a 0),.f(a 1),.f(a 2),.f(a 3),.f(a 4),.f(a 5),.f(a 6),.f(a 7),.f(a 8),.f(a 9),.f(a 10),iA sk]
def eS(g:(Nat→Nat)→AV):List AV→Option AV
 | [.agg [.x(.int .i64 _),.f a0,.f a1,.f a2,.f a3,.f a4,.f a5,.f a6,.f a7,.f a8,.f a9,.f Hy,.x(.int .i64 _)]]=>some(g(ls [a0,a1,a2,a3,a4,a5,a6,a7,a8,a9,Hy]))
 |_=>none
theorem zh {f:Nat}{g:(Nat→Nat)→AV}(h:∀k a sk,aj Tryz.prog f [SH k a sk](g a)):lg Tryz.prog⟨f,eS g⟩:=fun args r hr=>by
 simp only[eS]at hr
 split at hr
 ·cases hr;exact Or.inl(h _(ls [_,_,_,_,_,_,_,_,_,_,_])_)
 ·cases hr
section
variable(k:Int)(a:Nat→Nat)(sk:Int)(r:Nat→Nat)(n f p q u:Nat)
def nH:Nat→Nat:=ls [dI(a 0)(a 9),dI(a 1)(a 9),dI(a 2)(a 9),bq(a 0)(a 9),bq(a 1)(a 9),bq(a 2)(a 9)]
def rC:Nat→Nat:=ls [a 0,a 1,a 2,a 3,a 4,a 5]
def Js:Nat→Nat:=BN(jg(a 0)(a 1)(a 2)(a 3)(a 4)(a 5))(ls [a 6,a 7,a 8,a 6,a 7,a 8])
theorem au2:aj Tryz.prog 275 [SH k a sk](BX(nH a)):=sp G9 Tryz.azm(by kernel_rfl)(by kernel_rfl)rfl(by kernel_rfl)
theorem aot:aj Tryz.prog 289 [SH k a sk](BX(nH a)):=sp G9 Tryz.azn(by kernel_rfl)(by kernel_rfl)rfl(by kernel_rfl)
theorem aor:aj Tryz.prog 281 [SH k a sk](BX(rC a)):=sp G9 Tryz.azo(by kernel_rfl)(by kernel_rfl)rfl(by kernel_rfl)
theorem aAJ:aj Tryz.prog 285 [SH k a sk](BX(Js a)):=sp G9 Tryz.azp(by kernel_rfl)(by kernel_rfl)rfl(by kernel_rfl)
def Du:Int:=cond(!gN(a 9)0)6 0
theorem au1:aj Tryz.prog 276 [SH k a sk](iA(Du a)):=by
 refine sp G9 Tryz.azq(by kernel_rfl)(by kernel_rfl)rfl((show ev Tryz.prog V7 []aM Tryz.f276 [SH k a sk]ret=cond(!gN(a 9)0)(some(Out.of(iA 6)))(some(Out.of(iA 0)))by kernel_rfl).trans ?_)
 unfold Du;cases gN(a 9)0<;>rfl
def Co:Bool:=cond(cond(gN(a 0)(a 3))true(gN(a 1)(a 4)))true(gN(a 2)(a 5))
def xg:Int:=cond(Co a)6 0
theorem aoq:aj Tryz.prog 282 [SH k a sk](iA(xg a)):=by
 refine sp G9 Tryz.azr(by kernel_rfl)(by kernel_rfl)rfl((show ev Tryz.prog V7 []aM Tryz.f282 [SH k a sk]ret=cond(Co a)(some(Out.of(iA 6)))(some(Out.of(iA 0)))by kernel_rfl).trans ?_)
 unfold xg;cases Co a<;>rfl
def xk:Int:=cond(!gN(a 9)0)6(Vx(a 3)(a 4)(a 5))
theorem aos:aj Tryz.prog 290 [SH k a sk](iA(xk a)):=by
 refine sp G9 Tryz.azs(by kernel_rfl)(by kernel_rfl)rfl((show ev Tryz.prog V7 []aM Tryz.f290 [SH k a sk]ret=cond(!gN(a 9)0)(some(Out.of(iA 6)))(some(Out.of(iA(Vx(a 3)(a 4)(a 5)))))by kernel_rfl).trans ?_)
 unfold xk;cases gN(a 9)0<;>rfl
def V8:List Entry:=⟨299,eV fun a b c=>.aN [iA(axI a b c),bA(LW a b c)]⟩::V7
theorem zY:∀e,e∈V8→lg Tryz.prog e:=bn(tZ avG)G9
def Dv:Int:=cond(cond(!LW(a 3)(a 4)(a 5))true(!gN(a 9)0))6 0
theorem au3:aj Tryz.prog 295 [SH k a sk](iA(Dv a)):=by
 refine sp zY Tryz.azt(by kernel_rfl)(by kernel_rfl)rfl((show ev Tryz.prog V8 []aM Tryz.f295 [SH k a sk]ret=cond(cond(!LW(a 3)(a 4)(a 5))true(!gN(a 9)0))(some(Out.of(iA 6)))(some(Out.of(iA 0)))by kernel_rfl).trans ?_)
 unfold Dv;cases cond(!LW(a 3)(a 4)(a 5))true(!gN(a 9)0)<;>rfl
def Dw:Int:=cond(cond(!LW(a 3)(a 4)(a 5))true(!(cond(gN(a 10)0)(lK(a 9)(a 10))false)))6 0
theorem au5:aj Tryz.prog 304 [SH k a sk](iA(Dw a)):=by
 refine sp zY Tryz.azu(by kernel_rfl)(by kernel_rfl)rfl((show ev Tryz.prog V8 []aM Tryz.f304 [SH k a sk]ret=cond(cond(!LW(a 3)(a 4)(a 5))true(!(cond(gN(a 10)0)(lK(a 9)(a 10))false)))(some(Out.of(iA 6)))(some(Out.of(iA 0)))by kernel_rfl).trans ?_)
 unfold Dw;cases cond(!LW(a 3)(a 4)(a 5))true(!(cond(gN(a 10)0)(lK(a 9)(a 10))false))<;>rfl
def V9:List Entry:=V8
theorem awv:∀e,e∈V9→lg Tryz.prog e:=zY
end
section
end
section
end
section
end
section
end
def fl3(z i x:Nat):Nat:=cond(Nat.beq i z)0 x
def zB(a:Nat→Nat):Nat:=cond(vo(a 5))2(cond(vo(a 4))1 0)
theorem ae9(a:Nat→Nat):axI(a 3)(a 4)(a 5)=(zB a:Nat):=by
 unfold axI zB
 cases vo(a 5)<;>cases vo(a 4)<;>cases vo(a 3)<;>rfl
theorem aaM(a:Nat→Nat):zB a=0∨zB a=1∨zB a=2:=by
 unfold zB
 cases vo(a 5)<;>cases vo(a 4)<;>simp
section
variable(k:Int)(a:Nat→Nat)(sk:Int)(r:Nat→Nat)(n f p q u z:Nat)
theorem awt:aj Tryz.prog 293 [SH k a sk](iA(zB a:Nat)):=by
 rw[←ae9]
 exact sp zY Tryz.ay5(by kernel_rfl)(by kernel_rfl)rfl(by kernel_rfl)
theorem awu:aj Tryz.prog 302 [SH k a sk](iA(zB a:Nat)):=by
 rw[←ae9]
 exact sp zY Tryz.ay6(by kernel_rfl)(by kernel_rfl)rfl(by kernel_rfl)
noncomputable def tuK(z:Nat):aV:=kS Tryz.prog 293 fun _=>iA(z:Nat)
noncomputable def riK(z:Nat):aV:=kS Tryz.prog 302 fun _=>iA(z:Nat)
noncomputable def gTu(o:Option Out):Option Out:=gate(aj Tryz.prog 293 [SH k a sk](iA(z:Nat)))o
noncomputable def gRi(o:Option Out):Option Out:=gate(aj Tryz.prog 302 [SH k a sk](iA(z:Nat)))o
def tuE:Nat→Nat:=jg(a 0)(a 1)(a 2)(bq(a 0)(a 3))(bq(a 1)(a 4))(bq(a 2)(a 5))
def pK:Nat→Nat:=ls [dI(tuE a 0)(fl3 z 0(a 9)),dI(tuE a 1)(fl3 z 1(a 9)),dI(tuE a 2)(fl3 z 2(a 9)),bq(tuE a 3)(fl3 z 0(a 9)),bq(tuE a 4)(fl3 z 1(a 9)),bq(tuE a 5)(fl3 z 2(a 9))]
def riA(i:Nat):Nat:=bq(fl3 z i(a 9))(a 10)
def pO:Nat→Nat:=ls [dI(a 0)(riA a z 0),dI(a 1)(riA a z 1),dI(a 2)(riA a z 2),bq(a 0)(riA a z 0),bq(a 1)(riA a z 1),bq(a 2)(riA a z 2)]
theorem acy:ev Tryz.prog V8 [tuK 0]aM Tryz.f294 [SH k a sk]ret=gTu k a sk 0(some(Out.of(BX(pK a 0)))):=by kernel_rfl
theorem acz:ev Tryz.prog V8 [tuK 1]aM Tryz.f294 [SH k a sk]ret=gTu k a sk 1(some(Out.of(BX(pK a 1)))):=by kernel_rfl
theorem acA:ev Tryz.prog V8 [tuK 2]aM Tryz.f294 [SH k a sk]ret=gTu k a sk 2(some(Out.of(BX(pK a 2)))):=by kernel_rfl
theorem acB:ev Tryz.prog V8 [riK 0]aM Tryz.f303 [SH k a sk]ret=gRi k a sk 0(some(Out.of(BX(pO a 0)))):=by kernel_rfl
theorem acC:ev Tryz.prog V8 [riK 1]aM Tryz.f303 [SH k a sk]ret=gRi k a sk 1(some(Out.of(BX(pO a 1)))):=by kernel_rfl
theorem acD:ev Tryz.prog V8 [riK 2]aM Tryz.f303 [SH k a sk]ret=gRi k a sk 2(some(Out.of(BX(pO a 2)))):=by kernel_rfl
theorem Qs {z:Nat}{o:Option Out}(h:zB a=z):gTu k a sk z o=o:=ah(by rw[←h];exact awt k a sk)
theorem Qt {z:Nat}{o:Option Out}(h:zB a=z):gRi k a sk z o=o:=ah(by rw[←h];exact awu k a sk)
theorem au4:aj Tryz.prog 294 [SH k a sk](BX(pK a(zB a))):=by
 rcases aaM a with h |h |h
 ·rw[h];exact aP zY(ak aD av)Tryz.aaN(by kernel_rfl)(by kernel_rfl)aA rfl((acy k a sk).trans(Qs k a sk h))
 ·rw[h];exact aP zY(ak aD av)Tryz.aaN(by kernel_rfl)(by kernel_rfl)aA rfl((acz k a sk).trans(Qs k a sk h))
 ·rw[h];exact aP zY(ak aD av)Tryz.aaN(by kernel_rfl)(by kernel_rfl)aA rfl((acA k a sk).trans(Qs k a sk h))
theorem bring:aj Tryz.prog 303 [SH k a sk](BX(pO a(zB a))):=by
 rcases aaM a with h |h |h
 ·rw[h];exact aP zY(ak aD av)Tryz.aaO(by kernel_rfl)(by kernel_rfl)aA rfl((acB k a sk).trans(Qt k a sk h))
 ·rw[h];exact aP zY(ak aD av)Tryz.aaO(by kernel_rfl)(by kernel_rfl)aA rfl((acC k a sk).trans(Qt k a sk h))
 ·rw[h];exact aP zY(ak aD av)Tryz.aaO(by kernel_rfl)(by kernel_rfl)aA rfl((acD k a sk).trans(Qt k a sk h))
def X0:List Entry:=V9
theorem amY:∀e,e∈X0→lg Tryz.prog e:=awv
end
def eKd:List AV→Option AV
 | [.agg [.x(.int .i64 k),.f a0,.f a1,.f a2,.f a3,.f a4,.f a5,.f a6,.f a7,.f a8,.f a9,.f Hy,.x(.int .i64 sk)]]=>cond(k==1)(some(.tH 214(.agg [.x(.int .i64 k),.f a0,.f a1,.f a2,.f a3,.f a4,.f a5,.f a6,.f a7,.f a8,.f a9,.f Hy,.x(.int .i64 sk)])))(cond(k==2)(some(.tH 215(.agg [.x(.int .i64 k),.f a0,.f a1,.f a2,.f a3,.f a4,.f a5,.f a6,.f a7,.f a8,.f a9,.f Hy,.x(.int .i64 sk)])))(cond(k==3)(some(.tH 216(.agg [.x(.int .i64 k),.f a0,.f a1,.f a2,.f a3,.f a4,.f a5,.f a6,.f a7,.f a8,.f a9,.f Hy,.x(.int .i64 sk)])))(cond(k==4)(some(.tH 217(.agg [.x(.int .i64 k),.f a0,.f a1,.f a2,.f a3,.f a4,.f a5,.f a6,.f a7,.f a8,.f a9,.f Hy,.x(.int .i64 sk)])))(cond(k==5)(some(.tH 218(.agg [.x(.int .i64 k),.f a0,.f a1,.f a2,.f a3,.f a4,.f a5,.f a6,.f a7,.f a8,.f a9,.f Hy,.x(.int .i64 sk)])))(cond(k==6)(some(.tH 219(.agg [.x(.int .i64 k),.f a0,.f a1,.f a2,.f a3,.f a4,.f a5,.f a6,.f a7,.f a8,.f a9,.f Hy,.x(.int .i64 sk)])))(none))))))
 |_=>none
theorem amW(k:Int)(a:Nat→Nat)(sk:Int):ev Tryz.prog [] []aM Tryz.f158 [SH k a sk]ret=cond(k==1)(some(Out.of(.tH 214(SH k a sk))))(cond(k==2)(some(Out.of(.tH 215(SH k a sk))))(cond(k==3)(some(Out.of(.tH 216(SH k a sk))))(cond(k==4)(some(Out.of(.tH 217(SH k a sk))))(cond(k==5)(some(Out.of(.tH 218(SH k a sk))))(cond(k==6)(some(Out.of(.tH 219(SH k a sk))))(some(Out.of(.x .nilIface)))))))):=by kernel_rfl
theorem aop:lg Tryz.prog⟨158,eKd⟩:=fun args r hr=>by
 simp only[eKd]at hr
 split at hr
 ·rename_i k a0 a1 a2 a3 a4 a5 a6 a7 a8 a9 Hy sk
  refine Or.inl(sp aB Tryz.ajl(by kernel_rfl)(by kernel_rfl)rfl((amW k(ls [a0,a1,a2,a3,a4,a5,a6,a7,a8,a9,Hy])sk).trans ?_))
  cases h1:k==1
  case true=>rw[h1]at hr;cases hr;rfl
  case false =>
  cases h2:k==2
  case true=>rw[h1,h2]at hr;cases hr;rfl
  case false =>
  cases h3:k==3
  case true=>rw[h1,h2,h3]at hr;cases hr;rfl
  case false =>
  cases h4:k==4
  case true=>rw[h1,h2,h3,h4]at hr;cases hr;rfl
  case false =>
  cases h5:k==5
  case true=>rw[h1,h2,h3,h4,h5]at hr;cases hr;rfl
  case false =>
  cases h6:k==6
  case true=>rw[h1,h2,h3,h4,h5,h6]at hr;cases hr;rfl
  case false =>
  rw[h1,h2,h3,h4,h5,h6]at hr;cases hr
 ·cases hr
def Cq(sk:Int):Bool:=cond(decide(sk<0))true(decide(sk≥16))
def Im(a:Nat→Nat):Bool:=cond(cond(cond(cond(!dL(a 0)(a 1)(a 2))true(!dL(a 3)(a 4)(a 5)))true(!dL(a 6)(a 7)(a 8)))true(!eP(a 9)))true(!eP(a 10))
def Jv(e:Int):Option Out:=some(Out.of(.aN [.x .nilIface,iA e]))
def yD(T:Nat)(v:AV):Option Out:=some(Out.of(.aN [.tH T v,iA 0]))
def knX(a:Nat→Nat)(sk m:Int)(b:Nat→Nat)(o:Option Out):Option Out:=cond(Cq sk)(Jv 4)(cond(Im a)(Jv 1)(cond(!(m==0))(Jv m)(cond(!(kM b==0))(Jv 1)o)))
def Rx(a:Nat→Nat)(sk m:Int)(b:Nat→Nat):Int:=cond(Cq sk)4(cond(Im a)1(cond(!(m==0))m(cond(!(kM b==0))1 0)))
theorem vE {a:Nat→Nat}{sk m:Int}{b:Nat→Nat}{o:Option Out}(h:Rx a sk m b=0):knX a sk m b o=o:=by
 unfold Rx at h
 unfold knX
 cases h1:Cq sk
 ·rw[h1]at h
  cases h2:Im a
  ·rw[h2]at h
   cases h3:(m==0)
   ·rw[h3]at h
    have h:m=0:=h
    rw[h]at h3;cases h3
   ·rw[h3]at h
    cases h4:(kM b==0)
    ·rw[h4]at h;cases h
    ·rfl
  ·rw[h2]at h;cases h
 ·rw[h1]at h;cases h
theorem Au {a:Nat→Nat}{sk m:Int}{b:Nat→Nat}{o:Option Out}(h:Rx a sk m b≠0):knX a sk m b o=Jv(Rx a sk m b):=by
 unfold Rx at h ⊢
 unfold knX
 cases h1:Cq sk
 ·cases h2:Im a
  ·cases h3:(m==0)
   ·rfl
   ·cases h4:(kM b==0)
    ·rfl
    ·rw[h1,h2,h3,h4]at h
     exact absurd rfl h
  ·rfl
 ·rfl
def X1:List Entry:=⟨158,eKd⟩::⟨276,eS fun a=>iA(Du a)⟩::⟨275,eS fun a=>BX(nH a)⟩::⟨282,eS fun a=>iA(xg a)⟩::⟨281,eS fun a=>BX(rC a)⟩::⟨285,eS fun a=>BX(Js a)⟩::⟨290,eS fun a=>iA(xk a)⟩::⟨289,eS fun a=>BX(nH a)⟩::⟨295,eS fun a=>iA(Dv a)⟩::⟨294,eS fun a=>BX(pK a(zB a))⟩::⟨304,eS fun a=>iA(Dw a)⟩::⟨303,eS fun a=>BX(pO a(zB a))⟩:: X0
theorem vG:∀e,e∈X1→lg Tryz.prog e:=bn aop <|bn(zh au1) <|bn(zh au2) <|bn(zh aoq) <|bn(zh aor) <|bn(zh aAJ) <|bn(zh aos) <|bn(zh aot) <|bn(zh au3) <|bn(zh au4) <|bn(zh au5) <|bn(zh bring)amY
section
variable(a:Nat→Nat)(sk:Int)
theorem ad1:ev Tryz.prog X1 []aM Tryz.f136 [SH 1 a sk]ret=knX a sk(Du a)(nH a)(yD 214(SH 1 a sk)):=by kernel_rfl
def e1:Int:=Rx a sk(Du a)(nH a)
theorem RX(h:e1 a sk=0):aj Tryz.prog 136 [SH 1 a sk](.aN [.tH 214(SH 1 a sk),iA 0]):=sp vG Tryz.mG(by kernel_rfl)(by kernel_rfl)rfl((ad1 a sk).trans(vE(m:=Du a)(b:=nH a)h))
theorem ajm(h:e1 a sk≠0):aj Tryz.prog 136 [SH 1 a sk](.aN [.x .nilIface,iA(e1 a sk)]):=sp vG Tryz.mG(by kernel_rfl)(by kernel_rfl)rfl((ad1 a sk).trans(Au(m:=Du a)(b:=nH a)(o:=yD 214(SH 1 a sk))h))
theorem ad2:ev Tryz.prog X1 []aM Tryz.f136 [SH 2 a sk]ret=knX a sk(xg a)(rC a)(yD 215(SH 2 a sk)):=by kernel_rfl
def e2:Int:=Rx a sk(xg a)(rC a)
theorem RY(h:e2 a sk=0):aj Tryz.prog 136 [SH 2 a sk](.aN [.tH 215(SH 2 a sk),iA 0]):=sp vG Tryz.mG(by kernel_rfl)(by kernel_rfl)rfl((ad2 a sk).trans(vE(m:=xg a)(b:=rC a)h))
theorem ajn(h:e2 a sk≠0):aj Tryz.prog 136 [SH 2 a sk](.aN [.x .nilIface,iA(e2 a sk)]):=sp vG Tryz.mG(by kernel_rfl)(by kernel_rfl)rfl((ad2 a sk).trans(Au(m:=xg a)(b:=rC a)(o:=yD 215(SH 2 a sk))h))
theorem ad3:ev Tryz.prog X1 []aM Tryz.f136 [SH 3 a sk]ret=cond(Cq sk)(Jv 4)(cond(Im a)(Jv 1)(cond(!(kM(Js a)==0))(Jv 1)(yD 216(SH 3 a sk)))):=by kernel_rfl
def e3:Int:=Rx a sk(0)(Js a)
theorem RZ(h:e3 a sk=0):aj Tryz.prog 136 [SH 3 a sk](.aN [.tH 216(SH 3 a sk),iA 0]):=sp vG Tryz.mG(by kernel_rfl)(by kernel_rfl)rfl((ad3 a sk).trans(vE(m:=0)(b:=Js a)h))
theorem ajo(h:e3 a sk≠0):aj Tryz.prog 136 [SH 3 a sk](.aN [.x .nilIface,iA(e3 a sk)]):=sp vG Tryz.mG(by kernel_rfl)(by kernel_rfl)rfl((ad3 a sk).trans(Au(m:=0)(b:=Js a)(o:=yD 216(SH 3 a sk))h))
theorem ad4:ev Tryz.prog X1 []aM Tryz.f136 [SH 4 a sk]ret=knX a sk(xk a)(nH a)(yD 217(SH 4 a sk)):=by kernel_rfl
def e4:Int:=Rx a sk(xk a)(nH a)
theorem R7(h:e4 a sk=0):aj Tryz.prog 136 [SH 4 a sk](.aN [.tH 217(SH 4 a sk),iA 0]):=sp vG Tryz.mG(by kernel_rfl)(by kernel_rfl)rfl((ad4 a sk).trans(vE(m:=xk a)(b:=nH a)h))
theorem ajp(h:e4 a sk≠0):aj Tryz.prog 136 [SH 4 a sk](.aN [.x .nilIface,iA(e4 a sk)]):=sp vG Tryz.mG(by kernel_rfl)(by kernel_rfl)rfl((ad4 a sk).trans(Au(m:=xk a)(b:=nH a)(o:=yD 217(SH 4 a sk))h))
theorem ad5:ev Tryz.prog X1 []aM Tryz.f136 [SH 5 a sk]ret=knX a sk(Dv a)(pK a(zB a))(yD 218(SH 5 a sk)):=by kernel_rfl
def e5:Int:=Rx a sk(Dv a)(pK a(zB a))
theorem R8(h:e5 a sk=0):aj Tryz.prog 136 [SH 5 a sk](.aN [.tH 218(SH 5 a sk),iA 0]):=sp vG Tryz.mG(by kernel_rfl)(by kernel_rfl)rfl((ad5 a sk).trans(vE(m:=Dv a)(b:=pK a(zB a))h))
theorem ajq(h:e5 a sk≠0):aj Tryz.prog 136 [SH 5 a sk](.aN [.x .nilIface,iA(e5 a sk)]):=sp vG Tryz.mG(by kernel_rfl)(by kernel_rfl)rfl((ad5 a sk).trans(Au(m:=Dv a)(b:=pK a(zB a))(o:=yD 218(SH 5 a sk))h))
theorem ad6:ev Tryz.prog X1 []aM Tryz.f136 [SH 6 a sk]ret=knX a sk(Dw a)(pO a(zB a))(yD 219(SH 6 a sk)):=by kernel_rfl
def e6:Int:=Rx a sk(Dw a)(pO a(zB a))
theorem R9(h:e6 a sk=0):aj Tryz.prog 136 [SH 6 a sk](.aN [.tH 219(SH 6 a sk),iA 0]):=sp vG Tryz.mG(by kernel_rfl)(by kernel_rfl)rfl((ad6 a sk).trans(vE(m:=Dw a)(b:=pO a(zB a))h))
theorem ajr(h:e6 a sk≠0):aj Tryz.prog 136 [SH 6 a sk](.aN [.x .nilIface,iA(e6 a sk)]):=sp vG Tryz.mG(by kernel_rfl)(by kernel_rfl)rfl((ad6 a sk).trans(Au(m:=Dw a)(b:=pO a(zB a))(o:=yD 219(SH 6 a sk))h))
end
def Wx(k:Int):Prop:=k≠1∧k≠2∧k≠3∧k≠4∧k≠5∧k≠6
def e0(a:Nat→Nat)(sk:Int):Int:=cond(Cq sk)4(cond(Im a)1 3)
theorem kd0 {k:Int}(h:Wx k)(a:Nat→Nat)(sk:Int):aj Tryz.prog 158 [SH k a sk](.x .nilIface):=by
 obtain⟨h1,h2,h3,h4,h5,h6⟩:=h
 refine sp aB Tryz.ajl(by kernel_rfl)(by kernel_rfl)rfl((amW k a sk).trans ?_)
 rw[beq_false_of_ne h1,beq_false_of_ne h2,beq_false_of_ne h3,beq_false_of_ne h4,beq_false_of_ne h5,beq_false_of_ne h6]
 rfl
theorem aou(k:Int)(a:Nat→Nat)(sk:Int):ev Tryz.prog X0 [kS Tryz.prog 158 fun _=>.x .nilIface]aM Tryz.f136 [SH k a sk]ret=cond(Cq sk)(Jv 4)(cond(Im a)(Jv 1)(gate(aj Tryz.prog 158 [SH k a sk](.x .nilIface))(Jv 3))):=by kernel_rfl
theorem ajs {k:Int}(h:Wx k)(a:Nat→Nat)(sk:Int):aj Tryz.prog 136 [SH k a sk](.aN [.x .nilIface,iA(e0 a sk)]):=by
 refine aP amY(ak aD av)Tryz.mG(by kernel_rfl)(by kernel_rfl)aA rfl((aou k a sk).trans ?_)
 rw[ah(kd0 h a sk)]
 unfold e0
 cases Cq sk<;>cases Im a<;>rfl
end Go.Proofs.YtefphimaggjihaaGreatDoor.Hs
namespace Go.Proofs.YtefphimaggjihaaGreatDoor.Hs
open Go.Gv
open Go.Ev (cn bq dI bT fdiv d9 fI dK jO kL gN lK fabs aL iI)
def X2:List Entry:=X1
theorem amZ:∀e,e∈X2→lg Tryz.prog e:=vG
section
variable(k:Int)(a:Nat→Nat)(sk:Int)(p q u:Nat)
variable(z:Nat)
end
end Go.Proofs.YtefphimaggjihaaGreatDoor.Hs
namespace Go.Proofs.YtefphimaggjihaaGreatDoor.Hs
open Go.Gv
open Go.Ev (cn bq dI bT fdiv d9 fI dK jO kL gN lK fabs)
section
variable(k:Int)(a:Nat→Nat)(sk:Int)(r:Nat→Nat)(e:Int)(T:Nat)(p q u:Nat)
abbrev KNb:Prop:=aj Tryz.prog 136 [SH k a sk](.aN [.x .nilIface,iA e])
abbrev KNg:Prop:=aj Tryz.prog 136 [SH k a sk](.aN [.tH T(SH k a sk),iA 0])
noncomputable def kK(x:AV)(e:Int):aV:=kS Tryz.prog 136 fun _=>.aN [x,iA e]
theorem akF:ev Tryz.prog X2 [kK(.x .nilIface)e]aM Tryz.f98 [SH k a sk]ret=gate(KNb k a sk e)(some(Out.of(iA e))):=by kernel_rfl
theorem akG:ev Tryz.prog X2 [kK(.tH T(SH k a sk))0]aM Tryz.f98 [SH k a sk]ret=gate(KNg k a sk T)(some(Out.of(iA 0))):=by kernel_rfl
theorem Kz {k:Int}{a:Nat→Nat}{sk e:Int}(h:KNb k a sk e):aj Tryz.prog 98 [SH k a sk](iA e):=aP amZ(ak aD av)Tryz.aqc(by kernel_rfl)(by kernel_rfl)aA rfl((akF k a sk e).trans(ah h))
theorem yC {k:Int}{a:Nat→Nat}{sk:Int}{T:Nat}(h:KNg k a sk T):aj Tryz.prog 98 [SH k a sk](iA 0):=aP amZ(ak aD av)Tryz.aqc(by kernel_rfl)(by kernel_rfl)aA rfl((akG k a sk T).trans(ah h))
def z6:Nat→Nat:=fun _=>0
end
section
end
def fOf:List AV→Nat
 | [.f x]=>x
 |_=>0
theorem avq(g:Nat→Nat):ev Tryz.prog [] []aM Tryz.f164 [.sl 1 3 fun i=>[.f(g i)]]ret=some(Out.of(V(g 0)(g 1)(g 2))):=by kernel_rfl
theorem rof(g:Nat→Nat):aj Tryz.prog 164 [.sl 1 3 fun i=>[.f(g i)]](V(g 0)(g 1)(g 2)):=sp aB Tryz.ayz(by kernel_rfl)(by kernel_rfl)rfl(avq g)
def ofG:List AV→AV
 | [.sl _ _ el]=>V(fOf(el 0))(fOf(el 1))(fOf(el 2))
 |_=>.any
def pE(a b c x k:Nat):Nat→List AV:=fun i=>dn((0+i)==k) [.f x](chunk [.f a,.f b,.f c] 1(0+i))
theorem Xq {a b c x k:Nat}(g:Nat→Nat)(h:∀i,i<3→pE a b c x k i=[.f(g i)]):aj Tryz.prog 164 [.sl 1 3(pE a b c x k)](V(g 0)(g 1)(g 2)):=by
 refine aj.ajX(rof g)fun E vs hv=>?_
 obtain⟨v,ws,rfl,h1,h2⟩:=aH.1 hv
 exact aH.2⟨v,ws,rfl,El h1 fun i hi=>(h i hi).symm,h2⟩
section
variable(a b c x:Nat)
noncomputable def ptO(k:Nat)(v:AV):Option Out:=gate(aj Tryz.prog 164 [.sl 1 3(pE a b c x k)]v)(some(Out.of v))
theorem ajY:ev Tryz.prog [] [kS Tryz.prog 164 ofG]aM Tryz.f141 [V a b c,iA 0,.f x]ret=ptO a b c x 0(V x b c):=by kernel_rfl
theorem ajZ:ev Tryz.prog [] [kS Tryz.prog 164 ofG]aM Tryz.f141 [V a b c,iA 1,.f x]ret=ptO a b c x 1(V a x c):=by kernel_rfl
theorem aj0:ev Tryz.prog [] [kS Tryz.prog 164 ofG]aM Tryz.f141 [V a b c,iA 2,.f x]ret=ptO a b c x 2(V a b x):=by kernel_rfl
theorem ae6:aj Tryz.prog 141 [V a b c,iA 0,.f x](V x b c):=aP aB(ak aD av)Tryz.aae(by kernel_rfl)(by kernel_rfl)aA rfl((ajY a b c x).trans(ah(Xq(ls [x,b,c])fun i hi=>(by match i,hi with | 0,_=>rfl | 1,_=>rfl | 2,_=>rfl))))
theorem ae7:aj Tryz.prog 141 [V a b c,iA 1,.f x](V a x c):=aP aB(ak aD av)Tryz.aae(by kernel_rfl)(by kernel_rfl)aA rfl((ajZ a b c x).trans(ah(Xq(ls [a,x,c])fun i hi=>(by match i,hi with | 0,_=>rfl | 1,_=>rfl | 2,_=>rfl))))
theorem ae8:aj Tryz.prog 141 [V a b c,iA 2,.f x](V a b x):=aP aB(ak aD av)Tryz.aae(by kernel_rfl)(by kernel_rfl)aA rfl((aj0 a b c x).trans(ah(Xq(ls [a,b,x])fun i hi=>(by match i,hi with | 0,_=>rfl | 1,_=>rfl | 2,_=>rfl))))
end
def ao4:List AV→Option AV
 | [.agg [.f a,.f b,.f c],.x(.int .i64 k),.f x]=>cond(k==0)(some(V x b c))(cond(k==1)(some(V a x c))(cond(k==2)(some(V a b x))none))
 |_=>none
theorem aj1:lg Tryz.prog⟨141,ao4⟩:=fun args r hr=>by
 simp only[ao4]at hr
 split at hr
 ·rename_i a b c k x
  cases h0:k==0
  ·rw[h0]at hr
   cases h1:k==1
   ·rw[h1]at hr
    cases h2:k==2
    ·rw[h2]at hr;cases hr
    ·rw[h2]at hr;cases hr;rw[eq_of_beq h2];exact Or.inl(ae8 a b c x)
   ·rw[h1]at hr;cases hr;rw[eq_of_beq h1];exact Or.inl(ae7 a b c x)
  ·rw[h0]at hr;cases hr;rw[eq_of_beq h0];exact Or.inl(ae6 a b c x)
 ·cases hr
def qF(k:Int):Option Out:=some(Out.of(iA k))
def aiT(a b c:Nat):Option Out:=cond(vo a)(cond(vo b)(cond(vo c)(qF(-1))(qF(-1)))(cond(vo c)(qF(-1))(qF 0)))(cond(vo b)(cond(vo c)(qF(-1))(qF 1))(cond(vo c)(qF 2)(qF(-1))))
def aiS(a b c:Nat):Int:=cond(LW a b c)(axI a b c)(-1)
theorem aaf(a b c:Nat):aj Tryz.prog 101 [V a b c](iA(aiS a b c)):=by
 refine sp pJ Tryz.ayA(by kernel_rfl)(by kernel_rfl)rfl((show ev Tryz.prog R3 []aM Tryz.f101 [V a b c]ret=aiT a b c by kernel_rfl).trans ?_)
 unfold aiT aiS LW axI qF
 cases vo a<;>cases vo b<;>cases vo c<;>rfl
theorem ao5 {a:Nat→Nat}(h:LW(a 3)(a 4)(a 5)=true):aj Tryz.prog 101 [V(a 3)(a 4)(a 5)](iA(zB a:Nat)):=by
 have:=aaf(a 3)(a 4)(a 5)
 unfold aiS at this
 rw[h,cond_true,ae9]at this
 exact this
section
variable(o d:Nat→Nat)(r:Nat)
end
def jv(a b c:Nat):Bool:=cond(cond(dK a 0)(dK b 0)false)(dK c 0)false
theorem O4(a b c:Nat):aj Tryz.prog 96 [V a b c](bA(jv a b c)):=sp aB Tryz.aA5(by kernel_rfl)(by kernel_rfl)rfl(by kernel_rfl)
def R4:List Entry:=⟨141,ao4⟩::⟨96,eV fun a b c=>bA(jv a b c)⟩::R3
theorem Dq:∀e,e∈R4→lg Tryz.prog e:=bn aj1 <|bn(tZ O4)pJ
end Go.Proofs.YtefphimaggjihaaGreatDoor.Hs
namespace Go.Ev
open Ieee
theorem XI {d:Datum}(h:d.isNaN=false):d.order d=some .eq:=by
 cases d with
 |number s m i=>simp only[Datum.order];simp
 |infinity s=>simp[Datum.order]
 |nan s f=>simp[Datum.isNaN]at h
theorem afL(x:Nat):dK x x=!aL x:=by
 unfold dK
 cases h:aL x
 ·have:double.order x x=some .eq:=XI h
  rw[this];rfl
 ·have:double.order x x=none:=nR h
  rw[this];rfl
theorem ac3 {d e:Datum}(hd:d.isNaN=false)(he:e.isNaN=false):∃o,d.order e=some o:=by
 cases d with
 |nan s f=>simp[Datum.isNaN]at hd
 |infinity s =>
  cases e with
  |nan s f=>simp[Datum.isNaN]at he
  |infinity t=>cases s<;>cases t<;>exact⟨_,rfl⟩
  |number t m i=>cases s<;>exact⟨_,rfl⟩
 |number s m i =>
  cases e with
  |nan s f=>simp[Datum.isNaN]at he
  |infinity t=>cases t<;>exact⟨_,rfl⟩
  |number t n j=>exact⟨_,rfl⟩
theorem Ov {x y:Nat}(hx:aL x=false)(hy:aL y=false):∃o,double.order x y=some o:=ac3 hx hy
theorem Ra {x y:Nat}(hx:aL x=false)(hy:aL y=false):lK x y=!jO x y:=by
 obtain⟨o,h⟩:=Ov hx hy
 unfold lK jO
 rw[h]
 cases o<;>rfl
theorem Rb {x y:Nat}(hx:aL x=false)(hy:aL y=false):kL x y=!gN x y:=by
 obtain⟨o,h⟩:=Ov hx hy
 unfold kL gN
 rw[h]
 cases o<;>rfl
theorem abk {x y:Nat}(h:lK x y=true):aL x=false∧aL y=false:=by
 unfold lK at h
 constructor
 ·cases hx:aL x
  ·rfl
  ·have e:double.order x y=none:=nR hx
   rw[e]at h;cases h
 ·cases hy:aL y
  ·rfl
  ·have e:double.order x y=none:=qy hy
   rw[e]at h;cases h
end Go.Ev
namespace Go.Proofs.YtefphimaggjihaaGreatDoor.Hs
open Go.Gv
open Go.Ev (cn bq dI bT fdiv d9 fI dK jO kL gN lK fabs aL Ra Rb abk)
theorem sZ {x:Nat}(h:eP x=true):aL x=false:=by
 unfold eP at h
 cases h1:lK x 13920209183539462144
 ·rw[h1]at h;cases h
 ·exact(abk h1).1
theorem FY {x:Nat}(h:eP x=true):kL x 0=!gN x 0:=Rb(sZ h)(by decide +kernel)
section
variable(b r:Nat→Nat)
end
def R5:List Entry:=R4
theorem Ak:∀e,e∈R5→lg Tryz.prog e:=Dq
end Go.Proofs.YtefphimaggjihaaGreatDoor.Hs
namespace Go.Proofs.YtefphimaggjihaaGreatDoor.Hs
open Go.Gv
open Go.Ev (cn bq dI bT fdiv d9 fI dK jO kL gN lK fabs aL Ra Rb)
section
variable(a:Nat→Nat)(sk:Int)
theorem ar1:aj Tryz.prog 103 [SH 1 a sk](BX(nH a)):=sp Ak Tryz.qU(by kernel_rfl)(by kernel_rfl)rfl(by kernel_rfl)
theorem ar2:aj Tryz.prog 103 [SH 2 a sk](BX(rC a)):=sp Ak Tryz.qU(by kernel_rfl)(by kernel_rfl)rfl(by kernel_rfl)
theorem ar3:aj Tryz.prog 103 [SH 3 a sk](BX(Js a)):=sp Ak Tryz.qU(by kernel_rfl)(by kernel_rfl)rfl(by kernel_rfl)
theorem ar4:aj Tryz.prog 103 [SH 4 a sk](BX(nH a)):=sp Ak Tryz.qU(by kernel_rfl)(by kernel_rfl)rfl(by kernel_rfl)
noncomputable def axK(z:Nat):aV:=kS Tryz.prog 101 fun _=>iA(z:Nat)
noncomputable def gAx(z:Nat)(o:Option Out):Option Out:=gate(aj Tryz.prog 101 [V(a 3)(a 4)(a 5)](iA(z:Nat)))o
theorem Bp {z:Nat}{o:Option Out}(h:LW(a 3)(a 4)(a 5)=true)(hz:zB a=z):gAx a z o=o:=ah(by rw[←hz];exact ao5 h)
theorem amz:ev Tryz.prog R5 [axK 0]aM Tryz.f103 [SH 5 a sk]ret=gAx a 0(some(Out.of(BX(pK a 0)))):=by kernel_rfl
theorem amA:ev Tryz.prog R5 [axK 1]aM Tryz.f103 [SH 5 a sk]ret=gAx a 1(some(Out.of(BX(pK a 1)))):=by kernel_rfl
theorem amB:ev Tryz.prog R5 [axK 2]aM Tryz.f103 [SH 5 a sk]ret=gAx a 2(some(Out.of(BX(pK a 2)))):=by kernel_rfl
theorem ar5(h:LW(a 3)(a 4)(a 5)=true):aj Tryz.prog 103 [SH 5 a sk](BX(pK a(zB a))):=by
 rcases aaM a with hz |hz |hz
 ·rw[hz];exact aP Ak(ak aD av)Tryz.qU(by kernel_rfl)(by kernel_rfl)aA rfl((amz a sk).trans(Bp a h hz))
 ·rw[hz];exact aP Ak(ak aD av)Tryz.qU(by kernel_rfl)(by kernel_rfl)aA rfl((amA a sk).trans(Bp a h hz))
 ·rw[hz];exact aP Ak(ak aD av)Tryz.qU(by kernel_rfl)(by kernel_rfl)aA rfl((amB a sk).trans(Bp a h hz))
theorem amD:ev Tryz.prog R5 [axK 0]aM Tryz.f103 [SH 6 a sk]ret=gAx a 0(some(Out.of(BX(pO a 0)))):=by kernel_rfl
theorem amF:ev Tryz.prog R5 [axK 1]aM Tryz.f103 [SH 6 a sk]ret=gAx a 1(some(Out.of(BX(pO a 1)))):=by kernel_rfl
theorem amG:ev Tryz.prog R5 [axK 2]aM Tryz.f103 [SH 6 a sk]ret=gAx a 2(some(Out.of(BX(pO a 2)))):=by kernel_rfl
theorem ar6(h:LW(a 3)(a 4)(a 5)=true):aj Tryz.prog 103 [SH 6 a sk](BX(pO a(zB a))):=by
 rcases aaM a with hz |hz |hz
 ·rw[hz];exact aP Ak(ak aD av)Tryz.qU(by kernel_rfl)(by kernel_rfl)aA rfl((amD a sk).trans(Bp a h hz))
 ·rw[hz];exact aP Ak(ak aD av)Tryz.qU(by kernel_rfl)(by kernel_rfl)aA rfl((amF a sk).trans(Bp a h hz))
 ·rw[hz];exact aP Ak(ak aD av)Tryz.qU(by kernel_rfl)(by kernel_rfl)aA rfl((amG a sk).trans(Bp a h hz))
noncomputable def arK(b:Nat→Nat):aV:=kS Tryz.prog 103 fun _=>BX b
noncomputable def gAr(j:Int)(b:Nat→Nat)(o:Option Out):Option Out:=gate(aj Tryz.prog 103 [SH j a sk](BX b))o
noncomputable def smZ(j:Int)(b:Nat→Nat):Option Out:=gAr a sk j b(cond(!(kM b==0))(qF 1)(qF 0))
noncomputable def smX(o:Option Out):Option Out:=cond(Cq sk)(qF 4)(cond(Im a)(qF 1)o)
def R6:List Entry:=⟨101,eV fun a b c=>iA(aiS a b c)⟩::R5
theorem LV:∀e,e∈R6→lg Tryz.prog e:=bn(tZ aaf)Ak
theorem atj(b:Nat→Nat):ev Tryz.prog R6 [arK b]aM Tryz.f46 [SH 1 a sk]ret=smX a sk(cond(kL(a 9)0)(qF 6)(smZ a sk 1 b)):=by kernel_rfl
theorem atl(b:Nat→Nat):ev Tryz.prog R6 [arK b]aM Tryz.f46 [SH 2 a sk]ret=smX a sk(cond(Co a)(qF 6)(smZ a sk 2 b)):=by kernel_rfl
theorem atm(b:Nat→Nat):ev Tryz.prog R6 [arK b]aM Tryz.f46 [SH 3 a sk]ret=smX a sk(smZ a sk 3 b):=by kernel_rfl
theorem atn(b:Nat→Nat):ev Tryz.prog R6 [arK b]aM Tryz.f46 [SH 4 a sk]ret=smX a sk(cond(kL(a 9)0)(qF 6)(cond(!(Vx(a 3)(a 4)(a 5)==0))(qF(Vx(a 3)(a 4)(a 5)))(smZ a sk 4 b))):=by kernel_rfl
theorem ato(b:Nat→Nat):ev Tryz.prog R6 [arK b]aM Tryz.f46 [SH 5 a sk]ret=smX a sk(cond(cond(kL(a 9)0)true(decide(aiS(a 3)(a 4)(a 5)<0)))(qF 6)(smZ a sk 5 b)):=by kernel_rfl
theorem atp(b:Nat→Nat):ev Tryz.prog R6 [arK b]aM Tryz.f46 [SH 6 a sk]ret=smX a sk(cond(cond(cond(kL(a 10)0)true(jO(a 9)(a 10)))true(decide(aiS(a 3)(a 4)(a 5)<0)))(qF 6)(smZ a sk 6 b)):=by kernel_rfl
theorem atq(k:Int)(b:Nat→Nat):ev Tryz.prog R6 [arK b]aM Tryz.f46 [SH k a sk]ret=smX a sk(cond(k==1)(cond(kL(a 9)0)(qF 6)(smZ a sk k b))(cond(k==2)(cond(Co a)(qF 6)(smZ a sk k b))(cond(k==3)(smZ a sk k b)(cond(k==4)(cond(kL(a 9)0)(qF 6)(cond(!(Vx(a 3)(a 4)(a 5)==0))(qF(Vx(a 3)(a 4)(a 5)))(smZ a sk k b)))
  (cond(k==5)(cond(cond(kL(a 9)0)true(decide(aiS(a 3)(a 4)(a 5)<0)))(qF 6)(smZ a sk k b))(cond(k==6)(cond(cond(cond(kL(a 10)0)true(jO(a 9)(a 10)))true(decide(aiS(a 3)(a 4)(a 5)<0)))(qF 6)(smZ a sk k b))(qF 3))))))):=by kernel_rfl
end
theorem abx(x y z:Nat):decide(aiS x y z<0)=!LW x y z:=by
 unfold aiS LW axI
 cases vo x<;>cases vo y<;>cases vo z<;>rfl
theorem Br {a:Nat→Nat}(h:Im a=false):eP(a 9)=true∧eP(a 10)=true:=by
 unfold Im at h
 revert h
 cases dL(a 0)(a 1)(a 2)<;>cases dL(a 3)(a 4)(a 5)<;>cases dL(a 6)(a 7)(a 8)<;>cases eP(a 9)<;>cases eP(a 10)<;>intro h<;>first | (cases h;done) |exact⟨rfl,rfl⟩
theorem Gz {a:Nat→Nat}{sk:Int}{m:Int}{b:Nat→Nat}{o:Option Out}(h:Im a=false→o=cond(!(m==0))(qF m)(cond(!(kM b==0))(qF 1)(qF 0))):smX a sk o=some(Out.of(iA(Rx a sk m b))):=by
 unfold smX Rx
 cases Cq sk
 ·cases hr:Im a
  ·rw[h hr]
   unfold qF
   cases(m==0)<;>cases(kM b==0)<;>rfl
  ·rfl
 ·rfl
theorem Bt {a:Nat→Nat}{sk j:Int}{b:Nat→Nat}(h:aj Tryz.prog 103 [SH j a sk](BX b)):smZ a sk j b=cond(!(kM b==0))(qF 1)(qF 0):=ah h
section
variable(a:Nat→Nat)(sk:Int)
theorem sm1:aj Tryz.prog 46 [SH 1 a sk](iA(e1 a sk)):=by
 refine aP LV(ak aD av)Tryz.GA(by kernel_rfl)(by kernel_rfl)aA rfl((atj a sk(nH a)).trans(Gz fun hr=>?_))
 rw[Bt(ar1 a sk),FY(Br hr).1]
 unfold Du
 cases gN(a 9)0<;>rfl
theorem sm2:aj Tryz.prog 46 [SH 2 a sk](iA(e2 a sk)):=by
 refine aP LV(ak aD av)Tryz.GA(by kernel_rfl)(by kernel_rfl)aA rfl((atl a sk(rC a)).trans(Gz fun hr=>?_))
 rw[Bt(ar2 a sk)]
 unfold xg
 cases Co a<;>rfl
theorem sm3:aj Tryz.prog 46 [SH 3 a sk](iA(e3 a sk)):=by
 refine aP LV(ak aD av)Tryz.GA(by kernel_rfl)(by kernel_rfl)aA rfl((atm a sk(Js a)).trans(Gz fun hr=>?_))
 rw[Bt(ar3 a sk)]
 rfl
theorem sm4:aj Tryz.prog 46 [SH 4 a sk](iA(e4 a sk)):=by
 refine aP LV(ak aD av)Tryz.GA(by kernel_rfl)(by kernel_rfl)aA rfl((atn a sk(nH a)).trans(Gz fun hr=>?_))
 rw[Bt(ar4 a sk),FY(Br hr).1]
 unfold xk
 cases gN(a 9)0
 ·rfl
 ·rfl
theorem sm5:aj Tryz.prog 46 [SH 5 a sk](iA(e5 a sk)):=by
 refine aP LV(ak aD av)Tryz.GA(by kernel_rfl)(by kernel_rfl)aA rfl((ato a sk(pK a(zB a))).trans(Gz fun hr=>?_))
 rw[FY(Br hr).1,abx]
 unfold Dv
 cases ho:LW(a 3)(a 4)(a 5)
 ·cases gN(a 9)0<;>rfl
 ·rw[Bt(ar5 a sk ho)]
  cases gN(a 9)0<;>rfl
theorem sm6:aj Tryz.prog 46 [SH 6 a sk](iA(e6 a sk)):=by
 refine aP LV(ak aD av)Tryz.GA(by kernel_rfl)(by kernel_rfl)aA rfl((atp a sk(pO a(zB a))).trans(Gz fun hr=>?_))
 rw[FY(Br hr).2,abx]
 unfold Dw
 rw[Ra(sZ(Br hr).1)(sZ(Br hr).2)]
 cases ho:LW(a 3)(a 4)(a 5)
 ·cases gN(a 10)0<;>cases jO(a 9)(a 10)<;>rfl
 ·rw[Bt(ar6 a sk ho)]
  cases gN(a 10)0<;>cases jO(a 9)(a 10)<;>rfl
theorem sm0 {k:Int}(h:Wx k):aj Tryz.prog 46 [SH k a sk](iA(e0 a sk)):=by
 obtain⟨h1,h2,h3,h4,h5,h6⟩:=h
 refine aP LV(ak aD av)Tryz.GA(by kernel_rfl)(by kernel_rfl)aA rfl((atq a sk k z6).trans ?_)
 rw[beq_false_of_ne h1,beq_false_of_ne h2,beq_false_of_ne h3,beq_false_of_ne h4,beq_false_of_ne h5,beq_false_of_ne h6]
 unfold smX e0 qF
 cases Cq sk<;>cases Im a<;>rfl
end
section
variable(k:Int)(a:Nat→Nat)(sk:Int)(e:Int)(b:Nat→Nat)
end
end Go.Proofs.YtefphimaggjihaaGreatDoor.Hs
namespace Go.Proofs.YtefphimaggjihaaGreatDoor.Hs
open Go.Gv
open Go.Ev (cn bq dI bT fdiv d9 fI dK jO kL gN lK fabs aL)
abbrev fC(k:Int)(a:Nat→Nat)(sk:Int):List AV:=[iA k,.f(a 0),.f(a 1),.f(a 2),.f(a 3),.f(a 4),.f(a 5),.f(a 6),.f(a 7),.f(a 8),.f(a 9),.f(a 10),iA sk]
def KnZ(k:Int)(a:Nat→Nat)(sk:Int):Prop:=(k=1→e1 a sk=0)∧(k=2→e2 a sk=0)∧(k=3→e3 a sk=0)∧(k=4→e4 a sk=0)∧(k=5→e5 a sk=0)∧(k=6→e6 a sk=0)
def aiv:List AV→Prop
 | [.x(.int .i64 k),.f a0,.f a1,.f a2,.f a3,.f a4,.f a5,.f a6,.f a7,.f a8,.f a9,.f Hy,.x(.int .i64 sk)]=>Im(ls [a0,a1,a2,a3,a4,a5,a6,a7,a8,a9,Hy])=false∧(1≤k∧k≤6)∧(0≤sk∧sk<16)∧KnZ k(ls [a0,a1,a2,a3,a4,a5,a6,a7,a8,a9,Hy])sk
 |_=>False
def anV(c:List AV)(m:Int):Prop:=aj Tryz.prog 98 [.agg c](iA m)∧aj Tryz.prog 46 [.agg c](iA m)∧(m=0→aiv c)
theorem DK {sk:Int}(h:Cq sk=false):0≤sk∧sk<16:=by
 unfold Cq at h
 by_cases h1:sk<0
 ·rw[decide_eq_true h1]at h;cases h
 ·rw[decide_eq_false h1,cond_false]at h
  have:=of_decide_eq_false h
  omega
theorem GH {k:Int}{a:Nat→Nat}{sk m:Int}{b:Nat→Nat}(hk:1≤k∧k≤6)(hz:KnZ k a sk)(h:Rx a sk m b=0):aiv(fC k a sk):=by
 unfold Rx at h
 cases h1:Cq sk
 ·cases h2:Im a
  ·exact⟨h2,hk,DK h1,hz⟩
  ·rw[h1,h2]at h;cases h
 ·rw[h1]at h;cases h
theorem atG(a:Nat→Nat)(sk:Int):e0 a sk≠0:=by
 unfold e0
 cases Cq sk<;>cases Im a<;>decide
theorem yB(k:Int)(a:Nat→Nat)(sk:Int):∃m,anV(fC k a sk)m:=by
 by_cases h1:k=1
 ·subst h1
  have sm:=sm1 a sk
  by_cases h:e1 a sk=0
  ·rw[h]at sm;exact⟨0,yC(RX a sk h),sm,fun _=>GH(by decide)⟨fun _=>h,fun c=>absurd c(by decide),fun c=>absurd c(by decide),fun c=>absurd c(by decide),fun c=>absurd c(by decide),fun c=>absurd c(by decide)⟩h⟩
  ·exact⟨_,Kz(ajm a sk h),sm,fun he=>absurd he h⟩
 by_cases h2:k=2
 ·subst h2
  have sm:=sm2 a sk
  by_cases h:e2 a sk=0
  ·rw[h]at sm;exact⟨0,yC(RY a sk h),sm,fun _=>GH(by decide)⟨fun c=>absurd c(by decide),fun _=>h,fun c=>absurd c(by decide),fun c=>absurd c(by decide),fun c=>absurd c(by decide),fun c=>absurd c(by decide)⟩h⟩
  ·exact⟨_,Kz(ajn a sk h),sm,fun he=>absurd he h⟩
 by_cases h3:k=3
 ·subst h3
  have sm:=sm3 a sk
  by_cases h:e3 a sk=0
  ·rw[h]at sm;exact⟨0,yC(RZ a sk h),sm,fun _=>GH(by decide)⟨fun c=>absurd c(by decide),fun c=>absurd c(by decide),fun _=>h,fun c=>absurd c(by decide),fun c=>absurd c(by decide),fun c=>absurd c(by decide)⟩h⟩
  ·exact⟨_,Kz(ajo a sk h),sm,fun he=>absurd he h⟩
 by_cases h4:k=4
 ·subst h4
  have sm:=sm4 a sk
  by_cases h:e4 a sk=0
  ·rw[h]at sm;exact⟨0,yC(R7 a sk h),sm,fun _=>GH(by decide)⟨fun c=>absurd c(by decide),fun c=>absurd c(by decide),fun c=>absurd c(by decide),fun _=>h,fun c=>absurd c(by decide),fun c=>absurd c(by decide)⟩h⟩
  ·exact⟨_,Kz(ajp a sk h),sm,fun he=>absurd he h⟩
 by_cases h5:k=5
 ·subst h5
  have sm:=sm5 a sk
  by_cases h:e5 a sk=0
  ·rw[h]at sm;exact⟨0,yC(R8 a sk h),sm,fun _=>GH(by decide)⟨fun c=>absurd c(by decide),fun c=>absurd c(by decide),fun c=>absurd c(by decide),fun c=>absurd c(by decide),fun _=>h,fun c=>absurd c(by decide)⟩h⟩
  ·exact⟨_,Kz(ajq a sk h),sm,fun he=>absurd he h⟩
 by_cases h6:k=6
 ·subst h6
  have sm:=sm6 a sk
  by_cases h:e6 a sk=0
  ·rw[h]at sm;exact⟨0,yC(R9 a sk h),sm,fun _=>GH(by decide)⟨fun c=>absurd c(by decide),fun c=>absurd c(by decide),fun c=>absurd c(by decide),fun c=>absurd c(by decide),fun c=>absurd c(by decide),fun _=>h⟩h⟩
  ·exact⟨_,Kz(ajr a sk h),sm,fun he=>absurd he h⟩
 exact⟨_,Kz(ajs⟨h1,h2,h3,h4,h5,h6⟩a sk),sm0 a sk⟨h1,h2,h3,h4,h5,h6⟩,fun he=>absurd he(atG a sk)⟩
open Classical in
noncomputable def jG(c:List AV):Int:=if h:∃m,anV c m then h.choose else 0
theorem A9(k:Int)(a:Nat→Nat)(sk:Int):aj Tryz.prog 98 [SH k a sk](iA(jG(fC k a sk)))∧aj Tryz.prog 46 [SH k a sk](iA(jG(fC k a sk))):=by
 unfold jG
 rw[dif_pos(yB k a sk)]
 exact⟨(yB k a sk).choose_spec.1,(yB k a sk).choose_spec.2.1⟩
theorem kI {k:Int}{a:Nat→Nat}{sk:Int}(h:jG(fC k a sk)=0):Im a=false∧(1≤k∧k≤6)∧0≤sk∧sk<16:=by
 unfold jG at h
 rw[dif_pos(yB k a sk)]at h
 obtain⟨h1,h2,h3,_⟩:=(yB k a sk).choose_spec.2.2 h
 exact⟨h1,h2,h3⟩
theorem ajj {k:Int}{a:Nat→Nat}{sk:Int}(h:jG(fC k a sk)=0):KnZ k a sk:=by
 unfold jG at h
 rw[dif_pos(yB k a sk)]at h
 exact((yB k a sk).choose_spec.2.2 h).2.2.2
end Go.Proofs.YtefphimaggjihaaGreatDoor.Hs
namespace Go.Proofs.YtefphimaggjihaaGreatDoor.Hs.So
open Go.Gv
open Go.Ev (cn bq dI bT fdiv d9 fI dK jO kL gN lK fabs aL)
structure dM where
 op:Int
 l:Int
 r:Int
 k:Int
 a:Nat→Nat
 sk:Int
def dM.s(p:dM):List AV:=fC p.k p.a p.sk
def dM.c(p:dM):List AV:=[iA p.op,iA p.l,iA p.r,iA p.k,.f(p.a 0),.f(p.a 1),.f(p.a 2),.f(p.a 3),.f(p.a 4),.f(p.a 5),.f(p.a 6),.f(p.a 7),.f(p.a 8),.f(p.a 9),.f(p.a 10),iA p.sk]
def pQ(n:Nat)(P:Nat→dM):AV:=.sl 16 n fun i=>(P i).c
def M6(n:Nat)(P:Nat→dM)(sn:Int):List AV:=[pQ n P,iA sn]
def eSc(g:List AV→AV):List AV→Option AV
 | [.agg [.x(.int .i64 k),.f a0,.f a1,.f a2,.f a3,.f a4,.f a5,.f a6,.f a7,.f a8,.f a9,.f Hy,.x(.int .i64 sk)]]=>some(g [.x(.int .i64 k),.f a0,.f a1,.f a2,.f a3,.f a4,.f a5,.f a6,.f a7,.f a8,.f a9,.f Hy,.x(.int .i64 sk)])
 |_=>none
theorem YU {f:Nat}{g:List AV→AV}(h:∀k a sk,aj Tryz.prog f [SH k a sk](g(fC k a sk))):lg Tryz.prog⟨f,eSc g⟩:=fun args r hr=>by
 simp only[eSc]at hr
 split at hr
 ·cases hr;exact Or.inl(h _(ls [_,_,_,_,_,_,_,_,_,_,_])_)
 ·cases hr
def kin(k:Int):Bool:=(k==1)||((k==2)||(k==5))
def ktT {α:Type}(k:Int)(z t:α):α:=cond(k==1)(cond(k==1)z t)(cond(k==2)(cond(k==2)z t)(cond(k==5)z t))
theorem asC {α:Type}(k:Int)(z t:α):ktT k z t=cond(kin k)z t:=by
 unfold ktT kin
 cases k==1<;>cases k==2<;>cases k==5<;>rfl
section
variable(mf:List AV→Int)(k:Int)(a:Nat→Nat)(sk:Int)
def mlE(m k:Int):Int:=cond(!(m==0))m(cond(kin k)0 3)
theorem axx:ev Tryz.prog [⟨98,eSc fun c=>iA(mf c)⟩] []aM Tryz.f160 [SH k a sk]ret=cond(!(mf(fC k a sk)==0))(qF(mf(fC k a sk)))(ktT k(qF 0)(qF 3)):=by kernel_rfl
end
theorem amf:lg Tryz.prog⟨98,eSc fun c=>iA(jG c)⟩:=YU fun k a sk=>(A9 k a sk).1
theorem ahS:lg Tryz.prog⟨46,eSc fun c=>iA(jG c)⟩:=YU fun k a sk=>(A9 k a sk).2
theorem sml(k:Int)(a:Nat→Nat)(sk:Int):aj Tryz.prog 160 [SH k a sk](iA(mlE(jG(fC k a sk))k)):=by
 refine sp(bn amf aB)Tryz.az5(by kernel_rfl)(by kernel_rfl)rfl((axx jG k a sk).trans ?_)
 rw[asC]
 unfold mlE qF
 cases(jG(fC k a sk)==0)<;>cases kin k<;>rfl
def axy:List AV→Int
 |.x(.int .i64 k)::_=>k
 |_=>0
theorem asD:lg Tryz.prog⟨160,eSc fun c=>iA(mlE(jG c)(axy c))⟩:=YU fun k a sk=>sml k a sk
def nmB(l r i:Int):Bool:=cond(cond(cond(decide(l<0))true(decide(l≥i)))true(decide(r<0)))true(decide(r≥i))
def zi {α:Type}(o:Int)(z t:α):α:=cond(o==1)(cond(o==1)z t)(cond(o==2)(cond(o==2)z t)(cond(o==3)z t))
def opB(o:Int):Bool:=(o==1)||((o==2)||(o==3))
theorem asE {α:Type}(o:Int)(z t:α):zi o z t=cond(opB o)z t:=by
 unfold zi opB
 cases o==1<;>cases o==2<;>cases o==3<;>rfl
noncomputable def Rf(p:dM)(i:Int):Int:=cond(p.op==0)(mlE(jG p.s)p.k)(cond(opB p.op)(cond(nmB p.l p.r i)9 0)11)
theorem axz(g:List AV→Int)(p:dM)(i:Int):ev Tryz.prog [⟨160,eSc fun c=>iA(g c)⟩] []aM Tryz.f137 [.agg p.c,iA i]ret=cond(p.op==0)(qF(g p.s))(zi p.op(cond(nmB p.l p.r i)(qF 9)(qF 0))(qF 11)):=by kernel_rfl
theorem smp(p:dM)(i:Int):aj Tryz.prog 137 [.agg p.c,iA i](iA(Rf p i)):=by
 refine sp(bn asD aB)Tryz.az6(by kernel_rfl)(by kernel_rfl)rfl((axz(fun c=>mlE(jG c)(axy c))p i).trans ?_)
 rw[asE]
 unfold Rf qF
 show cond(p.op==0)(some(Out.of(iA(mlE(jG p.s)p.k))))_=_
 cases p.op==0<;>cases opB p.op<;>cases nmB p.l p.r i<;>rfl
def iP(fb:Nat→Int):Nat→Int
 | 0=>0
 |i+1=>cond(iP fb i==0)(fb i)(iP fb i)
theorem Aw {fb:Nat→Int}:∀n,(∀i,i<n→fb i=0)→iP fb n=0
 | 0,_=>rfl
 |n+1,h=>by
  show cond(iP fb n==0)(fb n)(iP fb n)=0
  rw[Aw n fun i hi=>h i(by omega),h n(by omega)]
  rfl
theorem Ay {fb:Nat→Int}{K:Nat}(hK:fb K≠0)(h:∀i,i<K→fb i=0):∀n,K<n→iP fb n=fb K
 | 0,hn=>absurd hn(Nat.not_lt_zero _)
 |n+1,hn=>by
  show cond(iP fb n==0)(fb n)(iP fb n)=_
  by_cases e:K=n
  ·subst e;rw[Aw K h];rfl
  ·rw[Ay hK h n(by omega),beq_false_of_ne hK];rfl
theorem dh {fb:Nat→Int}:∀n,iP fb n=0→∀i,i<n→fb i=0
 | 0,_,i,hi=>absurd hi(Nat.not_lt_zero i)
 |n+1,h,i,hi=>by
  have h:cond(iP fb n==0)(fb n)(iP fb n)=0:=h
  by_cases h0:iP fb n=0
  ·rw[h0]at h
   have h:fb n=0:=h
   by_cases e:i=n
   ·subst e;exact h
   ·exact dh n h0 i(by omega)
  ·rw[beq_false_of_ne h0]at h;exact absurd h h0
noncomputable def IZ(P:Nat→dM)(i:Nat):Int:=Rf(P i)(i:Nat)
def P8(n:Nat)(sn:Int)(R:Option Out):Option Out:=cond(cond(decide((n:Int)<1))true(decide((n:Int)>16)))(qF 5)(cond(Cq sn)(qF 4)R)
noncomputable def Nb(n:Nat)(P:Nat→dM)(sn:Int):Int:=cond(cond(decide((n:Int)<1))true(decide((n:Int)>16)))5(cond(Cq sn)4(iP(IZ P)n))
theorem Gs {n:Nat}{P:Nat→dM}{sn:Int}{R:Option Out}(h:1≤n→n≤16→R=qF(iP(IZ P)n)):P8 n sn R=some(Out.of(iA(Nb n P sn))):=by
 unfold P8 Nb
 by_cases h1:n<1
 ·rw[decide_eq_true(show(n:Int)<1 by omega)];rfl
 ·by_cases h2:16<n
  ·rw[decide_eq_false(show ¬(n:Int)<1 by omega),decide_eq_true(show(n:Int)>16 by omega)];rfl
  ·rw[decide_eq_false(show ¬(n:Int)<1 by omega),decide_eq_false(show ¬(n:Int)>16 by omega),h(by omega)(by omega)]
   unfold qF
   cases Cq sn<;>rfl
def Rh(n:Nat)(P:Nat→dM)(i:Int):St:=mkS 39 [(25,pQ n P),(26,iA n),(27,iA i)] []
def asF(e:Int):St:=mkS 39 [(2,iA e)] []
def eMp(g:List AV→Int→Int):List AV→Option AV
 | [.agg [.x(.int .i64 o),.x(.int .i64 l),.x(.int .i64 r),.x(.int .i64 k),.f a0,.f a1,.f a2,.f a3,.f a4,.f a5,.f a6,.f a7,.f a8,.f a9,.f Hy,.x(.int .i64 sk)],.x(.int .i64 i)]=>some(iA(g [.x(.int .i64 o),.x(.int .i64 l),.x(.int .i64 r),.x(.int .i64 k),.f a0,.f a1,.f a2,.f a3,.f a4,.f a5,.f a6,.f a7,.f a8,.f a9,.f Hy,.x(.int .i64 sk)]i))
 |_=>none
def decP:List AV→dM
 | [.x(.int .i64 o),.x(.int .i64 l),.x(.int .i64 r),.x(.int .i64 k),.f a0,.f a1,.f a2,.f a3,.f a4,.f a5,.f a6,.f a7,.f a8,.f a9,.f Hy,.x(.int .i64 sk)]=>⟨o,l,r,k,ls [a0,a1,a2,a3,a4,a5,a6,a7,a8,a9,Hy],sk⟩
 |_=>⟨0,0,0,0,fun _=>0,0⟩
noncomputable def mpG(c:List AV)(i:Int):Int:=Rf(decP c)i
theorem ahT(p:dM)(i:Int):mpG p.c i=Rf p i:=rfl
theorem asG:lg Tryz.prog⟨137,eMp mpG⟩:=fun args r hr=>by
 simp only[eMp]at hr
 split at hr
 ·cases hr;exact Or.inl(smp⟨_,_,_,_,ls [_,_,_,_,_,_,_,_,_,_,_],_⟩_)
 ·cases hr
section
variable(g:List AV→Int→Int)(n:Nat)(P:Nat→dM)(i:Int)(sn:Int)
def smC(o ob oe:Option Out):Option Out:=cond(decide(i<n))(cond(mJ i n||false)(cond(!(g(P i.toNat).c i==0))ob o)none)oe
theorem amg:gD Tryz.prog [⟨137,eMp g⟩] []aM(au Tryz.f99 0)(Rh n P i)(fu [25,26,27] [])=smC g n P i(some⟨.normal,Rh n P(aI(i+1)),.any⟩)none none:=by kernel_rfl
theorem asH:gD Tryz.prog [⟨137,eMp g⟩] []aM(au Tryz.f99 0)(Rh n P i)(vI [2] [])=smC g n P i none(some⟨.ret,asF(g(P i.toNat).c i),.any⟩)none:=by kernel_rfl
theorem asI:gD Tryz.prog [⟨137,eMp g⟩] []aM(au Tryz.f99 0)(Rh n P i)(gM [25,26,27] [])=smC g n P i none none(some⟨.exit 0,Rh n P i,.any⟩):=by kernel_rfl
theorem asJ(j:Int):ev Tryz.prog [⟨137,eMp g⟩] [](gu 6(fE [25,26,27] [](Rh n P 0)(.exit 0)(Rh n P j)))Tryz.f99 [.agg(M6 n P sn)]ret=P8 n sn(gate(Sub(Rh n P 0)(Rh n P 0))(qF 0)):=by kernel_rfl
theorem asK(e:Int):ev Tryz.prog [⟨137,eMp g⟩] [](gu 6(fE [25,26,27] [](Rh n P 0) .ret(asF e)))Tryz.f99 [.agg(M6 n P sn)]ret=P8 n sn(gate(Sub(Rh n P 0)(Rh n P 0))(qF e)):=by kernel_rfl
theorem asL:ev Tryz.prog [⟨137,eMp g⟩] [](gu 6 fun _ _=>none)Tryz.f99 [.agg(M6 n P sn)]ret=P8 n sn none:=by kernel_rfl
end
theorem Od(n:Nat)(P:Nat→dM)(sn:Int):aj Tryz.prog 99 [.agg(M6 n P sn)](iA(Nb n P sn)):=by
 have en:=bn asG aB
 by_cases hc:n<1∨16<n
 ·exact aP en av Tryz.ahU(by kernel_rfl)(by kernel_rfl)(iG 6)rfl((asL mpG n P sn).trans(Gs fun h1 h2=>absurd hc(by omega)))
 ·have go:∀k,k<n→IZ P k=0→bF Tryz.prog(au Tryz.f99 0)(Rh n P(k:Nat)) .normal(Rh n P((k+1:Nat):Int)):=fun k hk hb=>by
   refine aF(aT _ _)en av aA((amg mpG n P(k:Nat)).trans ?_)
   unfold smC
   rw[dec_lt hk,gy hk,Int.toNat_natCast,ahT,show Rf(P k)(k:Nat)=0 from hb,bD(by omega)]
   rfl
  rcases qL(fun i=>IZ P i==0)n with hl | ⟨K,hK,hp,hq⟩
  ·have hl':∀i,i<n→IZ P i=0:=fun i hi=>by simpa using hl i hi
   have lead:bF Tryz.prog(.loop(au Tryz.f99 0))(Rh n P 0)(.exit 0)(Rh n P(n:Nat)):=by
    refine aU(fun k=>Rh n P(k:Nat))n(.exit 0)_(by simp)(fun k hk=>go k hk(hl' k hk)) ?_
    refine aF(bU _ _)en av aA((asI mpG n P(n:Nat)).trans ?_)
    unfold smC
    rw[bQ,cond_false]
   refine aP en av Tryz.ahU(by kernel_rfl)(by kernel_rfl)(eZ(i:=6)0 1(by kernel_rfl)(by kernel_rfl)(aR(keep:=[25,26,27])(τ:=[])lead))rfl((asJ mpG n P sn(n:Nat)).trans(Gs fun _ _=>?_))
   rw[ah(Sub.refl _),Aw n hl']
  ·have hb:IZ P K≠0:=by simpa using hp
   have hq':∀i,i<K→IZ P i=0:=fun i hi=>by simpa using hq i hi
   have lead:bF Tryz.prog(.loop(au Tryz.f99 0))(Rh n P 0) .ret(asF(IZ P K)):=by
    refine aU(fun k=>Rh n P(k:Nat))K .ret _(by simp)(fun k hk=>go k(by omega)(hq' k hk)) ?_
    refine aF(gQ _ _)en av aA((asH mpG n P(K:Nat)).trans ?_)
    unfold smC
    rw[dec_lt hK,gy hK,Int.toNat_natCast,ahT,beq_false_of_ne(show Rf(P K)(K:Nat)≠0 from hb)]
    rfl
   refine aP en av Tryz.ahU(by kernel_rfl)(by kernel_rfl)(eZ(i:=6)0 1(by kernel_rfl)(by kernel_rfl)(aR(keep:=[25,26,27])(τ:=[])lead))rfl((asK mpG n P sn(IZ P K)).trans(Gs fun _ _=>?_))
   rw[ah(Sub.refl _),Ay hb hq' n hK]
def Ri(n:Nat)(P:Nat→dM)(sn:Int)(i:Int):St:=mkS 89 [(1,.own 0 0),(3,iA i)] [.c(M6 n P sn)]
def amE(e:Int):St:=mkS 89 [(2,iA e)] []
section
variable(mf:List AV→Int)(n:Nat)(P:Nat→dM)(sn:Int)(i:Int)
def knB(k:Int):Bool:=cond(cond(!(k==1))(!(k==2))false)(!(k==5))false
def amC(p:dM)(r:Int→Option Out)(o:Option Out):Option Out:=cond(cond(decide(p.op<0))true(decide(p.op>3)))(r 11)(cond(decide(p.op>0))(cond(nmB p.l p.r i)(r 9)o)(cond(!(mf p.s==0))(r(mf p.s))(cond(knB p.k)(r 3)o)))
def amX(r:Int→Option Out)(o oe:Option Out):Option Out:=cond(decide(i<n))(cond(mJ i n||false)(amC mf i(P i.toNat)r o)none)oe
theorem amh:gD Tryz.prog [⟨46,eSc fun c=>iA(mf c)⟩] []aM(au Tryz.f47 0)(Ri n P sn i)(fu [1,3] [some 0])=amX mf n P i(fun _=>none)(some⟨.normal,Ri n P sn(aI(i+1)),.any⟩)none:=by kernel_rfl
theorem asM:gD Tryz.prog [⟨46,eSc fun c=>iA(mf c)⟩] []aM(au Tryz.f47 0)(Ri n P sn i)(vI [2] [])=amX mf n P i(fun e=>some⟨.ret,amE e,.any⟩)none none:=by kernel_rfl
theorem asN:gD Tryz.prog [⟨46,eSc fun c=>iA(mf c)⟩] []aM(au Tryz.f47 0)(Ri n P sn i)(gM [1,3] [some 0])=amX mf n P i(fun _=>none)none(some⟨.exit 0,Ri n P sn i,.any⟩):=by kernel_rfl
theorem asO(j:Int):ev Tryz.prog [⟨46,eSc fun c=>iA(mf c)⟩] [](gu 6(fE [1,3] [some 0](Ri n P sn 0)(.exit 0)(Ri n P sn j)))Tryz.f47 [.agg(M6 n P sn)]ret=P8 n sn(gate(Sub(Ri n P sn 0)(Ri n P sn 0))(qF 0)):=by kernel_rfl
theorem asP(e:Int):ev Tryz.prog [⟨46,eSc fun c=>iA(mf c)⟩] [](gu 6(fE [1,3] [some 0](Ri n P sn 0) .ret(amE e)))Tryz.f47 [.agg(M6 n P sn)]ret=P8 n sn(gate(Sub(Ri n P sn 0)(Ri n P sn 0))(qF e)):=by kernel_rfl
theorem asQ:ev Tryz.prog [⟨46,eSc fun c=>iA(mf c)⟩] [](gu 6 fun _ _=>none)Tryz.f47 [.agg(M6 n P sn)]ret=P8 n sn none:=by kernel_rfl
end
theorem asR(k:Int):knB k=!kin k:=by
 unfold knB kin
 cases k==1<;>cases k==2<;>cases k==5<;>rfl
theorem ahV(p:dM)(i:Int)(r:Int→Option Out)(o:Option Out):amC jG i p r o=cond(Rf p i==0)o(r(Rf p i)):=by
 unfold amC Rf mlE
 rw[asR]
 by_cases h0:p.op=0
 ·rw[h0]
  cases hm:(jG p.s==0)
  ·have:jG p.s≠0:=fun e=>by rw[e]at hm;cases hm
   show r(jG p.s)=cond(jG p.s==0)o(r(jG p.s))
   rw[hm];rfl
  ·cases kin p.k<;>rfl
 ·have hb:(p.op==0)=false:=beq_false_of_ne h0
  rw[hb]
  by_cases h1:p.op=1∨p.op=2∨p.op=3
  ·rw[decide_eq_false(show ¬p.op<0 by omega),decide_eq_false(show ¬p.op>3 by omega),decide_eq_true(show p.op>0 by omega)]
   have:opB p.op=true:=by rcases h1 with h |h |h<;>rw[h]<;>rfl
   rw[this]
   cases nmB p.l p.r i<;>rfl
  ·have h2:opB p.op=false:=by
    unfold opB
    rw[beq_false_of_ne(show p.op≠1 by omega),beq_false_of_ne(show p.op≠2 by omega),beq_false_of_ne(show p.op≠3 by omega)];rfl
   rw[h2]
   by_cases h3:p.op<0
   ·rw[decide_eq_true h3];rfl
   ·rw[decide_eq_false h3,decide_eq_true(show p.op>3 by omega)];rfl
theorem Yo(n:Nat)(P:Nat→dM)(sn:Int):aj Tryz.prog 47 [.agg(M6 n P sn)](iA(Nb n P sn)):=by
 have en:=bn ahS aB
 by_cases hc:n<1∨16<n
 ·exact aP en av Tryz.ahW(by kernel_rfl)(by kernel_rfl)(iG 6)rfl((asQ jG n P sn).trans(Gs fun h1 h2=>absurd hc(by omega)))
 ·have go:∀k,k<n→IZ P k=0→bF Tryz.prog(au Tryz.f47 0)(Ri n P sn(k:Nat)) .normal(Ri n P sn((k+1:Nat):Int)):=fun k hk hb=>by
   refine aF(aT _ _)en av aA((amh jG n P sn(k:Nat)).trans ?_)
   unfold amX
   rw[dec_lt hk,gy hk,Int.toNat_natCast,ahV,show Rf(P k)(k:Nat)=0 from hb,bD(by omega)]
   rfl
  rcases qL(fun i=>IZ P i==0)n with hl | ⟨K,hK,hp,hq⟩
  ·have hl':∀i,i<n→IZ P i=0:=fun i hi=>by simpa using hl i hi
   have lead:bF Tryz.prog(.loop(au Tryz.f47 0))(Ri n P sn 0)(.exit 0)(Ri n P sn(n:Nat)):=by
    refine aU(fun k=>Ri n P sn(k:Nat))n(.exit 0)_(by simp)(fun k hk=>go k hk(hl' k hk)) ?_
    refine aF(bU _ _)en av aA((asN jG n P sn(n:Nat)).trans ?_)
    unfold amX
    rw[bQ,cond_false]
   refine aP en av Tryz.ahW(by kernel_rfl)(by kernel_rfl)(eZ(i:=6)0 1(by kernel_rfl)(by kernel_rfl)(aR(keep:=[1,3])(τ:=[some 0])lead))rfl((asO jG n P sn(n:Nat)).trans(Gs fun _ _=>?_))
   rw[ah(Sub.refl _),Aw n hl']
  ·have hb:IZ P K≠0:=by simpa using hp
   have hq':∀i,i<K→IZ P i=0:=fun i hi=>by simpa using hq i hi
   have lead:bF Tryz.prog(.loop(au Tryz.f47 0))(Ri n P sn 0) .ret(amE(IZ P K)):=by
    refine aU(fun k=>Ri n P sn(k:Nat))K .ret _(by simp)(fun k hk=>go k(by omega)(hq' k hk)) ?_
    refine aF(gQ _ _)en av aA((asM jG n P sn(K:Nat)).trans ?_)
    unfold amX
    rw[dec_lt hK,gy hK,Int.toNat_natCast,ahV,beq_false_of_ne(show Rf(P K)(K:Nat)≠0 from hb)]
    rfl
   refine aP en av Tryz.ahW(by kernel_rfl)(by kernel_rfl)(eZ(i:=6)0 1(by kernel_rfl)(by kernel_rfl)(aR(keep:=[1,3])(τ:=[some 0])lead))rfl((asP jG n P sn(IZ P K)).trans(Gs fun _ _=>?_))
   rw[ah(Sub.refl _),Ay hb hq' n hK]
end Go.Proofs.YtefphimaggjihaaGreatDoor.Hs.So
namespace Go.Proofs.YtefphimaggjihaaGreatDoor.Hs.Fm
open Go.Gv
open Go.Ev (cn bq dI bT fdiv dK jO kL gN lK)
def arz(n:Int):Nat:=cn(FloatKind.f64.nearest n)
def c3(p:Nat→Nat):List AV:=[.f(p 0),.f(p 1),.f(p 2)]
def c6(b:Nat→Nat):List AV:=[.f(b 0),.f(b 1),.f(b 2),.f(b 3),.f(b 4),.f(b 5)]
def pp(p:Nat→Nat):Nat→Nat:=ls [p 0,p 1,p 2,p 0,p 1,p 2]
def mM(p:Nat→Nat→Nat):Nat→Nat→Nat
 | 0=>pp(p 0)
 |q+1=>BN(mM p q)(pp(p q))
def z6:List AV:=[.f 0,.f 0,.f 0,.f 0,.f 0,.f 0]
def jg(n:Nat)(p:Nat→Nat→Nat)(q:Int)(b:Nat→Nat):St:=mkS 26 [(2,.own 0 0),(3,.own 1 0),(13,.sl 3 n fun q=>c3(p q)),(14,iA n),(15,iA q)] [.c z6,.c(c6 b)]
def UU:List Nat:=[2,3,13,14,15]
theorem UW(n:Nat)(p:Nat→Nat→Nat)(q:Int)(b:Nat→Nat):gD Tryz.prog V4 []aM(au Tryz.f163 0)(jg n p q b)(fu UU [some 0,some 1]) =
  cond(decide(q<(n:Int)))(cond((decide(0≤q)&&decide(q<(n:Int)))&&true)(some⟨.normal,jg n p(aI(q+1))(BN b(pp(p q.toNat))),.any⟩)none)none:=by kernel_rfl
theorem Yx(n:Nat)(p:Nat→Nat→Nat)(q:Int)(b:Nat→Nat):gD Tryz.prog V4 []aM(au Tryz.f163 0)(jg n p q b)(PY UU [some 0,some 1]) =
  cond(decide(q<(n:Int)))(cond((decide(0≤q)&&decide(q<(n:Int)))&&true)none none)(some⟨.exit 0,jg n p q b,.any⟩):=by kernel_rfl
theorem lF(n:Nat):decide(0≤(n:Int))=true:=decide_eq_true(Int.natCast_nonneg _)
theorem dec_lt {a b:Nat}(h:a<b):decide((a:Int)<(b:Int))=true:=decide_eq_true(by omega)
theorem bQ(a:Nat):decide((a:Int)<(a:Int))=false:=decide_eq_false(by omega)
theorem bD {n:Nat}(h:n<4611686018427387904):aI((n:Int)+1)=((n+1:Nat):Int):=by rw[aO(by omega)(by omega)];omega
theorem QS(n:Nat)(p:Nat→Nat→Nat)(hn:n<4611686018427387904):bF Tryz.prog(.loop(au Tryz.f163 0))(jg n p 0(mM p 0))(.exit 0)(jg n p n(mM p n)):=by
 refine aU(fun q=>jg n p(q:Nat)(mM p q))n(.exit 0)_(by simp)(fun q hq=>?_) ?_
 ·refine aF(aT UU [some 0,some 1])wK av aA ?_
  rw[UW,dec_lt hq,lF,bD(by omega)]
  rfl
 ·refine aF(nT UU [some 0,some 1])wK av aA ?_
  rw[Yx,bQ]
  rfl
noncomputable def aa5(n:Nat)(p:Nat→Nat→Nat):Nat→Option dN:=gu 3(fE UU [some 0,some 1](jg n p 0(mM p 0))(.exit 0)(jg n p n(mM p n)))
theorem Yy(n:Nat)(p:Nat→Nat→Nat)(hn:n<4611686018427387904):yS Tryz.prog(aa5 n p)(dG Tryz.f163) :=
 kT(i:=3)1(by kernel_rfl)fun j hj _=>by
  have:j=0:=by omega
  subst this
  exact aR(QS n p hn)
theorem acJ(n:Nat)(p:Nat→Nat→Nat):ev Tryz.prog V4 [](aa5 n p)Tryz.f163 [.sl 3 n fun q=>c3(p q)]ret =
  cond((decide((0:Int)<(n:Int))||false)&&((decide((0:Int)<(n:Int))||false)&&true))(gate(Sub(jg n p 0(mM p 0))(jg n p 0(mM p 0)))(some(Out.of(.agg(c6(mM p n))))))none:=by kernel_rfl
theorem UY {n:Nat}(p:Nat→Nat→Nat)(h0:0<n)(hn:n<4611686018427387904):aj Tryz.prog 163 [.sl 3 n fun q=>c3(p q)](.agg(c6(mM p n))):=by
 refine aP wK av Tryz.az0(by kernel_rfl)(by kernel_rfl)(Yy n p hn)rfl ?_
 rw[acJ,decide_eq_true(show(0:Int)<(n:Int)by omega),ah(Sub.refl _)]
 rfl
structure Fd where
 W:Int
 H:Int
 at_:Nat→Nat
 sd:Nat
 n:Nat
 hs:Nat→Int
 sk:Int
def Fd.c(F:Fd):List AV:=[iA F.W,iA F.H,.f(F.at_ 0),.f(F.at_ 1),.f(F.at_ 2),.f F.sd,.sl 1 F.n(fun i=>[iA(F.hs i)]),iA F.sk]
def mD(F:Fd)(r q:Int):St:=mkS 68 [(1,.own 0 0),(2,iA r),(55,.sl 1 F.n(fun i=>[iA(F.hs i)])),(56,iA F.n),(57,iA q)] [.c F.c]
def Oj:List Nat:=[1,2,55,56,57]
def oU(h:Int):Bool:=cond(decide(h<-1000000))true(decide(h>1000000))
theorem acK(F:Fd)(q:Int):gD Tryz.prog V4 []aM(au Tryz.f161 0)(mD F 0 q)(fu Oj [some 0]) =
  cond(decide(q<(F.n:Int)))(cond((decide(0≤q)&&decide(q<(F.n:Int)))&&true)(cond(oU(F.hs q.toNat))none(some⟨.normal,mD F 0(aI(q+1)),.any⟩))none)none:=by kernel_rfl
theorem UZ(F:Fd)(q:Int):gD Tryz.prog V4 []aM(au Tryz.f161 0)(mD F 0 q)(PY Oj [some 0]) =
  cond(decide(q<(F.n:Int)))(cond((decide(0≤q)&&decide(q<(F.n:Int)))&&true)(cond(oU(F.hs q.toNat))(some⟨.ret,mD F 6 q,.any⟩)none)none)(some⟨.exit 0,mD F 0 q,.any⟩):=by kernel_rfl
theorem Lb {F:Fd}{q:Nat}(hn:F.n<4611686018427387904)(hq:q<F.n)(hb:oU(F.hs q)=false):bF Tryz.prog(au Tryz.f161 0)(mD F 0(q:Nat)) .normal(mD F 0((q+1:Nat):Int)):=by
 refine aF(aT Oj [some 0])wK av aA ?_
 rw[acK,dec_lt hq,lF,bD(by omega)]
 simp only[Int.toNat_natCast,hb]
 rfl
theorem alV {F:Fd}(hn:F.n<4611686018427387904)(h:∀q,q<F.n→oU(F.hs q)=false):bF Tryz.prog(.loop(au Tryz.f161 0))(mD F 0 0)(.exit 0)(mD F 0 F.n):=by
 refine aU(fun q=>mD F 0(q:Nat))F.n(.exit 0)_(by simp)(fun q hq=>Lb hn hq(h q hq)) ?_
 refine aF(nT Oj [some 0])wK av aA ?_
 rw[UZ,bQ]
 rfl
theorem ahf {F:Fd}(hn:F.n<4611686018427387904) {j:Nat}(hj:j<F.n)(hb:oU(F.hs j)=true)(h:∀q,q<j→oU(F.hs q)=false):bF Tryz.prog(.loop(au Tryz.f161 0))(mD F 0 0) .ret(mD F 6(j:Nat)):=by
 refine aU(fun q=>mD F 0(q:Nat))j .ret _(by simp)(fun q hq=>Lb hn(by omega)(h q hq)) ?_
 refine aF(nT Oj [some 0])wK av aA ?_
 rw[UZ,dec_lt hj,lF]
 simp only[Int.toNat_natCast,hb]
 rfl
noncomputable def arA(F:Fd)(ex:Exit)(sf:St):Nat→Option dN:=gu 12(fE Oj [some 0](mD F 0 0)ex sf)
theorem U0 {F:Fd}{ex:Exit}{sf:St}(h:bF Tryz.prog(.loop(au Tryz.f161 0))(mD F 0 0)ex sf):yS Tryz.prog(arA F ex sf)(dG Tryz.f161) :=
 kT(i:=12)1(by kernel_rfl)fun j hj _=>by
  have:j=0:=by omega
  subst this
  exact aR h
def Fd.Fz(F:Fd):Bool:=cond(cond(cond(decide(F.W<2))true(decide(F.W>8)))true(decide(F.H<2)))true(decide(F.H>8))
def Fd.far(F:Fd):Bool:=cond(!dL(F.at_ 0)(F.at_ 1)(F.at_ 2))true(!eP F.sd)
def Fd.first(F:Fd)(X:Option Out):Option Out:=cond F.Fz(some(Out.of(iA 4)))(cond(!((F.n:Int)==aI(F.W*F.H)))(some(Out.of(iA 5)))(cond(Cq F.sk)(some(Out.of(iA 4)))(cond F.far(some(Out.of(iA 1)))(cond(!gN F.sd 0)(some(Out.of(iA 6)))X))))
theorem acL(F:Fd):ev Tryz.prog V4 [](arA F(.exit 0)(mD F 0 F.n))Tryz.f161 [.agg F.c]ret=F.first(gate(Sub(mD F 0 0)(mD F 0 0))(some(Out.of(iA 0)))):=by kernel_rfl
theorem Yz(F:Fd)(j:Int):ev Tryz.prog V4 [](arA F .ret(mD F 6 j))Tryz.f161 [.agg F.c]ret=F.first(gate(Sub(mD F 0 0)(mD F 0 0))(some(Out.of(iA 6)))):=by kernel_rfl
theorem Ba(hs:Nat→Int):∀n,(∀q,q<n→oU(hs q)=false)∨∃j,j<n∧oU(hs j)=true∧∀q,q<j→oU(hs q)=false
 | 0=>Or.inl fun q hq=>by omega
 |n+1=>by
  rcases Ba hs n with h | ⟨j,h1,h2,h3⟩
  ·cases hb:oU(hs n)
   ·exact Or.inl fun q hq=>by
     by_cases e:q=n
     ·rw[e];exact hb
     ·exact h q(by omega)
   ·exact Or.inr⟨n,by omega,hb,h⟩
  ·exact Or.inr⟨j,by omega,h2,h3⟩
def Fd.rD(F:Fd):Bool:=(List.range F.n).all fun q=>!oU(F.hs q)
def Fd.jM(F:Fd):Int:=cond F.Fz 4(cond(!((F.n:Int)==aI(F.W*F.H)))5(cond(Cq F.sk)4(cond F.far 1(cond(!gN F.sd 0)6(cond F.rD 0 6)))))
theorem U1(F:Fd)(hn:F.n<4611686018427387904):aj Tryz.prog 161 [.agg F.c](iA F.jM):=by
 have fin:∀e:Int,F.rD=(e==0)→(e=0∨e=6)→F.first(some(Out.of(iA e)))=some(Out.of(iA F.jM)):=fun e h1 h2=>by
  unfold Fd.first Fd.jM
  rw[h1]
  cases F.Fz<;>simp only[cond_true,cond_false]
  cases(!((F.n:Int)==aI(F.W*F.H)))<;>simp only[cond_true,cond_false]
  cases Cq F.sk<;>simp only[cond_true,cond_false]
  cases F.far<;>simp only[cond_true,cond_false]
  cases(!gN F.sd 0)<;>simp only[cond_true,cond_false]
  rcases h2 with rfl |rfl<;>rfl
 rcases Ba F.hs F.n with h | ⟨j,h1,h2,h3⟩
 ·refine aP wK av Tryz.aa6(by kernel_rfl)(by kernel_rfl)(U0(alV hn h))rfl ?_
  rw[acL,ah(Sub.refl _)]
  refine fin 0 ?_(Or.inl rfl)
  unfold Fd.rD
  rw[List.all_eq_true.2]
  ·rfl
  ·intro q hq
   rw[h q(List.mem_range.1 hq)]
   rfl
 ·refine aP wK av Tryz.aa6(by kernel_rfl)(by kernel_rfl)(U0(ahf hn h1 h2 h3))rfl ?_
  rw[Yz,ah(Sub.refl _)]
  refine fin 6 ?_(Or.inr rfl)
  unfold Fd.rD
  rw[List.all_eq_false.2⟨j,List.mem_range.2 h1,by rw[h2];simp⟩]
  rfl
def PX(F:Fd)(h x y:Int):Nat→Nat:=ls [bq(F.at_ 0)(bT(arz x)F.sd),bq(F.at_ 1)(fdiv(arz h)4652007308841189376),bq(F.at_ 2)(bT(arz y)F.sd)]
def pt(F:Fd)(q:Nat):Nat→Nat:=PX F(F.hs q)((q % F.W.toNat:Nat):Int)((q / F.W.toNat:Nat):Int)
def pts(F:Fd):Nat→List AV:=fun q=>c3(pt F q)
def qA(F:Fd)(y x:Int)(m:Nat)(ps:Nat→List AV):St:=mkS 63 [(1,.own 0 0),(3,.fJ 1 3 0 m),(4,iA y),(13,iA F.H),(14,iA y),(18,iA F.W),(19,iA x)] [.c F.c,.a 30 3 m ps]
def U2:List Nat:=[1,3,4,13,14,18,19]
def ix(W y x:Int):Int:=aI(aI(y*W)+x)
theorem YA(F:Fd)(y x:Int)(m:Nat)(ps:Nat→List AV):gD Tryz.prog [] []aM(au Tryz.f162 1)(qA F y x m ps)(fu U2 [some 0,some 3]) =
   cond(decide(x<F.W))(cond(((decide(0≤ix F.W y x)&&decide(ix F.W y x<(F.n:Int)))||false)&&((((m==m)&&Nat.ble((m+1)*24)140737488355328)||false)&&true))
    (some⟨.normal,qA F y(aI(x+1))(m+1)(fun q=>dn(Nat.blt q m)(ps q)(c3(PX F(F.hs(ix F.W y x).toNat)x y))),.any⟩)none)none:=by kernel_rfl
theorem acM(F:Fd)(y x:Int)(m:Nat)(ps:Nat→List AV):gD Tryz.prog [] []aM(au Tryz.f162 1)(qA F y x m ps)(PY U2 [some 0,some 1]) =
   cond(decide(x<F.W))(cond(((decide(0≤ix F.W y x)&&decide(ix F.W y x<(F.n:Int)))||false)&&((((m==m)&&Nat.ble((m+1)*24)140737488355328)||false)&&true))none none)
    (some⟨.exit 2,qA F y x m ps,.any⟩):=by kernel_rfl
structure Ma(F:Fd)(w h:Nat):Prop where
 W:F.W=(w:Int)
 H:F.H=(h:Int)
 n:F.n=w*h
 w1:2≤w
 h1:2≤h
 w8:w≤8
 h8:h≤8
theorem Ma.le {F:Fd}{w h:Nat}(d:Ma F w h):w*h≤64:=Nat.mul_le_mul d.w8 d.h8
theorem Ma.row {F:Fd}{w h y:Nat}(_:Ma F w h)(hy:y<h):y*w+w≤w*h:=by
 have:(y+1)*w≤h*w:=Nat.mul_le_mul_right _ hy
 rw[Nat.add_mul,Nat.mul_comm h w]at this
 omega
theorem Ma.ix {F:Fd}{w h y x:Nat}(d:Ma F w h)(hy:y<h)(hx:x<w):ix F.W(y:Nat)(x:Nat)=((y*w+x:Nat):Int):=by
 have h1:=d.row hy
 have h2:=d.le
 unfold Go.Proofs.YtefphimaggjihaaGreatDoor.Hs.Fm.ix
 rw[d.W]
 have hp:((y:Int)*(w:Int))=((y*w:Nat):Int):=by simp
 rw[hp,aO(n:=((y*w:Nat):Int))(by omega)(by omega),aO(by omega)(by omega)]
 omega
theorem qE {F:Fd}{w h y x:Nat}(d:Ma F w h)(hx:x<w):pt F(y*w+x)=PX F(F.hs(y*w+x))(x:Nat)(y:Nat):=by
 have hm:(y*w+x) % w=x:=by rw[Nat.mul_comm,Nat.mul_add_mod];exact Nat.mod_eq_of_lt hx
 have hd:(y*w+x) / w=y:=by
  rw[Nat.mul_comm,Nat.mul_add_div(by omega),Nat.div_eq_of_lt hx];omega
 unfold pt
 rw[d.W,Int.toNat_natCast,hm,hd]
theorem uH {q m:Nat}(h:Nat.blt q m=false):m≤q:=Nat.le_of_not_lt fun hc=>by
 have:Nat.blt q m=true:=Nat.ble_eq_true_of_le hc
 rw[this]at h;cases h
theorem U3 {F:Fd}{w h y:Nat}(d:Ma F w h)(hy:y<h) :
  bF Tryz.prog(.loop(au Tryz.f162 1))(qA F(y:Nat)0(y*w)(pts F))(.exit 2)(qA F(y:Nat)(w:Nat)(y*w+w)(pts F)):=by
 have hle:=d.le
 have hyW:=d.row hy
 refine aU(fun j=>qA F(y:Nat)(j:Nat)(y*w+j)(pts F))w(.exit 2)_(by simp)(fun j hj=>?_) ?_
 ·have hix:=d.ix hy hj
  refine bF.sub(aF(aT U2 [some 0,some 3])aB av aA(s':=qA F(y:Nat)(aI((j:Int)+1))(y*w+j+1)(fun q=>dn(Nat.blt q(y*w+j))(pts F q)(c3(PX F(F.hs(ix F.W(y:Nat)(j:Nat)).toNat)(j:Nat)(y:Nat))))) ?_)(Sub.refl _) ?_
  ·rw[YA]
   have c1:decide(((j:Nat):Int)<F.W)=true:=by rw[d.W];exact dec_lt hj
   have c2:decide(0≤ix F.W(y:Nat)(j:Nat))=true:=by rw[hix];exact lF _
   have c3:decide(ix F.W(y:Nat)(j:Nat)<(F.n:Int))=true:=by rw[hix,d.n];exact dec_lt(by omega)
   have c4:Nat.ble((y*w+j+1)*24)140737488355328=true:=Nat.ble_eq_true_of_le(by omega)
   rw[c1,c2,c3,c4]
   simp only[cond_true,Bool.and_self,Bool.or_false,BEq.rfl]
  ·rw[bD(by omega),hix,Int.toNat_natCast]
   refine zL⟨Or.inl rfl,Or.inr⟨30,3,y*w+j+1,_,_,rfl,rfl,fun q hq=>?_⟩,trivial⟩
   cases hlt:Nat.blt q(y*w+j)
   ·have hq2:q=y*w+j:=by have:=uH hlt;omega
    subst hq2
    unfold pts
    rw[qE d hj]
    unfold c3
    simp only[dn,kZ,cond_false]
   ·unfold pts c3
    simp only[dn,kZ,cond_true]
 ·refine aF(nT U2 [some 0,some 1])aB av aA ?_
  rw[acM]
  have c1:decide(((w:Nat):Int)<F.W)=false:=by rw[d.W];exact bQ w
  rw[c1]
  rfl
def sO(F:Fd)(y:Int)(m:Nat)(ps:Nat→List AV):St:=mkS 63 [(1,.own 0 0),(3,.fJ 1 3 0 m),(13,iA F.H),(14,iA y)] [.c F.c,.a 30 3 m ps]
def U4:List Nat:=[1,3,13,14]
noncomputable def ahg(F:Fd)(w y:Nat):Nat→Option dN:=gu 6(fE U2 [some 0,some 1](qA F(y:Nat)0(y*w)(pts F))(.exit 2)(qA F(y:Nat)(w:Nat)(y*w+w)(pts F)))
theorem adf {F:Fd}{w h y:Nat}(d:Ma F w h)(hy:y<h):yS Tryz.prog(ahg F w y)(au Tryz.f162 0) :=
 kT(i:=6)1(by kernel_rfl)fun j hj _=>by
  have:j=0:=by omega
  subst this
  have e:(bC(au Tryz.f162 0)).getD 0 .skip=au Tryz.f162 1:=by kernel_rfl
  rw[e]
  exact aR(U3 d hy)
theorem Zb(F:Fd)(w y:Nat):gD Tryz.prog [] [](ahg F w y)(au Tryz.f162 0)(sO F(y:Nat)(y*w)(pts F))(fu U4 [some 0,some 1]) =
  cond(decide(((y:Nat):Int)<F.H))(gate(Sub(qA F(y:Nat)0(y*w)(pts F))(qA F(y:Nat)0(y*w)(pts F)))(some⟨.normal,sO F(aI(((y:Nat):Int)+1))(y*w+w)(pts F),.any⟩))none:=by kernel_rfl
theorem Zc(F:Fd)(y m:Nat):gD Tryz.prog [] [](gu 6 fun _ _=>none)(au Tryz.f162 0)(sO F(y:Nat)m(pts F))(PY U4 [some 0,some 1]) =
  cond(decide(((y:Nat):Int)<F.H))none(some⟨.exit 0,sO F(y:Nat)m(pts F),.any⟩):=by kernel_rfl
theorem iG {P:Program}{c:Code}(i:Nat):yS P(gu i fun _ _=>none)c:=by
 intro c' _ i' g' _ hg
 unfold gu at hg
 cases hb:Nat.beq i' i
 ·rw[hb]at hg;cases hg
 ·rw[hb]at hg
  cases hg
  exact⟨fun _ _ _ hr=>(by cases hr),fun _ _ _ hk=>(by have:=hk(fun e s=>some⟨e,s,.any⟩);cases this)⟩
theorem Vo {F:Fd}{w h:Nat}(d:Ma F w h):bF Tryz.prog(.loop(au Tryz.f162 0))(sO F 0(0*w)(pts F))(.exit 0)(sO F(h:Nat)(h*w)(pts F)):=by
 have h8:=d.h8
 refine aU(fun y=>sO F(y:Nat)(y*w)(pts F))h(.exit 0)_(by simp)(fun y hy=>?_) ?_
 ·refine aF(aT U4 [some 0,some 1])aB av(adf d hy) ?_
  have c1:decide(((y:Nat):Int)<F.H)=true:=by rw[d.H];exact dec_lt hy
  rw[Zb,c1,ah(Sub.refl _),bD(by omega),Nat.succ_mul]
  rfl
 ·refine aF(nT U4 [some 0,some 1])aB av(iG 6) ?_
  have c1:decide(((h:Nat):Int)<F.H)=false:=by rw[d.H];exact bQ h
  rw[Zc,c1]
  rfl
noncomputable def abq(F:Fd)(w h:Nat):Nat→Option dN:=gu 3(fE U4 [some 0,some 1](sO F 0(0*w)(pts F))(.exit 0)(sO F(h:Nat)(h*w)(pts F)))
theorem Zd {F:Fd}{w h:Nat}(d:Ma F w h):yS Tryz.prog(abq F w h)(dG Tryz.f162) :=
  kT (i:=3)2(by kernel_rfl)fun j hj hid=>by
    have:j=0∨j=1:=by omega
    rcases this with rfl |rfl
    · exact aR(Vo d)
    · have e:jA((bC(dG Tryz.f162)).getD 1 .skip)=some 6:=by kernel_rfl
      rw[e]at hid
      cases hid
def anP(F:Fd):St:=mkS 63 [(1,.own 0 0),(3,.fJ 1 3 0 0),(13,iA F.H),(14,iA 0)] [.c F.c,.a 30 3 0 fun _=>[.f 0,.f 0,.f 0]]
theorem adg(F:Fd)(w h:Nat):ev Tryz.prog [] [](abq F w h)Tryz.f162 [.agg F.c]ret =
  cond((decide(0≤aI(F.W*F.H))&&decide(((24:Nat):Int)*aI(F.W*F.H)≤281474976710656))&&true)
   (gate(Sub(anP F)(sO F 0(0*w)(pts F)))(some(Out.of(.sl 3(h*w)fun i=>c3(pt F(0+i))))))none:=by kernel_rfl
theorem Ma.prod {F:Fd}{w h:Nat}(d:Ma F w h):aI(F.W*F.H)=((w*h:Nat):Int):=by
 have:=d.le
 rw[d.W,d.H,←Int.natCast_mul]
 exact aO(by omega)(by omega)
theorem Vp {F:Fd}{w h:Nat}(d:Ma F w h):aj Tryz.prog 162 [.agg F.c](.sl 3(w*h)fun q=>c3(pt F q)):=by
 refine aP aB av Tryz.az8(by kernel_rfl)(by kernel_rfl)(Zd d)rfl ?_
 have hle:=d.le
 have hs:Sub(anP F)(sO F 0(0*w)(pts F)):=by
  rw[Nat.zero_mul]
  exact zL⟨Or.inl rfl,Or.inr⟨30,3,0,_,_,rfl,rfl,fun q hq=>by omega⟩,trivial⟩
 have c2:decide(((24:Nat):Int)*((w*h:Nat):Int)≤281474976710656)=true:=decide_eq_true(by omega)
 have e:(fun i=>c3(pt F(0+i)))=fun q=>c3(pt F q):=funext fun i=>by rw[Nat.zero_add]
 rw[adg,d.prod,lF,c2,ah hs,e,Nat.mul_comm h w]
 rfl
def Lv:List AV:=[iA 0,iA 0,iA 0,.x(.slice none 0 0),.f 0,.f 0,.f 0,.f 0,.f 0,.f 0]
def abf(F:Fd)(n:Nat)(b:Nat→Nat):List AV:=[iA F.W,iA F.H,iA F.sk,.sl 3 n(fun q=>c3(pt F q)),.f(b 0),.f(b 1),.f(b 2),.f(b 3),.f(b 4),.f(b 5)]
theorem Oq(F:Fd)(e:Int):ev Tryz.prog V4 [Vb 161 [.agg F.c](iA e)]aM Tryz.f138 [.agg F.c]ret =
  gate([AV.agg F.c]=[AV.agg F.c])(cond(!(e==0))(some(Out.of(.aN [.agg Lv,iA e])))none):=by kernel_rfl
theorem adh(F:Fd)(n:Nat)(b:Nat→Nat):ev Tryz.prog V4 [Vb 161 [.agg F.c](iA 0),Vb 162 [.agg F.c](.sl 3 n fun q=>c3(pt F q)),Vb 163 [.sl 3 n fun q=>c3(pt F q)](.agg(c6 b))]aM Tryz.f138 [.agg F.c]ret =
  gate([AV.agg F.c]=[AV.agg F.c])(gate([AV.agg F.c]=[AV.agg F.c])(gate([AV.sl 3 n fun q=>c3(pt F q)]=[AV.sl 3 n fun q=>c3(pt F q)])(cond(!(kM b==0))(some(Out.of(.aN [.agg Lv,iA 1])))(some(Out.of(.aN [.agg(abf F n b),iA 0])))))):=by kernel_rfl
theorem acY {F:Fd}(hn:F.n<4611686018427387904)(he:F.jM≠0):aj Tryz.prog 138 [.agg F.c](.aN [.agg Lv,iA F.jM]):=by
 refine aP wK(ak(uK(U1 F hn))av)Tryz.abg(by kernel_rfl)(by kernel_rfl)aA rfl ?_
 rw[Oq,ah rfl,beq_false_of_ne he]
 rfl
def bx(F:Fd):Nat→Nat:=mM(pt F)F.n
theorem Sb {F:Fd}{w h:Nat}(d:Ma F w h)(he:F.jM=0):aj Tryz.prog 138 [.agg F.c](.aN(cond(kM(bx F)==0) [.agg(abf F F.n(bx F)),iA 0] [.agg Lv,iA 1])):=by
 have hle:=d.le
 have hpos:4≤w*h:=Nat.mul_le_mul d.w1 d.h1
 have hn:=d.n
 have s1:=U1 F(by omega)
 rw[he]at s1
 have s2:=Vp d
 have s3:=UY(n:=w*h)(pt F)(by omega)(by omega)
 refine aP wK(ak(uK s1)(ak(uK s2)(ak(uK s3)av)))Tryz.abg(by kernel_rfl)(by kernel_rfl)aA rfl ?_
 rw[adh,ah rfl,ah rfl,ah rfl]
 unfold bx
 rw[hn]
 cases kM(mM(pt F)(w*h))==0<;>rfl
def inR(k:Int)(n:Nat):Bool:=decide(0≤k)&&decide(k<(n:Int))
theorem IG {k n:Nat}(h:k<n):inR(k:Nat)n=true:=by unfold inR;rw[lF,dec_lt h];rfl
noncomputable def GK(P:Program)(g:Func):List aV:=[inl P R3 [](fun _=>aM)144 g]
theorem TD:∀e,e∈GK Tryz.prog Tryz.f144→tX Tryz.prog e:=ak(apa pJ av(by kernel_rfl)Tryz.ayB(by kernel_rfl)(by kernel_rfl)(c:=dG Tryz.f144)fun _=>aA)av
def fbI(F:Fd)(y x:Int)(p b:Nat→Nat):St:=mkS 39 [(1,.own 0 0),(2,.own 1 0),(3,.own 2 0),(4,.own 3 0),(5,iA y),(6,iA x)] [.c F.c,.c z6,.c(c3 p),.c(c6 b)]
def fbO(F:Fd)(y:Int)(p b:Nat→Nat):St:=mkS 39 [(1,.own 0 0),(2,.own 1 0),(3,.own 2 0),(4,.own 3 0),(5,iA y)] [.c F.c,.c z6,.c(c3 p),.c(c6 b)]
def TF:List Nat:=[1,2,3,4,5,6]
def TG:List Nat:=[1,2,3,4,5]
def II(F:Fd)(e q:Int):St:=mkS 83 [(1,.own 0 0),(2,iA e),(5,iA q)] [.c F.c]
def FX:List Nat:=[1,2,5]
theorem afj(F:Fd)(y x:Int)(p b:Nat→Nat):gD Tryz.prog R3(GK Tryz.prog Tryz.f144)aM(au Tryz.f104 1)(fbI F y x p b)(fu TF [some 0,some 1,some 2,some 3]) =
  cond(decide(x<F.W))(cond((inR(ix F.W y x)F.n||false)&&true)(some⟨.normal,fbI F y(aI(x+1))(PX F(F.hs(ix F.W y x).toNat)x y)(BN b(pp(PX F(F.hs(ix F.W y x).toNat)x y))),.any⟩)none)none:=by kernel_rfl
theorem aj6(F:Fd)(y x:Int)(p b:Nat→Nat):gD Tryz.prog R3(GK Tryz.prog Tryz.f144)aM(au Tryz.f104 1)(fbI F y x p b)(PY TF [some 0,some 1,some 2,some 3]) =
  cond(decide(x<F.W))(cond((inR(ix F.W y x)F.n||false)&&true)none none)(some⟨.exit 2,fbI F y x p b,.any⟩):=by kernel_rfl
def qG(p:Nat→Nat→Nat):Nat→Nat→Nat
 | 0=>p 0
 |q+1=>p q
theorem ab2 {F:Fd}{w h y:Nat}(d:Ma F w h)(hy:y<h):bF Tryz.prog(.loop(au Tryz.f104 1))(fbI F(y:Nat)0(qG(pt F)(y*w))(mM(pt F)(y*w)))(.exit 2)(fbI F(y:Nat)(w:Nat)(qG(pt F)(y*w+w))(mM(pt F)(y*w+w))):=by
 have hle:=d.le
 have hyW:=d.row hy
 refine aU(fun j=>fbI F(y:Nat)(j:Nat)(qG(pt F)(y*w+j))(mM(pt F)(y*w+j)))w(.exit 2)_(by simp)(fun j hj=>?_) ?_
 ·refine aF(aT TF [some 0,some 1,some 2,some 3])pJ TD aA ?_
  have c1:decide(((j:Nat):Int)<F.W)=true:=by rw[d.W];exact dec_lt hj
  rw[afj,c1,d.ix hy hj,IG(by rw[d.n];omega),bD(by omega),Int.toNat_natCast,←qE d hj]
  rfl
 ·refine aF(nT TF [some 0,some 1,some 2,some 3])pJ TD aA ?_
  have c1:decide(((w:Nat):Int)<F.W)=false:=by rw[d.W];exact bQ w
  rw[aj6,c1]
  rfl
noncomputable def avt(F:Fd)(w y:Nat):Nat→Option dN:=gu 7(fE TF [some 0,some 1,some 2,some 3](fbI F(y:Nat)0(qG(pt F)(y*w))(mM(pt F)(y*w)))(.exit 2)(fbI F(y:Nat)(w:Nat)(qG(pt F)(y*w+w))(mM(pt F)(y*w+w))))
theorem aj7 {F:Fd}{w h y:Nat}(d:Ma F w h)(hy:y<h):yS Tryz.prog(avt F w y)(au Tryz.f104 0) :=
 kT(i:=7)1(by kernel_rfl)fun j hj _=>by
  have:j=0:=by omega
  subst this
  have e:(bC(au Tryz.f104 0)).getD 0 .skip=au Tryz.f104 1:=by kernel_rfl
  rw[e]
  exact aR(ab2 d hy)
theorem afk(F:Fd)(w y:Nat):gD Tryz.prog R3(GK Tryz.prog Tryz.f144)(avt F w y)(au Tryz.f104 0)(fbO F(y:Nat)(qG(pt F)(y*w))(mM(pt F)(y*w)))(fu TG [some 0,some 1,some 2,some 3]) =
  cond(decide(((y:Nat):Int)<F.H))(gate(Sub(fbI F(y:Nat)0(qG(pt F)(y*w))(mM(pt F)(y*w)))(fbI F(y:Nat)0(qG(pt F)(y*w))(mM(pt F)(y*w))))(some⟨.normal,fbO F(aI(((y:Nat):Int)+1))(qG(pt F)(y*w+w))(mM(pt F)(y*w+w)),.any⟩))none:=by kernel_rfl
theorem afl(F:Fd)(y:Int)(p b:Nat→Nat):gD Tryz.prog R3(GK Tryz.prog Tryz.f144)(gu 7 fun _ _=>none)(au Tryz.f104 0)(fbO F y p b)(PY TG [some 0,some 1,some 2,some 3]) =
  cond(decide(y<F.H))none(some⟨.exit 0,fbO F y p b,.any⟩):=by kernel_rfl
theorem ab3 {F:Fd}{w h:Nat}(d:Ma F w h):bF Tryz.prog(.loop(au Tryz.f104 0))(fbO F 0(qG(pt F)(0*w))(mM(pt F)(0*w)))(.exit 0)(fbO F(h:Nat)(qG(pt F)(h*w))(mM(pt F)(h*w))):=by
 have h8:=d.h8
 refine aU(fun y=>fbO F(y:Nat)(qG(pt F)(y*w))(mM(pt F)(y*w)))h(.exit 0)_(by simp)(fun y hy=>?_) ?_
 ·refine aF(aT TG [some 0,some 1,some 2,some 3])pJ TD(aj7 d hy) ?_
  have c1:decide(((y:Nat):Int)<F.H)=true:=by rw[d.H];exact dec_lt hy
  rw[afk,c1,ah(Sub.refl _),bD(by omega),Nat.succ_mul y w]
  rfl
 ·refine aF(nT TG [some 0,some 1,some 2,some 3])pJ TD(iG 7) ?_
  have c1:decide(((h:Nat):Int)<F.H)=false:=by rw[d.H];exact bQ h
  rw[afl,c1]
  rfl
noncomputable def fbL(F:Fd)(w h:Nat):Nat→Option dN:=gu 4(fE TG [some 0,some 1,some 2,some 3](fbO F 0(qG(pt F)(0*w))(mM(pt F)(0*w)))(.exit 0)(fbO F(h:Nat)(qG(pt F)(h*w))(mM(pt F)(h*w))))
theorem apb {F:Fd}{w h:Nat}(d:Ma F w h):yS Tryz.prog(fbL F w h)(dG Tryz.f104) :=
  kT (i:=4)2(by kernel_rfl)fun j hj hid=>by
    have:j=0∨j=1:=by omega
    rcases this with rfl |rfl
    · exact aR(ab3 d)
    · have e:jA((bC(dG Tryz.f104)).getD 1 .skip)=some 7:=by kernel_rfl
      rw[e]at hid
      cases hid
theorem avu(F:Fd)(w h:Nat):ev Tryz.prog R3(GK Tryz.prog Tryz.f144)(fbL F w h)Tryz.f104 [.agg F.c]ret =
  cond((inR(ix F.W 0 0)F.n||false)&&true)(gate(Sub(fbO F 0(PX F(F.hs(ix F.W 0 0).toNat)0 0)(pp(PX F(F.hs(ix F.W 0 0).toNat)0 0)))(fbO F 0(qG(pt F)(0*w))(mM(pt F)(0*w))))(some(Out.of(.agg(c6(mM(pt F)(h*w)))))))none:=by kernel_rfl
theorem aj8 {F:Fd}{w h:Nat}(d:Ma F w h):aj Tryz.prog 104 [.agg F.c](.agg(c6(bx F))):=by
 refine aP pJ TD Tryz.ayC(by kernel_rfl)(by kernel_rfl)(apb d)rfl ?_
 have hpos:4≤w*h:=Nat.mul_le_mul d.w1 d.h1
 have hn:=d.n
 have hw:=d.w1
 have hix:ix F.W 0 0=((0*w+0:Nat):Int):=d.ix(y:=0)(x:=0)(by have:=d.h1;omega)(by omega)
 have hpt:PX F(F.hs(0*w+0))0 0=pt F 0:=by
  have:=(qE(y:=0)(x:=0)d(by omega)).symm
  rw[Nat.zero_mul]at this ⊢
  exact this
 rw[avu,hix,IG(by rw[hn];omega),Int.toNat_natCast,hpt]
 have hs:Sub(fbO F 0(pt F 0)(pp(pt F 0)))(fbO F 0(qG(pt F)(0*w))(mM(pt F)(0*w))):=by
  rw[Nat.zero_mul]
  exact Sub.refl _
 rw[ah hs]
 unfold bx
 rw[hn,Nat.mul_comm h w]
 rfl
theorem al2(F:Fd)(q:Int):gD Tryz.prog R3 []aM(au Tryz.f48 0)(II F 0 q)(fu FX [some 0]) =
  cond(decide(q<(F.n:Int)))(cond(inR q F.n||false)(cond(inR q F.n||!((decide(F.hs q.toNat<-1000000)==false)&&true))(cond(oU(F.hs q.toNat))none(some⟨.normal,II F 0(aI(q+1)),.any⟩))none)none)none:=by kernel_rfl
theorem ahx(F:Fd)(q:Int):gD Tryz.prog R3 []aM(au Tryz.f48 0)(II F 0 q)(PY FX [some 0]) =
  cond(decide(q<(F.n:Int)))(cond(inR q F.n||false)(cond(inR q F.n||!((decide(F.hs q.toNat<-1000000)==false)&&true))(cond(oU(F.hs q.toNat))(some⟨.ret,II F 6 q,.any⟩)none)none)none)(some⟨.exit 0,II F 0 q,.any⟩):=by kernel_rfl
theorem Ve {F:Fd}{q:Nat}(hn:F.n<4611686018427387904)(hq:q<F.n)(hb:oU(F.hs q)=false):bF Tryz.prog(au Tryz.f48 0)(II F 0(q:Nat)) .normal(II F 0((q+1:Nat):Int)):=by
 refine aF(aT FX [some 0])pJ av aA ?_
 rw[al2,dec_lt hq,IG hq,bD(by omega)]
 simp only[Int.toNat_natCast,hb,Bool.true_or,cond_true,cond_false]
theorem anG {F:Fd}(hn:F.n<4611686018427387904)(h:∀q,q<F.n→oU(F.hs q)=false):bF Tryz.prog(.loop(au Tryz.f48 0))(II F 0 0)(.exit 0)(II F 0 F.n):=by
 refine aU(fun q=>II F 0(q:Nat))F.n(.exit 0)_(by simp)(fun q hq=>Ve hn hq(h q hq)) ?_
 refine aF(nT FX [some 0])pJ av aA ?_
 rw[ahx,bQ]
 rfl
theorem arY {F:Fd}(hn:F.n<4611686018427387904) {j:Nat}(hj:j<F.n)(hb:oU(F.hs j)=true)(h:∀q,q<j→oU(F.hs q)=false):bF Tryz.prog(.loop(au Tryz.f48 0))(II F 0 0) .ret(II F 6(j:Nat)):=by
 refine aU(fun q=>II F 0(q:Nat))j .ret _(by simp)(fun q hq=>Ve hn(by omega)(h q hq)) ?_
 refine aF(nT FX [some 0])pJ av aA ?_
 rw[ahx,dec_lt hj,IG hj]
 simp only[Int.toNat_natCast,hb,Bool.true_or,cond_true]
noncomputable def rmL(F:Fd)(ex:Exit)(sf:St):Nat→Option dN:=gu 14(fE FX [some 0](II F 0 0)ex sf)
theorem Q5 {F:Fd}{ex:Exit}{sf:St}(h:bF Tryz.prog(.loop(au Tryz.f48 0))(II F 0 0)ex sf):yS Tryz.prog(rmL F ex sf)(dG Tryz.f48) :=
 kT(i:=14)1(by kernel_rfl)fun j hj _=>by
  have:j=0:=by omega
  subst this
  exact aR h
def Fd.Gm(F:Fd)(X:Option Out):Option Out:=cond F.Fz(some(Out.of(iA 4)))(cond(!((F.n:Int)==aI(F.W*F.H)))(some(Out.of(iA 5)))(cond(Cq F.sk)(some(Out.of(iA 4)))(cond F.far(some(Out.of(iA 1)))(cond(kL F.sd 0)(some(Out.of(iA 6)))X))))
theorem arZ(F:Fd):ev Tryz.prog R3 [](rmL F(.exit 0)(II F 0 F.n))Tryz.f48 [.agg F.c]ret=F.Gm(gate(Sub(II F 0 0)(II F 0 0))none):=by kernel_rfl
theorem ar0(F:Fd)(j:Int):ev Tryz.prog R3 [](rmL F .ret(II F 6 j))Tryz.f48 [.agg F.c]ret=F.Gm(gate(Sub(II F 0 0)(II F 0 0))(some(Out.of(iA 6)))):=by kernel_rfl
theorem ar7(F:Fd)(b:Nat→Nat):ev Tryz.prog R3 [Vb 104 [.agg F.c](.agg(c6 b))](rmL F(.exit 0)(II F 0 F.n))Tryz.f48 [.agg F.c]ret =
  F.Gm(gate(Sub(II F 0 0)(II F 0 0))(gate([AV.agg F.c]=[AV.agg F.c])(cond(!(kM b==0))(some(Out.of(iA 1)))(some(Out.of(iA 0)))))):=by kernel_rfl
theorem Bh(F:Fd)(X:Option Out):F.Gm X=F.first X:=by
 unfold Fd.Gm Fd.first
 cases hf:F.far
 ·have hn:eP F.sd=true:=by
   unfold Fd.far at hf
   revert hf
   cases dL(F.at_ 0)(F.at_ 1)(F.at_ 2)<;>cases eP F.sd<;>intro hf<;>first |rfl | (cases hf)
  rw[FY hn]
 ·rfl
theorem ahy {F:Fd}(hn:F.n<4611686018427387904)(he:F.jM≠0):aj Tryz.prog 48 [.agg F.c](iA F.jM):=by
 have fin:∀(X:Option Out),(F.rD=true∨X=some(Out.of(iA 6))∧F.rD=false)→F.first X=some(Out.of(iA F.jM)):=fun X hX=>by
  revert he
  unfold Fd.first Fd.jM
  cases F.Fz<;>simp only[cond_true,cond_false]
  ·cases(!((F.n:Int)==aI(F.W*F.H)))<;>simp only[cond_true,cond_false]
   ·cases Cq F.sk<;>simp only[cond_true,cond_false]
    ·cases F.far<;>simp only[cond_true,cond_false]
     ·cases(!gN F.sd 0)<;>simp only[cond_true,cond_false]
      ·rcases hX with h1 | ⟨h1,h2⟩
       ·rw[h1];intro he;exact absurd rfl he
       ·rw[h1,h2];intro _;rfl
      ·intro _;trivial
     ·intro _;trivial
    ·intro _;trivial
   ·intro _;trivial
  ·intro _;trivial
 rcases Ba F.hs F.n with h | ⟨j,h1,h2,h3⟩
 ·refine aP pJ av Tryz.YO(by kernel_rfl)(by kernel_rfl)(Q5(anG hn h))rfl ?_
  rw[arZ,ah(Sub.refl _),Bh]
  refine fin _(Or.inl ?_)
  unfold Fd.rD
  rw[List.all_eq_true.2]
  intro q hq
  rw[h q(List.mem_range.1 hq)]
  rfl
 ·refine aP pJ av Tryz.YO(by kernel_rfl)(by kernel_rfl)(Q5(arY hn h1 h2 h3))rfl ?_
  rw[ar0,ah(Sub.refl _),Bh]
  refine fin _(Or.inr⟨rfl,?_⟩)
  unfold Fd.rD
  rw[List.all_eq_false.2⟨j,List.mem_range.2 h1,by rw[h2];simp⟩]
theorem acW {F:Fd}{w h:Nat}(d:Ma F w h)(he:F.jM=0):aj Tryz.prog 48 [.agg F.c](iA(cond(kM(bx F)==0)0 1)):=by
 have hle:=d.le
 have hn:=d.n
 rcases Ba F.hs F.n with h | ⟨j,h1,h2,h3⟩
 ·refine aP pJ(ak(uK(aj8 d))av)Tryz.YO(by kernel_rfl)(by kernel_rfl)(Q5(anG(by omega)h))rfl ?_
  rw[ar7,ah(Sub.refl _),ah rfl,Bh]
  revert he
  unfold Fd.first Fd.jM
  cases F.Fz<;>simp only[cond_true,cond_false]
  ·cases(!((F.n:Int)==aI(F.W*F.H)))<;>simp only[cond_true,cond_false]
   ·cases Cq F.sk<;>simp only[cond_true,cond_false]
    ·cases F.far<;>simp only[cond_true,cond_false]
     ·cases(!gN F.sd 0)<;>simp only[cond_true,cond_false]
      ·intro _;cases kM(bx F)==0<;>rfl
      ·intro he;cases he
     ·intro he;cases he
    ·intro he;cases he
   ·intro he;cases he
  ·intro he;cases he
 ·exfalso
  have hk:F.rD=false:=by
   unfold Fd.rD
   rw[List.all_eq_false.2⟨j,List.mem_range.2 h1,by rw[h2];simp⟩]
  revert he
  unfold Fd.jM
  rw[hk]
  cases F.Fz<;>cases(!((F.n:Int)==aI(F.W*F.H)))<;>cases Cq F.sk<;>cases F.far<;>cases(!gN F.sd 0)<;>intro he<;>cases he
theorem ar8(F:Fd)(e:Int):ev Tryz.prog [] [Vb 138 [.agg F.c](.aN [.agg Lv,iA e])]aM Tryz.f100 [.agg F.c]ret=gate([AV.agg F.c]=[AV.agg F.c])(some(Out.of(iA e))):=by kernel_rfl
theorem ar9(F:Fd)(n:Nat)(b:Nat→Nat):ev Tryz.prog [] [Vb 138 [.agg F.c](.aN [.agg(abf F n b),iA 0])]aM Tryz.f100 [.agg F.c]ret=gate([AV.agg F.c]=[AV.agg F.c])(some(Out.of(iA 0))):=by kernel_rfl
theorem YP {F:Fd}{e:Int}(h:aj Tryz.prog 138 [.agg F.c](.aN [.agg Lv,iA e])):aj Tryz.prog 100 [.agg F.c](iA e) :=
 aP aB(ak(uK h)av)Tryz.al3(by kernel_rfl)(by kernel_rfl)aA rfl((ar8 F e).trans(ah rfl))
theorem ZR {F:Fd}{n:Nat}{b:Nat→Nat}(h:aj Tryz.prog 138 [.agg F.c](.aN [.agg(abf F n b),iA 0])):aj Tryz.prog 100 [.agg F.c](iA 0) :=
 aP aB(ak(uK h)av)Tryz.al3(by kernel_rfl)(by kernel_rfl)aA rfl((ar9 F n b).trans(ah rfl))
theorem Ju {F:Fd}(h:F.jM=0):(∃w h,Ma F w h)∧F.far=false:=by
 unfold Fd.jM at h
 cases hd:F.Fz
 ·rw[hd,cond_false]at h
  cases hn:((F.n:Int)==aI(F.W*F.H))
  ·rw[hn]at h;exact absurd(show(5:Int)=0 from h)(by decide)
  ·rw[hn]at h
   have h:cond(Cq F.sk)4(cond F.far 1(cond(!gN F.sd 0)6(cond F.rD 0 6)))=(0:Int):=h
   cases hk:Cq F.sk
   ·rw[hk,cond_false]at h
    cases hf:F.far
    ·refine⟨?_,rfl⟩
     unfold Fd.Fz at hd
     have d1:¬F.W<2:=fun c=>by rw[decide_eq_true c]at hd;cases hd
     rw[decide_eq_false d1,cond_false]at hd
     have d2:¬F.W>8:=fun c=>by rw[decide_eq_true c]at hd;cases hd
     rw[decide_eq_false d2,cond_false]at hd
     have d3:¬F.H<2:=fun c=>by rw[decide_eq_true c]at hd;cases hd
     rw[decide_eq_false d3,cond_false]at hd
     have d4:¬F.H>8:=fun c=>by rw[decide_eq_true c]at hd;cases hd
     have eW:F.W=((F.W.toNat:Nat):Int):=by omega
     have eH:F.H=((F.H.toNat:Nat):Int):=by omega
     have hle:F.W.toNat*F.H.toNat≤8*8:=Nat.mul_le_mul(by omega)(by omega)
     have e:F.W*F.H=((F.W.toNat*F.H.toNat:Nat):Int):=by rw[Int.natCast_mul,←eW,←eH]
     have hn:=eq_of_beq hn
     rw[e,aO(by omega)(by omega)]at hn
     exact⟨F.W.toNat,F.H.toNat,eW,eH,by omega,by omega,by omega,by omega,by omega⟩
    ·rw[hf]at h;exact absurd(show(1:Int)=0 from h)(by decide)
   ·rw[hk]at h;exact absurd(show(4:Int)=0 from h)(by decide)
 ·rw[hd]at h;exact absurd(show(4:Int)=0 from h)(by decide)
theorem acX(F:Fd):ev Tryz.prog V4 [](gu 12 fun _ _=>none)Tryz.f161 [.agg F.c]ret=F.first none:=by kernel_rfl
theorem ahz(F:Fd):ev Tryz.prog R3 [](gu 14 fun _ _=>none)Tryz.f48 [.agg F.c]ret=F.Gm none:=by kernel_rfl
theorem ahA {F:Fd}(hn:¬F.n<4611686018427387904)(X:Option Out):F.first X=some(Out.of(iA F.jM))∧F.jM≠0:=by
 cases hd:F.Fz
 ·cases he:((F.n:Int)==aI(F.W*F.H))
  ·unfold Fd.first Fd.jM
   rw[hd,he]
   exact⟨rfl,show(5:Int)≠0 by decide⟩
  ·exfalso
   unfold Fd.Fz at hd
   have d1:¬F.W<2:=fun c=>by rw[decide_eq_true c]at hd;cases hd
   rw[decide_eq_false d1,cond_false]at hd
   have d2:¬F.W>8:=fun c=>by rw[decide_eq_true c]at hd;cases hd
   rw[decide_eq_false d2,cond_false]at hd
   have d3:¬F.H<2:=fun c=>by rw[decide_eq_true c]at hd;cases hd
   rw[decide_eq_false d3,cond_false]at hd
   have d4:¬F.H>8:=fun c=>by rw[decide_eq_true c]at hd;cases hd
   have hle:F.W.toNat*F.H.toNat≤8*8:=Nat.mul_le_mul(by omega)(by omega)
   have eW:F.W=((F.W.toNat:Nat):Int):=by omega
   have eH:F.H=((F.H.toNat:Nat):Int):=by omega
   have e:F.W*F.H=((F.W.toNat*F.H.toNat:Nat):Int):=by rw[Int.natCast_mul,←eW,←eH]
   have he:=eq_of_beq he
   rw[e,aO(by omega)(by omega)]at he
   omega
 ·unfold Fd.first Fd.jM
  rw[hd]
  exact⟨rfl,show(4:Int)≠0 by decide⟩
theorem ahB {sk:Int}(h:Cq sk=false):0≤sk∧sk<16:=by
 unfold Cq at h
 by_cases h1:sk<0
 ·rw[decide_eq_true h1]at h;cases h
 ·rw[decide_eq_false h1,cond_false]at h
  have:=of_decide_eq_false h
  omega
theorem agW {F:Fd}(h:F.jM=0):(2≤F.W∧F.W≤8∧2≤F.H∧F.H≤8)∧(0≤F.sk∧F.sk<16)∧∀q,q<F.n→oU(F.hs q)=false:=by
 obtain⟨⟨w,h',d⟩,_⟩:=Ju h
 obtain⟨hk,hs⟩:F.rD=true∧Cq F.sk=false:=by
  unfold Fd.jM at h
  revert h
  cases F.Fz<;>cases(!((F.n:Int)==aI(F.W*F.H)))<;>cases Cq F.sk<;>cases F.far<;>cases(!gN F.sd 0)<;>cases F.rD<;>intro h<;>first |exact⟨rfl,rfl⟩ | (cases h;done)
 refine⟨?_,ahB hs,fun q hq=>?_⟩
 ·have a1:=d.W
  have a2:=d.H
  have a3:=d.w8
  have a4:=d.h8
  have a5:=d.w1
  have a6:=d.h1
  omega
 ·unfold Fd.rD at hk
  have:=List.all_eq_true.1 hk q(List.mem_range.2 hq)
  simpa using this
theorem acG(F:Fd):∃m,aj Tryz.prog 100 [.agg F.c](iA m)∧aj Tryz.prog 48 [.agg F.c](iA m)∧(m=0→F.far=false∧F.n≤64∧F.jM=0∧(kM(bx F)==0)=true):=by
 by_cases hn:F.n<4611686018427387904
 ·by_cases he:F.jM=0
  ·obtain⟨⟨w,h,d⟩,hf⟩:=Ju he
   have k:=Sb d he
   have g:=acW d he
   have hl:=d.le
   cases hb:kM(bx F)==0
   ·rw[hb]at k g;exact⟨1,YP k,g,fun h=>absurd h(by decide)⟩
   ·rw[hb]at k g;exact⟨0,ZR k,g,fun _=>⟨hf,by rw[d.n];exact hl,he,rfl⟩⟩
  ·exact⟨_,YP(acY hn he),ahy hn he,fun h=>absurd h he⟩
 ·have f:=ahA hn none
  have s1:aj Tryz.prog 161 [.agg F.c](iA F.jM):=aP wK av Tryz.aa6(by kernel_rfl)(by kernel_rfl)(iG 12)rfl((acX F).trans f.1)
  have s2:aj Tryz.prog 48 [.agg F.c](iA F.jM):=aP pJ av Tryz.YO(by kernel_rfl)(by kernel_rfl)(iG 14)rfl((ahz F).trans((Bh F none).trans f.1))
  have s3:aj Tryz.prog 138 [.agg F.c](.aN [.agg Lv,iA F.jM]):=by
   refine aP wK(ak(uK s1)av)Tryz.abg(by kernel_rfl)(by kernel_rfl)aA rfl ?_
   rw[Oq,ah rfl,beq_false_of_ne f.2]
   rfl
  exact⟨_,YP s3,s2,fun h=>absurd h f.2⟩
end Go.Proofs.YtefphimaggjihaaGreatDoor.Hs.Fm
namespace Go.Gv
open Go.RowKit
def aei(b:Bool)(g h:dN):dN:=fun s k=>cond b(g s k)(h s k)
theorem zn {P:Program}{c:Code}{b:Bool}{g h:dN}(hg:b=true→gI P c g)(hh:b=false→gI P c h):gI P c(aei b g h):=by
 cases b
 ·exact hh rfl
 ·exact hg rfl
def nA:List(Nat × dN)→Nat→Option dN
 | [],_=>none
 |x::l,j=>cond(Nat.beq j x.1)(some x.2)(nA l j)
theorem o9 {P:Program}{c:Code}:yS P(nA [])c:=fun _ _ _ _ _ h=>by cases h
theorem dD {P:Program}{c:Code}{i:Nat}{g:dN}{l:List(Nat × dN)}(hg:yS P(gu i g)c)(hl:yS P(nA l)c):yS P(nA((i,g)::l))c:=by
 intro c' hc j f hj hf
 have hf:cond(Nat.beq j i)(some g)(nA l j)=some f:=hf
 cases hb:Nat.beq j i
 ·rw[hb,cond_false]at hf
  exact hl c' hc j f hj hf
 ·rw[hb,cond_true]at hf
  refine hg c' hc j f hj ?_
  unfold gu
  rw[hb,cond_true]
  exact hf
end Go.Gv
namespace Go.Proofs.YtefphimaggjihaaGreatDoor.Hs.Sc
open Go.Gv So
noncomputable def uO(keep:List Nat)(τ:List(Option Nat))(S:Int→St)(ex:Exit)(E:Int→St)(fb:Nat→Int)(n:Nat):dN :=
 aei(iP fb n==0)(fE keep τ(S 0)ex(S(n:Nat)))(fE keep τ(S 0) .ret(E(iP fb n)))
theorem jD {P:Program}{c:Code}{keep:List Nat}{τ:List(Option Nat)}{S:Int→St}{ex:Exit}{E:Int→St}{fb:Nat→Int}{n:Nat}(hex:ex≠.normal)
  (h1:∀k:Nat,k<n→fb k=0→bF P c(S(k:Nat)) .normal(S((k+1:Nat):Int)))(h2:∀k:Nat,k<n→fb k≠0→bF P c(S(k:Nat)) .ret(E(fb k)))(h3:bF P c(S(n:Nat))ex(S(n:Nat))) :
  gI P c(uO keep τ S ex E fb n):=by
 refine zn(fun hb=>?_)fun hb=>?_
 ·have h:=dh n(eq_of_beq hb)
  exact aR(aU(fun k=>S(k:Nat))n ex _ hex(fun k hk=>h1 k hk(h k hk))h3)
 ·rcases qL(fun i=>fb i==0)n with hl | ⟨K,hK,hp,hq⟩
  ·rw[Aw n fun i hi=>by simpa using hl i hi]at hb
   cases hb
  ·have hp':fb K≠0:=by simpa using hp
   have hq':∀i,i<K→fb i=0:=fun i hi=>by simpa using hq i hi
   rw[Ay hp' hq' n hK]
   exact aR(aU(fun k=>S(k:Nat))K .ret _(by simp)(fun k hk=>h1 k(by omega)(hq' k hk))(h2 K hK hp'))
def gO(f:List AV→Int):List AV→AV
 | [.agg c]=>iA(f c)
 |_=>.any
end Go.Proofs.YtefphimaggjihaaGreatDoor.Hs.Sc
namespace Go.Proofs.YtefphimaggjihaaGreatDoor.Hs.Sc
open Go.Gv
open Go.Ev (cn bq dI bT fdiv d9 fI dK jO kL gN lK fabs aL)
abbrev xJ(k:Nat→Int):List AV:=[iA(k 0),iA(k 1),iA(k 2),iA(k 3),iA(k 4),iA(k 5),iA(k 6),iA(k 7),iA(k 8),iA(k 9)]
abbrev IB(a:Nat→Nat)(l:Nat→Int):List AV:=[.f(a 0),.f(a 1),.f(a 2),iA(l 0),iA(l 1),iA(l 2)]
abbrev eyC(e:Nat→Nat):List AV:=[.f(e 0),.f(e 1),.f(e 2),.f(e 3),.f(e 4),.f(e 5),.f(e 6),.f(e 7),.f(e 8),.f(e 9)]
def oB(b:Bool):Option Out:=some(Out.of(bA b))
def oI(n:Int):Option Out:=some(Out.of(iA n))
def cbB(x:Int):Bool:=cond(decide(x<0))true(decide(x>1000))
def suB(s m g:Int):Bool:=decide(aI(aI(s+m)+g)≤1000)
def Xv(s m g:Int):Bool:=cond(cbB s)false(cond(cbB m)false(cond(cbB g)false(suB s m g)))
theorem avx(s m g:Int):ev Tryz.prog [] []aM Tryz.f62 [iA s,iA m,iA g]ret=cond(cbB s)(oB false)(cond(cbB m)(oB false)(cond(cbB g)(oB false)(oB(suB s m g)))):=by kernel_rfl
theorem aj9(s m g:Int):aj Tryz.prog 62 [iA s,iA m,iA g](bA(Xv s m g)):=by
 refine aP aB av Tryz.aA9(by kernel_rfl)(by kernel_rfl)aA rfl((avx s m g).trans ?_)
 unfold Xv
 cases cbB s<;>cases cbB m<;>cases cbB g<;>rfl
def eC3(f:Int→Int→Int→Bool):List AV→Option AV
 | [.x(.int .i64 a),.x(.int .i64 b),.x(.int .i64 c)]=>some(bA(f a b c))
 |_=>none
theorem apc:lg Tryz.prog⟨62,eC3 Xv⟩:=fun args r hr=>by
 simp only[eC3]at hr
 split at hr
 ·cases hr;exact Or.inl(aj9 _ _ _)
 ·cases hr
section
variable(f:Int→Int→Int→Bool)(k:Nat→Int)
def beB:Bool:=cond(decide(k 9<100))true(decide(k 9>10000))
def skX:Option Out:=cond(!f(k 0)(k 3)(k 6))(oI 6)(cond(!f(k 1)(k 4)(k 7))(oI 6)(cond(!f(k 2)(k 5)(k 8))(oI 6)(cond(beB k)(oI 6)(oI 0))))
theorem afm:ev Tryz.prog [⟨62,eC3 f⟩] []aM Tryz.f18 [.agg(xJ k)]ret=skX f k:=by kernel_rfl
end
def skE(k:Nat→Int):Int:=cond(!Xv(k 0)(k 3)(k 6))6(cond(!Xv(k 1)(k 4)(k 7))6(cond(!Xv(k 2)(k 5)(k 8))6(cond(beB k)6 0)))
theorem afn(k:Nat→Int):skX Xv k=oI(skE k):=by
 unfold skX skE
 cases Xv(k 0)(k 3)(k 6)<;>cases Xv(k 1)(k 4)(k 7)<;>cases Xv(k 2)(k 5)(k 8)<;>cases beB k<;>rfl
theorem PZ(k:Nat→Int):aj Tryz.prog 18 [.agg(xJ k)](iA(skE k)) :=
 aP(bn apc aB)av Tryz.func18(by kernel_rfl)(by kernel_rfl)aA rfl((afm Xv k).trans(afn k))
def bcB(a b g:Int):Bool:=cond(cond(cond(cond(cond(cond(decide(a<0))true(decide(a>1000)))true(decide(b<0)))true(decide(b>1000)))true(decide(g<0)))true(decide(g>1000)))true(decide(aI(aI(a+b)+g)>1000))
theorem apd(k:Nat→Int):ev Tryz.prog [] []aM Tryz.f19 [.agg(xJ k)]ret=cond(bcB(k 0)(k 3)(k 6))(oI 6)(cond(bcB(k 1)(k 4)(k 7))(oI 6)(cond(bcB(k 2)(k 5)(k 8))(oI 6)(cond(beB k)(oI 6)(oI 0)))):=by kernel_rfl
theorem Xw(a b g:Int):bcB a b g=!Xv a b g:=by
 unfold bcB Xv cbB suB
 have e:decide(aI(aI(a+b)+g)>1000)=!decide(aI(aI(a+b)+g)≤1000):=by
  by_cases h:aI(aI(a+b)+g)≤1000
  ·rw[decide_eq_true h,decide_eq_false(by omega)];rfl
  ·rw[decide_eq_false h,decide_eq_true(by omega)];rfl
 rw[e]
 cases decide(a<0)<;>cases decide(a>1000)<;>cases decide(b<0)<;>cases decide(b>1000)<;>cases decide(g<0)<;>cases decide(g>1000)<;>rfl
theorem TH(k:Nat→Int):aj Tryz.prog 19 [.agg(xJ k)](iA(skE k)):=by
 refine aP aB av Tryz.func19(by kernel_rfl)(by kernel_rfl)aA rfl((apd k).trans ?_)
 rw[Xw,Xw,Xw]
 exact afn k
def VF(x:Int):Bool:=cond(decide(x<0))true(decide(x>65536))
def ND(l:Nat→Int):Bool:=cond(VF(l 0))false(cond(VF(l 1))false(cond(VF(l 2))false true))
abbrev liC(l:Nat→Int):List AV:=[iA(l 0),iA(l 1),iA(l 2)]
theorem avy(l:Nat→Int):ev Tryz.prog [] []aM Tryz.f45 [.agg(liC l)]ret=cond(VF(l 0))(oB false)(cond(VF(l 1))(oB false)(cond(VF(l 2))(oB false)(oB true))):=by kernel_rfl
theorem aai(l:Nat→Int):aj Tryz.prog 45 [.agg(liC l)](bA(ND l)):=by
 refine aP aB av Tryz.func45(by kernel_rfl)(by kernel_rfl)aA rfl((avy l).trans ?_)
 unfold ND
 cases VF(l 0)<;>cases VF(l 1)<;>cases VF(l 2)<;>rfl
def lrB(ok:Bool)(x:Int):Bool:=cond(cond ok(decide(x≥0))false)(decide(x≤65536))false
theorem ape(l:Nat→Int):ev Tryz.prog [] []aM Tryz.f50 [.agg(liC l)]ret=oB(lrB(lrB(lrB true(l 0))(l 1))(l 2)):=by kernel_rfl
theorem Xx(ok:Bool)(x:Int):lrB ok x=cond ok(!VF x)false:=by
 unfold lrB VF
 have e1:decide(x≥0)=!decide(x<0):=by
  by_cases h:x<0
  ·rw[decide_eq_true h,decide_eq_false(by omega)];rfl
  ·rw[decide_eq_false h,decide_eq_true(by omega)];rfl
 have e2:decide(x≤65536)=!decide(x>65536):=by
  by_cases h:x>65536
  ·rw[decide_eq_true h,decide_eq_false(by omega)];rfl
  ·rw[decide_eq_false h,decide_eq_true(by omega)];rfl
 rw[e1,e2]
 cases ok<;>cases decide(x<0)<;>cases decide(x>65536)<;>rfl
theorem afo(l:Nat→Int):aj Tryz.prog 50 [.agg(liC l)](bA(ND l)):=by
 refine aP aB av Tryz.aBa(by kernel_rfl)(by kernel_rfl)aA rfl((ape l).trans ?_)
 rw[Xx,Xx,Xx]
 unfold ND
 cases VF(l 0)<;>cases VF(l 1)<;>cases VF(l 2)<;>rfl
def eL3(f:(Nat→Int)→Bool):List AV→Option AV
 | [.agg [.x(.int .i64 a),.x(.int .i64 b),.x(.int .i64 c)]]=>some(bA(f(fun q=>match q with | 0=>a | 1=>b |_=>c)))
 |_=>none
theorem apf:lg Tryz.prog⟨45,eL3 ND⟩:=fun args r hr=>by
 simp only[eL3]at hr
 split at hr
 ·rename_i a b c
  cases hr;exact Or.inl(aai fun q=>match q with | 0=>a | 1=>b |_=>c)
 ·cases hr
def lmE(a:Nat→Nat)(l:Nat→Int):Int:=cond(!dL(a 0)(a 1)(a 2))1(cond(!ND l)6 0)
theorem avz(a:Nat→Nat)(l:Nat→Int):ev Tryz.prog(⟨45,eL3 ND⟩::V2) []aM Tryz.f44 [.agg(IB a l)]ret=cond(!dL(a 0)(a 1)(a 2))(oI 1)(cond(!ND l)(oI 6)(oI 0)):=by kernel_rfl
theorem aaj(a:Nat→Nat)(l:Nat→Int):aj Tryz.prog 44 [.agg(IB a l)](iA(lmE a l)):=by
 refine aP(bn apf afp)av Tryz.func44(by kernel_rfl)(by kernel_rfl)aA rfl((avz a l).trans ?_)
 unfold lmE
 cases dL(a 0)(a 1)(a 2)<;>cases ND l<;>rfl
def feB(e:Nat→Nat):Bool:=cond(cond(cond(!dL(e 0)(e 1)(e 2))true(!dL(e 3)(e 4)(e 5)))true(!dL(e 6)(e 7)(e 8)))true(!eP(e 9))
section
variable(e:Nat→Nat)
def dX:Nat:=dI(e 3)(e 0)
def dY:Nat:=dI(e 4)(e 1)
def dZ:Nat:=dI(e 5)(e 2)
def uX:Nat:=unN(dX e)(dY e)(dZ e)(dX e)
def uY:Nat:=unN(dX e)(dY e)(dZ e)(dY e)
def uZ:Nat:=unN(dX e)(dY e)(dZ e)(dZ e)
def upB:Bool:=dK(iT(RU(uY e)(uZ e)(e 7)(e 8))(RU(uZ e)(uX e)(e 8)(e 6))(RU(uX e)(uY e)(e 6)(e 7)))0
def eyX(b:Bool):Option Out:=cond(feB e)(oI 1)(cond b(oI 6)(cond(!(Vx(dX e)(dY e)(dZ e)==0))(oI(Vx(dX e)(dY e)(dZ e)))(cond(upB e)(oI 2)(oI 0))))
def ZP:Int:=cond(feB e)1(cond(!gN(e 9)0)6(cond(!(Vx(dX e)(dY e)(dZ e)==0))(Vx(dX e)(dY e)(dZ e))(cond(upB e)2 0)))
theorem afq:ev Tryz.prog V3 []aM Tryz.f16 [.agg(eyC e)]ret=eyX e(!gN(e 9)0):=by kernel_rfl
theorem apg:ev Tryz.prog R3 []aM Tryz.f17 [.agg(eyC e)]ret=eyX e(kL(e 9)0):=by kernel_rfl
theorem Kj:eyX e(!gN(e 9)0)=oI(ZP e):=by
 unfold eyX ZP
 cases feB e<;>cases gN(e 9)0<;>cases(Vx(dX e)(dY e)(dZ e)==0)<;>cases upB e<;>rfl
theorem P5:aj Tryz.prog 16 [.agg(eyC e)](iA(ZP e)) :=
 aP aak av Tryz.func16(by kernel_rfl)(by kernel_rfl)aA rfl((afq e).trans(Kj e))
theorem TI:aj Tryz.prog 17 [.agg(eyC e)](iA(ZP e)):=by
 refine aP pJ av Tryz.func17(by kernel_rfl)(by kernel_rfl)aA rfl((apg e).trans ?_)
 have h:eyX e(kL(e 9)0)=eyX e(!gN(e 9)0):=by
  unfold eyX
  cases hf:feB e
  ·have hn:eP(e 9)=true:=by
    unfold feB at hf
    revert hf
    cases dL(e 0)(e 1)(e 2)<;>cases dL(e 3)(e 4)(e 5)<;>cases dL(e 6)(e 7)(e 8)<;>cases eP(e 9)<;>intro hf<;>first |rfl | (cases hf)
   rw[FY hn]
  ·rfl
 exact h.trans(Kj e)
end
def Dk(e sk:Int)(n:Nat):Int:=cond(!(e==0))e(cond(decide(sk≥(n:Int)))9 0)
theorem avA(e sk:Int)(n:Nat)(el:Nat→List AV):ev Tryz.prog [] []aM Tryz.f97 [iA e,iA sk,.sl 10 n el]ret=cond(!(e==0))(oI e)(cond(decide(sk≥(n:Int)))(oI 9)(oI 0)):=by kernel_rfl
theorem akb(e sk:Int)(n:Nat)(el:Nat→List AV):aj Tryz.prog 97 [iA e,iA sk,.sl 10 n el](iA(Dk e sk n)):=by
 refine aP aB av Tryz.aBb(by kernel_rfl)(by kernel_rfl)aA rfl((avA e sk n el).trans ?_)
 unfold Dk
 cases e==0<;>cases decide(sk≥(n:Int))<;>rfl
end Go.Proofs.YtefphimaggjihaaGreatDoor.Hs.Sc
