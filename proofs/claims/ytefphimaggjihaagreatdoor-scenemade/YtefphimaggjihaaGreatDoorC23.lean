/- Texts, one behind the other. -/
import Derived.Test.YtefphimaggjihaaGreatDoorC21
import Derived.Test.YtefphimaggjihaaGreatDoorC22
import Derived.Shelf.Strings.Builder1
import Derived.Shelf.Strings.Trim
import Derived.Shelf.Strconv.Itoa3
import Derived.Shelf.Strings.Search1
import Derived.Test.YtefphimaggjihaaGreatDoorC13
import Derived.Test.YtefphimaggjihaaGreatDoorC4
open Array renaming ext'->azJ,getElem?_eq_some_iff->ayR,length_toList->azZ
open Bool renaming or_false->aAS,true_or->aEC
open Go.Extern.MathSqrt renaming sqrt->aAE
open Go.FloatKind renaming f64->ayP
open Go.Lib renaming TabIs->aDN,indexByte->azo,itoa->ala,pow10Tab->aAx,toList_data->aEa,trimRightB->ayI
open Go.Proofs.Tryz renaming f100->aFd,f103->aBE,f104->azR,f126->aFb,f128->aFa,f136->aBe,f138->aFc,f141->aDS,f144->aBf,f161->aAh,f162->azP,f163->aCh,f209->aE9,f221->aBD,f234->aCG,f237->aCH,f249->aCF,f25->aAY,f294->aDQ,f303->aDR,f46->aBF,f47->aA0,f48->aAo,f87->aB8,f98->aFj,f99->aAZ,prog->bW,underlying5->aB3,underlying9->aAw
open Go.Shelf renaming Ren->aBw
open Int renaming mul_assoc->aCg,natCast_mul->azn,ofNat->aEd,toNat_natCast->Zk
open List renaming all_eq_false->aBT,all_eq_true->apB,append_assoc->aiR,findIdx?_cons->aDh,getD_cons_succ->aC2,getD_cons_zero->aC1,getD_eq_getElem?_getD->amh,getElem?_append_left->apR,getElem?_append_right->axY,getElem?_cons_succ->azD,getElem?_eq_getElem->adv,getElem?_eq_some_iff->aj8,getElem?_map->azh,getElem?_set_ne->ay9,getElem?_set_self->azq,getElem_mem->azH,length->aDM,length_append->uI,length_cons->anE,length_map->aAL,length_nil->arB,length_pos_iff->aAa,length_range->aAb,length_take->ayM,mem_append->ayQ,mem_cons->azV,mem_range->ayA,range->av2,take_add_one->aDt,take_length->aB4
open Nat renaming add_zero->ayO,beq->ax0,ble->aqE,ble_eq_true_of_le->ah4,blt->afC,le_of_ble_eq_true->Sr,le_of_not_lt->ayU,le_refl->ao5,mul_comm->aye,mul_le_mul->azQ,not_lt_zero->azu,sub_self->aDP,succ_mul->aBG,zero_add->avB,zero_mul->aza
open Option.some renaming injEq->jN
open Or renaming inl->ER,inr->aaH
namespace Go.Proofs.YtefphimaggjihaaGreatDoor.Pi
open Go.Shelf Go.RowKit Go.Gv
def zA(s:ByteArray):AV:=.x (.string s)
def bL(s:ByteArray):List UInt8:=s.data.toList
def lB(l:List UInt8):ByteArray:=⟨l.toArray⟩
@[simp] theorem jr(l:List UInt8):bL (lB l)=l:=by simp[bL,lB]
@[simp] theorem Gl(s:ByteArray):lB (bL s)=s:=by simp[bL,lB]
theorem ano{s t:ByteArray}(h:bL s=bL t):s=t:=by rw[<-Gl s,h,Gl]
theorem aar(s:ByteArray):s.size=(bL s).length:=Lib.size_eq s
theorem aY(l:List UInt8):(lB l).size=l.length:=by rw[aar,jr]
theorem amf(s:ByteArray)(i:Nat):sAt s i=(((bL s).getD i 0).toNat:Int):=rfl
theorem oG(s:ByteArray)(a b:Nat):bL (s.extract a b)=((bL s).take b).drop a:=by
 unfold bL;rw[ByteArray.data_extract,Array.toList_extract];simp[List.extract_eq_take_drop,List.drop_take]
theorem sEq(s t:ByteArray):(s.toList==t.toList)=decide (bL s=bL t):=by
 rw[aEa,aEa];unfold bL;by_cases h:s.data.toList=t.data.toList
 .rw[h];simp
 .rw[decide_eq_false h];simpa using h
theorem XI{E:Env}:∀{vs us:List Value},dB E (vs.map .x) us->us=vs
 | [],us,h=>bK.1 h
 |v::vs,us,h=>by
  obtain⟨u,us',e,h1,h2⟩:=aH.1 h;rw[e,bI.1 h1,XI h2]
theorem Gm {f : Nat} {fn : Func} (hf : bW.funcs[f]? = some fn) (hnm : (fn.name == "runtime.NumGoroutine") = false) (hb : fn.body.isNone = false) (vs : List Value) {v : Value} {r : AV} (hr : ∀ E, rel E r v)
  (h:∀w,Calls bW f vs.toArray w λ e w'=>e=.returned v/\Below w.heap.size w w'):aj bW f (vs.map .x) r:=by
 refine⟨⟨fn,hf,hnm,hb⟩,λ A w aZ _ hr' _=>?_⟩;have e:=XI hr';have e2:aZ=vs.toArray:=by apply azJ;simpa using e
 subst e2;exact(h w).mono λ e w' ⟨h1,h2⟩=>⟨v,h1,hr _,h2⟩
end Go.Proofs.YtefphimaggjihaaGreatDoor.Pi
namespace Go.Proofs.YtefphimaggjihaaGreatDoor
open Go.Shelf
def Tryz.lays240_ren:aBw:=⟨λ | 240=>154 | 276=>173 |n=>n,λ | 0=>0 | 4=>4 | 9=>9 | 20=>20 | 37=>78 | 70=>77 | 72=>80 | 164=>204 |n=>n,λ  |n=>n⟩
theorem Tryz.lays240:Go.Proofs.Lays.n240 bW Tryz.lays240_ren:={
 mixed:=by kernel_rfl
 f240:=Tryz.func154.trans (congrArg some (by kernel_rfl))
 f276:=Tryz.func173.trans (congrArg some (by kernel_rfl))
 t0:=Tryz.underlying0
 a0:=Tryz.isAgg0
 z0:=Tryz.sizeOf0
 v0:=Tryz.zeroValue0
 t4:=Tryz.underlying4
 a4:=Tryz.isAgg4
 z4:=Tryz.sizeOf4
 v4:=Tryz.zeroValue4
 t9:=aAw
 a9:=Tryz.isAgg9
 z9:=Tryz.sizeOf9
 v9:=Tryz.zeroValue9
 t20:=Tryz.underlying20
 a20:=Tryz.isAgg20
 z20:=Tryz.sizeOf20
 v20:=Tryz.zeroValue20
 t70:=Tryz.underlying77
 a70:=Tryz.isAgg77
 z70:=Tryz.sizeOf77
 v70:=Tryz.zeroValue77
 t72:=Tryz.underlying80
 a72:=Tryz.isAgg80
 z72:=Tryz.sizeOf80
 v72:=Tryz.zeroValue80
 t164:=Tryz.underlying204
 a164:=Tryz.isAgg204
 z164:=Tryz.sizeOf204
 v164:=Tryz.zeroValue204
}
def Tryz.laysm171_ren:aBw:=⟨λ | 129=>224 | 171=>129 | 243=>155 | 246=>174 | 283=>199 | 284=>200 | 285=>201 | 286=>202 | 317=>223 | 318=>225 | 319=>226 | 320=>227 | 337=>238 | 338=>239 |n=>n,λ | 0=>0 | 2=>2 | 3=>3 | 4=>4 | 5=>5 | 9=>9 | 20=>20 | 37=>78 | 46=>225 | 51=>244 | 53=>223 | 171=>227 | 173=>230 | 212=>243 | 213=>245 | 232=>259 | 233=>260 |n=>n,λ | 17=>2 | 18=>3 | 19=>4 |n=>n⟩
theorem Tryz.laysm171:Go.Proofs.LaysM.n171 bW Tryz.laysm171_ren:={
 mixed:=by kernel_rfl
 f129:=Tryz.func224.trans (congrArg some (by kernel_rfl))
 f171:=Tryz.func129.trans (congrArg some (by kernel_rfl))
 f243:=Tryz.func155.trans (congrArg some (by kernel_rfl))
 f246:=Tryz.func174.trans (congrArg some (by kernel_rfl))
 f283:=Tryz.func199.trans (congrArg some (by kernel_rfl))
 f284:=Tryz.func200.trans (congrArg some (by kernel_rfl))
 f285:=Tryz.func201.trans (congrArg some (by kernel_rfl))
 f286:=Tryz.func202.trans (congrArg some (by kernel_rfl))
 f317:=Tryz.func223.trans (congrArg some (by kernel_rfl))
 f318:=Tryz.func225.trans (congrArg some (by kernel_rfl))
 f319:=Tryz.func226.trans (congrArg some (by kernel_rfl))
 f320:=Tryz.func227.trans (congrArg some (by kernel_rfl))
 f337:=Tryz.func238.trans (congrArg some (by kernel_rfl))
 f338:=Tryz.func239.trans (congrArg some (by kernel_rfl))
 t0:=Tryz.underlying0
 a0:=Tryz.isAgg0
 z0:=Tryz.sizeOf0
 v0:=Tryz.zeroValue0
 t2:=Tryz.underlying2
 a2:=Tryz.isAgg2
 z2:=Tryz.sizeOf2
 v2:=Tryz.zeroValue2
 t3:=Tryz.underlying3
 a3:=Tryz.isAgg3
 z3:=Tryz.sizeOf3
 v3:=Tryz.zeroValue3
 t4:=Tryz.underlying4
 a4:=Tryz.isAgg4
 z4:=Tryz.sizeOf4
 v4:=Tryz.zeroValue4
 t5:=aB3
 a5:=Tryz.isAgg5
 z5:=Tryz.sizeOf5
 v5:=Tryz.zeroValue5
 t9:=aAw
 a9:=Tryz.isAgg9
 z9:=Tryz.sizeOf9
 v9:=Tryz.zeroValue9
 t20:=Tryz.underlying20
 a20:=Tryz.isAgg20
 z20:=Tryz.sizeOf20
 v20:=Tryz.zeroValue20
 t37:=Tryz.underlying78
 a37:=Tryz.isAgg78
 z37:=Tryz.sizeOf78
 v37:=Tryz.zeroValue78
 t46:=Tryz.underlying225
 a46:=Tryz.isAgg225
 z46:=Tryz.sizeOf225
 v46:=Tryz.zeroValue225
 t51:=Tryz.underlying244
 a51:=Tryz.isAgg244
 z51:=Tryz.sizeOf244
 v51:=Tryz.zeroValue244
 t53:=Tryz.underlying223
 a53:=Tryz.isAgg223
 z53:=Tryz.sizeOf223
 v53:=Tryz.zeroValue223
 t171:=Tryz.underlying227
 a171:=Tryz.isAgg227
 z171:=Tryz.sizeOf227
 v171:=Tryz.zeroValue227
 t173:=Tryz.underlying230
 a173:=Tryz.isAgg230
 z173:=Tryz.sizeOf230
 v173:=Tryz.zeroValue230
 t212:=Tryz.underlying243
 a212:=Tryz.isAgg243
 z212:=Tryz.sizeOf243
 v212:=Tryz.zeroValue243
 t213:=Tryz.underlying245
 a213:=Tryz.isAgg245
 z213:=Tryz.sizeOf245
 t232:=Tryz.underlying259
 a232:=Tryz.isAgg259
 z232:=Tryz.sizeOf259
 v232:=Tryz.zeroValue259
 t233:=Tryz.underlying260
 a233:=Tryz.isAgg260
 z233:=Tryz.sizeOf260
 v233:=Tryz.zeroValue260
 g17:=by kernel_rfl
 g18:=by kernel_rfl
 g19:=by kernel_rfl
 i0:=by kernel_rfl
 i2:=by kernel_rfl
 i3:=by kernel_rfl
 i4:=by kernel_rfl
 i5:=by kernel_rfl
 i9:=by kernel_rfl
 i20:=by kernel_rfl
 i37:=by kernel_rfl
 i46:=by kernel_rfl
 i51:=by kernel_rfl
 i53:=by kernel_rfl
 i171:=by kernel_rfl
 i173:=by kernel_rfl
 i212:=by kernel_rfl
 i232:=by kernel_rfl
 i233:=by kernel_rfl
 m17:=by kernel_rfl
 m18:=by kernel_rfl
 m19:=by kernel_rfl
}
def Tryz.lays162_ren:aBw:=⟨λ | 119=>242 | 120=>228 | 137=>241 | 151=>205 | 152=>230 | 162=>156 | 197=>229 | 217=>250 | 224=>243 | 225=>244 | 227=>176 | 228=>203 | 232=>175 | 234=>177 | 236=>178 | 260=>240 | 266=>253 | 271=>204 |n=>n,λ | 0=>0 | 3=>3 | 4=>4 | 5=>5 | 9=>9 | 21=>21 | 46=>225 | 105=>233 | 116=>209 | 117=>210 | 119=>261 | 124=>213 | 138=>263 | 139=>264 |n=>n,λ | 3=>5 | 4=>6 |n=>n⟩
theorem Tryz.lays162:Go.Proofs.Lays.n162 bW Tryz.lays162_ren:={
 mixed:=by kernel_rfl
 f119:=Tryz.func242.trans (congrArg some (by kernel_rfl))
 f120:=Tryz.func228.trans (congrArg some (by kernel_rfl))
 f137:=Tryz.func241.trans (congrArg some (by kernel_rfl))
 f151:=Tryz.func205.trans (congrArg some (by kernel_rfl))
 f152:=Tryz.func230.trans (congrArg some (by kernel_rfl))
 f162:=Tryz.func156.trans (congrArg some (by kernel_rfl))
 f197:=Tryz.func229.trans (congrArg some (by kernel_rfl))
 f217:=Tryz.func250.trans (congrArg some (by kernel_rfl))
 f224:=Tryz.func243.trans (congrArg some (by kernel_rfl))
 f225:=Tryz.func244.trans (congrArg some (by kernel_rfl))
 f227:=Tryz.func176.trans (congrArg some (by kernel_rfl))
 f228:=Tryz.func203.trans (congrArg some (by kernel_rfl))
 f232:=Tryz.func175.trans (congrArg some (by kernel_rfl))
 f234:=Tryz.func177.trans (congrArg some (by kernel_rfl))
 f236:=Tryz.func178.trans (congrArg some (by kernel_rfl))
 f260:=Tryz.func240.trans (congrArg some (by kernel_rfl))
 f266:=Tryz.func253.trans (congrArg some (by kernel_rfl))
 f271:=Tryz.func204.trans (congrArg some (by kernel_rfl))
 t0:=Tryz.underlying0
 a0:=Tryz.isAgg0
 z0:=Tryz.sizeOf0
 v0:=Tryz.zeroValue0
 t3:=Tryz.underlying3
 a3:=Tryz.isAgg3
 z3:=Tryz.sizeOf3
 v3:=Tryz.zeroValue3
 t4:=Tryz.underlying4
 a4:=Tryz.isAgg4
 z4:=Tryz.sizeOf4
 v4:=Tryz.zeroValue4
 t5:=aB3
 a5:=Tryz.isAgg5
 z5:=Tryz.sizeOf5
 v5:=Tryz.zeroValue5
 t9:=aAw
 a9:=Tryz.isAgg9
 z9:=Tryz.sizeOf9
 v9:=Tryz.zeroValue9
 t21:=Tryz.underlying21
 a21:=Tryz.isAgg21
 z21:=Tryz.sizeOf21
 v21:=Tryz.zeroValue21
 t46:=Tryz.underlying225
 a46:=Tryz.isAgg225
 z46:=Tryz.sizeOf225
 v46:=Tryz.zeroValue225
 t105:=Tryz.underlying233
 a105:=Tryz.isAgg233
 z105:=Tryz.sizeOf233
 v105:=Tryz.zeroValue233
 t116:=Tryz.underlying209
 a116:=Tryz.isAgg209
 z116:=Tryz.sizeOf209
 t117:=Tryz.underlying210
 a117:=Tryz.isAgg210
 z117:=Tryz.sizeOf210
 v117:=Tryz.zeroValue210
 t119:=Tryz.underlying261
 a119:=Tryz.isAgg261
 z119:=Tryz.sizeOf261
 t124:=Tryz.underlying213
 a124:=Tryz.isAgg213
 z124:=Tryz.sizeOf213
 v124:=Tryz.zeroValue213
 t138:=Tryz.underlying263
 a138:=Tryz.isAgg263
 z138:=Tryz.sizeOf263
 v138:=Tryz.zeroValue263
 t139:=Tryz.underlying264
 a139:=Tryz.isAgg264
 z139:=Tryz.sizeOf264
 v139:=Tryz.zeroValue264
 g3:=by kernel_rfl
 g4:=by kernel_rfl
}
theorem Tryz.bX72:Go.Proofs.Builder.X72 bW Tryz.lays240_ren:={ sizeBuilder:=by kernel_rfl,liesBuilder:=by kernel_rfl }
end Go.Proofs.YtefphimaggjihaaGreatDoor
namespace Go.Proofs.YtefphimaggjihaaGreatDoor.Pi
open Go.Shelf Go.RowKit Go.Gv
theorem alC{E:Env}:∀{vs us:List Value},pre E (vs.map .x) us->us.take vs.length=vs
 | [],us,_=>by simp
 |v::vs,us,h=>by
  obtain⟨u,us',rfl,h1,h2⟩:=bE.1 h;rw[bI.1 h1,anE,List.take_succ_cons,alC h2]
theorem apf {w : World} {A : Nat -> Prop} (hg : vC ⟨w, A, λ _ => none⟩) : aDN bW w "internal/strconv.uint64pow10" .u64 aAx := by
 have hk:known 2=some ((aAx.map λ z=>Value.int .u64 z).map .x):=by kernel_rfl
 obtain⟨h1,h2⟩:=hg 2 _ hk;have h1:bN _ _ _:=h1;rw[bN]at h1;obtain⟨b,o,cs,e,fz,hp,_,hb,hpre⟩:=h1;simp only[Value.pointer.injEq,jN,Addr.mk.injEq]at hp;obtain⟨rfl,ho,_⟩:=hp;have hpre:pre _ ((aAx.map λ z=>Value.int .u64 z).map .x) (cs.toList.drop o):=hpre;have ho':o=0:=by omega
 subst ho';have hsz:=h2 cs e fz hb;have ht:=alC hpre;rw[List.drop_zero]at ht
 have hlen:(aAx.map λ z=>Value.int .u64 z).length=cs.toList.length:=by
  rw[aAL]at hsz;exact(azZ.trans hsz).symm
 rw[hlen,aB4]at ht;unfold aDN World.var?
 rw [show bW.globalNamed "internal/strconv.uint64pow10" = some 2 by kernel_rfl]
 simp only[Option.bind_some,hb];rw[<-ht]
theorem abe{n:Int}(h0:-9223372036854775808<=n)(h1:n<=9223372036854775807):aj bW 129 [iA n] (zA (lB (ala n))):=by
 refine⟨⟨_,Tryz.func129,by kernel_rfl,by kernel_rfl⟩,λ A w aZ _ hr hg=>?_⟩;have e:=XI (vs:=[.int .i64 n]) hr;have e2:aZ=#[.int .i64 n]:=by apply azJ;simpa using e
 subst e2;refine(Any.strconv_Itoa Tryz.laysm171 n h0 h1 w (apf hg)).mono λ e w' ⟨h2,k,os,h3⟩=>⟨_,h2,bI.2 rfl,?_⟩;subst h3;have hb:(w.drewN k).heap=w.heap:=by simp
 exact⟨rfl,rfl,rfl,by simp[Go.Sort.grow],λ i hi=>by simp only[Go.Sort.grow,hb,Array.getElem?_append,hi,if_true]⟩
theorem WI(s:ByteArray)(hs:s.size<=9223372036854775807):aj bW 156 [zA s,zA ⟨#[48]⟩] (zA (lB (ayI (bL s) 48))) :=
 Gm Tryz.func156 (by kernel_rfl) (by kernel_rfl) [.string s,.string ⟨#[48]⟩] (v:=.string (lB (ayI (bL s) 48))) (λ E=>bI.2 rfl) λ w=>(Any.strings_TrimRight_one Tryz.lays162 s 48 (by decide) w hs).mono λ e w' ⟨h1,h2⟩=>⟨h1,by rw[h2];exact Below.refl _ _⟩
theorem apg:liesAt bW bW.depth 82 (4 / bW.cellsOf 82) 0 80 1=true:=by kernel_rfl
set_option maxHeartbeats 1000000 in
set_option maxRecDepth 100000 in
theorem XJ(b:Nat)(w:World)(h0:w.cell? ⟨b,0,none⟩=some (.pointer none))(hsh:w.shape? b=some (82,4))(hfz:w.frozen? ⟨b,0,none⟩=false) :
  Calls bW 154 #[.pointer (some ⟨b,0,none⟩)] w λ e w'=>e=.returned (.tuple #[])/\w'=w.setCell ⟨b,0,none⟩ (.pointer (some ⟨b,0,none⟩)):=by
 have L:=Tryz.lays240;obtain⟨j,hj,hjs⟩:=Option.map_eq_some_iff.1 Tryz.bX72.sizeBuilder;have mixed:=L.mixed;have t72:=L.t72;have a72:=L.a72;have z72:=L.z72;have v72:=L.v72;have u72:=run_underlying L.t72;have t70:=L.t70;have a70:=L.a70;have z70:=L.z70;have v70:=L.v70;have u70:=run_underlying L.t70;have t9:=L.t9;have a9:=L.a9;have z9:=L.z9;have v9:=L.v9;have u9:=run_underlying L.t9;have t4:=L.t4;have a4:=L.a4;have z4:=L.z4;have v4:=L.v4;have u4:=run_underlying L.t4;have t164:=L.t164;have a164:=L.a164;have z164:=L.z164;have v164:=L.v164;have u164:=run_underlying L.t164
 go_enter L.f240,Body.n240_ntmps Tryz.lays240_ren
 go_wp2
 rw[Lib.run_to_unsafe w ⟨b,0,none⟩ L.t70 L.t164 hj (by rw[hjs];decide) hsh (Nat.zero_lt_succ 3)];simp only[Result.andThen];rw[Oper.upon_value]
 go_wp2
 rw[run_callFunc_extern L.f276 (by kernel_rfl) (by kernel_rfl) (by kernel_rfl) (e:=Extern.AbiNoEscape.same) (by kernel_rfl)];rw[Lib.run_noEscape];simp only[Result.andThen];rw[Oper.upon_value]
 go_wp2
 rw[Lib.run_from_unsafe w ⟨b,0,none⟩ L.t164 L.t70 hj hsh apg];simp only[Result.andThen];rw[Oper.upon_value]
 go_wp2
 go_end0
 exact⟨rfl,rfl⟩
theorem T9{w:World}{b:Nat}{p v c d u:Value}{T:TypeId}(h:w.heap[b]?=some (.cells #[p,v,c,d] T (0,0))):w.setCell ⟨b,0,none⟩ u=w.setRow b #[u,v,c,d]:=by
 have hlt:b<w.heap.size:=(ayR.1 h).1;have hv:w.heap[b]=.cells #[p,v,c,d] T (0,0):=(ayR.1 h).2;unfold World.setCell World.setRow;congr 1;apply Array.ext_getElem?;intro i;simp only[Array.getElem?_modify];by_cases hi:b=i
 .subst hi
  rw[if_pos rfl,if_pos rfl,h];rfl
 .rw[if_neg hi,if_neg hi]
theorem auE{mem:List Row}{k:Nat}{P0 Bv C D:AV}(hk:mem[k]?=some (.t 82 [P0,Bv,C,D]))(hP:P0=.x (.pointer none)\/P0=.own k 0):bP bW 154 [.own k 0] mem (.aN []) (mem.set k (.t 82 [.own k 0,Bv,C,D])):=by
 refine⟨⟨_,Tryz.func154,by kernel_rfl,by kernel_rfl⟩,λ A0 R w0 E aZ hW hgl hr=>?_⟩;obtain⟨u0,t0,e0,r0,hr⟩:=aH.1 hr;have e1:=bK.1 hr;subst e1;obtain⟨b,c,hO,rfl⟩:=jh.1 r0;have ec:aZ=#[.pointer (some ⟨b,0,none⟩)]:=by apply azJ;simpa using e0
 subst ec;obtain⟨row,hrow,hrel⟩:=hW.rows k b c hO;rw[hk]at hrow;cases hrow;obtain⟨cs,hcs,hpre,hsz⟩:=hrel;obtain⟨p,us,e2,rp,hpre⟩:=bE.1 hpre;obtain⟨v,us1,e3,rv,hpre⟩:=bE.1 hpre;obtain⟨x,us2,e4,rx,hpre⟩:=bE.1 hpre;obtain⟨y,us3,e5,ry,_⟩:=bE.1 hpre
 have hus:us3=[]:=by
  have:=congrArg aDM e2;rw[e3,e4,e5]at this;simp only[azZ,anE,hsz]at this;exact List.eq_nil_of_length_eq_zero (by simpa using this.symm)
 subst hus e5 e4 e3;have hcs2:cs=#[p,v,x,y]:=by apply azJ;simpa using e2
 subst hcs2;rcases hP with rfl |rfl
 .have ep:=bI.1 rp
  subst ep;refine(XJ b E.w (by simp[World.cell?,hcs]) (by simp[World.shape?,hcs]) (by simp[World.frozen?,hcs])).mono λ e w' ⟨h1,h2⟩=>?_;subst h2;rw[T9 hcs]
  have hnk:E.O mem.length=none:=by
   cases hn:E.O mem.length with
   |none=>rfl
   |some q =>
    obtain⟨r,g1,_⟩:=hW.rows mem.length q.1 q.2 hn;simp at g1
  have happ:jk E mem (mem.set k (.t 82 [.own k 0,Bv,C,D])) mem.length ⟨.any,[],some (k,.t 82 [.own k 0,Bv,C,D]),none⟩:=by
   refine⟨λ j _ b' c' hj=>?_,λ row h=>by cases h⟩;simp only;by_cases hjk:j=k
   .subst hjk
    rw[if_pos rfl,azq (aj8.1 hk).1]
   .rw[if_neg hjk,ay9 (λ h=>hjk h.symm)]
  have hle:E.le (E.row (E.w.setRow b #[.pointer (some ⟨b,0,none⟩),v,x,y]) k b c):=Env.kN ⟨rfl,rfl,rfl,by simp[World.setRow],λ j _ hj=>setRow_other _ _ _ _ (λ e=>hj (by rw[e]))⟩ (ER (hW.own k b c hO (by unfold aK;rw[hk];rfl)).1) (aaH hO);obtain⟨g1,g2⟩:=hW.written hnk happ hO hk rfl #[.pointer (some ⟨b,0,none⟩),v,x,y] ⟨_,setRow_heap E.w b _ _ _ (0,0) hcs,bE.2 ⟨_,_,rfl,jh.2 ⟨b,c,by simp[Env.row],rfl⟩,bE.2 ⟨_,_,rfl,mM hle rv,bE.2 ⟨_,_,rfl,mM hle rx,bE.2 ⟨_,_,rfl,mM hle ry,pre_nil⟩⟩⟩⟩,rfl⟩;exact⟨_,_,h1,rfl,g1,g2,nI.2 ⟨_,rfl,bK.2 rfl⟩⟩
 .obtain⟨b',c',hO',rfl⟩:=jh.1 rp
  rw[hO]at hO';cases hO';refine(Any.Builder_copyCheck_used Tryz.lays240 Tryz.bX72 b E.w (by simp[World.cell?,hcs])).mono λ e w' ⟨h1,h2⟩=>?_;subst h2
  have hm:mem.set k (.t 82 [.own k 0,Bv,C,D])=mem:=by
   apply List.ext_getElem?;intro j;by_cases hjk:j=k
   .subst hjk
    rw[azq (aj8.1 hk).1,hk]
   .rw[ay9 (λ h=>hjk h.symm)]
  rw[hm];exact⟨_,E,h1,rfl,Env.le.refl E,hW,nI.2 ⟨_,rfl,bK.2 rfl⟩⟩
def cA(c:Int):AV:=.x (.int .i32 c)
def dgB(c:Int):Bool:=cond (decide (48<=c)) (decide (c<=57)) false
def ltB(c:Int):Bool:=cond (cond (cond (decide (97<=c)) (decide (c<=122)) false) true (cond (cond (decide (223<=c)) (decide (c<=255)) false) (!(c==247)) false)) true (cond (decide (945<=c)) (decide (c<=969)) false)
def iwB(c:Int):Bool:=cond (cond (cond (ltB c) true (dgB c)) true (c==46)) true (c==45)
def btB(c:Int):Bool:=cond (cond (c==32) true (c==9)) true (c==10)
section
variable(c:Int)
theorem avn:ev bW [] [] aM Tryz.f116 [cA c] ret=some (Out.of (bA (dgB c))):=by kernel_rfl
theorem avo:ev bW [] [] aM Tryz.f115 [cA c] ret=some (Out.of (bA (ltB c))):=by kernel_rfl
theorem avp:ev bW [] [] aM Tryz.f71 [cA c] ret=some (Out.of (bA (btB c))):=by kernel_rfl
theorem ard(n:Int):ev bW [] [] aM Tryz.f172 [iA n] ret=some (Out.of (bA (cond (decide (n< -1000000)) true (decide (1000000<n))))):=by kernel_rfl
end
theorem Oj(c:Int):aj bW 116 [cA c] (bA (dgB c)):=aP aB av Tryz.func116 (by kernel_rfl) (by kernel_rfl) aA rfl (avn c)
theorem YQ(c:Int):aj bW 115 [cA c] (bA (ltB c)):=aP aB av Tryz.func115 (by kernel_rfl) (by kernel_rfl) aA rfl (avo c)
theorem O6(c:Int):aj bW 71 [cA c] (bA (btB c)):=aP aB av Tryz.func71 (by kernel_rfl) (by kernel_rfl) aA rfl (avp c)
def byB(n:Int):Bool:=cond (decide (n< -1000000)) true (decide (1000000<n))
theorem ZL(n:Int):aj bW 172 [iA n] (bA (byB n)):=aP aB av Tryz.func172 (by kernel_rfl) (by kernel_rfl) aA rfl (ard n)
def gC(f:Int->Bool):List AV->AV
 | [.x (.int _ c)]=>bA (f c)
 |_=>.any
theorem avq(c:Int)(f g:Int->Bool):ev bW [] [kS bW 115 (gC f),kS bW 116 (gC g)] aM Tryz.f70 [cA c] ret=gate (aj bW 115 [cA c] (bA (f c))) (gate (aj bW 116 [cA c] (bA (g c))) (some (Out.of (bA (cond (cond (cond (f c) true (g c)) true (c==46)) true (c==45)))))):=by kernel_rfl
theorem Ea(c:Int):aj bW 70 [cA c] (bA (iwB c)) :=
 aP aB (ak aD (ak aD av)) Tryz.func70 (by kernel_rfl) (by kernel_rfl) aA rfl ((avq c ltB dgB).trans (by rw[ah (YQ c),ah (Oj c)];rfl))
def dS(s:ByteArray)(p:Nat)(e:Bool)(n:Int):St:=mkS 32 [(4,iA n),(18,.own 0 0)] [.i s p e]
noncomputable def CW(s:ByteArray)(p:Nat):Int:=((dcX s p).1:Nat)
noncomputable def yO(s:ByteArray)(p:Nat):Nat:=p+(dcX s p).2
section
variable(s:ByteArray)(p:Nat)(n most:Int)
theorem avr:gD bW [] [kS bW 116 (λ _=>bA true)] aM (au aCF 0) (dS s p false n) (fu [4,18] [some 0])=gate (aj bW 116 [cA (CW s p)] (bA true)) (some ⟨.normal,dS s (yO s p) (aqE s.size (yO s p)) (aI (aI (10*n)+aI (IntKind.i32.wrap (CW s p - 48)))),.any⟩):=by kernel_rfl
theorem arf:gD bW [] [] aM (au aCF 0) (dS s p true n) (gM [4,18] [some 0])=some ⟨.exit 0,dS s p true n,.any⟩:=by kernel_rfl
end
theorem aaA{s:ByteArray}{p:Nat}(h:p<s.size)(hb:((bL s).getD p 0).toNat<128):CW s p=(((bL s).getD p 0).toNat:Int)/\yO s p=p+1:=by
 have e:s[p]'h=(bL s).getD p 0:=by
  have h':p<s.data.size:=h;show s.data[p]'h'=_;unfold bL;rw[amh,adv (by simpa using h')];simp
 unfold CW yO;rw[VZ,decode_ascii s p h (by rw[e];exact hb),e];exact⟨rfl,rfl⟩
def dv(n:Int)(b:UInt8):Int:=10*n+((b.toNat:Int) - 48)
def qF(l:List UInt8):Int:=l.foldl dv 0
def YO(l:List UInt8):Prop:=∀b,b∈l->48<=b.toNat/\b.toNat<=57
theorem TY(l:List UInt8)(b:UInt8):qF (l++[b])=dv (qF l) b:=by unfold qF;rw[List.foldl_append];rfl
theorem UM:∀(l:List UInt8) (n:Int),0<=n->YO l->0<=l.foldl dv n/\l.foldl dv n<(n+1)*10 ^ l.length
 | [],n,h0,_=>⟨h0,by simp;omega⟩
 |b::l,n,h0,h=>by
  obtain⟨h3,h4⟩:=h b (by simp);have hn:0<=dv n b:=by unfold dv;omega
  obtain⟨h1,h2⟩:=UM l (dv n b) hn λ x hx=>h x (by simp[hx]);refine⟨h1,Int.lt_of_lt_of_le h2 ?_⟩;rw[anE,Int.pow_succ,Int.mul_comm (10 ^ l.length) 10,<-aCg];exact Int.mul_le_mul_of_nonneg_right (by unfold dv;omega) (Int.pow_nonneg (by decide))
theorem Oi(l:List UInt8)(h:YO l):0<=qF l/\qF l<10 ^ l.length:=by
 have:=UM l 0 (Int.le_refl _) h;rw[Int.zero_add,Int.one_mul]at this;exact this
theorem acv{l:List UInt8}{j:Nat}(h:j<l.length):l.take (j+1)=l.take j++[l.getD j 0]:=by
 rw[aDt,amh,adv h];rfl
theorem aht{l:List UInt8}{j:Nat}(h:j<l.length):l.getD j 0∈l:=by
 rw[amh,adv h];exact azH h
theorem akR:∀n:Fin 10,(10:Int) ^ n.val<=1000000000:=by decide
theorem U9{n:Nat}(h:n<=9):(10:Int) ^ n<=1000000000:=akR ⟨n,by omega⟩
theorem axQ{b:UInt8}(h:48<=b.toNat/\b.toNat<=57):dgB (b.toNat:Int)=true:=by
 unfold dgB;rw[decide_eq_true (by omega),decide_eq_true (by omega)];rfl
theorem axS{n:Int}(h0:-1000<=n)(h1:n<=1000):IntKind.i32.wrap n=n:=by
 rw[IntKind.wrap_i32];omega
def dgF(s:ByteArray)(j:Nat):St:=dS s j (aqE s.size j) (qF ((bL s).take j))
theorem acw{s:ByteArray}(h9:s.size<=9)(hd:YO (bL s)):bF bW (.loop (au aCF 0)) (dS s 0 (aqE s.size 0) 0) (.exit 0) (dS s s.size true (qF (bL s))):=by
 have hlen:(bL s).length=s.size:=(aar s).symm;refine aU (dgF s) s.size (.exit 0) _ (by simp) (λ j hj=>?_) ?_
 .have hm:=hd _ (aht (l:=bL s) (j:=j) (by omega))
  obtain⟨e1,e2⟩:=aaA hj (by omega);have hv:=Oi ((bL s).take j) λ b hb=>hd b (List.mem_of_mem_take hb);have hl:=U9 (n:=((bL s).take j).length) (by rw[ayM];omega)
  have hb:aqE s.size j=false:=by
   cases h:aqE s.size j
   .rfl
   .exact absurd (Sr h) (by omega)
  show bF _ _ (dS s j (aqE s.size j) (qF ((bL s).take j))) _ (dS s (j+1) (aqE s.size (j+1)) (qF ((bL s).take (j+1))));rw[hb];refine aF (aT _ _) aB (ak aD av) aA ((avr s j _).trans ?_);rw[e1,e2];rw[ah (by have:=Oj ((((bL s).getD j 0).toNat:Nat):Int);rw[axQ hm]at this;exact this),axS (by omega) (by omega),aO (n:=10*_) (by omega) (by omega),aO (n:=_ - 48) (by omega) (by omega),aO (by omega) (by omega),acv (by omega),TY];rfl
 .show bF _ _ (dS s s.size (aqE s.size s.size) (qF ((bL s).take s.size))) _ _
  rw[ah4 (ao5 _),show(bL s).take s.size=bL s by rw[<-hlen];exact aB4];exact aF (bU _ _) aB av aA (arf s s.size _)
theorem avs(s:ByteArray)(most v:Int):ev bW [] [] (gu 4 (fE [4,18] [some 0] (dS s 0 (aqE s.size 0) 0) (.exit 0) (dS s s.size true v))) aCF [zA s,iA most] ret =
  cond (cond (decide ((s.size:Int)<1)) true (decide (most<(s.size:Int)))) (some (Out.of (.aN [iA 0,bA false]))) (gate (Sub (dS s 0 (aqE s.size 0) 0) (dS s 0 (aqE s.size 0) 0)) (some (Out.of (.aN [iA v,bA true])))):=by kernel_rfl
theorem Gn{s:ByteArray}{most:Int}(h1:1<=s.size)(h9:s.size<=9)(hm:(s.size:Int)<=most)(hd:YO (bL s)):aj bW 249 [zA s,iA most] (.aN [iA (qF (bL s)),bA true]):=by
 refine aP aB av Tryz.func249 (by kernel_rfl) (by kernel_rfl) (kT (i:=4) 1 (by kernel_rfl) λ j hj _=>?_) rfl ((avs s most (qF (bL s))).trans ?_)
 .have:j=0:=by omega
  subst this;exact aR (acw h9 hd)
 .rw[decide_eq_false (by omega),decide_eq_false (by omega),ah (Sub.refl _)]
  rfl
end Go.Proofs.YtefphimaggjihaaGreatDoor.Pi
namespace Go.Proofs.YtefphimaggjihaaGreatDoor
open Go.Shelf
def Tryz.lays217_ren:aBw:=⟨λ | 217=>250 | 266=>253 |n=>n,λ | 3=>3 | 5=>5 | 9=>9 |n=>n,λ  |n=>n⟩
theorem Tryz.lays217:Go.Proofs.Lays.n217 bW Tryz.lays217_ren:={
 mixed:=by kernel_rfl
 f217:=Tryz.func250.trans (congrArg some (by kernel_rfl))
 f266:=Tryz.func253.trans (congrArg some (by kernel_rfl))
 t3:=Tryz.underlying3
 a3:=Tryz.isAgg3
 z3:=Tryz.sizeOf3
 v3:=Tryz.zeroValue3
 t5:=aB3
 a5:=Tryz.isAgg5
 z5:=Tryz.sizeOf5
 v5:=Tryz.zeroValue5
 t9:=aAw
 a9:=Tryz.isAgg9
 z9:=Tryz.sizeOf9
 v9:=Tryz.zeroValue9
}
end Go.Proofs.YtefphimaggjihaaGreatDoor
namespace Go.Proofs.YtefphimaggjihaaGreatDoor.Pi
open Go.Shelf Go.RowKit Go.Gv
def Runs(c:Code)(s:St)(e:Exit)(sf:St):Prop:=∃(S:Nat->St) (n:Nat),S 0=s/\(∀j,j<n->bF bW c (S j) .normal (S (j+1)))/\bF bW c (S n) e sf
theorem Runs.last{c:Code}{s sf:St}{e:Exit}(h:bF bW c s e sf):Runs c s e sf:=⟨λ _=>s,0,rfl,λ j hj=>absurd hj (azu j),h⟩
theorem Runs.cons{c:Code}{s s1 sf:St}{e:Exit}(h:bF bW c s .normal s1)(g:Runs c s1 e sf):Runs c s e sf:=by
 obtain⟨S,n,h0,h1,h2⟩:=g;refine⟨λ j=>match j with | 0=>s |j+1=>S j,n+1,rfl,λ j hj=>?_,h2⟩
 cases j with
 |zero=>show bF bW c s .normal (S 0);rw[h0];exact h
 |succ j=>exact h1 j (by omega)
theorem Runs.loop{c:Code}{s sf:St}{e:Exit}(he:e≠.normal)(h:Runs c s e sf):bF bW (.loop c) s e sf:=by
 obtain⟨S,n,rfl,h1,h2⟩:=h;exact aU S n e sf he h1 h2
def mB:ByteArray:=⟨#[45]⟩
def pB:ByteArray:=⟨#[46]⟩
def eB:ByteArray:=⟨#[]⟩
section
variable(s:ByteArray)(most n1 n2:Int)(ix:Int)(b1 b2 neg pt:Bool)(r a b:ByteArray)(x y z:UInt8)(p:Nat)
def hpB:Bool:=cond (decide ((1:Int)<=(s.size:Int))) ((s.extract 0 1).toList==mB.toList) false
theorem arx:ev bW [] [] aM Tryz.f254 [zA s,zA mB] ret=cond (Bh none (some 1) none s.size||!(decide (decide ((1:Int)<=(s.size:Int))=true)&&true)) (some (Out.of (bA (hpB s)))) none:=by kernel_rfl
theorem arz:ev bW [] [kS bW 254 (λ _=>bA neg)] aM Tryz.f251 [zA s,zA mB] ret=gate (aj bW 254 [zA s,zA mB] (bA neg)) (cond (!neg) (some (Out.of (.aN [zA s,bA false]))) (cond (Bh (some 1) none none s.size||false) (some (Out.of (.aN [zA (s.extract 1 s.size),bA true]))) none)):=by kernel_rfl
theorem arA:ev bW [] [kS bW 251 (λ _=>.aN [zA r,bA neg])] aM Tryz.f246 [zA s,zA mB] ret=gate (aj bW 251 [zA s,zA mB] (.aN [zA r,bA neg])) (some (Out.of (.aN [zA r,bA neg]))):=by kernel_rfl
theorem arC:ev bW [] [kS bW 250 (λ _=>iA ix)] aM Tryz.f255 [zA s,zA pB] ret=cond (pB.toList==s.toList) (some (Out.of (iA 0))) (gate (aj bW 250 [zA s,.x (.int .u8 46)] (iA ix)) (some (Out.of (iA ix)))):=by kernel_rfl
theorem akU:ev bW [] [kS bW 255 (λ _=>iA ix)] aM Tryz.f252 [zA s,zA pB] ret=gate (aj bW 255 [zA s,zA pB] (iA ix)) (cond (decide (0<=ix)) (cond ((Bh none (some ix) none s.size||false)&&((Bh (some (aI (ix+1))) none none s.size||false)&&true)) (some (Out.of (.aN [zA (s.extract 0 ix.toNat),zA (s.extract (aI (ix+1)).toNat s.size),bA true]))) none) (some (Out.of (.aN [zA s,zA eB,bA false])))):=by kernel_rfl
theorem arD:ev bW [] [kS bW 252 (λ _=>.aN [zA a,zA b,bA pt])] aM Tryz.f247 [zA s,zA pB] ret=gate (aj bW 252 [zA s,zA pB] (.aN [zA a,zA b,bA pt])) (some (Out.of (.aN [zA a,zA b,bA pt]))):=by kernel_rfl
theorem arF:ev bW [] [kS bW 249 (λ _=>.aN [iA n1,bA b1])] aM Tryz.f248 [zA s] ret=cond ((decide ((0:Int)<=0)&&decide ((0:Int)<(s.size:Int)))||!(decide (decide ((1:Int)<(s.size:Int))=true)&&true)) (cond (cond (decide ((1:Int)<(s.size:Int))) (sAt s 0==48) false) (some (Out.of (.aN [iA 0,bA false]))) (gate (aj bW 249 [zA s,iA 9] (.aN [iA n1,bA b1])) (some (Out.of (.aN [iA n1,bA b1]))))) none:=by kernel_rfl
noncomputable def nuK:List aV:=[kS bW 246 (λ _=>.aN [zA r,bA neg]),kS bW 247 (λ _=>.aN [zA a,zA b,bA pt]),kS bW 248 (λ _=>.aN [iA n1,bA true]),kS bW 249 (λ _=>.aN [iA n2,bA true])]
noncomputable def nuG(x:Option Out):Option Out:=gate (aj bW 246 [zA s,zA mB] (.aN [zA r,bA neg])) (gate (aj bW 247 [zA r,zA pB] (.aN [zA a,zA b,bA pt])) (gate (aj bW 248 [zA a] (.aN [iA n1,bA true])) x))
noncomputable def nuD(x:Option Out):Option Out:=gate (aj bW 249 [zA b,iA 3] (.aN [iA n2,bA true])) x
def ngO(n:Int):Option Out:=cond neg (some (Out.of (.aN [iA (aI (0 - n)),bA true]))) (some (Out.of (.aN [iA n,bA true])))
theorem al8:ev bW [] (nuK n1 n2 neg false r a b) aM aCG [zA s] ret=nuG s n1 neg false r a b (ngO neg (aI (n1*1000))):=by kernel_rfl
theorem al9:ev bW [] (nuK n1 n2 neg true r a (lB [x,y,z])) aM aCG [zA s] ret=nuG s n1 neg true r a (lB [x,y,z]) (nuD n2 (lB [x,y,z]) (ngO neg (aI (aI (n1*1000)+n2)))):=by kernel_rfl
theorem ama:ev bW [] (nuK n1 n2 neg true r a (lB [x,y])) aM aCG [zA s] ret=nuG s n1 neg true r a (lB [x,y]) (nuD n2 (lB [x,y]) (ngO neg (aI (aI (n1*1000)+aI (n2*10))))):=by kernel_rfl
theorem amb:ev bW [] (nuK n1 n2 neg true r a (lB [x])) aM aCG [zA s] ret=nuG s n1 neg true r a (lB [x]) (nuD n2 (lB [x]) (ngO neg (aI (aI (n1*1000)+aI (aI (n2*10)*10))))):=by kernel_rfl
theorem amc:ev bW [] (nuK n1 n2 false pt r a b) aM Tryz.f245 [zA s] ret=gate (aj bW 246 [zA s,zA mB] (.aN [zA r,bA false])) (gate (aj bW 248 [zA r] (.aN [iA n1,bA true])) (some (Out.of (.aN [iA n1,bA true])))):=by kernel_rfl
def nmS(p:Nat)(e:Bool)(n:Int):St:=mkS 31 [(3,iA n),(7,.own 0 0)] [.i s p e]
def nlB(c n:Int):Bool:=cond (!(ltB c)) (cond (n==0) true (!(dgB c))) false
theorem arG(n:Int):gD bW [] [kS bW 115 (gC ltB),kS bW 116 (gC dgB)] aM (au aCH 0) (nmS s p false n) (fu [3,7] [some 0])=gate (aj bW 115 [cA (CW s p)] (bA (ltB (CW s p)))) (gate (aj bW 116 [cA (CW s p)] (bA (dgB (CW s p)))) (cond (nlB (CW s p) n) none (some ⟨.normal,nmS s (yO s p) (aqE s.size (yO s p)) (aI (n+1)),.any⟩))):=by kernel_rfl
theorem amd(n:Int):gD bW [] [] aM (au aCH 0) (nmS s p true n) (gM [3,7] [some 0])=some ⟨.exit 0,nmS s p true n,.any⟩:=by kernel_rfl
theorem arH(n:Int)(q:Nat):ev bW [] [] (gu 3 (fE [3,7] [some 0] (nmS s 0 (aqE s.size 0) 0) (.exit 0) (nmS s q true n))) aCH [zA s] ret=gate (Sub (nmS s 0 (aqE s.size 0) 0) (nmS s 0 (aqE s.size 0) 0)) (some (Out.of (bA (cond (decide (1<=n)) (decide (n<=12)) false)))):=by kernel_rfl
end
theorem avD:bL mB=[45]:=rfl
theorem avE:bL pB=[46]:=rfl
theorem ahJ(s:ByteArray):aj bW 254 [zA s,zA mB] (bA (hpB s)):=by
 refine aP aB av Tryz.func254 (by kernel_rfl) (by kernel_rfl) aA rfl ((arx s).trans ?_)
 have:(Bh none (some 1) none s.size||!(decide (decide ((1:Int)<=(s.size:Int))=true)&&true))=true:=by
  by_cases h:(1:Int)<=(s.size:Int)
  .unfold Bh
   simp[h]
  .simp[h]
 rw[this];rfl
theorem aaK{s r:ByteArray}{neg:Bool}(h:hpB s=neg)(h1:neg=true->1<=s.size/\s.extract 1 s.size=r)(h2:neg=false->r=s):aj bW 246 [zA s,zA mB] (.aN [zA r,bA neg]):=by
 have k1:aj bW 251 [zA s,zA mB] (.aN [zA r,bA neg]):=by
  refine aP aB (ak aD av) Tryz.func251 (by kernel_rfl) (by kernel_rfl) aA rfl ((arz s neg).trans ?_);rw[ah (by rw[<-h];exact ahJ s)];cases neg with
  |false=>rw[h2 rfl];rfl
  |true =>
   obtain⟨h3,h4⟩:=h1 rfl
   have:(Bh (some 1) none none s.size||false)=true:=by
    unfold Bh;simp;omega
   rw[this,h4];rfl
 exact aP aB (ak aD av) Tryz.func246 (by kernel_rfl) (by kernel_rfl) aA rfl ((arA s neg r).trans (ah k1))
def sg(neg:Bool)(l:List UInt8):List UInt8:=if neg then 45::l else l
theorem acJ{neg:Bool}{l:List UInt8}(h:l.head?≠some 45):aj bW 246 [zA (lB (sg neg l)),zA mB] (.aN [zA (lB l),bA neg]):=by
 refine aaK ?_ (λ e=>?_) λ e=>by rw[e];rfl
 .unfold hpB
  rw[sEq,oG,jr,avD,aY];cases neg with
  |true=>simp[sg];omega
  |false =>
   cases l with
   |nil=>simp[sg]
   |cons x r =>
    have hx:x≠45:=λ e=>h (by rw[e];rfl);simp[sg,hx]
 .rw[e]
  refine⟨by rw[aY];simp[sg],?_⟩;rw[<-Gl ((lB (sg true l)).extract 1 _),oG,jr,aY];simp[sg]
theorem YN:∀{l:List UInt8} {c:UInt8},c ∉ l->azo l c=-1
 | [],_,_=>rfl
 |b::l,c,h=>by
  have hb:(b==c)=false:=by
   rw[beq_eq_false_iff_ne];intro e;exact h (by rw[e];simp)
  unfold azo;rw[hb,YN (l:=l) λ hc=>h (by simp[hc])];rfl
theorem akV:∀{a:List UInt8} {b:List UInt8} {c:UInt8},c ∉ a->azo (a++c::b) c=(a.length:Int)
 | [],b,c,_=>by unfold azo;simp
 |x::a,b,c,h=>by
  have hb:(x==c)=false:=by
   rw[beq_eq_false_iff_ne];intro e;exact h (by rw[e];simp)
  have ih:=akV (a:=a) (b:=b) (c:=c) λ hc=>h (by simp[hc]);show azo (x::(a++c::b)) c=_;unfold azo;rw[hb,ih];have:((a.length:Int)==-1)=false:=by rw[beq_eq_false_iff_ne];omega
  rw[this];simp
theorem acK(s:ByteArray):aj bW 250 [zA s,.x (.int .u8 46)] (iA (azo (bL s) 46)) :=
 Gm Tryz.func250 (by kernel_rfl) (by kernel_rfl) [.string s,.int .u8 46] (v:=.int .i64 (azo (bL s) 46)) (λ E=>bI.2 rfl) λ w=>(Any.stringslite_IndexByte Tryz.lays217 s 46 w).mono λ e w' ⟨h1,h2⟩=>⟨h1,by rw[h2];exact Below.refl _ _⟩
theorem index_spec{s:ByteArray}(h:bL s≠[46]):aj bW 255 [zA s,zA pB] (iA (azo (bL s) 46)):=by
 refine aP aB (ak aD av) Tryz.func255 (by kernel_rfl) (by kernel_rfl) aA rfl ((arC s (azo (bL s) 46)).trans ?_);rw[sEq,avE,decide_eq_false (λ e=>h e.symm),ah (acK s)];rfl
theorem acL{s a b:ByteArray}{pt:Bool}(h:aj bW 252 [zA s,zA pB] (.aN [zA a,zA b,bA pt])):aj bW 247 [zA s,zA pB] (.aN [zA a,zA b,bA pt]) :=
 aP aB (ak aD av) Tryz.func247 (by kernel_rfl) (by kernel_rfl) aA rfl ((arD s pt a b).trans (ah h))
theorem ame{l:List UInt8}(h:(46:UInt8) ∉ l):aj bW 247 [zA (lB l),zA pB] (.aN [zA (lB l),zA eB,bA false]):=by
 refine acL (aP aB (ak aD av) Tryz.func252 (by kernel_rfl) (by kernel_rfl) aA rfl ((akU (lB l) (-1)).trans ?_));rw[ah (by have:=index_spec (s:=lB l) (by rw[jr];rintro rfl;exact h (by simp));rw[jr,YN h]at this;exact this)];rfl
theorem U8{a b:List UInt8}(h0:a≠[])(h:(46:UInt8) ∉ a)(hl:a.length+b.length<1000):aj bW 247 [zA (lB (a++46::b)),zA pB] (.aN [zA (lB a),zA (lB b),bA true]):=by
 refine acL (aP aB (ak aD av) Tryz.func252 (by kernel_rfl) (by kernel_rfl) aA rfl ((akU (lB (a++46::b)) (a.length:Nat)).trans ?_))
 have hne:a++46::b≠[46]:=λ e=>by
  have:=congrArg aDM e;have:=aAa.2 h0;simp at *;omega
 rw[ah (by have:=index_spec (s:=lB (a++46::b)) (by rw[jr];exact hne);rw[jr,akV h]at this;exact this),decide_eq_true (by omega),aO (by omega) (by omega)];have hsz:(lB (a++46::b)).size=a.length+1+b.length:=by rw[aY,uI,anE];omega
 have c1:Bh none (some ((a.length:Nat):Int)) none (lB (a++46::b)).size=true:=by
  rw[hsz];unfold Bh;simp;omega
 have c2:Bh (some (((a.length:Nat):Int)+1)) none none (lB (a++46::b)).size=true:=by
  rw[hsz];unfold Bh;simp;omega
 have e1:(lB (a++46::b)).extract 0 ((a.length:Nat):Int).toNat=lB a:=by
  rw[<-Gl ((lB (a++46::b)).extract 0 _),oG,jr];simp
 have e2:(lB (a++46::b)).extract (((a.length:Nat):Int)+1).toNat (lB (a++46::b)).size=lB b:=by
  rw[<-Gl ((lB (a++46::b)).extract _ _),oG,jr,hsz,show(((a.length:Nat):Int)+1).toNat=a.length+1 by omega,List.take_of_length_le (by simp;omega),List.drop_append,List.drop_eq_nil_of_le (by omega)];simp
 rw[c1,c2,e1,e2];rfl
structure Pln(l:List UInt8):Prop where
 n:1<=l.length
 m:l.length<=9
 d:YO l
 z:1<l.length->l.head?≠some 48
theorem IV{l:List UInt8}(h:Pln l):aj bW 248 [zA (lB l)] (.aN [iA (qF l),bA true]):=by
 have hsz:=aY l;have hn:=h.n;have hm:=h.m;refine aP aB (ak aD av) Tryz.func248 (by kernel_rfl) (by kernel_rfl) aA rfl ((arF (lB l) (qF l) true).trans ?_);rw[ah (by have:=Gn (s:=lB l) (most:=9) (by omega) (by omega) (by omega) (by rw[jr];exact h.d);rw[jr]at this;exact this)]
 have c1:((decide ((0:Int)<=0)&&decide ((0:Int)<((lB l).size:Int)))||!(decide (decide ((1:Int)<((lB l).size:Int))=true)&&true))=true:=by
  rw[decide_eq_true (show(0:Int)<((lB l).size:Int) by omega)];rfl
 have c2:(cond (decide ((1:Int)<((lB l).size:Int))) (sAt (lB l) 0==48) false)=false:=by
  by_cases h1:1<l.length
  .rw[decide_eq_true (by omega),cond_true,amf,jr]
   have hz:=h.z h1;cases l with
   |nil=>simp at h1
   |cons x r =>
    have hx:x≠48:=λ e=>hz (by rw[e];rfl);rw[beq_eq_false_iff_ne];intro e;refine hx (UInt8.toNat_inj.1 ?_);simp at e;show x.toNat=48;omega
  .rw[decide_eq_false (by omega)]
   rfl
 rw[c1,c2];rfl
theorem IW{l:List UInt8}(h:YO l){c:UInt8}(hc:c.toNat<48):c ∉ l:=λ hm=>by
 have:=h c hm;omega
theorem IX{l:List UInt8}(h:YO l):l.head?≠some 45:=λ e=>IW h (c:=45) (by decide) (List.mem_of_mem_head? e)
def acM(neg:Bool)(a b:List UInt8):List UInt8:=sg neg (a++(if b=[]then []else 46::b))
def acN(neg:Bool)(a b:List UInt8):Int:=(if neg then -1 else 1)*(qF a*1000+qF b*(if b.length=1 then 100 else if b.length=2 then 10 else 1))
theorem Q0{neg:Bool}{a b:List UInt8}(ha:Pln a)(hb:YO b)(hl:b.length<=3):aj bW 234 [zA (lB (acM neg a b))] (.aN [iA (acN neg a b),bA true]):=by
 have hn:=ha.n;have hm:=ha.m;have va:=Oi a ha.d;have vb:=Oi b hb;have ta:=U9 hm;have tb:=U9 (n:=b.length) (by omega);have hne:a≠[]:=λ e=>by rw[e]at hn;simp at hn
 have hpl:=IV ha
 have hh:∀r,(a++r).head?≠some 45:=λ r=>by
  cases a with
  |nil=>exact absurd rfl hne
  |cons x t=>exact IX (l:=x::t) ha.d
 have fin:∀n:Int,0<=n->n<10000000000000->ngO neg n=some (Out.of (.aN [iA ((if neg then -1 else 1)*n),bA true])):=λ n h0 h1=>by
  unfold ngO;cases neg
  .simp
  .rw[aO (by omega) (by omega)]
   simp
 have dig:1<=b.length->aj bW 249 [zA (lB b),iA 3] (.aN [iA (qF b),bA true]):=λ h1=>by
  have:=Gn (s:=lB b) (most:=3) (by rw[aY];omega) (by rw[aY];omega) (by rw[aY];omega) (by rw[jr];exact hb);rw[jr]at this;exact this
 have kk:∀{n1 n2:Int} {pt:Bool} {r a b:ByteArray},∀e,e∈nuK n1 n2 neg pt r a b->tO bW e:=ak aD (ak aD (ak aD (ak aD av)))
 have hv:∀k:Int,1<=k->k<=100->0<=qF a*1000+qF b*k/\qF a*1000+qF b*k<10000000000000:=λ k k0 k1=>by
  have h1:qF b*k<=qF b*100:=Int.mul_le_mul_of_nonneg_left k1 vb.1;have h2:0<=qF b*k:=Int.mul_nonneg vb.1 (by omega);omega
 unfold acM acN;rcases b with _ | ⟨x,_ | ⟨y,_ | ⟨z,_ | ⟨w,r⟩⟩⟩⟩
 .rw[if_pos rfl,List.append_nil]
  refine aP aB kk Tryz.func234 (by kernel_rfl) (by kernel_rfl) aA rfl ((al8 (lB (sg neg a)) (qF a) 0 neg (lB a) (lB a) eB).trans ?_);unfold nuG;have h0:=hv 1 (by decide) (by decide);rw[ah (acJ (IX ha.d)),ah (ame (IW ha.d (by decide))),ah hpl,aO (by omega) (by omega),fin _ (by omega) (by omega)];simp[qF]
 .rw[if_neg (by simp)]
  refine aP aB kk Tryz.func234 (by kernel_rfl) (by kernel_rfl) aA rfl ((amb (lB (sg neg (a++46::[x]))) (qF a) (qF [x]) neg (lB (a++46::[x])) (lB a) x).trans ?_);unfold nuG nuD;have h0:=hv 100 (by decide) (by decide);rw[ah (acJ (hh _)),ah (U8 hne (IW ha.d (by decide)) (by simp;omega)),ah hpl,ah (dig (by simp)),aO (n:=qF a*1000) (by omega) (by omega),aO (n:=qF [x]*10) (by omega) (by omega),aO (n:=qF [x]*10*10) (by omega) (by omega),aO (by omega) (by omega),aCg,show(10:Int)*10=100 from rfl,fin _ (by omega) (by omega)];simp
 .rw[if_neg (by simp)]
  refine aP aB kk Tryz.func234 (by kernel_rfl) (by kernel_rfl) aA rfl ((ama (lB (sg neg (a++46::[x,y]))) (qF a) (qF [x,y]) neg (lB (a++46::[x,y])) (lB a) x y).trans ?_);unfold nuG nuD;have h0:=hv 10 (by decide) (by decide);rw[ah (acJ (hh _)),ah (U8 hne (IW ha.d (by decide)) (by simp;omega)),ah hpl,ah (dig (by simp)),aO (n:=qF a*1000) (by omega) (by omega),aO (n:=qF [x,y]*10) (by omega) (by omega),aO (by omega) (by omega),fin _ (by omega) (by omega)];simp
 .rw[if_neg (by simp)]
  refine aP aB kk Tryz.func234 (by kernel_rfl) (by kernel_rfl) aA rfl ((al9 (lB (sg neg (a++46::[x,y,z]))) (qF a) (qF [x,y,z]) neg (lB (a++46::[x,y,z])) (lB a) x y z).trans ?_);unfold nuG nuD;have h0:=hv 1 (by decide) (by decide);rw[ah (acJ (hh _)),ah (U8 hne (IW ha.d (by decide)) (by simp;omega)),ah hpl,ah (dig (by simp)),aO (n:=qF a*1000) (by omega) (by omega),aO (by omega) (by omega),fin _ (by omega) (by omega)];simp
 .simp at hl
theorem Va{a:List UInt8}(ha:Pln a):aj bW 245 [zA (lB a)] (.aN [iA (qF a),bA true]):=by
 refine aP aB (ak aD (ak aD (ak aD (ak aD av)))) Tryz.func245 (by kernel_rfl) (by kernel_rfl) aA rfl ((amc (lB a) (qF a) 0 false (lB a) (lB a) (lB a)).trans ?_);rw[ah (by have:=acJ (neg:=false) (IX ha.d);exact this),ah (IV ha)]
def Nms(s:ByteArray):Nat->Nat->Nat->Prop
 |p,_,0=>s.size<=p
 |p,n,k+1=>p<s.size/\nlB (CW s p) (n:Nat)=false/\Nms s (yO s p) (n+1) k
theorem EW{a b:Nat}(h:b<a):aqE a b=false:=by
 cases e:aqE a b
 .rfl
 .exact absurd (Sr e) (by omega)
theorem YP{s:ByteArray}:∀(k p n:Nat),n+k<=100->Nms s p n k->∃q,Runs (au aCH 0) (nmS s p (aqE s.size p) (n:Nat)) (.exit 0) (nmS s q true ((n+k:Nat):Int))
 | 0,p,n,_,h=>by
  rw[ah4 h];exact⟨p,Runs.last (aF (bU _ _) aB av aA (amd s p _))⟩
 |k+1,p,n,hk,⟨h1,h2,h3⟩=>by
  rw[EW h1];obtain⟨q,hq⟩:=YP k (yO s p) (n+1) (by omega) h3;refine⟨q,Runs.cons (s1:=nmS s (yO s p) (aqE s.size (yO s p)) ((n+1:Nat):Int)) ?_ (by rw[show n+(k+1)=n+1+k by omega];exact hq)⟩;refine aF (aT _ _) aB (ak aD (ak aD av)) aA ((arG s p (n:Nat)).trans ?_);rw[ah (YQ _),ah (Oj _),h2,bD (by omega)];rfl
theorem aaL{s:ByteArray}{k:Nat}(h1:1<=k)(h2:k<=12)(h:Nms s 0 0 k):aj bW 237 [zA s] (bA true):=by
 obtain⟨q,hq⟩:=YP k 0 0 (by omega) h;rw[avB]at hq;refine aP aB av Tryz.func237 (by kernel_rfl) (by kernel_rfl) (kT (i:=3) 1 (by kernel_rfl) λ j hj _=>?_) rfl ((arH s (k:Nat) q).trans ?_)
 .have:j=0:=by omega
  subst this;exact aR (hq.loop (by simp))
 .rw[ah (Sub.refl _),decide_eq_true (by omega),decide_eq_true (by omega)]
  rfl
def tkR(m:Nat)(T:Nat->ByteArray):Row:=.a 9 1 m λ q=>[zA (T q)]
def MZ(s:ByteArray)(p:Nat)(e:Bool)(m:Nat)(T:Nat->ByteArray)(fr:Int):St:=mkS 44 [(0,zA s),(3,.fJ 1 1 0 m),(4,iA fr),(8,.own 0 0)] [.i s p e,tkR m T]
def FD:List Nat:=[0,3,4,8]
noncomputable def tkK(iw bt:Bool):List aV:=[kS bW 70 (λ _=>bA iw),kS bW 71 (λ _=>bA bt)]
noncomputable def gIw(c:Int)(b:Bool)(x:Option Out):Option Out:=gate (aj bW 70 [cA c] (bA b)) x
noncomputable def gBt(c:Int)(b:Bool)(x:Option Out):Option Out:=gate (aj bW 71 [cA c] (bA b)) x
section
variable(s:ByteArray)(p m:Nat)(T:Nat->ByteArray)(fr:Int)
theorem as0:gD bW [] (tkK true false) aM (au aAY 0) (MZ s p false m T fr) (fu FD [some 0,some 1])=gIw (CW s p) true (cond (decide (fr<0)) (some ⟨.normal,MZ s (yO s p) (aqE s.size (yO s p)) m T (p:Nat),.any⟩) (some ⟨.normal,MZ s (yO s p) (aqE s.size (yO s p)) m T fr,.any⟩)):=by kernel_rfl
theorem av3:gD bW [] (tkK false true) aM (au aAY 0) (MZ s p false m T (-1)) (fu FD [some 0,some 1])=gIw (CW s p) false (gBt (CW s p) true (some ⟨.normal,MZ s (yO s p) (aqE s.size (yO s p)) m T (-1),.any⟩)):=by kernel_rfl
theorem anb:gD bW [] [] aM (au aAY 0) (MZ s p true m T fr) (gM FD [some 0,some 1])=some ⟨.exit 0,MZ s p true m T fr,.any⟩:=by kernel_rfl
theorem av4:gD bW [] (tkK false false) aM (au aAY 0) (MZ s p false m T (-1)) (fu FD [some 0,some 3])=gIw (CW s p) false (gBt (CW s p) false (cond (M4 m 16||false) (some ⟨.normal,mkS 44 [(0,zA s),(3,.fJ 1 1 0 (m+1)),(4,iA (-1)),(8,.own 0 0)] [.i s (yO s p) (aqE s.size (yO s p)),.a 9 1 (m+1) λ q=>dn (afC q m) [zA (T q)] (spread m [[zA (Utf8.encode (CW s p))]] q)],.any⟩) none)):=by kernel_rfl
theorem av5(f:Nat):gD bW [] (tkK false true) aM (au aAY 0) (MZ s p false m T (f:Nat)) (fu FD [some 0,some 3])=gIw (CW s p) false (cond (decide (0<=(f:Int))) (cond (Bh (some (f:Int)) (some (p:Int)) none s.size||false) (cond (M4 m 16||false) (gBt (CW s p) true (some ⟨.normal,mkS 44 [(0,zA s),(3,.fJ 1 1 0 (m+1)),(4,iA (-1)),(8,.own 0 0)] [.i s (yO s p) (aqE s.size (yO s p)),.a 9 1 (m+1) λ q=>dn (afC q m) [zA (T q)] (spread m [[zA (s.extract f p)]] q)],.any⟩)) none) none) (gBt (CW s p) true none)):=by kernel_rfl
theorem as1(T0:Nat->ByteArray):ev bW [] [] (gu 4 (GD FD [(3,1,1)] (tkR 0 T0) [some 0,none] (MZ s 0 (aqE s.size 0) 0 T0 (-1)) (.exit 0) (MZ s p true m T (-1)))) aAY [zA s] ret=gate (Sub (MZ s 0 (aqE s.size 0) 0 T0 (-1)) (MZ s 0 (aqE s.size 0) 0 T0 (-1))) (some (Out.of (.sl 1 m λ q=>[zA (T (0+q))]))):=by kernel_rfl
end
theorem ael{m:Nat}{T:Nat->ByteArray}{x:ByteArray}{q:Nat}(hq:q<m+1):[zA (if q<m then T q else if q=m then x else T q)]=dn (afC q m) [zA (T q)] (spread m [[zA x]] q):=by
 by_cases h:q<m
 .rw[show afC q m=true from ah4 h,if_pos h]
  rfl
 .have h2:q=m:=by omega
  have:afC q m=false:=by
   cases hb:afC q m
   .rfl
   .exact absurd (Sr hb) (by omega)
  rw[this,if_neg h,if_pos h2];unfold spread;rfl
inductive Tx where
 |w (b:List UInt8)
 |g (c:UInt8)
def Wrd(s:ByteArray):Nat->Nat->Nat->Prop
 |p,0,q=>p=q
 |p,k+1,q=>p<s.size/\iwB (CW s p)=true/\Wrd s (yO s p) k q
def Gap(s:ByteArray)(p:Nat):Prop:=p<s.size/\iwB (CW s p)=false/\btB (CW s p)=true
def Pun(s:ByteArray)(p:Nat):Prop:=p<s.size/\iwB (CW s p)=false/\btB (CW s p)=false
inductive Cut(s:ByteArray):Nat->List ByteArray->Prop where
 |fin {p:Nat} (h:s.size<=p):Cut s p []
 |gap {p:Nat} {l:List ByteArray} (h:Gap s p) (r:Cut s (yO s p) l):Cut s p l
 |pun {p:Nat} {l:List ByteArray} (h:Pun s p) (r:Cut s (yO s p) l):Cut s p (Utf8.encode (CW s p)::l)
 |wrd {p k q:Nat} {l:List ByteArray} (h:Wrd s p (k+1) q) (hp:p<=q) (hq:Gap s q) (r:Cut s (yO s q) l):Cut s p (s.extract p q::l)
def upT(m:Nat)(T:Nat->ByteArray)(x:ByteArray):Nat->ByteArray:=λ q=>if q<m then T q else if q=m then x else T q
theorem up_sub{s:ByteArray}{p m:Nat}{e:Bool}{T:Nat->ByteArray}{x:ByteArray}:Sub (mkS 44 [(0,zA s),(3,.fJ 1 1 0 (m+1)),(4,iA (-1)),(8,.own 0 0)] [.i s p e,.a 9 1 (m+1) λ q=>dn (afC q m) [zA (T q)] (spread m [[zA x]] q)]) (MZ s p e (m+1) (upT m T x) (-1)) :=
 zG ⟨ER rfl,aaH ⟨_,_,_,_,_,rfl,rfl,λ _ hi=>ael hi⟩,trivial⟩
theorem Sn{s:ByteArray}{m:Nat}{T:Nat->ByteArray}{f q:Nat}{sf:St}:∀(k p:Nat),Wrd s p k q->Runs (au aAY 0) (MZ s q (aqE s.size q) m T (f:Nat)) (.exit 0) sf->Runs (au aAY 0) (MZ s p (aqE s.size p) m T (f:Nat)) (.exit 0) sf
 | 0,p,h,g=>by
  have h:p=q:=h;subst h;exact g
 |k+1,p,⟨h1,h2,h3⟩,g=>by
  refine Runs.cons (s1:=MZ s (yO s p) (aqE s.size (yO s p)) m T (f:Nat)) ?_ (Sn k (yO s p) h3 g);rw[EW h1];refine aF (aT _ _) aB (ak aD (ak aD av)) aA ((as0 s p m T (f:Nat)).trans ?_);unfold gIw;rw[ah (by rw[<-h2];exact Ea _),decide_eq_false (by omega)];rfl
theorem aem{s:ByteArray}{l:List ByteArray}{p:Nat}(h:Cut s p l):∀(m:Nat) (T:Nat->ByteArray),m+l.length<=1000000->∃q T',(∀i,i<m->T' i=T i)/\(∀i,i<l.length->T' (m+i)=l.getD i eB)/\Runs (au aAY 0) (MZ s p (aqE s.size p) m T (-1)) (.exit 0) (MZ s q true (m+l.length) T' (-1)):=by
 induction h with
 | @fin p h =>
  intro m T _;rw[ah4 h];exact⟨p,T,λ _ _=>rfl,λ i hi=>absurd hi (azu i),Runs.last (aF (bU _ _) aB av aA (anb s p m T (-1)))⟩
 | @gap p l h r ih =>
  intro m T hm;obtain⟨q,T',h1,h2,h3⟩:=ih m T hm;refine⟨q,T',h1,h2,Runs.cons ?_ h3⟩;rw[EW h.1];refine aF (aT _ _) aB (ak aD (ak aD av)) aA ((av3 s p m T).trans ?_);unfold gIw gBt;rw[ah (by rw[<-h.2.1];exact Ea _),ah (by rw[<-h.2.2];exact O6 _)]
 | @pun p l h r ih =>
  intro m T hm;rw[anE]at hm;obtain⟨q,T',h1,h2,h3⟩:=ih (m+1) (upT m T (Utf8.encode (CW s p))) (by omega);refine⟨q,T',λ i hi=>?_,λ i hi=>?_,Runs.cons ?_ (by rw[anE,show m+(l.length+1)=m+1+l.length by omega];exact h3)⟩
  .rw[h1 i (by omega)];unfold upT;rw[if_pos hi]
  .cases i with
   |zero=>rw[ayO,h1 m (by omega)];unfold upT;rw[if_neg (by omega),if_pos rfl,aC1]
   |succ i=>rw[anE]at hi;rw[show m+(i+1)=m+1+i by omega,h2 i (by omega),aC2]
  .rw[EW h.1]
   refine bF.sub (aF (aT _ _) aB (ak aD (ak aD av)) aA ((av4 s p m T).trans ?_)) (Sub.refl _) up_sub;unfold gIw gBt;rw[ah (by rw[<-h.2.1];exact Ea _),ah (by rw[<-h.2.2];exact O6 _),qz (by omega)];rfl
 | @wrd p k q l h hp hq r ih =>
  intro m T hm;rw[anE]at hm;obtain⟨q',T',h1,h2,h3⟩:=ih (m+1) (upT m T (s.extract p q)) (by omega);obtain⟨w1,w2,w3⟩:=h;refine⟨q',T',λ i hi=>?_,λ i hi=>?_,?_⟩
  .rw[h1 i (by omega)];unfold upT;rw[if_pos hi]
  .cases i with
   |zero=>rw[ayO,h1 m (by omega)];unfold upT;rw[if_neg (by omega),if_pos rfl,aC1]
   |succ i=>rw[anE]at hi;rw[show m+(i+1)=m+1+i by omega,h2 i (by omega),aC2]
  .rw[anE,show m+(l.length+1)=m+1+l.length by omega]
   refine Runs.cons (s1:=MZ s (yO s p) (aqE s.size (yO s p)) m T (p:Nat)) ?_ (Sn k (yO s p) w3 (Runs.cons ?_ h3))
   .rw[EW w1]
    refine aF (aT _ _) aB (ak aD (ak aD av)) aA ((as0 s p m T (-1)).trans ?_);unfold gIw;rw[ah (by rw[<-w2];exact Ea _)];rfl
   .rw[EW hq.1]
    have hq1:=hq.1;refine bF.sub (aF (aT _ _) aB (ak aD (ak aD av)) aA ((av5 s q m T p).trans ?_)) (Sub.refl _) up_sub;unfold gIw gBt
    have hs:Bh (some (p:Int)) (some (q:Int)) none s.size=true:=by
     unfold Bh;simp;omega
    rw[ah (by rw[<-hq.2.1];exact Ea _),ah (by rw[<-hq.2.2];exact O6 _),qz (by omega),decide_eq_true (by omega),hs];rfl
theorem Rp{s:ByteArray}{l:List ByteArray}(h:Cut s 0 l)(hl:l.length<=1000000):aj bW 25 [zA s] (.sl 1 l.length λ q=>[zA (l.getD q eB)]):=by
 obtain⟨q,T',_,h2,h3⟩:=aem h 0 (λ _=>eB) (by omega);rw[avB]at h3
 have k:aj bW 25 [zA s] (.sl 1 l.length λ q=>[zA (T' (0+q))]):=by
  refine aP aB av Tryz.func25 (by kernel_rfl) (by kernel_rfl) (kT (i:=4) 1 (by kernel_rfl) λ j hj _=>?_) rfl ((as1 s q l.length T' (λ _=>eB)).trans (ah (Sub.refl _)));have:j=0:=by omega
  subst this;exact Sq (h3.loop (by simp))
 exact aj.ade k λ E u hu=>D8 hu λ i hi=>by rw[h2 i hi]
end Go.Proofs.YtefphimaggjihaaGreatDoor.Pi
namespace Go.Gv
open Go.RowKit Go.Ev
noncomputable section
def hol:List (Option AV)->(Nat->AV)->Nat->List AV
 | [],_,_=>[]
 |some a::l,o,q=>a::hol l o (q+1)
 |none::l,o,q=>o q::hol l o (q+1)
theorem AO:∀(l:List (Option AV)) {o o':Nat->AV} (q:Nat),(∀k,q<=k->o k=o' k)->hol l o q=hol l o' q
 | [],_,_,_,_=>rfl
 |some a::l,o,o',q,h=>by
  show a::_=a::_;rw[AO l (q+1) λ k hk=>h k (by omega)]
 |none::l,o,o',q,h=>by
  show o q::_=o' q::_;rw[h q (ao5 _),AO l (q+1) λ k hk=>h k (by omega)]
def holes:List (Option AV)->Nat->List Nat
 | [],_=>[]
 |some _::l,q=>holes l (q+1)
 |none::l,q=>q::holes l (q+1)
theorem EA:∀(l:List (Option AV)) (q k:Nat),k∈holes l q->q<=k
 | [],_,_,h=>by cases h
 |some _::l,q,k,h=>by have:=EA l (q+1) k h;omega
 |none::l,q,k,h=>by
  rcases azV.1 h with rfl |h
  .exact ao5 _
  .have:=EA l (q+1) k h;omega
theorem Eh{E:Env}:∀(l:List (Option AV)) {o:Nat->AV} (q:Nat) {us:List Value},pre E (hol l o q) us->pre E (hol l (λ k=>.x (us.getD (k - q) undef)) q) us/\∀k,k∈holes l q->rel E (o k) (us.getD (k - q) undef)
 | [],_,_,_,_=>⟨pre_nil,λ _ h=>by cases h⟩
 |some a::l,o,q,us,h=>by
  obtain⟨u,us',rfl,h1,h2⟩:=bE.1 h;obtain⟨h3,h4⟩:=Eh l (q+1) h2
  have e:∀k,q+1<=k->(u::us').getD (k - q) undef=us'.getD (k - (q+1)) undef:=λ k hk=>by
   rw[show k - q=(k - (q+1))+1 by omega];rfl
  refine⟨bE.2 ⟨u,us',rfl,h1,?_⟩,λ k hk=>?_⟩
  .rw[AO l (o':=λ k=>.x (us'.getD (k - (q+1)) undef)) (q+1) λ k hk=>by rw[e k hk]]
   exact h3
  .rw[e k (EA l (q+1) k hk)]
   exact h4 k hk
 |none::l,o,q,us,h=>by
  obtain⟨u,us',rfl,h1,h2⟩:=bE.1 h;obtain⟨h3,h4⟩:=Eh l (q+1) h2
  have e:∀k,q+1<=k->(u::us').getD (k - q) undef=us'.getD (k - (q+1)) undef:=λ k hk=>by
   rw[show k - q=(k - (q+1))+1 by omega];rfl
  have e0:(u::us').getD (q - q) undef=u:=by rw[aDP];rfl
  refine⟨bE.2 ⟨u,us',rfl,bI.2 e0.symm,?_⟩,λ k hk=>?_⟩
  .rw[AO l (o':=λ k=>.x (us'.getD (k - (q+1)) undef)) (q+1) λ k hk=>by rw[e k hk]]
   exact h3
  .rcases azV.1 hk with rfl |hk
   .rw[e0];exact h1
   .rw[e k (EA l (q+1) k hk)]
    exact h4 k hk
theorem Ei{E:Env}{o:Nat->AV}{v:Nat->Value}:∀(l:List (Option AV)) (q:Nat) {us:List Value},(∀k,k∈holes l q->rel E (o k) (v k))->pre E (hol l (λ k=>.x (v k)) q) us->pre E (hol l o q) us
 | [],_,_,_,_=>pre_nil
 |some a::l,q,us,hv,h=>by
  obtain⟨u,us',rfl,h1,h2⟩:=bE.1 h;exact bE.2 ⟨u,us',rfl,h1,Ei l (q+1) hv h2⟩
 |none::l,q,us,hv,h=>by
  obtain⟨u,us',rfl,h1,h2⟩:=bE.1 h;refine bE.2 ⟨u,us',rfl,?_,Ei l (q+1) (λ k hk=>hv k (List.mem_cons_of_mem _ hk)) h2⟩;rw[bI.1 h1];exact hv q (by simp[holes])
theorem Iz{v:Nat->Value}{σ:Nat->Option Nat}:∀(l:List (Option AV)) (q:Nat),(∀a,some a∈l->jw σ a=a)->gP σ (hol l (λ k=>.x (v k)) q)=hol l (λ k=>.x (v k)) q
 | [],_,_=>by unfold hol;rw[gP]
 |some a::l,q,h=>by
  show gP σ (a::_)=a::_;rw[gP,h a (by simp),Iz l (q+1) λ a ha=>h a (by simp[ha])]
 |none::l,q,h=>by
  show gP σ (.x (v q)::_)=.x (v q)::_;rw[gP,jw,Iz l (q+1) λ a ha=>h a (by simp[ha])]
theorem akX{P:Program}{f:Nat}{args:List AV}{r:AV}{l l':List (Option AV)}{o:Nat->AV}{rest:List Row}(hh:holes l' 0=holes l 0)(hl:∀ σ a,some a∈l->jw σ a=a)(hl':∀ σ a,some a∈l'->jw σ a=a)(ha:gP (oH [0]) args=args)(hr:∀ σ,jw σ r=r)
  (h:∀v:Nat->Value,cu P f (.own 0 0::args) [.c (hol l (λ q=>.x (v q)) 0)] r [.c (hol l' (λ q=>.x (v q)) 0)]):bP P f (.own 0 0::args) (.c (hol l o 0)::rest) r (.c (hol l' o 0)::rest):=by
 refine⟨(h λ _=>undef).1,λ A0 R w0 E aZ hW hg hrel=>?_⟩;obtain⟨u0,us0,e0,k1,_⟩:=aH.1 hrel;obtain⟨b,c,hO,_⟩:=jh.1 k1;obtain⟨row,k2,k3⟩:=hW.rows 0 b c hO;cases k2;obtain⟨cs,ty,k4,k5⟩:=k3;obtain⟨k6,k7⟩:=Eh l 0 k5;let v:Nat->Value:=λ k=>cs.toList.getD (k - 0) undef;have hlive:∀(x y:List AV) (k:Nat),aK (.c x::rest) k=aK (.c y::rest) k:=λ x y k=>by cases k<;>rfl
 have hw1:bP P f (.own 0 0::args) (.c (hol l (λ q=>.x (v q)) 0)::rest) r (.c (hol l' (λ q=>.x (v q)) 0)::rest):=by
  have hw:=xC (args:=.own 0 0::args) (mem:=.c (hol l (λ q=>.x (v q)) 0)::rest) (mem':=.c (hol l' (λ q=>.x (v q)) 0)::rest) (h v) [0] rfl rfl (by rw[gP,ha];rfl) (λ i k hi=>?_) ⟨λ k hk hlt=>?_,λ i k r' hi hr'=>?_,λ i r' hi hr'=>?_⟩
  .rw[hr]at hw
   exact hw
  .match i,hi with
   | 0,hi =>
    simp at hi;subst hi;refine⟨_,rfl,rfl,?_⟩;show some _=some (Row.c (gP _ _));rw[Iz l 0 (hl _)]
   |n+1,hi=>simp at hi
  .obtain⟨q,rfl⟩:∃q,k=q+1:=⟨k - 1,by have:k≠0:=λ e=>hk (by simp[e]);omega⟩
   rfl
  .match i,hi with
   | 0,hi =>
    simp at hi;subst hi;cases hr';show some _=some (Row.c (gP _ _));rw[Iz l' 0 (hl' _)]
   |n+1,hi=>simp at hi
  .match i,hi,hr' with
   | 0,hi,_=>exact absurd hi (by show ¬ 1<=0;omega)
   |n+1,_,hr'=>cases hr'
 have hW1:Wd A0 R w0 E (.c (hol l (λ q=>.x (v q)) 0)::rest):=by
  refine⟨λ k b' c' hk=>?_,hW.small,hW.old,λ k b' c' hk hl=>hW.own k b' c' hk (by rw[hlive _ (hol l (λ q=>.x (v q)) 0)];exact hl),λ k k' b' c' c'' hk hk' h1 h2=>hW.one k k' b' c' c'' hk hk' (by rw[hlive _ (hol l (λ q=>.x (v q)) 0)];exact h1) (by rw[hlive _ (hol l (λ q=>.x (v q)) 0)];exact h2),hW.below,hW.CY⟩;obtain⟨row,g1,g2⟩:=hW.rows k b' c' hk;cases k with
  |zero =>
   rw[hO]at hk;cases hk;exact⟨_,rfl,cs,ty,k4,k6⟩
  |succ k=>exact⟨row,g1,g2⟩
 refine(hw1.2 A0 R w0 E aZ hW1 hg hrel).mono ?_;rintro e w' ⟨u,E',rfl,rfl,hle,hW2,hu⟩;refine⟨u,E',rfl,rfl,hle,⟨λ k b' c' hk=>?_,hW2.small,hW2.old,λ k b' c' hk hl=>hW2.own k b' c' hk (by rw[hlive _ (hol l' o 0)];exact hl),λ k k' b' c' c'' hk hk' h1 h2=>hW2.one k k' b' c' c'' hk hk' (by rw[hlive _ (hol l' o 0)];exact h1) (by rw[hlive _ (hol l' o 0)];exact h2),hW2.below,hW2.CY⟩,hu⟩;obtain⟨row,g1,g2⟩:=hW2.rows k b' c' hk;cases k with
 |zero =>
  cases g1;obtain⟨cs',ty',g3,g4⟩:=g2;refine⟨_,rfl,cs',ty',g3,Ei l' 0 (λ k hk=>?_) g4⟩;rw[hh]at hk;exact mM hle (k7 k hk)
 |succ k=>exact⟨row,g1,g2⟩
end
end Go.Gv
namespace Go.Proofs.YtefphimaggjihaaGreatDoor.Pi.Rd
open Go.Shelf Go.RowKit Go.Gv
open Go.Ev (cn fdiv)
structure Tk where
 n:Nat
 T:Nat->ByteArray
 N:Nat->Int
def Vl(t:Tk):AV:=.sl 1 t.n λ q=>[zA (t.T q)]
def rdM(t:Tk)(x:Int)(z:Nat->Int):List (Option AV):=[some (Vl t),some (iA x),none,none,none,none,none,none,none,none,none,none,none,none,none,none,none,none,none,none,none,some (iA (z 21)),some (iA (z 22)),some (iA (z 23)),some (iA (z 24)),some (iA (z 25)),some (iA (z 26)),none,some (iA (z 28))]
def rdC(t:Tk)(x:Int)(z:Nat->Int)(o:Nat->AV):List AV:=hol (rdM t x z) o 0
def lM(t:Tk)(a:Nat)(z:Nat->Int)(o:Nat->AV):Row:=.c (rdC t (a:Nat) z o)
def avG(d:Nat):List AV->List AV
 |t::.x (.int k a)::l=>t::.x (.int k (a+(d:Nat)))::l
 |l=>l
def Oy(d:Nat):List Row->List Row
 |.c l::r=>.c (avG d l)::r
 |m=>m
def atM:List Row->Nat
 |.c (_::.x (.int _ a)::_)::_=>a.toNat
 |_=>0
def dw(z:Nat->Int)(i:Nat)(x:Int):Nat->Int:=λ q=>cond (ax0 q i) x (z q)
def Lf(t:Tk)(f:Nat)(args:List AV)(r:AV)(a d:Nat)(z z':Nat->Int):Prop:=∀v:Nat->Value,cu bW f (.own 0 0::args) [lM t a z λ q=>.x (v q)] r [lM t (a+d) z' λ q=>.x (v q)]
theorem Hy{t:Tk}{x:Int}{z:Nat->Int}(σ:Nat->Option Nat)(a:AV)(h:some a∈rdM t x z):jw σ a=a:=by
 simp only[rdM,azV,jN,reduceCtorEq,false_or,List.mem_nil_iff,or_false]at h;rcases h with rfl |rfl |rfl |rfl |rfl |rfl |rfl |rfl |rfl<;>rfl
theorem Lf.w{t:Tk}{f:Nat}{args:List AV}{r:AV}{a d:Nat}{z z':Nat->Int}(h:Lf t f args r a d z z')(ha:∀ σ,gP σ args=args)(hr:∀ σ,jw σ r=r)(o:Nat->AV)(rest:List Row):bP bW f (.own 0 0::args) (lM t a z o::rest) r (lM t (a+d) z' o::rest) :=
 akX (l:=rdM t (a:Nat) z) (l':=rdM t ((a+d:Nat):Int) z') rfl (λ σ x=>Hy σ x) (λ σ x=>Hy σ x) (ha _) hr h
theorem Lf.w1{t:Tk}{f:Nat}{args:List AV}{r:AV}{a d:Nat}{z z':Nat->Int}(h:Lf t f args r a d z z')(ha:gP (oH [0]) args=args)(hr:∀ σ,jw σ r=r)(o:Nat->AV)(rest:List Row):bP bW f (.own 0 0::args) (lM t a z o::rest) r (lM t (a+d) z' o::rest) :=
 akX (l:=rdM t (a:Nat) z) (l':=rdM t ((a+d:Nat):Int) z') rfl (λ σ x=>Hy σ x) (λ σ x=>Hy σ x) ha hr h
abbrev vX(v:Nat->Value):Nat->AV:=λ q=>.x (v q)
noncomputable def yI(n:Int):Nat:=fdiv (cn (ayP.nearest n)) 4652007308841189376
section
variable(t:Tk)(a:Nat)(z:Nat->Int)(v:Nat->Value)(o:Nat->AV)(rest:List Row)(s:ByteArray)(x y:Int)(b:Bool)
noncomputable def wNx:bH:=wQ bW 167 (λ _ mem=>zA (t.T (atM mem))) (λ _ mem=>Oy 1 mem)
noncomputable def wAk:bH:=wQ bW 194 (λ _ _=>.aN []) (λ _ mem=>Oy 1 mem)
noncomputable def wNu:bH:=wQ bW 215 (λ _ mem=>iA (t.N (atM mem))) (λ _ mem=>Oy 1 mem)
noncomputable def wWo:bH:=wQ bW 232 (λ _ mem=>iA (t.N (atM mem))) (λ _ mem=>Oy 1 mem)
noncomputable def wNm:bH:=wQ bW 222 (λ _ mem=>zA (t.T (atM mem))) (λ _ mem=>Oy 1 mem)
noncomputable def qW(f:Nat)(args:List AV)(r:AV)(d:Nat)(k:Option Out):Option Out:=cond (iY (bP bW f (.own 0 0::args) (lM t a z o::rest) r (lM t (a+d) z o::rest))) k none
theorem ar8:eu bW [] [] [] [] [] aM Tryz.f167 [.own 0 0] [lM t a z (vX v)] [some 0] =
 cond (((a:Nat):Int)==((t.n:Nat):Int)) none (cond ((mI (aI (aI (((a:Nat):Int)+1) - 1)) t.n||false)&&true) (fD (zA (t.T (aI (aI (((a:Nat):Int)+1) - 1)).toNat)) [.c (rdC t (aI (((a:Nat):Int)+1)) z (vX v))]) none):=by kernel_rfl
theorem ar9:eu bW [] [] [] [wNx t] [] aM Tryz.f194 [.own 0 0,zA s] [lM t a z (vX v)] [some 0] =
 qW t a z (vX v) [] 167 [] (zA (t.T a)) 1 (cond (!((t.T a).toList==s.toList)) none (fD (.aN []) [lM t (a+1) z (vX v)])):=by kernel_rfl
theorem asa:eu bW [] [] [] [] [] aM Tryz.f195 [.own 0 0,iA x] [lM t a z (vX v)] [some 0]=cond (!(x==0)) none (fD (.aN []) [lM t a z (vX v)]):=by kernel_rfl
theorem asb:eu bW [] [] [] [] [] aM Tryz.f196 [.own 0 0,iA x,iA y] [lM t a z (vX v)] [some 0]=cond (decide (y<=x)) none (fD (.aN []) [lM t a z (vX v)]):=by kernel_rfl
theorem asc:eu bW [] [] [] [] [] aM Tryz.f208 [.own 0 0] [lM t a z (vX v)] [some 0]=cond (decide (0<z 23)) none (fD (.aN []) [lM t a z (vX v)]):=by kernel_rfl
theorem amj:eu bW [] [] [] [] [] aM aE9 [.own 0 0,.own 0 21] [lM t a z (vX v)] [some 0]=cond (decide (0<z 21)) none (fD (.aN []) [lM t a (dw z 21 (aI (z 21+1))) (vX v)]):=by kernel_rfl
theorem amk:eu bW [] [] [] [] [] aM aE9 [.own 0 0,.own 0 22] [lM t a z (vX v)] [some 0]=cond (decide (0<z 22)) none (fD (.aN []) [lM t a (dw z 22 (aI (z 22+1))) (vX v)]):=by kernel_rfl
theorem ase:eu bW [] [] [] [wAk] [] aM Tryz.f219 [.own 0 0,iA x] [lM t a z (vX v)] [some 0] =
 qW t a z (vX v) [] 194 [zA ⟨#[123]⟩] (.aN []) 1 (cond (x==3) none (fD (.aN []) [lM t (a+1) z (vX v)])):=by kernel_rfl
theorem asf:eu bW [] [kS bW 237 (λ _=>bA b)] [] [wNx t] [] aM Tryz.f222 [.own 0 0] [lM t a z (vX v)] [some 0] =
 qW t a z (vX v) [] 167 [] (zA (t.T a)) 1 (gate (aj bW 237 [zA (t.T a)] (bA b)) (cond (!b) none (fD (zA (t.T a)) [lM t (a+1) z (vX v)]))):=by kernel_rfl
theorem asg:eu bW [] [kS bW 234 (λ _=>.aN [iA x,bA true]),kS bW 172 (λ _=>bA b)] [] [wNx t] [] aM Tryz.f215 [.own 0 0] [lM t a z (vX v)] [some 0] =
 qW t a z (vX v) [] 167 [] (zA (t.T a)) 1 (gate (aj bW 234 [zA (t.T a)] (.aN [iA x,bA true])) (gate (aj bW 172 [iA x] (bA b)) (cond b none (fD (iA x) [lM t (a+1) z (vX v)])))):=by kernel_rfl
theorem ash:eu bW [] [kS bW 245 (λ _=>.aN [iA x,bA true])] [] [wNx t] [] aM Tryz.f232 [.own 0 0,iA y] [lM t a z (vX v)] [some 0] =
 qW t a z (vX v) [] 167 [] (zA (t.T a)) 1 (gate (aj bW 245 [zA (t.T a)] (.aN [iA x,bA true])) (cond (cond (decide (x<0)) true (decide (y<x))) none (fD (iA x) [lM t (a+1) z (vX v)]))):=by kernel_rfl
theorem asi:eu bW [] [] [] [wNu t] [] aM Tryz.f212 [.own 0 0] [lM t a z (vX v)] [some 0] =
 qW t a z (vX v) [] 215 [] (iA (t.N a)) 1 (fD (.f (yI (t.N a))) [lM t (a+1) z (vX v)]):=by kernel_rfl
def l3(x y w:Int):Row:=.c [iA x,iA y,iA w]
theorem aml:eu bW [] [] [] [wNu t] [] aM Tryz.f218 [.own 0 0] [lM t a z (vX v)] [some 0] =
 qW t a z (vX v) [l3 0 0 0] 215 [] (iA (t.N a)) 1 (qW t (a+1) z (vX v) [l3 (t.N a) 0 0] 215 [] (iA (t.N (a+1))) 1 (qW t (a+2) z (vX v) [l3 (t.N a) (t.N (a+1)) 0] 215 [] (iA (t.N (a+2))) 1 (fD (.agg [iA (t.N a),iA (t.N (a+1)),iA (t.N (a+2))]) [lM t (a+3) z (vX v)]))):=by kernel_rfl
theorem asj(y:Int):eu bW [] [] [] [wWo t] [] aM Tryz.f213 [.own 0 0,iA y] [lM t a z (vX v)] [some 0] =
 qW t a z (vX v) [l3 0 0 0] 232 [iA y] (iA (t.N a)) 1 (qW t (a+1) z (vX v) [l3 (t.N a) 0 0] 232 [iA y] (iA (t.N (a+1))) 1 (qW t (a+2) z (vX v) [l3 (t.N a) (t.N (a+1)) 0] 232 [iA y] (iA (t.N (a+2))) 1 (fD (.agg [iA (t.N a),iA (t.N (a+1)),iA (t.N (a+2))]) [lM t (a+3) z (vX v)]))):=by kernel_rfl
theorem acV(p q r:Int):ev bW [] [] aM Tryz.f231 [.agg [iA p,iA q,iA r]] ret=some (Out.of (.agg [.f (yI p),.f (yI q),.f (yI r)])):=by kernel_rfl
theorem asl:eu bW [] [] [] [wNu t] [] aM Tryz.f217 [.own 0 0,iA y] [lM t a z (vX v)] [some 0] =
 qW t a z (vX v) [] 215 [] (iA (t.N a)) 1 (cond (!((t.N a).tmod 1000==0)) none (cond (cond (decide (t.N a<0)) true (decide (aI (y*1000)<t.N a))) none (fD (iA (aI ((t.N a).tdiv 1000))) [lM t (a+1) z (vX v)]))):=by kernel_rfl
end
end Go.Proofs.YtefphimaggjihaaGreatDoor.Pi.Rd
namespace Go.Proofs.YtefphimaggjihaaGreatDoor.Pi.Rd
open Go.Shelf Go.RowKit Go.Gv
theorem kX {ks : List aV} {ws : List bH} (hk : ∀ e, e ∈ ks -> tO bW e) (hw : ∀ e, e ∈ ws -> vk bW e) {f : Nat} {fn : Func} (hf : bW.funcs[f]? = some fn) (hnm : (fn.name == "runtime.NumGoroutine") = false) (hb : fn.body = some (dG fn))
  {t:Tk} {a d:Nat} {z z':Nat->Int} {args:List AV} {r:AV} (hlen:aqE ((.own 0 0::args:List AV)).length fn.ntmps=true)
  (h:∀v:Nat->Value,eu bW [] ks [] ws [] aM fn (.own 0 0::args) [lM t a z (vX v)] [some 0]=fD r [lM t (a+d) z' (vX v)]):Lf t f args r a d z z':=λ v =>
 bM aB hk bO hw bS hf hnm hb (mem:=[lM t a z λ q=>.x (v q)]) aS hlen (τ:=[some 0]) (by rfl) (h v)
def Has(t:Tk)(a k:Nat):Prop:=a+k<=t.n/\t.n<=1000000
theorem Has.at{t:Tk}{a k:Nat}(h:Has t a k)(i:Nat)(hi:i<k):Has t (a+i) 1:=⟨by have:=h.1;omega,h.2⟩
theorem wz{t:Tk}{a d:Nat}{z:Nat->Int}{f:Nat}{args:List AV}{r:AV}(h:Lf t f args r a d z z)(ha:∀ σ,gP σ args=args)(hr:∀ σ,jw σ r=r)(o:Nat->AV)(rest:List Row)(k:Option Out):qW t a z o rest f args r d k=k:=by
 unfold qW;rw[fH (h.w ha hr o rest)];rfl
theorem qR{t:Tk}{a:Nat}(z:Nat->Int)(h:Has t a 1):Lf t 167 [] (zA (t.T a)) a 1 z z:=by
 obtain⟨h1,h2⟩:=h;refine kX av bJ Tryz.func167 (by kernel_rfl) (by kernel_rfl) rfl λ v=>(ar8 t a z v).trans ?_;rw[beq_false_of_ne (show((a:Nat):Int)≠((t.n:Nat):Int) by omega),aO (n:=((a:Nat):Int)+1) (by omega) (by omega),show((a:Nat):Int)+1 - 1=((a:Nat):Int) by omega,aO (by omega) (by omega),gy (by omega),Zk];rfl
theorem Kh{t:Tk}{a:Nat}{s:ByteArray}(z:Nat->Int)(h:Has t a 1)(hs:t.T a=s):Lf t 194 [zA s] (.aN []) a 1 z z:=by
 refine kX av (aC aX bJ) Tryz.func194 (by kernel_rfl) (by kernel_rfl) rfl λ v=>(ar9 t a z v s).trans ?_;rw[wz (qR z h) (λ _=>rfl) (λ _=>rfl),hs,show((s.toList==s.toList)=true) from beq_self_eq_true _];rfl
theorem wh(t:Tk)(a:Nat)(z:Nat->Int):Lf t 195 [iA 0] (.aN []) a 0 z z :=
 kX av bJ Tryz.func195 (by kernel_rfl) (by kernel_rfl) rfl λ v=>(asa t a z v 0).trans rfl
theorem qX(t:Tk)(a:Nat)(z:Nat->Int){x y:Int}(h:x<y):Lf t 196 [iA x,iA y] (.aN []) a 0 z z :=
 kX av bJ Tryz.func196 (by kernel_rfl) (by kernel_rfl) rfl λ v=>(asb t a z v x y).trans (by rw[decide_eq_false (by omega)];rfl)
theorem xV(t:Tk)(a:Nat){z:Nat->Int}(h:z 23=0):Lf t 208 [] (.aN []) a 0 z z :=
 kX av bJ Tryz.func208 (by kernel_rfl) (by kernel_rfl) rfl λ v=>(asc t a z v).trans (by rw[h];rfl)
theorem Xb(t:Tk)(a:Nat){z:Nat->Int}(h:z 21=0):Lf t 209 [.own 0 21] (.aN []) a 0 z (dw z 21 1) :=
 kX av bJ Tryz.func209 (by kernel_rfl) (by kernel_rfl) rfl λ v=>(amj t a z v).trans (by rw[h];rfl)
theorem Xc(t:Tk)(a:Nat){z:Nat->Int}(h:z 22=0):Lf t 209 [.own 0 22] (.aN []) a 0 z (dw z 22 1) :=
 kX av bJ Tryz.func209 (by kernel_rfl) (by kernel_rfl) rfl λ v=>(amk t a z v).trans (by rw[h];rfl)
theorem Vk{t:Tk}{a:Nat}(z:Nat->Int){x:Int}(h:Has t a 1)(hs:t.T a=⟨#[123]⟩)(hx:x≠3):Lf t 219 [iA x] (.aN []) a 1 z z:=by
 refine kX av (aC aX bJ) Tryz.func219 (by kernel_rfl) (by kernel_rfl) rfl λ v=>(ase t a z v x).trans ?_;rw[wz (Kh z h hs) (λ _=>rfl) (λ _=>rfl),beq_false_of_ne hx];rfl
theorem Ki{t:Tk}{a:Nat}(z:Nat->Int)(h:Has t a 1)(hn:aj bW 237 [zA (t.T a)] (bA true)):Lf t 222 [] (zA (t.T a)) a 1 z z:=by
 refine kX (ak aD av) (aC aX bJ) Tryz.func222 (by kernel_rfl) (by kernel_rfl) rfl λ v=>(asf t a z v true).trans ?_;rw[wz (qR z h) (λ _=>rfl) (λ _=>rfl),ah hn];rfl
def mX(t:Tk)(a:Nat):Prop:=aj bW 234 [zA (t.T a)] (.aN [iA (t.N a),bA true])/\-1000000<=t.N a/\t.N a<=1000000
def BL(t:Tk)(m:Int)(a:Nat):Prop:=aj bW 245 [zA (t.T a)] (.aN [iA (t.N a),bA true])/\0<=t.N a/\t.N a<=m
theorem afc{n:Int}(h0:-1000000<=n)(h1:n<=1000000):byB n=false:=by
 unfold byB;rw[decide_eq_false (by omega),decide_eq_false (by omega)];rfl
theorem lH{t:Tk}{a:Nat}(z:Nat->Int)(h:Has t a 1)(hn:mX t a):Lf t 215 [] (iA (t.N a)) a 1 z z:=by
 refine kX (ak aD (ak aD av)) (aC aX bJ) Tryz.func215 (by kernel_rfl) (by kernel_rfl) rfl λ v=>(asg t a z v (t.N a) false).trans ?_;rw[wz (qR z h) (λ _=>rfl) (λ _=>rfl),ah hn.1,ah (by have:=ZL (t.N a);rw[afc hn.2.1 hn.2.2]at this;exact this)];rfl
theorem zN{t:Tk}{a:Nat}{m:Int}(z:Nat->Int)(h:Has t a 1)(hn:BL t m a):Lf t 232 [iA m] (iA (t.N a)) a 1 z z:=by
 refine kX (ak aD av) (aC aX bJ) Tryz.func232 (by kernel_rfl) (by kernel_rfl) rfl λ v=>(ash t a z v (t.N a) m).trans ?_;rw[wz (qR z h) (λ _=>rfl) (λ _=>rfl),ah hn.1,decide_eq_false (by have:=hn.2.1;omega),decide_eq_false (by have:=hn.2.2;omega)];rfl
theorem CB{t:Tk}{a:Nat}(z:Nat->Int)(h:Has t a 1)(hn:mX t a):Lf t 212 [] (.f (yI (t.N a))) a 1 z z:=by
 refine kX av (aC aX bJ) Tryz.func212 (by kernel_rfl) (by kernel_rfl) rfl λ v=>(asi t a z v).trans ?_;rw[wz (lH z h hn) (λ _=>rfl) (λ _=>rfl)]
def n3(t:Tk)(a:Nat):AV:=.agg [iA (t.N a),iA (t.N (a+1)),iA (t.N (a+2))]
theorem Kj{t:Tk}{a:Nat}(z:Nat->Int)(h:Has t a 3)(hn:∀i,i<3->mX t (a+i)):Lf t 218 [] (n3 t a) a 3 z z:=by
 refine kX av (aC aX bJ) Tryz.func218 (by kernel_rfl) (by kernel_rfl) rfl λ v=>(aml t a z v).trans ?_;rw[wz (lH (a:=a) z (h.at 0 (by omega)) (hn 0 (by omega))) (λ _=>rfl) (λ _=>rfl),wz (lH z (h.at 1 (by omega)) (hn 1 (by omega))) (λ _=>rfl) (λ _=>rfl),wz (lH z (h.at 2 (by omega)) (hn 2 (by omega))) (λ _=>rfl) (λ _=>rfl)];rfl
theorem nV{t:Tk}{a:Nat}{m:Int}(z:Nat->Int)(h:Has t a 3)(hn:∀i,i<3->BL t m (a+i)):Lf t 213 [iA m] (n3 t a) a 3 z z:=by
 refine kX av (aC aX bJ) Tryz.func213 (by kernel_rfl) (by kernel_rfl) rfl λ v=>(asj t a z v m).trans ?_;rw[wz (zN (a:=a) z (h.at 0 (by omega)) (hn 0 (by omega))) (λ _=>rfl) (λ _=>rfl),wz (zN z (h.at 1 (by omega)) (hn 1 (by omega))) (λ _=>rfl) (λ _=>rfl),wz (zN z (h.at 2 (by omega)) (hn 2 (by omega))) (λ _=>rfl) (λ _=>rfl)];rfl
noncomputable def v3A(p q r:Int):AV:=.agg [.f (yI p),.f (yI q),.f (yI r)]
theorem Xd(p q r:Int):aj bW 231 [.agg [iA p,iA q,iA r]] (v3A p q r):=aP aB av Tryz.func231 (by kernel_rfl) (by kernel_rfl) aA rfl (acV p q r)
theorem Xe{t:Tk}{a:Nat}{m:Int}(z:Nat->Int)(h:Has t a 1)(hn:mX t a)(h0:(t.N a).tmod 1000=0)(h1:0<=t.N a)(h2:t.N a<=m*1000)(hm:m<=1000):Lf t 217 [iA m] (iA ((t.N a).tdiv 1000)) a 1 z z:=by
 refine kX av (aC aX bJ) Tryz.func217 (by kernel_rfl) (by kernel_rfl) rfl λ v=>(asl t a z v m).trans ?_;have hd:0<=(t.N a).tdiv 1000/\(t.N a).tdiv 1000<=1000:=by rw[Int.tdiv_eq_ediv_of_nonneg h1];omega
 rw[wz (lH z h hn) (λ _=>rfl) (λ _=>rfl),h0,decide_eq_false (by omega),aO (n:=m*1000) (by omega) (by omega),decide_eq_false (by omega),aO (by omega) (by omega)];rfl
end Go.Proofs.YtefphimaggjihaaGreatDoor.Pi.Rd
namespace Go.Gv
open Go.RowKit Go.Ev
noncomputable section
def shX(n x:Nat)(i:Nat):Option Nat:=CF (av2 n) (n+x) i
theorem Io{P:Program}{f:Nat}{args:List AV}{CG mem1:List Row}{v:AV}(n:Nat)(hn:CG.length=n)(h:cu P f args CG v mem1)(X:List Row)(hnd:nodupB (av2 n)=true)(hlive:∀(i:Nat) (r:Row),CG[i]?=some r->r.live=true/\iX (oH (av2 n)) r=r)(hargs:args=gP (oH (av2 n)) args)(hm:n<=mem1.length){v':AV}(hv:v'=jw (shX n X.length) v){mem':List Row}(hmem':mem'=(mem1.take n).map (iX (shX n X.length))++(X++(mem1.drop n).map (iX (shX n X.length)))) :
  bP P f args (CG++X) v' mem':=by
 have hl:(CG++X).length=n+X.length:=by rw[uI,hn]
 have hr:∀i,i<n->(av2 n)[i]?=some i:=λ i hi=>by rw[List.getElem?_range hi]
 have ht:((mem1.take n).map (iX (shX n X.length))).length=n:=by rw[aAL,ayM];omega
 have hw:=xC (args:=args) (mem:=CG++X) (mem':=mem') h (av2 n) (by rw[aAb,hn]) hnd hargs (λ i k hi=>?_) ⟨λ k hk hlt=>?_,λ i k r hi hr'=>?_,λ i r hi hr'=>?_⟩
 .rw[hl]at hw
  rw[hv];exact hw
 .have hin:i<n:=by have:=(aj8.1 hi).1;rwa [aAb]at this
  rw[hr i hin]at hi;cases hi;have hg:(CG++X)[i]?=CG[i]?:=apR (by omega);have hs:∃r,CG[i]?=some r:=⟨_,adv (by omega)⟩;obtain⟨r,hs⟩:=hs;obtain⟨h1,h2⟩:=hlive i r hs;exact⟨r,by rw[hg,hs],h1,by rw[hs,h2]⟩
 .have hk':n<=k:=by
   by_cases c:k<n
   .exact absurd (ayA.2 c) hk
   .omega
  rw[hl]at hlt;rw[hmem',axY (by rw[ht];exact hk'),ht,apR (by omega),axY (by omega),hn]
 .have hin:i<n:=by have:=(aj8.1 hi).1;rwa [aAb]at this
  rw[hr i hin]at hi;cases hi;rw[hmem',apR (by rw[ht];exact hin),azh,List.getElem?_take_of_lt hin,hr'];show some _=some _;rw[hl];rfl
 .rw[aAb]at hi
  rw[hl,aAb,hmem',axY (by rw[ht];omega),ht,axY (by omega),show n+X.length+(i - n) - n - X.length=i - n by omega,azh,List.getElem?_drop,show n+(i - n)=i by omega,hr'];rfl
end
end Go.Gv
namespace Go.Proofs.YtefphimaggjihaaGreatDoor.Pi.Rd
open Go.Shelf Go.RowKit Go.Gv
def sC(k:Int)(a0 a1 a2 b0 b1 b2 c0 c1 c2 r q:Nat):List AV:=[iA k,.f a0,.f a1,.f a2,.f b0,.f b1,.f b2,.f c0,.f c1,.f c2,.f r,.f q,iA 0]
def zS:Row:=.c (sC 0 0 0 0 0 0 0 0 0 0 0 0)
def vA(p q r:Nat):AV:=.agg [.f p,.f q,.f r]
def Ia(t:Tk)(z:Nat->Int)(a i:Nat):Int:=aI (t.N (a+i)+z (24+i))
section
variable(t:Tk)(a:Nat)(z:Nat->Int)(v:Nat->Value)(y:Int->Nat)
def gBy:List AV->AV:=λ _=>bA false
def gVe(y:Int->Nat):List AV->AV
 | [.agg [.x (.int _ p),.x (.int _ q),.x (.int _ r)]]=>vA (y p) (y q) (y r)
 |_=>.any
noncomputable def wTh:bH:=wQ bW 218 (λ _ mem=>n3 t (atM mem)) (λ _ mem=>Oy 3 mem)
noncomputable def gVo(p q r:Int)(x:Option Out):Option Out:=gate (aj bW 231 [.agg [iA p,iA q,iA r]] (vA (y p) (y q) (y r))) x
noncomputable def gBo(p:Int)(x:Option Out):Option Out:=gate (aj bW 172 [iA p] (bA false)) x
def ptV(a:Nat):AV:=vA (y (Ia t z a 0)) (y (Ia t z a 1)) (y (Ia t z a 2))
def drV(a:Nat):AV:=vA (y (t.N a)) (y (t.N (a+1))) (y (t.N (a+2)))
theorem ao6:eu bW [] [kS bW 172 gBy,kS bW 231 (gVe y)] [] [wTh t] [] aM Tryz.f210 [.own 0 0] [lM t a z (vX v)] [some 0] =
 qW t a z (vX v) [.c [.f 0,.f 0,.f 0]] 218 [] (n3 t a) 3 (gBo (Ia t z a 0) (gBo (Ia t z a 1) (gBo (Ia t z a 2) (gVo y (Ia t z a 0) (Ia t z a 1) (Ia t z a 2) (fD (ptV t z y a) [lM t (a+3) z (vX v)]))))):=by kernel_rfl
theorem aub:eu bW [] [kS bW 231 (gVe y)] [] [wTh t] [] aM Tryz.f211 [.own 0 0] [lM t a z (vX v)] [some 0] =
 qW t a z (vX v) [.c [.f 0,.f 0,.f 0]] 218 [] (n3 t a) 3 (gVo y (t.N a) (t.N (a+1)) (t.N (a+2)) (fD (drV t y a) [lM t (a+3) z (vX v)])):=by kernel_rfl
noncomputable def wPt:bH:=wQ bW 210 (λ _ mem=>ptV t z y (atM mem)) (λ _ mem=>Oy 3 mem)
noncomputable def wDr:bH:=wQ bW 211 (λ _ mem=>drV t y (atM mem)) (λ _ mem=>Oy 3 mem)
noncomputable def wFl:bH:=wQ bW 212 (λ _ mem=>.f (y (t.N (atM mem)))) (λ _ mem=>Oy 1 mem)
def fS(a i:Nat):Nat:=y (Ia t z a i)
def fN(a:Nat):Nat:=y (t.N a)
noncomputable def qPt(a:Nat)(rest:List Row)(k:Option Out):Option Out:=qW t a z (vX v) rest 210 [] (ptV t z y a) 3 k
noncomputable def qDr(a:Nat)(rest:List Row)(k:Option Out):Option Out:=qW t a z (vX v) rest 211 [] (drV t y a) 3 k
noncomputable def qAk(a:Nat)(rest:List Row)(s:List UInt8)(k:Option Out):Option Out:=qW t a z (vX v) rest 194 [zA (lB s)] (.aN []) 1 k
noncomputable def qFl(a:Nat)(rest:List Row)(k:Option Out):Option Out:=qW t a z (vX v) rest 212 [] (.f (fN t y a)) 1 k
noncomputable def afT:List bH:=[wPt t z y,wAk,wFl t y,wDr t y]
def cBa(a:Nat):List AV:=sC 1 (fS t z y a 0) (fS t z y a 1) (fS t z y a 2) 0 0 0 0 0 0 (fN t y (a+4)) 0
theorem afH:eu bW [] [] [] (afT t z y) [] aM Tryz.f187 [.own 0 0] [lM t a z (vX v)] [some 0] =
 qPt t z v y a [zS] (qAk t z v (a+3) [zS,.c (sC 1 (fS t z y a 0) (fS t z y a 1) (fS t z y a 2) 0 0 0 0 0 0 0 0)] [114,97,100,105,117,115] (qFl t z v y (a+4) [zS,.c (sC 1 (fS t z y a 0) (fS t z y a 1) (fS t z y a 2) 0 0 0 0 0 0 0 0)]
  (fD (.agg (cBa t z y a)) [lM t (a+5) z (vX v)]))):=by kernel_rfl
def sB1(k:Int)(a:Nat):Row:=.c (sC k (fS t z y a 0) (fS t z y a 1) (fS t z y a 2) 0 0 0 0 0 0 0 0)
def cBk(a:Nat):List AV:=sC 2 (fS t z y a 0) (fS t z y a 1) (fS t z y a 2) (fS t z y (a+4) 0) (fS t z y (a+4) 1) (fS t z y (a+4) 2) 0 0 0 0 0
theorem aue:eu bW [] [] [] (afT t z y) [] aM Tryz.f188 [.own 0 0] [lM t a z (vX v)] [some 0] =
 qPt t z v y a [zS] (qAk t z v (a+3) [zS,sB1 t z y 2 a] [116,111] (qPt t z v y (a+4) [zS,sB1 t z y 2 a]
  (fD (.agg (cBk t z y a)) [lM t (a+7) z (vX v)]))):=by kernel_rfl
def sB2(k:Int)(a:Nat):Row:=.c (sC k (fS t z y a 0) (fS t z y a 1) (fS t z y a 2) (fS t z y (a+4) 0) (fS t z y (a+4) 1) (fS t z y (a+4) 2) 0 0 0 0 0)
def cTr(a:Nat):List AV:=sC 3 (fS t z y a 0) (fS t z y a 1) (fS t z y a 2) (fS t z y (a+4) 0) (fS t z y (a+4) 1) (fS t z y (a+4) 2) (fS t z y (a+8) 0) (fS t z y (a+8) 1) (fS t z y (a+8) 2) 0 0
theorem auf:eu bW [] [] [] (afT t z y) [] aM Tryz.f190 [.own 0 0] [lM t a z (vX v)] [some 0] =
 qPt t z v y a [zS] (qAk t z v (a+3) [zS,sB1 t z y 3 a] [44] (qPt t z v y (a+4) [zS,sB1 t z y 3 a] (qAk t z v (a+7) [zS,sB2 t z y 3 a] [44] (qPt t z v y (a+8) [zS,sB2 t z y 3 a]
  (fD (.agg (cTr t z y a)) [lM t (a+11) z (vX v)]))))):=by kernel_rfl
def UR(k:Int)(a:Nat):List AV:=sC k (fS t z y a 0) (fS t z y a 1) (fS t z y a 2) (fN t y (a+4)) (fN t y (a+5)) (fN t y (a+6)) 0 0 0 (fN t y (a+8)) 0
def sB3(k:Int)(a:Nat):Row:=.c (sC k (fS t z y a 0) (fS t z y a 1) (fS t z y a 2) (fN t y (a+4)) (fN t y (a+5)) (fN t y (a+6)) 0 0 0 0 0)
theorem adn(k:Int)(w:List UInt8):eu bW [] [] [] (afT t z y) [] aM Tryz.f220 [.own 0 0,iA k,zA (lB w)] [lM t a z (vX v)] [some 0] =
 qPt t z v y a [zS] (qAk t z v (a+3) [zS,sB1 t z y k a] w (qDr t z v y (a+4) [zS,sB1 t z y k a] (qAk t z v (a+7) [zS,sB3 t z y k a] [114,97,100,105,117,115] (qFl t z v y (a+8) [zS,sB3 t z y k a]
  (fD (.agg (UR t z y k a)) [lM t (a+9) z (vX v)]))))):=by kernel_rfl
noncomputable def wRo:bH:=wQ bW 220 (λ ar mem=>match ar with
 | [_,.x (.int _ k),_]=>.agg (UR t z y k (atM mem))
 |_=>.any) (λ _ mem=>Oy 9 mem)
noncomputable def qRo(k:Int)(w:List UInt8)(a:Nat)(rest:List Row)(x:Option Out):Option Out:=qW t a z (vX v) rest 220 [iA k,zA (lB w)] (.agg (UR t z y k a)) 9 x
theorem ao7:eu bW [] [] [] [wRo t z y] [] aM Tryz.f191 [.own 0 0] [lM t a z (vX v)] [some 0]=qRo t z v y 4 [117,112] a [zS] (fD (.agg (UR t z y 4 a)) [lM t (a+9) z (vX v)]):=by kernel_rfl
theorem aug:eu bW [] [] [] [wRo t z y] [] aM Tryz.f189 [.own 0 0] [lM t a z (vX v)] [some 0]=qRo t z v y 5 [97,108,111,110,103] a [zS] (fD (.agg (UR t z y 5 a)) [lM t (a+9) z (vX v)]):=by kernel_rfl
def cRi(a:Nat):List AV:=sC 6 (fS t z y a 0) (fS t z y a 1) (fS t z y a 2) (fN t y (a+4)) (fN t y (a+5)) (fN t y (a+6)) 0 0 0 (fN t y (a+8)) (fN t y (a+9))
theorem auh:eu bW [] [] [] [wRo t z y,wFl t y] [] aM Tryz.f192 [.own 0 0] [lM t a z (vX v)] [some 0]=qRo t z v y 6 [117,112] a [zS] (qFl t z v y (a+9) [zS,.c (UR t z y 6 a)] (fD (.agg (cRi t z y a)) [lM t (a+10) z (vX v)])):=by kernel_rfl
end
section
variable(n:Nat)(N:Nat->ByteArray)(s:ByteArray)(i:Int)
def Fa:AV:=.sl 1 n λ q=>[zA (N q)]
def Bj:St:=mkS 19 [(0,Fa n N),(1,zA s),(7,iA n),(8,iA i)] []
theorem asF:gD bW [] [] aM (au aBD 0) (Bj n N s i) (fu [0,1,7,8] [])=cond (decide (i<n)) (cond (mI i n||false) (cond (s.toList==(N i.toNat).toList) none (some ⟨.normal,Bj n N s (aI (i+1)),.any⟩)) none) none:=by kernel_rfl
theorem amv:gD bW [] [] aM (au aBD 0) (Bj n N s i) (vD [4] [])=cond (decide (i<n)) (cond (mI i n||false) (cond (s.toList==(N i.toNat).toList) (some ⟨.ret,mkS 19 [(4,iA i)] [],.any⟩) none) none) none:=by kernel_rfl
theorem amw:gD bW [] [] aM (au aBD 0) (Bj n N s i) (gM [0,1,7,8] [])=cond (decide (i<n)) (cond (mI i n||false) (cond (s.toList==(N i.toNat).toList) none none) none) (some ⟨.exit 0,Bj n N s i,.any⟩):=by kernel_rfl
theorem amx(k:Int):ev bW [] [] (gu 2 (fE [0,1,7,8] [] (Bj n N s 0) .ret (mkS 19 [(4,iA k)] []))) aBD [Fa n N,zA s] ret=gate (Sub (Bj n N s 0) (Bj n N s 0)) (some (Out.of (iA k))):=by kernel_rfl
theorem amy:ev bW [] [] (gu 2 (fE [0,1,7,8] [] (Bj n N s 0) (.exit 0) (Bj n N s n))) aBD [Fa n N,zA s] ret=gate (Sub (Bj n N s 0) (Bj n N s 0)) (some (Out.of (iA (-1)))):=by kernel_rfl
theorem asG(k:Int):ev bW [] [kS bW 221 (λ _=>iA k)] aM Tryz.f233 [Fa n N,zA s] ret=gate (aj bW 221 [Fa n N,zA s] (iA k)) (some (Out.of (bA (decide (0<=k))))):=by kernel_rfl
end
theorem asH{a b:ByteArray}(h:a≠b):(a.toList==b.toList)=false:=by
 rw[sEq];refine decide_eq_false λ e=>h ?_;rw[<-Gl a,<-Gl b,e]
section
variable{n:Nat}{N:Nat->ByteArray}{s:ByteArray}
theorem Y7{j:Nat}(hn:n<=1000)(hj:j<n)(h:s≠N j):bF bW (au aBD 0) (Bj n N s (j:Nat)) .normal (Bj n N s ((j+1:Nat):Int)):=by
 refine aF (aT _ _) aB av aA ((asF n N s (j:Nat)).trans ?_);rw[dec_lt hj,gy hj,Zk,asH h,bD (by omega)];rfl
theorem adf{k:Nat}(hn:n<=1000)(hk:k<n)(h:N k=s)(hno:∀j,j<k->N j≠s):aj bW 221 [Fa n N,zA s] (iA (k:Nat)):=by
 refine aP aB av Tryz.func221 (by kernel_rfl) (by kernel_rfl) (kT (i:=2) 1 (by kernel_rfl) λ j hj _=>?_) rfl ((amx n N s (k:Nat)).trans (ah (Sub.refl _)));have:j=0:=by omega
 subst this;refine aR (aU (λ j=>Bj n N s (j:Nat)) k .ret _ (by simp) (λ j hj=>Y7 hn (by omega) λ e=>hno j hj e.symm) ?_);refine aF (gQ _ _) aB av aA ((amv n N s (k:Nat)).trans ?_);rw[dec_lt hk,gy hk,Zk,h,show((s.toList==s.toList)=true) from beq_self_eq_true _];rfl
theorem adg(hn:n<=1000)(hno:∀j,j<n->N j≠s):aj bW 221 [Fa n N,zA s] (iA (-1)):=by
 refine aP aB av Tryz.func221 (by kernel_rfl) (by kernel_rfl) (kT (i:=2) 1 (by kernel_rfl) λ j hj _=>?_) rfl ((amy n N s).trans (ah (Sub.refl _)));have:j=0:=by omega
 subst this;refine aR (aU (λ j=>Bj n N s (j:Nat)) n (.exit 0) _ (by simp) (λ j hj=>Y7 hn hj λ e=>hno j hj e.symm) ?_);exact aF (bU _ _) aB av aA ((amw n N s (n:Nat)).trans (by rw[bQ];rfl))
theorem Rn(hn:n<=1000)(hno:∀j,j<n->N j≠s):aj bW 233 [Fa n N,zA s] (bA false) :=
 aP aB (ak aD av) Tryz.func233 (by kernel_rfl) (by kernel_rfl) aA rfl ((asG n N s (-1)).trans (ah (adg hn hno)))
end
end Go.Proofs.YtefphimaggjihaaGreatDoor.Pi.Rd
namespace Go.Proofs.YtefphimaggjihaaGreatDoor.Pi
open Go.Shelf Go.RowKit Go.Gv
def uE(l:List UInt8):Nat->List AV:=λ q=>[.x (.int .u8 ((l.getD q 0).toNat:Nat))]
def FT(k n:Nat)(b u:Bool):Row:=.t 82 [.own 0 0,.fJ k 1 0 n,bA b,bA u]
def bR(l:List UInt8):Row:=.a 5 1 l.length (uE l)
def pM(l:List UInt8)(b u:Bool):List Row:=[FT 1 l.length b u,bR l]
def sj(l:List UInt8)(b u:Bool):List Row:=[FT 2 l.length b u,.dead,bR l]
def G7(b u:Bool):List Row:=[.t 82 [.x (.pointer none),.x (.slice none 0 0),bA b,bA u]]
def pM1(b u:Bool):List Row:=[.t 82 [.own 0 0,.x (.slice none 0 0),bA b,bA u]]
def nU:AV:=.x .nilIface
section
variable(l:List UInt8)(s:ByteArray)(c:Int)(b u:Bool)
def asB(n m:Nat):Bool:=(cond (n==n) (cond (afC 0 m) (aqE ((n+m)*1) 140737488355328) false) false)&&true
theorem ava:eu bW [] [] [] [wQ bW 154 (λ _ _=>.aN []) (λ _ _=>pM l b u)] [] aM aFa [.own 0 0,zA s] (pM l b u) [some 0,some 1,some 2] =
  cond (iY (bP bW 154 [.own 0 0] (pM l b u) (.aN []) (pM l b u))) (cond (asB l.length s.size) (fD (.aN [iA (aEd s.size),nU]) [FT 2 (l.length+s.size) b u,.dead,.a 5 1 (l.length+s.size) λ q=>dn (afC q l.length) (uE l q) [.x (.int .u8 (adF s (q - l.length)))]]) none) none:=by kernel_rfl
theorem aqO:eu bW [] [] [] [wQ bW 154 (λ _ _=>.aN []) (λ _ _=>pM1 b u)] [] aM aFa [.own 0 0,zA s] (G7 b u) [some 0,some 1] =
  cond (iY (bP bW 154 [.own 0 0] (G7 b u) (.aN []) (pM1 b u))) (cond (cond (afC 0 s.size) (aqE ((0+s.size)*1) 140737488355328) false&&true) (fD (.aN [iA (aEd s.size),nU]) [FT 1 (0+s.size) b u,.a 5 1 (0+s.size) λ q=>[.x (.int .u8 (adF s (q - 0)))]]) none) none:=by kernel_rfl
theorem avb:eu bW [] [] [] [wQ bW 154 (λ _ _=>.aN []) (λ _ _=>pM l b u)] [] aM Tryz.f127 [.own 0 0,yA c] (pM l b u) [some 0,some 1,some 3] =
  cond (iY (bP bW 154 [.own 0 0] (pM l b u) (.aN []) (pM l b u))) (cond (M4 l.length 1&&true) (fD nU [FT 2 (l.length+1) b u,.dead,.a 5 1 (l.length+1) λ q=>dn (afC q l.length) (uE l q) (spread l.length [[yA c]] q)]) none) none:=by kernel_rfl
end
section
variable{l:List UInt8}{b u:Bool}
theorem aaE:bP bW 154 [.own 0 0] (pM l b u) (.aN []) (pM l b u):=auE (mem:=pM l b u) (k:=0) (P0:=.own 0 0) (Bv:=.fJ 1 1 0 l.length) rfl (aaH rfl)
theorem ahp:bP bW 154 [.own 0 0] (G7 b u) (.aN []) (pM1 b u):=auE (mem:=G7 b u) (k:=0) (P0:=.x (.pointer none)) (Bv:=.x (.slice none 0 0)) rfl (ER rfl)
theorem avc{n m:Nat}(h0:0<m)(h:n+m<=1000000000):asB n m=true:=by
 unfold asB;rw[BEq.rfl,show afC 0 m=true from ah4 h0,ah4 (by omega)];rfl
theorem ahq(l:List UInt8)(s:List UInt8)(q:Nat):dn (afC q l.length) (uE l q) [.x (.int .u8 (((s.getD (q - l.length) 0).toNat:Nat):Int))]=uE (l++s) q:=by
 unfold uE;by_cases h:q<l.length
 .rw[show afC q l.length=true from ah4 h]
  simp only[dn,amh,apR h];rfl
 .have hb:afC q l.length=false:=by
   cases hb:afC q l.length
   .rfl
   .exact absurd (Sr hb) h
  rw[hb];simp only[amh,axY (ayU h)];rfl
def wsV(s:ByteArray):AV:=.aN [iA (aEd s.size),nU]
theorem ajY{s:ByteArray}(h0:0<s.size)(h:l.length+s.size<=1000000000):cu bW 128 [.own 0 0,zA s] (pM l b u) (wsV s) (sj (l++bL s) b u):=by
 refine(bM aB av bO (aC aX bJ) bS Tryz.func128 (by kernel_rfl) (by kernel_rfl) (mem:=pM l b u) aS rfl (τ:=[some 0,some 1,some 2]) (by rfl) ((ava l s b u).trans (by rw[fH aaE,avc h0 h];rfl))).HY ?_;have hlen:(l++bL s).length=l.length+s.size:=by rw[uI];rfl
 refine⟨ER ?_,ER rfl,aaH ⟨5,1,l.length+s.size,_,uE (l++bL s),rfl,?_,λ q _=>(ahq l (bL s) q).symm⟩,trivial⟩
 .show FT 2 (l++bL s).length b u=_
  rw[hlen]
 .unfold bR;rw[hlen]
theorem agn{s:ByteArray}(h0:0<s.size)(h:s.size<=1000000000):cu bW 128 [.own 0 0,zA s] (G7 b u) (wsV s) (pM (bL s) b u):=by
 refine(bM aB av bO (aC aX bJ) bS Tryz.func128 (by kernel_rfl) (by kernel_rfl) (mem:=G7 b u) aS rfl (τ:=[some 0,some 1]) (by rfl) ((aqO s b u).trans (by rw[fH ahp,show afC 0 s.size=true from ah4 h0,ah4 (by omega)];rfl))).HY ?_;refine⟨ER ?_,aaH ⟨5,1,0+s.size,_,uE (bL s),rfl,?_,λ q _=>rfl⟩,trivial⟩
 .rw[avB];rfl
 .unfold bR;rw[avB];rfl
theorem ajX{c:UInt8}(h:l.length<=1000000000):cu bW 127 [.own 0 0,yA ((c.toNat:Nat):Int)] (pM l b u) nU (sj (l++[c]) b u):=by
 refine(bM aB av bO (aC aX bJ) bS Tryz.func127 (by kernel_rfl) (by kernel_rfl) (mem:=pM l b u) aS rfl (τ:=[some 0,some 1,some 3]) (by rfl) ((avb l _ b u).trans (by rw[fH aaE,qz (by omega)];rfl))).HY ?_;have hlen:(l++[c]).length=l.length+1:=by simp
 refine⟨ER ?_,ER rfl,aaH ⟨5,1,l.length+1,_,uE (l++[c]),rfl,?_,λ q hq=>?_⟩,trivial⟩
 .show FT 2 (l++[c]).length b u=_
  rw[hlen]
 .unfold bR;rw[hlen]
 .rw[<-ahq l [c] q]
  by_cases hl:q<l.length
  .rw[show afC q l.length=true from ah4 hl]
   rfl
  .have:q - l.length=0:=by omega
   unfold spread;rw[this];rfl
end
def PX(mem:List Row):Nat:=match mem with
 |.t _ [_,.fJ k _ _ _,_,_]::_=>k
 |_=>0
def ou(mem:List Row)(l:List UInt8)(b u:Bool):List Row:=(match mem with
 |_::r=>FT mem.length l.length b u::r.set (PX mem - 1) .dead
 | []=>[])++[bR l]
structure Inv(mem:List Row)(l:List UInt8)(b u:Bool):Prop where
 pos:0<PX mem
 hd:mem[0]?=some (FT (PX mem) l.length b u)
 bd:mem[PX mem]?=some (bR l)
theorem Inv.cons{mem:List Row}{l:List UInt8}{b u:Bool}(h:Inv mem l b u):∃k r,mem=FT (k+1) l.length b u::r/\r[k]?=some (bR l)/\PX mem=k+1:=by
 obtain⟨h0,h1,h2⟩:=h;cases mem with
 |nil=>simp at h1
 |cons x r =>
  simp only[List.getElem?_cons_zero,jN]at h1;obtain⟨k,hk⟩:∃k,PX (x::r)=k+1:=⟨PX (x::r) - 1,by omega⟩;rw[hk]at h1 h2;refine⟨k,r,by rw[h1],by simpa using h2,hk⟩
theorem Inv.ou{mem:List Row}{l l':List UInt8}{b u b' u':Bool}(h:Inv mem l b u):Inv (ou mem l' b' u') l' b' u'/\(Pi.ou mem l' b' u').length=mem.length+1:=by
 obtain⟨k,r,rfl,h2,h3⟩:=h.cons;have hl:(FT (k+1) l.length b u::r).length=r.length+1:=rfl;have hc:PX (Pi.ou (FT (k+1) l.length b u::r) l' b' u')=r.length+1:=rfl;refine⟨⟨by rw[hc];omega,by rw[hc];rfl,?_⟩,?_⟩
 .rw[hc]
  show((FT _ _ _ _::r.set _ _)++[bR l'])[r.length+1]?=_;rw[axY (by simp)];simp
 .unfold Pi.ou
  simp
theorem xP{f:Nat}{args:List AV}{r:AV}{mem:List Row}{l l':List UInt8}{b u b' u':Bool}(hI:Inv mem l b u)(ha:∀g,gP g args=args)(hr:∀g,jw g r=r)(h:cu bW f (.own 0 0::args) (pM l b u) r (sj l' b' u')):bP bW f (.own 0 0::args) mem r (ou mem l' b' u'):=by
 obtain⟨k,rs,rfl,h2,h3⟩:=hI.cons;have hk:k<rs.length:=(aj8.1 h2).1;have hst:ou (FT (k+1) l.length b u::rs) l' b' u'=(FT (rs.length+1) l'.length b' u'::rs.set k .dead)++[bR l']:=rfl;rw[<-hr (CF [0,k+1] (FT (k+1) l.length b u::rs).length),hst];refine xC h [0,k+1] rfl ?_ (by show _=_::gP _ args;rw[ha];rfl) (λ i j hi=>?_) ⟨λ j hj hl=>?_,λ i j r hi hr=>?_,λ i r hi hr=>?_⟩
 .show(_&&(_&&true))=true
  simp
 .match i,hi with
  | 0,hi=>simp at hi;subst hi;exact⟨_,rfl,rfl,by simp[iX,gP,jw,oH,aDh,pM,FT,bA]⟩
  | 1,hi =>
   simp at hi;subst hi;refine⟨bR l,by simpa using h2,rfl,rfl⟩
  |n+2,hi=>simp at hi
 .have h0:j≠0:=λ e=>hj (by simp[e])
  have h1:j≠k+1:=λ e=>hj (by simp[e]);obtain⟨q,rfl⟩:∃q,j=q+1:=⟨j - 1,by omega⟩;have hq:q<rs.length:=by simpa using hl
  rw[apR (by simpa using hq)];simp only[azD];rw[ay9 (by omega)]
 .match i,hi with
  | 0,hi =>
   simp at hi;subst hi;cases hr;show some _=some _;simp[iX,gP,jw,CF,FT,bA]
  | 1,hi =>
   simp at hi;subst hi;cases hr;show((FT _ _ _ _::rs.set k .dead)++[bR l'])[k+1]?=some .dead;rw[apR (by simpa using hk)];simp only[azD];rw[azq hk]
  |n+2,hi=>simp at hi
 .match i,hi,hr with
  | 0,hi,_=>exact absurd hi (by show ¬ 2<=0;omega)
  | 1,hi,_=>exact absurd hi (by show ¬ 2<=1;omega)
  | 2,_,hr =>
   cases hr;show((FT _ _ _ _::rs.set k .dead)++[bR l'])[rs.length+1+0]?=some _;rw[axY (by simp)];simp[iX,bR]
  |n+3,_,hr=>cases hr
def tkA(ts:List (List UInt8)):AV:=.sl 1 ts.length λ q=>[zA (lB (ts.getD q []))]
def QV(ts:List (List UInt8))(mem:List Row)(i:Int):St:=mkS 29 [(0,.own 0 0),(6,tkA ts),(7,iA (ts.length:Nat)),(8,iA i)] mem
def KI:List Nat:=[0,6,7,8]
section
variable(ts:List (List UInt8))(l l1 l2:List UInt8)(b u:Bool)(i:Int)(mem:List Row)
noncomputable def ptW:List bH:=[wQ bW 127 (λ _ _=>nU) (λ _ mem=>ou mem l1 true u),wQ bW 128 (λ a _=>match a with | [_,.x (.string s)]=>wsV s |_=>.any) (λ _ mem=>ou mem l2 b u)]
def tkI:ByteArray:=lB (ts.getD i.toNat [])
noncomputable def ptB(m:List Row)(x:Option Out):Option Out:=cond (iY (bP bW 127 [.own 0 0,yA 32] m nU (ou m l1 true u))) x none
noncomputable def ptT(m:List Row)(x:Option Out):Option Out:=cond (iY (bP bW 128 [.own 0 0,zA (tkI ts i)] m (wsV (tkI ts i)) (ou m l2 b u))) x none
noncomputable def ptC(x:Option Out)(y:Option Out):Option Out:=cond (decide (i<(ts.length:Nat))) (cond (mI i ts.length||false) x none) y
theorem auq:tC bW [] [] [] (ptW l1 l2 true u) [] aM (au aB8 0) (QV ts (pM l true u) i) (fu KI [some 0,some 1,some 3])=ptC ts i (ptB l1 u (pM l true u) (ptT ts l2 true u i (ou (pM l true u) l1 true u) (some ⟨.normal,QV ts (sj l2 true u) (aI (i+1)),.any⟩))) none:=by kernel_rfl
theorem aur:tC bW [] [] [] (ptW l1 l2 true u) [] aM (au aB8 0) (QV ts (sj l true u) i) (fu KI [some 0,some 1,some 4])=ptC ts i (ptB l1 u (sj l true u) (ptT ts l2 true u i (ou (sj l true u) l1 true u) (some ⟨.normal,QV ts (sj l2 true u) (aI (i+1)),.any⟩))) none:=by kernel_rfl
theorem aus:tC bW [] [] [] (ptW l1 l2 false u) [] aM (au aB8 0) (QV ts (pM l false u) i) (fu KI [some 0,some 1,some 2])=ptC ts i (ptT ts l2 false u i (pM l false u) (some ⟨.normal,QV ts (sj l2 true u) (aI (i+1)),.any⟩)) none:=by kernel_rfl
theorem apa:tC bW [] [] [] (ptW l1 l2 true u) [] aM (au aB8 0) (QV ts (sj l true u) i) (gM KI [some 0,some 1,some 2])=ptC ts i (ptB l1 u (sj l true u) (ptT ts l2 true u i (ou (sj l true u) l1 true u) none)) (some ⟨.exit 0,QV ts (sj l true u) i,.any⟩):=by kernel_rfl
theorem aut:eu bW [] [] [] [] [] (gu 1 (rC 2 KI [some 0,some 1] (QV ts (pM l b u) 0) (.exit 0) (QV ts (sj l2 true u) (ts.length:Nat)))) aB8 [.own 0 0,tkA ts] (pM l b u) [some 0,some 1,some 2] =
 gate (iV 2 (QV ts (pM l b u) 0) (QV ts (pM l b u) 0)) (fD (.aN []) (sj l2 true u)):=by kernel_rfl
end
def tks:Bool->List (List UInt8)->List UInt8
 |_,[]=>[]
 |b,t::r=>(if b then [32]else [])++(t++tks true r)
theorem qH:∀(A B:List (List UInt8)) (b:Bool),A≠[]->tks b (A++B)=tks b A++tks true B
 | [],_,_,h=>absurd rfl h
 | [t],B,b,_=>by simp[tks]
 |t::t'::r,B,b,_=>by
  have ih:=qH (t'::r) B true (by simp);rw[List.cons_append];show(if b then [32]else [])++(t++tks true (t'::r++B))=((if b then [32]else [])++(t++tks true (t'::r)))++_
  rw[ih];simp only[aiR]
theorem Z8(b:Bool)(t:List UInt8):tks b [t]=(if b then [32]else [])++t:=by simp[tks]
theorem af7{ts:List (List UInt8)}(b:Bool){j:Nat}(h0:0<j)(hj:j<ts.length):tks b (ts.take (j+1))=tks b (ts.take j)++([32]++ts.getD j []):=by
 have e:ts.take (j+1)=ts.take j++[ts.getD j []]:=by
  rw[aDt,amh,adv hj];rfl
 rw[e,qH _ _ _ (by intro h;rcases List.take_eq_nil_iff.1 h with h |h<;>simp_all),Z8]
 rfl
theorem Qb{ts:List (List UInt8)}(b:Bool)(j:Nat):(tks b (ts.take j)).length<=(tks b ts).length:=by
 by_cases h:ts.take j=[]
 .rw[h];simp[tks]
 .have:=qH (ts.take j) (ts.drop j) b h
  rw[List.take_append_drop]at this;rw[this,uI];omega
theorem af8{ts:List (List UInt8)}(hne:∀t,t∈ts->t≠[]){j:Nat}(hj:j<ts.length):0<(lB (ts.getD j [])).size:=by
 have hm:ts.getD j []∈ts:=by
  rw[amh,adv hj];exact azH hj
 exact aAa.2 (hne _ hm)
theorem jf{np:Nat}{l:List Entry}{ks:List aV}{ms:List fQ}{ws:List bH}{rs:List lY}{L:Nat->Option dN}{c:Code}{s s':St}{e:Exit}{k:jZ}(hk:KF np k)(hl:∀e,e∈l->lg bW e)(hks:∀e,e∈ks->tO bW e)(hms:∀e,e∈ms->vU bW e)(hws:∀e,e∈ws->vk bW e)(hrs:∀e,e∈rs->Wp bW e)(hL:nu np bW L c)(h:tC bW l ks ms ws rs L c s k=some ⟨e,s',.any⟩):fG np bW c s e s' :=
 J6 hk (gL hl hks hms hws hrs) (iJ (gL hl hks hms hws hrs) (by kernel_rfl)) hL h
theorem KJ(l:List UInt8)(b u:Bool):Inv (pM l b u) l b u:=⟨by show 0<1;omega,rfl,rfl⟩
theorem Pp(l:List UInt8)(b u:Bool):Inv (sj l b u) l b u:=⟨by show 0<2;omega,rfl,rfl⟩
theorem Z9{mem:List Row}{l:List UInt8}{b u:Bool}(hI:Inv mem l b u)(c:UInt8)(h:l.length<=1000000000):bP bW 127 [.own 0 0,yA ((c.toNat:Nat):Int)] mem nU (ou mem (l++[c]) b u):=xP hI (λ _=>rfl) (λ _=>rfl) (ajX h)
theorem Qc{mem:List Row}{l:List UInt8}{b u:Bool}(hI:Inv mem l b u){s:ByteArray}(h0:0<s.size)(h:l.length+s.size<=1000000000):bP bW 128 [.own 0 0,zA s] mem (wsV s) (ou mem (l++bL s) b u):=xP hI (λ _=>rfl) (λ _=>rfl) (ajY h0 h)
theorem auu{mem:List Row}{l:List UInt8}{b u:Bool}(hI:Inv mem l b u)(h:l.length<=1000000000):bP bW 127 [.own 0 0,yA 32] mem nU (ou mem (l++[32]) b u):=Z9 hI 32 h
theorem IB(x:List UInt8):(lB x).size=x.length:=rfl
def ptF(ts:List (List UInt8))(l:List UInt8)(b u:Bool):Nat->St
 | 0=>QV ts (pM l b u) 0
 |j+1=>QV ts (sj (l++tks b (ts.take (j+1))) true u) ((j+1:Nat):Int)
section
variable{ts:List (List UInt8)}{l:List UInt8}{b u:Bool}
theorem XG{j:Nat}(hj:j<ts.length)(x y:Option Out):ptC ts ((j:Nat):Int) x y=x:=by
 unfold ptC;rw[dec_lt hj,gy hj];rfl
theorem Qd(l1 l2:List UInt8)(b u:Bool):∀e,e∈ptW l1 l2 b u->vk bW e:=aC aX (aC aX bJ)
theorem af9(h0:ts≠[])(hne:∀t,t∈ts->t≠[])(hm:ts.length<=100000)(hb:l.length+(tks b ts).length<=900000000):fG 2 bW (.loop (au aB8 0)) (QV ts (pM l b u) 0) (.exit 0) (QV ts (sj (l++tks b ts) true u) (ts.length:Nat)):=by
 have hpos:0<ts.length:=aAa.2 h0;refine aU (ptF ts l b u) ts.length (.exit 0) _ (by simp) (λ j hj=>?_) ?_
 .have hs:=af8 hne hj
  have hl:=Qb (ts:=ts) b (j+1);have hI:∀i:Nat,tkI ts (i:Nat)=lB (ts.getD i []):=λ i=>by unfold tkI;rw[Zk]
  cases j with
  |zero =>
   have e0:tks b (ts.take 1)=(if b then [32]else [])++ts.getD 0 []:=by
    rw[show ts.take 1=[ts.getD 0 []] by cases ts with |nil=>exact absurd rfl h0 |cons a r=>rfl,Z8]
   have hz:(0:Int)=((0:Nat):Int):=rfl;cases b with
   |true =>
    have e1:l++tks true (ts.take 1)=(l++[32])++bL (lB (ts.getD 0 [])):=by rw[e0,jr];simp
    have hl':(l++[32]).length=l.length+1:=by simp
    rw[e0]at hl;simp only[if_true,uI,anE,arB]at hl;refine jf (jI _ (by rfl)) aB av bO (Qd _ _ _ _) bS aS ((auq ts l (l++[32]) (l++tks true (ts.take 1)) u 0).trans ?_);rw[hz,XG hj];unfold ptB ptT
    have hw:bP bW 128 [.own 0 0,zA (lB (ts.getD 0 []))] (ou (pM l true u) (l++[32]) true u) (wsV (lB (ts.getD 0 []))) (ou (ou (pM l true u) (l++[32]) true u) (l++tks true (ts.take 1)) true u):=by
     rw[e1];exact Qc (KJ l true u).ou.1 hs (by rw[hl',IB];omega)
    rw[hI,fH (auu (KJ l true u) (by omega)),fH hw];rfl
   |false =>
    have e1:l++tks false (ts.take 1)=l++bL (lB (ts.getD 0 [])):=by rw[e0,jr];simp
    rw[e0]at hl;simp only[Bool.false_eq_true,if_false,List.nil_append]at hl;refine jf (jI _ (by rfl)) aB av bO (Qd _ _ _ _) bS aS ((aus ts l [] (l++tks false (ts.take 1)) u 0).trans ?_);rw[hz,XG hj];unfold ptT
    have hw:bP bW 128 [.own 0 0,zA (lB (ts.getD 0 []))] (pM l false u) (wsV (lB (ts.getD 0 []))) (ou (pM l false u) (l++tks false (ts.take 1)) false u):=by
     rw[e1];exact Qc (KJ l false u) hs (by rw[IB];omega)
    rw[hI,fH hw];rfl
  |succ j =>
   have e0:=af7 (ts:=ts) b (j:=j+1) (by omega) hj;have e1:l++tks b (ts.take (j+2))=(l++tks b (ts.take (j+1))++[32])++bL (lB (ts.getD (j+1) [])):=by rw[e0,jr];simp
   have hl':(l++tks b (ts.take (j+1))++[32]).length=l.length+(tks b (ts.take (j+1))).length+1:=by simp[Nat.add_assoc]
   have hl2:(l++tks b (ts.take (j+1))).length=l.length+(tks b (ts.take (j+1))).length:=uI;rw[show j+1+1=j+2 from rfl,e0]at hl;simp only[uI,anE,arB]at hl;refine jf (jI _ (by rfl)) aB av bO (Qd _ _ _ _) bS aS ((aur ts (l++tks b (ts.take (j+1))) (l++tks b (ts.take (j+1))++[32]) (l++tks b (ts.take (j+2))) u ((j+1:Nat):Int)).trans ?_);rw[XG hj];unfold ptB ptT
   have hw:bP bW 128 [.own 0 0,zA (lB (ts.getD (j+1) []))] (ou (sj (l++tks b (ts.take (j+1))) true u) (l++tks b (ts.take (j+1))++[32]) true u) (wsV (lB (ts.getD (j+1) []))) (ou (ou (sj (l++tks b (ts.take (j+1))) true u) (l++tks b (ts.take (j+1))++[32]) true u) (l++tks b (ts.take (j+2))) true u):=by
    rw[e1];exact Qc (Pp _ true u).ou.1 hs (by rw[hl',IB];omega)
   rw[hI,fH (auu (Pp _ true u) (by rw[hl2];omega)),fH hw,bD (by omega)];rfl
 .obtain⟨k,hk⟩:∃k,ts.length=k+1:=⟨ts.length - 1,by omega⟩
  have et:ts.take (k+1)=ts:=by rw[<-hk];exact aB4
  have es:ptF ts l b u ts.length=QV ts (sj (l++tks b ts) true u) (ts.length:Nat):=by
   rw[hk];show QV ts (sj (l++tks b (ts.take (k+1))) true u) _=_;rw[et]
  rw[es];refine jf (lT _ (by rfl)) aB av bO (Qd _ _ _ _) bS aS ((apa ts (l++tks b ts) [] [] u (ts.length:Nat)).trans ?_);unfold ptC;rw[bQ];rfl
theorem aga(h0:ts≠[])(hne:∀t,t∈ts->t≠[])(hm:ts.length<=100000)(hb:l.length+(tks b ts).length<=900000000):cu bW 87 [.own 0 0,tkA ts] (pM l b u) (.aN []) (sj (l++tks b ts) true u):=by
 refine bM aB av bO bJ bS Tryz.func87 (by kernel_rfl) (by kernel_rfl) (mem:=pM l b u) (zk (i:=1) 1 (by kernel_rfl) λ j hj _=>?_) rfl (τ:=[some 0,some 1,some 2]) (by rfl) ((aut ts l (l++tks b ts) b u).trans ?_)
 .have:j=0:=by omega
  subst this;exact jy (by rfl) (af9 h0 hne hm hb)
 .rw[ah (iV.refl _)]
end
def Pr(f:Nat)(args:List AV)(E:Bool->List UInt8)(bad bf:Bool):Prop:=∀l b u,l.length+(E b).length<=900000000->cu bW f (.own 0 0::args) (pM l b u) (.aN []) (sj (l++E b) bf (u||bad))
inductive Itm where
 |w (f:Nat) (a:List AV) (bf:Bool)
 |g (p:Prop)
 |n (t:Bool)
def BO(t:Bool)(m:List Row):List Row:=match m with
 |.t T [a,o,b,.x (.bool u)]::r=>.t T [a,o,b,bA (cond u true (!t))]::r
 |m=>m
noncomputable def tH(L:Nat->List UInt8)(U:Nat->Bool):List Itm->List Row->(List Row->Option Out)->Option Out
 | [],m,k=>k m
 |.w f a bf::r,m,k=>cond (iY (bP bW f (.own 0 0::a) m (.aN []) (ou m (L m.length) bf (U m.length)))) (tH L U r (ou m (L m.length) bf (U m.length)) k) none
 |.g p::r,m,k=>gate p (tH L U r m k)
 |.n t::r,m,k=>cond (iY (bP bW 133 [.own 0 0,bA t] m (.aN []) (BO t m))) (tH L U r (BO t m) k) none
noncomputable def wP(f:Nat)(bf:Bool)(L:Nat->List UInt8)(U:Nat->Bool):bH:=wQ bW f (λ _ _=>.aN []) (λ _ mem=>ou mem (L mem.length) bf (U mem.length))
noncomputable def wNd:bH:=wQ bW 133 (λ _ _=>.aN []) (λ a mem=>match a with
 | [_,.x (.bool t)]=>BO t mem
 |_=>mem)
theorem bX{f:Nat}{bf:Bool}{L:Nat->List UInt8}{U:Nat->Bool}:vk bW (wP f bf L U):=aX
theorem uT:vk bW wNd:=aX
def cmp(m:List Row):List Row:=match m with
 |.t T [a,.fJ k s o n,b,u]::r=>[.t T [a,.fJ 2 s o n,b,u],.dead,r.getD (k - 1) .dead]
 |_=>[]
theorem Inv.cmp{mem:List Row}{l:List UInt8}{b u:Bool}(h:Inv mem l b u):cmp mem=sj l b u:=by
 obtain⟨k,r,rfl,h2,h3⟩:=h.cons;show [_,_,r.getD k .dead]=_;rw[amh,h2];rfl
section
variable(l:List UInt8)(b u t:Bool)
theorem auY:eu bW [] [] [] [] [] aM Tryz.f133 [.own 0 0,bA t] (pM l b u) [some 0,some 1]=fD (.aN []) (pM l b (cond u true (!t))):=by kernel_rfl
end
theorem ach(l:List UInt8)(b u t:Bool):cu bW 133 [.own 0 0,bA t] (pM l b u) (.aN []) (pM l b (cond u true (!t))) :=
 bM aB av bO bJ bS Tryz.func133 (by kernel_rfl) (by kernel_rfl) (mem:=pM l b u) aS rfl (τ:=[some 0,some 1]) (by rfl) (auY l b u t)
theorem Inv.need{mem:List Row}{l:List UInt8}{b u:Bool}(h:Inv mem l b u)(t:Bool):Inv (BO t mem) l b (cond u true (!t))/\(BO t mem).length=mem.length:=by
 obtain⟨k,r,rfl,h2,h3⟩:=h.cons;exact⟨⟨by show 0<k+1;omega,rfl,h2⟩,rfl⟩
theorem Ny{mem:List Row}{l:List UInt8}{b u:Bool}(hI:Inv mem l b u)(t:Bool):bP bW 133 [.own 0 0,bA t] mem (.aN []) (BO t mem):=by
 obtain⟨k,rs,rfl,h2,h3⟩:=hI.cons;have hk:k<rs.length:=(aj8.1 h2).1;refine xC (v:=.aN []) (ach l b u t) [0,k+1] rfl (by show(_&&(_&&true))=true;simp) rfl (λ i j hi=>?_) ⟨λ j hj hl=>?_,λ i j r hi hr=>?_,λ i r hi hr=>?_⟩
 .match i,hi with
  | 0,hi=>simp at hi;subst hi;exact⟨_,rfl,rfl,by simp[iX,gP,jw,oH,aDh,pM,FT,bA]⟩
  | 1,hi =>
   simp at hi;subst hi;refine⟨bR l,by simpa using h2,rfl,rfl⟩
  |n+2,hi=>simp at hi
 .have h0:j≠0:=λ e=>hj (by simp[e])
  obtain⟨q,rfl⟩:∃q,j=q+1:=⟨j - 1,by omega⟩;rfl
 .match i,hi with
  | 0,hi =>
   simp at hi;subst hi;cases hr;show some _=some _;simp[iX,gP,jw,CF,FT,bA]
  | 1,hi =>
   simp at hi;subst hi;cases hr;show rs[k]?=_;rw[h2];rfl
  |n+2,hi=>simp at hi
 .match i,hi,hr with
  | 0,hi,_=>exact absurd hi (by show ¬ 2<=0;omega)
  | 1,hi,_=>exact absurd hi (by show ¬ 2<=1;omega)
  |n+2,_,hr=>cases hr
inductive SI where
 |w (f:Nat) (a:List AV) (E:Bool->List UInt8) (bad bf:Bool)
 |g (p:Prop)
 |n (t:Bool)
def SI.itm:SI->Itm
 |.w f a _ _ bf=>.w f a bf
 |.g p=>.g p
 |.n t=>.n t
def SI.ok:SI->Prop
 |.w f a E bad bf=>Pr f a E bad bf/\∀g,gP g a=a
 |.g p=>p
 |.n _=>True
def comp:List SI->Bool->List UInt8
 | [],_=>[]
 |.w _ _ E _ bf::r,b=>E b++comp r bf
 |.g _::r,b=>comp r b
 |.n _::r,b=>comp r b
def fU:List SI->Bool
 | []=>false
 |.w _ _ _ bad _::r=>bad||fU r
 |.g _::r=>fU r
 |.n t::r=>!t||fU r
def cbf:List SI->Bool->Bool
 | [],b=>b
 |.w _ _ _ _ bf::r,_=>cbf r bf
 |.g _::r,b=>cbf r b
 |.n _::r,b=>cbf r b
def LU:List SI->List UInt8->Bool->Bool->List (List UInt8 × Bool)
 | [],_,_,_=>[]
 |.w _ _ E bad bf::r,l,b,u=>(l++E b,u||bad)::LU r (l++E b) bf (u||bad)
 |.g _::r,l,b,u=>LU r l b u
 |.n t::r,l,b,u=>LU r l b (cond u true (!t))
theorem AB:∀(its:List SI) (Z:List (List UInt8 × Bool)) (n0:Nat) (m:List Row) (l:List UInt8) (b u:Bool) (k:List Row->Option Out),Inv m l b u->n0<=m.length->(∀i,(LU its l b u)[i]?≠none->Z[m.length - n0+i]?=(LU its l b u)[i]?)->(∀i,i∈its->i.ok)->l.length+(comp its b).length<=900000000 ->
  ∃m',Inv m' (l++comp its b) (cbf its b) (u||fU its)/\tH (λ n=>(Z.getD (n - n0) ([],false)).1) (λ n=>(Z.getD (n - n0) ([],false)).2) (its.map SI.itm) m k=k m'
 | [],Z,n0,m,l,b,u,k,hI,_,_,_,_=>⟨m,by simpa[comp,fU,cbf]using hI,rfl⟩
 |.g p::r,Z,n0,m,l,b,u,k,hI,h0,hZ,hok,hl=>by
  have hp:p:=hok (.g p) (by simp);obtain⟨m',h1,h2⟩:=AB r Z n0 m l b u k hI h0 hZ (λ i hi=>hok i (by simp[hi])) hl;refine⟨m',h1,?_⟩;show gate p _=_;rw[ah hp];exact h2
 |.n t::r,Z,n0,m,l,b,u,k,hI,h0,hZ,hok,hl=>by
  obtain⟨hI',hlen⟩:=hI.need t;obtain⟨m',h1,h2⟩:=AB r Z n0 (BO t m) l b (cond u true (!t)) k hI' (by rw[hlen];exact h0) (by rw[hlen];exact hZ) (λ i hi=>hok i (by simp[hi])) hl;refine⟨m',?_,?_⟩
  .have e:(u||(!t||fU r))=(cond u true (!t)||fU r):=by cases u<;>rfl
   show Inv m' (l++comp r b) (cbf r b) (u||(!t||fU r));rw[e];exact h1
  .show cond (iY _) _ none=_
   rw[fH (Ny hI t)];exact h2
 |.w f a E bad bf::r,Z,n0,m,l,b,u,k,hI,h0,hZ,hok,hl=>by
  obtain⟨hP,ha⟩:SI.ok (.w f a E bad bf):=hok (.w f a E bad bf) (by simp)
  have hl':l.length+((E b).length+(comp r bf).length)<=900000000:=by
   have:(comp (.w f a E bad bf::r) b).length=(E b).length+(comp r bf).length:=uI;omega
  obtain⟨hI',hlen⟩:=hI.ou (l':=l++E b) (b':=bf) (u':=u||bad)
  have hz:Z.getD (m.length - n0) ([],false)=(l++E b,u||bad):=by
   have:=hZ 0 (by simp[LU]);rw[ayO]at this;rw[amh,this];rfl
  obtain⟨m',h1,h2⟩:=AB r Z n0 (ou m (l++E b) bf (u||bad)) (l++E b) bf (u||bad) k hI' (by rw[hlen];omega) (λ i hi=>by
   have:=hZ (i+1) (by simpa[LU]using hi);rw[hlen,show m.length+1 - n0+i=m.length - n0+(i+1) by omega,this];rfl) (λ i hi=>hok i (by simp[hi])) (by rw[uI];omega)
  refine⟨m',?_,?_⟩
  .have e1:l++comp (.w f a E bad bf::r) b=l++E b++comp r bf:=(aiR _ _ _).symm
   have e2:(u||fU (.w f a E bad bf::r))=(u||bad||fU r):=(Bool.or_assoc _ _ _).symm;rw[e1,e2];exact h1
  .show cond (iY (bP bW f (.own 0 0::a) m (.aN []) (ou m (Z.getD (m.length - n0) ([],false)).1 bf (Z.getD (m.length - n0) ([],false)).2))) (tH _ _ (r.map SI.itm) (ou m (Z.getD (m.length - n0) ([],false)).1 bf (Z.getD (m.length - n0) ([],false)).2) k) none=_
   rw[hz,fH (xP hI ha (λ _=>rfl) (hP l b u (by omega)))];exact h2
theorem ZA{l:List UInt8}{b u:Bool}(r:List Row):Inv (pM l b u++r) l b u:=⟨by show 0<1;omega,rfl,rfl⟩
theorem mW{f:Nat}{args:List AV}{bx:List Row}(its:List SI)(hok:∀i,i∈its->i.ok)
  (h:∀L U l b u,tH L U (its.map SI.itm) (pM l b u++bx) (λ m=>fD (.aN []) (cmp m))=fD (.aN []) (sj (l++comp its b) (cbf its b) (u||fU its))->cu bW f (.own 0 0::args) (pM l b u) (.aN []) (sj (l++comp its b) (cbf its b) (u||fU its)))
  {E:Bool->List UInt8} {bad bf:Bool} (hE:comp its=E) (hbad:fU its=bad) (hbf:∀b,cbf its b=bf):Pr f args E bad bf:=λ l b u hl=>by
 subst hE hbad;obtain⟨m',h1,h2⟩:=AB its (LU its l b u) (pM l b u++bx).length (pM l b u++bx) l b u (λ m=>fD (.aN []) (cmp m)) (ZA bx) (ao5 _) (λ i _=>by rw[aDP,avB]) hok hl;have:=h _ _ l b u (h2.trans (by rw[h1.cmp]));rw[hbf]at this;exact this
theorem aqu{ts:List (List UInt8)}(h0:ts≠[])(hne:∀t,t∈ts->t≠[])(hm:ts.length<=100000):Pr 87 [tkA ts] (λ b=>tks b ts) false true:=λ l b u hl=>by
 rw[aAS];exact aga h0 hne hm hl
def typed(t:Nat):fQ:=⟨ak9 t,λ _ _ _=>none,none⟩
theorem TS{P:Program}(t:Nat):vU P (typed t):=⟨⟨λ _ _ _ _ h=>(by cases h),λ _ _ _ _ _ _ h=>(by cases h)⟩,λ _ h=>(by cases h)⟩
def born(t:Nat):fQ:=⟨adG t,λ _ _ _=>none,none⟩
theorem iK{P:Program}(t:Nat):vU P (born t):=⟨⟨λ _ _ _ _ h=>(by cases h),λ _ _ _ _ _ _ h=>(by cases h)⟩,λ _ h=>(by cases h)⟩
def tJ(ts:List (List UInt8)):AV:=.sl 1 ts.length (chunk (ts.map λ t=>zA (lB t)) 1)
def YD(xs:List Nat):AV:=.sl 1 xs.length (chunk (xs.map .f) 1)
def gIt:List AV->AV
 | [.x (.int _ n)]=>zA (lB (ala n))
 |_=>.any
def gDc(dc:Int->List UInt8):List AV->AV
 | [.x (.int _ n)]=>zA (lB (dc n))
 |_=>.any
def gTh(tn:Nat->Int)(tb:Nat->Bool):List AV->AV
 | [.f w]=>.aN [iA (tn w),bA (tb w)]
 |_=>.any
noncomputable def kIt:aV:=kS bW 129 gIt
noncomputable def kNm(nm:Int->List UInt8):aV:=kS bW 130 (gDc nm)
noncomputable def kDc(dc:Int->List UInt8):aV:=kS bW 131 (gDc dc)
noncomputable def kTh(tn:Nat->Int)(tb:Nat->Bool):aV:=kS bW 153 (gTh tn tb)
def JJ(n:Int):Prop:=aj bW 129 [iA n] (zA (lB (ala n)))
def Wv(nm:Int->List UInt8)(n:Int):Prop:=aj bW 130 [iA n] (zA (lB (nm n)))
def FDc(dc:Int->List UInt8)(n:Int):Prop:=aj bW 131 [iA n] (zA (lB (dc n)))
def FTh(tn:Nat->Int)(tb:Nat->Bool)(w:Nat):Prop:=aj bW 153 [.f w] (.aN [iA (tn w),bA (tb w)])
abbrev wN:List fQ:=[born 57,born 88]
section
variable(L:Nat->List UInt8)(U:Nat->Bool)(l l1 l2:List UInt8)(b u u1:Bool)(nm dc:Int->List UInt8)(tn:Nat->Int)(tb:Nat->Bool)
def ko(ts:List (List UInt8)):Itm:=.w 87 [tJ ts] true
def afX:Itm:=.w 89 [] false
def akk(a b c:Nat):AV:=.agg [.f a,.f b,.f c]
def FJ(a b c:Nat):Itm:=.w 125 [akk a b c] true
def iFl(xs:List Nat):Itm:=.w 126 [YD xs] true
def iWh(f:Nat->Int):Itm:=.w 88 [.agg [iA (f 0),iA (f 1),iA (f 2)]] true
noncomputable def DW:bH:=wP 87 true L U
noncomputable def afW:bH:=wP 89 false L U
noncomputable def wVc:bH:=wP 125 true L U
noncomputable def wFl:bH:=wP 126 true L U
noncomputable def wWh:bH:=wP 88 true L U
noncomputable def kF(m:List Row):Option Out:=fD (.aN []) (cmp m)
theorem aqW:eu bW [] [] wN [wQ bW 87 (λ _ _=>.aN []) (λ _ mem=>ou mem l1 true u),wQ bW 127 (λ _ _=>nU) (λ _ mem=>ou mem l2 true u)] [] aM Tryz.f89 [.own 0 0] (pM l b u) [some 0,some 1,some 3] =
 cond (iY (bP bW 87 [.own 0 0,tJ [[59]]] (pM l b u) (.aN []) (ou (pM l b u) l1 true u))) (cond (iY (bP bW 127 [.own 0 0,yA 10] (ou (pM l b u) l1 true u) nU (ou (ou (pM l b u) l1 true u) l2 true u))) (fD (.aN []) (sj l2 false u)) none) none:=by kernel_rfl
theorem akM(k:Int):eu bW [] [kNm nm] wN [DW L U,afW L U] [] aM Tryz.f93 [.own 0 0,iA k] (pM l b u) [some 0,some 1,some 3]=tH L U [.g (Wv nm k),ko [nm k],afX] (pM l b u) kF:=by kernel_rfl
theorem acp(f:Nat->Int):eu bW [] [kIt] wN [DW L U] [] aM Tryz.f88 [.own 0 0,.agg [iA (f 0),iA (f 1),iA (f 2)]] (pM l b u) [some 0,some 1,some 5]=tH L U [.g (JJ (f 0)),ko [ala (f 0)],.g (JJ (f 1)),ko [ala (f 1)],.g (JJ (f 2)),ko [ala (f 2)]] (pM l b u++[.c [iA (f 0),iA (f 1),iA (f 2)]]) kF:=by kernel_rfl
def akN(x:Nat):List Itm:=[.g (FTh tn tb x),.n (tb x),.g (FDc dc (tn x)),ko [dc (tn x)]]
theorem aqX(x:Nat):eu bW [] [kTh tn tb,kDc dc] wN [DW L U,wNd] [] aM aFb [.own 0 0,YD [x]] (pM l b u) [some 0,some 1,some 2]=tH L U (akN dc tn tb x) (pM l b u) kF:=by kernel_rfl
theorem aqY(x y z:Nat):eu bW [] [kTh tn tb,kDc dc] wN [DW L U,wNd] [] aM aFb [.own 0 0,YD [x,y,z]] (pM l b u) [some 0,some 1,some 4]=tH L U (akN dc tn tb x++(akN dc tn tb y++akN dc tn tb z)) (pM l b u) kF:=by kernel_rfl
theorem aqZ(x y z:Nat):eu bW [] [] wN [wFl L U] [] aM Tryz.f125 [.own 0 0,akk x y z] (pM l b u) [some 0,some 1,some 3]=tH L U [iFl [x,y,z]] (pM l b u++[.c [.f x,.f y,.f z]]) kF:=by kernel_rfl
theorem akl(a:Nat->Nat)(f:Nat->Int):eu bW [] [] wN [DW L U,wVc L U,wWh L U,afW L U] [] aM Tryz.f91 [.own 0 0,.agg [.f (a 0),.f (a 1),.f (a 2),iA (f 0),iA (f 1),iA (f 2)]] (pM l b u) [some 0,some 1,some 7] =
 tH L U [ko [[108,97,109,112]],FJ (a 0) (a 1) (a 2),ko [[108,105,103,104,116]],iWh f,afX] (pM l b u++[.c [.f (a 0),.f (a 1),.f (a 2),iA (f 0),iA (f 1),iA (f 2)]]) kF:=by kernel_rfl
end
theorem gG:∀e,e∈wN->vU bW e:=jl (iK _) (jl (iK _) bO)
theorem acr{f:Nat}{a a' r:AV}{mem mem':List Row}(ha:∀E u,rel E a u->rel E a' u)(k:cu bW f [.own 0 0,a'] mem r mem'):cu bW f [.own 0 0,a] mem r mem':=by
 refine⟨k.1,λ R E aZ hp hW hg hr=>k.2 R E aZ hp hW hg ?_⟩;obtain⟨u,us,e1,r1,r2⟩:=aH.1 hr;obtain⟨u2,us2,e2,r3,r4⟩:=aH.1 r2;exact aH.2 ⟨u,us,e1,r1,aH.2 ⟨u2,us2,e2,ha E u2 r3,r4⟩⟩
theorem acs{l:List AV}{i:Nat}(h:i<l.length):chunk l 1 i=[l[i]]:=by
 unfold chunk;rw[Nat.mul_one,List.drop_eq_getElem_cons h];rfl
theorem akO(ts:List (List UInt8))(E:Env)(u:Value)(h:rel E (tJ ts) u):rel E (tkA ts) u:=by
 refine D8 h λ i hi=>?_;rw[acs (by simpa using hi),amh,adv hi];simp
theorem Pq{ts:List (List UInt8)}(h0:ts≠[])(hne:∀t,t∈ts->t≠[])(hm:ts.length<=100000):Pr 87 [tJ ts] (λ b=>tks b ts) false true:=λ l b u hl=>acr (akO ts) (aqu h0 hne hm l b u hl)
theorem WS{t:List UInt8}(h:t≠[]):Pr 87 [tJ [t]] (λ b=>tks b [t]) false true:=Pq (by simp) (λ x hx=>by simp at hx;subst hx;exact h) (by simp)
def ku(t:List UInt8):SI:=.w 87 [tJ [t]] (λ b=>tks b [t]) false true
theorem fq{t:List UInt8}(h:t≠[]):(ku t).ok:=⟨WS h,λ _=>rfl⟩
theorem aq0:Pr 89 [] (λ b=>tks b [[59]]++[10]) false false:=λ l b u hl=>by
 rw[aAS];have hl1:(l++tks b [[59]]).length=l.length+(tks b [[59]]).length:=uI;have hl2:l.length+((tks b [[59]]).length+1)<=900000000:=by simpa using hl
 have h1:bP bW 87 [.own 0 0,tJ [[59]]] (pM l b u) (.aN []) (ou (pM l b u) (l++tks b [[59]]) true u):=by
  have:=WS (t:=[59]) (by simp) l b u (by show l.length+(tks b [[59]]).length<=_;omega);rw[aAS]at this;exact xP (KJ l b u) (λ _=>rfl) (λ _=>rfl) this
 have h2:bP bW 127 [.own 0 0,yA 10] (ou (pM l b u) (l++tks b [[59]]) true u) nU (ou (ou (pM l b u) (l++tks b [[59]]) true u) (l++tks b [[59]]++[10]) true u):=Z9 (KJ l b u).ou.1 10 (by omega);rw[<-aiR];refine bM aB av gG (aC aX (aC aX bJ)) bS Tryz.func89 (by kernel_rfl) (by kernel_rfl) (mem:=pM l b u) aS rfl (τ:=[some 0,some 1,some 3]) (by rfl) ((aqW l (l++tks b [[59]]) (l++tks b [[59]]++[10]) b u).trans ?_);rw[fH h1,fH h2];rfl
def iD(b:Bool)(ts:List (List UInt8)):List UInt8:=tks b (ts++[[59]])++[10]
def Si:SI:=.w 89 [] (λ b=>tks b [[59]]++[10]) false false
theorem D5:Si.ok:=⟨aq0,λ _=>rfl⟩
theorem iO{P:SI->Prop}:∀i,i∈([]:List SI)->P i:=λ _ h=>by cases h
theorem aJ{P:SI->Prop}{x:SI}{l:List SI}(h:P x)(hl:∀i,i∈l->P i):∀i,i∈x::l->P i:=λ i hi=>by
 rcases azV.1 hi with rfl |hi
 .exact h
 .exact hl i hi
def oK(k:Int):List UInt8:=115::ala k
theorem ait{k:Int}(hn:Wv oK k):Pr 93 [iA k] (λ b=>iD b [oK k]) false false :=
 mW (bx:=[]) [.g (Wv oK k),ku (oK k),Si] (aJ hn (aJ (fq (by unfold oK;simp)) (aJ D5 iO)))
  (λ L U l b u h=>bM aB (ak aD av) gG (aC bX (aC bX bJ)) bS Tryz.func93 (by kernel_rfl) (by kernel_rfl) (mem:=pM l b u) aS rfl (τ:=[some 0,some 1,some 3]) (by rfl) ((akM L U l b u oK k).trans h))
  (by funext b;simp[comp,ku,Si,tks,iD]) rfl (λ _=>rfl)
theorem ab3{f:Nat->Int}(h:∀q,q<3->JJ (f q)/\ala (f q)≠[]):Pr 88 [.agg [iA (f 0),iA (f 1),iA (f 2)]] (λ b=>tks b [ala (f 0),ala (f 1),ala (f 2)]) false true :=
 mW (bx:=[.c [iA (f 0),iA (f 1),iA (f 2)]]) [.g (JJ (f 0)),ku (ala (f 0)),.g (JJ (f 1)),ku (ala (f 1)),.g (JJ (f 2)),ku (ala (f 2))]
  (aJ (h 0 (by omega)).1 <|aJ (fq (h 0 (by omega)).2) <|aJ (h 1 (by omega)).1 <|aJ (fq (h 1 (by omega)).2) <|aJ (h 2 (by omega)).1 <|aJ (fq (h 2 (by omega)).2) iO)
  (λ L U l b u h=>bM aB (ak aD av) gG (aC bX bJ) bS Tryz.func88 (by kernel_rfl) (by kernel_rfl) (mem:=pM l b u) aS rfl (τ:=[some 0,some 1,some 5]) (by rfl) ((acp L U l b u f).trans h))
  (by funext b;simp[comp,ku,tks]) rfl (λ _=>rfl)
section
variable{dc:Int->List UInt8}{tn:Nat->Int}{tb:Nat->Bool}
structure Nu(dc:Int->List UInt8)(tn:Nat->Int)(tb:Nat->Bool)(x:Nat):Prop where
 th:FTh tn tb x
 de:FDc dc (tn x)
 ne:dc (tn x)≠[]
def QM(dc:Int->List UInt8)(tn:Nat->Int)(tb:Nat->Bool)(x:Nat):List SI:=[.g (FTh tn tb x),.n (tb x),.g (FDc dc (tn x)),ku (dc (tn x))]
theorem IK{x:Nat}(h:Nu dc tn tb x):∀i,i∈QM dc tn tb x->i.ok:=aJ h.th <|aJ trivial <|aJ h.de <|aJ (fq h.ne) iO
theorem apY{x:Nat}(h:Nu dc tn tb x):Pr 126 [YD [x]] (λ b=>tks b [dc (tn x)]) (!(tb x)) true :=
 mW (bx:=[]) (QM dc tn tb x) (IK h)
  (λ L U l b u h=>bM aB (ak aD (ak aD av)) gG (aC bX (aC uT bJ)) bS Tryz.func126 (by kernel_rfl) (by kernel_rfl) (mem:=pM l b u) aS rfl (τ:=[some 0,some 1,some 2]) (by rfl) ((aqX L U l b u dc tn tb x).trans h))
  (by funext b;simp[comp,QM,ku,tks]) (by simp[fU,QM,ku]) (λ _=>rfl)
theorem aq1{x y z:Nat}(hx:Nu dc tn tb x)(hy:Nu dc tn tb y)(hz:Nu dc tn tb z):Pr 126 [YD [x,y,z]] (λ b=>tks b [dc (tn x),dc (tn y),dc (tn z)]) (!(tb x)||(!(tb y)||!(tb z))) true :=
  mW (bx:=[]) (QM dc tn tb x++(QM dc tn tb y++QM dc tn tb z)) (λ i hi=>by
      rcases ayQ.1 hi with hi |hi
      . exact IK hx i hi
      . rcases ayQ.1 hi with hi |hi
        . exact IK hy i hi
        . exact IK hz i hi)
    (λ L U l b u h=>bM aB (ak aD (ak aD av)) gG (aC bX (aC uT bJ)) bS Tryz.func126 (by kernel_rfl) (by kernel_rfl) (mem:=pM l b u) aS rfl (τ:=[some 0,some 1,some 4]) (by rfl) ((aqY L U l b u dc tn tb x y z).trans h))
    (by funext b;simp[comp,QM,ku,tks]) (by simp[fU,QM,ku]) (λ _=>rfl)
def Jd(dc:Int->List UInt8)(tn:Nat->Int)(x:Nat):List UInt8:=dc (tn x)
def ajd(tb:Nat->Bool)(x y z:Nat):Bool:=!(tb x)||(!(tb y)||!(tb z))
theorem apX{x y z:Nat}(hx:Nu dc tn tb x)(hy:Nu dc tn tb y)(hz:Nu dc tn tb z):Pr 125 [akk x y z] (λ b=>tks b [Jd dc tn x,Jd dc tn y,Jd dc tn z]) (ajd tb x y z) true :=
 mW (bx:=[.c [.f x,.f y,.f z]]) [.w 126 [YD [x,y,z]] (λ b=>tks b [Jd dc tn x,Jd dc tn y,Jd dc tn z]) (ajd tb x y z) true] (aJ ⟨aq1 hx hy hz,λ _=>rfl⟩ iO)
  (λ L U l b u h=>bM aB av gG (aC bX bJ) bS Tryz.func125 (by kernel_rfl) (by kernel_rfl) (mem:=pM l b u) aS rfl (τ:=[some 0,some 1,some 3]) (by rfl) ((aqZ L U l b u x y z).trans h))
  (by funext b;simp[comp]) (by simp[fU]) (λ _=>rfl)
end
end Go.Proofs.YtefphimaggjihaaGreatDoor.Pi
namespace Go.Ev
open Go.RowKit
def fabs(x:Nat):Nat:=cond (aL x) uP (x % 9223372036854775808)
end Go.Ev
namespace Go.Gv
open Go.RowKit Go.Ev
end Go.Gv
namespace Go.Proofs.YtefphimaggjihaaGreatDoor.Hs
open Go.Gv
open Go.Ev (cn bq dI bT fdiv d9 fI dK jO kL gN lK fabs)
abbrev V(a b c:Nat):AV:=.agg [.f a,.f b,.f c]
def one:Nat:=4607182418800017408
def eP(x:Nat):Bool:=cond (lK x 13920209183539462144) (kL x 4696837146684686336) false
def dL(a b c:Nat):Bool:=cond (cond (eP a) (eP b) false) (eP c) false
def aaS(a b c d e f:Nat):Nat:=bq (bq (bT a d) (bT b e)) (bT c f)
def Ra(b c e f:Nat):Nat:=dI (bT b f) (bT c e)
def iT(a b c:Nat):Nat:=d9 (aaS a b c a b c)
def tV(a b:Nat):Nat:=cond (jO b a) b a
def tX(a b:Nat):Nat:=cond (gN b a) b a
def eF(g:Nat->AV):List AV->Option AV
 | [.f a]=>some (g a)
 |_=>none
def eFF(g:Nat->Nat->AV):List AV->Option AV
 | [.f a,.f b]=>some (g a b)
 |_=>none
def eV(g:Nat->Nat->Nat->AV):List AV->Option AV
 | [.agg [.f a,.f b,.f c]]=>some (g a b c)
 |_=>none
def YI(g:Nat->Nat->Nat->Nat->Nat->Nat->AV):List AV->Option AV
 | [.agg [.f a,.f b,.f c],.agg [.f d,.f e,.f f]]=>some (g a b c d e f)
 |_=>none
def eVF(g:Nat->Nat->Nat->Nat->AV):List AV->Option AV
 | [.agg [.f a,.f b,.f c],.f d]=>some (g a b c d)
 |_=>none
theorem ZK{f:Nat}{g:Nat->AV}(h:∀a,aj bW f [.f a] (g a)):lg bW ⟨f,eF g⟩:=λ args r hr=>by
 simp only[eF]at hr;split at hr
 .cases hr;exact ER (h _)
 .cases hr
theorem ET{f:Nat}{g:Nat->Nat->AV}(h:∀a b,aj bW f [.f a,.f b] (g a b)):lg bW ⟨f,eFF g⟩:=λ args r hr=>by
 simp only[eFF]at hr;split at hr
 .cases hr;exact ER (h _ _)
 .cases hr
theorem tT{f:Nat}{g:Nat->Nat->Nat->AV}(h:∀a b c,aj bW f [V a b c] (g a b c)):lg bW ⟨f,eV g⟩:=λ args r hr=>by
 simp only[eV]at hr;split at hr
 .cases hr;exact ER (h _ _ _)
 .cases hr
theorem qg{f:Nat}{g:Nat->Nat->Nat->Nat->Nat->Nat->AV}(h:∀a b c d e f',aj bW f [V a b c,V d e f'] (g a b c d e f')):lg bW ⟨f,YI g⟩:=λ args r hr=>by
 simp only[YI]at hr;split at hr
 .cases hr;exact ER (h _ _ _ _ _ _)
 .cases hr
theorem Pj{f:Nat}{g:Nat->Nat->Nat->Nat->AV}(h:∀a b c d,aj bW f [V a b c,.f d] (g a b c d)):lg bW ⟨f,eVF g⟩:=λ args r hr=>by
 simp only[eVF]at hr;split at hr
 .cases hr;exact ER (h _ _ _ _)
 .cases hr
def ls(l:List Nat):Nat->Nat:=λ i=>l.getD i 0
abbrev BX(m:Nat->Nat):AV:=.agg [.f (m 0),.f (m 1),.f (m 2),.f (m 3),.f (m 4),.f (m 5)]
def eB(g:(Nat->Nat)->AV):List AV->Option AV
 | [.agg [.f a,.f b,.f c,.f d,.f e,.f f]]=>some (g (ls [a,b,c,d,e,f]))
 |_=>none
def eBB(g:(Nat->Nat)->(Nat->Nat)->AV):List AV->Option AV
 | [.agg [.f a,.f b,.f c,.f d,.f e,.f f],.agg [.f a',.f b',.f c',.f d',.f e',.f f']]=>some (g (ls [a,b,c,d,e,f]) (ls [a',b',c',d',e',f']))
 |_=>none
theorem alk{f:Nat}{g:(Nat->Nat)->AV}(h:∀a,aj bW f [BX a] (g a)):lg bW ⟨f,eB g⟩:=λ args r hr=>by
 simp only[eB]at hr;split at hr
 .cases hr;exact ER (h (ls [_,_,_,_,_,_]))
 .cases hr
theorem aoq{f:Nat}{g:(Nat->Nat)->(Nat->Nat)->AV}(h:∀a b,aj bW f [BX a,BX b] (g a b)):lg bW ⟨f,eBB g⟩:=λ args r hr=>by
 simp only[eBB]at hr;split at hr
 .cases hr;exact ER (h (ls [_,_,_,_,_,_]) (ls [_,_,_,_,_,_]))
 .cases hr
theorem sp {l : List Entry} (hl : ∀ e, e ∈ l -> lg bW e) {f : Nat} {fn : Func} (hf : bW.funcs[f]? = some fn) (hnm : (fn.name == "runtime.NumGoroutine") = false) (hb : fn.body = some (dG fn)) {args : List AV} (hlen : aqE args.length fn.ntmps = true) {r : AV}
  (h:ev bW l [] aM fn args ret=some (Out.of r)):aj bW f args r:=aP hl av hf hnm hb aA hlen h
end Go.Proofs.YtefphimaggjihaaGreatDoor.Hs
namespace Go.Ev
open Go.RowKit
theorem ahu(P:Program)(w:World)(b:Nat):∃r w',(aAE #[.float .f64 b]).run P w=.ok (.float .f64 r) w'/\(w'=w\/w'=w.drew)/\cn r=d9 (cn b):=by
 have e:aAE #[.float .f64 b]=(match ayP.format.sqrt b with
  |some r=>(pure (.float .f64 r):Sem Value)
  |none=>do pure (.float .f64 (<-choose (.nanBits .f64 b b)))):=rfl
 rw[e];unfold d9;rw[ajy];cases h:Ieee.double.sqrt b with
 |some r =>
  refine⟨r,w,?_,ER rfl,?_⟩
  .have h':ayP.format.sqrt b=some r:=h
   simp[h']
  .rw[iI (Xk h)];rfl
 |none =>
  refine⟨(Question.nanBits .f64 b b).cut (w.tape w.drawn (.nanBits .f64 b b)),w.drew,?_,aaH rfl,?_⟩
  .have h':ayP.format.sqrt b=none:=h
   simp[h',Question.forced]
  .rw[wE (Np _ _ _)];rfl
end Go.Ev
namespace Go.Proofs.YtefphimaggjihaaGreatDoor
open Go.Gv
open Go.Ev (cn bq dI bT fdiv d9 fI dK jO kL gN lK fabs)
theorem avt {f : Nat} {fn : Func} (hf : bW.funcs[f]? = some fn) (hname : (fn.name == "runtime.NumGoroutine") = false) (hb : fn.body.isNone = true) (hn : Extern.findNext fn = none)
  (he:Extern.find fn=some aAE) (a:Nat):EF bW f [.f a] (.f (d9 a)):=λ E aZ hv=>by
 obtain⟨l⟩:=aZ;obtain⟨v,t,e1,h1,h2⟩:=aH.1 hv;have e2:=bK.1 h2;obtain⟨b,rfl,rfl⟩:=jB.1 h1;have e3:l=[.float .f64 b]:=by rw[e2]at e1;exact e1
 subst e3;obtain⟨r,w',g1,g2,g3⟩:=Go.Ev.ahu bW E.w b;refine⟨.float .f64 r,w',?_,g2,jB.2 ⟨r,rfl,g3⟩⟩;rw[run_callFunc_extern hf hname hb hn he,g1];rfl
end Go.Proofs.YtefphimaggjihaaGreatDoor
namespace Go.Proofs.YtefphimaggjihaaGreatDoor.Hs
open Go.Gv
open Go.Ev (cn bq dI bT fdiv d9 fI dK jO kL gN lK fabs)
theorem akS:lg bW ⟨145,eF λ x=>.f (d9 x)⟩:=λ args r hr=>by
 simp only[eF]at hr;split at hr
 .cases hr;exact aaH (avt Tryz.func145 (by kernel_rfl) rfl (by kernel_rfl) (by kernel_rfl) _)
 .cases hr
def Sq0:List Entry:=[⟨145,eF λ x=>.f (d9 x)⟩]
theorem alS(x:Nat):aj bW 106 [.f x] (.f (d9 x)):=sp (l:=Sq0) (bn akS aB) Tryz.func106 (by kernel_rfl) (by kernel_rfl) rfl (by kernel_rfl)
theorem avu(x:Nat):aj bW 52 [.f x] (bA (eP x)):=sp aB Tryz.func52 (by kernel_rfl) (by kernel_rfl) rfl (by kernel_rfl)
theorem axU(a b c d e f:Nat):aj bW 280 [V a b c,V d e f] (V (bq a d) (bq b e) (bq c f)):=sp aB Tryz.func280 (by kernel_rfl) (by kernel_rfl) rfl (by kernel_rfl)
theorem axV(a b c d e f:Nat):aj bW 54 [V a b c,V d e f] (V (dI a d) (dI b e) (dI c f)):=sp aB Tryz.func54 (by kernel_rfl) (by kernel_rfl) rfl (by kernel_rfl)
theorem avv(a b c k:Nat):aj bW 105 [V a b c,.f k] (V (fdiv a k) (fdiv b k) (fdiv c k)):=sp aB Tryz.func105 (by kernel_rfl) (by kernel_rfl) rfl (by kernel_rfl)
theorem axW(a b c d e f:Nat):aj bW 107 [V a b c,V d e f] (.f (aaS a b c d e f)):=sp aB Tryz.func107 (by kernel_rfl) (by kernel_rfl) rfl (by kernel_rfl)
theorem arh(a b c d e f:Nat):aj bW 56 [V a b c,V d e f] (V (Ra b c e f) (Ra c a f d) (Ra a b d e)):=sp aB Tryz.func56 (by kernel_rfl) (by kernel_rfl) rfl (by kernel_rfl)
def V1:List Entry:=[⟨106,eF λ x=>.f (d9 x)⟩,⟨52,eF λ x=>bA (eP x)⟩,⟨280,YI λ a b c d e f=>V (bq a d) (bq b e) (bq c f)⟩,⟨54,YI λ a b c d e f=>V (dI a d) (dI b e) (dI c f)⟩,⟨105,eVF λ a b c k=>V (fdiv a k) (fdiv b k) (fdiv c k)⟩,⟨107,YI λ a b c d e f=>.f (aaS a b c d e f)⟩,⟨56,YI λ a b c d e f=>V (Ra b c e f) (Ra c a f d) (Ra a b d e)⟩]
theorem ahv:∀e,e∈V1->lg bW e:=bn (ZK alS) <|bn (ZK avu) <|bn (qg axU) <|bn (qg axV) <|bn (Pj avv) <|bn (qg axW) <|bn (qg arh) aB
theorem avw(a b c:Nat):aj bW 51 [V a b c] (bA (dL a b c)):=sp ahv Tryz.func51 (by kernel_rfl) (by kernel_rfl) rfl (by kernel_rfl)
theorem akT(a b c:Nat):aj bW 55 [V a b c] (.f (iT a b c)):=sp ahv Tryz.func55 (by kernel_rfl) (by kernel_rfl) rfl (by kernel_rfl)
def V2:List Entry:=⟨51,eV λ a b c=>bA (dL a b c)⟩::⟨55,eV λ a b c=>.f (iT a b c)⟩::V1
theorem aez:∀e,e∈V2->lg bW e:=bn (tT avw) <|bn (tT akT) ahv
def UN(a b c:Nat):Int:=cond (!dL a b c) 1 (cond (dK (iT a b c) 0) 2 0)
def unN(a b c x:Nat):Nat:=cond (!dL a b c) 0 (cond (dK (iT a b c) 0) 0 (fdiv x (iT a b c)))
def unV(a b c:Nat):AV:=.aN [V (unN a b c a) (unN a b c b) (unN a b c c),iA (UN a b c)]
def unX(a b c:Nat):Option Out:=cond (!dL a b c) (some (Out.of (.aN [V 0 0 0,iA 1]))) (cond (dK (iT a b c) 0) (some (Out.of (.aN [V 0 0 0,iA 2]))) (some (Out.of (.aN [V (fdiv a (iT a b c)) (fdiv b (iT a b c)) (fdiv c (iT a b c)),iA 0]))))
theorem ahr(a b c:Nat):unX a b c=some (Out.of (unV a b c)):=by
 unfold unX unV unN UN;cases dL a b c<;>cases dK (iT a b c) 0<;>rfl
theorem avx(a b c:Nat):aj bW 53 [V a b c] (unV a b c) :=
 sp aez Tryz.func53 (by kernel_rfl) (by kernel_rfl) rfl ((show ev bW V2 [] aM Tryz.f53 [V a b c] ret=unX a b c by kernel_rfl).trans (ahr a b c))
theorem avy(a b:Nat):aj bW 206 [.f a,.f b] (.f (tV a b)):=by
 refine sp aB Tryz.func206 (by kernel_rfl) (by kernel_rfl) rfl ?_;have h:ev bW [] [] aM Tryz.f206 [.f a,.f b] ret=cond (jO b a) (some (Out.of (.f b))) (some (Out.of (.f a))):=by kernel_rfl
 rw[h];unfold tV;cases jO b a<;>rfl
theorem avz(a b:Nat):aj bW 207 [.f a,.f b] (.f (tX a b)):=by
 refine sp aB Tryz.func207 (by kernel_rfl) (by kernel_rfl) rfl ?_;have h:ev bW [] [] aM Tryz.f207 [.f a,.f b] ret=cond (gN b a) (some (Out.of (.f b))) (some (Out.of (.f a))):=by kernel_rfl
 rw[h];unfold tX;cases gN b a<;>rfl
def BF(a b:Nat->Nat):Nat->Nat:=ls [tV (a 0) (b 0),tV (a 1) (b 1),tV (a 2) (b 2),tX (a 3) (b 3),tX (a 4) (b 4),tX (a 5) (b 5)]
def V3:List Entry:=⟨53,eV unV⟩::⟨206,eFF λ a b=>.f (tV a b)⟩::⟨207,eFF λ a b=>.f (tX a b)⟩::V2
theorem Zq:∀e,e∈V3->lg bW e:=bn (tT avx) <|bn (ET avy) <|bn (ET avz) aez
theorem avA(a b:Nat->Nat):aj bW 179 [BX a,BX b] (BX (BF a b)):=sp Zq Tryz.func179 (by kernel_rfl) (by kernel_rfl) rfl (by kernel_rfl)
def aaR(b:Nat->Nat):Bool:=cond (!dL (b 0) (b 1) (b 2)) true (!dL (b 3) (b 4) (b 5))
def ac2(b:Nat->Nat):Bool:=cond (cond (gN (b 0) (b 3)) true (gN (b 1) (b 4))) true (gN (b 2) (b 5))
def kM(b:Nat->Nat):Int:=cond (aaR b) 1 (cond (ac2 b) 6 0)
theorem axX(b:Nat->Nat):aj bW 159 [BX b] (iA (kM b)):=by
 refine sp Zq Tryz.func159 (by kernel_rfl) (by kernel_rfl) rfl ?_;have h:ev bW V3 [] aM Tryz.f159 [BX b] ret=cond (aaR b) (some (Out.of (iA 1))) (cond (ac2 b) (some (Out.of (iA 6))) (some (Out.of (iA 0)))):=by kernel_rfl
 rw[h];unfold kM;cases aaR b<;>cases ac2 b<;>rfl
def V4:List Entry:=⟨179,eBB λ a b=>BX (BF a b)⟩::⟨159,eB λ b=>iA (kM b)⟩::V3
theorem wG:∀e,e∈V4->lg bW e:=bn (aoq avA) <|bn (alk axX) Zq
section
variable(lo hi o d n f:Nat)
end
section
variable(b r:Nat->Nat)
end
def V5:List Entry:=V4
theorem ate:∀e,e∈V5->lg bW e:=wG
theorem avd(x:Nat):aj bW 57 [.f x] (bA (eP x)):=sp aB Tryz.func57 (by kernel_rfl) (by kernel_rfl) rfl (by kernel_rfl)
theorem aq2(a b:Nat):aj bW 110 [.f a,.f b] (.f (bT a b)):=sp aB Tryz.func110 (by kernel_rfl) (by kernel_rfl) rfl (by kernel_rfl)
theorem axt(a b c d e f:Nat):aj bW 140 [V a b c,V d e f] (V (bq a d) (bq b e) (bq c f)):=sp aB Tryz.func140 (by kernel_rfl) (by kernel_rfl) rfl (by kernel_rfl)
theorem axu(a b c d e f:Nat):aj bW 59 [V a b c,V d e f] (V (dI a d) (dI b e) (dI c f)):=sp aB Tryz.func59 (by kernel_rfl) (by kernel_rfl) rfl (by kernel_rfl)
theorem aq3(a b c k:Nat):aj bW 146 [V a b c,.f k] (V (bT a k) (bT b k) (bT c k)):=sp aB Tryz.func146 (by kernel_rfl) (by kernel_rfl) rfl (by kernel_rfl)
theorem ave(a b c k:Nat):aj bW 108 [V a b c,.f k] (V (fdiv a k) (fdiv b k) (fdiv c k)):=sp aB Tryz.func108 (by kernel_rfl) (by kernel_rfl) rfl (by kernel_rfl)
theorem avf(a b:Nat):aj bW 165 [.f a,.f b] (.f (tV a b)):=by
 refine sp aB Tryz.func165 (by kernel_rfl) (by kernel_rfl) rfl ?_;have h:ev bW [] [] aM Tryz.f165 [.f a,.f b] ret=cond (jO b a) (some (Out.of (.f b))) (some (Out.of (.f a))):=by kernel_rfl
 rw[h];unfold tV;cases jO b a<;>rfl
theorem avg(a b:Nat):aj bW 166 [.f a,.f b] (.f (tX a b)):=by
 refine sp aB Tryz.func166 (by kernel_rfl) (by kernel_rfl) rfl ?_;have h:ev bW [] [] aM Tryz.f166 [.f a,.f b] ret=cond (gN b a) (some (Out.of (.f b))) (some (Out.of (.f a))):=by kernel_rfl
 rw[h];unfold tX;cases gN b a<;>rfl
def eVI(g:Nat->Nat->Nat->Int->Option AV):List AV->Option AV
 | [.agg [.f a,.f b,.f c],.x (.int .i64 k)]=>g a b c k
 |_=>none
def axG(a b c:Nat)(k:Int):Option AV:=cond (k==0) (some (.f a)) (cond (k==1) (some (.f b)) (cond (k==2) (some (.f c)) none))
theorem avh(a b c:Nat)(k:Int):ev bW [] [] aM Tryz.f139 [V a b c,iA k] ret=cond (k==0) (some (Out.of (.f a))) (cond (k==1) (some (Out.of (.f b))) (some (Out.of (.f c)))):=by kernel_rfl
theorem aq4:lg bW ⟨139,eVI axG⟩:=λ args r hr=>by
 simp only[eVI]at hr;split at hr
 .rename_i a b c k
  refine ER (sp aB Tryz.func139 (by kernel_rfl) (by kernel_rfl) rfl ((avh a b c k).trans ?_));unfold axG at hr;cases h0:k==0
  .rw[h0]at hr
   cases h1:k==1
   .rw[h1]at hr
    cases h2:k==2
    .rw[h2]at hr;cases hr
    .rw[h2]at hr;cases hr;rfl
   .rw[h1]at hr;cases hr;rfl
  .rw[h0]at hr;cases hr;rfl
 .cases hr
def R1:List Entry:=[⟨106,eF λ x=>.f (d9 x)⟩,⟨57,eF λ x=>bA (eP x)⟩,⟨110,eFF λ a b=>.f (bT a b)⟩,⟨140,YI λ a b c d e f=>V (bq a d) (bq b e) (bq c f)⟩,⟨59,YI λ a b c d e f=>V (dI a d) (dI b e) (dI c f)⟩,⟨146,eVF λ a b c k=>V (bT a k) (bT b k) (bT c k)⟩,⟨108,eVF λ a b c k=>V (fdiv a k) (fdiv b k) (fdiv c k)⟩,⟨165,eFF λ a b=>.f (tV a b)⟩,⟨166,eFF λ a b=>.f (tX a b)⟩,⟨139,eVI axG⟩]
theorem Oc:∀e,e∈R1->lg bW e:=bn (ZK alS) <|bn (ZK avd) <|bn (ET aq2) <|bn (qg axt) <|bn (qg axu) <|bn (Pj aq3) <|bn (Pj ave) <|bn (ET avf) <|bn (ET avg) <|bn aq4 aB
theorem avi(a b c:Nat):aj bW 49 [V a b c] (bA (dL a b c)):=sp Oc Tryz.func49 (by kernel_rfl) (by kernel_rfl) rfl (by kernel_rfl)
theorem axv(a b c d e f:Nat):aj bW 109 [V a b c,V d e f] (.f (aaS a b c d e f)):=sp Oc Tryz.func109 (by kernel_rfl) (by kernel_rfl) rfl (by kernel_rfl)
theorem aq5(a b c d e f:Nat):aj bW 61 [V a b c,V d e f] (V (Ra b c e f) (Ra c a f d) (Ra a b d e)):=sp Oc Tryz.func61 (by kernel_rfl) (by kernel_rfl) rfl (by kernel_rfl)
def avj(a b c d e f:Nat):AV:=V (tV a d) (tV b e) (tV c f)
def alT(a b c d e f:Nat):AV:=V (tX a d) (tX b e) (tX c f)
theorem axw(a b c d e f:Nat):aj bW 142 [V a b c,V d e f] (avj a b c d e f):=sp Oc Tryz.func142 (by kernel_rfl) (by kernel_rfl) rfl (by kernel_rfl)
theorem avk(a b c d e f:Nat):aj bW 143 [V a b c,V d e f] (alT a b c d e f):=sp Oc Tryz.func143 (by kernel_rfl) (by kernel_rfl) rfl (by kernel_rfl)
def R2:List Entry:=⟨49,eV λ a b c=>bA (dL a b c)⟩::⟨109,YI λ a b c d e f=>.f (aaS a b c d e f)⟩::⟨61,YI λ a b c d e f=>V (Ra b c e f) (Ra c a f d) (Ra a b d e)⟩::⟨142,YI avj⟩::⟨143,YI alT⟩::R1
theorem TU:∀e,e∈R2->lg bW e:=bn (tT avi) <|bn (qg axv) <|bn (qg aq5) <|bn (qg axw) <|bn (qg avk) Oc
theorem aaG(a b c:Nat):aj bW 60 [V a b c] (.f (iT a b c)):=sp TU Tryz.func60 (by kernel_rfl) (by kernel_rfl) rfl (by kernel_rfl)
theorem axx(b:Nat->Nat):aj bW 102 [BX b] (iA (kM b)):=by
 refine sp TU Tryz.func102 (by kernel_rfl) (by kernel_rfl) rfl ?_;have h:ev bW R2 [] aM Tryz.f102 [BX b] ret=cond (aaR b) (some (Out.of (iA 1))) (cond (gN (b 0) (b 3)) (some (Out.of (iA 6))) (cond (gN (b 1) (b 4)) (some (Out.of (iA 6))) (cond (gN (b 2) (b 5)) (some (Out.of (iA 6))) (some (Out.of (iA 0)))))):=by kernel_rfl
 rw[h];unfold kM ac2;cases aaR b<;>cases gN (b 0) (b 3)<;>cases gN (b 1) (b 4)<;>cases gN (b 2) (b 5)<;>rfl
theorem avl(a b c:Nat):aj bW 58 [V a b c] (unV a b c) :=
 sp (l:=⟨60,eV λ a b c=>.f (iT a b c)⟩::R2) (bn (tT aaG) TU) Tryz.func58 (by kernel_rfl) (by kernel_rfl) rfl ((show ev bW (⟨60,eV λ a b c=>.f (iT a b c)⟩::R2) [] aM Tryz.f58 [V a b c] ret=unX a b c by kernel_rfl).trans (ahr a b c))
def R3:List Entry:=⟨60,eV λ a b c=>.f (iT a b c)⟩::⟨58,eV unV⟩::⟨102,eB λ b=>iA (kM b)⟩::R2
theorem pF:∀e,e∈R3->lg bW e:=bn (tT aaG) <|bn (tT avl) <|bn (alk axx) TU
def u6(x:Nat):Bool:=!dK x 0
theorem aeB(a b c:Nat):aj bW 300 [V a b c] (V a b c):=sp aB Tryz.func300 (by kernel_rfl) (by kernel_rfl) rfl (by kernel_rfl)
theorem anp(a b c:Nat):aj bW 301 [V a b c] (V a b c):=sp aB Tryz.func301 (by kernel_rfl) (by kernel_rfl) rfl (by kernel_rfl)
def V6:List Entry:=⟨300,eV λ a b c=>V a b c⟩::⟨301,eV λ a b c=>V a b c⟩::V5
theorem JW:∀e,e∈V6->lg bW e:=bn (tT aeB) <|bn (tT anp) ate
theorem anq(a b c:Nat):aj bW 298 [V a b c,iA 0] (V 0 b c):=sp JW Tryz.func298 (by kernel_rfl) (by kernel_rfl) rfl (by kernel_rfl)
theorem anr(a b c:Nat):aj bW 298 [V a b c,iA 1] (V a 0 c):=sp JW Tryz.func298 (by kernel_rfl) (by kernel_rfl) rfl (by kernel_rfl)
theorem ant(a b c:Nat):aj bW 298 [V a b c,iA 2] (V a b 0):=sp JW Tryz.func298 (by kernel_rfl) (by kernel_rfl) rfl (by kernel_rfl)
def flG(a b c:Nat)(k:Int):Option AV:=cond (k==0) (some (V 0 b c)) (cond (k==1) (some (V a 0 c)) (cond (k==2) (some (V a b 0)) none))
theorem aeC:lg bW ⟨298,eVI flG⟩:=λ args r hr=>by
 simp only[eVI]at hr;split at hr
 .rename_i a b c k
  unfold flG at hr;cases h0:k==0
  .rw[h0]at hr
   cases h1:k==1
   .rw[h1]at hr
    cases h2:k==2
    .rw[h2]at hr;cases hr
    .rw[h2]at hr;cases hr;rw[eq_of_beq h2];exact ER (ant a b c)
   .rw[h1]at hr;cases hr;rw[eq_of_beq h1];exact ER (anr a b c)
  .rw[h0]at hr;cases hr;rw[eq_of_beq h0];exact ER (anq a b c)
 .cases hr
def axR(k:Int)(b:Bool):Option Out:=some (Out.of (.aN [iA k,bA b]))
def axT(a b c:Nat):Option Out:=cond (u6 a) (cond (u6 b) (cond (u6 c) (axR 2 false) (axR 1 false)) (cond (u6 c) (axR 2 false) (axR 0 true))) (cond (u6 b) (cond (u6 c) (axR 2 false) (axR 1 true)) (cond (u6 c) (axR 2 true) (axR 0 false)))
def axI(a b c:Nat):Int:=cond (u6 c) 2 (cond (u6 b) 1 (cond (u6 a) 0 0))
def Li(a b c:Nat):Bool:=cond (u6 a) (cond (u6 b) false (!u6 c)) (cond (u6 b) (!u6 c) (u6 c))
theorem atf(a b c:Nat):aj bW 299 [V a b c] (.aN [iA (axI a b c),bA (Li a b c)]):=by
 refine sp JW Tryz.func299 (by kernel_rfl) (by kernel_rfl) rfl ((show ev bW V6 [] aM Tryz.f299 [V a b c] ret=axT a b c by kernel_rfl).trans ?_);unfold axT axI Li axR;cases u6 a<;>cases u6 b<;>cases u6 c<;>rfl
theorem atg(a b c R:Nat):aj bW 279 [V a b c,.f R] (BX (ls [dI a R,dI b R,dI c R,bq a R,bq b R,bq c R])):=sp JW Tryz.func279 (by kernel_rfl) (by kernel_rfl) rfl (by kernel_rfl)
def jg(a b c d e f:Nat):Nat->Nat:=BF (ls [a,b,c,a,b,c]) (ls [d,e,f,d,e,f])
theorem aiP(a b c d e f:Nat):aj bW 288 [V a b c,V d e f] (BX (jg a b c d e f)):=sp JW Tryz.func288 (by kernel_rfl) (by kernel_rfl) rfl (by kernel_rfl)
section
variable(o d:Nat->Nat)(r:Nat)
end
def V7:List Entry:=⟨298,eVI flG⟩::⟨279,eVF λ a b c R=>BX (ls [dI a R,dI b R,dI c R,bq a R,bq b R,bq c R])⟩::⟨288,YI λ a b c d e f=>BX (jg a b c d e f)⟩::V6
theorem GH:∀e,e∈V7->lg bW e:=bn aeC <|bn (Pj atg) <|bn (qg aiP) JW
abbrev SH(k:Int)(a:Nat->Nat)(sk:Int):AV:=.agg [iA k,.f (a 0),.f (a 1),.f (a 2),.f (a 3),.f (a 4),.f (a 5),.f (a 6),.f (a 7),.f (a 8),.f (a 9),.f (a 10),iA sk]
def eS(g:(Nat->Nat)->AV):List AV->Option AV
 | [.agg [.x (.int .i64 _),.f a0,.f a1,.f a2,.f a3,.f a4,.f a5,.f a6,.f a7,.f a8,.f a9,.f GZ,.x (.int .i64 _)]]=>some (g (ls [a0,a1,a2,a3,a4,a5,a6,a7,a8,a9,GZ]))
 |_=>none
theorem yZ{f:Nat}{g:(Nat->Nat)->AV}(h:∀k a sk,aj bW f [SH k a sk] (g a)):lg bW ⟨f,eS g⟩:=λ args r hr=>by
 simp only[eS]at hr;split at hr
 .cases hr;exact ER (h _ (ls [_,_,_,_,_,_,_,_,_,_,_]) _)
 .cases hr
section
variable(k:Int)(a:Nat->Nat)(sk:Int)(r:Nat->Nat)(n f p q u:Nat)
def nG:Nat->Nat:=ls [dI (a 0) (a 9),dI (a 1) (a 9),dI (a 2) (a 9),bq (a 0) (a 9),bq (a 1) (a 9),bq (a 2) (a 9)]
def q9:Nat->Nat:=ls [a 0,a 1,a 2,a 3,a 4,a 5]
def I8:Nat->Nat:=BF (jg (a 0) (a 1) (a 2) (a 3) (a 4) (a 5)) (ls [a 6,a 7,a 8,a 6,a 7,a 8])
theorem asA:aj bW 275 [SH k a sk] (BX (nG a)):=sp GH Tryz.func275 (by kernel_rfl) (by kernel_rfl) rfl (by kernel_rfl)
theorem amt:aj bW 289 [SH k a sk] (BX (nG a)):=sp GH Tryz.func289 (by kernel_rfl) (by kernel_rfl) rfl (by kernel_rfl)
theorem amr:aj bW 281 [SH k a sk] (BX (q9 a)):=sp GH Tryz.func281 (by kernel_rfl) (by kernel_rfl) rfl (by kernel_rfl)
theorem avI:aj bW 285 [SH k a sk] (BX (I8 a)):=sp GH Tryz.func285 (by kernel_rfl) (by kernel_rfl) rfl (by kernel_rfl)
def Dg:Int:=cond (!gN (a 9) 0) 6 0
theorem asz:aj bW 276 [SH k a sk] (iA (Dg a)):=by
 refine sp GH Tryz.func276 (by kernel_rfl) (by kernel_rfl) rfl ((show ev bW V7 [] aM Tryz.f276 [SH k a sk] ret=cond (!gN (a 9) 0) (some (Out.of (iA 6))) (some (Out.of (iA 0))) by kernel_rfl).trans ?_);unfold Dg;cases gN (a 9) 0<;>rfl
def Cb:Bool:=cond (cond (gN (a 0) (a 3)) true (gN (a 1) (a 4))) true (gN (a 2) (a 5))
def wW:Int:=cond (Cb a) 6 0
theorem amq:aj bW 282 [SH k a sk] (iA (wW a)):=by
 refine sp GH Tryz.func282 (by kernel_rfl) (by kernel_rfl) rfl ((show ev bW V7 [] aM Tryz.f282 [SH k a sk] ret=cond (Cb a) (some (Out.of (iA 6))) (some (Out.of (iA 0))) by kernel_rfl).trans ?_);unfold wW;cases Cb a<;>rfl
def wX:Int:=cond (!gN (a 9) 0) 6 (UN (a 3) (a 4) (a 5))
theorem ams:aj bW 290 [SH k a sk] (iA (wX a)):=by
 refine sp GH Tryz.func290 (by kernel_rfl) (by kernel_rfl) rfl ((show ev bW V7 [] aM Tryz.f290 [SH k a sk] ret=cond (!gN (a 9) 0) (some (Out.of (iA 6))) (some (Out.of (iA (UN (a 3) (a 4) (a 5))))) by kernel_rfl).trans ?_);unfold wX;cases gN (a 9) 0<;>rfl
def V8:List Entry:=⟨299,eV λ a b c=>.aN [iA (axI a b c),bA (Li a b c)]⟩::V7
theorem zR:∀e,e∈V8->lg bW e:=bn (tT atf) GH
def Dh:Int:=cond (cond (!Li (a 3) (a 4) (a 5)) true (!gN (a 9) 0)) 6 0
theorem asC:aj bW 295 [SH k a sk] (iA (Dh a)):=by
 refine sp zR Tryz.func295 (by kernel_rfl) (by kernel_rfl) rfl ((show ev bW V8 [] aM Tryz.f295 [SH k a sk] ret=cond (cond (!Li (a 3) (a 4) (a 5)) true (!gN (a 9) 0)) (some (Out.of (iA 6))) (some (Out.of (iA 0))) by kernel_rfl).trans ?_);unfold Dh;cases cond (!Li (a 3) (a 4) (a 5)) true (!gN (a 9) 0)<;>rfl
def Di:Int:=cond (cond (!Li (a 3) (a 4) (a 5)) true (!(cond (gN (a 10) 0) (lK (a 9) (a 10)) false))) 6 0
theorem asE:aj bW 304 [SH k a sk] (iA (Di a)):=by
 refine sp zR Tryz.func304 (by kernel_rfl) (by kernel_rfl) rfl ((show ev bW V8 [] aM Tryz.f304 [SH k a sk] ret=cond (cond (!Li (a 3) (a 4) (a 5)) true (!(cond (gN (a 10) 0) (lK (a 9) (a 10)) false))) (some (Out.of (iA 6))) (some (Out.of (iA 0))) by kernel_rfl).trans ?_);unfold Di;cases cond (!Li (a 3) (a 4) (a 5)) true (!(cond (gN (a 10) 0) (lK (a 9) (a 10)) false))<;>rfl
def V9:List Entry:=V8
theorem at7:∀e,e∈V9->lg bW e:=zR
end
section
end
section
end
section
end
section
end
def fl3(z i x:Nat):Nat:=cond (ax0 i z) 0 x
def zB(a:Nat->Nat):Nat:=cond (u6 (a 5)) 2 (cond (u6 (a 4)) 1 0)
theorem aeh(a:Nat->Nat):axI (a 3) (a 4) (a 5)=(zB a:Nat):=by
 unfold axI zB;cases u6 (a 5)<;>cases u6 (a 4)<;>cases u6 (a 3)<;>rfl
theorem ZX(a:Nat->Nat):zB a=0\/zB a=1\/zB a=2:=by
 unfold zB;cases u6 (a 5)<;>cases u6 (a 4)<;>simp
section
variable(k:Int)(a:Nat->Nat)(sk:Int)(r:Nat->Nat)(n f p q u z:Nat)
theorem at5:aj bW 293 [SH k a sk] (iA (zB a:Nat)):=by
 rw[<-aeh];exact sp zR Tryz.func293 (by kernel_rfl) (by kernel_rfl) rfl (by kernel_rfl)
theorem at6:aj bW 302 [SH k a sk] (iA (zB a:Nat)):=by
 rw[<-aeh];exact sp zR Tryz.func302 (by kernel_rfl) (by kernel_rfl) rfl (by kernel_rfl)
noncomputable def tuK(z:Nat):aV:=kS bW 293 λ _=>iA (z:Nat)
noncomputable def riK(z:Nat):aV:=kS bW 302 λ _=>iA (z:Nat)
noncomputable def gTu(o:Option Out):Option Out:=gate (aj bW 293 [SH k a sk] (iA (z:Nat))) o
noncomputable def gRi(o:Option Out):Option Out:=gate (aj bW 302 [SH k a sk] (iA (z:Nat))) o
def tuE:Nat->Nat:=jg (a 0) (a 1) (a 2) (bq (a 0) (a 3)) (bq (a 1) (a 4)) (bq (a 2) (a 5))
def pG:Nat->Nat:=ls [dI (tuE a 0) (fl3 z 0 (a 9)),dI (tuE a 1) (fl3 z 1 (a 9)),dI (tuE a 2) (fl3 z 2 (a 9)),bq (tuE a 3) (fl3 z 0 (a 9)),bq (tuE a 4) (fl3 z 1 (a 9)),bq (tuE a 5) (fl3 z 2 (a 9))]
def riA(i:Nat):Nat:=bq (fl3 z i (a 9)) (a 10)
def pI:Nat->Nat:=ls [dI (a 0) (riA a z 0),dI (a 1) (riA a z 1),dI (a 2) (riA a z 2),bq (a 0) (riA a z 0),bq (a 1) (riA a z 1),bq (a 2) (riA a z 2)]
theorem abB:ev bW V8 [tuK 0] aM aDQ [SH k a sk] ret=gTu k a sk 0 (some (Out.of (BX (pG a 0)))):=by kernel_rfl
theorem abC:ev bW V8 [tuK 1] aM aDQ [SH k a sk] ret=gTu k a sk 1 (some (Out.of (BX (pG a 1)))):=by kernel_rfl
theorem abD:ev bW V8 [tuK 2] aM aDQ [SH k a sk] ret=gTu k a sk 2 (some (Out.of (BX (pG a 2)))):=by kernel_rfl
theorem abE:ev bW V8 [riK 0] aM aDR [SH k a sk] ret=gRi k a sk 0 (some (Out.of (BX (pI a 0)))):=by kernel_rfl
theorem abF:ev bW V8 [riK 1] aM aDR [SH k a sk] ret=gRi k a sk 1 (some (Out.of (BX (pI a 1)))):=by kernel_rfl
theorem abG:ev bW V8 [riK 2] aM aDR [SH k a sk] ret=gRi k a sk 2 (some (Out.of (BX (pI a 2)))):=by kernel_rfl
theorem PU{z:Nat}{o:Option Out}(h:zB a=z):gTu k a sk z o=o:=ah (by rw[<-h];exact at5 k a sk)
theorem PV{z:Nat}{o:Option Out}(h:zB a=z):gRi k a sk z o=o:=ah (by rw[<-h];exact at6 k a sk)
theorem asD:aj bW 294 [SH k a sk] (BX (pG a (zB a))):=by
 rcases ZX a with h |h |h
 .rw[h];exact aP zR (ak aD av) Tryz.func294 (by kernel_rfl) (by kernel_rfl) aA rfl ((abB k a sk).trans (PU k a sk h))
 .rw[h];exact aP zR (ak aD av) Tryz.func294 (by kernel_rfl) (by kernel_rfl) aA rfl ((abC k a sk).trans (PU k a sk h))
 .rw[h];exact aP zR (ak aD av) Tryz.func294 (by kernel_rfl) (by kernel_rfl) aA rfl ((abD k a sk).trans (PU k a sk h))
theorem bring:aj bW 303 [SH k a sk] (BX (pI a (zB a))):=by
 rcases ZX a with h |h |h
 .rw[h];exact aP zR (ak aD av) Tryz.func303 (by kernel_rfl) (by kernel_rfl) aA rfl ((abE k a sk).trans (PV k a sk h))
 .rw[h];exact aP zR (ak aD av) Tryz.func303 (by kernel_rfl) (by kernel_rfl) aA rfl ((abF k a sk).trans (PV k a sk h))
 .rw[h];exact aP zR (ak aD av) Tryz.func303 (by kernel_rfl) (by kernel_rfl) aA rfl ((abG k a sk).trans (PV k a sk h))
def X0:List Entry:=V9
theorem ak0:∀e,e∈X0->lg bW e:=at7
end
def eKd:List AV->Option AV
 | [.agg [.x (.int .i64 k),.f a0,.f a1,.f a2,.f a3,.f a4,.f a5,.f a6,.f a7,.f a8,.f a9,.f GZ,.x (.int .i64 sk)]]=>cond (k==1) (some (.sW 214 (.agg [.x (.int .i64 k),.f a0,.f a1,.f a2,.f a3,.f a4,.f a5,.f a6,.f a7,.f a8,.f a9,.f GZ,.x (.int .i64 sk)]))) (cond (k==2) (some (.sW 215 (.agg [.x (.int .i64 k),.f a0,.f a1,.f a2,.f a3,.f a4,.f a5,.f a6,.f a7,.f a8,.f a9,.f GZ,.x (.int .i64 sk)]))) (cond (k==3) (some (.sW 216 (.agg [.x (.int .i64 k),.f a0,.f a1,.f a2,.f a3,.f a4,.f a5,.f a6,.f a7,.f a8,.f a9,.f GZ,.x (.int .i64 sk)]))) (cond (k==4) (some (.sW 217 (.agg [.x (.int .i64 k),.f a0,.f a1,.f a2,.f a3,.f a4,.f a5,.f a6,.f a7,.f a8,.f a9,.f GZ,.x (.int .i64 sk)]))) (cond (k==5) (some (.sW 218 (.agg [.x (.int .i64 k),.f a0,.f a1,.f a2,.f a3,.f a4,.f a5,.f a6,.f a7,.f a8,.f a9,.f GZ,.x (.int .i64 sk)]))) (cond (k==6) (some (.sW 219 (.agg [.x (.int .i64 k),.f a0,.f a1,.f a2,.f a3,.f a4,.f a5,.f a6,.f a7,.f a8,.f a9,.f GZ,.x (.int .i64 sk)]))) (none))))))
 |_=>none
theorem akZ(k:Int)(a:Nat->Nat)(sk:Int):ev bW [] [] aM Tryz.f158 [SH k a sk] ret=cond (k==1) (some (Out.of (.sW 214 (SH k a sk)))) (cond (k==2) (some (Out.of (.sW 215 (SH k a sk)))) (cond (k==3) (some (Out.of (.sW 216 (SH k a sk)))) (cond (k==4) (some (Out.of (.sW 217 (SH k a sk)))) (cond (k==5) (some (Out.of (.sW 218 (SH k a sk)))) (cond (k==6) (some (Out.of (.sW 219 (SH k a sk)))) (some (Out.of (.x .nilIface)))))))):=by kernel_rfl
theorem amo:lg bW ⟨158,eKd⟩:=λ args r hr=>by
 simp only[eKd]at hr;split at hr
 .rename_i k a0 a1 a2 a3 a4 a5 a6 a7 a8 a9 GZ sk
  refine ER (sp aB Tryz.func158 (by kernel_rfl) (by kernel_rfl) rfl ((akZ k (ls [a0,a1,a2,a3,a4,a5,a6,a7,a8,a9,GZ]) sk).trans ?_));cases h1:k==1
  case true=>rw[h1]at hr;cases hr;rfl
  case false =>
  cases h2:k==2
  case true=>rw[h1,h2]at hr;cases hr;rfl
  case false =>
  cases h3:k==3
  case true=>rw[h1,h2,h3]at hr;cases hr;rfl
  case false =>
  cases h4:k==4
  case true=>rw[h1,h2,h3,h4]at hr;cases hr;rfl
  case false =>
  cases h5:k==5
  case true=>rw[h1,h2,h3,h4,h5]at hr;cases hr;rfl
  case false =>
  cases h6:k==6
  case true=>rw[h1,h2,h3,h4,h5,h6]at hr;cases hr;rfl
  case false =>
  rw[h1,h2,h3,h4,h5,h6]at hr;cases hr
 .cases hr
def Cc(sk:Int):Bool:=cond (decide (sk<0)) true (decide (sk≥16))
def HV(a:Nat->Nat):Bool:=cond (cond (cond (cond (!dL (a 0) (a 1) (a 2)) true (!dL (a 3) (a 4) (a 5))) true (!dL (a 6) (a 7) (a 8))) true (!eP (a 9))) true (!eP (a 10))
def Jb(e:Int):Option Out:=some (Out.of (.aN [.x .nilIface,iA e]))
def yu(T:Nat)(v:AV):Option Out:=some (Out.of (.aN [.sW T v,iA 0]))
def knX(a:Nat->Nat)(sk m:Int)(b:Nat->Nat)(o:Option Out):Option Out:=cond (Cc sk) (Jb 4) (cond (HV a) (Jb 1) (cond (!(m==0)) (Jb m) (cond (!(kM b==0)) (Jb 1) o)))
def QO(a:Nat->Nat)(sk m:Int)(b:Nat->Nat):Int:=cond (Cc sk) 4 (cond (HV a) 1 (cond (!(m==0)) m (cond (!(kM b==0)) 1 0)))
theorem vv{a:Nat->Nat}{sk m:Int}{b:Nat->Nat}{o:Option Out}(h:QO a sk m b=0):knX a sk m b o=o:=by
 unfold QO at h;unfold knX;cases h1:Cc sk
 .rw[h1]at h
  cases h2:HV a
  .rw[h2]at h
   cases h3:(m==0)
   .rw[h3]at h
    have h:m=0:=h;rw[h]at h3;cases h3
   .rw[h3]at h
    cases h4:(kM b==0)
    .rw[h4]at h;cases h
    .rfl
  .rw[h2]at h;cases h
 .rw[h1]at h;cases h
theorem Aj{a:Nat->Nat}{sk m:Int}{b:Nat->Nat}{o:Option Out}(h:QO a sk m b≠0):knX a sk m b o=Jb (QO a sk m b):=by
 unfold QO at h ⊢;unfold knX;cases h1:Cc sk
 .cases h2:HV a
  .cases h3:(m==0)
   .rfl
   .cases h4:(kM b==0)
    .rfl
    .rw[h1,h2,h3,h4]at h
     exact absurd rfl h
  .rfl
 .rfl
def X1:List Entry:=⟨158,eKd⟩::⟨276,eS λ a=>iA (Dg a)⟩::⟨275,eS λ a=>BX (nG a)⟩::⟨282,eS λ a=>iA (wW a)⟩::⟨281,eS λ a=>BX (q9 a)⟩::⟨285,eS λ a=>BX (I8 a)⟩::⟨290,eS λ a=>iA (wX a)⟩::⟨289,eS λ a=>BX (nG a)⟩::⟨295,eS λ a=>iA (Dh a)⟩::⟨294,eS λ a=>BX (pG a (zB a))⟩::⟨304,eS λ a=>iA (Di a)⟩::⟨303,eS λ a=>BX (pI a (zB a))⟩:: X0
theorem vw:∀e,e∈X1->lg bW e:=bn amo <|bn (yZ asz) <|bn (yZ asA) <|bn (yZ amq) <|bn (yZ amr) <|bn (yZ avI) <|bn (yZ ams) <|bn (yZ amt) <|bn (yZ asC) <|bn (yZ asD) <|bn (yZ asE) <|bn (yZ bring) ak0
section
variable(a:Nat->Nat)(sk:Int)
theorem ac6:ev bW X1 [] aM aBe [SH 1 a sk] ret=knX a sk (Dg a) (nG a) (yu 214 (SH 1 a sk)):=by kernel_rfl
def e1:Int:=QO a sk (Dg a) (nG a)
theorem Rf(h:e1 a sk=0):aj bW 136 [SH 1 a sk] (.aN [.sW 214 (SH 1 a sk),iA 0]):=sp vw Tryz.func136 (by kernel_rfl) (by kernel_rfl) rfl ((ac6 a sk).trans (vv (m:=Dg a) (b:=nG a) h))
theorem ahX(h:e1 a sk≠0):aj bW 136 [SH 1 a sk] (.aN [.x .nilIface,iA (e1 a sk)]):=sp vw Tryz.func136 (by kernel_rfl) (by kernel_rfl) rfl ((ac6 a sk).trans (Aj (m:=Dg a) (b:=nG a) (o:=yu 214 (SH 1 a sk)) h))
theorem ac7:ev bW X1 [] aM aBe [SH 2 a sk] ret=knX a sk (wW a) (q9 a) (yu 215 (SH 2 a sk)):=by kernel_rfl
def e2:Int:=QO a sk (wW a) (q9 a)
theorem Rh(h:e2 a sk=0):aj bW 136 [SH 2 a sk] (.aN [.sW 215 (SH 2 a sk),iA 0]):=sp vw Tryz.func136 (by kernel_rfl) (by kernel_rfl) rfl ((ac7 a sk).trans (vv (m:=wW a) (b:=q9 a) h))
theorem ahY(h:e2 a sk≠0):aj bW 136 [SH 2 a sk] (.aN [.x .nilIface,iA (e2 a sk)]):=sp vw Tryz.func136 (by kernel_rfl) (by kernel_rfl) rfl ((ac7 a sk).trans (Aj (m:=wW a) (b:=q9 a) (o:=yu 215 (SH 2 a sk)) h))
theorem ac8:ev bW X1 [] aM aBe [SH 3 a sk] ret=cond (Cc sk) (Jb 4) (cond (HV a) (Jb 1) (cond (!(kM (I8 a)==0)) (Jb 1) (yu 216 (SH 3 a sk)))):=by kernel_rfl
def e3:Int:=QO a sk (0) (I8 a)
theorem Ri(h:e3 a sk=0):aj bW 136 [SH 3 a sk] (.aN [.sW 216 (SH 3 a sk),iA 0]):=sp vw Tryz.func136 (by kernel_rfl) (by kernel_rfl) rfl ((ac8 a sk).trans (vv (m:=0) (b:=I8 a) h))
theorem ahZ(h:e3 a sk≠0):aj bW 136 [SH 3 a sk] (.aN [.x .nilIface,iA (e3 a sk)]):=sp vw Tryz.func136 (by kernel_rfl) (by kernel_rfl) rfl ((ac8 a sk).trans (Aj (m:=0) (b:=I8 a) (o:=yu 216 (SH 3 a sk)) h))
theorem ac9:ev bW X1 [] aM aBe [SH 4 a sk] ret=knX a sk (wX a) (nG a) (yu 217 (SH 4 a sk)):=by kernel_rfl
def e4:Int:=QO a sk (wX a) (nG a)
theorem Rj(h:e4 a sk=0):aj bW 136 [SH 4 a sk] (.aN [.sW 217 (SH 4 a sk),iA 0]):=sp vw Tryz.func136 (by kernel_rfl) (by kernel_rfl) rfl ((ac9 a sk).trans (vv (m:=wX a) (b:=nG a) h))
theorem ah0(h:e4 a sk≠0):aj bW 136 [SH 4 a sk] (.aN [.x .nilIface,iA (e4 a sk)]):=sp vw Tryz.func136 (by kernel_rfl) (by kernel_rfl) rfl ((ac9 a sk).trans (Aj (m:=wX a) (b:=nG a) (o:=yu 217 (SH 4 a sk)) h))
theorem ada:ev bW X1 [] aM aBe [SH 5 a sk] ret=knX a sk (Dh a) (pG a (zB a)) (yu 218 (SH 5 a sk)):=by kernel_rfl
def e5:Int:=QO a sk (Dh a) (pG a (zB a))
theorem Rk(h:e5 a sk=0):aj bW 136 [SH 5 a sk] (.aN [.sW 218 (SH 5 a sk),iA 0]):=sp vw Tryz.func136 (by kernel_rfl) (by kernel_rfl) rfl ((ada a sk).trans (vv (m:=Dh a) (b:=pG a (zB a)) h))
theorem ah1(h:e5 a sk≠0):aj bW 136 [SH 5 a sk] (.aN [.x .nilIface,iA (e5 a sk)]):=sp vw Tryz.func136 (by kernel_rfl) (by kernel_rfl) rfl ((ada a sk).trans (Aj (m:=Dh a) (b:=pG a (zB a)) (o:=yu 218 (SH 5 a sk)) h))
theorem adb:ev bW X1 [] aM aBe [SH 6 a sk] ret=knX a sk (Di a) (pI a (zB a)) (yu 219 (SH 6 a sk)):=by kernel_rfl
def e6:Int:=QO a sk (Di a) (pI a (zB a))
theorem Rl(h:e6 a sk=0):aj bW 136 [SH 6 a sk] (.aN [.sW 219 (SH 6 a sk),iA 0]):=sp vw Tryz.func136 (by kernel_rfl) (by kernel_rfl) rfl ((adb a sk).trans (vv (m:=Di a) (b:=pI a (zB a)) h))
theorem ah2(h:e6 a sk≠0):aj bW 136 [SH 6 a sk] (.aN [.x .nilIface,iA (e6 a sk)]):=sp vw Tryz.func136 (by kernel_rfl) (by kernel_rfl) rfl ((adb a sk).trans (Aj (m:=Di a) (b:=pI a (zB a)) (o:=yu 219 (SH 6 a sk)) h))
end
def Vr(k:Int):Prop:=k≠1/\k≠2/\k≠3/\k≠4/\k≠5/\k≠6
def e0(a:Nat->Nat)(sk:Int):Int:=cond (Cc sk) 4 (cond (HV a) 1 3)
theorem kd0{k:Int}(h:Vr k)(a:Nat->Nat)(sk:Int):aj bW 158 [SH k a sk] (.x .nilIface):=by
 obtain⟨h1,h2,h3,h4,h5,h6⟩:=h;refine sp aB Tryz.func158 (by kernel_rfl) (by kernel_rfl) rfl ((akZ k a sk).trans ?_);rw[beq_false_of_ne h1,beq_false_of_ne h2,beq_false_of_ne h3,beq_false_of_ne h4,beq_false_of_ne h5,beq_false_of_ne h6];rfl
theorem amu(k:Int)(a:Nat->Nat)(sk:Int):ev bW X0 [kS bW 158 λ _=>.x .nilIface] aM aBe [SH k a sk] ret=cond (Cc sk) (Jb 4) (cond (HV a) (Jb 1) (gate (aj bW 158 [SH k a sk] (.x .nilIface)) (Jb 3))):=by kernel_rfl
theorem ah3{k:Int}(h:Vr k)(a:Nat->Nat)(sk:Int):aj bW 136 [SH k a sk] (.aN [.x .nilIface,iA (e0 a sk)]):=by
 refine aP ak0 (ak aD av) Tryz.func136 (by kernel_rfl) (by kernel_rfl) aA rfl ((amu k a sk).trans ?_);rw[ah (kd0 h a sk)];unfold e0;cases Cc sk<;>cases HV a<;>rfl
end Go.Proofs.YtefphimaggjihaaGreatDoor.Hs
namespace Go.Proofs.YtefphimaggjihaaGreatDoor.Hs
open Go.Gv
open Go.Ev (cn bq dI bT fdiv d9 fI dK jO kL gN lK fabs aL iI)
def X2:List Entry:=X1
theorem ak1:∀e,e∈X2->lg bW e:=vw
section
variable(k:Int)(a:Nat->Nat)(sk:Int)(p q u:Nat)
variable(z:Nat)
end
end Go.Proofs.YtefphimaggjihaaGreatDoor.Hs
namespace Go.Proofs.YtefphimaggjihaaGreatDoor.Hs
open Go.Gv
open Go.Ev (cn bq dI bT fdiv d9 fI dK jO kL gN lK fabs)
section
variable(k:Int)(a:Nat->Nat)(sk:Int)(r:Nat->Nat)(e:Int)(T:Nat)(p q u:Nat)
abbrev KNb:Prop:=aj bW 136 [SH k a sk] (.aN [.x .nilIface,iA e])
abbrev KNg:Prop:=aj bW 136 [SH k a sk] (.aN [.sW T (SH k a sk),iA 0])
noncomputable def kK(x:AV)(e:Int):aV:=kS bW 136 λ _=>.aN [x,iA e]
theorem ajk:ev bW X2 [kK (.x .nilIface) e] aM aFj [SH k a sk] ret=gate (KNb k a sk e) (some (Out.of (iA e))):=by kernel_rfl
theorem ajl:ev bW X2 [kK (.sW T (SH k a sk)) 0] aM aFj [SH k a sk] ret=gate (KNg k a sk T) (some (Out.of (iA 0))):=by kernel_rfl
theorem Ka{k:Int}{a:Nat->Nat}{sk e:Int}(h:KNb k a sk e):aj bW 98 [SH k a sk] (iA e):=aP ak1 (ak aD av) Tryz.func98 (by kernel_rfl) (by kernel_rfl) aA rfl ((ajk k a sk e).trans (ah h))
theorem yt{k:Int}{a:Nat->Nat}{sk:Int}{T:Nat}(h:KNg k a sk T):aj bW 98 [SH k a sk] (iA 0):=aP ak1 (ak aD av) Tryz.func98 (by kernel_rfl) (by kernel_rfl) aA rfl ((ajl k a sk T).trans (ah h))
def z6:Nat->Nat:=λ _=>0
end
section
end
def fOf:List AV->Nat
 | [.f x]=>x
 |_=>0
theorem asZ(g:Nat->Nat):ev bW [] [] aM Tryz.f164 [.sl 1 3 λ i=>[.f (g i)]] ret=some (Out.of (V (g 0) (g 1) (g 2))):=by kernel_rfl
theorem rof(g:Nat->Nat):aj bW 164 [.sl 1 3 λ i=>[.f (g i)]] (V (g 0) (g 1) (g 2)):=sp aB Tryz.func164 (by kernel_rfl) (by kernel_rfl) rfl (asZ g)
def ofG:List AV->AV
 | [.sl _ _ el]=>V (fOf (el 0)) (fOf (el 1)) (fOf (el 2))
 |_=>.any
def pE(a b c x k:Nat):Nat->List AV:=λ i=>dn ((0+i)==k) [.f x] (chunk [.f a,.f b,.f c] 1 (0+i))
theorem Wy{a b c x k:Nat}(g:Nat->Nat)(h:∀i,i<3->pE a b c x k i=[.f (g i)]):aj bW 164 [.sl 1 3 (pE a b c x k)] (V (g 0) (g 1) (g 2)):=by
 refine aj.aiB (rof g) λ E vs hv=>?_;obtain⟨v,ws,rfl,h1,h2⟩:=aH.1 hv;exact aH.2 ⟨v,ws,rfl,D8 h1 λ i hi=>(h i hi).symm,h2⟩
section
variable(a b c x:Nat)
noncomputable def ptO(k:Nat)(v:AV):Option Out:=gate (aj bW 164 [.sl 1 3 (pE a b c x k)] v) (some (Out.of v))
theorem aiC:ev bW [] [kS bW 164 ofG] aM aDS [V a b c,iA 0,.f x] ret=ptO a b c x 0 (V x b c):=by kernel_rfl
theorem aiD:ev bW [] [kS bW 164 ofG] aM aDS [V a b c,iA 1,.f x] ret=ptO a b c x 1 (V a x c):=by kernel_rfl
theorem aiE:ev bW [] [kS bW 164 ofG] aM aDS [V a b c,iA 2,.f x] ret=ptO a b c x 2 (V a b x):=by kernel_rfl
theorem aee:aj bW 141 [V a b c,iA 0,.f x] (V x b c):=aP aB (ak aD av) Tryz.func141 (by kernel_rfl) (by kernel_rfl) aA rfl ((aiC a b c x).trans (ah (Wy (ls [x,b,c]) λ i hi=>(by match i,hi with | 0,_=>rfl | 1,_=>rfl | 2,_=>rfl))))
theorem aef:aj bW 141 [V a b c,iA 1,.f x] (V a x c):=aP aB (ak aD av) Tryz.func141 (by kernel_rfl) (by kernel_rfl) aA rfl ((aiD a b c x).trans (ah (Wy (ls [a,x,c]) λ i hi=>(by match i,hi with | 0,_=>rfl | 1,_=>rfl | 2,_=>rfl))))
theorem aeg:aj bW 141 [V a b c,iA 2,.f x] (V a b x):=aP aB (ak aD av) Tryz.func141 (by kernel_rfl) (by kernel_rfl) aA rfl ((aiE a b c x).trans (ah (Wy (ls [a,b,x]) λ i hi=>(by match i,hi with | 0,_=>rfl | 1,_=>rfl | 2,_=>rfl))))
end
def am8:List AV->Option AV
 | [.agg [.f a,.f b,.f c],.x (.int .i64 k),.f x]=>cond (k==0) (some (V x b c)) (cond (k==1) (some (V a x c)) (cond (k==2) (some (V a b x)) none))
 |_=>none
theorem aiF:lg bW ⟨141,am8⟩:=λ args r hr=>by
 simp only[am8]at hr;split at hr
 .rename_i a b c k x
  cases h0:k==0
  .rw[h0]at hr
   cases h1:k==1
   .rw[h1]at hr
    cases h2:k==2
    .rw[h2]at hr;cases hr
    .rw[h2]at hr;cases hr;rw[eq_of_beq h2];exact ER (aeg a b c x)
   .rw[h1]at hr;cases hr;rw[eq_of_beq h1];exact ER (aef a b c x)
  .rw[h0]at hr;cases hr;rw[eq_of_beq h0];exact ER (aee a b c x)
 .cases hr
def qB(k:Int):Option Out:=some (Out.of (iA k))
def aiT(a b c:Nat):Option Out:=cond (u6 a) (cond (u6 b) (cond (u6 c) (qB (-1)) (qB (-1))) (cond (u6 c) (qB (-1)) (qB 0))) (cond (u6 b) (cond (u6 c) (qB (-1)) (qB 1)) (cond (u6 c) (qB 2) (qB (-1))))
def aiS(a b c:Nat):Int:=cond (Li a b c) (axI a b c) (-1)
theorem Zl(a b c:Nat):aj bW 101 [V a b c] (iA (aiS a b c)):=by
 refine sp pF Tryz.func101 (by kernel_rfl) (by kernel_rfl) rfl ((show ev bW R3 [] aM Tryz.f101 [V a b c] ret=aiT a b c by kernel_rfl).trans ?_);unfold aiT aiS Li axI qB;cases u6 a<;>cases u6 b<;>cases u6 c<;>rfl
theorem am9{a:Nat->Nat}(h:Li (a 3) (a 4) (a 5)=true):aj bW 101 [V (a 3) (a 4) (a 5)] (iA (zB a:Nat)):=by
 have:=Zl (a 3) (a 4) (a 5);unfold aiS at this;rw[h,cond_true,aeh]at this;exact this
section
variable(o d:Nat->Nat)(r:Nat)
end
def jv(a b c:Nat):Bool:=cond (cond (dK a 0) (dK b 0) false) (dK c 0) false
theorem Ov(a b c:Nat):aj bW 96 [V a b c] (bA (jv a b c)):=sp aB Tryz.func96 (by kernel_rfl) (by kernel_rfl) rfl (by kernel_rfl)
def R4:List Entry:=⟨141,am8⟩::⟨96,eV λ a b c=>bA (jv a b c)⟩::R3
theorem Dc:∀e,e∈R4->lg bW e:=bn aiF <|bn (tT Ov) pF
end Go.Proofs.YtefphimaggjihaaGreatDoor.Hs
namespace Go.Ev
open Ieee
theorem WT{d:Datum}(h:d.isNaN=false):d.order d=some .eq:=by
 cases d with
 |number s m i=>simp only[Datum.order];simp
 |infinity s=>simp[Datum.order]
 |nan s f=>simp[Datum.isNaN]at h
theorem aeV(x:Nat):dK x x=!aL x:=by
 unfold dK;cases h:aL x
 .have:double.order x x=some .eq:=WT h
  rw[this];rfl
 .have:double.order x x=none:=nQ h
  rw[this];rfl
theorem ab5{d e:Datum}(hd:d.isNaN=false)(he:e.isNaN=false):∃o,d.order e=some o:=by
 cases d with
 |nan s f=>simp[Datum.isNaN]at hd
 |infinity s =>
  cases e with
  |nan s f=>simp[Datum.isNaN]at he
  |infinity t=>cases s<;>cases t<;>exact⟨_,rfl⟩
  |number t m i=>cases s<;>exact⟨_,rfl⟩
 |number s m i =>
  cases e with
  |nan s f=>simp[Datum.isNaN]at he
  |infinity t=>cases t<;>exact⟨_,rfl⟩
  |number t n j=>exact⟨_,rfl⟩
theorem NR{x y:Nat}(hx:aL x=false)(hy:aL y=false):∃o,double.order x y=some o:=ab5 hx hy
theorem Qw{x y:Nat}(hx:aL x=false)(hy:aL y=false):lK x y=!jO x y:=by
 obtain⟨o,h⟩:=NR hx hy;unfold lK jO;rw[h];cases o<;>rfl
theorem Qx{x y:Nat}(hx:aL x=false)(hy:aL y=false):kL x y=!gN x y:=by
 obtain⟨o,h⟩:=NR hx hy;unfold kL gN;rw[h];cases o<;>rfl
theorem aas{x y:Nat}(h:lK x y=true):aL x=false/\aL y=false:=by
 unfold lK at h;constructor
 .cases hx:aL x
  .rfl
  .have e:double.order x y=none:=nQ hx
   rw[e]at h;cases h
 .cases hy:aL y
  .rfl
  .have e:double.order x y=none:=qp hy
   rw[e]at h;cases h
end Go.Ev
namespace Go.Proofs.YtefphimaggjihaaGreatDoor.Hs
open Go.Gv
open Go.Ev (cn bq dI bT fdiv d9 fI dK jO kL gN lK fabs aL Qw Qx aas)
theorem sS{x:Nat}(h:eP x=true):aL x=false:=by
 unfold eP at h;cases h1:lK x 13920209183539462144
 .rw[h1]at h;cases h
 .exact(aas h1).1
theorem FH{x:Nat}(h:eP x=true):kL x 0=!gN x 0:=Qx (sS h) (by decide +kernel)
section
variable(b r:Nat->Nat)
end
def R5:List Entry:=R4
theorem Ac:∀e,e∈R5->lg bW e:=Dc
end Go.Proofs.YtefphimaggjihaaGreatDoor.Hs
namespace Go.Proofs.YtefphimaggjihaaGreatDoor.Hs
open Go.Gv
open Go.Ev (cn bq dI bT fdiv d9 fI dK jO kL gN lK fabs aL Qw Qx)
section
variable(a:Nat->Nat)(sk:Int)
theorem ar1:aj bW 103 [SH 1 a sk] (BX (nG a)):=sp Ac Tryz.func103 (by kernel_rfl) (by kernel_rfl) rfl (by kernel_rfl)
theorem ar2:aj bW 103 [SH 2 a sk] (BX (q9 a)):=sp Ac Tryz.func103 (by kernel_rfl) (by kernel_rfl) rfl (by kernel_rfl)
theorem ar3:aj bW 103 [SH 3 a sk] (BX (I8 a)):=sp Ac Tryz.func103 (by kernel_rfl) (by kernel_rfl) rfl (by kernel_rfl)
theorem ar4:aj bW 103 [SH 4 a sk] (BX (nG a)):=sp Ac Tryz.func103 (by kernel_rfl) (by kernel_rfl) rfl (by kernel_rfl)
noncomputable def axK(z:Nat):aV:=kS bW 101 λ _=>iA (z:Nat)
noncomputable def gAx(z:Nat)(o:Option Out):Option Out:=gate (aj bW 101 [V (a 3) (a 4) (a 5)] (iA (z:Nat))) o
theorem Bc{z:Nat}{o:Option Out}(h:Li (a 3) (a 4) (a 5)=true)(hz:zB a=z):gAx a z o=o:=ah (by rw[<-hz];exact am9 h)
theorem akG:ev bW R5 [axK 0] aM aBE [SH 5 a sk] ret=gAx a 0 (some (Out.of (BX (pG a 0)))):=by kernel_rfl
theorem akH:ev bW R5 [axK 1] aM aBE [SH 5 a sk] ret=gAx a 1 (some (Out.of (BX (pG a 1)))):=by kernel_rfl
theorem akI:ev bW R5 [axK 2] aM aBE [SH 5 a sk] ret=gAx a 2 (some (Out.of (BX (pG a 2)))):=by kernel_rfl
theorem ar5(h:Li (a 3) (a 4) (a 5)=true):aj bW 103 [SH 5 a sk] (BX (pG a (zB a))):=by
 rcases ZX a with hz |hz |hz
 .rw[hz];exact aP Ac (ak aD av) Tryz.func103 (by kernel_rfl) (by kernel_rfl) aA rfl ((akG a sk).trans (Bc a h hz))
 .rw[hz];exact aP Ac (ak aD av) Tryz.func103 (by kernel_rfl) (by kernel_rfl) aA rfl ((akH a sk).trans (Bc a h hz))
 .rw[hz];exact aP Ac (ak aD av) Tryz.func103 (by kernel_rfl) (by kernel_rfl) aA rfl ((akI a sk).trans (Bc a h hz))
theorem akJ:ev bW R5 [axK 0] aM aBE [SH 6 a sk] ret=gAx a 0 (some (Out.of (BX (pI a 0)))):=by kernel_rfl
theorem akK:ev bW R5 [axK 1] aM aBE [SH 6 a sk] ret=gAx a 1 (some (Out.of (BX (pI a 1)))):=by kernel_rfl
theorem akL:ev bW R5 [axK 2] aM aBE [SH 6 a sk] ret=gAx a 2 (some (Out.of (BX (pI a 2)))):=by kernel_rfl
theorem ar6(h:Li (a 3) (a 4) (a 5)=true):aj bW 103 [SH 6 a sk] (BX (pI a (zB a))):=by
 rcases ZX a with hz |hz |hz
 .rw[hz];exact aP Ac (ak aD av) Tryz.func103 (by kernel_rfl) (by kernel_rfl) aA rfl ((akJ a sk).trans (Bc a h hz))
 .rw[hz];exact aP Ac (ak aD av) Tryz.func103 (by kernel_rfl) (by kernel_rfl) aA rfl ((akK a sk).trans (Bc a h hz))
 .rw[hz];exact aP Ac (ak aD av) Tryz.func103 (by kernel_rfl) (by kernel_rfl) aA rfl ((akL a sk).trans (Bc a h hz))
noncomputable def arK(b:Nat->Nat):aV:=kS bW 103 λ _=>BX b
noncomputable def gAr(j:Int)(b:Nat->Nat)(o:Option Out):Option Out:=gate (aj bW 103 [SH j a sk] (BX b)) o
noncomputable def smZ(j:Int)(b:Nat->Nat):Option Out:=gAr a sk j b (cond (!(kM b==0)) (qB 1) (qB 0))
noncomputable def Z6(o:Option Out):Option Out:=cond (Cc sk) (qB 4) (cond (HV a) (qB 1) o)
def R6:List Entry:=⟨101,eV λ a b c=>iA (aiS a b c)⟩::R5
theorem Lh:∀e,e∈R6->lg bW e:=bn (tT Zl) Ac
theorem aqP(b:Nat->Nat):ev bW R6 [arK b] aM aBF [SH 1 a sk] ret=Z6 a sk (cond (kL (a 9) 0) (qB 6) (smZ a sk 1 b)):=by kernel_rfl
theorem aqQ(b:Nat->Nat):ev bW R6 [arK b] aM aBF [SH 2 a sk] ret=Z6 a sk (cond (Cb a) (qB 6) (smZ a sk 2 b)):=by kernel_rfl
theorem aqR(b:Nat->Nat):ev bW R6 [arK b] aM aBF [SH 3 a sk] ret=Z6 a sk (smZ a sk 3 b):=by kernel_rfl
theorem aqS(b:Nat->Nat):ev bW R6 [arK b] aM aBF [SH 4 a sk] ret=Z6 a sk (cond (kL (a 9) 0) (qB 6) (cond (!(UN (a 3) (a 4) (a 5)==0)) (qB (UN (a 3) (a 4) (a 5))) (smZ a sk 4 b))):=by kernel_rfl
theorem aqT(b:Nat->Nat):ev bW R6 [arK b] aM aBF [SH 5 a sk] ret=Z6 a sk (cond (cond (kL (a 9) 0) true (decide (aiS (a 3) (a 4) (a 5)<0))) (qB 6) (smZ a sk 5 b)):=by kernel_rfl
theorem aqU(b:Nat->Nat):ev bW R6 [arK b] aM aBF [SH 6 a sk] ret=Z6 a sk (cond (cond (cond (kL (a 10) 0) true (jO (a 9) (a 10))) true (decide (aiS (a 3) (a 4) (a 5)<0))) (qB 6) (smZ a sk 6 b)):=by kernel_rfl
theorem aqV(k:Int)(b:Nat->Nat):ev bW R6 [arK b] aM aBF [SH k a sk] ret=Z6 a sk (cond (k==1) (cond (kL (a 9) 0) (qB 6) (smZ a sk k b)) (cond (k==2) (cond (Cb a) (qB 6) (smZ a sk k b)) (cond (k==3) (smZ a sk k b) (cond (k==4) (cond (kL (a 9) 0) (qB 6) (cond (!(UN (a 3) (a 4) (a 5)==0)) (qB (UN (a 3) (a 4) (a 5))) (smZ a sk k b)))
  (cond (k==5) (cond (cond (kL (a 9) 0) true (decide (aiS (a 3) (a 4) (a 5)<0))) (qB 6) (smZ a sk k b)) (cond (k==6) (cond (cond (cond (kL (a 10) 0) true (jO (a 9) (a 10))) true (decide (aiS (a 3) (a 4) (a 5)<0))) (qB 6) (smZ a sk k b)) (qB 3))))))):=by kernel_rfl
end
theorem aaF(x y z:Nat):decide (aiS x y z<0)=!Li x y z:=by
 unfold aiS Li axI;cases u6 x<;>cases u6 y<;>cases u6 z<;>rfl
theorem Bf{a:Nat->Nat}(h:HV a=false):eP (a 9)=true/\eP (a 10)=true:=by
 unfold HV at h;revert h;cases dL (a 0) (a 1) (a 2)<;>cases dL (a 3) (a 4) (a 5)<;>cases dL (a 6) (a 7) (a 8)<;>cases eP (a 9)<;>cases eP (a 10)<;>intro h<;>first | (cases h;done) |exact⟨rfl,rfl⟩
theorem Gg{a:Nat->Nat}{sk:Int}{m:Int}{b:Nat->Nat}{o:Option Out}(h:HV a=false->o=cond (!(m==0)) (qB m) (cond (!(kM b==0)) (qB 1) (qB 0))):Z6 a sk o=some (Out.of (iA (QO a sk m b))):=by
 unfold Z6 QO;cases Cc sk
 .cases hr:HV a
  .rw[h hr]
   unfold qB;cases(m==0)<;>cases(kM b==0)<;>rfl
  .rfl
 .rfl
theorem Bg{a:Nat->Nat}{sk j:Int}{b:Nat->Nat}(h:aj bW 103 [SH j a sk] (BX b)):smZ a sk j b=cond (!(kM b==0)) (qB 1) (qB 0):=ah h
section
variable(a:Nat->Nat)(sk:Int)
theorem sm1:aj bW 46 [SH 1 a sk] (iA (e1 a sk)):=by
 refine aP Lh (ak aD av) Tryz.func46 (by kernel_rfl) (by kernel_rfl) aA rfl ((aqP a sk (nG a)).trans (Gg λ hr=>?_));rw[Bg (ar1 a sk),FH (Bf hr).1];unfold Dg;cases gN (a 9) 0<;>rfl
theorem sm2:aj bW 46 [SH 2 a sk] (iA (e2 a sk)):=by
 refine aP Lh (ak aD av) Tryz.func46 (by kernel_rfl) (by kernel_rfl) aA rfl ((aqQ a sk (q9 a)).trans (Gg λ hr=>?_));rw[Bg (ar2 a sk)];unfold wW;cases Cb a<;>rfl
theorem sm3:aj bW 46 [SH 3 a sk] (iA (e3 a sk)):=by
 refine aP Lh (ak aD av) Tryz.func46 (by kernel_rfl) (by kernel_rfl) aA rfl ((aqR a sk (I8 a)).trans (Gg λ hr=>?_));rw[Bg (ar3 a sk)];rfl
theorem sm4:aj bW 46 [SH 4 a sk] (iA (e4 a sk)):=by
 refine aP Lh (ak aD av) Tryz.func46 (by kernel_rfl) (by kernel_rfl) aA rfl ((aqS a sk (nG a)).trans (Gg λ hr=>?_));rw[Bg (ar4 a sk),FH (Bf hr).1];unfold wX;cases gN (a 9) 0
 .rfl
 .rfl
theorem sm5:aj bW 46 [SH 5 a sk] (iA (e5 a sk)):=by
 refine aP Lh (ak aD av) Tryz.func46 (by kernel_rfl) (by kernel_rfl) aA rfl ((aqT a sk (pG a (zB a))).trans (Gg λ hr=>?_));rw[FH (Bf hr).1,aaF];unfold Dh;cases ho:Li (a 3) (a 4) (a 5)
 .cases gN (a 9) 0<;>rfl
 .rw[Bg (ar5 a sk ho)]
  cases gN (a 9) 0<;>rfl
theorem sm6:aj bW 46 [SH 6 a sk] (iA (e6 a sk)):=by
 refine aP Lh (ak aD av) Tryz.func46 (by kernel_rfl) (by kernel_rfl) aA rfl ((aqU a sk (pI a (zB a))).trans (Gg λ hr=>?_));rw[FH (Bf hr).2,aaF];unfold Di;rw[Qw (sS (Bf hr).1) (sS (Bf hr).2)];cases ho:Li (a 3) (a 4) (a 5)
 .cases gN (a 10) 0<;>cases jO (a 9) (a 10)<;>rfl
 .rw[Bg (ar6 a sk ho)]
  cases gN (a 10) 0<;>cases jO (a 9) (a 10)<;>rfl
theorem sm0{k:Int}(h:Vr k):aj bW 46 [SH k a sk] (iA (e0 a sk)):=by
 obtain⟨h1,h2,h3,h4,h5,h6⟩:=h;refine aP Lh (ak aD av) Tryz.func46 (by kernel_rfl) (by kernel_rfl) aA rfl ((aqV a sk k z6).trans ?_);rw[beq_false_of_ne h1,beq_false_of_ne h2,beq_false_of_ne h3,beq_false_of_ne h4,beq_false_of_ne h5,beq_false_of_ne h6];unfold Z6 e0 qB;cases Cc sk<;>cases HV a<;>rfl
end
section
variable(k:Int)(a:Nat->Nat)(sk:Int)(e:Int)(b:Nat->Nat)
end
end Go.Proofs.YtefphimaggjihaaGreatDoor.Hs
namespace Go.Proofs.YtefphimaggjihaaGreatDoor.Hs
open Go.Gv
open Go.Ev (cn bq dI bT fdiv d9 fI dK jO kL gN lK fabs aL)
abbrev fC(k:Int)(a:Nat->Nat)(sk:Int):List AV:=[iA k,.f (a 0),.f (a 1),.f (a 2),.f (a 3),.f (a 4),.f (a 5),.f (a 6),.f (a 7),.f (a 8),.f (a 9),.f (a 10),iA sk]
def KnZ(k:Int)(a:Nat->Nat)(sk:Int):Prop:=(k=1->e1 a sk=0)/\(k=2->e2 a sk=0)/\(k=3->e3 a sk=0)/\(k=4->e4 a sk=0)/\(k=5->e5 a sk=0)/\(k=6->e6 a sk=0)
def ahs:List AV->Prop
 | [.x (.int .i64 k),.f a0,.f a1,.f a2,.f a3,.f a4,.f a5,.f a6,.f a7,.f a8,.f a9,.f GZ,.x (.int .i64 sk)]=>HV (ls [a0,a1,a2,a3,a4,a5,a6,a7,a8,a9,GZ])=false/\(1<=k/\k<=6)/\(0<=sk/\sk<16)/\KnZ k (ls [a0,a1,a2,a3,a4,a5,a6,a7,a8,a9,GZ]) sk
 |_=>False
def alU(c:List AV)(m:Int):Prop:=aj bW 98 [.agg c] (iA m)/\aj bW 46 [.agg c] (iA m)/\(m=0->ahs c)
theorem Dt{sk:Int}(h:Cc sk=false):0<=sk/\sk<16:=by
 unfold Cc at h;by_cases h1:sk<0
 .rw[decide_eq_true h1]at h;cases h
 .rw[decide_eq_false h1,cond_false]at h
  have:=of_decide_eq_false h;omega
theorem Gi{k:Int}{a:Nat->Nat}{sk m:Int}{b:Nat->Nat}(hk:1<=k/\k<=6)(hz:KnZ k a sk)(h:QO a sk m b=0):ahs (fC k a sk):=by
 unfold QO at h;cases h1:Cc sk
 .cases h2:HV a
  .exact⟨h2,hk,Dt h1,hz⟩
  .rw[h1,h2]at h;cases h
 .rw[h1]at h;cases h
theorem arb(a:Nat->Nat)(sk:Int):e0 a sk≠0:=by
 unfold e0;cases Cc sk<;>cases HV a<;>decide
theorem yj(k:Int)(a:Nat->Nat)(sk:Int):∃m,alU (fC k a sk) m:=by
 by_cases h1:k=1
 .subst h1
  have sm:=sm1 a sk;by_cases h:e1 a sk=0
  .rw[h]at sm;exact⟨0,yt (Rf a sk h),sm,λ _=>Gi (by decide) ⟨λ _=>h,λ c=>absurd c (by decide),λ c=>absurd c (by decide),λ c=>absurd c (by decide),λ c=>absurd c (by decide),λ c=>absurd c (by decide)⟩ h⟩
  .exact⟨_,Ka (ahX a sk h),sm,λ he=>absurd he h⟩
 by_cases h2:k=2
 .subst h2
  have sm:=sm2 a sk;by_cases h:e2 a sk=0
  .rw[h]at sm;exact⟨0,yt (Rh a sk h),sm,λ _=>Gi (by decide) ⟨λ c=>absurd c (by decide),λ _=>h,λ c=>absurd c (by decide),λ c=>absurd c (by decide),λ c=>absurd c (by decide),λ c=>absurd c (by decide)⟩ h⟩
  .exact⟨_,Ka (ahY a sk h),sm,λ he=>absurd he h⟩
 by_cases h3:k=3
 .subst h3
  have sm:=sm3 a sk;by_cases h:e3 a sk=0
  .rw[h]at sm;exact⟨0,yt (Ri a sk h),sm,λ _=>Gi (by decide) ⟨λ c=>absurd c (by decide),λ c=>absurd c (by decide),λ _=>h,λ c=>absurd c (by decide),λ c=>absurd c (by decide),λ c=>absurd c (by decide)⟩ h⟩
  .exact⟨_,Ka (ahZ a sk h),sm,λ he=>absurd he h⟩
 by_cases h4:k=4
 .subst h4
  have sm:=sm4 a sk;by_cases h:e4 a sk=0
  .rw[h]at sm;exact⟨0,yt (Rj a sk h),sm,λ _=>Gi (by decide) ⟨λ c=>absurd c (by decide),λ c=>absurd c (by decide),λ c=>absurd c (by decide),λ _=>h,λ c=>absurd c (by decide),λ c=>absurd c (by decide)⟩ h⟩
  .exact⟨_,Ka (ah0 a sk h),sm,λ he=>absurd he h⟩
 by_cases h5:k=5
 .subst h5
  have sm:=sm5 a sk;by_cases h:e5 a sk=0
  .rw[h]at sm;exact⟨0,yt (Rk a sk h),sm,λ _=>Gi (by decide) ⟨λ c=>absurd c (by decide),λ c=>absurd c (by decide),λ c=>absurd c (by decide),λ c=>absurd c (by decide),λ _=>h,λ c=>absurd c (by decide)⟩ h⟩
  .exact⟨_,Ka (ah1 a sk h),sm,λ he=>absurd he h⟩
 by_cases h6:k=6
 .subst h6
  have sm:=sm6 a sk;by_cases h:e6 a sk=0
  .rw[h]at sm;exact⟨0,yt (Rl a sk h),sm,λ _=>Gi (by decide) ⟨λ c=>absurd c (by decide),λ c=>absurd c (by decide),λ c=>absurd c (by decide),λ c=>absurd c (by decide),λ c=>absurd c (by decide),λ _=>h⟩ h⟩
  .exact⟨_,Ka (ah2 a sk h),sm,λ he=>absurd he h⟩
 exact⟨_,Ka (ah3 ⟨h1,h2,h3,h4,h5,h6⟩ a sk),sm0 a sk ⟨h1,h2,h3,h4,h5,h6⟩,λ he=>absurd he (arb a sk)⟩
open Classical in
noncomputable def jG(c:List AV):Int:=if h:∃m,alU c m then h.choose else 0
theorem AP(k:Int)(a:Nat->Nat)(sk:Int):aj bW 98 [SH k a sk] (iA (jG (fC k a sk)))/\aj bW 46 [SH k a sk] (iA (jG (fC k a sk))):=by
 unfold jG;rw[dif_pos (yj k a sk)];exact⟨(yj k a sk).choose_spec.1,(yj k a sk).choose_spec.2.1⟩
theorem kI{k:Int}{a:Nat->Nat}{sk:Int}(h:jG (fC k a sk)=0):HV a=false/\(1<=k/\k<=6)/\0<=sk/\sk<16:=by
 unfold jG at h;rw[dif_pos (yj k a sk)]at h;obtain⟨h1,h2,h3,_⟩:=(yj k a sk).choose_spec.2.2 h;exact⟨h1,h2,h3⟩
theorem ahV{k:Int}{a:Nat->Nat}{sk:Int}(h:jG (fC k a sk)=0):KnZ k a sk:=by
 unfold jG at h;rw[dif_pos (yj k a sk)]at h;exact((yj k a sk).choose_spec.2.2 h).2.2.2
end Go.Proofs.YtefphimaggjihaaGreatDoor.Hs
namespace Go.Proofs.YtefphimaggjihaaGreatDoor.Hs.So
open Go.Gv
open Go.Ev (cn bq dI bT fdiv d9 fI dK jO kL gN lK fabs aL)
structure dM where
 op:Int
 l:Int
 r:Int
 k:Int
 a:Nat->Nat
 sk:Int
def dM.s(p:dM):List AV:=fC p.k p.a p.sk
def dM.c(p:dM):List AV:=[iA p.op,iA p.l,iA p.r,iA p.k,.f (p.a 0),.f (p.a 1),.f (p.a 2),.f (p.a 3),.f (p.a 4),.f (p.a 5),.f (p.a 6),.f (p.a 7),.f (p.a 8),.f (p.a 9),.f (p.a 10),iA p.sk]
def pJ(n:Nat)(P:Nat->dM):AV:=.sl 16 n λ i=>(P i).c
def Mk(n:Nat)(P:Nat->dM)(sn:Int):List AV:=[pJ n P,iA sn]
def eSc(g:List AV->AV):List AV->Option AV
 | [.agg [.x (.int .i64 k),.f a0,.f a1,.f a2,.f a3,.f a4,.f a5,.f a6,.f a7,.f a8,.f a9,.f GZ,.x (.int .i64 sk)]]=>some (g [.x (.int .i64 k),.f a0,.f a1,.f a2,.f a3,.f a4,.f a5,.f a6,.f a7,.f a8,.f a9,.f GZ,.x (.int .i64 sk)])
 |_=>none
theorem Yc{f:Nat}{g:List AV->AV}(h:∀k a sk,aj bW f [SH k a sk] (g (fC k a sk))):lg bW ⟨f,eSc g⟩:=λ args r hr=>by
 simp only[eSc]at hr;split at hr
 .cases hr;exact ER (h _ (ls [_,_,_,_,_,_,_,_,_,_,_]) _)
 .cases hr
def kin(k:Int):Bool:=(k==1)||((k==2)||(k==5))
def ktT{α:Type}(k:Int)(z t:α):α:=cond (k==1) (cond (k==1) z t) (cond (k==2) (cond (k==2) z t) (cond (k==5) z t))
theorem ap6{α:Type}(k:Int)(z t:α):ktT k z t=cond (kin k) z t:=by
 unfold ktT kin;cases k==1<;>cases k==2<;>cases k==5<;>rfl
section
variable(mf:List AV->Int)(k:Int)(a:Nat->Nat)(sk:Int)
def mlE(m k:Int):Int:=cond (!(m==0)) m (cond (kin k) 0 3)
theorem auR:ev bW [⟨98,eSc λ c=>iA (mf c)⟩] [] aM Tryz.f160 [SH k a sk] ret=cond (!(mf (fC k a sk)==0)) (qB (mf (fC k a sk))) (ktT k (qB 0) (qB 3)):=by kernel_rfl
end
theorem ako:lg bW ⟨98,eSc λ c=>iA (jG c)⟩:=Yc λ k a sk=>(AP k a sk).1
theorem agV:lg bW ⟨46,eSc λ c=>iA (jG c)⟩:=Yc λ k a sk=>(AP k a sk).2
theorem sml(k:Int)(a:Nat->Nat)(sk:Int):aj bW 160 [SH k a sk] (iA (mlE (jG (fC k a sk)) k)):=by
 refine sp (bn ako aB) Tryz.func160 (by kernel_rfl) (by kernel_rfl) rfl ((auR jG k a sk).trans ?_);rw[ap6];unfold mlE qB;cases(jG (fC k a sk)==0)<;>cases kin k<;>rfl
def auS:List AV->Int
 |.x (.int .i64 k)::_=>k
 |_=>0
theorem ap7:lg bW ⟨160,eSc λ c=>iA (mlE (jG c) (auS c))⟩:=Yc λ k a sk=>sml k a sk
def nmB(l r i:Int):Bool:=cond (cond (cond (decide (l<0)) true (decide (l≥i))) true (decide (r<0))) true (decide (r≥i))
def y7{α:Type}(o:Int)(z t:α):α:=cond (o==1) (cond (o==1) z t) (cond (o==2) (cond (o==2) z t) (cond (o==3) z t))
def opB(o:Int):Bool:=(o==1)||((o==2)||(o==3))
theorem ap8{α:Type}(o:Int)(z t:α):y7 o z t=cond (opB o) z t:=by
 unfold y7 opB;cases o==1<;>cases o==2<;>cases o==3<;>rfl
noncomputable def Qy(p:dM)(i:Int):Int:=cond (p.op==0) (mlE (jG p.s) p.k) (cond (opB p.op) (cond (nmB p.l p.r i) 9 0) 11)
theorem auT(g:List AV->Int)(p:dM)(i:Int):ev bW [⟨160,eSc λ c=>iA (g c)⟩] [] aM Tryz.f137 [.agg p.c,iA i] ret=cond (p.op==0) (qB (g p.s)) (y7 p.op (cond (nmB p.l p.r i) (qB 9) (qB 0)) (qB 11)):=by kernel_rfl
theorem smp(p:dM)(i:Int):aj bW 137 [.agg p.c,iA i] (iA (Qy p i)):=by
 refine sp (bn ap7 aB) Tryz.func137 (by kernel_rfl) (by kernel_rfl) rfl ((auT (λ c=>mlE (jG c) (auS c)) p i).trans ?_);rw[ap8];unfold Qy qB;show cond (p.op==0) (some (Out.of (iA (mlE (jG p.s) p.k)))) _=_;cases p.op==0<;>cases opB p.op<;>cases nmB p.l p.r i<;>rfl
def iP(fb:Nat->Int):Nat->Int
 | 0=>0
 |i+1=>cond (iP fb i==0) (fb i) (iP fb i)
theorem Al{fb:Nat->Int}:∀n,(∀i,i<n->fb i=0)->iP fb n=0
 | 0,_=>rfl
 |n+1,h=>by
  show cond (iP fb n==0) (fb n) (iP fb n)=0;rw[Al n λ i hi=>h i (by omega),h n (by omega)];rfl
theorem Am{fb:Nat->Int}{K:Nat}(hK:fb K≠0)(h:∀i,i<K->fb i=0):∀n,K<n->iP fb n=fb K
 | 0,hn=>absurd hn (azu _)
 |n+1,hn=>by
  show cond (iP fb n==0) (fb n) (iP fb n)=_;by_cases e:K=n
  .subst e;rw[Al K h];rfl
  .rw[Am hK h n (by omega),beq_false_of_ne hK];rfl
theorem dh{fb:Nat->Int}:∀n,iP fb n=0->∀i,i<n->fb i=0
 | 0,_,i,hi=>absurd hi (azu i)
 |n+1,h,i,hi=>by
  have h:cond (iP fb n==0) (fb n) (iP fb n)=0:=h;by_cases h0:iP fb n=0
  .rw[h0]at h
   have h:fb n=0:=h;by_cases e:i=n
   .subst e;exact h
   .exact dh n h0 i (by omega)
  .rw[beq_false_of_ne h0]at h;exact absurd h h0
noncomputable def Iw(P:Nat->dM)(i:Nat):Int:=Qy (P i) (i:Nat)
def Pk(n:Nat)(sn:Int)(R:Option Out):Option Out:=cond (cond (decide ((n:Int)<1)) true (decide ((n:Int)>16))) (qB 5) (cond (Cc sn) (qB 4) R)
noncomputable def Ms(n:Nat)(P:Nat->dM)(sn:Int):Int:=cond (cond (decide ((n:Int)<1)) true (decide ((n:Int)>16))) 5 (cond (Cc sn) 4 (iP (Iw P) n))
theorem F6{n:Nat}{P:Nat->dM}{sn:Int}{R:Option Out}(h:1<=n->n<=16->R=qB (iP (Iw P) n)):Pk n sn R=some (Out.of (iA (Ms n P sn))):=by
 unfold Pk Ms;by_cases h1:n<1
 .rw[decide_eq_true (show(n:Int)<1 by omega)];rfl
 .by_cases h2:16<n
  .rw[decide_eq_false (show ¬(n:Int)<1 by omega),decide_eq_true (show(n:Int)>16 by omega)];rfl
  .rw[decide_eq_false (show ¬(n:Int)<1 by omega),decide_eq_false (show ¬(n:Int)>16 by omega),h (by omega) (by omega)]
   unfold qB;cases Cc sn<;>rfl
def Qz(n:Nat)(P:Nat->dM)(i:Int):St:=mkS 39 [(25,pJ n P),(26,iA n),(27,iA i)] []
def ap9(e:Int):St:=mkS 39 [(2,iA e)] []
def eMp(g:List AV->Int->Int):List AV->Option AV
 | [.agg [.x (.int .i64 o),.x (.int .i64 l),.x (.int .i64 r),.x (.int .i64 k),.f a0,.f a1,.f a2,.f a3,.f a4,.f a5,.f a6,.f a7,.f a8,.f a9,.f GZ,.x (.int .i64 sk)],.x (.int .i64 i)]=>some (iA (g [.x (.int .i64 o),.x (.int .i64 l),.x (.int .i64 r),.x (.int .i64 k),.f a0,.f a1,.f a2,.f a3,.f a4,.f a5,.f a6,.f a7,.f a8,.f a9,.f GZ,.x (.int .i64 sk)] i))
 |_=>none
def decP:List AV->dM
 | [.x (.int .i64 o),.x (.int .i64 l),.x (.int .i64 r),.x (.int .i64 k),.f a0,.f a1,.f a2,.f a3,.f a4,.f a5,.f a6,.f a7,.f a8,.f a9,.f GZ,.x (.int .i64 sk)]=>⟨o,l,r,k,ls [a0,a1,a2,a3,a4,a5,a6,a7,a8,a9,GZ],sk⟩
 |_=>⟨0,0,0,0,λ _=>0,0⟩
noncomputable def mpG(c:List AV)(i:Int):Int:=Qy (decP c) i
theorem agW(p:dM)(i:Int):mpG p.c i=Qy p i:=rfl
theorem aqa:lg bW ⟨137,eMp mpG⟩:=λ args r hr=>by
 simp only[eMp]at hr;split at hr
 .cases hr;exact ER (smp ⟨_,_,_,_,ls [_,_,_,_,_,_,_,_,_,_,_],_⟩ _)
 .cases hr
section
variable(g:List AV->Int->Int)(n:Nat)(P:Nat->dM)(i:Int)(sn:Int)
def smC(o ob oe:Option Out):Option Out:=cond (decide (i<n)) (cond (mI i n||false) (cond (!(g (P i.toNat).c i==0)) ob o) none) oe
theorem akp:gD bW [⟨137,eMp g⟩] [] aM (au aAZ 0) (Qz n P i) (fu [25,26,27] [])=smC g n P i (some ⟨.normal,Qz n P (aI (i+1)),.any⟩) none none:=by kernel_rfl
theorem aqb:gD bW [⟨137,eMp g⟩] [] aM (au aAZ 0) (Qz n P i) (vD [2] [])=smC g n P i none (some ⟨.ret,ap9 (g (P i.toNat).c i),.any⟩) none:=by kernel_rfl
theorem aqc:gD bW [⟨137,eMp g⟩] [] aM (au aAZ 0) (Qz n P i) (gM [25,26,27] [])=smC g n P i none none (some ⟨.exit 0,Qz n P i,.any⟩):=by kernel_rfl
theorem aqd(j:Int):ev bW [⟨137,eMp g⟩] [] (gu 6 (fE [25,26,27] [] (Qz n P 0) (.exit 0) (Qz n P j))) aAZ [.agg (Mk n P sn)] ret=Pk n sn (gate (Sub (Qz n P 0) (Qz n P 0)) (qB 0)):=by kernel_rfl
theorem aqe(e:Int):ev bW [⟨137,eMp g⟩] [] (gu 6 (fE [25,26,27] [] (Qz n P 0) .ret (ap9 e))) aAZ [.agg (Mk n P sn)] ret=Pk n sn (gate (Sub (Qz n P 0) (Qz n P 0)) (qB e)):=by kernel_rfl
theorem aqf:ev bW [⟨137,eMp g⟩] [] (gu 6 λ _ _=>none) aAZ [.agg (Mk n P sn)] ret=Pk n sn none:=by kernel_rfl
end
theorem NA(n:Nat)(P:Nat->dM)(sn:Int):aj bW 99 [.agg (Mk n P sn)] (iA (Ms n P sn)):=by
 have en:=bn aqa aB;by_cases hc:n<1\/16<n
 .exact aP en av Tryz.func99 (by kernel_rfl) (by kernel_rfl) (iG 6) rfl ((aqf mpG n P sn).trans (F6 λ h1 h2=>absurd hc (by omega)))
 .have go:∀k,k<n->Iw P k=0->bF bW (au aAZ 0) (Qz n P (k:Nat)) .normal (Qz n P ((k+1:Nat):Int)):=λ k hk hb=>by
   refine aF (aT _ _) en av aA ((akp mpG n P (k:Nat)).trans ?_);unfold smC;rw[dec_lt hk,gy hk,Zk,agW,show Qy (P k) (k:Nat)=0 from hb,bD (by omega)];rfl
  rcases qI (λ i=>Iw P i==0) n with hl | ⟨K,hK,hp,hq⟩
  .have hl':∀i,i<n->Iw P i=0:=λ i hi=>by simpa using hl i hi
   have lead:bF bW (.loop (au aAZ 0)) (Qz n P 0) (.exit 0) (Qz n P (n:Nat)):=by
    refine aU (λ k=>Qz n P (k:Nat)) n (.exit 0) _ (by simp) (λ k hk=>go k hk (hl' k hk)) ?_;refine aF (bU _ _) en av aA ((aqc mpG n P (n:Nat)).trans ?_);unfold smC;rw[bQ,cond_false]
   refine aP en av Tryz.func99 (by kernel_rfl) (by kernel_rfl) (eZ (i:=6) 0 1 (by kernel_rfl) (by kernel_rfl) (aR (keep:=[25,26,27]) (τ:=[]) lead)) rfl ((aqd mpG n P sn (n:Nat)).trans (F6 λ _ _=>?_));rw[ah (Sub.refl _),Al n hl']
  .have hb:Iw P K≠0:=by simpa using hp
   have hq':∀i,i<K->Iw P i=0:=λ i hi=>by simpa using hq i hi
   have lead:bF bW (.loop (au aAZ 0)) (Qz n P 0) .ret (ap9 (Iw P K)):=by
    refine aU (λ k=>Qz n P (k:Nat)) K .ret _ (by simp) (λ k hk=>go k (by omega) (hq' k hk)) ?_;refine aF (gQ _ _) en av aA ((aqb mpG n P (K:Nat)).trans ?_);unfold smC;rw[dec_lt hK,gy hK,Zk,agW,beq_false_of_ne (show Qy (P K) (K:Nat)≠0 from hb)];rfl
   refine aP en av Tryz.func99 (by kernel_rfl) (by kernel_rfl) (eZ (i:=6) 0 1 (by kernel_rfl) (by kernel_rfl) (aR (keep:=[25,26,27]) (τ:=[]) lead)) rfl ((aqe mpG n P sn (Iw P K)).trans (F6 λ _ _=>?_));rw[ah (Sub.refl _),Am hb hq' n hK]
def QA(n:Nat)(P:Nat->dM)(sn:Int)(i:Int):St:=mkS 89 [(1,.own 0 0),(3,iA i)] [.c (Mk n P sn)]
def amE(e:Int):St:=mkS 89 [(2,iA e)] []
section
variable(mf:List AV->Int)(n:Nat)(P:Nat->dM)(sn:Int)(i:Int)
def knB(k:Int):Bool:=cond (cond (!(k==1)) (!(k==2)) false) (!(k==5)) false
def amC(p:dM)(r:Int->Option Out)(o:Option Out):Option Out:=cond (cond (decide (p.op<0)) true (decide (p.op>3))) (r 11) (cond (decide (p.op>0)) (cond (nmB p.l p.r i) (r 9) o) (cond (!(mf p.s==0)) (r (mf p.s)) (cond (knB p.k) (r 3) o)))
def amX(r:Int->Option Out)(o oe:Option Out):Option Out:=cond (decide (i<n)) (cond (mI i n||false) (amC mf i (P i.toNat) r o) none) oe
theorem akq:gD bW [⟨46,eSc λ c=>iA (mf c)⟩] [] aM (au aA0 0) (QA n P sn i) (fu [1,3] [some 0])=amX mf n P i (λ _=>none) (some ⟨.normal,QA n P sn (aI (i+1)),.any⟩) none:=by kernel_rfl
theorem aqg:gD bW [⟨46,eSc λ c=>iA (mf c)⟩] [] aM (au aA0 0) (QA n P sn i) (vD [2] [])=amX mf n P i (λ e=>some ⟨.ret,amE e,.any⟩) none none:=by kernel_rfl
theorem aqh:gD bW [⟨46,eSc λ c=>iA (mf c)⟩] [] aM (au aA0 0) (QA n P sn i) (gM [1,3] [some 0])=amX mf n P i (λ _=>none) none (some ⟨.exit 0,QA n P sn i,.any⟩):=by kernel_rfl
theorem aqi(j:Int):ev bW [⟨46,eSc λ c=>iA (mf c)⟩] [] (gu 6 (fE [1,3] [some 0] (QA n P sn 0) (.exit 0) (QA n P sn j))) aA0 [.agg (Mk n P sn)] ret=Pk n sn (gate (Sub (QA n P sn 0) (QA n P sn 0)) (qB 0)):=by kernel_rfl
theorem aqj(e:Int):ev bW [⟨46,eSc λ c=>iA (mf c)⟩] [] (gu 6 (fE [1,3] [some 0] (QA n P sn 0) .ret (amE e))) aA0 [.agg (Mk n P sn)] ret=Pk n sn (gate (Sub (QA n P sn 0) (QA n P sn 0)) (qB e)):=by kernel_rfl
theorem aqk:ev bW [⟨46,eSc λ c=>iA (mf c)⟩] [] (gu 6 λ _ _=>none) aA0 [.agg (Mk n P sn)] ret=Pk n sn none:=by kernel_rfl
end
theorem aql(k:Int):knB k=!kin k:=by
 unfold knB kin;cases k==1<;>cases k==2<;>cases k==5<;>rfl
theorem agX(p:dM)(i:Int)(r:Int->Option Out)(o:Option Out):amC jG i p r o=cond (Qy p i==0) o (r (Qy p i)):=by
 unfold amC Qy mlE;rw[aql];by_cases h0:p.op=0
 .rw[h0]
  cases hm:(jG p.s==0)
  .have:jG p.s≠0:=λ e=>by rw[e]at hm;cases hm
   show r (jG p.s)=cond (jG p.s==0) o (r (jG p.s));rw[hm];rfl
  .cases kin p.k<;>rfl
 .have hb:(p.op==0)=false:=beq_false_of_ne h0
  rw[hb];by_cases h1:p.op=1\/p.op=2\/p.op=3
  .rw[decide_eq_false (show ¬p.op<0 by omega),decide_eq_false (show ¬p.op>3 by omega),decide_eq_true (show p.op>0 by omega)]
   have:opB p.op=true:=by rcases h1 with h |h |h<;>rw[h]<;>rfl
   rw[this];cases nmB p.l p.r i<;>rfl
  .have h2:opB p.op=false:=by
    unfold opB;rw[beq_false_of_ne (show p.op≠1 by omega),beq_false_of_ne (show p.op≠2 by omega),beq_false_of_ne (show p.op≠3 by omega)];rfl
   rw[h2];by_cases h3:p.op<0
   .rw[decide_eq_true h3];rfl
   .rw[decide_eq_false h3,decide_eq_true (show p.op>3 by omega)];rfl
theorem XD(n:Nat)(P:Nat->dM)(sn:Int):aj bW 47 [.agg (Mk n P sn)] (iA (Ms n P sn)):=by
 have en:=bn agV aB;by_cases hc:n<1\/16<n
 .exact aP en av Tryz.func47 (by kernel_rfl) (by kernel_rfl) (iG 6) rfl ((aqk jG n P sn).trans (F6 λ h1 h2=>absurd hc (by omega)))
 .have go:∀k,k<n->Iw P k=0->bF bW (au aA0 0) (QA n P sn (k:Nat)) .normal (QA n P sn ((k+1:Nat):Int)):=λ k hk hb=>by
   refine aF (aT _ _) en av aA ((akq jG n P sn (k:Nat)).trans ?_);unfold amX;rw[dec_lt hk,gy hk,Zk,agX,show Qy (P k) (k:Nat)=0 from hb,bD (by omega)];rfl
  rcases qI (λ i=>Iw P i==0) n with hl | ⟨K,hK,hp,hq⟩
  .have hl':∀i,i<n->Iw P i=0:=λ i hi=>by simpa using hl i hi
   have lead:bF bW (.loop (au aA0 0)) (QA n P sn 0) (.exit 0) (QA n P sn (n:Nat)):=by
    refine aU (λ k=>QA n P sn (k:Nat)) n (.exit 0) _ (by simp) (λ k hk=>go k hk (hl' k hk)) ?_;refine aF (bU _ _) en av aA ((aqh jG n P sn (n:Nat)).trans ?_);unfold amX;rw[bQ,cond_false]
   refine aP en av Tryz.func47 (by kernel_rfl) (by kernel_rfl) (eZ (i:=6) 0 1 (by kernel_rfl) (by kernel_rfl) (aR (keep:=[1,3]) (τ:=[some 0]) lead)) rfl ((aqi jG n P sn (n:Nat)).trans (F6 λ _ _=>?_));rw[ah (Sub.refl _),Al n hl']
  .have hb:Iw P K≠0:=by simpa using hp
   have hq':∀i,i<K->Iw P i=0:=λ i hi=>by simpa using hq i hi
   have lead:bF bW (.loop (au aA0 0)) (QA n P sn 0) .ret (amE (Iw P K)):=by
    refine aU (λ k=>QA n P sn (k:Nat)) K .ret _ (by simp) (λ k hk=>go k (by omega) (hq' k hk)) ?_;refine aF (gQ _ _) en av aA ((aqg jG n P sn (K:Nat)).trans ?_);unfold amX;rw[dec_lt hK,gy hK,Zk,agX,beq_false_of_ne (show Qy (P K) (K:Nat)≠0 from hb)];rfl
   refine aP en av Tryz.func47 (by kernel_rfl) (by kernel_rfl) (eZ (i:=6) 0 1 (by kernel_rfl) (by kernel_rfl) (aR (keep:=[1,3]) (τ:=[some 0]) lead)) rfl ((aqj jG n P sn (Iw P K)).trans (F6 λ _ _=>?_));rw[ah (Sub.refl _),Am hb hq' n hK]
end Go.Proofs.YtefphimaggjihaaGreatDoor.Hs.So
namespace Go.Proofs.YtefphimaggjihaaGreatDoor.Hs.Fm
open Go.Gv
open Go.Ev (cn bq dI bT fdiv dK jO kL gN lK)
def apn(n:Int):Nat:=cn (ayP.nearest n)
def c3(p:Nat->Nat):List AV:=[.f (p 0),.f (p 1),.f (p 2)]
def c6(b:Nat->Nat):List AV:=[.f (b 0),.f (b 1),.f (b 2),.f (b 3),.f (b 4),.f (b 5)]
def pp(p:Nat->Nat):Nat->Nat:=ls [p 0,p 1,p 2,p 0,p 1,p 2]
def mJ(p:Nat->Nat->Nat):Nat->Nat->Nat
 | 0=>pp (p 0)
 |q+1=>BF (mJ p q) (pp (p q))
def z6:List AV:=[.f 0,.f 0,.f 0,.f 0,.f 0,.f 0]
def jg(n:Nat)(p:Nat->Nat->Nat)(q:Int)(b:Nat->Nat):St:=mkS 26 [(2,.own 0 0),(3,.own 1 0),(13,.sl 3 n λ q=>c3 (p q)),(14,iA n),(15,iA q)] [.c z6,.c (c6 b)]
def Ua:List Nat:=[2,3,13,14,15]
theorem Ub(n:Nat)(p:Nat->Nat->Nat)(q:Int)(b:Nat->Nat):gD bW V4 [] aM (au aCh 0) (jg n p q b) (fu Ua [some 0,some 1]) =
  cond (decide (q<(n:Int))) (cond ((decide (0<=q)&&decide (q<(n:Int)))&&true) (some ⟨.normal,jg n p (aI (q+1)) (BF b (pp (p q.toNat))),.any⟩) none) none:=by kernel_rfl
theorem XK(n:Nat)(p:Nat->Nat->Nat)(q:Int)(b:Nat->Nat):gD bW V4 [] aM (au aCh 0) (jg n p q b) (Pb Ua [some 0,some 1]) =
  cond (decide (q<(n:Int))) (cond ((decide (0<=q)&&decide (q<(n:Int)))&&true) none none) (some ⟨.exit 0,jg n p q b,.any⟩):=by kernel_rfl
theorem lF(n:Nat):decide (0<=(n:Int))=true:=decide_eq_true (Int.natCast_nonneg _)
theorem dec_lt{a b:Nat}(h:a<b):decide ((a:Int)<(b:Int))=true:=decide_eq_true (by omega)
theorem bQ(a:Nat):decide ((a:Int)<(a:Int))=false:=decide_eq_false (by omega)
theorem bD{n:Nat}(h:n<4611686018427387904):aI ((n:Int)+1)=((n+1:Nat):Int):=by rw[aO (by omega) (by omega)];omega
theorem Qi(n:Nat)(p:Nat->Nat->Nat)(hn:n<4611686018427387904):bF bW (.loop (au aCh 0)) (jg n p 0 (mJ p 0)) (.exit 0) (jg n p n (mJ p n)):=by
 refine aU (λ q=>jg n p (q:Nat) (mJ p q)) n (.exit 0) _ (by simp) (λ q hq=>?_) ?_
 .refine aF (aT Ua [some 0,some 1]) wG av aA ?_
  rw[Ub,dec_lt hq,lF,bD (by omega)];rfl
 .refine aF (nR Ua [some 0,some 1]) wG av aA ?_
  rw[XK,bQ];rfl
noncomputable def aai(n:Nat)(p:Nat->Nat->Nat):Nat->Option dN:=gu 3 (fE Ua [some 0,some 1] (jg n p 0 (mJ p 0)) (.exit 0) (jg n p n (mJ p n)))
theorem XL(n:Nat)(p:Nat->Nat->Nat)(hn:n<4611686018427387904):yN bW (aai n p) (dG aCh) :=
 kT (i:=3) 1 (by kernel_rfl) λ j hj _=>by
  have:j=0:=by omega
  subst this;exact aR (Qi n p hn)
theorem abL(n:Nat)(p:Nat->Nat->Nat):ev bW V4 [] (aai n p) aCh [.sl 3 n λ q=>c3 (p q)] ret =
  cond ((decide ((0:Int)<(n:Int))||false)&&((decide ((0:Int)<(n:Int))||false)&&true)) (gate (Sub (jg n p 0 (mJ p 0)) (jg n p 0 (mJ p 0))) (some (Out.of (.agg (c6 (mJ p n)))))) none:=by kernel_rfl
theorem Uc{n:Nat}(p:Nat->Nat->Nat)(h0:0<n)(hn:n<4611686018427387904):aj bW 163 [.sl 3 n λ q=>c3 (p q)] (.agg (c6 (mJ p n))):=by
 refine aP wG av Tryz.func163 (by kernel_rfl) (by kernel_rfl) (XL n p hn) rfl ?_;rw[abL,decide_eq_true (show(0:Int)<(n:Int) by omega),ah (Sub.refl _)];rfl
structure Fd where
 W:Int
 H:Int
 at_:Nat->Nat
 sd:Nat
 n:Nat
 hs:Nat->Int
 sk:Int
def Fd.c(F:Fd):List AV:=[iA F.W,iA F.H,.f (F.at_ 0),.f (F.at_ 1),.f (F.at_ 2),.f F.sd,.sl 1 F.n (λ i=>[iA (F.hs i)]),iA F.sk]
def mD(F:Fd)(r q:Int):St:=mkS 68 [(1,.own 0 0),(2,iA r),(55,.sl 1 F.n (λ i=>[iA (F.hs i)])),(56,iA F.n),(57,iA q)] [.c F.c]
def NI:List Nat:=[1,2,55,56,57]
def oO(h:Int):Bool:=cond (decide (h< -1000000)) true (decide (h>1000000))
theorem abM(F:Fd)(q:Int):gD bW V4 [] aM (au aAh 0) (mD F 0 q) (fu NI [some 0]) =
  cond (decide (q<(F.n:Int))) (cond ((decide (0<=q)&&decide (q<(F.n:Int)))&&true) (cond (oO (F.hs q.toNat)) none (some ⟨.normal,mD F 0 (aI (q+1)),.any⟩)) none) none:=by kernel_rfl
theorem Ud(F:Fd)(q:Int):gD bW V4 [] aM (au aAh 0) (mD F 0 q) (Pb NI [some 0]) =
  cond (decide (q<(F.n:Int))) (cond ((decide (0<=q)&&decide (q<(F.n:Int)))&&true) (cond (oO (F.hs q.toNat)) (some ⟨.ret,mD F 6 q,.any⟩) none) none) (some ⟨.exit 0,mD F 0 q,.any⟩):=by kernel_rfl
theorem KN{F:Fd}{q:Nat}(hn:F.n<4611686018427387904)(hq:q<F.n)(hb:oO (F.hs q)=false):bF bW (au aAh 0) (mD F 0 (q:Nat)) .normal (mD F 0 ((q+1:Nat):Int)):=by
 refine aF (aT NI [some 0]) wG av aA ?_;rw[abM,dec_lt hq,lF,bD (by omega)];simp only[Zk,hb];rfl
theorem aj5{F:Fd}(hn:F.n<4611686018427387904)(h:∀q,q<F.n->oO (F.hs q)=false):bF bW (.loop (au aAh 0)) (mD F 0 0) (.exit 0) (mD F 0 F.n):=by
 refine aU (λ q=>mD F 0 (q:Nat)) F.n (.exit 0) _ (by simp) (λ q hq=>KN hn hq (h q hq)) ?_;refine aF (nR NI [some 0]) wG av aA ?_;rw[Ud,bQ];rfl
theorem agh{F:Fd}(hn:F.n<4611686018427387904){j:Nat}(hj:j<F.n)(hb:oO (F.hs j)=true)(h:∀q,q<j->oO (F.hs q)=false):bF bW (.loop (au aAh 0)) (mD F 0 0) .ret (mD F 6 (j:Nat)):=by
 refine aU (λ q=>mD F 0 (q:Nat)) j .ret _ (by simp) (λ q hq=>KN hn (by omega) (h q hq)) ?_;refine aF (nR NI [some 0]) wG av aA ?_;rw[Ud,dec_lt hj,lF];simp only[Zk,hb];rfl
noncomputable def apo(F:Fd)(ex:Exit)(sf:St):Nat->Option dN:=gu 12 (fE NI [some 0] (mD F 0 0) ex sf)
theorem Ue{F:Fd}{ex:Exit}{sf:St}(h:bF bW (.loop (au aAh 0)) (mD F 0 0) ex sf):yN bW (apo F ex sf) (dG aAh) :=
 kT (i:=12) 1 (by kernel_rfl) λ j hj _=>by
  have:j=0:=by omega
  subst this;exact aR h
def Fd.E8(F:Fd):Bool:=cond (cond (cond (decide (F.W<2)) true (decide (F.W>8))) true (decide (F.H<2))) true (decide (F.H>8))
def Fd.far(F:Fd):Bool:=cond (!dL (F.at_ 0) (F.at_ 1) (F.at_ 2)) true (!eP F.sd)
def Fd.first(F:Fd)(X:Option Out):Option Out:=cond F.E8 (some (Out.of (iA 4))) (cond (!((F.n:Int)==aI (F.W*F.H))) (some (Out.of (iA 5))) (cond (Cc F.sk) (some (Out.of (iA 4))) (cond F.far (some (Out.of (iA 1))) (cond (!gN F.sd 0) (some (Out.of (iA 6))) X))))
theorem abN(F:Fd):ev bW V4 [] (apo F (.exit 0) (mD F 0 F.n)) aAh [.agg F.c] ret=F.first (gate (Sub (mD F 0 0) (mD F 0 0)) (some (Out.of (iA 0)))):=by kernel_rfl
theorem XM(F:Fd)(j:Int):ev bW V4 [] (apo F .ret (mD F 6 j)) aAh [.agg F.c] ret=F.first (gate (Sub (mD F 0 0) (mD F 0 0)) (some (Out.of (iA 6)))):=by kernel_rfl
theorem AQ(hs:Nat->Int):∀n,(∀q,q<n->oO (hs q)=false)\/∃j,j<n/\oO (hs j)=true/\∀q,q<j->oO (hs q)=false
 | 0=>ER λ q hq=>by omega
 |n+1=>by
  rcases AQ hs n with h | ⟨j,h1,h2,h3⟩
  .cases hb:oO (hs n)
   .exact ER λ q hq=>by
     by_cases e:q=n
     .rw[e];exact hb
     .exact h q (by omega)
   .exact aaH ⟨n,by omega,hb,h⟩
  .exact aaH ⟨j,by omega,h2,h3⟩
def Fd.ru(F:Fd):Bool:=(av2 F.n).all λ q=>!oO (F.hs q)
def Fd.jM(F:Fd):Int:=cond F.E8 4 (cond (!((F.n:Int)==aI (F.W*F.H))) 5 (cond (Cc F.sk) 4 (cond F.far 1 (cond (!gN F.sd 0) 6 (cond F.ru 0 6)))))
theorem Uf(F:Fd)(hn:F.n<4611686018427387904):aj bW 161 [.agg F.c] (iA F.jM):=by
 have fin:∀e:Int,F.ru=(e==0)->(e=0\/e=6)->F.first (some (Out.of (iA e)))=some (Out.of (iA F.jM)):=λ e h1 h2=>by
  unfold Fd.first Fd.jM;rw[h1];cases F.E8<;>simp only[cond_true,cond_false];cases(!((F.n:Int)==aI (F.W*F.H)))<;>simp only[cond_true,cond_false];cases Cc F.sk<;>simp only[cond_true,cond_false];cases F.far<;>simp only[cond_true,cond_false];cases(!gN F.sd 0)<;>simp only[cond_true,cond_false];rcases h2 with rfl |rfl<;>rfl
 rcases AQ F.hs F.n with h | ⟨j,h1,h2,h3⟩
 .refine aP wG av Tryz.func161 (by kernel_rfl) (by kernel_rfl) (Ue (aj5 hn h)) rfl ?_
  rw[abN,ah (Sub.refl _)];refine fin 0 ?_ (ER rfl);unfold Fd.ru;rw[apB.2]
  .rfl
  .intro q hq
   rw[h q (ayA.1 hq)];rfl
 .refine aP wG av Tryz.func161 (by kernel_rfl) (by kernel_rfl) (Ue (agh hn h1 h2 h3)) rfl ?_
  rw[XM,ah (Sub.refl _)];refine fin 6 ?_ (aaH rfl);unfold Fd.ru;rw[aBT.2 ⟨j,ayA.2 h1,by rw[h2];simp⟩];rfl
def O9(F:Fd)(h x y:Int):Nat->Nat:=ls [bq (F.at_ 0) (bT (apn x) F.sd),bq (F.at_ 1) (fdiv (apn h) 4652007308841189376),bq (F.at_ 2) (bT (apn y) F.sd)]
def pt(F:Fd)(q:Nat):Nat->Nat:=O9 F (F.hs q) ((q % F.W.toNat:Nat):Int) ((q / F.W.toNat:Nat):Int)
def pts(F:Fd):Nat->List AV:=λ q=>c3 (pt F q)
def qx(F:Fd)(y x:Int)(m:Nat)(ps:Nat->List AV):St:=mkS 63 [(1,.own 0 0),(3,.fJ 1 3 0 m),(4,iA y),(13,iA F.H),(14,iA y),(18,iA F.W),(19,iA x)] [.c F.c,.a 30 3 m ps]
def Ug:List Nat:=[1,3,4,13,14,18,19]
def ix(W y x:Int):Int:=aI (aI (y*W)+x)
theorem XO(F:Fd)(y x:Int)(m:Nat)(ps:Nat->List AV):gD bW [] [] aM (au azP 1) (qx F y x m ps) (fu Ug [some 0,some 3]) =
   cond (decide (x<F.W)) (cond (((decide (0<=ix F.W y x)&&decide (ix F.W y x<(F.n:Int)))||false)&&((((m==m)&&aqE ((m+1)*24) 140737488355328)||false)&&true))
    (some ⟨.normal,qx F y (aI (x+1)) (m+1) (λ q=>dn (afC q m) (ps q) (c3 (O9 F (F.hs (ix F.W y x).toNat) x y))),.any⟩) none) none:=by kernel_rfl
theorem abO(F:Fd)(y x:Int)(m:Nat)(ps:Nat->List AV):gD bW [] [] aM (au azP 1) (qx F y x m ps) (Pb Ug [some 0,some 1]) =
   cond (decide (x<F.W)) (cond (((decide (0<=ix F.W y x)&&decide (ix F.W y x<(F.n:Int)))||false)&&((((m==m)&&aqE ((m+1)*24) 140737488355328)||false)&&true)) none none)
    (some ⟨.exit 2,qx F y x m ps,.any⟩):=by kernel_rfl
structure Lu(F:Fd)(w h:Nat):Prop where
 W:F.W=(w:Int)
 H:F.H=(h:Int)
 n:F.n=w*h
 w1:2<=w
 h1:2<=h
 w8:w<=8
 h8:h<=8
theorem Lu.le{F:Fd}{w h:Nat}(d:Lu F w h):w*h<=64:=azQ d.w8 d.h8
theorem Lu.row{F:Fd}{w h y:Nat}(_:Lu F w h)(hy:y<h):y*w+w<=w*h:=by
 have:(y+1)*w<=h*w:=Nat.mul_le_mul_right _ hy;rw[Nat.add_mul,aye h w]at this;omega
theorem Lu.ix{F:Fd}{w h y x:Nat}(d:Lu F w h)(hy:y<h)(hx:x<w):ix F.W (y:Nat) (x:Nat)=((y*w+x:Nat):Int):=by
 have h1:=d.row hy;have h2:=d.le;unfold Go.Proofs.YtefphimaggjihaaGreatDoor.Hs.Fm.ix;rw[d.W];have hp:((y:Int)*(w:Int))=((y*w:Nat):Int):=by simp
 rw[hp,aO (n:=((y*w:Nat):Int)) (by omega) (by omega),aO (by omega) (by omega)];omega
theorem qA{F:Fd}{w h y x:Nat}(d:Lu F w h)(hx:x<w):pt F (y*w+x)=O9 F (F.hs (y*w+x)) (x:Nat) (y:Nat):=by
 have hm:(y*w+x) % w=x:=by rw[aye,Nat.mul_add_mod];exact Nat.mod_eq_of_lt hx
 have hd:(y*w+x) / w=y:=by
  rw[aye,Nat.mul_add_div (by omega),Nat.div_eq_of_lt hx];omega
 unfold pt;rw[d.W,Zk,hm,hd]
theorem uw{q m:Nat}(h:afC q m=false):m<=q:=ayU λ hc=>by
 have:afC q m=true:=ah4 hc;rw[this]at h;cases h
theorem Uh{F:Fd}{w h y:Nat}(d:Lu F w h)(hy:y<h) :
  bF bW (.loop (au azP 1)) (qx F (y:Nat) 0 (y*w) (pts F)) (.exit 2) (qx F (y:Nat) (w:Nat) (y*w+w) (pts F)):=by
 have hle:=d.le;have hyW:=d.row hy;refine aU (λ j=>qx F (y:Nat) (j:Nat) (y*w+j) (pts F)) w (.exit 2) _ (by simp) (λ j hj=>?_) ?_
 .have hix:=d.ix hy hj
  refine bF.sub (aF (aT Ug [some 0,some 3]) aB av aA (s':=qx F (y:Nat) (aI ((j:Int)+1)) (y*w+j+1) (λ q=>dn (afC q (y*w+j)) (pts F q) (c3 (O9 F (F.hs (ix F.W (y:Nat) (j:Nat)).toNat) (j:Nat) (y:Nat))))) ?_) (Sub.refl _) ?_
  .rw[XO]
   have c1:decide (((j:Nat):Int)<F.W)=true:=by rw[d.W];exact dec_lt hj
   have c2:decide (0<=ix F.W (y:Nat) (j:Nat))=true:=by rw[hix];exact lF _
   have c3:decide (ix F.W (y:Nat) (j:Nat)<(F.n:Int))=true:=by rw[hix,d.n];exact dec_lt (by omega)
   have c4:aqE ((y*w+j+1)*24) 140737488355328=true:=ah4 (by omega);rw[c1,c2,c3,c4];simp only[cond_true,Bool.and_self,aAS,BEq.rfl]
  .rw[bD (by omega),hix,Zk]
   refine zG ⟨ER rfl,aaH ⟨30,3,y*w+j+1,_,_,rfl,rfl,λ q hq=>?_⟩,trivial⟩;cases hlt:afC q (y*w+j)
   .have hq2:q=y*w+j:=by have:=uw hlt;omega
    subst hq2;unfold pts;rw[qA d hj];unfold c3;simp only[dn,kZ,cond_false]
   .unfold pts c3
    simp only[dn,kZ,cond_true]
 .refine aF (nR Ug [some 0,some 1]) aB av aA ?_
  rw[abO];have c1:decide (((w:Nat):Int)<F.W)=false:=by rw[d.W];exact bQ w
  rw[c1];rfl
def sJ(F:Fd)(y:Int)(m:Nat)(ps:Nat->List AV):St:=mkS 63 [(1,.own 0 0),(3,.fJ 1 3 0 m),(13,iA F.H),(14,iA y)] [.c F.c,.a 30 3 m ps]
def Ui:List Nat:=[1,3,13,14]
noncomputable def agi(F:Fd)(w y:Nat):Nat->Option dN:=gu 6 (fE Ug [some 0,some 1] (qx F (y:Nat) 0 (y*w) (pts F)) (.exit 2) (qx F (y:Nat) (w:Nat) (y*w+w) (pts F)))
theorem aci{F:Fd}{w h y:Nat}(d:Lu F w h)(hy:y<h):yN bW (agi F w y) (au azP 0) :=
 kT (i:=6) 1 (by kernel_rfl) λ j hj _=>by
  have:j=0:=by omega
  subst this;have e:(bC (au azP 0)).getD 0 .skip=au azP 1:=by kernel_rfl
  rw[e];exact aR (Uh d hy)
theorem Yq(F:Fd)(w y:Nat):gD bW [] [] (agi F w y) (au azP 0) (sJ F (y:Nat) (y*w) (pts F)) (fu Ui [some 0,some 1]) =
  cond (decide (((y:Nat):Int)<F.H)) (gate (Sub (qx F (y:Nat) 0 (y*w) (pts F)) (qx F (y:Nat) 0 (y*w) (pts F))) (some ⟨.normal,sJ F (aI (((y:Nat):Int)+1)) (y*w+w) (pts F),.any⟩)) none:=by kernel_rfl
theorem Yr(F:Fd)(y m:Nat):gD bW [] [] (gu 6 λ _ _=>none) (au azP 0) (sJ F (y:Nat) m (pts F)) (Pb Ui [some 0,some 1]) =
  cond (decide (((y:Nat):Int)<F.H)) none (some ⟨.exit 0,sJ F (y:Nat) m (pts F),.any⟩):=by kernel_rfl
theorem iG{P:Program}{c:Code}(i:Nat):yN P (gu i λ _ _=>none) c:=by
 intro c' _ i' g' _ hg;unfold gu at hg;cases hb:ax0 i' i
 .rw[hb]at hg;cases hg
 .rw[hb]at hg
  cases hg;exact⟨λ _ _ _ hr=>(by cases hr),λ _ _ _ hk=>(by have:=hk (λ e s=>some ⟨e,s,.any⟩);cases this)⟩
theorem UD{F:Fd}{w h:Nat}(d:Lu F w h):bF bW (.loop (au azP 0)) (sJ F 0 (0*w) (pts F)) (.exit 0) (sJ F (h:Nat) (h*w) (pts F)):=by
 have h8:=d.h8;refine aU (λ y=>sJ F (y:Nat) (y*w) (pts F)) h (.exit 0) _ (by simp) (λ y hy=>?_) ?_
 .refine aF (aT Ui [some 0,some 1]) aB av (aci d hy) ?_
  have c1:decide (((y:Nat):Int)<F.H)=true:=by rw[d.H];exact dec_lt hy
  rw[Yq,c1,ah (Sub.refl _),bD (by omega),aBG];rfl
 .refine aF (nR Ui [some 0,some 1]) aB av (iG 6) ?_
  have c1:decide (((h:Nat):Int)<F.H)=false:=by rw[d.H];exact bQ h
  rw[Yr,c1];rfl
noncomputable def aaz(F:Fd)(w h:Nat):Nat->Option dN:=gu 3 (fE Ui [some 0,some 1] (sJ F 0 (0*w) (pts F)) (.exit 0) (sJ F (h:Nat) (h*w) (pts F)))
theorem Yt{F:Fd}{w h:Nat}(d:Lu F w h):yN bW (aaz F w h) (dG azP) :=
  kT (i:=3) 2 (by kernel_rfl) λ j hj hid=>by
    have:j=0\/j=1:=by omega
    rcases this with rfl |rfl
    . exact aR (UD d)
    . have e:jA ((bC (dG azP)).getD 1 .skip)=some 6:=by kernel_rfl
      rw[e]at hid;cases hid
def alO(F:Fd):St:=mkS 63 [(1,.own 0 0),(3,.fJ 1 3 0 0),(13,iA F.H),(14,iA 0)] [.c F.c,.a 30 3 0 λ _=>[.f 0,.f 0,.f 0]]
theorem acj(F:Fd)(w h:Nat):ev bW [] [] (aaz F w h) azP [.agg F.c] ret =
  cond ((decide (0<=aI (F.W*F.H))&&decide (((24:Nat):Int)*aI (F.W*F.H)<=281474976710656))&&true)
   (gate (Sub (alO F) (sJ F 0 (0*w) (pts F))) (some (Out.of (.sl 3 (h*w) λ i=>c3 (pt F (0+i)))))) none:=by kernel_rfl
theorem Lu.prod{F:Fd}{w h:Nat}(d:Lu F w h):aI (F.W*F.H)=((w*h:Nat):Int):=by
 have:=d.le;rw[d.W,d.H,<-azn];exact aO (by omega) (by omega)
theorem UE{F:Fd}{w h:Nat}(d:Lu F w h):aj bW 162 [.agg F.c] (.sl 3 (w*h) λ q=>c3 (pt F q)):=by
 refine aP aB av Tryz.func162 (by kernel_rfl) (by kernel_rfl) (Yt d) rfl ?_;have hle:=d.le
 have hs:Sub (alO F) (sJ F 0 (0*w) (pts F)):=by
  rw[aza];exact zG ⟨ER rfl,aaH ⟨30,3,0,_,_,rfl,rfl,λ q hq=>by omega⟩,trivial⟩
 have c2:decide (((24:Nat):Int)*((w*h:Nat):Int)<=281474976710656)=true:=decide_eq_true (by omega);have e:(λ i=>c3 (pt F (0+i)))=λ q=>c3 (pt F q):=funext λ i=>by rw[avB]
 rw[acj,d.prod,lF,c2,ah hs,e,aye h w];rfl
def K5:List AV:=[iA 0,iA 0,iA 0,.x (.slice none 0 0),.f 0,.f 0,.f 0,.f 0,.f 0,.f 0]
def aap(F:Fd)(n:Nat)(b:Nat->Nat):List AV:=[iA F.W,iA F.H,iA F.sk,.sl 3 n (λ q=>c3 (pt F q)),.f (b 0),.f (b 1),.f (b 2),.f (b 3),.f (b 4),.f (b 5)]
theorem NN(F:Fd)(e:Int):ev bW V4 [Uq 161 [.agg F.c] (iA e)] aM aFc [.agg F.c] ret =
  gate ([AV.agg F.c]=[AV.agg F.c]) (cond (!(e==0)) (some (Out.of (.aN [.agg K5,iA e]))) none):=by kernel_rfl
theorem acn(F:Fd)(n:Nat)(b:Nat->Nat):ev bW V4 [Uq 161 [.agg F.c] (iA 0),Uq 162 [.agg F.c] (.sl 3 n λ q=>c3 (pt F q)),Uq 163 [.sl 3 n λ q=>c3 (pt F q)] (.agg (c6 b))] aM aFc [.agg F.c] ret =
  gate ([AV.agg F.c]=[AV.agg F.c]) (gate ([AV.agg F.c]=[AV.agg F.c]) (gate ([AV.sl 3 n λ q=>c3 (pt F q)]=[AV.sl 3 n λ q=>c3 (pt F q)]) (cond (!(kM b==0)) (some (Out.of (.aN [.agg K5,iA 1]))) (some (Out.of (.aN [.agg (aap F n b),iA 0])))))):=by kernel_rfl
theorem ab0{F:Fd}(hn:F.n<4611686018427387904)(he:F.jM≠0):aj bW 138 [.agg F.c] (.aN [.agg K5,iA F.jM]):=by
 refine aP wG (ak (uG (Uf F hn)) av) Tryz.func138 (by kernel_rfl) (by kernel_rfl) aA rfl ?_;rw[NN,ah rfl,beq_false_of_ne he];rfl
def bx(F:Fd):Nat->Nat:=mJ (pt F) F.n
theorem Rm{F:Fd}{w h:Nat}(d:Lu F w h)(he:F.jM=0):aj bW 138 [.agg F.c] (.aN (cond (kM (bx F)==0) [.agg (aap F F.n (bx F)),iA 0] [.agg K5,iA 1])):=by
 have hle:=d.le;have hpos:4<=w*h:=azQ d.w1 d.h1;have hn:=d.n;have s1:=Uf F (by omega);rw[he]at s1;have s2:=UE d;have s3:=Uc (n:=w*h) (pt F) (by omega) (by omega);refine aP wG (ak (uG s1) (ak (uG s2) (ak (uG s3) av))) Tryz.func138 (by kernel_rfl) (by kernel_rfl) aA rfl ?_;rw[acn,ah rfl,ah rfl,ah rfl];unfold bx;rw[hn];cases kM (mJ (pt F) (w*h))==0<;>rfl
def inR(k:Int)(n:Nat):Bool:=decide (0<=k)&&decide (k<(n:Int))
theorem Ih{k n:Nat}(h:k<n):inR (k:Nat) n=true:=by unfold inR;rw[lF,dec_lt h];rfl
noncomputable def GK(P:Program)(g:Func):List aV:=[inl P R3 [] (λ _=>aM) 144 g]
theorem Sy:∀e,e∈GK bW aBf->tO bW e:=ak (anf pF av (by kernel_rfl) Tryz.func144 (by kernel_rfl) (by kernel_rfl) (c:=dG aBf) λ _=>aA) av
def fbI(F:Fd)(y x:Int)(p b:Nat->Nat):St:=mkS 39 [(1,.own 0 0),(2,.own 1 0),(3,.own 2 0),(4,.own 3 0),(5,iA y),(6,iA x)] [.c F.c,.c z6,.c (c3 p),.c (c6 b)]
def fbO(F:Fd)(y:Int)(p b:Nat->Nat):St:=mkS 39 [(1,.own 0 0),(2,.own 1 0),(3,.own 2 0),(4,.own 3 0),(5,iA y)] [.c F.c,.c z6,.c (c3 p),.c (c6 b)]
def Sz:List Nat:=[1,2,3,4,5,6]
def SA:List Nat:=[1,2,3,4,5]
def Ii(F:Fd)(e q:Int):St:=mkS 83 [(1,.own 0 0),(2,iA e),(5,iA q)] [.c F.c]
def FE:List Nat:=[1,2,5]
theorem aes(F:Fd)(y x:Int)(p b:Nat->Nat):gD bW R3 (GK bW aBf) aM (au azR 1) (fbI F y x p b) (fu Sz [some 0,some 1,some 2,some 3]) =
  cond (decide (x<F.W)) (cond ((inR (ix F.W y x) F.n||false)&&true) (some ⟨.normal,fbI F y (aI (x+1)) (O9 F (F.hs (ix F.W y x).toNat) x y) (BF b (pp (O9 F (F.hs (ix F.W y x).toNat) x y))),.any⟩) none) none:=by kernel_rfl
theorem aiK(F:Fd)(y x:Int)(p b:Nat->Nat):gD bW R3 (GK bW aBf) aM (au azR 1) (fbI F y x p b) (Pb Sz [some 0,some 1,some 2,some 3]) =
  cond (decide (x<F.W)) (cond ((inR (ix F.W y x) F.n||false)&&true) none none) (some ⟨.exit 2,fbI F y x p b,.any⟩):=by kernel_rfl
def qD(p:Nat->Nat->Nat):Nat->Nat->Nat
 | 0=>p 0
 |q+1=>p q
theorem abb{F:Fd}{w h y:Nat}(d:Lu F w h)(hy:y<h):bF bW (.loop (au azR 1)) (fbI F (y:Nat) 0 (qD (pt F) (y*w)) (mJ (pt F) (y*w))) (.exit 2) (fbI F (y:Nat) (w:Nat) (qD (pt F) (y*w+w)) (mJ (pt F) (y*w+w))):=by
 have hle:=d.le;have hyW:=d.row hy;refine aU (λ j=>fbI F (y:Nat) (j:Nat) (qD (pt F) (y*w+j)) (mJ (pt F) (y*w+j))) w (.exit 2) _ (by simp) (λ j hj=>?_) ?_
 .refine aF (aT Sz [some 0,some 1,some 2,some 3]) pF Sy aA ?_
  have c1:decide (((j:Nat):Int)<F.W)=true:=by rw[d.W];exact dec_lt hj
  rw[aes,c1,d.ix hy hj,Ih (by rw[d.n];omega),bD (by omega),Zk,<-qA d hj];rfl
 .refine aF (nR Sz [some 0,some 1,some 2,some 3]) pF Sy aA ?_
  have c1:decide (((w:Nat):Int)<F.W)=false:=by rw[d.W];exact bQ w
  rw[aiK,c1];rfl
noncomputable def as2(F:Fd)(w y:Nat):Nat->Option dN:=gu 7 (fE Sz [some 0,some 1,some 2,some 3] (fbI F (y:Nat) 0 (qD (pt F) (y*w)) (mJ (pt F) (y*w))) (.exit 2) (fbI F (y:Nat) (w:Nat) (qD (pt F) (y*w+w)) (mJ (pt F) (y*w+w))))
theorem aiL{F:Fd}{w h y:Nat}(d:Lu F w h)(hy:y<h):yN bW (as2 F w y) (au azR 0) :=
 kT (i:=7) 1 (by kernel_rfl) λ j hj _=>by
  have:j=0:=by omega
  subst this;have e:(bC (au azR 0)).getD 0 .skip=au azR 1:=by kernel_rfl
  rw[e];exact aR (abb d hy)
theorem aeu(F:Fd)(w y:Nat):gD bW R3 (GK bW aBf) (as2 F w y) (au azR 0) (fbO F (y:Nat) (qD (pt F) (y*w)) (mJ (pt F) (y*w))) (fu SA [some 0,some 1,some 2,some 3]) =
  cond (decide (((y:Nat):Int)<F.H)) (gate (Sub (fbI F (y:Nat) 0 (qD (pt F) (y*w)) (mJ (pt F) (y*w))) (fbI F (y:Nat) 0 (qD (pt F) (y*w)) (mJ (pt F) (y*w)))) (some ⟨.normal,fbO F (aI (((y:Nat):Int)+1)) (qD (pt F) (y*w+w)) (mJ (pt F) (y*w+w)),.any⟩)) none:=by kernel_rfl
theorem aev(F:Fd)(y:Int)(p b:Nat->Nat):gD bW R3 (GK bW aBf) (gu 7 λ _ _=>none) (au azR 0) (fbO F y p b) (Pb SA [some 0,some 1,some 2,some 3]) =
  cond (decide (y<F.H)) none (some ⟨.exit 0,fbO F y p b,.any⟩):=by kernel_rfl
theorem abd{F:Fd}{w h:Nat}(d:Lu F w h):bF bW (.loop (au azR 0)) (fbO F 0 (qD (pt F) (0*w)) (mJ (pt F) (0*w))) (.exit 0) (fbO F (h:Nat) (qD (pt F) (h*w)) (mJ (pt F) (h*w))):=by
 have h8:=d.h8;refine aU (λ y=>fbO F (y:Nat) (qD (pt F) (y*w)) (mJ (pt F) (y*w))) h (.exit 0) _ (by simp) (λ y hy=>?_) ?_
 .refine aF (aT SA [some 0,some 1,some 2,some 3]) pF Sy (aiL d hy) ?_
  have c1:decide (((y:Nat):Int)<F.H)=true:=by rw[d.H];exact dec_lt hy
  rw[aeu,c1,ah (Sub.refl _),bD (by omega),aBG y w];rfl
 .refine aF (nR SA [some 0,some 1,some 2,some 3]) pF Sy (iG 7) ?_
  have c1:decide (((h:Nat):Int)<F.H)=false:=by rw[d.H];exact bQ h
  rw[aev,c1];rfl
noncomputable def fbL(F:Fd)(w h:Nat):Nat->Option dN:=gu 4 (fE SA [some 0,some 1,some 2,some 3] (fbO F 0 (qD (pt F) (0*w)) (mJ (pt F) (0*w))) (.exit 0) (fbO F (h:Nat) (qD (pt F) (h*w)) (mJ (pt F) (h*w))))
theorem ang{F:Fd}{w h:Nat}(d:Lu F w h):yN bW (fbL F w h) (dG azR) :=
  kT (i:=4) 2 (by kernel_rfl) λ j hj hid=>by
    have:j=0\/j=1:=by omega
    rcases this with rfl |rfl
    . exact aR (abd d)
    . have e:jA ((bC (dG azR)).getD 1 .skip)=some 7:=by kernel_rfl
      rw[e]at hid;cases hid
theorem as3(F:Fd)(w h:Nat):ev bW R3 (GK bW aBf) (fbL F w h) azR [.agg F.c] ret =
  cond ((inR (ix F.W 0 0) F.n||false)&&true) (gate (Sub (fbO F 0 (O9 F (F.hs (ix F.W 0 0).toNat) 0 0) (pp (O9 F (F.hs (ix F.W 0 0).toNat) 0 0))) (fbO F 0 (qD (pt F) (0*w)) (mJ (pt F) (0*w)))) (some (Out.of (.agg (c6 (mJ (pt F) (h*w))))))) none:=by kernel_rfl
theorem aiM{F:Fd}{w h:Nat}(d:Lu F w h):aj bW 104 [.agg F.c] (.agg (c6 (bx F))):=by
 refine aP pF Sy Tryz.func104 (by kernel_rfl) (by kernel_rfl) (ang d) rfl ?_;have hpos:4<=w*h:=azQ d.w1 d.h1;have hn:=d.n;have hw:=d.w1;have hix:ix F.W 0 0=((0*w+0:Nat):Int):=d.ix (y:=0) (x:=0) (by have:=d.h1;omega) (by omega)
 have hpt:O9 F (F.hs (0*w+0)) 0 0=pt F 0:=by
  have:=(qA (y:=0) (x:=0) d (by omega)).symm;rw[aza]at this ⊢;exact this
 rw[as3,hix,Ih (by rw[hn];omega),Zk,hpt]
 have hs:Sub (fbO F 0 (pt F 0) (pp (pt F 0))) (fbO F 0 (qD (pt F) (0*w)) (mJ (pt F) (0*w))):=by
  rw[aza];exact Sub.refl _
 rw[ah hs];unfold bx;rw[hn,aye h w];rfl
theorem akd(F:Fd)(q:Int):gD bW R3 [] aM (au aAo 0) (Ii F 0 q) (fu FE [some 0]) =
  cond (decide (q<(F.n:Int))) (cond (inR q F.n||false) (cond (inR q F.n||!((decide (F.hs q.toNat< -1000000)==false)&&true)) (cond (oO (F.hs q.toNat)) none (some ⟨.normal,Ii F 0 (aI (q+1)),.any⟩)) none) none) none:=by kernel_rfl
theorem agA(F:Fd)(q:Int):gD bW R3 [] aM (au aAo 0) (Ii F 0 q) (Pb FE [some 0]) =
  cond (decide (q<(F.n:Int))) (cond (inR q F.n||false) (cond (inR q F.n||!((decide (F.hs q.toNat< -1000000)==false)&&true)) (cond (oO (F.hs q.toNat)) (some ⟨.ret,Ii F 6 q,.any⟩) none) none) none) (some ⟨.exit 0,Ii F 0 q,.any⟩):=by kernel_rfl
theorem Us{F:Fd}{q:Nat}(hn:F.n<4611686018427387904)(hq:q<F.n)(hb:oO (F.hs q)=false):bF bW (au aAo 0) (Ii F 0 (q:Nat)) .normal (Ii F 0 ((q+1:Nat):Int)):=by
 refine aF (aT FE [some 0]) pF av aA ?_;rw[akd,dec_lt hq,Ih hq,bD (by omega)];simp only[Zk,hb,aEC,cond_true,cond_false]
theorem alF{F:Fd}(hn:F.n<4611686018427387904)(h:∀q,q<F.n->oO (F.hs q)=false):bF bW (.loop (au aAo 0)) (Ii F 0 0) (.exit 0) (Ii F 0 F.n):=by
 refine aU (λ q=>Ii F 0 (q:Nat)) F.n (.exit 0) _ (by simp) (λ q hq=>Us hn hq (h q hq)) ?_;refine aF (nR FE [some 0]) pF av aA ?_;rw[agA,bQ];rfl
theorem apD{F:Fd}(hn:F.n<4611686018427387904){j:Nat}(hj:j<F.n)(hb:oO (F.hs j)=true)(h:∀q,q<j->oO (F.hs q)=false):bF bW (.loop (au aAo 0)) (Ii F 0 0) .ret (Ii F 6 (j:Nat)):=by
 refine aU (λ q=>Ii F 0 (q:Nat)) j .ret _ (by simp) (λ q hq=>Us hn (by omega) (h q hq)) ?_;refine aF (nR FE [some 0]) pF av aA ?_;rw[agA,dec_lt hj,Ih hj];simp only[Zk,hb,aEC,cond_true]
noncomputable def rmL(F:Fd)(ex:Exit)(sf:St):Nat->Option dN:=gu 14 (fE FE [some 0] (Ii F 0 0) ex sf)
theorem Qr{F:Fd}{ex:Exit}{sf:St}(h:bF bW (.loop (au aAo 0)) (Ii F 0 0) ex sf):yN bW (rmL F ex sf) (dG aAo) :=
 kT (i:=14) 1 (by kernel_rfl) λ j hj _=>by
  have:j=0:=by omega
  subst this;exact aR h
def Fd.FZ(F:Fd)(X:Option Out):Option Out:=cond F.E8 (some (Out.of (iA 4))) (cond (!((F.n:Int)==aI (F.W*F.H))) (some (Out.of (iA 5))) (cond (Cc F.sk) (some (Out.of (iA 4))) (cond F.far (some (Out.of (iA 1))) (cond (kL F.sd 0) (some (Out.of (iA 6))) X))))
theorem apE(F:Fd):ev bW R3 [] (rmL F (.exit 0) (Ii F 0 F.n)) aAo [.agg F.c] ret=F.FZ (gate (Sub (Ii F 0 0) (Ii F 0 0)) none):=by kernel_rfl
theorem apF(F:Fd)(j:Int):ev bW R3 [] (rmL F .ret (Ii F 6 j)) aAo [.agg F.c] ret=F.FZ (gate (Sub (Ii F 0 0) (Ii F 0 0)) (some (Out.of (iA 6)))):=by kernel_rfl
theorem apG(F:Fd)(b:Nat->Nat):ev bW R3 [Uq 104 [.agg F.c] (.agg (c6 b))] (rmL F (.exit 0) (Ii F 0 F.n)) aAo [.agg F.c] ret =
  F.FZ (gate (Sub (Ii F 0 0) (Ii F 0 0)) (gate ([AV.agg F.c]=[AV.agg F.c]) (cond (!(kM b==0)) (some (Out.of (iA 1))) (some (Out.of (iA 0)))))):=by kernel_rfl
theorem AZ(F:Fd)(X:Option Out):F.FZ X=F.first X:=by
 unfold Fd.FZ Fd.first;cases hf:F.far
 .have hn:eP F.sd=true:=by
   unfold Fd.far at hf;revert hf;cases dL (F.at_ 0) (F.at_ 1) (F.at_ 2)<;>cases eP F.sd<;>intro hf<;>first |rfl | (cases hf)
  rw[FH hn]
 .rfl
theorem agB{F:Fd}(hn:F.n<4611686018427387904)(he:F.jM≠0):aj bW 48 [.agg F.c] (iA F.jM):=by
 have fin:∀(X:Option Out),(F.ru=true\/X=some (Out.of (iA 6))/\F.ru=false)->F.first X=some (Out.of (iA F.jM)):=λ X hX=>by
  revert he;unfold Fd.first Fd.jM;cases F.E8<;>simp only[cond_true,cond_false]
  .cases(!((F.n:Int)==aI (F.W*F.H)))<;>simp only[cond_true,cond_false]
   .cases Cc F.sk<;>simp only[cond_true,cond_false]
    .cases F.far<;>simp only[cond_true,cond_false]
     .cases(!gN F.sd 0)<;>simp only[cond_true,cond_false]
      .rcases hX with h1 | ⟨h1,h2⟩
       .rw[h1];intro he;exact absurd rfl he
       .rw[h1,h2];intro _;rfl
      .intro _;trivial
     .intro _;trivial
    .intro _;trivial
   .intro _;trivial
  .intro _;trivial
 rcases AQ F.hs F.n with h | ⟨j,h1,h2,h3⟩
 .refine aP pF av Tryz.func48 (by kernel_rfl) (by kernel_rfl) (Qr (alF hn h)) rfl ?_
  rw[apE,ah (Sub.refl _),AZ];refine fin _ (ER ?_);unfold Fd.ru;rw[apB.2];intro q hq;rw[h q (ayA.1 hq)];rfl
 .refine aP pF av Tryz.func48 (by kernel_rfl) (by kernel_rfl) (Qr (apD hn h1 h2 h3)) rfl ?_
  rw[apF,ah (Sub.refl _),AZ];refine fin _ (aaH ⟨rfl,?_⟩);unfold Fd.ru;rw[aBT.2 ⟨j,ayA.2 h1,by rw[h2];simp⟩]
theorem abY{F:Fd}{w h:Nat}(d:Lu F w h)(he:F.jM=0):aj bW 48 [.agg F.c] (iA (cond (kM (bx F)==0) 0 1)):=by
 have hle:=d.le;have hn:=d.n;rcases AQ F.hs F.n with h | ⟨j,h1,h2,h3⟩
 .refine aP pF (ak (uG (aiM d)) av) Tryz.func48 (by kernel_rfl) (by kernel_rfl) (Qr (alF (by omega) h)) rfl ?_
  rw[apG,ah (Sub.refl _),ah rfl,AZ];revert he;unfold Fd.first Fd.jM;cases F.E8<;>simp only[cond_true,cond_false]
  .cases(!((F.n:Int)==aI (F.W*F.H)))<;>simp only[cond_true,cond_false]
   .cases Cc F.sk<;>simp only[cond_true,cond_false]
    .cases F.far<;>simp only[cond_true,cond_false]
     .cases(!gN F.sd 0)<;>simp only[cond_true,cond_false]
      .intro _;cases kM (bx F)==0<;>rfl
      .intro he;cases he
     .intro he;cases he
    .intro he;cases he
   .intro he;cases he
  .intro he;cases he
 .exfalso
  have hk:F.ru=false:=by
   unfold Fd.ru;rw[aBT.2 ⟨j,ayA.2 h1,by rw[h2];simp⟩]
  revert he;unfold Fd.jM;rw[hk];cases F.E8<;>cases(!((F.n:Int)==aI (F.W*F.H)))<;>cases Cc F.sk<;>cases F.far<;>cases(!gN F.sd 0)<;>intro he<;>cases he
theorem apH(F:Fd)(e:Int):ev bW [] [Uq 138 [.agg F.c] (.aN [.agg K5,iA e])] aM aFd [.agg F.c] ret=gate ([AV.agg F.c]=[AV.agg F.c]) (some (Out.of (iA e))):=by kernel_rfl
theorem apI(F:Fd)(n:Nat)(b:Nat->Nat):ev bW [] [Uq 138 [.agg F.c] (.aN [.agg (aap F n b),iA 0])] aM aFd [.agg F.c] ret=gate ([AV.agg F.c]=[AV.agg F.c]) (some (Out.of (iA 0))):=by kernel_rfl
theorem X7{F:Fd}{e:Int}(h:aj bW 138 [.agg F.c] (.aN [.agg K5,iA e])):aj bW 100 [.agg F.c] (iA e) :=
 aP aB (ak (uG h) av) Tryz.func100 (by kernel_rfl) (by kernel_rfl) aA rfl ((apH F e).trans (ah rfl))
theorem Y6{F:Fd}{n:Nat}{b:Nat->Nat}(h:aj bW 138 [.agg F.c] (.aN [.agg (aap F n b),iA 0])):aj bW 100 [.agg F.c] (iA 0) :=
 aP aB (ak (uG h) av) Tryz.func100 (by kernel_rfl) (by kernel_rfl) aA rfl ((apI F n b).trans (ah rfl))
theorem Ja{F:Fd}(h:F.jM=0):(∃w h,Lu F w h)/\F.far=false:=by
 unfold Fd.jM at h;cases hd:F.E8
 .rw[hd,cond_false]at h
  cases hn:((F.n:Int)==aI (F.W*F.H))
  .rw[hn]at h;exact absurd (show(5:Int)=0 from h) (by decide)
  .rw[hn]at h
   have h:cond (Cc F.sk) 4 (cond F.far 1 (cond (!gN F.sd 0) 6 (cond F.ru 0 6)))=(0:Int):=h;cases hk:Cc F.sk
   .rw[hk,cond_false]at h
    cases hf:F.far
    .refine⟨?_,rfl⟩
     unfold Fd.E8 at hd;have d1:¬F.W<2:=λ c=>by rw[decide_eq_true c]at hd;cases hd
     rw[decide_eq_false d1,cond_false]at hd;have d2:¬F.W>8:=λ c=>by rw[decide_eq_true c]at hd;cases hd
     rw[decide_eq_false d2,cond_false]at hd;have d3:¬F.H<2:=λ c=>by rw[decide_eq_true c]at hd;cases hd
     rw[decide_eq_false d3,cond_false]at hd;have d4:¬F.H>8:=λ c=>by rw[decide_eq_true c]at hd;cases hd
     have eW:F.W=((F.W.toNat:Nat):Int):=by omega
     have eH:F.H=((F.H.toNat:Nat):Int):=by omega
     have hle:F.W.toNat*F.H.toNat<=8*8:=azQ (by omega) (by omega);have e:F.W*F.H=((F.W.toNat*F.H.toNat:Nat):Int):=by rw[azn,<-eW,<-eH]
     have hn:=eq_of_beq hn;rw[e,aO (by omega) (by omega)]at hn;exact⟨F.W.toNat,F.H.toNat,eW,eH,by omega,by omega,by omega,by omega,by omega⟩
    .rw[hf]at h;exact absurd (show(1:Int)=0 from h) (by decide)
   .rw[hk]at h;exact absurd (show(4:Int)=0 from h) (by decide)
 .rw[hd]at h;exact absurd (show(4:Int)=0 from h) (by decide)
theorem abZ(F:Fd):ev bW V4 [] (gu 12 λ _ _=>none) aAh [.agg F.c] ret=F.first none:=by kernel_rfl
theorem agC(F:Fd):ev bW R3 [] (gu 14 λ _ _=>none) aAo [.agg F.c] ret=F.FZ none:=by kernel_rfl
theorem agD{F:Fd}(hn:¬F.n<4611686018427387904)(X:Option Out):F.first X=some (Out.of (iA F.jM))/\F.jM≠0:=by
 cases hd:F.E8
 .cases he:((F.n:Int)==aI (F.W*F.H))
  .unfold Fd.first Fd.jM
   rw[hd,he];exact⟨rfl,show(5:Int)≠0 by decide⟩
  .exfalso
   unfold Fd.E8 at hd;have d1:¬F.W<2:=λ c=>by rw[decide_eq_true c]at hd;cases hd
   rw[decide_eq_false d1,cond_false]at hd;have d2:¬F.W>8:=λ c=>by rw[decide_eq_true c]at hd;cases hd
   rw[decide_eq_false d2,cond_false]at hd;have d3:¬F.H<2:=λ c=>by rw[decide_eq_true c]at hd;cases hd
   rw[decide_eq_false d3,cond_false]at hd;have d4:¬F.H>8:=λ c=>by rw[decide_eq_true c]at hd;cases hd
   have hle:F.W.toNat*F.H.toNat<=8*8:=azQ (by omega) (by omega);have eW:F.W=((F.W.toNat:Nat):Int):=by omega
   have eH:F.H=((F.H.toNat:Nat):Int):=by omega
   have e:F.W*F.H=((F.W.toNat*F.H.toNat:Nat):Int):=by rw[azn,<-eW,<-eH]
   have he:=eq_of_beq he;rw[e,aO (by omega) (by omega)]at he;omega
 .unfold Fd.first Fd.jM
  rw[hd];exact⟨rfl,show(4:Int)≠0 by decide⟩
theorem agE{sk:Int}(h:Cc sk=false):0<=sk/\sk<16:=by
 unfold Cc at h;by_cases h1:sk<0
 .rw[decide_eq_true h1]at h;cases h
 .rw[decide_eq_false h1,cond_false]at h
  have:=of_decide_eq_false h;omega
theorem af3{F:Fd}(h:F.jM=0):(2<=F.W/\F.W<=8/\2<=F.H/\F.H<=8)/\(0<=F.sk/\F.sk<16)/\∀q,q<F.n->oO (F.hs q)=false:=by
 obtain⟨⟨w,h',d⟩,_⟩:=Ja h
 obtain⟨hk,hs⟩:F.ru=true/\Cc F.sk=false:=by
  unfold Fd.jM at h;revert h;cases F.E8<;>cases(!((F.n:Int)==aI (F.W*F.H)))<;>cases Cc F.sk<;>cases F.far<;>cases(!gN F.sd 0)<;>cases F.ru<;>intro h<;>first |exact⟨rfl,rfl⟩ | (cases h;done)
 refine⟨?_,agE hs,λ q hq=>?_⟩
 .have a1:=d.W
  have a2:=d.H;have a3:=d.w8;have a4:=d.h8;have a5:=d.w1;have a6:=d.h1;omega
 .unfold Fd.ru at hk
  have:=apB.1 hk q (ayA.2 hq);simpa using this
theorem abJ(F:Fd):∃m,aj bW 100 [.agg F.c] (iA m)/\aj bW 48 [.agg F.c] (iA m)/\(m=0->F.far=false/\F.n<=64/\F.jM=0/\(kM (bx F)==0)=true):=by
 by_cases hn:F.n<4611686018427387904
 .by_cases he:F.jM=0
  .obtain⟨⟨w,h,d⟩,hf⟩:=Ja he
   have k:=Rm d he;have g:=abY d he;have hl:=d.le;cases hb:kM (bx F)==0
   .rw[hb]at k g;exact⟨1,X7 k,g,λ h=>absurd h (by decide)⟩
   .rw[hb]at k g;exact⟨0,Y6 k,g,λ _=>⟨hf,by rw[d.n];exact hl,he,rfl⟩⟩
  .exact⟨_,X7 (ab0 hn he),agB hn he,λ h=>absurd h he⟩
 .have f:=agD hn none
  have s1:aj bW 161 [.agg F.c] (iA F.jM):=aP wG av Tryz.func161 (by kernel_rfl) (by kernel_rfl) (iG 12) rfl ((abZ F).trans f.1);have s2:aj bW 48 [.agg F.c] (iA F.jM):=aP pF av Tryz.func48 (by kernel_rfl) (by kernel_rfl) (iG 14) rfl ((agC F).trans ((AZ F none).trans f.1))
  have s3:aj bW 138 [.agg F.c] (.aN [.agg K5,iA F.jM]):=by
   refine aP wG (ak (uG s1) av) Tryz.func138 (by kernel_rfl) (by kernel_rfl) aA rfl ?_;rw[NN,ah rfl,beq_false_of_ne f.2];rfl
  exact⟨_,X7 s3,s2,λ h=>absurd h f.2⟩
end Go.Proofs.YtefphimaggjihaaGreatDoor.Hs.Fm
