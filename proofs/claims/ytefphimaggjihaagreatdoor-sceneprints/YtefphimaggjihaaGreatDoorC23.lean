/-
  U1 U2 U3 U4 U5 U6 Hv0 Hv1 Hv2 Hv3 Hv4 Hv5 Hv6 Hv7 Hv8 Hv9 Hva Hr1 Fl Hf0 Hr2 Rw1 So1 Fm1 Fm2 Fm3 Fm4 Sc0 Sc1 Sc2 Sc3, one behind the other.
-/
import Derived.Test.YtefphimaggjihaaGreatDoorC21
import Derived.Test.YtefphimaggjihaaGreatDoorC22
import Derived.Shelf.Strings.Builder1
import Derived.Shelf.Strings.Trim
import Derived.Shelf.Strconv.Itoa3
import Derived.Test.YtefphimaggjihaaGreatDoorC13
import Derived.Test.YtefphimaggjihaaGreatDoorC4
namespace Go.Proofs.YtefphimaggjihaaGreatDoor.Pi
open Go.Shelf Go.RowKit Go.Gv

def zA (s:ByteArray):AV:=.x (.string s)
/-- The bytes of a string; the string of bytes. -/
def bL (s:ByteArray):List UInt8:=s.data.toList
def lB (l:List UInt8):ByteArray:=⟨l.toArray⟩
@[simp] theorem bL_lB (l:List UInt8):bL (lB l)=l:=by simp [bL,lB]
@[simp] theorem lB_bL (s:ByteArray):lB (bL s)=s:=by simp [bL,lB]
theorem bL_inj {s t:ByteArray} (h:bL s=bL t):s=t:=by rw [← lB_bL s,h,lB_bL]
theorem size_bL (s:ByteArray):s.size=(bL s).length:=Lib.size_eq s
theorem size_lB (l:List UInt8):(lB l).size=l.length:=by rw [size_bL,bL_lB]
theorem bL_extract (s:ByteArray) (a b:Nat):bL (s.extract a b)=((bL s).take b).drop a:=by
  unfold bL
  rw [ByteArray.data_extract,Array.toList_extract]
  simp [List.extract_eq_take_drop,List.drop_take]
theorem rels_x {E:Env}:∀ {vs us:List Value},rels E (vs.map .x) us→us=vs
  | [],us,h=>rels_nil.1 h
  | v::vs,us,h=>by
    obtain ⟨u,us',e,h1,h2⟩:=rels_cons.1 h
    rw [e,rel_x.1 h1,rels_x h2]
/-- A contract of the library's shelf, as one of ours. -/
theorem fspec_calls {f : Nat} {fn : Func} (hf : Tryz.prog.funcs[f]? = some fn) (hnm : (fn.name == "runtime.NumGoroutine") = false) (hb : fn.body.isNone = false) (vs : List Value) {v : Value} {r : AV} (hr : ∀ E, rel E r v)
    (h:∀ w,Calls Tryz.prog f vs.toArray w fun e w'=>e=.returned v∧Below w.heap.size w w'):FSpec Tryz.prog f (vs.map .x) r:=by
  refine ⟨⟨fn,hf,hnm,hb⟩,fun A w cargs _ hr' _=>?_⟩
  have e:=rels_x hr'
  have e2:cargs=vs.toArray:=by apply Array.ext'; simpa using e
  subst e2
  exact (h w).mono fun e w' ⟨h1,h2⟩=>⟨v,h1,hr _,h2⟩
end Go.Proofs.YtefphimaggjihaaGreatDoor.Pi

namespace Go.Proofs.YtefphimaggjihaaGreatDoor
open Go.Shelf
def Tryz.lays240_ren:Go.Shelf.Ren:=⟨fun | 240=>154 | 276=>173 | n=>n,fun | 0=>0 | 4=>4 | 9=>9 | 20=>20 | 37=>78 | 70=>77 | 72=>80 | 164=>204 | n=>n,fun  | n=>n⟩
theorem Tryz.lays240:Go.Proofs.Lays.n240 Tryz.prog Tryz.lays240_ren:={
  mixed:=by kernel_rfl
  f240:=Tryz.func154.trans (congrArg some (by kernel_rfl))
  f276:=Tryz.func173.trans (congrArg some (by kernel_rfl))
  t0:=Tryz.underlying0
  a0:=Tryz.isAgg0
  z0:=Tryz.sizeOf0
  v0:=Tryz.zeroValue0
  t4:=Tryz.underlying4
  a4:=Tryz.isAgg4
  z4:=Tryz.sizeOf4
  v4:=Tryz.zeroValue4
  t9:=Tryz.underlying9
  a9:=Tryz.isAgg9
  z9:=Tryz.sizeOf9
  v9:=Tryz.zeroValue9
  t20:=Tryz.underlying20
  a20:=Tryz.isAgg20
  z20:=Tryz.sizeOf20
  v20:=Tryz.zeroValue20
  t70:=Tryz.underlying77
  a70:=Tryz.isAgg77
  z70:=Tryz.sizeOf77
  v70:=Tryz.zeroValue77
  t72:=Tryz.underlying80
  a72:=Tryz.isAgg80
  z72:=Tryz.sizeOf80
  v72:=Tryz.zeroValue80
  t164:=Tryz.underlying204
  a164:=Tryz.isAgg204
  z164:=Tryz.sizeOf204
  v164:=Tryz.zeroValue204
}
def Tryz.laysm171_ren:Go.Shelf.Ren:=⟨fun | 129=>224 | 171=>129 | 243=>155 | 246=>174 | 283=>199 | 284=>200 | 285=>201 | 286=>202 | 317=>223 | 318=>225 | 319=>226 | 320=>227 | 337=>238 | 338=>239 | n=>n,fun | 0=>0 | 2=>2 | 3=>3 | 4=>4 | 5=>5 | 9=>9 | 20=>20 | 37=>78 | 46=>225 | 51=>244 | 53=>223 | 171=>227 | 173=>230 | 212=>243 | 213=>245 | 232=>259 | 233=>260 | n=>n,fun | 17=>2 | 18=>3 | 19=>4 | n=>n⟩
theorem Tryz.laysm171:Go.Proofs.LaysM.n171 Tryz.prog Tryz.laysm171_ren:={
  mixed:=by kernel_rfl
  f129:=Tryz.func224.trans (congrArg some (by kernel_rfl))
  f171:=Tryz.func129.trans (congrArg some (by kernel_rfl))
  f243:=Tryz.func155.trans (congrArg some (by kernel_rfl))
  f246:=Tryz.func174.trans (congrArg some (by kernel_rfl))
  f283:=Tryz.func199.trans (congrArg some (by kernel_rfl))
  f284:=Tryz.func200.trans (congrArg some (by kernel_rfl))
  f285:=Tryz.func201.trans (congrArg some (by kernel_rfl))
  f286:=Tryz.func202.trans (congrArg some (by kernel_rfl))
  f317:=Tryz.func223.trans (congrArg some (by kernel_rfl))
  f318:=Tryz.func225.trans (congrArg some (by kernel_rfl))
  f319:=Tryz.func226.trans (congrArg some (by kernel_rfl))
  f320:=Tryz.func227.trans (congrArg some (by kernel_rfl))
  f337:=Tryz.func238.trans (congrArg some (by kernel_rfl))
  f338:=Tryz.func239.trans (congrArg some (by kernel_rfl))
  t0:=Tryz.underlying0
  a0:=Tryz.isAgg0
  z0:=Tryz.sizeOf0
  v0:=Tryz.zeroValue0
  t2:=Tryz.underlying2
  a2:=Tryz.isAgg2
  z2:=Tryz.sizeOf2
  v2:=Tryz.zeroValue2
  t3:=Tryz.underlying3
  a3:=Tryz.isAgg3
  z3:=Tryz.sizeOf3
  v3:=Tryz.zeroValue3
  t4:=Tryz.underlying4
  a4:=Tryz.isAgg4
  z4:=Tryz.sizeOf4
  v4:=Tryz.zeroValue4
  t5:=Tryz.underlying5
  a5:=Tryz.isAgg5
  z5:=Tryz.sizeOf5
  v5:=Tryz.zeroValue5
  t9:=Tryz.underlying9
  a9:=Tryz.isAgg9
  z9:=Tryz.sizeOf9
  v9:=Tryz.zeroValue9
  t20:=Tryz.underlying20
  a20:=Tryz.isAgg20
  z20:=Tryz.sizeOf20
  v20:=Tryz.zeroValue20
  t37:=Tryz.underlying78
  a37:=Tryz.isAgg78
  z37:=Tryz.sizeOf78
  v37:=Tryz.zeroValue78
  t46:=Tryz.underlying225
  a46:=Tryz.isAgg225
  z46:=Tryz.sizeOf225
  v46:=Tryz.zeroValue225
  t51:=Tryz.underlying244
  a51:=Tryz.isAgg244
  z51:=Tryz.sizeOf244
  v51:=Tryz.zeroValue244
  t53:=Tryz.underlying223
  a53:=Tryz.isAgg223
  z53:=Tryz.sizeOf223
  v53:=Tryz.zeroValue223
  t171:=Tryz.underlying227
  a171:=Tryz.isAgg227
  z171:=Tryz.sizeOf227
  v171:=Tryz.zeroValue227
  t173:=Tryz.underlying230
  a173:=Tryz.isAgg230
  z173:=Tryz.sizeOf230
  v173:=Tryz.zeroValue230
  t212:=Tryz.underlying243
  a212:=Tryz.isAgg243
  z212:=Tryz.sizeOf243
  v212:=Tryz.zeroValue243
  t213:=Tryz.underlying245
  a213:=Tryz.isAgg245
  z213:=Tryz.sizeOf245
  t232:=Tryz.underlying259
  a232:=Tryz.isAgg259
  z232:=Tryz.sizeOf259
  v232:=Tryz.zeroValue259
  t233:=Tryz.underlying260
  a233:=Tryz.isAgg260
  z233:=Tryz.sizeOf260
  v233:=Tryz.zeroValue260
  g17:=by kernel_rfl
  g18:=by kernel_rfl
  g19:=by kernel_rfl
  i0:=by kernel_rfl
  i2:=by kernel_rfl
  i3:=by kernel_rfl
  i4:=by kernel_rfl
  i5:=by kernel_rfl
  i9:=by kernel_rfl
  i20:=by kernel_rfl
  i37:=by kernel_rfl
  i46:=by kernel_rfl
  i51:=by kernel_rfl
  i53:=by kernel_rfl
  i171:=by kernel_rfl
  i173:=by kernel_rfl
  i212:=by kernel_rfl
  i232:=by kernel_rfl
  i233:=by kernel_rfl
  m17:=by kernel_rfl
  m18:=by kernel_rfl
  m19:=by kernel_rfl
}
def Tryz.lays162_ren:Go.Shelf.Ren:=⟨fun | 119=>242 | 120=>228 | 137=>241 | 151=>205 | 152=>230 | 162=>156 | 197=>229 | 217=>250 | 224=>243 | 225=>244 | 227=>176 | 228=>203 | 232=>175 | 234=>177 | 236=>178 | 260=>240 | 266=>253 | 271=>204 | n=>n,fun | 0=>0 | 3=>3 | 4=>4 | 5=>5 | 9=>9 | 21=>21 | 46=>225 | 105=>233 | 116=>209 | 117=>210 | 119=>261 | 124=>213 | 138=>263 | 139=>264 | n=>n,fun | 3=>5 | 4=>6 | n=>n⟩
theorem Tryz.lays162:Go.Proofs.Lays.n162 Tryz.prog Tryz.lays162_ren:={
  mixed:=by kernel_rfl
  f119:=Tryz.func242.trans (congrArg some (by kernel_rfl))
  f120:=Tryz.func228.trans (congrArg some (by kernel_rfl))
  f137:=Tryz.func241.trans (congrArg some (by kernel_rfl))
  f151:=Tryz.func205.trans (congrArg some (by kernel_rfl))
  f152:=Tryz.func230.trans (congrArg some (by kernel_rfl))
  f162:=Tryz.func156.trans (congrArg some (by kernel_rfl))
  f197:=Tryz.func229.trans (congrArg some (by kernel_rfl))
  f217:=Tryz.func250.trans (congrArg some (by kernel_rfl))
  f224:=Tryz.func243.trans (congrArg some (by kernel_rfl))
  f225:=Tryz.func244.trans (congrArg some (by kernel_rfl))
  f227:=Tryz.func176.trans (congrArg some (by kernel_rfl))
  f228:=Tryz.func203.trans (congrArg some (by kernel_rfl))
  f232:=Tryz.func175.trans (congrArg some (by kernel_rfl))
  f234:=Tryz.func177.trans (congrArg some (by kernel_rfl))
  f236:=Tryz.func178.trans (congrArg some (by kernel_rfl))
  f260:=Tryz.func240.trans (congrArg some (by kernel_rfl))
  f266:=Tryz.func253.trans (congrArg some (by kernel_rfl))
  f271:=Tryz.func204.trans (congrArg some (by kernel_rfl))
  t0:=Tryz.underlying0
  a0:=Tryz.isAgg0
  z0:=Tryz.sizeOf0
  v0:=Tryz.zeroValue0
  t3:=Tryz.underlying3
  a3:=Tryz.isAgg3
  z3:=Tryz.sizeOf3
  v3:=Tryz.zeroValue3
  t4:=Tryz.underlying4
  a4:=Tryz.isAgg4
  z4:=Tryz.sizeOf4
  v4:=Tryz.zeroValue4
  t5:=Tryz.underlying5
  a5:=Tryz.isAgg5
  z5:=Tryz.sizeOf5
  v5:=Tryz.zeroValue5
  t9:=Tryz.underlying9
  a9:=Tryz.isAgg9
  z9:=Tryz.sizeOf9
  v9:=Tryz.zeroValue9
  t21:=Tryz.underlying21
  a21:=Tryz.isAgg21
  z21:=Tryz.sizeOf21
  v21:=Tryz.zeroValue21
  t46:=Tryz.underlying225
  a46:=Tryz.isAgg225
  z46:=Tryz.sizeOf225
  v46:=Tryz.zeroValue225
  t105:=Tryz.underlying233
  a105:=Tryz.isAgg233
  z105:=Tryz.sizeOf233
  v105:=Tryz.zeroValue233
  t116:=Tryz.underlying209
  a116:=Tryz.isAgg209
  z116:=Tryz.sizeOf209
  t117:=Tryz.underlying210
  a117:=Tryz.isAgg210
  z117:=Tryz.sizeOf210
  v117:=Tryz.zeroValue210
  t119:=Tryz.underlying261
  a119:=Tryz.isAgg261
  z119:=Tryz.sizeOf261
  t124:=Tryz.underlying213
  a124:=Tryz.isAgg213
  z124:=Tryz.sizeOf213
  v124:=Tryz.zeroValue213
  t138:=Tryz.underlying263
  a138:=Tryz.isAgg263
  z138:=Tryz.sizeOf263
  v138:=Tryz.zeroValue263
  t139:=Tryz.underlying264
  a139:=Tryz.isAgg264
  z139:=Tryz.sizeOf264
  v139:=Tryz.zeroValue264
  g3:=by kernel_rfl
  g4:=by kernel_rfl
}
theorem Tryz.bX72:Go.Proofs.Builder.X72 Tryz.prog Tryz.lays240_ren:={ sizeBuilder:=by kernel_rfl,liesBuilder:=by kernel_rfl }
end Go.Proofs.YtefphimaggjihaaGreatDoor
namespace Go.Proofs.YtefphimaggjihaaGreatDoor.Pi
open Go.Shelf Go.RowKit Go.Gv

theorem pre_x {E:Env}:∀ {vs us:List Value},pre E (vs.map .x) us→us.take vs.length=vs
  | [],us,_=>by simp
  | v::vs,us,h=>by
    obtain ⟨u,us',rfl,h1,h2⟩:=pre_cons.1 h
    rw [rel_x.1 h1,List.length_cons,List.take_succ_cons,pre_x h2]
theorem tab_of {w : World} {A : Nat → Prop} (hg : glob ⟨w, A, fun _ => none⟩) : Lib.TabIs Tryz.prog w "internal/strconv.uint64pow10" .u64 Lib.pow10Tab := by
  have hk:known 2=some ((Lib.pow10Tab.map fun z=>Value.int .u64 z).map .x):=by kernel_rfl
  obtain ⟨h1,h2⟩:=hg 2 _ hk
  have h1:relA _ _ _:=h1
  rw [relA] at h1
  obtain ⟨b,o,cs,e,fz,hp,_,hb,hpre⟩:=h1
  simp only [Value.pointer.injEq,Option.some.injEq,Addr.mk.injEq] at hp
  obtain ⟨rfl,ho,_⟩:=hp
  have hpre:pre _ ((Lib.pow10Tab.map fun z=>Value.int .u64 z).map .x) (cs.toList.drop o):=hpre
  have ho':o=0:=by omega
  subst ho'
  have hsz:=h2 cs e fz hb
  have ht:=pre_x hpre
  rw [List.drop_zero] at ht
  have hlen:(Lib.pow10Tab.map fun z=>Value.int .u64 z).length=cs.toList.length:=by
    rw [List.length_map] at hsz
    exact (Array.length_toList.trans hsz).symm
  rw [hlen,List.take_length] at ht
  unfold Lib.TabIs World.var?
  rw [show Tryz.prog.globalNamed "internal/strconv.uint64pow10" = some 2 by kernel_rfl]
  simp only [Option.bind_some,hb]
  rw [← ht]
theorem itoa_spec {n:Int} (h0:-9223372036854775808≤n) (h1:n≤9223372036854775807):FSpec Tryz.prog 129 [iA n] (zA (lB (Lib.itoa n))):=by
  refine ⟨⟨_,Tryz.func129,by kernel_rfl,by kernel_rfl⟩,fun A w cargs _ hr hg=>?_⟩
  have e:=rels_x (vs:=[.int .i64 n]) hr
  have e2:cargs=#[.int .i64 n]:=by apply Array.ext'; simpa using e
  subst e2
  refine (Any.strconv_Itoa Tryz.laysm171 n h0 h1 w (tab_of hg)).mono fun e w' ⟨h2,k,os,h3⟩=>⟨_,h2,rel_x.2 rfl,?_⟩
  subst h3
  have hb:(w.drewN k).heap=w.heap:=by simp
  exact ⟨rfl,rfl,rfl,by simp [Go.Sort.grow],fun i hi=>by simp only [Go.Sort.grow,hb,Array.getElem?_append,hi,if_true]⟩
theorem trimR_spec (s:ByteArray) (hs:s.size≤9223372036854775807):FSpec Tryz.prog 156 [zA s,zA ⟨#[48]⟩] (zA (lB (Lib.trimRightB (bL s) 48))) :=
  fspec_calls Tryz.func156 (by kernel_rfl) (by kernel_rfl) [.string s,.string ⟨#[48]⟩] (v:=.string (lB (Lib.trimRightB (bL s) 48))) (fun E=>rel_x.2 rfl) fun w=>(Any.strings_TrimRight_one Tryz.lays162 s 48 (by decide) w hs).mono fun e w' ⟨h1,h2⟩=>⟨h1,by rw [h2]; exact Below.refl _ _⟩
theorem lies82:liesAt Tryz.prog Tryz.prog.depth 82 (4 / Tryz.prog.cellsOf 82) 0 80 1=true:=by kernel_rfl
set_option maxHeartbeats 1000000 in
set_option maxRecDepth 100000 in
theorem cc_fresh82 (b:Nat) (w:World) (h0:w.cell? ⟨b,0,none⟩=some (.pointer none)) (hsh:w.shape? b=some (82,4)) (hfz:w.frozen? ⟨b,0,none⟩=false) :
    Calls Tryz.prog 154 #[.pointer (some ⟨b,0,none⟩)] w fun e w'=>e=.returned (.tuple #[])∧w'=w.setCell ⟨b,0,none⟩ (.pointer (some ⟨b,0,none⟩)):=by
  have L:=Tryz.lays240
  obtain ⟨j,hj,hjs⟩:=Option.map_eq_some_iff.1 Tryz.bX72.sizeBuilder
  have mixed:=L.mixed
  have t72:=L.t72; have a72:=L.a72; have z72:=L.z72; have v72:=L.v72; have u72:=run_underlying L.t72
  have t70:=L.t70; have a70:=L.a70; have z70:=L.z70; have v70:=L.v70; have u70:=run_underlying L.t70
  have t9:=L.t9; have a9:=L.a9; have z9:=L.z9; have v9:=L.v9; have u9:=run_underlying L.t9
  have t4:=L.t4; have a4:=L.a4; have z4:=L.z4; have v4:=L.v4; have u4:=run_underlying L.t4
  have t164:=L.t164; have a164:=L.a164; have z164:=L.z164; have v164:=L.v164; have u164:=run_underlying L.t164
  go_enter L.f240,Body.n240_ntmps Tryz.lays240_ren
  go_wp2
  rw [Lib.run_to_unsafe w ⟨b,0,none⟩ L.t70 L.t164 hj (by rw [hjs]; decide) hsh (Nat.zero_lt_succ 3)]
  simp only [Result.andThen]
  rw [Oper.upon_value]
  go_wp2
  rw [run_callFunc_extern L.f276 (by kernel_rfl) (by kernel_rfl) (by kernel_rfl) (e:=Extern.AbiNoEscape.same) (by kernel_rfl)]
  rw [Lib.run_noEscape]
  simp only [Result.andThen]
  rw [Oper.upon_value]
  go_wp2
  rw [Lib.run_from_unsafe w ⟨b,0,none⟩ L.t164 L.t70 hj hsh lies82]
  simp only [Result.andThen]
  rw [Oper.upon_value]
  go_wp2
  go_end0
  exact ⟨rfl,rfl⟩
theorem setCell_row {w:World} {b:Nat} {p v c d u:Value} {T:TypeId} (h:w.heap[b]?=some (.cells #[p,v,c,d] T (0,0))):w.setCell ⟨b,0,none⟩ u=w.setRow b #[u,v,c,d]:=by
  have hlt:b < w.heap.size:=(Array.getElem?_eq_some_iff.1 h).1
  have hv:w.heap[b]=.cells #[p,v,c,d] T (0,0):=(Array.getElem?_eq_some_iff.1 h).2
  unfold World.setCell World.setRow
  congr 1
  apply Array.ext_getElem?
  intro i
  simp only [Array.getElem?_modify]
  by_cases hi:b=i
  · subst hi
    rw [if_pos rfl,if_pos rfl,h]
    rfl
  · rw [if_neg hi,if_neg hi]
theorem cc_w {mem:List Row} {k:Nat} {P0 Bv C D:AV} (hk:mem[k]?=some (.t 82 [P0,Bv,C,D])) (hP:P0=.x (.pointer none)∨P0=.own k 0):WSpec Tryz.prog 154 [.own k 0] mem (.tup []) (mem.set k (.t 82 [.own k 0,Bv,C,D])):=by
  refine ⟨⟨_,Tryz.func154,by kernel_rfl,by kernel_rfl⟩,fun A0 R w0 E cargs hW hgl hr=>?_⟩
  obtain ⟨u0,t0,e0,r0,hr⟩:=rels_cons.1 hr
  have e1:=rels_nil.1 hr
  subst e1
  obtain ⟨b,c,hO,rfl⟩:=rel_own.1 r0
  have ec:cargs=#[.pointer (some ⟨b,0,none⟩)]:=by apply Array.ext'; simpa using e0
  subst ec
  obtain ⟨row,hrow,hrel⟩:=hW.rows k b c hO
  rw [hk] at hrow
  cases hrow
  obtain ⟨cs,hcs,hpre,hsz⟩:=hrel
  obtain ⟨p,us,e2,rp,hpre⟩:=pre_cons.1 hpre
  obtain ⟨v,us1,e3,rv,hpre⟩:=pre_cons.1 hpre
  obtain ⟨x,us2,e4,rx,hpre⟩:=pre_cons.1 hpre
  obtain ⟨y,us3,e5,ry,_⟩:=pre_cons.1 hpre
  have hus:us3=[]:=by
    have:=congrArg List.length e2
    rw [e3,e4,e5] at this
    simp only [Array.length_toList,List.length_cons,hsz] at this
    exact List.eq_nil_of_length_eq_zero (by simpa using this.symm)
  subst hus e5 e4 e3
  have hcs2:cs=#[p,v,x,y]:=by apply Array.ext'; simpa using e2
  subst hcs2
  rcases hP with rfl | rfl
  · have ep:=rel_x.1 rp
    subst ep
    refine (cc_fresh82 b E.w (by simp [World.cell?,hcs]) (by simp [World.shape?,hcs]) (by simp [World.frozen?,hcs])).mono fun e w' ⟨h1,h2⟩=>?_
    subst h2
    rw [setCell_row hcs]
    have hnk:E.O mem.length=none:=by
      cases hn:E.O mem.length with
      | none=>rfl
      | some q =>
        obtain ⟨r,g1,_⟩:=hW.rows mem.length q.1 q.2 hn
        simp at g1
    have happ:AppOk E mem (mem.set k (.t 82 [.own k 0,Bv,C,D])) mem.length ⟨.any,[],some (k,.t 82 [.own k 0,Bv,C,D]),none⟩:=by
      refine ⟨fun j _ b' c' hj=>?_,fun row h=>by cases h⟩
      simp only
      by_cases hjk:j=k
      · subst hjk
        rw [if_pos rfl,List.getElem?_set_self (List.getElem?_eq_some_iff.1 hk).1]
      · rw [if_neg hjk,List.getElem?_set_ne (fun h=>hjk h.symm)]
    have hle:E.le (E.row (E.w.setRow b #[.pointer (some ⟨b,0,none⟩),v,x,y]) k b c):=Env.row_le ⟨rfl,rfl,rfl,by simp [World.setRow],fun j _ hj=>setRow_other _ _ _ _ (fun e=>hj (by rw [e]))⟩ (Or.inl (hW.own k b c hO (by unfold liveAt; rw [hk]; rfl)).1) (Or.inr hO)
    obtain ⟨g1,g2⟩:=hW.written hnk happ hO hk rfl #[.pointer (some ⟨b,0,none⟩),v,x,y] ⟨_,setRow_heap E.w b _ _ _ (0,0) hcs,pre_cons.2 ⟨_,_,rfl,rel_own.2 ⟨b,c,by simp [Env.row],rfl⟩,pre_cons.2 ⟨_,_,rfl,rel_le hle rv,pre_cons.2 ⟨_,_,rfl,rel_le hle rx,pre_cons.2 ⟨_,_,rfl,rel_le hle ry,pre_nil⟩⟩⟩⟩,rfl⟩
    exact ⟨_,_,h1,rfl,g1,g2,rel_tup.2 ⟨_,rfl,rels_nil.2 rfl⟩⟩
  · obtain ⟨b',c',hO',rfl⟩:=rel_own.1 rp
    rw [hO] at hO'
    cases hO'
    refine (Any.Builder_copyCheck_used Tryz.lays240 Tryz.bX72 b E.w (by simp [World.cell?,hcs])).mono fun e w' ⟨h1,h2⟩=>?_
    subst h2
    have hm:mem.set k (.t 82 [.own k 0,Bv,C,D])=mem:=by
      apply List.ext_getElem?
      intro j
      by_cases hjk:j=k
      · subst hjk
        rw [List.getElem?_set_self (List.getElem?_eq_some_iff.1 hk).1,hk]
      · rw [List.getElem?_set_ne (fun h=>hjk h.symm)]
    rw [hm]
    exact ⟨_,E,h1,rfl,Env.le.refl E,hW,rel_tup.2 ⟨_,rfl,rels_nil.2 rfl⟩⟩
end Go.Proofs.YtefphimaggjihaaGreatDoor.Pi

namespace Go.Proofs.YtefphimaggjihaaGreatDoor.Pi
open Go.Shelf Go.RowKit Go.Gv

def uE (l:List UInt8):Nat→List AV:=fun q=>[.x (.int .u8 ((l.getD q 0).toNat:Nat))]
def prR (k n:Nat) (b u:Bool):Row:=.t 82 [.own 0 0,.osl k 1 0 n,bA b,bA u]
def bR (l:List UInt8):Row:=.a 5 1 l.length (uE l)
def pM (l:List UInt8) (b u:Bool):List Row:=[prR 1 l.length b u,bR l]
def pM2 (l:List UInt8) (b u:Bool):List Row:=[prR 2 l.length b u,.dead,bR l]
def pM0 (b u:Bool):List Row:=[.t 82 [.x (.pointer none),.x (.slice none 0 0),bA b,bA u]]
def pM1 (b u:Bool):List Row:=[.t 82 [.own 0 0,.x (.slice none 0 0),bA b,bA u]]
def nU:AV:=.x .nilIface
section
variable (l:List UInt8) (s:ByteArray) (c:Int) (b u:Bool)
def asB (n m:Nat):Bool:=(cond (n==n) (cond (Nat.blt 0 m) (Nat.ble ((n+m)*1) 140737488355328) false) false)&&true
theorem ws_ev:evGW Tryz.prog [] [] [] [wQ Tryz.prog 154 (fun _ _=>.tup []) (fun _ _=>pM l b u)] [] noL Tryz.f128 [.own 0 0,zA s] (pM l b u) [some 0,some 1,some 2] =
    cond (propB (WSpec Tryz.prog 154 [.own 0 0] (pM l b u) (.tup []) (pM l b u))) (cond (asB l.length s.size) (gout (.tup [iA (Int.ofNat s.size),nU]) [prR 2 (l.length+s.size) b u,.dead,.a 5 1 (l.length+s.size) fun q=>mixL (Nat.blt q l.length) (uE l q) [.x (.int .u8 (byAt s (q - l.length)))]]) none) none:=by kernel_rfl
theorem ws0_ev:evGW Tryz.prog [] [] [] [wQ Tryz.prog 154 (fun _ _=>.tup []) (fun _ _=>pM1 b u)] [] noL Tryz.f128 [.own 0 0,zA s] (pM0 b u) [some 0,some 1] =
    cond (propB (WSpec Tryz.prog 154 [.own 0 0] (pM0 b u) (.tup []) (pM1 b u))) (cond (cond (Nat.blt 0 s.size) (Nat.ble ((0+s.size)*1) 140737488355328) false&&true) (gout (.tup [iA (Int.ofNat s.size),nU]) [prR 1 (0+s.size) b u,.a 5 1 (0+s.size) fun q=>[.x (.int .u8 (byAt s (q - 0)))]]) none) none:=by kernel_rfl
theorem wb_ev:evGW Tryz.prog [] [] [] [wQ Tryz.prog 154 (fun _ _=>.tup []) (fun _ _=>pM l b u)] [] noL Tryz.f127 [.own 0 0,yA c] (pM l b u) [some 0,some 1,some 3] =
    cond (propB (WSpec Tryz.prog 154 [.own 0 0] (pM l b u) (.tup []) (pM l b u))) (cond (apB l.length 1&&true) (gout nU [prR 2 (l.length+1) b u,.dead,.a 5 1 (l.length+1) fun q=>mixL (Nat.blt q l.length) (uE l q) (spread l.length [[yA c]] q)]) none) none:=by kernel_rfl
end
section
variable {l:List UInt8} {b u:Bool}
theorem cc_used:WSpec Tryz.prog 154 [.own 0 0] (pM l b u) (.tup []) (pM l b u):=cc_w (mem:=pM l b u) (k:=0) (P0:=.own 0 0) (Bv:=.osl 1 1 0 l.length) rfl (Or.inr rfl)
theorem cc_fresh:WSpec Tryz.prog 154 [.own 0 0] (pM0 b u) (.tup []) (pM1 b u):=cc_w (mem:=pM0 b u) (k:=0) (P0:=.x (.pointer none)) (Bv:=.x (.slice none 0 0)) rfl (Or.inl rfl)
theorem asB_t {n m:Nat} (h0:0 < m) (h:n+m≤1000000000):asB n m=true:=by
  unfold asB
  rw [BEq.rfl,show Nat.blt 0 m=true from Nat.ble_eq_true_of_le h0,Nat.ble_eq_true_of_le (by omega)]
  rfl
theorem uE_app (l:List UInt8) (s:List UInt8) (q:Nat):mixL (Nat.blt q l.length) (uE l q) [.x (.int .u8 (((s.getD (q - l.length) 0).toNat:Nat):Int))]=uE (l ++ s) q:=by
  unfold uE
  by_cases h:q < l.length
  · rw [show Nat.blt q l.length=true from Nat.ble_eq_true_of_le h]
    simp only [mixL,List.getD_eq_getElem?_getD,List.getElem?_append_left h]
    rfl
  · have hb:Nat.blt q l.length=false:=by
      cases hb:Nat.blt q l.length
      · rfl
      · exact absurd (Nat.le_of_ble_eq_true hb) h
    rw [hb]
    simp only [List.getD_eq_getElem?_getD,List.getElem?_append_right (Nat.le_of_not_lt h)]
    rfl
def wsV (s:ByteArray):AV:=.tup [iA (Int.ofNat s.size),nU]
theorem ws_spec {s:ByteArray} (h0:0 < s.size) (h:l.length+s.size≤1000000000):GSpec Tryz.prog 128 [.own 0 0,zA s] (pM l b u) (wsV s) (pM2 (l ++ bL s) b u):=by
  refine (gspecGW e_nil k_nil m_nil (w_cons wQ_ok w_nil) r_nil Tryz.func128 (by kernel_rfl) (by kernel_rfl) (mem:=pM l b u) noL_okN rfl (τ:=[some 0,some 1,some 2]) (by rfl) ((ws_ev l s b u).trans (by rw [propB_t cc_used,asB_t h0 h]; rfl))).of_rows ?_
  have hlen:(l ++ bL s).length=l.length+s.size:=by rw [List.length_append]; rfl
  refine ⟨Or.inl ?_,Or.inl rfl,Or.inr ⟨5,1,l.length+s.size,_,uE (l ++ bL s),rfl,?_,fun q _=>(uE_app l (bL s) q).symm⟩,trivial⟩
  · show prR 2 (l ++ bL s).length b u=_
    rw [hlen]
  · unfold bR; rw [hlen]
theorem ws_fresh {s:ByteArray} (h0:0 < s.size) (h:s.size≤1000000000):GSpec Tryz.prog 128 [.own 0 0,zA s] (pM0 b u) (wsV s) (pM (bL s) b u):=by
  refine (gspecGW e_nil k_nil m_nil (w_cons wQ_ok w_nil) r_nil Tryz.func128 (by kernel_rfl) (by kernel_rfl) (mem:=pM0 b u) noL_okN rfl (τ:=[some 0,some 1]) (by rfl) ((ws0_ev s b u).trans (by rw [propB_t cc_fresh,show Nat.blt 0 s.size=true from Nat.ble_eq_true_of_le h0,Nat.ble_eq_true_of_le (by omega)]; rfl))).of_rows ?_
  refine ⟨Or.inl ?_,Or.inr ⟨5,1,0+s.size,_,uE (bL s),rfl,?_,fun q _=>rfl⟩,trivial⟩
  · rw [Nat.zero_add]; rfl
  · unfold bR; rw [Nat.zero_add]; rfl
theorem wb_spec {c:UInt8} (h:l.length≤1000000000):GSpec Tryz.prog 127 [.own 0 0,yA ((c.toNat:Nat):Int)] (pM l b u) nU (pM2 (l ++ [c]) b u):=by
  refine (gspecGW e_nil k_nil m_nil (w_cons wQ_ok w_nil) r_nil Tryz.func127 (by kernel_rfl) (by kernel_rfl) (mem:=pM l b u) noL_okN rfl (τ:=[some 0,some 1,some 3]) (by rfl) ((wb_ev l _ b u).trans (by rw [propB_t cc_used,apB_t (by omega)]; rfl))).of_rows ?_
  have hlen:(l ++ [c]).length=l.length+1:=by simp
  refine ⟨Or.inl ?_,Or.inl rfl,Or.inr ⟨5,1,l.length+1,_,uE (l ++ [c]),rfl,?_,fun q hq=>?_⟩,trivial⟩
  · show prR 2 (l ++ [c]).length b u=_
    rw [hlen]
  · unfold bR; rw [hlen]
  · rw [← uE_app l [c] q]
    by_cases hl:q < l.length
    · rw [show Nat.blt q l.length=true from Nat.ble_eq_true_of_le hl]
      rfl
    · have:q - l.length=0:=by omega
      unfold spread
      rw [this]
      rfl
end
def curK (mem:List Row):Nat:=match mem with
  | .t _ [_,.osl k _ _ _,_,_]::_=>k
  | _=>0
/-- The rows behind a call that has written: the bytes lie in a new row. -/
def stp (mem:List Row) (l:List UInt8) (b u:Bool):List Row:=(match mem with
  | _::r=>prR mem.length l.length b u::r.set (curK mem - 1) .dead
  | []=>[]) ++ [bR l]
structure Inv (mem:List Row) (l:List UInt8) (b u:Bool):Prop where
  pos:0 < curK mem
  hd:mem[0]?=some (prR (curK mem) l.length b u)
  bd:mem[curK mem]?=some (bR l)
theorem Inv.cons {mem:List Row} {l:List UInt8} {b u:Bool} (h:Inv mem l b u):∃ k r,mem=prR (k+1) l.length b u::r∧r[k]?=some (bR l)∧curK mem=k+1:=by
  obtain ⟨h0,h1,h2⟩:=h
  cases mem with
  | nil=>simp at h1
  | cons x r =>
    simp only [List.getElem?_cons_zero,Option.some.injEq] at h1
    obtain ⟨k,hk⟩:∃ k,curK (x::r)=k+1:=⟨curK (x::r) - 1,by omega⟩
    rw [hk] at h1 h2
    refine ⟨k,r,by rw [h1],by simpa using h2,hk⟩
theorem Inv.stp {mem:List Row} {l l':List UInt8} {b u b' u':Bool} (h:Inv mem l b u):Inv (stp mem l' b' u') l' b' u'∧(Pi.stp mem l' b' u').length=mem.length+1:=by
  obtain ⟨k,r,rfl,h2,h3⟩:=h.cons
  have hl:(prR (k+1) l.length b u::r).length=r.length+1:=rfl
  have hc:curK (Pi.stp (prR (k+1) l.length b u::r) l' b' u')=r.length+1:=rfl
  refine ⟨⟨by rw [hc]; omega,by rw [hc]; rfl,?_⟩,?_⟩
  · rw [hc]
    show ((prR _ _ _ _::r.set _ _) ++ [bR l'])[r.length+1]?=_
    rw [List.getElem?_append_right (by simp)]
    simp
  · unfold Pi.stp
    simp
theorem wl_lift {f:Nat} {args:List AV} {r:AV} {mem:List Row} {l l':List UInt8} {b u b' u':Bool} (hI:Inv mem l b u) (ha:∀ g,renL g args=args) (hr:∀ g,renA g r=r) (h:GSpec Tryz.prog f (.own 0 0::args) (pM l b u) r (pM2 l' b' u')):WSpec Tryz.prog f (.own 0 0::args) mem r (stp mem l' b' u'):=by
  obtain ⟨k,rs,rfl,h2,h3⟩:=hI.cons
  have hk:k < rs.length:=(List.getElem?_eq_some_iff.1 h2).1
  have hst:stp (prR (k+1) l.length b u::rs) l' b' u'=(prR (rs.length+1) l'.length b' u'::rs.set k .dead) ++ [bR l']:=rfl
  rw [← hr (putF [0,k+1] (prR (k+1) l.length b u::rs).length),hst]
  refine wframe h [0,k+1] rfl ?_ (by show _=_::renL _ args; rw [ha]; rfl) (fun i j hi=>?_) ⟨fun j hj hl=>?_,fun i j r hi hr=>?_,fun i r hi hr=>?_⟩
  · show (_&&(_&&true))=true
    simp
  · match i,hi with
    | 0,hi=>simp at hi; subst hi; exact ⟨_,rfl,rfl,by simp [renRow,renL,renA,ixOf,List.findIdx?_cons,pM,prR,bA]⟩
    | 1,hi =>
      simp at hi
      subst hi
      refine ⟨bR l,by simpa using h2,rfl,rfl⟩
    | n+2,hi=>simp at hi
  · have h0:j≠0:=fun e=>hj (by simp [e])
    have h1:j≠k+1:=fun e=>hj (by simp [e])
    obtain ⟨q,rfl⟩:∃ q,j=q+1:=⟨j - 1,by omega⟩
    have hq:q < rs.length:=by simpa using hl
    rw [List.getElem?_append_left (by simpa using hq)]
    simp only [List.getElem?_cons_succ]
    rw [List.getElem?_set_ne (by omega)]
  · match i,hi with
    | 0,hi =>
      simp at hi; subst hi
      cases hr
      show some _=some _
      simp [renRow,renL,renA,putF,prR,bA]
    | 1,hi =>
      simp at hi; subst hi
      cases hr
      show ((prR _ _ _ _::rs.set k .dead) ++ [bR l'])[k+1]?=some .dead
      rw [List.getElem?_append_left (by simpa using hk)]
      simp only [List.getElem?_cons_succ]
      rw [List.getElem?_set_self hk]
    | n+2,hi=>simp at hi
  · match i,hi,hr with
    | 0,hi,_=>exact absurd hi (by show ¬ 2≤0; omega)
    | 1,hi,_=>exact absurd hi (by show ¬ 2≤1; omega)
    | 2,_,hr =>
      cases hr
      show ((prR _ _ _ _::rs.set k .dead) ++ [bR l'])[rs.length+1+0]?=some _
      rw [List.getElem?_append_right (by simp)]
      simp [renRow,bR]
    | n+3,_,hr=>cases hr
end Go.Proofs.YtefphimaggjihaaGreatDoor.Pi

namespace Go.Proofs.YtefphimaggjihaaGreatDoor.Pi
open Go.Shelf Go.RowKit Go.Gv
def tkA (ts:List (List UInt8)):AV:=.sl 1 ts.length fun q=>[zA (lB (ts.getD q []))]
def ptS (ts:List (List UInt8)) (mem:List Row) (i:Int):St:=mkS 29 [(0,.own 0 0),(6,tkA ts),(7,iA (ts.length:Nat)),(8,iA i)] mem
def keepPt:List Nat:=[0,6,7,8]
section
variable (ts:List (List UInt8)) (l l1 l2:List UInt8) (b u:Bool) (i:Int) (mem:List Row)
noncomputable def ptW:List WEntry:=[wQ Tryz.prog 127 (fun _ _=>nU) (fun _ mem=>stp mem l1 true u),wQ Tryz.prog 128 (fun a _=>match a with | [_,.x (.string s)]=>wsV s | _=>.any) (fun _ mem=>stp mem l2 b u)]
def tkI:ByteArray:=lB (ts.getD i.toNat [])
noncomputable def ptB (m:List Row) (x:Option Out):Option Out:=cond (propB (WSpec Tryz.prog 127 [.own 0 0,yA 32] m nU (stp m l1 true u))) x none
noncomputable def ptT (m:List Row) (x:Option Out):Option Out:=cond (propB (WSpec Tryz.prog 128 [.own 0 0,zA (tkI ts i)] m (wsV (tkI ts i)) (stp m l2 b u))) x none
noncomputable def ptC (x:Option Out) (y:Option Out):Option Out:=cond (decide (i < (ts.length:Nat))) (cond (ixB i ts.length||false) x none) y
theorem pt_t1:evCW Tryz.prog [] [] [] (ptW l1 l2 true u) [] noL (loopAt Tryz.f87 0) (ptS ts (pM l true u) i) (finN keepPt [some 0,some 1,some 3])=ptC ts i (ptB l1 u (pM l true u) (ptT ts l2 true u i (stp (pM l true u) l1 true u) (some ⟨.normal,ptS ts (pM2 l2 true u) (w64 (i+1)),.any⟩))) none:=by kernel_rfl
theorem pt_t2:evCW Tryz.prog [] [] [] (ptW l1 l2 true u) [] noL (loopAt Tryz.f87 0) (ptS ts (pM2 l true u) i) (finN keepPt [some 0,some 1,some 4])=ptC ts i (ptB l1 u (pM2 l true u) (ptT ts l2 true u i (stp (pM2 l true u) l1 true u) (some ⟨.normal,ptS ts (pM2 l2 true u) (w64 (i+1)),.any⟩))) none:=by kernel_rfl
theorem pt_f1:evCW Tryz.prog [] [] [] (ptW l1 l2 false u) [] noL (loopAt Tryz.f87 0) (ptS ts (pM l false u) i) (finN keepPt [some 0,some 1,some 2])=ptC ts i (ptT ts l2 false u i (pM l false u) (some ⟨.normal,ptS ts (pM2 l2 true u) (w64 (i+1)),.any⟩)) none:=by kernel_rfl
theorem pt_end:evCW Tryz.prog [] [] [] (ptW l1 l2 true u) [] noL (loopAt Tryz.f87 0) (ptS ts (pM2 l true u) i) (finE keepPt [some 0,some 1,some 2])=ptC ts i (ptB l1 u (pM2 l true u) (ptT ts l2 true u i (stp (pM2 l true u) l1 true u) none)) (some ⟨.exit 0,ptS ts (pM2 l true u) i,.any⟩):=by kernel_rfl
theorem pt_ev:evGW Tryz.prog [] [] [] [] [] (oneL 1 (toldP 2 keepPt [some 0,some 1] (ptS ts (pM l b u) 0) (.exit 0) (ptS ts (pM2 l2 true u) (ts.length:Nat)))) Tryz.f87 [.own 0 0,tkA ts] (pM l b u) [some 0,some 1,some 2] =
  gate (SubN 2 (ptS ts (pM l b u) 0) (ptS ts (pM l b u) 0)) (gout (.tup []) (pM2 l2 true u)):=by kernel_rfl
end
def tks:Bool→List (List UInt8)→List UInt8
  | _,[]=>[]
  | b,t::r=>(if b then [32] else []) ++ (t ++ tks true r)
theorem tks_app:∀ (A B:List (List UInt8)) (b:Bool),A≠[]→tks b (A ++ B)=tks b A ++ tks true B
  | [],_,_,h=>absurd rfl h
  | [t],B,b,_=>by simp [tks]
  | t::t'::r,B,b,_=>by
    have ih:=tks_app (t'::r) B true (by simp)
    rw [List.cons_append]
    show (if b then [32] else []) ++ (t ++ tks true (t'::r ++ B))=((if b then [32] else []) ++ (t ++ tks true (t'::r))) ++ _
    rw [ih]
    simp only [List.append_assoc]
theorem tks_one (b:Bool) (t:List UInt8):tks b [t]=(if b then [32] else []) ++ t:=by simp [tks]
theorem tks_next {ts:List (List UInt8)} (b:Bool) {j:Nat} (h0:0 < j) (hj:j < ts.length):tks b (ts.take (j+1))=tks b (ts.take j) ++ ([32] ++ ts.getD j []):=by
  have e:ts.take (j+1)=ts.take j ++ [ts.getD j []]:=by
    rw [List.take_add_one,List.getD_eq_getElem?_getD,List.getElem?_eq_getElem hj]
    rfl
  rw [e,tks_app _ _ _ (by intro h; rcases List.take_eq_nil_iff.1 h with h | h<;>simp_all),tks_one]
  rfl
theorem tks_take_len {ts:List (List UInt8)} (b:Bool) (j:Nat):(tks b (ts.take j)).length≤(tks b ts).length:=by
  by_cases h:ts.take j=[]
  · rw [h]; simp [tks]
  · have:=tks_app (ts.take j) (ts.drop j) b h
    rw [List.take_append_drop] at this
    rw [this,List.length_append]
    omega
theorem tok_size {ts:List (List UInt8)} (hne:∀ t,t ∈ ts→t≠[]) {j:Nat} (hj:j < ts.length):0 < (lB (ts.getD j [])).size:=by
  have hm:ts.getD j [] ∈ ts:=by
    rw [List.getD_eq_getElem?_getD,List.getElem?_eq_getElem hj]
    exact List.getElem_mem hj
  exact List.length_pos_iff.2 (hne _ hm)
theorem leads_evWN {np:Nat} {l:List Entry} {ks:List KEntry} {ms:List MEntry} {ws:List WEntry} {rs:List REntry} {L:Nat→Option LFun} {c:Code} {s s':St} {e:Exit} {k:Kont} (hk:KSubN np k) (hl:∀ e,e ∈ l→EOk Tryz.prog e) (hks:∀ e,e ∈ ks→KOk Tryz.prog e) (hms:∀ e,e ∈ ms→MEOk Tryz.prog e) (hws:∀ e,e ∈ ws→WEOk Tryz.prog e) (hrs:∀ e,e ∈ rs→REOk Tryz.prog e) (hL:LOkN np Tryz.prog L c) (h:evCW Tryz.prog l ks ms ws rs L c s k=some ⟨e,s',.any⟩):LeadsN np Tryz.prog c s e s' :=
  leads_ofKN hk (tabW_ok hl hks hms hws hrs) (drawnK_ok (tabW_ok hl hks hms hws hrs) (by kernel_rfl)) hL h
theorem inv_pM (l:List UInt8) (b u:Bool):Inv (pM l b u) l b u:=⟨by show 0 < 1; omega,rfl,rfl⟩
theorem inv_pM2 (l:List UInt8) (b u:Bool):Inv (pM2 l b u) l b u:=⟨by show 0 < 2; omega,rfl,rfl⟩
theorem wb_lift {mem:List Row} {l:List UInt8} {b u:Bool} (hI:Inv mem l b u) (c:UInt8) (h:l.length≤1000000000):WSpec Tryz.prog 127 [.own 0 0,yA ((c.toNat:Nat):Int)] mem nU (stp mem (l ++ [c]) b u):=wl_lift hI (fun _=>rfl) (fun _=>rfl) (wb_spec h)
theorem ws_lift {mem:List Row} {l:List UInt8} {b u:Bool} (hI:Inv mem l b u) {s:ByteArray} (h0:0 < s.size) (h:l.length+s.size≤1000000000):WSpec Tryz.prog 128 [.own 0 0,zA s] mem (wsV s) (stp mem (l ++ bL s) b u):=wl_lift hI (fun _=>rfl) (fun _=>rfl) (ws_spec h0 h)
theorem wb32 {mem:List Row} {l:List UInt8} {b u:Bool} (hI:Inv mem l b u) (h:l.length≤1000000000):WSpec Tryz.prog 127 [.own 0 0,yA 32] mem nU (stp mem (l ++ [32]) b u):=wb_lift hI 32 h
theorem lB_size (x:List UInt8):(lB x).size=x.length:=rfl
def ptF (ts:List (List UInt8)) (l:List UInt8) (b u:Bool):Nat→St
  | 0=>ptS ts (pM l b u) 0
  | j+1=>ptS ts (pM2 (l ++ tks b (ts.take (j+1))) true u) ((j+1:Nat):Int)
section
variable {ts:List (List UInt8)} {l:List UInt8} {b u:Bool}
theorem ptC_on {j:Nat} (hj:j < ts.length) (x y:Option Out):ptC ts ((j:Nat):Int) x y=x:=by
  unfold ptC
  rw [dec_lt hj,ixB_t hj]
  rfl
theorem ptW_ok (l1 l2:List UInt8) (b u:Bool):∀ e,e ∈ ptW l1 l2 b u→WEOk Tryz.prog e:=w_cons wQ_ok (w_cons wQ_ok w_nil)
theorem pt_leads (h0:ts≠[]) (hne:∀ t,t ∈ ts→t≠[]) (hm:ts.length≤100000) (hb:l.length+(tks b ts).length≤900000000):LeadsN 2 Tryz.prog (.loop (loopAt Tryz.f87 0)) (ptS ts (pM l b u) 0) (.exit 0) (ptS ts (pM2 (l ++ tks b ts) true u) (ts.length:Nat)):=by
  have hpos:0 < ts.length:=List.length_pos_iff.2 h0
  refine loop_rule (ptF ts l b u) ts.length (.exit 0) _ (by simp) (fun j hj=>?_) ?_
  · have hs:=tok_size hne hj
    have hl:=tks_take_len (ts:=ts) b (j+1)
    have hI:∀ i:Nat,tkI ts (i:Nat)=lB (ts.getD i []):=fun i=>by unfold tkI; rw [Int.toNat_natCast]
    cases j with
    | zero =>
      have e0:tks b (ts.take 1)=(if b then [32] else []) ++ ts.getD 0 []:=by
        rw [show ts.take 1=[ts.getD 0 []] by cases ts with | nil=>exact absurd rfl h0 | cons a r=>rfl,tks_one]
      have hz:(0:Int)=((0:Nat):Int):=rfl
      cases b with
      | true =>
        have e1:l ++ tks true (ts.take 1)=(l ++ [32]) ++ bL (lB (ts.getD 0 [])):=by rw [e0,bL_lB]; simp
        have hl':(l ++ [32]).length=l.length+1:=by simp
        rw [e0] at hl
        simp only [if_true,List.length_append,List.length_cons,List.length_nil] at hl
        refine leads_evWN (finN_subN _ (by rfl)) e_nil k_nil m_nil (ptW_ok _ _ _ _) r_nil noL_okN ((pt_t1 ts l (l ++ [32]) (l ++ tks true (ts.take 1)) u 0).trans ?_)
        rw [hz,ptC_on hj]
        unfold ptB ptT
        have hw:WSpec Tryz.prog 128 [.own 0 0,zA (lB (ts.getD 0 []))] (stp (pM l true u) (l ++ [32]) true u) (wsV (lB (ts.getD 0 []))) (stp (stp (pM l true u) (l ++ [32]) true u) (l ++ tks true (ts.take 1)) true u):=by
          rw [e1]
          exact ws_lift (inv_pM l true u).stp.1 hs (by rw [hl',lB_size]; omega)
        rw [hI,propB_t (wb32 (inv_pM l true u) (by omega)),propB_t hw]
        rfl
      | false =>
        have e1:l ++ tks false (ts.take 1)=l ++ bL (lB (ts.getD 0 [])):=by rw [e0,bL_lB]; simp
        rw [e0] at hl
        simp only [Bool.false_eq_true,if_false,List.nil_append] at hl
        refine leads_evWN (finN_subN _ (by rfl)) e_nil k_nil m_nil (ptW_ok _ _ _ _) r_nil noL_okN ((pt_f1 ts l [] (l ++ tks false (ts.take 1)) u 0).trans ?_)
        rw [hz,ptC_on hj]
        unfold ptT
        have hw:WSpec Tryz.prog 128 [.own 0 0,zA (lB (ts.getD 0 []))] (pM l false u) (wsV (lB (ts.getD 0 []))) (stp (pM l false u) (l ++ tks false (ts.take 1)) false u):=by
          rw [e1]
          exact ws_lift (inv_pM l false u) hs (by rw [lB_size]; omega)
        rw [hI,propB_t hw]
        rfl
    | succ j =>
      have e0:=tks_next (ts:=ts) b (j:=j+1) (by omega) hj
      have e1:l ++ tks b (ts.take (j+2))=(l ++ tks b (ts.take (j+1)) ++ [32]) ++ bL (lB (ts.getD (j+1) [])):=by rw [e0,bL_lB]; simp
      have hl':(l ++ tks b (ts.take (j+1)) ++ [32]).length=l.length+(tks b (ts.take (j+1))).length+1:=by simp [Nat.add_assoc]
      have hl2:(l ++ tks b (ts.take (j+1))).length=l.length+(tks b (ts.take (j+1))).length:=List.length_append
      rw [show j+1+1=j+2 from rfl,e0] at hl
      simp only [List.length_append,List.length_cons,List.length_nil] at hl
      refine leads_evWN (finN_subN _ (by rfl)) e_nil k_nil m_nil (ptW_ok _ _ _ _) r_nil noL_okN ((pt_t2 ts (l ++ tks b (ts.take (j+1))) (l ++ tks b (ts.take (j+1)) ++ [32]) (l ++ tks b (ts.take (j+2))) u ((j+1:Nat):Int)).trans ?_)
      rw [ptC_on hj]
      unfold ptB ptT
      have hw:WSpec Tryz.prog 128 [.own 0 0,zA (lB (ts.getD (j+1) []))] (stp (pM2 (l ++ tks b (ts.take (j+1))) true u) (l ++ tks b (ts.take (j+1)) ++ [32]) true u) (wsV (lB (ts.getD (j+1) []))) (stp (stp (pM2 (l ++ tks b (ts.take (j+1))) true u) (l ++ tks b (ts.take (j+1)) ++ [32]) true u) (l ++ tks b (ts.take (j+2))) true u):=by
        rw [e1]
        exact ws_lift (inv_pM2 _ true u).stp.1 hs (by rw [hl',lB_size]; omega)
      rw [hI,propB_t (wb32 (inv_pM2 _ true u) (by rw [hl2]; omega)),propB_t hw,w64_next (by omega)]
      rfl
  · obtain ⟨k,hk⟩:∃ k,ts.length=k+1:=⟨ts.length - 1,by omega⟩
    have et:ts.take (k+1)=ts:=by rw [← hk]; exact List.take_length
    have es:ptF ts l b u ts.length=ptS ts (pM2 (l ++ tks b ts) true u) (ts.length:Nat):=by
      rw [hk]
      show ptS ts (pM2 (l ++ tks b (ts.take (k+1))) true u) _=_
      rw [et]
    rw [es]
    refine leads_evWN (finE_subN _ (by rfl)) e_nil k_nil m_nil (ptW_ok _ _ _ _) r_nil noL_okN ((pt_end ts (l ++ tks b ts) [] [] u (ts.length:Nat)).trans ?_)
    unfold ptC
    rw [dec_self]
    rfl
theorem put_spec (h0:ts≠[]) (hne:∀ t,t ∈ ts→t≠[]) (hm:ts.length≤100000) (hb:l.length+(tks b ts).length≤900000000):GSpec Tryz.prog 87 [.own 0 0,tkA ts] (pM l b u) (.tup []) (pM2 (l ++ tks b ts) true u):=by
  refine gspecGW e_nil k_nil m_nil w_nil r_nil Tryz.func87 (by kernel_rfl) (by kernel_rfl) (mem:=pM l b u) (lokN_one (i:=1) 1 (by kernel_rfl) fun j hj _=>?_) rfl (τ:=[some 0,some 1,some 2]) (by rfl) ((pt_ev ts l (l ++ tks b ts) b u).trans ?_)
  · have:j=0:=by omega
    subst this
    exact toldP_sound (by rfl) (pt_leads h0 hne hm hb)
  · rw [gate_pos (SubN.refl _)]
end
end Go.Proofs.YtefphimaggjihaaGreatDoor.Pi

namespace Go.Proofs.YtefphimaggjihaaGreatDoor.Pi
open Go.Shelf Go.RowKit Go.Gv

/-- What a method writes, whether all of it can be told, and whether there is something on the line behind it. -/
def Pr (f:Nat) (args:List AV) (E:Bool→List UInt8) (bad bf:Bool):Prop:=∀ l b u,l.length+(E b).length≤900000000→GSpec Tryz.prog f (.own 0 0::args) (pM l b u) (.tup []) (pM2 (l ++ E b) bf (u||bad))
inductive Itm where
  | w (f:Nat) (a:List AV) (bf:Bool)
  | g (p:Prop)
  | n (t:Bool)
def needM (t:Bool) (m:List Row):List Row:=match m with
  | .t T [a,o,b,.x (.bool u)]::r=>.t T [a,o,b,bA (cond u true (!t))]::r
  | m=>m
noncomputable def chW (L:Nat→List UInt8) (U:Nat→Bool):List Itm→List Row→(List Row→Option Out)→Option Out
  | [],m,k=>k m
  | .w f a bf::r,m,k=>cond (propB (WSpec Tryz.prog f (.own 0 0::a) m (.tup []) (stp m (L m.length) bf (U m.length)))) (chW L U r (stp m (L m.length) bf (U m.length)) k) none
  | .g p::r,m,k=>gate p (chW L U r m k)
  | .n t::r,m,k=>cond (propB (WSpec Tryz.prog 133 [.own 0 0,bA t] m (.tup []) (needM t m))) (chW L U r (needM t m) k) none
noncomputable def wP (f:Nat) (bf:Bool) (L:Nat→List UInt8) (U:Nat→Bool):WEntry:=wQ Tryz.prog f (fun _ _=>.tup []) (fun _ mem=>stp mem (L mem.length) bf (U mem.length))
noncomputable def wNd:WEntry:=wQ Tryz.prog 133 (fun _ _=>.tup []) (fun a mem=>match a with
  | [_,.x (.bool t)]=>needM t mem
  | _=>mem)
theorem wP_ok {f:Nat} {bf:Bool} {L:Nat→List UInt8} {U:Nat→Bool}:WEOk Tryz.prog (wP f bf L U):=wQ_ok
theorem wNd_ok:WEOk Tryz.prog wNd:=wQ_ok
/-- The rows at a method's end. -/
def cmp (m:List Row):List Row:=match m with
  | .t T [a,.osl k s o n,b,u]::r=>[.t T [a,.osl 2 s o n,b,u],.dead,r.getD (k - 1) .dead]
  | _=>[]
theorem Inv.cmp {mem:List Row} {l:List UInt8} {b u:Bool} (h:Inv mem l b u):cmp mem=pM2 l b u:=by
  obtain ⟨k,r,rfl,h2,h3⟩:=h.cons
  show [_,_,r.getD k .dead]=_
  rw [List.getD_eq_getElem?_getD,h2]
  rfl
section
variable (l:List UInt8) (b u t:Bool)
theorem nd_ev:evGW Tryz.prog [] [] [] [] [] noL Tryz.f133 [.own 0 0,bA t] (pM l b u) [some 0,some 1]=gout (.tup []) (pM l b (cond u true (!t))):=by kernel_rfl
end
theorem need_spec (l:List UInt8) (b u t:Bool):GSpec Tryz.prog 133 [.own 0 0,bA t] (pM l b u) (.tup []) (pM l b (cond u true (!t))) :=
  gspecGW e_nil k_nil m_nil w_nil r_nil Tryz.func133 (by kernel_rfl) (by kernel_rfl) (mem:=pM l b u) noL_okN rfl (τ:=[some 0,some 1]) (by rfl) (nd_ev l b u t)
theorem Inv.need {mem:List Row} {l:List UInt8} {b u:Bool} (h:Inv mem l b u) (t:Bool):Inv (needM t mem) l b (cond u true (!t))∧(needM t mem).length=mem.length:=by
  obtain ⟨k,r,rfl,h2,h3⟩:=h.cons
  exact ⟨⟨by show 0 < k+1; omega,rfl,h2⟩,rfl⟩
theorem need_lift {mem:List Row} {l:List UInt8} {b u:Bool} (hI:Inv mem l b u) (t:Bool):WSpec Tryz.prog 133 [.own 0 0,bA t] mem (.tup []) (needM t mem):=by
  obtain ⟨k,rs,rfl,h2,h3⟩:=hI.cons
  have hk:k < rs.length:=(List.getElem?_eq_some_iff.1 h2).1
  refine wframe (v:=.tup []) (need_spec l b u t) [0,k+1] rfl (by show (_&&(_&&true))=true; simp) rfl (fun i j hi=>?_) ⟨fun j hj hl=>?_,fun i j r hi hr=>?_,fun i r hi hr=>?_⟩
  · match i,hi with
    | 0,hi=>simp at hi; subst hi; exact ⟨_,rfl,rfl,by simp [renRow,renL,renA,ixOf,List.findIdx?_cons,pM,prR,bA]⟩
    | 1,hi =>
      simp at hi
      subst hi
      refine ⟨bR l,by simpa using h2,rfl,rfl⟩
    | n+2,hi=>simp at hi
  · have h0:j≠0:=fun e=>hj (by simp [e])
    obtain ⟨q,rfl⟩:∃ q,j=q+1:=⟨j - 1,by omega⟩
    rfl
  · match i,hi with
    | 0,hi =>
      simp at hi; subst hi
      cases hr
      show some _=some _
      simp [renRow,renL,renA,putF,prR,bA]
    | 1,hi =>
      simp at hi; subst hi
      cases hr
      show rs[k]?=_
      rw [h2]
      rfl
    | n+2,hi=>simp at hi
  · match i,hi,hr with
    | 0,hi,_=>exact absurd hi (by show ¬ 2≤0; omega)
    | 1,hi,_=>exact absurd hi (by show ¬ 2≤1; omega)
    | n+2,_,hr=>cases hr
inductive SI where
  | w (f:Nat) (a:List AV) (E:Bool→List UInt8) (bad bf:Bool)
  | g (p:Prop)
  | n (t:Bool)
def SI.itm:SI→Itm
  | .w f a _ _ bf=>.w f a bf
  | .g p=>.g p
  | .n t=>.n t
def SI.ok:SI→Prop
  | .w f a E bad bf=>Pr f a E bad bf∧∀ g,renL g a=a
  | .g p=>p
  | .n _=>True
/-- What all of them write. -/
def comp:List SI→Bool→List UInt8
  | [],_=>[]
  | .w _ _ E _ bf::r,b=>E b ++ comp r bf
  | .g _::r,b=>comp r b
  | .n _::r,b=>comp r b
def cbad:List SI→Bool
  | []=>false
  | .w _ _ _ bad _::r=>bad||cbad r
  | .g _::r=>cbad r
  | .n t::r=>!t||cbad r
def cbf:List SI→Bool→Bool
  | [],b=>b
  | .w _ _ _ _ bf::r,_=>cbf r bf
  | .g _::r,b=>cbf r b
  | .n _::r,b=>cbf r b
def LU:List SI→List UInt8→Bool→Bool→List (List UInt8 × Bool)
  | [],_,_,_=>[]
  | .w _ _ E bad bf::r,l,b,u=>(l ++ E b,u||bad)::LU r (l ++ E b) bf (u||bad)
  | .g _::r,l,b,u=>LU r l b u
  | .n t::r,l,b,u=>LU r l b (cond u true (!t))
theorem chW_run:∀ (its:List SI) (Z:List (List UInt8 × Bool)) (n0:Nat) (m:List Row) (l:List UInt8) (b u:Bool) (k:List Row→Option Out),Inv m l b u→n0≤m.length→(∀ i,(LU its l b u)[i]?≠none→Z[m.length - n0+i]?=(LU its l b u)[i]?)→(∀ i,i ∈ its→i.ok)→l.length+(comp its b).length≤900000000 →
    ∃ m',Inv m' (l ++ comp its b) (cbf its b) (u||cbad its)∧chW (fun n=>(Z.getD (n - n0) ([],false)).1) (fun n=>(Z.getD (n - n0) ([],false)).2) (its.map SI.itm) m k=k m'
  | [],Z,n0,m,l,b,u,k,hI,_,_,_,_=>⟨m,by simpa [comp,cbad,cbf] using hI,rfl⟩
  | .g p::r,Z,n0,m,l,b,u,k,hI,h0,hZ,hok,hl=>by
    have hp:p:=hok (.g p) (by simp)
    obtain ⟨m',h1,h2⟩:=chW_run r Z n0 m l b u k hI h0 hZ (fun i hi=>hok i (by simp [hi])) hl
    refine ⟨m',h1,?_⟩
    show gate p _=_
    rw [gate_pos hp]
    exact h2
  | .n t::r,Z,n0,m,l,b,u,k,hI,h0,hZ,hok,hl=>by
    obtain ⟨hI',hlen⟩:=hI.need t
    obtain ⟨m',h1,h2⟩:=chW_run r Z n0 (needM t m) l b (cond u true (!t)) k hI' (by rw [hlen]; exact h0) (by rw [hlen]; exact hZ) (fun i hi=>hok i (by simp [hi])) hl
    refine ⟨m',?_,?_⟩
    · have e:(u||(!t||cbad r))=(cond u true (!t)||cbad r):=by cases u<;>rfl
      show Inv m' (l ++ comp r b) (cbf r b) (u||(!t||cbad r))
      rw [e]
      exact h1
    · show cond (propB _) _ none=_
      rw [propB_t (need_lift hI t)]
      exact h2
  | .w f a E bad bf::r,Z,n0,m,l,b,u,k,hI,h0,hZ,hok,hl=>by
    obtain ⟨hP,ha⟩:SI.ok (.w f a E bad bf):=hok (.w f a E bad bf) (by simp)
    have hl':l.length+((E b).length+(comp r bf).length)≤900000000:=by
      have:(comp (.w f a E bad bf::r) b).length=(E b).length+(comp r bf).length:=List.length_append
      omega
    obtain ⟨hI',hlen⟩:=hI.stp (l':=l ++ E b) (b':=bf) (u':=u||bad)
    have hz:Z.getD (m.length - n0) ([],false)=(l ++ E b,u||bad):=by
      have:=hZ 0 (by simp [LU])
      rw [Nat.add_zero] at this
      rw [List.getD_eq_getElem?_getD,this]
      rfl
    obtain ⟨m',h1,h2⟩:=chW_run r Z n0 (stp m (l ++ E b) bf (u||bad)) (l ++ E b) bf (u||bad) k hI' (by rw [hlen]; omega) (fun i hi=>by
      have:=hZ (i+1) (by simpa [LU] using hi)
      rw [hlen,show m.length+1 - n0+i=m.length - n0+(i+1) by omega,this]
      rfl) (fun i hi=>hok i (by simp [hi])) (by rw [List.length_append]; omega)
    refine ⟨m',?_,?_⟩
    · have e1:l ++ comp (.w f a E bad bf::r) b=l ++ E b ++ comp r bf:=(List.append_assoc _ _ _).symm
      have e2:(u||cbad (.w f a E bad bf::r))=(u||bad||cbad r):=(Bool.or_assoc _ _ _).symm
      rw [e1,e2]
      exact h1
    · show cond (propB (WSpec Tryz.prog f (.own 0 0::a) m (.tup []) (stp m (Z.getD (m.length - n0) ([],false)).1 bf (Z.getD (m.length - n0) ([],false)).2))) (chW _ _ (r.map SI.itm) (stp m (Z.getD (m.length - n0) ([],false)).1 bf (Z.getD (m.length - n0) ([],false)).2) k) none=_
      rw [hz,propB_t (wl_lift hI ha (fun _=>rfl) (hP l b u (by omega)))]
      exact h2
theorem inv_app {l:List UInt8} {b u:Bool} (r:List Row):Inv (pM l b u ++ r) l b u:=⟨by show 0 < 1; omega,rfl,rfl⟩
/-- A method's contract, out of what its text was told to be. -/
theorem pr_of {f:Nat} {args:List AV} {bx:List Row} (its:List SI) (hok:∀ i,i ∈ its→i.ok)
    (h:∀ L U l b u,chW L U (its.map SI.itm) (pM l b u ++ bx) (fun m=>gout (.tup []) (cmp m))=gout (.tup []) (pM2 (l ++ comp its b) (cbf its b) (u||cbad its))→GSpec Tryz.prog f (.own 0 0::args) (pM l b u) (.tup []) (pM2 (l ++ comp its b) (cbf its b) (u||cbad its)))
    {E:Bool→List UInt8} {bad bf:Bool} (hE:comp its=E) (hbad:cbad its=bad) (hbf:∀ b,cbf its b=bf):Pr f args E bad bf:=fun l b u hl=>by
  subst hE hbad
  obtain ⟨m',h1,h2⟩:=chW_run its (LU its l b u) (pM l b u ++ bx).length (pM l b u ++ bx) l b u (fun m=>gout (.tup []) (cmp m)) (inv_app bx) (Nat.le_refl _) (fun i _=>by rw [Nat.sub_self,Nat.zero_add]) hok hl
  have:=h _ _ l b u (h2.trans (by rw [h1.cmp]))
  rw [hbf] at this
  exact this
theorem pr_put {ts:List (List UInt8)} (h0:ts≠[]) (hne:∀ t,t ∈ ts→t≠[]) (hm:ts.length≤100000):Pr 87 [tkA ts] (fun b=>tks b ts) false true:=fun l b u hl=>by
  rw [Bool.or_false]
  exact put_spec h0 hne hm hl
end Go.Proofs.YtefphimaggjihaaGreatDoor.Pi

namespace Go.Proofs.YtefphimaggjihaaGreatDoor.Pi
open Go.Shelf Go.RowKit Go.Gv
def typed (t:Nat):MEntry:=⟨typeK t,fun _ _ _=>none,none⟩
theorem typed_ok {P:Program} (t:Nat):MEOk P (typed t):=⟨⟨fun _ _ _ _ h=>(by cases h),fun _ _ _ _ _ _ h=>(by cases h)⟩,fun _ h=>(by cases h)⟩
def born (t:Nat):MEntry:=⟨bornK t,fun _ _ _=>none,none⟩
theorem born_ok {P:Program} (t:Nat):MEOk P (born t):=⟨⟨fun _ _ _ _ h=>(by cases h),fun _ _ _ _ _ _ h=>(by cases h)⟩,fun _ h=>(by cases h)⟩
def tokL (ts:List (List UInt8)):AV:=.sl 1 ts.length (chunk (ts.map fun t=>zA (lB t)) 1)
def flL (xs:List Nat):AV:=.sl 1 xs.length (chunk (xs.map .f) 1)
def gIt:List AV→AV
  | [.x (.int _ n)]=>zA (lB (Lib.itoa n))
  | _=>.any
def gDc (dc:Int→List UInt8):List AV→AV
  | [.x (.int _ n)]=>zA (lB (dc n))
  | _=>.any
def gTh (tn:Nat→Int) (tb:Nat→Bool):List AV→AV
  | [.f w]=>.tup [iA (tn w),bA (tb w)]
  | _=>.any
noncomputable def kIt:KEntry:=kS Tryz.prog 129 gIt
noncomputable def kNm (nm:Int→List UInt8):KEntry:=kS Tryz.prog 130 (gDc nm)
noncomputable def kDc (dc:Int→List UInt8):KEntry:=kS Tryz.prog 131 (gDc dc)
noncomputable def kTh (tn:Nat→Int) (tb:Nat→Bool):KEntry:=kS Tryz.prog 153 (gTh tn tb)
def FIt (n:Int):Prop:=FSpec Tryz.prog 129 [iA n] (zA (lB (Lib.itoa n)))
def FNm (nm:Int→List UInt8) (n:Int):Prop:=FSpec Tryz.prog 130 [iA n] (zA (lB (nm n)))
def FDc (dc:Int→List UInt8) (n:Int):Prop:=FSpec Tryz.prog 131 [iA n] (zA (lB (dc n)))
def FTh (tn:Nat→Int) (tb:Nat→Bool) (w:Nat):Prop:=FSpec Tryz.prog 153 [.f w] (.tup [iA (tn w),bA (tb w)])
abbrev B57:List MEntry:=[born 57,born 88]
section
variable (L:Nat→List UInt8) (U:Nat→Bool) (l l1 l2:List UInt8) (b u u1:Bool) (nm dc:Int→List UInt8) (tn:Nat→Int) (tb:Nat→Bool)
def iPut (ts:List (List UInt8)):Itm:=.w 87 [tokL ts] true
def iEnd:Itm:=.w 89 [] false
def wVec (a b c:Nat):AV:=.agg [.f a,.f b,.f c]
def iVec (a b c:Nat):Itm:=.w 125 [wVec a b c] true
def iFl (xs:List Nat):Itm:=.w 126 [flL xs] true
def iWh (f:Nat→Int):Itm:=.w 88 [.agg [iA (f 0),iA (f 1),iA (f 2)]] true
noncomputable def wPut:WEntry:=wP 87 true L U
noncomputable def wEnd:WEntry:=wP 89 false L U
noncomputable def wVc:WEntry:=wP 125 true L U
noncomputable def wFl:WEntry:=wP 126 true L U
noncomputable def wWh:WEntry:=wP 88 true L U
noncomputable def kF (m:List Row):Option Out:=gout (.tup []) (cmp m)
theorem end_ev:evGW Tryz.prog [] [] B57 [wQ Tryz.prog 87 (fun _ _=>.tup []) (fun _ mem=>stp mem l1 true u),wQ Tryz.prog 127 (fun _ _=>nU) (fun _ mem=>stp mem l2 true u)] [] noL Tryz.f89 [.own 0 0] (pM l b u) [some 0,some 1,some 3] =
  cond (propB (WSpec Tryz.prog 87 [.own 0 0,tokL [[59]]] (pM l b u) (.tup []) (stp (pM l b u) l1 true u))) (cond (propB (WSpec Tryz.prog 127 [.own 0 0,yA 10] (stp (pM l b u) l1 true u) nU (stp (stp (pM l b u) l1 true u) l2 true u))) (gout (.tup []) (pM2 l2 false u)) none) none:=by kernel_rfl
theorem wear_ev (k:Int):evGW Tryz.prog [] [kNm nm] B57 [wPut L U,wEnd L U] [] noL Tryz.f93 [.own 0 0,iA k] (pM l b u) [some 0,some 1,some 3]=chW L U [.g (FNm nm k),iPut [nm k],iEnd] (pM l b u) kF:=by kernel_rfl
theorem wholes_ev (f:Nat→Int):evGW Tryz.prog [] [kIt] B57 [wPut L U] [] noL Tryz.f88 [.own 0 0,.agg [iA (f 0),iA (f 1),iA (f 2)]] (pM l b u) [some 0,some 1,some 5]=chW L U [.g (FIt (f 0)),iPut [Lib.itoa (f 0)],.g (FIt (f 1)),iPut [Lib.itoa (f 1)],.g (FIt (f 2)),iPut [Lib.itoa (f 2)]] (pM l b u ++ [.c [iA (f 0),iA (f 1),iA (f 2)]]) kF:=by kernel_rfl
def iNum (x:Nat):List Itm:=[.g (FTh tn tb x),.n (tb x),.g (FDc dc (tn x)),iPut [dc (tn x)]]
theorem fl1_ev (x:Nat):evGW Tryz.prog [] [kTh tn tb,kDc dc] B57 [wPut L U,wNd] [] noL Tryz.f126 [.own 0 0,flL [x]] (pM l b u) [some 0,some 1,some 2]=chW L U (iNum dc tn tb x) (pM l b u) kF:=by kernel_rfl
theorem fl3_ev (x y z:Nat):evGW Tryz.prog [] [kTh tn tb,kDc dc] B57 [wPut L U,wNd] [] noL Tryz.f126 [.own 0 0,flL [x,y,z]] (pM l b u) [some 0,some 1,some 4]=chW L U (iNum dc tn tb x ++ (iNum dc tn tb y ++ iNum dc tn tb z)) (pM l b u) kF:=by kernel_rfl
theorem vec_ev (x y z:Nat):evGW Tryz.prog [] [] B57 [wFl L U] [] noL Tryz.f125 [.own 0 0,wVec x y z] (pM l b u) [some 0,some 1,some 3]=chW L U [iFl [x,y,z]] (pM l b u ++ [.c [.f x,.f y,.f z]]) kF:=by kernel_rfl
theorem lamp_ev (a:Nat→Nat) (f:Nat→Int):evGW Tryz.prog [] [] B57 [wPut L U,wVc L U,wWh L U,wEnd L U] [] noL Tryz.f91 [.own 0 0,.agg [.f (a 0),.f (a 1),.f (a 2),iA (f 0),iA (f 1),iA (f 2)]] (pM l b u) [some 0,some 1,some 7] =
  chW L U [iPut [[108,97,109,112]],iVec (a 0) (a 1) (a 2),iPut [[108,105,103,104,116]],iWh f,iEnd] (pM l b u ++ [.c [.f (a 0),.f (a 1),.f (a 2),iA (f 0),iA (f 1),iA (f 2)]]) kF:=by kernel_rfl
end
theorem B57_ok:∀ e,e ∈ B57→MEOk Tryz.prog e:=m_cons (born_ok _) (m_cons (born_ok _) m_nil)
theorem gspec_arg {f:Nat} {a a' r:AV} {mem mem':List Row} (ha:∀ E u,rel E a u→rel E a' u) (k:GSpec Tryz.prog f [.own 0 0,a'] mem r mem'):GSpec Tryz.prog f [.own 0 0,a] mem r mem':=by
  refine ⟨k.1,fun R E cargs hp hW hg hr=>k.2 R E cargs hp hW hg ?_⟩
  obtain ⟨u,us,e1,r1,r2⟩:=rels_cons.1 hr
  obtain ⟨u2,us2,e2,r3,r4⟩:=rels_cons.1 r2
  exact rels_cons.2 ⟨u,us,e1,r1,rels_cons.2 ⟨u2,us2,e2,ha E u2 r3,r4⟩⟩
theorem chunk_one {l:List AV} {i:Nat} (h:i < l.length):chunk l 1 i=[l[i]]:=by
  unfold chunk
  rw [Nat.mul_one,List.drop_eq_getElem_cons h]
  rfl
theorem tok_rel (ts:List (List UInt8)) (E:Env) (u:Value) (h:rel E (tokL ts) u):rel E (tkA ts) u:=by
  refine sl_like h fun i hi=>?_
  rw [chunk_one (by simpa using hi),List.getD_eq_getElem?_getD,List.getElem?_eq_getElem hi]
  simp
theorem pr_putL {ts:List (List UInt8)} (h0:ts≠[]) (hne:∀ t,t ∈ ts→t≠[]) (hm:ts.length≤100000):Pr 87 [tokL ts] (fun b=>tks b ts) false true:=fun l b u hl=>gspec_arg (tok_rel ts) (pr_put h0 hne hm l b u hl)
theorem pr_one {t:List UInt8} (h:t≠[]):Pr 87 [tokL [t]] (fun b=>tks b [t]) false true:=pr_putL (by simp) (fun x hx=>by simp at hx; subst hx; exact h) (by simp)
def sPut (t:List UInt8):SI:=.w 87 [tokL [t]] (fun b=>tks b [t]) false true
theorem sPut_ok {t:List UInt8} (h:t≠[]):(sPut t).ok:=⟨pr_one h,fun _=>rfl⟩
theorem pr_end:Pr 89 [] (fun b=>tks b [[59]] ++ [10]) false false:=fun l b u hl=>by
  rw [Bool.or_false]
  have hl1:(l ++ tks b [[59]]).length=l.length+(tks b [[59]]).length:=List.length_append
  have hl2:l.length+((tks b [[59]]).length+1)≤900000000:=by simpa using hl
  have h1:WSpec Tryz.prog 87 [.own 0 0,tokL [[59]]] (pM l b u) (.tup []) (stp (pM l b u) (l ++ tks b [[59]]) true u):=by
    have:=pr_one (t:=[59]) (by simp) l b u (by show l.length+(tks b [[59]]).length≤_; omega)
    rw [Bool.or_false] at this
    exact wl_lift (inv_pM l b u) (fun _=>rfl) (fun _=>rfl) this
  have h2:WSpec Tryz.prog 127 [.own 0 0,yA 10] (stp (pM l b u) (l ++ tks b [[59]]) true u) nU (stp (stp (pM l b u) (l ++ tks b [[59]]) true u) (l ++ tks b [[59]] ++ [10]) true u):=wb_lift (inv_pM l b u).stp.1 10 (by omega)
  rw [← List.append_assoc]
  refine gspecGW e_nil k_nil B57_ok (w_cons wQ_ok (w_cons wQ_ok w_nil)) r_nil Tryz.func89 (by kernel_rfl) (by kernel_rfl) (mem:=pM l b u) noL_okN rfl (τ:=[some 0,some 1,some 3]) (by rfl) ((end_ev l (l ++ tks b [[59]]) (l ++ tks b [[59]] ++ [10]) b u).trans ?_)
  rw [propB_t h1,propB_t h2]
  rfl
def lineE (b:Bool) (ts:List (List UInt8)):List UInt8:=tks b (ts ++ [[59]]) ++ [10]
def sEnd:SI:=.w 89 [] (fun b=>tks b [[59]] ++ [10]) false false
theorem sEnd_ok:sEnd.ok:=⟨pr_end,fun _=>rfl⟩
theorem si_nil {P:SI→Prop}:∀ i,i ∈ ([]:List SI)→P i:=fun _ h=>by cases h
theorem si_cons {P:SI→Prop} {x:SI} {l:List SI} (h:P x) (hl:∀ i,i ∈ l→P i):∀ i,i ∈ x::l→P i:=fun i hi=>by
  rcases List.mem_cons.1 hi with rfl | hi
  · exact h
  · exact hl i hi
def nmT (k:Int):List UInt8:=115::Lib.itoa k
theorem pr_wear {k:Int} (hn:FNm nmT k):Pr 93 [iA k] (fun b=>lineE b [nmT k]) false false :=
  pr_of (bx:=[]) [.g (FNm nmT k),sPut (nmT k),sEnd] (si_cons hn (si_cons (sPut_ok (by unfold nmT; simp)) (si_cons sEnd_ok si_nil)))
    (fun L U l b u h=>gspecGW e_nil (k_cons kS_ok k_nil) B57_ok (w_cons wP_ok (w_cons wP_ok w_nil)) r_nil Tryz.func93 (by kernel_rfl) (by kernel_rfl) (mem:=pM l b u) noL_okN rfl (τ:=[some 0,some 1,some 3]) (by rfl) ((wear_ev L U l b u nmT k).trans h))
    (by funext b; simp [comp,sPut,sEnd,tks,lineE]) rfl (fun _=>rfl)
theorem pr_wholes {f:Nat→Int} (h:∀ q,q < 3→FIt (f q)∧Lib.itoa (f q)≠[]):Pr 88 [.agg [iA (f 0),iA (f 1),iA (f 2)]] (fun b=>tks b [Lib.itoa (f 0),Lib.itoa (f 1),Lib.itoa (f 2)]) false true :=
  pr_of (bx:=[.c [iA (f 0),iA (f 1),iA (f 2)]]) [.g (FIt (f 0)),sPut (Lib.itoa (f 0)),.g (FIt (f 1)),sPut (Lib.itoa (f 1)),.g (FIt (f 2)),sPut (Lib.itoa (f 2))]
    (si_cons (h 0 (by omega)).1 <| si_cons (sPut_ok (h 0 (by omega)).2) <| si_cons (h 1 (by omega)).1 <| si_cons (sPut_ok (h 1 (by omega)).2) <| si_cons (h 2 (by omega)).1 <| si_cons (sPut_ok (h 2 (by omega)).2) si_nil)
    (fun L U l b u h=>gspecGW e_nil (k_cons kS_ok k_nil) B57_ok (w_cons wP_ok w_nil) r_nil Tryz.func88 (by kernel_rfl) (by kernel_rfl) (mem:=pM l b u) noL_okN rfl (τ:=[some 0,some 1,some 5]) (by rfl) ((wholes_ev L U l b u f).trans h))
    (by funext b; simp [comp,sPut,tks]) rfl (fun _=>rfl)
section
variable {dc:Int→List UInt8} {tn:Nat→Int} {tb:Nat→Bool}
/-- A number that the printer is handed. -/
structure Nu (dc:Int→List UInt8) (tn:Nat→Int) (tb:Nat→Bool) (x:Nat):Prop where
  th:FTh tn tb x
  de:FDc dc (tn x)
  ne:dc (tn x)≠[]
def sNum (dc:Int→List UInt8) (tn:Nat→Int) (tb:Nat→Bool) (x:Nat):List SI:=[.g (FTh tn tb x),.n (tb x),.g (FDc dc (tn x)),sPut (dc (tn x))]
theorem sNum_ok {x:Nat} (h:Nu dc tn tb x):∀ i,i ∈ sNum dc tn tb x→i.ok:=si_cons h.th <| si_cons trivial <| si_cons h.de <| si_cons (sPut_ok h.ne) si_nil
theorem pr_fl1 {x:Nat} (h:Nu dc tn tb x):Pr 126 [flL [x]] (fun b=>tks b [dc (tn x)]) (!(tb x)) true :=
  pr_of (bx:=[]) (sNum dc tn tb x) (sNum_ok h)
    (fun L U l b u h=>gspecGW e_nil (k_cons kS_ok (k_cons kS_ok k_nil)) B57_ok (w_cons wP_ok (w_cons wNd_ok w_nil)) r_nil Tryz.func126 (by kernel_rfl) (by kernel_rfl) (mem:=pM l b u) noL_okN rfl (τ:=[some 0,some 1,some 2]) (by rfl) ((fl1_ev L U l b u dc tn tb x).trans h))
    (by funext b; simp [comp,sNum,sPut,tks]) (by simp [cbad,sNum,sPut]) (fun _=>rfl)
theorem pr_fl3 {x y z:Nat} (hx:Nu dc tn tb x) (hy:Nu dc tn tb y) (hz:Nu dc tn tb z):Pr 126 [flL [x,y,z]] (fun b=>tks b [dc (tn x),dc (tn y),dc (tn z)]) (!(tb x)||(!(tb y)||!(tb z))) true :=
  pr_of (bx:=[]) (sNum dc tn tb x ++ (sNum dc tn tb y ++ sNum dc tn tb z)) (fun i hi=>by
      rcases List.mem_append.1 hi with hi | hi
      · exact sNum_ok hx i hi
      · rcases List.mem_append.1 hi with hi | hi
        · exact sNum_ok hy i hi
        · exact sNum_ok hz i hi)
    (fun L U l b u h=>gspecGW e_nil (k_cons kS_ok (k_cons kS_ok k_nil)) B57_ok (w_cons wP_ok (w_cons wNd_ok w_nil)) r_nil Tryz.func126 (by kernel_rfl) (by kernel_rfl) (mem:=pM l b u) noL_okN rfl (τ:=[some 0,some 1,some 4]) (by rfl) ((fl3_ev L U l b u dc tn tb x y z).trans h))
    (by funext b; simp [comp,sNum,sPut,tks]) (by simp [cbad,sNum,sPut]) (fun _=>rfl)
def ntk (dc:Int→List UInt8) (tn:Nat→Int) (x:Nat):List UInt8:=dc (tn x)
def vbad (tb:Nat→Bool) (x y z:Nat):Bool:=!(tb x)||(!(tb y)||!(tb z))
theorem pr_vec {x y z:Nat} (hx:Nu dc tn tb x) (hy:Nu dc tn tb y) (hz:Nu dc tn tb z):Pr 125 [wVec x y z] (fun b=>tks b [ntk dc tn x,ntk dc tn y,ntk dc tn z]) (vbad tb x y z) true :=
  pr_of (bx:=[.c [.f x,.f y,.f z]]) [.w 126 [flL [x,y,z]] (fun b=>tks b [ntk dc tn x,ntk dc tn y,ntk dc tn z]) (vbad tb x y z) true] (si_cons ⟨pr_fl3 hx hy hz,fun _=>rfl⟩ si_nil)
    (fun L U l b u h=>gspecGW e_nil k_nil B57_ok (w_cons wP_ok w_nil) r_nil Tryz.func125 (by kernel_rfl) (by kernel_rfl) (mem:=pM l b u) noL_okN rfl (τ:=[some 0,some 1,some 3]) (by rfl) ((vec_ev L U l b u x y z).trans h))
    (by funext b; simp [comp]) (by simp [cbad]) (fun _=>rfl)
end
end Go.Proofs.YtefphimaggjihaaGreatDoor.Pi

namespace Go.Ev
open Go.RowKit

/-- A float without its sign. -/
def fabs (x:Nat):Nat:=cond (isNan x) nanB (x % 9223372036854775808)
end Go.Ev
namespace Go.Gv
open Go.RowKit Go.Ev
end Go.Gv
namespace Go.Proofs.YtefphimaggjihaaGreatDoor.Hs
open Go.Gv
open Go.Ev (cn fadd fsub fmul fdiv fsqrt fneg feq flt fle fgt fge fabs)

abbrev V (a b c:Nat):AV:=.agg [.f a,.f b,.f c]
def one:Nat:=4607182418800017408
def nearS (x:Nat):Bool:=cond (fge x 13920209183539462144) (fle x 4696837146684686336) false
def fineS (a b c:Nat):Bool:=cond (cond (nearS a) (nearS b) false) (nearS c) false
def dotS (a b c d e f:Nat):Nat:=fadd (fadd (fmul a d) (fmul b e)) (fmul c f)
def crX (b c e f:Nat):Nat:=fsub (fmul b f) (fmul c e)
def lengthS (a b c:Nat):Nat:=fsqrt (dotS a b c a b c)
def lessS (a b:Nat):Nat:=cond (flt b a) b a
def moreS (a b:Nat):Nat:=cond (fgt b a) b a
def eF (g:Nat→AV):List AV→Option AV
  | [.f a]=>some (g a)
  | _=>none
def eFF (g:Nat→Nat→AV):List AV→Option AV
  | [.f a,.f b]=>some (g a b)
  | _=>none
def eV (g:Nat→Nat→Nat→AV):List AV→Option AV
  | [.agg [.f a,.f b,.f c]]=>some (g a b c)
  | _=>none
def eVV (g:Nat→Nat→Nat→Nat→Nat→Nat→AV):List AV→Option AV
  | [.agg [.f a,.f b,.f c],.agg [.f d,.f e,.f f]]=>some (g a b c d e f)
  | _=>none
def eVF (g:Nat→Nat→Nat→Nat→AV):List AV→Option AV
  | [.agg [.f a,.f b,.f c],.f d]=>some (g a b c d)
  | _=>none
theorem eF_ok {f:Nat} {g:Nat→AV} (h:∀ a,FSpec Tryz.prog f [.f a] (g a)):EOk Tryz.prog ⟨f,eF g⟩:=fun args r hr=>by
  simp only [eF] at hr
  split at hr
  · cases hr; exact Or.inl (h _)
  · cases hr
theorem eFF_ok {f:Nat} {g:Nat→Nat→AV} (h:∀ a b,FSpec Tryz.prog f [.f a,.f b] (g a b)):EOk Tryz.prog ⟨f,eFF g⟩:=fun args r hr=>by
  simp only [eFF] at hr
  split at hr
  · cases hr; exact Or.inl (h _ _)
  · cases hr
theorem eV_ok {f:Nat} {g:Nat→Nat→Nat→AV} (h:∀ a b c,FSpec Tryz.prog f [V a b c] (g a b c)):EOk Tryz.prog ⟨f,eV g⟩:=fun args r hr=>by
  simp only [eV] at hr
  split at hr
  · cases hr; exact Or.inl (h _ _ _)
  · cases hr
theorem eVV_ok {f:Nat} {g:Nat→Nat→Nat→Nat→Nat→Nat→AV} (h:∀ a b c d e f',FSpec Tryz.prog f [V a b c,V d e f'] (g a b c d e f')):EOk Tryz.prog ⟨f,eVV g⟩:=fun args r hr=>by
  simp only [eVV] at hr
  split at hr
  · cases hr; exact Or.inl (h _ _ _ _ _ _)
  · cases hr
theorem eVF_ok {f:Nat} {g:Nat→Nat→Nat→Nat→AV} (h:∀ a b c d,FSpec Tryz.prog f [V a b c,.f d] (g a b c d)):EOk Tryz.prog ⟨f,eVF g⟩:=fun args r hr=>by
  simp only [eVF] at hr
  split at hr
  · cases hr; exact Or.inl (h _ _ _ _)
  · cases hr
/-- Six floats, seven floats, as a function of their number. -/
def ls (l:List Nat):Nat→Nat:=fun i=>l.getD i 0
abbrev BX (m:Nat→Nat):AV:=.agg [.f (m 0),.f (m 1),.f (m 2),.f (m 3),.f (m 4),.f (m 5)]
def eB (g:(Nat→Nat)→AV):List AV→Option AV
  | [.agg [.f a,.f b,.f c,.f d,.f e,.f f]]=>some (g (ls [a,b,c,d,e,f]))
  | _=>none
def eBB (g:(Nat→Nat)→(Nat→Nat)→AV):List AV→Option AV
  | [.agg [.f a,.f b,.f c,.f d,.f e,.f f],.agg [.f a',.f b',.f c',.f d',.f e',.f f']]=>some (g (ls [a,b,c,d,e,f]) (ls [a',b',c',d',e',f']))
  | _=>none
theorem eB_ok {f:Nat} {g:(Nat→Nat)→AV} (h:∀ a,FSpec Tryz.prog f [BX a] (g a)):EOk Tryz.prog ⟨f,eB g⟩:=fun args r hr=>by
  simp only [eB] at hr
  split at hr
  · cases hr; exact Or.inl (h (ls [_,_,_,_,_,_]))
  · cases hr
theorem eBB_ok {f:Nat} {g:(Nat→Nat)→(Nat→Nat)→AV} (h:∀ a b,FSpec Tryz.prog f [BX a,BX b] (g a b)):EOk Tryz.prog ⟨f,eBB g⟩:=fun args r hr=>by
  simp only [eBB] at hr
  split at hr
  · cases hr; exact Or.inl (h (ls [_,_,_,_,_,_]) (ls [_,_,_,_,_,_]))
  · cases hr
theorem sp {l : List Entry} (hl : ∀ e, e ∈ l → EOk Tryz.prog e) {f : Nat} {fn : Func} (hf : Tryz.prog.funcs[f]? = some fn) (hnm : (fn.name == "runtime.NumGoroutine") = false) (hb : fn.body = some (bodyOf fn)) {args : List AV} (hlen : Nat.ble args.length fn.ntmps = true) {r : AV}
    (h:ev Tryz.prog l [] noL fn args ret=some (Out.of r)):FSpec Tryz.prog f args r:=gspec hl k_nil hf hnm hb noL_ok hlen h
end Go.Proofs.YtefphimaggjihaaGreatDoor.Hs

namespace Go.Ev
open Go.RowKit
theorem run_sqrt (P:Program) (w:World) (b:Nat):∃ r w',(Extern.MathSqrt.sqrt #[.float .f64 b]).run P w=.ok (.float .f64 r) w'∧(w'=w∨w'=w.drew)∧cn r=fsqrt (cn b):=by
  have e:Extern.MathSqrt.sqrt #[.float .f64 b]=(match FloatKind.f64.format.sqrt b with
    | some r=>(pure (.float .f64 r):Sem Value)
    | none=>do pure (.float .f64 (← choose (.nanBits .f64 b b)))):=rfl
  rw [e]
  unfold fsqrt
  rw [sqrt_cn]
  cases h:Ieee.double.sqrt b with
  | some r =>
    refine ⟨r,w,?_,Or.inl rfl,?_⟩
    · have h':FloatKind.f64.format.sqrt b=some r:=h
      simp [h']
    · rw [cn_of_not (isNan_sqrt h)]; rfl
  | none =>
    refine ⟨(Question.nanBits .f64 b b).cut (w.tape w.drawn (.nanBits .f64 b b)),w.drew,?_,Or.inr rfl,?_⟩
    · have h':FloatKind.f64.format.sqrt b=none:=h
      simp [h',Question.forced]
    · rw [cn_of_nan (isNan_cut _ _ _)]; rfl
end Go.Ev
namespace Go.Proofs.YtefphimaggjihaaGreatDoor
open Go.Gv
open Go.Ev (cn fadd fsub fmul fdiv fsqrt fneg feq flt fle fgt fge fabs)
theorem sqrtX {f : Nat} {fn : Func} (hf : Tryz.prog.funcs[f]? = some fn) (hname : (fn.name == "runtime.NumGoroutine") = false) (hb : fn.body.isNone = true) (hn : Extern.findNext fn = none)
    (he:Extern.find fn=some Extern.MathSqrt.sqrt) (a:Nat):XSpec Tryz.prog f [.f a] (.f (fsqrt a)):=fun E cargs hv=>by
  obtain ⟨l⟩:=cargs
  obtain ⟨v,t,e1,h1,h2⟩:=rels_cons.1 hv
  have e2:=rels_nil.1 h2
  obtain ⟨b,rfl,rfl⟩:=rel_f.1 h1
  have e3:l=[.float .f64 b]:=by rw [e2] at e1; exact e1
  subst e3
  obtain ⟨r,w',g1,g2,g3⟩:=Go.Ev.run_sqrt Tryz.prog E.w b
  refine ⟨.float .f64 r,w',?_,g2,rel_f.2 ⟨r,rfl,g3⟩⟩
  rw [run_callFunc_extern hf hname hb hn he,g1]
  rfl
end Go.Proofs.YtefphimaggjihaaGreatDoor
namespace Go.Proofs.YtefphimaggjihaaGreatDoor.Hs
open Go.Gv
open Go.Ev (cn fadd fsub fmul fdiv fsqrt fneg feq flt fle fgt fge fabs)

theorem eSq0_ok:EOk Tryz.prog ⟨145,eF fun x=>.f (fsqrt x)⟩:=fun args r hr=>by
  simp only [eF] at hr
  split at hr
  · cases hr; exact Or.inr (sqrtX Tryz.func145 (by kernel_rfl) rfl (by kernel_rfl) (by kernel_rfl) _)
  · cases hr
def Sq0:List Entry:=[⟨145,eF fun x=>.f (fsqrt x)⟩]
theorem msqrt (x:Nat):FSpec Tryz.prog 106 [.f x] (.f (fsqrt x)):=sp (l:=Sq0) (e_cons eSq0_ok e_nil) Tryz.func106 (by kernel_rfl) (by kernel_rfl) rfl (by kernel_rfl)
theorem vnear (x:Nat):FSpec Tryz.prog 52 [.f x] (bA (nearS x)):=sp e_nil Tryz.func52 (by kernel_rfl) (by kernel_rfl) rfl (by kernel_rfl)
theorem vadd (a b c d e f:Nat):FSpec Tryz.prog 280 [V a b c,V d e f] (V (fadd a d) (fadd b e) (fadd c f)):=sp e_nil Tryz.func280 (by kernel_rfl) (by kernel_rfl) rfl (by kernel_rfl)
theorem vsub (a b c d e f:Nat):FSpec Tryz.prog 54 [V a b c,V d e f] (V (fsub a d) (fsub b e) (fsub c f)):=sp e_nil Tryz.func54 (by kernel_rfl) (by kernel_rfl) rfl (by kernel_rfl)
theorem vover (a b c k:Nat):FSpec Tryz.prog 105 [V a b c,.f k] (V (fdiv a k) (fdiv b k) (fdiv c k)):=sp e_nil Tryz.func105 (by kernel_rfl) (by kernel_rfl) rfl (by kernel_rfl)
theorem vdot (a b c d e f:Nat):FSpec Tryz.prog 107 [V a b c,V d e f] (.f (dotS a b c d e f)):=sp e_nil Tryz.func107 (by kernel_rfl) (by kernel_rfl) rfl (by kernel_rfl)
theorem vcross (a b c d e f:Nat):FSpec Tryz.prog 56 [V a b c,V d e f] (V (crX b c e f) (crX c a f d) (crX a b d e)):=sp e_nil Tryz.func56 (by kernel_rfl) (by kernel_rfl) rfl (by kernel_rfl)
def V1:List Entry:=[⟨106,eF fun x=>.f (fsqrt x)⟩,⟨52,eF fun x=>bA (nearS x)⟩,⟨280,eVV fun a b c d e f=>V (fadd a d) (fadd b e) (fadd c f)⟩,⟨54,eVV fun a b c d e f=>V (fsub a d) (fsub b e) (fsub c f)⟩,⟨105,eVF fun a b c k=>V (fdiv a k) (fdiv b k) (fdiv c k)⟩,⟨107,eVV fun a b c d e f=>.f (dotS a b c d e f)⟩,⟨56,eVV fun a b c d e f=>V (crX b c e f) (crX c a f d) (crX a b d e)⟩]
theorem V1_ok:∀ e,e ∈ V1→EOk Tryz.prog e:=e_cons (eF_ok msqrt) <| e_cons (eF_ok vnear) <| e_cons (eVV_ok vadd) <| e_cons (eVV_ok vsub) <| e_cons (eVF_ok vover) <| e_cons (eVV_ok vdot) <| e_cons (eVV_ok vcross) e_nil
theorem vfine (a b c:Nat):FSpec Tryz.prog 51 [V a b c] (bA (fineS a b c)):=sp V1_ok Tryz.func51 (by kernel_rfl) (by kernel_rfl) rfl (by kernel_rfl)
theorem vlength (a b c:Nat):FSpec Tryz.prog 55 [V a b c] (.f (lengthS a b c)):=sp V1_ok Tryz.func55 (by kernel_rfl) (by kernel_rfl) rfl (by kernel_rfl)
def V2:List Entry:=⟨51,eV fun a b c=>bA (fineS a b c)⟩::⟨55,eV fun a b c=>.f (lengthS a b c)⟩::V1
theorem V2_ok:∀ e,e ∈ V2→EOk Tryz.prog e:=e_cons (eV_ok vfine) <| e_cons (eV_ok vlength) V1_ok
/-- The errno, and the parts of what has the length 1. -/
def unE (a b c:Nat):Int:=cond (!fineS a b c) 1 (cond (feq (lengthS a b c) 0) 2 0)
def unN (a b c x:Nat):Nat:=cond (!fineS a b c) 0 (cond (feq (lengthS a b c) 0) 0 (fdiv x (lengthS a b c)))
def unV (a b c:Nat):AV:=.tup [V (unN a b c a) (unN a b c b) (unN a b c c),iA (unE a b c)]
def unX (a b c:Nat):Option Out:=cond (!fineS a b c) (some (Out.of (.tup [V 0 0 0,iA 1]))) (cond (feq (lengthS a b c) 0) (some (Out.of (.tup [V 0 0 0,iA 2]))) (some (Out.of (.tup [V (fdiv a (lengthS a b c)) (fdiv b (lengthS a b c)) (fdiv c (lengthS a b c)),iA 0]))))
theorem unX_eq (a b c:Nat):unX a b c=some (Out.of (unV a b c)):=by
  unfold unX unV unN unE
  cases fineS a b c<;>cases feq (lengthS a b c) 0<;>rfl
theorem vunit (a b c:Nat):FSpec Tryz.prog 53 [V a b c] (unV a b c) :=
  sp V2_ok Tryz.func53 (by kernel_rfl) (by kernel_rfl) rfl ((show ev Tryz.prog V2 [] noL Tryz.f53 [V a b c] ret=unX a b c by kernel_rfl).trans (unX_eq a b c))
theorem sless (a b:Nat):FSpec Tryz.prog 206 [.f a,.f b] (.f (lessS a b)):=by
  refine sp e_nil Tryz.func206 (by kernel_rfl) (by kernel_rfl) rfl ?_
  have h:ev Tryz.prog [] [] noL Tryz.f206 [.f a,.f b] ret=cond (flt b a) (some (Out.of (.f b))) (some (Out.of (.f a))):=by kernel_rfl
  rw [h]; unfold lessS; cases flt b a<;>rfl
theorem smore (a b:Nat):FSpec Tryz.prog 207 [.f a,.f b] (.f (moreS a b)):=by
  refine sp e_nil Tryz.func207 (by kernel_rfl) (by kernel_rfl) rfl ?_
  have h:ev Tryz.prog [] [] noL Tryz.f207 [.f a,.f b] ret=cond (fgt b a) (some (Out.of (.f b))) (some (Out.of (.f a))):=by kernel_rfl
  rw [h]; unfold moreS; cases fgt b a<;>rfl
def joinS (a b:Nat→Nat):Nat→Nat:=ls [lessS (a 0) (b 0),lessS (a 1) (b 1),lessS (a 2) (b 2),moreS (a 3) (b 3),moreS (a 4) (b 4),moreS (a 5) (b 5)]
def V3:List Entry:=⟨53,eV unV⟩::⟨206,eFF fun a b=>.f (lessS a b)⟩::⟨207,eFF fun a b=>.f (moreS a b)⟩::V2
theorem V3_ok:∀ e,e ∈ V3→EOk Tryz.prog e:=e_cons (eV_ok vunit) <| e_cons (eFF_ok sless) <| e_cons (eFF_ok smore) V2_ok
theorem sjoin (a b:Nat→Nat):FSpec Tryz.prog 179 [BX a,BX b] (BX (joinS a b)):=sp V3_ok Tryz.func179 (by kernel_rfl) (by kernel_rfl) rfl (by kernel_rfl)
def mayF (b:Nat→Nat):Bool:=cond (!fineS (b 0) (b 1) (b 2)) true (!fineS (b 3) (b 4) (b 5))
def mayG (b:Nat→Nat):Bool:=cond (cond (fgt (b 0) (b 3)) true (fgt (b 1) (b 4))) true (fgt (b 2) (b 5))
def mayS (b:Nat→Nat):Int:=cond (mayF b) 1 (cond (mayG b) 6 0)
theorem smay (b:Nat→Nat):FSpec Tryz.prog 159 [BX b] (iA (mayS b)):=by
  refine sp V3_ok Tryz.func159 (by kernel_rfl) (by kernel_rfl) rfl ?_
  have h:ev Tryz.prog V3 [] noL Tryz.f159 [BX b] ret=cond (mayF b) (some (Out.of (iA 1))) (cond (mayG b) (some (Out.of (iA 6))) (some (Out.of (iA 0)))):=by kernel_rfl
  rw [h]; unfold mayS; cases mayF b<;>cases mayG b<;>rfl
def V4:List Entry:=⟨179,eBB fun a b=>BX (joinS a b)⟩::⟨159,eB fun b=>iA (mayS b)⟩::V3
theorem V4_ok:∀ e,e ∈ V4→EOk Tryz.prog e:=e_cons (eBB_ok sjoin) <| e_cons (eB_ok smay) V3_ok
section
variable (lo hi o d n f:Nat)
end
end Go.Proofs.YtefphimaggjihaaGreatDoor.Hs

namespace Go.Proofs.YtefphimaggjihaaGreatDoor.Hs
open Go.Gv
open Go.Ev (cn fadd fsub fmul fdiv fsqrt fneg feq flt fle fgt fge fabs)

section
variable (b r:Nat→Nat)
end
def V5:List Entry:=V4
theorem V5_ok:∀ e,e ∈ V5→EOk Tryz.prog e:=V4_ok
theorem rnear (x:Nat):FSpec Tryz.prog 57 [.f x] (bA (nearS x)):=sp e_nil Tryz.func57 (by kernel_rfl) (by kernel_rfl) rfl (by kernel_rfl)
theorem rtimes (a b:Nat):FSpec Tryz.prog 110 [.f a,.f b] (.f (fmul a b)):=sp e_nil Tryz.func110 (by kernel_rfl) (by kernel_rfl) rfl (by kernel_rfl)
theorem radd (a b c d e f:Nat):FSpec Tryz.prog 140 [V a b c,V d e f] (V (fadd a d) (fadd b e) (fadd c f)):=sp e_nil Tryz.func140 (by kernel_rfl) (by kernel_rfl) rfl (by kernel_rfl)
theorem rsub (a b c d e f:Nat):FSpec Tryz.prog 59 [V a b c,V d e f] (V (fsub a d) (fsub b e) (fsub c f)):=sp e_nil Tryz.func59 (by kernel_rfl) (by kernel_rfl) rfl (by kernel_rfl)
theorem rscale (a b c k:Nat):FSpec Tryz.prog 146 [V a b c,.f k] (V (fmul a k) (fmul b k) (fmul c k)):=sp e_nil Tryz.func146 (by kernel_rfl) (by kernel_rfl) rfl (by kernel_rfl)
theorem rover (a b c k:Nat):FSpec Tryz.prog 108 [V a b c,.f k] (V (fdiv a k) (fdiv b k) (fdiv c k)):=sp e_nil Tryz.func108 (by kernel_rfl) (by kernel_rfl) rfl (by kernel_rfl)
theorem rless (a b:Nat):FSpec Tryz.prog 165 [.f a,.f b] (.f (lessS a b)):=by
  refine sp e_nil Tryz.func165 (by kernel_rfl) (by kernel_rfl) rfl ?_
  have h:ev Tryz.prog [] [] noL Tryz.f165 [.f a,.f b] ret=cond (flt b a) (some (Out.of (.f b))) (some (Out.of (.f a))):=by kernel_rfl
  rw [h]; unfold lessS; cases flt b a<;>rfl
theorem rmore (a b:Nat):FSpec Tryz.prog 166 [.f a,.f b] (.f (moreS a b)):=by
  refine sp e_nil Tryz.func166 (by kernel_rfl) (by kernel_rfl) rfl ?_
  have h:ev Tryz.prog [] [] noL Tryz.f166 [.f a,.f b] ret=cond (fgt b a) (some (Out.of (.f b))) (some (Out.of (.f a))):=by kernel_rfl
  rw [h]; unfold moreS; cases fgt b a<;>rfl
/-- A number of a vector. -/
def eVI (g:Nat→Nat→Nat→Int→Option AV):List AV→Option AV
  | [.agg [.f a,.f b,.f c],.x (.int .i64 k)]=>g a b c k
  | _=>none
def axG (a b c:Nat) (k:Int):Option AV:=cond (k==0) (some (.f a)) (cond (k==1) (some (.f b)) (cond (k==2) (some (.f c)) none))
theorem ax_ev (a b c:Nat) (k:Int):ev Tryz.prog [] [] noL Tryz.f139 [V a b c,iA k] ret=cond (k==0) (some (Out.of (.f a))) (cond (k==1) (some (Out.of (.f b))) (some (Out.of (.f c)))):=by kernel_rfl
theorem eAx_ok:EOk Tryz.prog ⟨139,eVI axG⟩:=fun args r hr=>by
  simp only [eVI] at hr
  split at hr
  · rename_i a b c k
    refine Or.inl (sp e_nil Tryz.func139 (by kernel_rfl) (by kernel_rfl) rfl ((ax_ev a b c k).trans ?_))
    unfold axG at hr
    cases h0:k==0
    · rw [h0] at hr
      cases h1:k==1
      · rw [h1] at hr
        cases h2:k==2
        · rw [h2] at hr; cases hr
        · rw [h2] at hr; cases hr; rfl
      · rw [h1] at hr; cases hr; rfl
    · rw [h0] at hr; cases hr; rfl
  · cases hr
def R1:List Entry:=[⟨106,eF fun x=>.f (fsqrt x)⟩,⟨57,eF fun x=>bA (nearS x)⟩,⟨110,eFF fun a b=>.f (fmul a b)⟩,⟨140,eVV fun a b c d e f=>V (fadd a d) (fadd b e) (fadd c f)⟩,⟨59,eVV fun a b c d e f=>V (fsub a d) (fsub b e) (fsub c f)⟩,⟨146,eVF fun a b c k=>V (fmul a k) (fmul b k) (fmul c k)⟩,⟨108,eVF fun a b c k=>V (fdiv a k) (fdiv b k) (fdiv c k)⟩,⟨165,eFF fun a b=>.f (lessS a b)⟩,⟨166,eFF fun a b=>.f (moreS a b)⟩,⟨139,eVI axG⟩]
theorem R1_ok:∀ e,e ∈ R1→EOk Tryz.prog e:=e_cons (eF_ok msqrt) <| e_cons (eF_ok rnear) <| e_cons (eFF_ok rtimes) <| e_cons (eVV_ok radd) <| e_cons (eVV_ok rsub) <| e_cons (eVF_ok rscale) <| e_cons (eVF_ok rover) <| e_cons (eFF_ok rless) <| e_cons (eFF_ok rmore) <| e_cons eAx_ok e_nil
theorem rfine (a b c:Nat):FSpec Tryz.prog 49 [V a b c] (bA (fineS a b c)):=sp R1_ok Tryz.func49 (by kernel_rfl) (by kernel_rfl) rfl (by kernel_rfl)
theorem rdot (a b c d e f:Nat):FSpec Tryz.prog 109 [V a b c,V d e f] (.f (dotS a b c d e f)):=sp R1_ok Tryz.func109 (by kernel_rfl) (by kernel_rfl) rfl (by kernel_rfl)
theorem rcross (a b c d e f:Nat):FSpec Tryz.prog 61 [V a b c,V d e f] (V (crX b c e f) (crX c a f d) (crX a b d e)):=sp R1_ok Tryz.func61 (by kernel_rfl) (by kernel_rfl) rfl (by kernel_rfl)
def lowV (a b c d e f:Nat):AV:=V (lessS a d) (lessS b e) (lessS c f)
def highV (a b c d e f:Nat):AV:=V (moreS a d) (moreS b e) (moreS c f)
theorem rlow (a b c d e f:Nat):FSpec Tryz.prog 142 [V a b c,V d e f] (lowV a b c d e f):=sp R1_ok Tryz.func142 (by kernel_rfl) (by kernel_rfl) rfl (by kernel_rfl)
theorem rhigh (a b c d e f:Nat):FSpec Tryz.prog 143 [V a b c,V d e f] (highV a b c d e f):=sp R1_ok Tryz.func143 (by kernel_rfl) (by kernel_rfl) rfl (by kernel_rfl)
def R2:List Entry:=⟨49,eV fun a b c=>bA (fineS a b c)⟩::⟨109,eVV fun a b c d e f=>.f (dotS a b c d e f)⟩::⟨61,eVV fun a b c d e f=>V (crX b c e f) (crX c a f d) (crX a b d e)⟩::⟨142,eVV lowV⟩::⟨143,eVV highV⟩::R1
theorem R2_ok:∀ e,e ∈ R2→EOk Tryz.prog e:=e_cons (eV_ok rfine) <| e_cons (eVV_ok rdot) <| e_cons (eVV_ok rcross) <| e_cons (eVV_ok rlow) <| e_cons (eVV_ok rhigh) R1_ok
theorem rlength (a b c:Nat):FSpec Tryz.prog 60 [V a b c] (.f (lengthS a b c)):=sp R2_ok Tryz.func60 (by kernel_rfl) (by kernel_rfl) rfl (by kernel_rfl)
theorem rmay (b:Nat→Nat):FSpec Tryz.prog 102 [BX b] (iA (mayS b)):=by
  refine sp R2_ok Tryz.func102 (by kernel_rfl) (by kernel_rfl) rfl ?_
  have h:ev Tryz.prog R2 [] noL Tryz.f102 [BX b] ret=cond (mayF b) (some (Out.of (iA 1))) (cond (fgt (b 0) (b 3)) (some (Out.of (iA 6))) (cond (fgt (b 1) (b 4)) (some (Out.of (iA 6))) (cond (fgt (b 2) (b 5)) (some (Out.of (iA 6))) (some (Out.of (iA 0)))))):=by kernel_rfl
  rw [h]
  unfold mayS mayG
  cases mayF b<;>cases fgt (b 0) (b 3)<;>cases fgt (b 1) (b 4)<;>cases fgt (b 2) (b 5)<;>rfl
theorem runit (a b c:Nat):FSpec Tryz.prog 58 [V a b c] (unV a b c) :=
  sp (l:=⟨60,eV fun a b c=>.f (lengthS a b c)⟩::R2) (e_cons (eV_ok rlength) R2_ok) Tryz.func58 (by kernel_rfl) (by kernel_rfl) rfl ((show ev Tryz.prog (⟨60,eV fun a b c=>.f (lengthS a b c)⟩::R2) [] noL Tryz.f58 [V a b c] ret=unX a b c by kernel_rfl).trans (unX_eq a b c))
def R3:List Entry:=⟨60,eV fun a b c=>.f (lengthS a b c)⟩::⟨58,eV unV⟩::⟨102,eB fun b=>iA (mayS b)⟩::R2
theorem R3_ok:∀ e,e ∈ R3→EOk Tryz.prog e:=e_cons (eV_ok rlength) <| e_cons (eV_ok runit) <| e_cons (eB_ok rmay) R2_ok
end Go.Proofs.YtefphimaggjihaaGreatDoor.Hs

namespace Go.Proofs.YtefphimaggjihaaGreatDoor.Hs
open Go.Gv
open Go.Ev (cn fadd fsub fmul fdiv fsqrt fneg feq flt fle fgt fge fabs)

def neZ (x:Nat):Bool:=!feq x 0
theorem snumbers (a b c:Nat):FSpec Tryz.prog 300 [V a b c] (V a b c):=sp e_nil Tryz.func300 (by kernel_rfl) (by kernel_rfl) rfl (by kernel_rfl)
theorem svecOf (a b c:Nat):FSpec Tryz.prog 301 [V a b c] (V a b c):=sp e_nil Tryz.func301 (by kernel_rfl) (by kernel_rfl) rfl (by kernel_rfl)
def V6:List Entry:=⟨300,eV fun a b c=>V a b c⟩::⟨301,eV fun a b c=>V a b c⟩::V5
theorem V6_ok:∀ e,e ∈ V6→EOk Tryz.prog e:=e_cons (eV_ok snumbers) <| e_cons (eV_ok svecOf) V5_ok
theorem sflat0 (a b c:Nat):FSpec Tryz.prog 298 [V a b c,iA 0] (V 0 b c):=sp V6_ok Tryz.func298 (by kernel_rfl) (by kernel_rfl) rfl (by kernel_rfl)
theorem sflat1 (a b c:Nat):FSpec Tryz.prog 298 [V a b c,iA 1] (V a 0 c):=sp V6_ok Tryz.func298 (by kernel_rfl) (by kernel_rfl) rfl (by kernel_rfl)
theorem sflat2 (a b c:Nat):FSpec Tryz.prog 298 [V a b c,iA 2] (V a b 0):=sp V6_ok Tryz.func298 (by kernel_rfl) (by kernel_rfl) rfl (by kernel_rfl)
def flG (a b c:Nat) (k:Int):Option AV:=cond (k==0) (some (V 0 b c)) (cond (k==1) (some (V a 0 c)) (cond (k==2) (some (V a b 0)) none))
theorem eFlat_ok:EOk Tryz.prog ⟨298,eVI flG⟩:=fun args r hr=>by
  simp only [eVI] at hr
  split at hr
  · rename_i a b c k
    unfold flG at hr
    cases h0:k==0
    · rw [h0] at hr
      cases h1:k==1
      · rw [h1] at hr
        cases h2:k==2
        · rw [h2] at hr; cases hr
        · rw [h2] at hr; cases hr; rw [eq_of_beq h2]; exact Or.inl (sflat2 a b c)
      · rw [h1] at hr; cases hr; rw [eq_of_beq h1]; exact Or.inl (sflat1 a b c)
    · rw [h0] at hr; cases hr; rw [eq_of_beq h0]; exact Or.inl (sflat0 a b c)
  · cases hr
def axR (k:Int) (b:Bool):Option Out:=some (Out.of (.tup [iA k,bA b]))
def axT (a b c:Nat):Option Out:=cond (neZ a) (cond (neZ b) (cond (neZ c) (axR 2 false) (axR 1 false)) (cond (neZ c) (axR 2 false) (axR 0 true))) (cond (neZ b) (cond (neZ c) (axR 2 false) (axR 1 true)) (cond (neZ c) (axR 2 true) (axR 0 false)))
def axI (a b c:Nat):Int:=cond (neZ c) 2 (cond (neZ b) 1 (cond (neZ a) 0 0))
def axO (a b c:Nat):Bool:=cond (neZ a) (cond (neZ b) false (!neZ c)) (cond (neZ b) (!neZ c) (neZ c))
theorem saxis (a b c:Nat):FSpec Tryz.prog 299 [V a b c] (.tup [iA (axI a b c),bA (axO a b c)]):=by
  refine sp V6_ok Tryz.func299 (by kernel_rfl) (by kernel_rfl) rfl ((show ev Tryz.prog V6 [] noL Tryz.f299 [V a b c] ret=axT a b c by kernel_rfl).trans ?_)
  unfold axT axI axO axR
  cases neZ a<;>cases neZ b<;>cases neZ c<;>rfl
theorem scube (a b c R:Nat):FSpec Tryz.prog 279 [V a b c,.f R] (BX (ls [fsub a R,fsub b R,fsub c R,fadd a R,fadd b R,fadd c R])):=sp V6_ok Tryz.func279 (by kernel_rfl) (by kernel_rfl) rfl (by kernel_rfl)
def aroundS (a b c d e f:Nat):Nat→Nat:=joinS (ls [a,b,c,a,b,c]) (ls [d,e,f,d,e,f])
theorem saround (a b c d e f:Nat):FSpec Tryz.prog 288 [V a b c,V d e f] (BX (aroundS a b c d e f)):=sp V6_ok Tryz.func288 (by kernel_rfl) (by kernel_rfl) rfl (by kernel_rfl)
section
variable (o d:Nat→Nat) (r:Nat)
end
def V7:List Entry:=⟨298,eVI flG⟩::⟨279,eVF fun a b c R=>BX (ls [fsub a R,fsub b R,fsub c R,fadd a R,fadd b R,fadd c R])⟩::⟨288,eVV fun a b c d e f=>BX (aroundS a b c d e f)⟩::V6
theorem V7_ok:∀ e,e ∈ V7→EOk Tryz.prog e:=e_cons eFlat_ok <| e_cons (eVF_ok scube) <| e_cons (eVV_ok saround) V6_ok
end Go.Proofs.YtefphimaggjihaaGreatDoor.Hs

namespace Go.Proofs.YtefphimaggjihaaGreatDoor.Hs
open Go.Gv
open Go.Ev (cn fadd fsub fmul fdiv fsqrt fneg feq flt fle fgt fge fabs)

/-- A shape: its kind, eleven floats, its skin. -/
abbrev SH (k:Int) (a:Nat→Nat) (sk:Int):AV:=.agg [iA k,.f (a 0),.f (a 1),.f (a 2),.f (a 3),.f (a 4),.f (a 5),.f (a 6),.f (a 7),.f (a 8),.f (a 9),.f (a 10),iA sk]
def eS (g:(Nat→Nat)→AV):List AV→Option AV
  | [.agg [.x (.int .i64 _),.f a0,.f a1,.f a2,.f a3,.f a4,.f a5,.f a6,.f a7,.f a8,.f a9,.f a10,.x (.int .i64 _)]]=>some (g (ls [a0,a1,a2,a3,a4,a5,a6,a7,a8,a9,a10]))
  | _=>none
theorem eS_ok {f:Nat} {g:(Nat→Nat)→AV} (h:∀ k a sk,FSpec Tryz.prog f [SH k a sk] (g a)):EOk Tryz.prog ⟨f,eS g⟩:=fun args r hr=>by
  simp only [eS] at hr
  split at hr
  · cases hr; exact Or.inl (h _ (ls [_,_,_,_,_,_,_,_,_,_,_]) _)
  · cases hr
section
variable (k:Int) (a:Nat→Nat) (sk:Int) (r:Nat→Nat) (n f p q u:Nat)
def cubeB:Nat→Nat:=ls [fsub (a 0) (a 9),fsub (a 1) (a 9),fsub (a 2) (a 9),fadd (a 0) (a 9),fadd (a 1) (a 9),fadd (a 2) (a 9)]
def blockB:Nat→Nat:=ls [a 0,a 1,a 2,a 3,a 4,a 5]
def triB:Nat→Nat:=joinS (aroundS (a 0) (a 1) (a 2) (a 3) (a 4) (a 5)) (ls [a 6,a 7,a 8,a 6,a 7,a 8])
theorem bball:FSpec Tryz.prog 275 [SH k a sk] (BX (cubeB a)):=sp V7_ok Tryz.func275 (by kernel_rfl) (by kernel_rfl) rfl (by kernel_rfl)
theorem bplate:FSpec Tryz.prog 289 [SH k a sk] (BX (cubeB a)):=sp V7_ok Tryz.func289 (by kernel_rfl) (by kernel_rfl) rfl (by kernel_rfl)
theorem bblock:FSpec Tryz.prog 281 [SH k a sk] (BX (blockB a)):=sp V7_ok Tryz.func281 (by kernel_rfl) (by kernel_rfl) rfl (by kernel_rfl)
theorem btri:FSpec Tryz.prog 285 [SH k a sk] (BX (triB a)):=sp V7_ok Tryz.func285 (by kernel_rfl) (by kernel_rfl) rfl (by kernel_rfl)
def ballM:Int:=cond (!fgt (a 9) 0) 6 0
theorem mball:FSpec Tryz.prog 276 [SH k a sk] (iA (ballM a)):=by
  refine sp V7_ok Tryz.func276 (by kernel_rfl) (by kernel_rfl) rfl ((show ev Tryz.prog V7 [] noL Tryz.f276 [SH k a sk] ret=cond (!fgt (a 9) 0) (some (Out.of (iA 6))) (some (Out.of (iA 0))) by kernel_rfl).trans ?_)
  unfold ballM; cases fgt (a 9) 0<;>rfl
def blockG:Bool:=cond (cond (fgt (a 0) (a 3)) true (fgt (a 1) (a 4))) true (fgt (a 2) (a 5))
def blockM:Int:=cond (blockG a) 6 0
theorem mblock:FSpec Tryz.prog 282 [SH k a sk] (iA (blockM a)):=by
  refine sp V7_ok Tryz.func282 (by kernel_rfl) (by kernel_rfl) rfl ((show ev Tryz.prog V7 [] noL Tryz.f282 [SH k a sk] ret=cond (blockG a) (some (Out.of (iA 6))) (some (Out.of (iA 0))) by kernel_rfl).trans ?_)
  unfold blockM; cases blockG a<;>rfl
def plateM:Int:=cond (!fgt (a 9) 0) 6 (unE (a 3) (a 4) (a 5))
theorem mplate:FSpec Tryz.prog 290 [SH k a sk] (iA (plateM a)):=by
  refine sp V7_ok Tryz.func290 (by kernel_rfl) (by kernel_rfl) rfl ((show ev Tryz.prog V7 [] noL Tryz.f290 [SH k a sk] ret=cond (!fgt (a 9) 0) (some (Out.of (iA 6))) (some (Out.of (iA (unE (a 3) (a 4) (a 5))))) by kernel_rfl).trans ?_)
  unfold plateM; cases fgt (a 9) 0<;>rfl
def V8:List Entry:=⟨299,eV fun a b c=>.tup [iA (axI a b c),bA (axO a b c)]⟩::V7
theorem V8_ok:∀ e,e ∈ V8→EOk Tryz.prog e:=e_cons (eV_ok saxis) V7_ok
def tubeM:Int:=cond (cond (!axO (a 3) (a 4) (a 5)) true (!fgt (a 9) 0)) 6 0
theorem mtube:FSpec Tryz.prog 295 [SH k a sk] (iA (tubeM a)):=by
  refine sp V8_ok Tryz.func295 (by kernel_rfl) (by kernel_rfl) rfl ((show ev Tryz.prog V8 [] noL Tryz.f295 [SH k a sk] ret=cond (cond (!axO (a 3) (a 4) (a 5)) true (!fgt (a 9) 0)) (some (Out.of (iA 6))) (some (Out.of (iA 0))) by kernel_rfl).trans ?_)
  unfold tubeM; cases cond (!axO (a 3) (a 4) (a 5)) true (!fgt (a 9) 0)<;>rfl
def ringM:Int:=cond (cond (!axO (a 3) (a 4) (a 5)) true (!(cond (fgt (a 10) 0) (fge (a 9) (a 10)) false))) 6 0
theorem mring:FSpec Tryz.prog 304 [SH k a sk] (iA (ringM a)):=by
  refine sp V8_ok Tryz.func304 (by kernel_rfl) (by kernel_rfl) rfl ((show ev Tryz.prog V8 [] noL Tryz.f304 [SH k a sk] ret=cond (cond (!axO (a 3) (a 4) (a 5)) true (!(cond (fgt (a 10) 0) (fge (a 9) (a 10)) false))) (some (Out.of (iA 6))) (some (Out.of (iA 0))) by kernel_rfl).trans ?_)
  unfold ringM; cases cond (!axO (a 3) (a 4) (a 5)) true (!(cond (fgt (a 10) 0) (fge (a 9) (a 10)) false))<;>rfl
def V9:List Entry:=V8
theorem V9_ok:∀ e,e ∈ V9→EOk Tryz.prog e:=V8_ok
end
end Go.Proofs.YtefphimaggjihaaGreatDoor.Hs

namespace Go.Proofs.YtefphimaggjihaaGreatDoor.Hs
open Go.Gv
open Go.Ev (cn fadd fsub fmul fdiv fsqrt fneg feq flt fle fgt fge fabs)

section
end
section
end
section
end
section
end
end Go.Proofs.YtefphimaggjihaaGreatDoor.Hs

namespace Go.Proofs.YtefphimaggjihaaGreatDoor.Hs
open Go.Gv
open Go.Ev (cn fadd fsub fmul fdiv fsqrt fneg feq flt fle fgt fge fabs)

/-- Nought at an axis. -/
def fl3 (z i x:Nat):Nat:=cond (Nat.beq i z) 0 x
/-- The one axis of a vector. -/
def zB (a:Nat→Nat):Nat:=cond (neZ (a 5)) 2 (cond (neZ (a 4)) 1 0)
theorem axI_z (a:Nat→Nat):axI (a 3) (a 4) (a 5)=(zB a:Nat):=by
  unfold axI zB
  cases neZ (a 5)<;>cases neZ (a 4)<;>cases neZ (a 3)<;>rfl
theorem zB_lt (a:Nat→Nat):zB a=0∨zB a=1∨zB a=2:=by
  unfold zB
  cases neZ (a 5)<;>cases neZ (a 4)<;>simp
section
variable (k:Int) (a:Nat→Nat) (sk:Int) (r:Nat→Nat) (n f p q u z:Nat)
theorem atube:FSpec Tryz.prog 293 [SH k a sk] (iA (zB a:Nat)):=by
  rw [← axI_z]
  exact sp V8_ok Tryz.func293 (by kernel_rfl) (by kernel_rfl) rfl (by kernel_rfl)
theorem aring:FSpec Tryz.prog 302 [SH k a sk] (iA (zB a:Nat)):=by
  rw [← axI_z]
  exact sp V8_ok Tryz.func302 (by kernel_rfl) (by kernel_rfl) rfl (by kernel_rfl)
noncomputable def tuK (z:Nat):KEntry:=kS Tryz.prog 293 fun _=>iA (z:Nat)
noncomputable def riK (z:Nat):KEntry:=kS Tryz.prog 302 fun _=>iA (z:Nat)
noncomputable def gTu (o:Option Out):Option Out:=gate (FSpec Tryz.prog 293 [SH k a sk] (iA (z:Nat))) o
noncomputable def gRi (o:Option Out):Option Out:=gate (FSpec Tryz.prog 302 [SH k a sk] (iA (z:Nat))) o
def tuE:Nat→Nat:=aroundS (a 0) (a 1) (a 2) (fadd (a 0) (a 3)) (fadd (a 1) (a 4)) (fadd (a 2) (a 5))
def tubeB:Nat→Nat:=ls [fsub (tuE a 0) (fl3 z 0 (a 9)),fsub (tuE a 1) (fl3 z 1 (a 9)),fsub (tuE a 2) (fl3 z 2 (a 9)),fadd (tuE a 3) (fl3 z 0 (a 9)),fadd (tuE a 4) (fl3 z 1 (a 9)),fadd (tuE a 5) (fl3 z 2 (a 9))]
def riA (i:Nat):Nat:=fadd (fl3 z i (a 9)) (a 10)
def ringB:Nat→Nat:=ls [fsub (a 0) (riA a z 0),fsub (a 1) (riA a z 1),fsub (a 2) (riA a z 2),fadd (a 0) (riA a z 0),fadd (a 1) (riA a z 1),fadd (a 2) (riA a z 2)]
theorem btube_ev0:ev Tryz.prog V8 [tuK 0] noL Tryz.f294 [SH k a sk] ret=gTu k a sk 0 (some (Out.of (BX (tubeB a 0)))):=by kernel_rfl
theorem btube_ev1:ev Tryz.prog V8 [tuK 1] noL Tryz.f294 [SH k a sk] ret=gTu k a sk 1 (some (Out.of (BX (tubeB a 1)))):=by kernel_rfl
theorem btube_ev2:ev Tryz.prog V8 [tuK 2] noL Tryz.f294 [SH k a sk] ret=gTu k a sk 2 (some (Out.of (BX (tubeB a 2)))):=by kernel_rfl
theorem bring_ev0:ev Tryz.prog V8 [riK 0] noL Tryz.f303 [SH k a sk] ret=gRi k a sk 0 (some (Out.of (BX (ringB a 0)))):=by kernel_rfl
theorem bring_ev1:ev Tryz.prog V8 [riK 1] noL Tryz.f303 [SH k a sk] ret=gRi k a sk 1 (some (Out.of (BX (ringB a 1)))):=by kernel_rfl
theorem bring_ev2:ev Tryz.prog V8 [riK 2] noL Tryz.f303 [SH k a sk] ret=gRi k a sk 2 (some (Out.of (BX (ringB a 2)))):=by kernel_rfl
theorem gTu_pos {z:Nat} {o:Option Out} (h:zB a=z):gTu k a sk z o=o:=gate_pos (by rw [← h]; exact atube k a sk)
theorem gRi_pos {z:Nat} {o:Option Out} (h:zB a=z):gRi k a sk z o=o:=gate_pos (by rw [← h]; exact aring k a sk)
theorem btube:FSpec Tryz.prog 294 [SH k a sk] (BX (tubeB a (zB a))):=by
  rcases zB_lt a with h | h | h
  · rw [h]; exact gspec V8_ok (k_cons kS_ok k_nil) Tryz.func294 (by kernel_rfl) (by kernel_rfl) noL_ok rfl ((btube_ev0 k a sk).trans (gTu_pos k a sk h))
  · rw [h]; exact gspec V8_ok (k_cons kS_ok k_nil) Tryz.func294 (by kernel_rfl) (by kernel_rfl) noL_ok rfl ((btube_ev1 k a sk).trans (gTu_pos k a sk h))
  · rw [h]; exact gspec V8_ok (k_cons kS_ok k_nil) Tryz.func294 (by kernel_rfl) (by kernel_rfl) noL_ok rfl ((btube_ev2 k a sk).trans (gTu_pos k a sk h))
theorem bring:FSpec Tryz.prog 303 [SH k a sk] (BX (ringB a (zB a))):=by
  rcases zB_lt a with h | h | h
  · rw [h]; exact gspec V8_ok (k_cons kS_ok k_nil) Tryz.func303 (by kernel_rfl) (by kernel_rfl) noL_ok rfl ((bring_ev0 k a sk).trans (gRi_pos k a sk h))
  · rw [h]; exact gspec V8_ok (k_cons kS_ok k_nil) Tryz.func303 (by kernel_rfl) (by kernel_rfl) noL_ok rfl ((bring_ev1 k a sk).trans (gRi_pos k a sk h))
  · rw [h]; exact gspec V8_ok (k_cons kS_ok k_nil) Tryz.func303 (by kernel_rfl) (by kernel_rfl) noL_ok rfl ((bring_ev2 k a sk).trans (gRi_pos k a sk h))
def X0:List Entry:=V9
theorem X0_ok:∀ e,e ∈ X0→EOk Tryz.prog e:=V9_ok
end
end Go.Proofs.YtefphimaggjihaaGreatDoor.Hs

namespace Go.Proofs.YtefphimaggjihaaGreatDoor.Hs
open Go.Gv
open Go.Ev (cn fadd fsub fmul fdiv fsqrt fneg feq flt fle fgt fge fabs)

def eKd:List AV→Option AV
  | [.agg [.x (.int .i64 k),.f a0,.f a1,.f a2,.f a3,.f a4,.f a5,.f a6,.f a7,.f a8,.f a9,.f a10,.x (.int .i64 sk)]]=>cond (k==1) (some (.ifc 214 (.agg [.x (.int .i64 k),.f a0,.f a1,.f a2,.f a3,.f a4,.f a5,.f a6,.f a7,.f a8,.f a9,.f a10,.x (.int .i64 sk)]))) (cond (k==2) (some (.ifc 215 (.agg [.x (.int .i64 k),.f a0,.f a1,.f a2,.f a3,.f a4,.f a5,.f a6,.f a7,.f a8,.f a9,.f a10,.x (.int .i64 sk)]))) (cond (k==3) (some (.ifc 216 (.agg [.x (.int .i64 k),.f a0,.f a1,.f a2,.f a3,.f a4,.f a5,.f a6,.f a7,.f a8,.f a9,.f a10,.x (.int .i64 sk)]))) (cond (k==4) (some (.ifc 217 (.agg [.x (.int .i64 k),.f a0,.f a1,.f a2,.f a3,.f a4,.f a5,.f a6,.f a7,.f a8,.f a9,.f a10,.x (.int .i64 sk)]))) (cond (k==5) (some (.ifc 218 (.agg [.x (.int .i64 k),.f a0,.f a1,.f a2,.f a3,.f a4,.f a5,.f a6,.f a7,.f a8,.f a9,.f a10,.x (.int .i64 sk)]))) (cond (k==6) (some (.ifc 219 (.agg [.x (.int .i64 k),.f a0,.f a1,.f a2,.f a3,.f a4,.f a5,.f a6,.f a7,.f a8,.f a9,.f a10,.x (.int .i64 sk)]))) (none))))))
  | _=>none
theorem kd_ev (k:Int) (a:Nat→Nat) (sk:Int):ev Tryz.prog [] [] noL Tryz.f158 [SH k a sk] ret=cond (k==1) (some (Out.of (.ifc 214 (SH k a sk)))) (cond (k==2) (some (Out.of (.ifc 215 (SH k a sk)))) (cond (k==3) (some (Out.of (.ifc 216 (SH k a sk)))) (cond (k==4) (some (Out.of (.ifc 217 (SH k a sk)))) (cond (k==5) (some (Out.of (.ifc 218 (SH k a sk)))) (cond (k==6) (some (Out.of (.ifc 219 (SH k a sk)))) (some (Out.of (.x .nilIface)))))))):=by kernel_rfl
theorem eKd_ok:EOk Tryz.prog ⟨158,eKd⟩:=fun args r hr=>by
  simp only [eKd] at hr
  split at hr
  · rename_i k a0 a1 a2 a3 a4 a5 a6 a7 a8 a9 a10 sk
    refine Or.inl (sp e_nil Tryz.func158 (by kernel_rfl) (by kernel_rfl) rfl ((kd_ev k (ls [a0,a1,a2,a3,a4,a5,a6,a7,a8,a9,a10]) sk).trans ?_))
    cases h1:k==1
    case true=>rw [h1] at hr; cases hr; rfl
    case false =>
    cases h2:k==2
    case true=>rw [h1,h2] at hr; cases hr; rfl
    case false =>
    cases h3:k==3
    case true=>rw [h1,h2,h3] at hr; cases hr; rfl
    case false =>
    cases h4:k==4
    case true=>rw [h1,h2,h3,h4] at hr; cases hr; rfl
    case false =>
    cases h5:k==5
    case true=>rw [h1,h2,h3,h4,h5] at hr; cases hr; rfl
    case false =>
    cases h6:k==6
    case true=>rw [h1,h2,h3,h4,h5,h6] at hr; cases hr; rfl
    case false =>
    rw [h1,h2,h3,h4,h5,h6] at hr; cases hr
  · cases hr
def skB (sk:Int):Bool:=cond (decide (sk < 0)) true (decide (sk ≥ 16))
def rcB (a:Nat→Nat):Bool:=cond (cond (cond (cond (!fineS (a 0) (a 1) (a 2)) true (!fineS (a 3) (a 4) (a 5))) true (!fineS (a 6) (a 7) (a 8))) true (!nearS (a 9))) true (!nearS (a 10))
def kbad (e:Int):Option Out:=some (Out.of (.tup [.x .nilIface,iA e]))
def kgood (T:Nat) (v:AV):Option Out:=some (Out.of (.tup [.ifc T v,iA 0]))
def knX (a:Nat→Nat) (sk m:Int) (b:Nat→Nat) (o:Option Out):Option Out:=cond (skB sk) (kbad 4) (cond (rcB a) (kbad 1) (cond (!(m==0)) (kbad m) (cond (!(mayS b==0)) (kbad 1) o)))
/-- The errno of what asks for m and has the box b. -/
def knE (a:Nat→Nat) (sk m:Int) (b:Nat→Nat):Int:=cond (skB sk) 4 (cond (rcB a) 1 (cond (!(m==0)) m (cond (!(mayS b==0)) 1 0)))
theorem knX_good {a:Nat→Nat} {sk m:Int} {b:Nat→Nat} {o:Option Out} (h:knE a sk m b=0):knX a sk m b o=o:=by
  unfold knE at h
  unfold knX
  cases h1:skB sk
  · rw [h1] at h
    cases h2:rcB a
    · rw [h2] at h
      cases h3:(m==0)
      · rw [h3] at h
        have h:m=0:=h
        rw [h] at h3; cases h3
      · rw [h3] at h
        cases h4:(mayS b==0)
        · rw [h4] at h; cases h
        · rfl
    · rw [h2] at h; cases h
  · rw [h1] at h; cases h
theorem knX_bad {a:Nat→Nat} {sk m:Int} {b:Nat→Nat} {o:Option Out} (h:knE a sk m b≠0):knX a sk m b o=kbad (knE a sk m b):=by
  unfold knE at h ⊢
  unfold knX
  cases h1:skB sk
  · cases h2:rcB a
    · cases h3:(m==0)
      · rfl
      · cases h4:(mayS b==0)
        · rfl
        · rw [h1,h2,h3,h4] at h
          exact absurd rfl h
    · rfl
  · rfl
def X1:List Entry:=⟨158,eKd⟩::⟨276,eS fun a=>iA (ballM a)⟩::⟨275,eS fun a=>BX (cubeB a)⟩::⟨282,eS fun a=>iA (blockM a)⟩::⟨281,eS fun a=>BX (blockB a)⟩::⟨285,eS fun a=>BX (triB a)⟩::⟨290,eS fun a=>iA (plateM a)⟩::⟨289,eS fun a=>BX (cubeB a)⟩::⟨295,eS fun a=>iA (tubeM a)⟩::⟨294,eS fun a=>BX (tubeB a (zB a))⟩::⟨304,eS fun a=>iA (ringM a)⟩::⟨303,eS fun a=>BX (ringB a (zB a))⟩:: X0
theorem X1_ok:∀ e,e ∈ X1→EOk Tryz.prog e:=e_cons eKd_ok <| e_cons (eS_ok mball) <| e_cons (eS_ok bball) <| e_cons (eS_ok mblock) <| e_cons (eS_ok bblock) <| e_cons (eS_ok btri) <| e_cons (eS_ok mplate) <| e_cons (eS_ok bplate) <| e_cons (eS_ok mtube) <| e_cons (eS_ok btube) <| e_cons (eS_ok mring) <| e_cons (eS_ok bring) X0_ok
section
variable (a:Nat→Nat) (sk:Int)
theorem kn1_ev:ev Tryz.prog X1 [] noL Tryz.f136 [SH 1 a sk] ret=knX a sk (ballM a) (cubeB a) (kgood 214 (SH 1 a sk)):=by kernel_rfl
def e1:Int:=knE a sk (ballM a) (cubeB a)
theorem kn1_good (h:e1 a sk=0):FSpec Tryz.prog 136 [SH 1 a sk] (.tup [.ifc 214 (SH 1 a sk),iA 0]):=sp X1_ok Tryz.func136 (by kernel_rfl) (by kernel_rfl) rfl ((kn1_ev a sk).trans (knX_good (m:=ballM a) (b:=cubeB a) h))
theorem kn1_bad (h:e1 a sk≠0):FSpec Tryz.prog 136 [SH 1 a sk] (.tup [.x .nilIface,iA (e1 a sk)]):=sp X1_ok Tryz.func136 (by kernel_rfl) (by kernel_rfl) rfl ((kn1_ev a sk).trans (knX_bad (m:=ballM a) (b:=cubeB a) (o:=kgood 214 (SH 1 a sk)) h))
theorem kn2_ev:ev Tryz.prog X1 [] noL Tryz.f136 [SH 2 a sk] ret=knX a sk (blockM a) (blockB a) (kgood 215 (SH 2 a sk)):=by kernel_rfl
def e2:Int:=knE a sk (blockM a) (blockB a)
theorem kn2_good (h:e2 a sk=0):FSpec Tryz.prog 136 [SH 2 a sk] (.tup [.ifc 215 (SH 2 a sk),iA 0]):=sp X1_ok Tryz.func136 (by kernel_rfl) (by kernel_rfl) rfl ((kn2_ev a sk).trans (knX_good (m:=blockM a) (b:=blockB a) h))
theorem kn2_bad (h:e2 a sk≠0):FSpec Tryz.prog 136 [SH 2 a sk] (.tup [.x .nilIface,iA (e2 a sk)]):=sp X1_ok Tryz.func136 (by kernel_rfl) (by kernel_rfl) rfl ((kn2_ev a sk).trans (knX_bad (m:=blockM a) (b:=blockB a) (o:=kgood 215 (SH 2 a sk)) h))
theorem kn3_ev:ev Tryz.prog X1 [] noL Tryz.f136 [SH 3 a sk] ret=cond (skB sk) (kbad 4) (cond (rcB a) (kbad 1) (cond (!(mayS (triB a)==0)) (kbad 1) (kgood 216 (SH 3 a sk)))):=by kernel_rfl
def e3:Int:=knE a sk (0) (triB a)
theorem kn3_good (h:e3 a sk=0):FSpec Tryz.prog 136 [SH 3 a sk] (.tup [.ifc 216 (SH 3 a sk),iA 0]):=sp X1_ok Tryz.func136 (by kernel_rfl) (by kernel_rfl) rfl ((kn3_ev a sk).trans (knX_good (m:=0) (b:=triB a) h))
theorem kn3_bad (h:e3 a sk≠0):FSpec Tryz.prog 136 [SH 3 a sk] (.tup [.x .nilIface,iA (e3 a sk)]):=sp X1_ok Tryz.func136 (by kernel_rfl) (by kernel_rfl) rfl ((kn3_ev a sk).trans (knX_bad (m:=0) (b:=triB a) (o:=kgood 216 (SH 3 a sk)) h))
theorem kn4_ev:ev Tryz.prog X1 [] noL Tryz.f136 [SH 4 a sk] ret=knX a sk (plateM a) (cubeB a) (kgood 217 (SH 4 a sk)):=by kernel_rfl
def e4:Int:=knE a sk (plateM a) (cubeB a)
theorem kn4_good (h:e4 a sk=0):FSpec Tryz.prog 136 [SH 4 a sk] (.tup [.ifc 217 (SH 4 a sk),iA 0]):=sp X1_ok Tryz.func136 (by kernel_rfl) (by kernel_rfl) rfl ((kn4_ev a sk).trans (knX_good (m:=plateM a) (b:=cubeB a) h))
theorem kn4_bad (h:e4 a sk≠0):FSpec Tryz.prog 136 [SH 4 a sk] (.tup [.x .nilIface,iA (e4 a sk)]):=sp X1_ok Tryz.func136 (by kernel_rfl) (by kernel_rfl) rfl ((kn4_ev a sk).trans (knX_bad (m:=plateM a) (b:=cubeB a) (o:=kgood 217 (SH 4 a sk)) h))
theorem kn5_ev:ev Tryz.prog X1 [] noL Tryz.f136 [SH 5 a sk] ret=knX a sk (tubeM a) (tubeB a (zB a)) (kgood 218 (SH 5 a sk)):=by kernel_rfl
def e5:Int:=knE a sk (tubeM a) (tubeB a (zB a))
theorem kn5_good (h:e5 a sk=0):FSpec Tryz.prog 136 [SH 5 a sk] (.tup [.ifc 218 (SH 5 a sk),iA 0]):=sp X1_ok Tryz.func136 (by kernel_rfl) (by kernel_rfl) rfl ((kn5_ev a sk).trans (knX_good (m:=tubeM a) (b:=tubeB a (zB a)) h))
theorem kn5_bad (h:e5 a sk≠0):FSpec Tryz.prog 136 [SH 5 a sk] (.tup [.x .nilIface,iA (e5 a sk)]):=sp X1_ok Tryz.func136 (by kernel_rfl) (by kernel_rfl) rfl ((kn5_ev a sk).trans (knX_bad (m:=tubeM a) (b:=tubeB a (zB a)) (o:=kgood 218 (SH 5 a sk)) h))
theorem kn6_ev:ev Tryz.prog X1 [] noL Tryz.f136 [SH 6 a sk] ret=knX a sk (ringM a) (ringB a (zB a)) (kgood 219 (SH 6 a sk)):=by kernel_rfl
def e6:Int:=knE a sk (ringM a) (ringB a (zB a))
theorem kn6_good (h:e6 a sk=0):FSpec Tryz.prog 136 [SH 6 a sk] (.tup [.ifc 219 (SH 6 a sk),iA 0]):=sp X1_ok Tryz.func136 (by kernel_rfl) (by kernel_rfl) rfl ((kn6_ev a sk).trans (knX_good (m:=ringM a) (b:=ringB a (zB a)) h))
theorem kn6_bad (h:e6 a sk≠0):FSpec Tryz.prog 136 [SH 6 a sk] (.tup [.x .nilIface,iA (e6 a sk)]):=sp X1_ok Tryz.func136 (by kernel_rfl) (by kernel_rfl) rfl ((kn6_ev a sk).trans (knX_bad (m:=ringM a) (b:=ringB a (zB a)) (o:=kgood 219 (SH 6 a sk)) h))
end
/-- A kind that there is none of. -/
def kOther (k:Int):Prop:=k≠1∧k≠2∧k≠3∧k≠4∧k≠5∧k≠6
def e0 (a:Nat→Nat) (sk:Int):Int:=cond (skB sk) 4 (cond (rcB a) 1 3)
theorem kd0 {k:Int} (h:kOther k) (a:Nat→Nat) (sk:Int):FSpec Tryz.prog 158 [SH k a sk] (.x .nilIface):=by
  obtain ⟨h1,h2,h3,h4,h5,h6⟩:=h
  refine sp e_nil Tryz.func158 (by kernel_rfl) (by kernel_rfl) rfl ((kd_ev k a sk).trans ?_)
  rw [beq_false_of_ne h1,beq_false_of_ne h2,beq_false_of_ne h3,beq_false_of_ne h4,beq_false_of_ne h5,beq_false_of_ne h6]
  rfl
theorem kn0_ev (k:Int) (a:Nat→Nat) (sk:Int):ev Tryz.prog X0 [kS Tryz.prog 158 fun _=>.x .nilIface] noL Tryz.f136 [SH k a sk] ret=cond (skB sk) (kbad 4) (cond (rcB a) (kbad 1) (gate (FSpec Tryz.prog 158 [SH k a sk] (.x .nilIface)) (kbad 3))):=by kernel_rfl
theorem kn0_bad {k:Int} (h:kOther k) (a:Nat→Nat) (sk:Int):FSpec Tryz.prog 136 [SH k a sk] (.tup [.x .nilIface,iA (e0 a sk)]):=by
  refine gspec X0_ok (k_cons kS_ok k_nil) Tryz.func136 (by kernel_rfl) (by kernel_rfl) noL_ok rfl ((kn0_ev k a sk).trans ?_)
  rw [gate_pos (kd0 h a sk)]
  unfold e0
  cases skB sk<;>cases rcB a<;>rfl
end Go.Proofs.YtefphimaggjihaaGreatDoor.Hs

namespace Go.Proofs.YtefphimaggjihaaGreatDoor.Hs
open Go.Gv
open Go.Ev (cn fadd fsub fmul fdiv fsqrt fneg feq flt fle fgt fge fabs isNan cn_of_not)

def X2:List Entry:=X1
theorem X2_ok:∀ e,e ∈ X2→EOk Tryz.prog e:=X1_ok
section
variable (k:Int) (a:Nat→Nat) (sk:Int) (p q u:Nat)
variable (z:Nat)
end
end Go.Proofs.YtefphimaggjihaaGreatDoor.Hs

namespace Go.Proofs.YtefphimaggjihaaGreatDoor.Hs
open Go.Gv
open Go.Ev (cn fadd fsub fmul fdiv fsqrt fneg feq flt fle fgt fge fabs)

section
variable (k:Int) (a:Nat→Nat) (sk:Int) (r:Nat→Nat) (e:Int) (T:Nat) (p q u:Nat)
abbrev KNb:Prop:=FSpec Tryz.prog 136 [SH k a sk] (.tup [.x .nilIface,iA e])
abbrev KNg:Prop:=FSpec Tryz.prog 136 [SH k a sk] (.tup [.ifc T (SH k a sk),iA 0])
noncomputable def kK (x:AV) (e:Int):KEntry:=kS Tryz.prog 136 fun _=>.tup [x,iA e]
theorem may_evb:ev Tryz.prog X2 [kK (.x .nilIface) e] noL Tryz.f98 [SH k a sk] ret=gate (KNb k a sk e) (some (Out.of (iA e))):=by kernel_rfl
theorem may_evg:ev Tryz.prog X2 [kK (.ifc T (SH k a sk)) 0] noL Tryz.f98 [SH k a sk] ret=gate (KNg k a sk T) (some (Out.of (iA 0))):=by kernel_rfl
theorem may_b {k:Int} {a:Nat→Nat} {sk e:Int} (h:KNb k a sk e):FSpec Tryz.prog 98 [SH k a sk] (iA e):=gspec X2_ok (k_cons kS_ok k_nil) Tryz.func98 (by kernel_rfl) (by kernel_rfl) noL_ok rfl ((may_evb k a sk e).trans (gate_pos h))
theorem may_g {k:Int} {a:Nat→Nat} {sk:Int} {T:Nat} (h:KNg k a sk T):FSpec Tryz.prog 98 [SH k a sk] (iA 0):=gspec X2_ok (k_cons kS_ok k_nil) Tryz.func98 (by kernel_rfl) (by kernel_rfl) noL_ok rfl ((may_evg k a sk T).trans (gate_pos h))
def z6:Nat→Nat:=fun _=>0
end
end Go.Proofs.YtefphimaggjihaaGreatDoor.Hs

namespace Go.Proofs.YtefphimaggjihaaGreatDoor.Hs
open Go.Gv
open Go.Ev (cn fadd fsub fmul fdiv fsqrt fneg feq flt fle fgt fge fabs)

section
end
end Go.Proofs.YtefphimaggjihaaGreatDoor.Hs

namespace Go.Proofs.YtefphimaggjihaaGreatDoor.Hs
open Go.Gv
open Go.Ev (cn fadd fsub fmul fdiv fsqrt fneg feq flt fle fgt fge fabs)

/-- Three floats in a row. -/
def fOf:List AV→Nat
  | [.f x]=>x
  | _=>0
theorem of_ev (g:Nat→Nat):ev Tryz.prog [] [] noL Tryz.f164 [.sl 1 3 fun i=>[.f (g i)]] ret=some (Out.of (V (g 0) (g 1) (g 2))):=by kernel_rfl
theorem rof (g:Nat→Nat):FSpec Tryz.prog 164 [.sl 1 3 fun i=>[.f (g i)]] (V (g 0) (g 1) (g 2)):=sp e_nil Tryz.func164 (by kernel_rfl) (by kernel_rfl) rfl (of_ev g)
def ofG:List AV→AV
  | [.sl _ _ el]=>V (fOf (el 0)) (fOf (el 1)) (fOf (el 2))
  | _=>.any
def pE (a b c x k:Nat):Nat→List AV:=fun i=>mixL ((0+i)==k) [.f x] (chunk [.f a,.f b,.f c] 1 (0+i))
theorem of_put {a b c x k:Nat} (g:Nat→Nat) (h:∀ i,i < 3→pE a b c x k i=[.f (g i)]):FSpec Tryz.prog 164 [.sl 1 3 (pE a b c x k)] (V (g 0) (g 1) (g 2)):=by
  refine FSpec.of_args (rof g) fun E vs hv=>?_
  obtain ⟨v,ws,rfl,h1,h2⟩:=rels_cons.1 hv
  exact rels_cons.2 ⟨v,ws,rfl,sl_like h1 fun i hi=>(h i hi).symm,h2⟩
section
variable (a b c x:Nat)
noncomputable def ptO (k:Nat) (v:AV):Option Out:=gate (FSpec Tryz.prog 164 [.sl 1 3 (pE a b c x k)] v) (some (Out.of v))
theorem put_ev0:ev Tryz.prog [] [kS Tryz.prog 164 ofG] noL Tryz.f141 [V a b c,iA 0,.f x] ret=ptO a b c x 0 (V x b c):=by kernel_rfl
theorem put_ev1:ev Tryz.prog [] [kS Tryz.prog 164 ofG] noL Tryz.f141 [V a b c,iA 1,.f x] ret=ptO a b c x 1 (V a x c):=by kernel_rfl
theorem put_ev2:ev Tryz.prog [] [kS Tryz.prog 164 ofG] noL Tryz.f141 [V a b c,iA 2,.f x] ret=ptO a b c x 2 (V a b x):=by kernel_rfl
theorem rput0:FSpec Tryz.prog 141 [V a b c,iA 0,.f x] (V x b c):=gspec e_nil (k_cons kS_ok k_nil) Tryz.func141 (by kernel_rfl) (by kernel_rfl) noL_ok rfl ((put_ev0 a b c x).trans (gate_pos (of_put (ls [x,b,c]) fun i hi=>(by match i,hi with | 0,_=>rfl | 1,_=>rfl | 2,_=>rfl))))
theorem rput1:FSpec Tryz.prog 141 [V a b c,iA 1,.f x] (V a x c):=gspec e_nil (k_cons kS_ok k_nil) Tryz.func141 (by kernel_rfl) (by kernel_rfl) noL_ok rfl ((put_ev1 a b c x).trans (gate_pos (of_put (ls [a,x,c]) fun i hi=>(by match i,hi with | 0,_=>rfl | 1,_=>rfl | 2,_=>rfl))))
theorem rput2:FSpec Tryz.prog 141 [V a b c,iA 2,.f x] (V a b x):=gspec e_nil (k_cons kS_ok k_nil) Tryz.func141 (by kernel_rfl) (by kernel_rfl) noL_ok rfl ((put_ev2 a b c x).trans (gate_pos (of_put (ls [a,b,x]) fun i hi=>(by match i,hi with | 0,_=>rfl | 1,_=>rfl | 2,_=>rfl))))
end
def ePut:List AV→Option AV
  | [.agg [.f a,.f b,.f c],.x (.int .i64 k),.f x]=>cond (k==0) (some (V x b c)) (cond (k==1) (some (V a x c)) (cond (k==2) (some (V a b x)) none))
  | _=>none
theorem ePut_ok:EOk Tryz.prog ⟨141,ePut⟩:=fun args r hr=>by
  simp only [ePut] at hr
  split at hr
  · rename_i a b c k x
    cases h0:k==0
    · rw [h0] at hr
      cases h1:k==1
      · rw [h1] at hr
        cases h2:k==2
        · rw [h2] at hr; cases hr
        · rw [h2] at hr; cases hr; rw [eq_of_beq h2]; exact Or.inl (rput2 a b c x)
      · rw [h1] at hr; cases hr; rw [eq_of_beq h1]; exact Or.inl (rput1 a b c x)
    · rw [h0] at hr; cases hr; rw [eq_of_beq h0]; exact Or.inl (rput0 a b c x)
  · cases hr
def aiR (k:Int):Option Out:=some (Out.of (iA k))
def aiT (a b c:Nat):Option Out:=cond (neZ a) (cond (neZ b) (cond (neZ c) (aiR (-1)) (aiR (-1))) (cond (neZ c) (aiR (-1)) (aiR 0))) (cond (neZ b) (cond (neZ c) (aiR (-1)) (aiR 1)) (cond (neZ c) (aiR 2) (aiR (-1))))
/-- The one axis, or -1. -/
def aiS (a b c:Nat):Int:=cond (axO a b c) (axI a b c) (-1)
theorem raxisOf (a b c:Nat):FSpec Tryz.prog 101 [V a b c] (iA (aiS a b c)):=by
  refine sp R3_ok Tryz.func101 (by kernel_rfl) (by kernel_rfl) rfl ((show ev Tryz.prog R3 [] noL Tryz.f101 [V a b c] ret=aiT a b c by kernel_rfl).trans ?_)
  unfold aiT aiS axO axI aiR
  cases neZ a<;>cases neZ b<;>cases neZ c<;>rfl
theorem raxisZ {a:Nat→Nat} (h:axO (a 3) (a 4) (a 5)=true):FSpec Tryz.prog 101 [V (a 3) (a 4) (a 5)] (iA (zB a:Nat)):=by
  have:=raxisOf (a 3) (a 4) (a 5)
  unfold aiS at this
  rw [h,cond_true,axI_z] at this
  exact this
section
variable (o d:Nat→Nat) (r:Nat)
end
def noughtB (a b c:Nat):Bool:=cond (cond (feq a 0) (feq b 0) false) (feq c 0) false
theorem rnought (a b c:Nat):FSpec Tryz.prog 96 [V a b c] (bA (noughtB a b c)):=sp e_nil Tryz.func96 (by kernel_rfl) (by kernel_rfl) rfl (by kernel_rfl)
def R4:List Entry:=⟨141,ePut⟩::⟨96,eV fun a b c=>bA (noughtB a b c)⟩::R3
theorem R4_ok:∀ e,e ∈ R4→EOk Tryz.prog e:=e_cons ePut_ok <| e_cons (eV_ok rnought) R3_ok
end Go.Proofs.YtefphimaggjihaaGreatDoor.Hs

namespace Go.Ev
open Ieee

theorem order_self {d:Datum} (h:d.isNaN=false):d.order d=some .eq:=by
  cases d with
  | number s m i=>simp only [Datum.order]; simp
  | infinity s=>simp [Datum.order]
  | nan s f=>simp [Datum.isNaN] at h

theorem feq_self (x:Nat):feq x x=!isNan x:=by
  unfold feq
  cases h:isNan x
  · have:double.order x x=some .eq:=order_self h
    rw [this]; rfl
  · have:double.order x x=none:=order_nan_left h
    rw [this]; rfl

end Go.Ev

namespace Go.Ev
open Ieee
theorem datum_tot {d e:Datum} (hd:d.isNaN=false) (he:e.isNaN=false):∃ o,d.order e=some o:=by
  cases d with
  | nan s f=>simp [Datum.isNaN] at hd
  | infinity s =>
    cases e with
    | nan s f=>simp [Datum.isNaN] at he
    | infinity t=>cases s<;>cases t<;>exact ⟨_,rfl⟩
    | number t m i=>cases s<;>exact ⟨_,rfl⟩
  | number s m i =>
    cases e with
    | nan s f=>simp [Datum.isNaN] at he
    | infinity t=>cases t<;>exact ⟨_,rfl⟩
    | number t n j=>exact ⟨_,rfl⟩
theorem order_tot {x y:Nat} (hx:isNan x=false) (hy:isNan y=false):∃ o,double.order x y=some o:=datum_tot hx hy
theorem fge_not {x y:Nat} (hx:isNan x=false) (hy:isNan y=false):fge x y=!flt x y:=by
  obtain ⟨o,h⟩:=order_tot hx hy
  unfold fge flt
  rw [h]
  cases o<;>rfl
theorem fle_not {x y:Nat} (hx:isNan x=false) (hy:isNan y=false):fle x y=!fgt x y:=by
  obtain ⟨o,h⟩:=order_tot hx hy
  unfold fle fgt
  rw [h]
  cases o<;>rfl
theorem nan_fge {x y:Nat} (h:fge x y=true):isNan x=false∧isNan y=false:=by
  unfold fge at h
  constructor
  · cases hx:isNan x
    · rfl
    · have e:double.order x y=none:=order_nan_left hx
      rw [e] at h; cases h
  · cases hy:isNan y
    · rfl
    · have e:double.order x y=none:=order_nan_right hy
      rw [e] at h; cases h
end Go.Ev
namespace Go.Proofs.YtefphimaggjihaaGreatDoor.Hs
open Go.Gv
open Go.Ev (cn fadd fsub fmul fdiv fsqrt fneg feq flt fle fgt fge fabs isNan fge_not fle_not nan_fge)

theorem near_nan {x:Nat} (h:nearS x=true):isNan x=false:=by
  unfold nearS at h
  cases h1:fge x 13920209183539462144
  · rw [h1] at h; cases h
  · exact (nan_fge h1).1
theorem not_gt {x:Nat} (h:nearS x=true):fle x 0=!fgt x 0:=fle_not (near_nan h) (by decide +kernel)
section
variable (b r:Nat→Nat)
end
def R5:List Entry:=R4
theorem R5_ok:∀ e,e ∈ R5→EOk Tryz.prog e:=R4_ok
end Go.Proofs.YtefphimaggjihaaGreatDoor.Hs

namespace Go.Proofs.YtefphimaggjihaaGreatDoor.Hs
open Go.Gv
open Go.Ev (cn fadd fsub fmul fdiv fsqrt fneg feq flt fle fgt fge fabs isNan fge_not fle_not)

section
variable (a:Nat→Nat) (sk:Int)
theorem ar1:FSpec Tryz.prog 103 [SH 1 a sk] (BX (cubeB a)):=sp R5_ok Tryz.func103 (by kernel_rfl) (by kernel_rfl) rfl (by kernel_rfl)
theorem ar2:FSpec Tryz.prog 103 [SH 2 a sk] (BX (blockB a)):=sp R5_ok Tryz.func103 (by kernel_rfl) (by kernel_rfl) rfl (by kernel_rfl)
theorem ar3:FSpec Tryz.prog 103 [SH 3 a sk] (BX (triB a)):=sp R5_ok Tryz.func103 (by kernel_rfl) (by kernel_rfl) rfl (by kernel_rfl)
theorem ar4:FSpec Tryz.prog 103 [SH 4 a sk] (BX (cubeB a)):=sp R5_ok Tryz.func103 (by kernel_rfl) (by kernel_rfl) rfl (by kernel_rfl)
noncomputable def axK (z:Nat):KEntry:=kS Tryz.prog 101 fun _=>iA (z:Nat)
noncomputable def gAx (z:Nat) (o:Option Out):Option Out:=gate (FSpec Tryz.prog 101 [V (a 3) (a 4) (a 5)] (iA (z:Nat))) o
theorem gAx_pos {z:Nat} {o:Option Out} (h:axO (a 3) (a 4) (a 5)=true) (hz:zB a=z):gAx a z o=o:=gate_pos (by rw [← hz]; exact raxisZ h)
theorem ar5_ev0:ev Tryz.prog R5 [axK 0] noL Tryz.f103 [SH 5 a sk] ret=gAx a 0 (some (Out.of (BX (tubeB a 0)))):=by kernel_rfl
theorem ar5_ev1:ev Tryz.prog R5 [axK 1] noL Tryz.f103 [SH 5 a sk] ret=gAx a 1 (some (Out.of (BX (tubeB a 1)))):=by kernel_rfl
theorem ar5_ev2:ev Tryz.prog R5 [axK 2] noL Tryz.f103 [SH 5 a sk] ret=gAx a 2 (some (Out.of (BX (tubeB a 2)))):=by kernel_rfl
theorem ar5 (h:axO (a 3) (a 4) (a 5)=true):FSpec Tryz.prog 103 [SH 5 a sk] (BX (tubeB a (zB a))):=by
  rcases zB_lt a with hz | hz | hz
  · rw [hz]; exact gspec R5_ok (k_cons kS_ok k_nil) Tryz.func103 (by kernel_rfl) (by kernel_rfl) noL_ok rfl ((ar5_ev0 a sk).trans (gAx_pos a h hz))
  · rw [hz]; exact gspec R5_ok (k_cons kS_ok k_nil) Tryz.func103 (by kernel_rfl) (by kernel_rfl) noL_ok rfl ((ar5_ev1 a sk).trans (gAx_pos a h hz))
  · rw [hz]; exact gspec R5_ok (k_cons kS_ok k_nil) Tryz.func103 (by kernel_rfl) (by kernel_rfl) noL_ok rfl ((ar5_ev2 a sk).trans (gAx_pos a h hz))
theorem ar6_ev0:ev Tryz.prog R5 [axK 0] noL Tryz.f103 [SH 6 a sk] ret=gAx a 0 (some (Out.of (BX (ringB a 0)))):=by kernel_rfl
theorem ar6_ev1:ev Tryz.prog R5 [axK 1] noL Tryz.f103 [SH 6 a sk] ret=gAx a 1 (some (Out.of (BX (ringB a 1)))):=by kernel_rfl
theorem ar6_ev2:ev Tryz.prog R5 [axK 2] noL Tryz.f103 [SH 6 a sk] ret=gAx a 2 (some (Out.of (BX (ringB a 2)))):=by kernel_rfl
theorem ar6 (h:axO (a 3) (a 4) (a 5)=true):FSpec Tryz.prog 103 [SH 6 a sk] (BX (ringB a (zB a))):=by
  rcases zB_lt a with hz | hz | hz
  · rw [hz]; exact gspec R5_ok (k_cons kS_ok k_nil) Tryz.func103 (by kernel_rfl) (by kernel_rfl) noL_ok rfl ((ar6_ev0 a sk).trans (gAx_pos a h hz))
  · rw [hz]; exact gspec R5_ok (k_cons kS_ok k_nil) Tryz.func103 (by kernel_rfl) (by kernel_rfl) noL_ok rfl ((ar6_ev1 a sk).trans (gAx_pos a h hz))
  · rw [hz]; exact gspec R5_ok (k_cons kS_ok k_nil) Tryz.func103 (by kernel_rfl) (by kernel_rfl) noL_ok rfl ((ar6_ev2 a sk).trans (gAx_pos a h hz))
noncomputable def arK (b:Nat→Nat):KEntry:=kS Tryz.prog 103 fun _=>BX b
noncomputable def gAr (j:Int) (b:Nat→Nat) (o:Option Out):Option Out:=gate (FSpec Tryz.prog 103 [SH j a sk] (BX b)) o
noncomputable def smZ (j:Int) (b:Nat→Nat):Option Out:=gAr a sk j b (cond (!(mayS b==0)) (aiR 1) (aiR 0))
noncomputable def smX (o:Option Out):Option Out:=cond (skB sk) (aiR 4) (cond (rcB a) (aiR 1) o)
def R6:List Entry:=⟨101,eV fun a b c=>iA (aiS a b c)⟩::R5
theorem R6_ok:∀ e,e ∈ R6→EOk Tryz.prog e:=e_cons (eV_ok raxisOf) R5_ok
theorem sm1_ev (b:Nat→Nat):ev Tryz.prog R6 [arK b] noL Tryz.f46 [SH 1 a sk] ret=smX a sk (cond (fle (a 9) 0) (aiR 6) (smZ a sk 1 b)):=by kernel_rfl
theorem sm2_ev (b:Nat→Nat):ev Tryz.prog R6 [arK b] noL Tryz.f46 [SH 2 a sk] ret=smX a sk (cond (blockG a) (aiR 6) (smZ a sk 2 b)):=by kernel_rfl
theorem sm3_ev (b:Nat→Nat):ev Tryz.prog R6 [arK b] noL Tryz.f46 [SH 3 a sk] ret=smX a sk (smZ a sk 3 b):=by kernel_rfl
theorem sm4_ev (b:Nat→Nat):ev Tryz.prog R6 [arK b] noL Tryz.f46 [SH 4 a sk] ret=smX a sk (cond (fle (a 9) 0) (aiR 6) (cond (!(unE (a 3) (a 4) (a 5)==0)) (aiR (unE (a 3) (a 4) (a 5))) (smZ a sk 4 b))):=by kernel_rfl
theorem sm5_ev (b:Nat→Nat):ev Tryz.prog R6 [arK b] noL Tryz.f46 [SH 5 a sk] ret=smX a sk (cond (cond (fle (a 9) 0) true (decide (aiS (a 3) (a 4) (a 5) < 0))) (aiR 6) (smZ a sk 5 b)):=by kernel_rfl
theorem sm6_ev (b:Nat→Nat):ev Tryz.prog R6 [arK b] noL Tryz.f46 [SH 6 a sk] ret=smX a sk (cond (cond (cond (fle (a 10) 0) true (flt (a 9) (a 10))) true (decide (aiS (a 3) (a 4) (a 5) < 0))) (aiR 6) (smZ a sk 6 b)):=by kernel_rfl
theorem sm0_ev (k:Int) (b:Nat→Nat):ev Tryz.prog R6 [arK b] noL Tryz.f46 [SH k a sk] ret=smX a sk (cond (k==1) (cond (fle (a 9) 0) (aiR 6) (smZ a sk k b)) (cond (k==2) (cond (blockG a) (aiR 6) (smZ a sk k b)) (cond (k==3) (smZ a sk k b) (cond (k==4) (cond (fle (a 9) 0) (aiR 6) (cond (!(unE (a 3) (a 4) (a 5)==0)) (aiR (unE (a 3) (a 4) (a 5))) (smZ a sk k b)))
    (cond (k==5) (cond (cond (fle (a 9) 0) true (decide (aiS (a 3) (a 4) (a 5) < 0))) (aiR 6) (smZ a sk k b)) (cond (k==6) (cond (cond (cond (fle (a 10) 0) true (flt (a 9) (a 10))) true (decide (aiS (a 3) (a 4) (a 5) < 0))) (aiR 6) (smZ a sk k b)) (aiR 3))))))):=by kernel_rfl
end
theorem aiS_neg (x y z:Nat):decide (aiS x y z < 0)=!axO x y z:=by
  unfold aiS axO axI
  cases neZ x<;>cases neZ y<;>cases neZ z<;>rfl
theorem rc_near {a:Nat→Nat} (h:rcB a=false):nearS (a 9)=true∧nearS (a 10)=true:=by
  unfold rcB at h
  revert h
  cases fineS (a 0) (a 1) (a 2)<;>cases fineS (a 3) (a 4) (a 5)<;>cases fineS (a 6) (a 7) (a 8)<;>cases nearS (a 9)<;>cases nearS (a 10)<;>intro h<;>first | (cases h; done) | exact ⟨rfl,rfl⟩
theorem smX_go {a:Nat→Nat} {sk:Int} {m:Int} {b:Nat→Nat} {o:Option Out} (h:rcB a=false→o=cond (!(m==0)) (aiR m) (cond (!(mayS b==0)) (aiR 1) (aiR 0))):smX a sk o=some (Out.of (iA (knE a sk m b))):=by
  unfold smX knE
  cases skB sk
  · cases hr:rcB a
    · rw [h hr]
      unfold aiR
      cases (m==0)<;>cases (mayS b==0)<;>rfl
    · rfl
  · rfl
theorem smZ_pos {a:Nat→Nat} {sk j:Int} {b:Nat→Nat} (h:FSpec Tryz.prog 103 [SH j a sk] (BX b)):smZ a sk j b=cond (!(mayS b==0)) (aiR 1) (aiR 0):=gate_pos h
section
variable (a:Nat→Nat) (sk:Int)
theorem sm1:FSpec Tryz.prog 46 [SH 1 a sk] (iA (e1 a sk)):=by
  refine gspec R6_ok (k_cons kS_ok k_nil) Tryz.func46 (by kernel_rfl) (by kernel_rfl) noL_ok rfl ((sm1_ev a sk (cubeB a)).trans (smX_go fun hr=>?_))
  rw [smZ_pos (ar1 a sk),not_gt (rc_near hr).1]
  unfold ballM
  cases fgt (a 9) 0<;>rfl
theorem sm2:FSpec Tryz.prog 46 [SH 2 a sk] (iA (e2 a sk)):=by
  refine gspec R6_ok (k_cons kS_ok k_nil) Tryz.func46 (by kernel_rfl) (by kernel_rfl) noL_ok rfl ((sm2_ev a sk (blockB a)).trans (smX_go fun hr=>?_))
  rw [smZ_pos (ar2 a sk)]
  unfold blockM
  cases blockG a<;>rfl
theorem sm3:FSpec Tryz.prog 46 [SH 3 a sk] (iA (e3 a sk)):=by
  refine gspec R6_ok (k_cons kS_ok k_nil) Tryz.func46 (by kernel_rfl) (by kernel_rfl) noL_ok rfl ((sm3_ev a sk (triB a)).trans (smX_go fun hr=>?_))
  rw [smZ_pos (ar3 a sk)]
  rfl
theorem sm4:FSpec Tryz.prog 46 [SH 4 a sk] (iA (e4 a sk)):=by
  refine gspec R6_ok (k_cons kS_ok k_nil) Tryz.func46 (by kernel_rfl) (by kernel_rfl) noL_ok rfl ((sm4_ev a sk (cubeB a)).trans (smX_go fun hr=>?_))
  rw [smZ_pos (ar4 a sk),not_gt (rc_near hr).1]
  unfold plateM
  cases fgt (a 9) 0
  · rfl
  · rfl
theorem sm5:FSpec Tryz.prog 46 [SH 5 a sk] (iA (e5 a sk)):=by
  refine gspec R6_ok (k_cons kS_ok k_nil) Tryz.func46 (by kernel_rfl) (by kernel_rfl) noL_ok rfl ((sm5_ev a sk (tubeB a (zB a))).trans (smX_go fun hr=>?_))
  rw [not_gt (rc_near hr).1,aiS_neg]
  unfold tubeM
  cases ho:axO (a 3) (a 4) (a 5)
  · cases fgt (a 9) 0<;>rfl
  · rw [smZ_pos (ar5 a sk ho)]
    cases fgt (a 9) 0<;>rfl
theorem sm6:FSpec Tryz.prog 46 [SH 6 a sk] (iA (e6 a sk)):=by
  refine gspec R6_ok (k_cons kS_ok k_nil) Tryz.func46 (by kernel_rfl) (by kernel_rfl) noL_ok rfl ((sm6_ev a sk (ringB a (zB a))).trans (smX_go fun hr=>?_))
  rw [not_gt (rc_near hr).2,aiS_neg]
  unfold ringM
  rw [fge_not (near_nan (rc_near hr).1) (near_nan (rc_near hr).2)]
  cases ho:axO (a 3) (a 4) (a 5)
  · cases fgt (a 10) 0<;>cases flt (a 9) (a 10)<;>rfl
  · rw [smZ_pos (ar6 a sk ho)]
    cases fgt (a 10) 0<;>cases flt (a 9) (a 10)<;>rfl
theorem sm0 {k:Int} (h:kOther k):FSpec Tryz.prog 46 [SH k a sk] (iA (e0 a sk)):=by
  obtain ⟨h1,h2,h3,h4,h5,h6⟩:=h
  refine gspec R6_ok (k_cons kS_ok k_nil) Tryz.func46 (by kernel_rfl) (by kernel_rfl) noL_ok rfl ((sm0_ev a sk k z6).trans ?_)
  rw [beq_false_of_ne h1,beq_false_of_ne h2,beq_false_of_ne h3,beq_false_of_ne h4,beq_false_of_ne h5,beq_false_of_ne h6]
  unfold smX e0 aiR
  cases skB sk<;>cases rcB a<;>rfl
end
section
variable (k:Int) (a:Nat→Nat) (sk:Int) (e:Int) (b:Nat→Nat)
end
end Go.Proofs.YtefphimaggjihaaGreatDoor.Hs

namespace Go.Proofs.YtefphimaggjihaaGreatDoor.Hs
open Go.Gv
open Go.Ev (cn fadd fsub fmul fdiv fsqrt fneg feq flt fle fgt fge fabs isNan)

abbrev shC (k:Int) (a:Nat→Nat) (sk:Int):List AV:=[iA k,.f (a 0),.f (a 1),.f (a 2),.f (a 3),.f (a 4),.f (a 5),.f (a 6),.f (a 7),.f (a 8),.f (a 9),.f (a 10),iA sk]
/-- What of the cells of a shape that may be can be said: its numbers are near, its kind and its skin are. -/
def ShFine:List AV→Prop
  | [.x (.int .i64 k),.f a0,.f a1,.f a2,.f a3,.f a4,.f a5,.f a6,.f a7,.f a8,.f a9,.f a10,.x (.int .i64 sk)]=>rcB (ls [a0,a1,a2,a3,a4,a5,a6,a7,a8,a9,a10])=false∧(1≤k∧k≤6)∧0≤sk∧sk < 16
  | _=>False
def MayOk (c:List AV) (m:Int):Prop:=FSpec Tryz.prog 98 [.agg c] (iA m)∧FSpec Tryz.prog 46 [.agg c] (iA m)∧(m=0→ShFine c)
theorem skB_rng {sk:Int} (h:skB sk=false):0≤sk∧sk < 16:=by
  unfold skB at h
  by_cases h1:sk < 0
  · rw [decide_eq_true h1] at h; cases h
  · rw [decide_eq_false h1,cond_false] at h
    have:=of_decide_eq_false h
    omega
theorem knE_rc {k:Int} {a:Nat→Nat} {sk m:Int} {b:Nat→Nat} (hk:1≤k∧k≤6) (h:knE a sk m b=0):ShFine (shC k a sk):=by
  unfold knE at h
  cases h1:skB sk
  · cases h2:rcB a
    · exact ⟨h2,hk,skB_rng h1⟩
    · rw [h1,h2] at h; cases h
  · rw [h1] at h; cases h
theorem e0_not (a:Nat→Nat) (sk:Int):e0 a sk≠0:=by
  unfold e0
  cases skB sk<;>cases rcB a<;>decide
theorem may_all (k:Int) (a:Nat→Nat) (sk:Int):∃ m,MayOk (shC k a sk) m:=by
  by_cases h1:k=1
  · subst h1
    have sm:=sm1 a sk
    by_cases h:e1 a sk=0
    · rw [h] at sm; exact ⟨0,may_g (kn1_good a sk h),sm,fun _=>knE_rc (by decide) h⟩
    · exact ⟨_,may_b (kn1_bad a sk h),sm,fun he=>absurd he h⟩
  by_cases h2:k=2
  · subst h2
    have sm:=sm2 a sk
    by_cases h:e2 a sk=0
    · rw [h] at sm; exact ⟨0,may_g (kn2_good a sk h),sm,fun _=>knE_rc (by decide) h⟩
    · exact ⟨_,may_b (kn2_bad a sk h),sm,fun he=>absurd he h⟩
  by_cases h3:k=3
  · subst h3
    have sm:=sm3 a sk
    by_cases h:e3 a sk=0
    · rw [h] at sm; exact ⟨0,may_g (kn3_good a sk h),sm,fun _=>knE_rc (by decide) h⟩
    · exact ⟨_,may_b (kn3_bad a sk h),sm,fun he=>absurd he h⟩
  by_cases h4:k=4
  · subst h4
    have sm:=sm4 a sk
    by_cases h:e4 a sk=0
    · rw [h] at sm; exact ⟨0,may_g (kn4_good a sk h),sm,fun _=>knE_rc (by decide) h⟩
    · exact ⟨_,may_b (kn4_bad a sk h),sm,fun he=>absurd he h⟩
  by_cases h5:k=5
  · subst h5
    have sm:=sm5 a sk
    by_cases h:e5 a sk=0
    · rw [h] at sm; exact ⟨0,may_g (kn5_good a sk h),sm,fun _=>knE_rc (by decide) h⟩
    · exact ⟨_,may_b (kn5_bad a sk h),sm,fun he=>absurd he h⟩
  by_cases h6:k=6
  · subst h6
    have sm:=sm6 a sk
    by_cases h:e6 a sk=0
    · rw [h] at sm; exact ⟨0,may_g (kn6_good a sk h),sm,fun _=>knE_rc (by decide) h⟩
    · exact ⟨_,may_b (kn6_bad a sk h),sm,fun he=>absurd he h⟩
  exact ⟨_,may_b (kn0_bad ⟨h1,h2,h3,h4,h5,h6⟩ a sk),sm0 a sk ⟨h1,h2,h3,h4,h5,h6⟩,fun he=>absurd he (e0_not a sk)⟩
open Classical in
/-- What May says of the cells of a shape. -/
noncomputable def mayC (c:List AV):Int:=if h:∃ m,MayOk c m then h.choose else 0
theorem mayC_spec (k:Int) (a:Nat→Nat) (sk:Int):FSpec Tryz.prog 98 [SH k a sk] (iA (mayC (shC k a sk)))∧FSpec Tryz.prog 46 [SH k a sk] (iA (mayC (shC k a sk))):=by
  unfold mayC
  rw [dif_pos (may_all k a sk)]
  exact ⟨(may_all k a sk).choose_spec.1,(may_all k a sk).choose_spec.2.1⟩
theorem mayC_near {k:Int} {a:Nat→Nat} {sk:Int} (h:mayC (shC k a sk)=0):rcB a=false∧(1≤k∧k≤6)∧0≤sk∧sk < 16:=by
  unfold mayC at h
  rw [dif_pos (may_all k a sk)] at h
  exact (may_all k a sk).choose_spec.2.2 h
end Go.Proofs.YtefphimaggjihaaGreatDoor.Hs

namespace Go.Proofs.YtefphimaggjihaaGreatDoor.Hs.So
open Go.Gv
open Go.Ev (cn fadd fsub fmul fdiv fsqrt fneg feq flt fle fgt fge fabs isNan)

structure Prt where
  op:Int
  l:Int
  r:Int
  k:Int
  a:Nat→Nat
  sk:Int
def Prt.s (p:Prt):List AV:=shC p.k p.a p.sk
def Prt.c (p:Prt):List AV:=[iA p.op,iA p.l,iA p.r,iA p.k,.f (p.a 0),.f (p.a 1),.f (p.a 2),.f (p.a 3),.f (p.a 4),.f (p.a 5),.f (p.a 6),.f (p.a 7),.f (p.a 8),.f (p.a 9),.f (p.a 10),iA p.sk]
def prS (n:Nat) (P:Nat→Prt):AV:=.sl 16 n fun i=>(P i).c
def soC (n:Nat) (P:Nat→Prt) (sn:Int):List AV:=[prS n P,iA sn]
/-- An entry that takes the cells of a shape. -/
def eSc (g:List AV→AV):List AV→Option AV
  | [.agg [.x (.int .i64 k),.f a0,.f a1,.f a2,.f a3,.f a4,.f a5,.f a6,.f a7,.f a8,.f a9,.f a10,.x (.int .i64 sk)]]=>some (g [.x (.int .i64 k),.f a0,.f a1,.f a2,.f a3,.f a4,.f a5,.f a6,.f a7,.f a8,.f a9,.f a10,.x (.int .i64 sk)])
  | _=>none
theorem eSc_ok {f:Nat} {g:List AV→AV} (h:∀ k a sk,FSpec Tryz.prog f [SH k a sk] (g (shC k a sk))):EOk Tryz.prog ⟨f,eSc g⟩:=fun args r hr=>by
  simp only [eSc] at hr
  split at hr
  · cases hr; exact Or.inl (h _ (ls [_,_,_,_,_,_,_,_,_,_,_]) _)
  · cases hr
def kin (k:Int):Bool:=(k==1)||((k==2)||(k==5))
def ktT {α:Type} (k:Int) (z t:α):α:=cond (k==1) (cond (k==1) z t) (cond (k==2) (cond (k==2) z t) (cond (k==5) z t))
theorem ktT_eq {α:Type} (k:Int) (z t:α):ktT k z t=cond (kin k) z t:=by
  unfold ktT kin
  cases k==1<;>cases k==2<;>cases k==5<;>rfl
section
variable (mf:List AV→Int) (k:Int) (a:Nat→Nat) (sk:Int)
def mlE (m k:Int):Int:=cond (!(m==0)) m (cond (kin k) 0 3)
theorem ml_ev:ev Tryz.prog [⟨98,eSc fun c=>iA (mf c)⟩] [] noL Tryz.f160 [SH k a sk] ret=cond (!(mf (shC k a sk)==0)) (aiR (mf (shC k a sk))) (ktT k (aiR 0) (aiR 3)):=by kernel_rfl
end
theorem eMay_ok:EOk Tryz.prog ⟨98,eSc fun c=>iA (mayC c)⟩:=eSc_ok fun k a sk=>(mayC_spec k a sk).1
theorem eMayR_ok:EOk Tryz.prog ⟨46,eSc fun c=>iA (mayC c)⟩:=eSc_ok fun k a sk=>(mayC_spec k a sk).2
theorem sml (k:Int) (a:Nat→Nat) (sk:Int):FSpec Tryz.prog 160 [SH k a sk] (iA (mlE (mayC (shC k a sk)) k)):=by
  refine sp (e_cons eMay_ok e_nil) Tryz.func160 (by kernel_rfl) (by kernel_rfl) rfl ((ml_ev mayC k a sk).trans ?_)
  rw [ktT_eq]
  unfold mlE aiR
  cases (mayC (shC k a sk)==0)<;>cases kin k<;>rfl
/-- Which kind the cells of a shape are of. -/
def kOfC:List AV→Int
  | .x (.int .i64 k)::_=>k
  | _=>0
theorem eMl_ok:EOk Tryz.prog ⟨160,eSc fun c=>iA (mlE (mayC c) (kOfC c))⟩:=eSc_ok fun k a sk=>sml k a sk
def nmB (l r i:Int):Bool:=cond (cond (cond (decide (l < 0)) true (decide (l ≥ i))) true (decide (r < 0))) true (decide (r ≥ i))
def opT {α:Type} (o:Int) (z t:α):α:=cond (o==1) (cond (o==1) z t) (cond (o==2) (cond (o==2) z t) (cond (o==3) z t))
def opB (o:Int):Bool:=(o==1)||((o==2)||(o==3))
theorem opT_eq {α:Type} (o:Int) (z t:α):opT o z t=cond (opB o) z t:=by
  unfold opT opB
  cases o==1<;>cases o==2<;>cases o==3<;>rfl
/-- The errno of a part with so many ahead of it. -/
noncomputable def ppE (p:Prt) (i:Int):Int:=cond (p.op==0) (mlE (mayC p.s) p.k) (cond (opB p.op) (cond (nmB p.l p.r i) 9 0) 11)
theorem mp_ev (g:List AV→Int) (p:Prt) (i:Int):ev Tryz.prog [⟨160,eSc fun c=>iA (g c)⟩] [] noL Tryz.f137 [.agg p.c,iA i] ret=cond (p.op==0) (aiR (g p.s)) (opT p.op (cond (nmB p.l p.r i) (aiR 9) (aiR 0)) (aiR 11)):=by kernel_rfl
theorem smp (p:Prt) (i:Int):FSpec Tryz.prog 137 [.agg p.c,iA i] (iA (ppE p i)):=by
  refine sp (e_cons eMl_ok e_nil) Tryz.func137 (by kernel_rfl) (by kernel_rfl) rfl ((mp_ev (fun c=>mlE (mayC c) (kOfC c)) p i).trans ?_)
  rw [opT_eq]
  unfold ppE aiR
  show cond (p.op==0) (some (Out.of (iA (mlE (mayC p.s) p.k)))) _=_
  cases p.op==0<;>cases opB p.op<;>cases nmB p.l p.r i<;>rfl
def seqE (fb:Nat→Int):Nat→Int
  | 0=>0
  | i+1=>cond (seqE fb i==0) (fb i) (seqE fb i)
theorem seq_all {fb:Nat→Int}:∀ n,(∀ i,i < n→fb i=0)→seqE fb n=0
  | 0,_=>rfl
  | n+1,h=>by
    show cond (seqE fb n==0) (fb n) (seqE fb n)=0
    rw [seq_all n fun i hi=>h i (by omega),h n (by omega)]
    rfl
theorem seq_first {fb:Nat→Int} {K:Nat} (hK:fb K≠0) (h:∀ i,i < K→fb i=0):∀ n,K < n→seqE fb n=fb K
  | 0,hn=>absurd hn (Nat.not_lt_zero _)
  | n+1,hn=>by
    show cond (seqE fb n==0) (fb n) (seqE fb n)=_
    by_cases e:K=n
    · subst e; rw [seq_all K h]; rfl
    · rw [seq_first hK h n (by omega),beq_false_of_ne hK]; rfl
theorem seq_zero {fb:Nat→Int}:∀ n,seqE fb n=0→∀ i,i < n→fb i=0
  | 0,_,i,hi=>absurd hi (Nat.not_lt_zero i)
  | n + 1,h,i,hi=>by
    have h:cond (seqE fb n==0) (fb n) (seqE fb n)=0:=h
    by_cases h0:seqE fb n=0
    · rw [h0] at h
      have h:fb n=0:=h
      by_cases e:i=n
      · subst e; exact h
      · exact seq_zero n h0 i (by omega)
    · rw [beq_false_of_ne h0] at h; exact absurd h h0
noncomputable def paE (P:Nat→Prt) (i:Nat):Int:=ppE (P i) (i:Nat)
def soX (n:Nat) (sn:Int) (R:Option Out):Option Out:=cond (cond (decide ((n:Int) < 1)) true (decide ((n:Int) > 16))) (aiR 5) (cond (skB sn) (aiR 4) R)
/-- The errno of a solid. -/
noncomputable def soE (n:Nat) (P:Nat→Prt) (sn:Int):Int:=cond (cond (decide ((n:Int) < 1)) true (decide ((n:Int) > 16))) 5 (cond (skB sn) 4 (seqE (paE P) n))
theorem soX_eq {n:Nat} {P:Nat→Prt} {sn:Int} {R:Option Out} (h:1≤n→n≤16→R=aiR (seqE (paE P) n)):soX n sn R=some (Out.of (iA (soE n P sn))):=by
  unfold soX soE
  by_cases h1:n < 1
  · rw [decide_eq_true (show (n:Int) < 1 by omega)]; rfl
  · by_cases h2:16 < n
    · rw [decide_eq_false (show ¬ (n:Int) < 1 by omega),decide_eq_true (show (n:Int) > 16 by omega)]; rfl
    · rw [decide_eq_false (show ¬ (n:Int) < 1 by omega),decide_eq_false (show ¬ (n:Int) > 16 by omega),h (by omega) (by omega)]
      unfold aiR
      cases skB sn<;>rfl
def smS (n:Nat) (P:Nat→Prt) (i:Int):St:=mkS 39 [(25,prS n P),(26,iA n),(27,iA i)] []
def smE' (e:Int):St:=mkS 39 [(2,iA e)] []
def eMp (g:List AV→Int→Int):List AV→Option AV
  | [.agg [.x (.int .i64 o),.x (.int .i64 l),.x (.int .i64 r),.x (.int .i64 k),.f a0,.f a1,.f a2,.f a3,.f a4,.f a5,.f a6,.f a7,.f a8,.f a9,.f a10,.x (.int .i64 sk)],.x (.int .i64 i)]=>some (iA (g [.x (.int .i64 o),.x (.int .i64 l),.x (.int .i64 r),.x (.int .i64 k),.f a0,.f a1,.f a2,.f a3,.f a4,.f a5,.f a6,.f a7,.f a8,.f a9,.f a10,.x (.int .i64 sk)] i))
  | _=>none
def decP:List AV→Prt
  | [.x (.int .i64 o),.x (.int .i64 l),.x (.int .i64 r),.x (.int .i64 k),.f a0,.f a1,.f a2,.f a3,.f a4,.f a5,.f a6,.f a7,.f a8,.f a9,.f a10,.x (.int .i64 sk)]=>⟨o,l,r,k,ls [a0,a1,a2,a3,a4,a5,a6,a7,a8,a9,a10],sk⟩
  | _=>⟨0,0,0,0,fun _=>0,0⟩
noncomputable def mpG (c:List AV) (i:Int):Int:=ppE (decP c) i
theorem mpG_eq (p:Prt) (i:Int):mpG p.c i=ppE p i:=rfl
theorem eMp_ok:EOk Tryz.prog ⟨137,eMp mpG⟩:=fun args r hr=>by
  simp only [eMp] at hr
  split at hr
  · cases hr; exact Or.inl (smp ⟨_,_,_,_,ls [_,_,_,_,_,_,_,_,_,_,_],_⟩ _)
  · cases hr
section
variable (g:List AV→Int→Int) (n:Nat) (P:Nat→Prt) (i:Int) (sn:Int)
def smC (o ob oe:Option Out):Option Out:=cond (decide (i < n)) (cond (ixB i n||false) (cond (!(g (P i.toNat).c i==0)) ob o) none) oe
theorem sm_step:evC Tryz.prog [⟨137,eMp g⟩] [] noL (loopAt Tryz.f99 0) (smS n P i) (finN [25,26,27] [])=smC g n P i (some ⟨.normal,smS n P (w64 (i+1)),.any⟩) none none:=by kernel_rfl
theorem sm_ret:evC Tryz.prog [⟨137,eMp g⟩] [] noL (loopAt Tryz.f99 0) (smS n P i) (finR [2] [])=smC g n P i none (some ⟨.ret,smE' (g (P i.toNat).c i),.any⟩) none:=by kernel_rfl
theorem sm_end:evC Tryz.prog [⟨137,eMp g⟩] [] noL (loopAt Tryz.f99 0) (smS n P i) (finE [25,26,27] [])=smC g n P i none none (some ⟨.exit 0,smS n P i,.any⟩):=by kernel_rfl
theorem sm_evG (j:Int):ev Tryz.prog [⟨137,eMp g⟩] [] (oneL 6 (toldF [25,26,27] [] (smS n P 0) (.exit 0) (smS n P j))) Tryz.f99 [.agg (soC n P sn)] ret=soX n sn (gate (Sub (smS n P 0) (smS n P 0)) (aiR 0)):=by kernel_rfl
theorem sm_evR (e:Int):ev Tryz.prog [⟨137,eMp g⟩] [] (oneL 6 (toldF [25,26,27] [] (smS n P 0) .ret (smE' e))) Tryz.f99 [.agg (soC n P sn)] ret=soX n sn (gate (Sub (smS n P 0) (smS n P 0)) (aiR e)):=by kernel_rfl
theorem sm_ev0:ev Tryz.prog [⟨137,eMp g⟩] [] (oneL 6 fun _ _=>none) Tryz.f99 [.agg (soC n P sn)] ret=soX n sn none:=by kernel_rfl
end
theorem smay_spec (n:Nat) (P:Nat→Prt) (sn:Int):FSpec Tryz.prog 99 [.agg (soC n P sn)] (iA (soE n P sn)):=by
  have en:=e_cons eMp_ok e_nil
  by_cases hc:n < 1∨16 < n
  · exact gspec en k_nil Tryz.func99 (by kernel_rfl) (by kernel_rfl) (lok_none 6) rfl ((sm_ev0 mpG n P sn).trans (soX_eq fun h1 h2=>absurd hc (by omega)))
  · have go:∀ k,k < n→paE P k=0→Leads Tryz.prog (loopAt Tryz.f99 0) (smS n P (k:Nat)) .normal (smS n P ((k+1:Nat):Int)):=fun k hk hb=>by
      refine leads_ev (finN_sub _ _) en k_nil noL_ok ((sm_step mpG n P (k:Nat)).trans ?_)
      unfold smC
      rw [dec_lt hk,ixB_t hk,Int.toNat_natCast,mpG_eq,show ppE (P k) (k:Nat)=0 from hb,w64_next (by omega)]
      rfl
    rcases all_or_first (fun i=>paE P i==0) n with hl | ⟨K,hK,hp,hq⟩
    · have hl':∀ i,i < n→paE P i=0:=fun i hi=>by simpa using hl i hi
      have lead:Leads Tryz.prog (.loop (loopAt Tryz.f99 0)) (smS n P 0) (.exit 0) (smS n P (n:Nat)):=by
        refine loop_rule (fun k=>smS n P (k:Nat)) n (.exit 0) _ (by simp) (fun k hk=>go k hk (hl' k hk)) ?_
        refine leads_ev (finE_sub _ _) en k_nil noL_ok ((sm_end mpG n P (n:Nat)).trans ?_)
        unfold smC
        rw [dec_self,cond_false]
      refine gspec en k_nil Tryz.func99 (by kernel_rfl) (by kernel_rfl) (lok_at (i:=6) 0 1 (by kernel_rfl) (by kernel_rfl) (toldF_sound (keep:=[25,26,27]) (τ:=[]) lead)) rfl ((sm_evG mpG n P sn (n:Nat)).trans (soX_eq fun _ _=>?_))
      rw [gate_pos (Sub.refl _),seq_all n hl']
    · have hb:paE P K≠0:=by simpa using hp
      have hq':∀ i,i < K→paE P i=0:=fun i hi=>by simpa using hq i hi
      have lead:Leads Tryz.prog (.loop (loopAt Tryz.f99 0)) (smS n P 0) .ret (smE' (paE P K)):=by
        refine loop_rule (fun k=>smS n P (k:Nat)) K .ret _ (by simp) (fun k hk=>go k (by omega) (hq' k hk)) ?_
        refine leads_ev (finR_sub _ _) en k_nil noL_ok ((sm_ret mpG n P (K:Nat)).trans ?_)
        unfold smC
        rw [dec_lt hK,ixB_t hK,Int.toNat_natCast,mpG_eq,beq_false_of_ne (show ppE (P K) (K:Nat)≠0 from hb)]
        rfl
      refine gspec en k_nil Tryz.func99 (by kernel_rfl) (by kernel_rfl) (lok_at (i:=6) 0 1 (by kernel_rfl) (by kernel_rfl) (toldF_sound (keep:=[25,26,27]) (τ:=[]) lead)) rfl ((sm_evR mpG n P sn (paE P K)).trans (soX_eq fun _ _=>?_))
      rw [gate_pos (Sub.refl _),seq_first hb hq' n hK]
def amS (n:Nat) (P:Nat→Prt) (sn:Int) (i:Int):St:=mkS 89 [(1,.own 0 0),(3,iA i)] [.c (soC n P sn)]
def amE (e:Int):St:=mkS 89 [(2,iA e)] []
section
variable (mf:List AV→Int) (n:Nat) (P:Nat→Prt) (sn:Int) (i:Int)
def knB (k:Int):Bool:=cond (cond (!(k==1)) (!(k==2)) false) (!(k==5)) false
def amC (p:Prt) (r:Int→Option Out) (o:Option Out):Option Out:=cond (cond (decide (p.op < 0)) true (decide (p.op > 3))) (r 11) (cond (decide (p.op > 0)) (cond (nmB p.l p.r i) (r 9) o) (cond (!(mf p.s==0)) (r (mf p.s)) (cond (knB p.k) (r 3) o)))
def amX (r:Int→Option Out) (o oe:Option Out):Option Out:=cond (decide (i < n)) (cond (ixB i n||false) (amC mf i (P i.toNat) r o) none) oe
theorem am_step:evC Tryz.prog [⟨46,eSc fun c=>iA (mf c)⟩] [] noL (loopAt Tryz.f47 0) (amS n P sn i) (finN [1,3] [some 0])=amX mf n P i (fun _=>none) (some ⟨.normal,amS n P sn (w64 (i+1)),.any⟩) none:=by kernel_rfl
theorem am_ret:evC Tryz.prog [⟨46,eSc fun c=>iA (mf c)⟩] [] noL (loopAt Tryz.f47 0) (amS n P sn i) (finR [2] [])=amX mf n P i (fun e=>some ⟨.ret,amE e,.any⟩) none none:=by kernel_rfl
theorem am_end:evC Tryz.prog [⟨46,eSc fun c=>iA (mf c)⟩] [] noL (loopAt Tryz.f47 0) (amS n P sn i) (finE [1,3] [some 0])=amX mf n P i (fun _=>none) none (some ⟨.exit 0,amS n P sn i,.any⟩):=by kernel_rfl
theorem am_evG (j:Int):ev Tryz.prog [⟨46,eSc fun c=>iA (mf c)⟩] [] (oneL 6 (toldF [1,3] [some 0] (amS n P sn 0) (.exit 0) (amS n P sn j))) Tryz.f47 [.agg (soC n P sn)] ret=soX n sn (gate (Sub (amS n P sn 0) (amS n P sn 0)) (aiR 0)):=by kernel_rfl
theorem am_evR (e:Int):ev Tryz.prog [⟨46,eSc fun c=>iA (mf c)⟩] [] (oneL 6 (toldF [1,3] [some 0] (amS n P sn 0) .ret (amE e))) Tryz.f47 [.agg (soC n P sn)] ret=soX n sn (gate (Sub (amS n P sn 0) (amS n P sn 0)) (aiR e)):=by kernel_rfl
theorem am_ev0:ev Tryz.prog [⟨46,eSc fun c=>iA (mf c)⟩] [] (oneL 6 fun _ _=>none) Tryz.f47 [.agg (soC n P sn)] ret=soX n sn none:=by kernel_rfl
end
theorem knB_eq (k:Int):knB k=!kin k:=by
  unfold knB kin
  cases k==1<;>cases k==2<;>cases k==5<;>rfl
theorem amC_eq (p:Prt) (i:Int) (r:Int→Option Out) (o:Option Out):amC mayC i p r o=cond (ppE p i==0) o (r (ppE p i)):=by
  unfold amC ppE mlE
  rw [knB_eq]
  by_cases h0:p.op=0
  · rw [h0]
    cases hm:(mayC p.s==0)
    · have:mayC p.s≠0:=fun e=>by rw [e] at hm; cases hm
      show r (mayC p.s)=cond (mayC p.s==0) o (r (mayC p.s))
      rw [hm]; rfl
    · cases kin p.k<;>rfl
  · have hb:(p.op==0)=false:=beq_false_of_ne h0
    rw [hb]
    by_cases h1:p.op=1∨p.op=2∨p.op=3
    · rw [decide_eq_false (show ¬ p.op < 0 by omega),decide_eq_false (show ¬ p.op > 3 by omega),decide_eq_true (show p.op > 0 by omega)]
      have:opB p.op=true:=by rcases h1 with h | h | h<;>rw [h]<;>rfl
      rw [this]
      cases nmB p.l p.r i<;>rfl
    · have h2:opB p.op=false:=by
        unfold opB
        rw [beq_false_of_ne (show p.op≠1 by omega),beq_false_of_ne (show p.op≠2 by omega),beq_false_of_ne (show p.op≠3 by omega)]; rfl
      rw [h2]
      by_cases h3:p.op < 0
      · rw [decide_eq_true h3]; rfl
      · rw [decide_eq_false h3,decide_eq_true (show p.op > 3 by omega)]; rfl
theorem rsmay_spec (n:Nat) (P:Nat→Prt) (sn:Int):FSpec Tryz.prog 47 [.agg (soC n P sn)] (iA (soE n P sn)):=by
  have en:=e_cons eMayR_ok e_nil
  by_cases hc:n < 1∨16 < n
  · exact gspec en k_nil Tryz.func47 (by kernel_rfl) (by kernel_rfl) (lok_none 6) rfl ((am_ev0 mayC n P sn).trans (soX_eq fun h1 h2=>absurd hc (by omega)))
  · have go:∀ k,k < n→paE P k=0→Leads Tryz.prog (loopAt Tryz.f47 0) (amS n P sn (k:Nat)) .normal (amS n P sn ((k+1:Nat):Int)):=fun k hk hb=>by
      refine leads_ev (finN_sub _ _) en k_nil noL_ok ((am_step mayC n P sn (k:Nat)).trans ?_)
      unfold amX
      rw [dec_lt hk,ixB_t hk,Int.toNat_natCast,amC_eq,show ppE (P k) (k:Nat)=0 from hb,w64_next (by omega)]
      rfl
    rcases all_or_first (fun i=>paE P i==0) n with hl | ⟨K,hK,hp,hq⟩
    · have hl':∀ i,i < n→paE P i=0:=fun i hi=>by simpa using hl i hi
      have lead:Leads Tryz.prog (.loop (loopAt Tryz.f47 0)) (amS n P sn 0) (.exit 0) (amS n P sn (n:Nat)):=by
        refine loop_rule (fun k=>amS n P sn (k:Nat)) n (.exit 0) _ (by simp) (fun k hk=>go k hk (hl' k hk)) ?_
        refine leads_ev (finE_sub _ _) en k_nil noL_ok ((am_end mayC n P sn (n:Nat)).trans ?_)
        unfold amX
        rw [dec_self,cond_false]
      refine gspec en k_nil Tryz.func47 (by kernel_rfl) (by kernel_rfl) (lok_at (i:=6) 0 1 (by kernel_rfl) (by kernel_rfl) (toldF_sound (keep:=[1,3]) (τ:=[some 0]) lead)) rfl ((am_evG mayC n P sn (n:Nat)).trans (soX_eq fun _ _=>?_))
      rw [gate_pos (Sub.refl _),seq_all n hl']
    · have hb:paE P K≠0:=by simpa using hp
      have hq':∀ i,i < K→paE P i=0:=fun i hi=>by simpa using hq i hi
      have lead:Leads Tryz.prog (.loop (loopAt Tryz.f47 0)) (amS n P sn 0) .ret (amE (paE P K)):=by
        refine loop_rule (fun k=>amS n P sn (k:Nat)) K .ret _ (by simp) (fun k hk=>go k (by omega) (hq' k hk)) ?_
        refine leads_ev (finR_sub _ _) en k_nil noL_ok ((am_ret mayC n P sn (K:Nat)).trans ?_)
        unfold amX
        rw [dec_lt hK,ixB_t hK,Int.toNat_natCast,amC_eq,beq_false_of_ne (show ppE (P K) (K:Nat)≠0 from hb)]
        rfl
      refine gspec en k_nil Tryz.func47 (by kernel_rfl) (by kernel_rfl) (lok_at (i:=6) 0 1 (by kernel_rfl) (by kernel_rfl) (toldF_sound (keep:=[1,3]) (τ:=[some 0]) lead)) rfl ((am_evR mayC n P sn (paE P K)).trans (soX_eq fun _ _=>?_))
      rw [gate_pos (Sub.refl _),seq_first hb hq' n hK]
end Go.Proofs.YtefphimaggjihaaGreatDoor.Hs.So

namespace Go.Proofs.YtefphimaggjihaaGreatDoor.Hs.Fm
open Go.Gv
open Go.Ev (cn fadd fsub fmul fdiv feq flt fle fgt fge)

def itof (n:Int):Nat:=cn (FloatKind.f64.nearest n)
def c3 (p:Nat→Nat):List AV:=[.f (p 0),.f (p 1),.f (p 2)]
def c6 (b:Nat→Nat):List AV:=[.f (b 0),.f (b 1),.f (b 2),.f (b 3),.f (b 4),.f (b 5)]
def pp (p:Nat→Nat):Nat→Nat:=ls [p 0,p 1,p 2,p 0,p 1,p 2]
def boxQ (p:Nat→Nat→Nat):Nat→Nat→Nat
  | 0=>pp (p 0)
  | q+1=>joinS (boxQ p q) (pp (p q))
def z6:List AV:=[.f 0,.f 0,.f 0,.f 0,.f 0,.f 0]
def aroundS (n:Nat) (p:Nat→Nat→Nat) (q:Int) (b:Nat→Nat):St:=mkS 26 [(2,.own 0 0),(3,.own 1 0),(13,.sl 3 n fun q=>c3 (p q)),(14,iA n),(15,iA q)] [.c z6,.c (c6 b)]
def keepA:List Nat:=[2,3,13,14,15]
theorem around_step (n:Nat) (p:Nat→Nat→Nat) (q:Int) (b:Nat→Nat):evC Tryz.prog V4 [] noL (loopAt Tryz.f163 0) (aroundS n p q b) (finN keepA [some 0,some 1]) =
    cond (decide (q < (n:Int))) (cond ((decide (0≤q)&&decide (q < (n:Int)))&&true) (some ⟨.normal,aroundS n p (w64 (q+1)) (joinS b (pp (p q.toNat))),.any⟩) none) none:=by kernel_rfl
theorem around_end (n:Nat) (p:Nat→Nat→Nat) (q:Int) (b:Nat→Nat):evC Tryz.prog V4 [] noL (loopAt Tryz.f163 0) (aroundS n p q b) (finX keepA [some 0,some 1]) =
    cond (decide (q < (n:Int))) (cond ((decide (0≤q)&&decide (q < (n:Int)))&&true) none none) (some ⟨.exit 0,aroundS n p q b,.any⟩):=by kernel_rfl
theorem dec_nonneg (n:Nat):decide (0≤(n:Int))=true:=decide_eq_true (Int.natCast_nonneg _)
theorem dec_lt {a b:Nat} (h:a < b):decide ((a:Int) < (b:Int))=true:=decide_eq_true (by omega)
theorem dec_self (a:Nat):decide ((a:Int) < (a:Int))=false:=decide_eq_false (by omega)
theorem w64_next {n:Nat} (h:n < 4611686018427387904):w64 ((n:Int)+1)=((n+1:Nat):Int):=by rw [w64_id (by omega) (by omega)]; omega
theorem around_leads (n:Nat) (p:Nat→Nat→Nat) (hn:n < 4611686018427387904):Leads Tryz.prog (.loop (loopAt Tryz.f163 0)) (aroundS n p 0 (boxQ p 0)) (.exit 0) (aroundS n p n (boxQ p n)):=by
  refine loop_rule (fun q=>aroundS n p (q:Nat) (boxQ p q)) n (.exit 0) _ (by simp) (fun q hq=>?_) ?_
  · refine leads_ev (finN_sub keepA [some 0,some 1]) V4_ok k_nil noL_ok ?_
    rw [around_step,dec_lt hq,dec_nonneg,w64_next (by omega)]
    rfl
  · refine leads_ev (finX_sub keepA [some 0,some 1]) V4_ok k_nil noL_ok ?_
    rw [around_end,dec_self]
    rfl
noncomputable def aroundL (n:Nat) (p:Nat→Nat→Nat):Nat→Option LFun:=oneL 3 (toldF keepA [some 0,some 1] (aroundS n p 0 (boxQ p 0)) (.exit 0) (aroundS n p n (boxQ p n)))
theorem aroundL_ok (n:Nat) (p:Nat→Nat→Nat) (hn:n < 4611686018427387904):LOk Tryz.prog (aroundL n p) (bodyOf Tryz.f163) :=
  lok_one (i:=3) 1 (by kernel_rfl) fun j hj _=>by
    have:j=0:=by omega
    subst this
    exact toldF_sound (around_leads n p hn)
theorem around_ev (n:Nat) (p:Nat→Nat→Nat):ev Tryz.prog V4 [] (aroundL n p) Tryz.f163 [.sl 3 n fun q=>c3 (p q)] ret =
    cond ((decide ((0:Int) < (n:Int))||false)&&((decide ((0:Int) < (n:Int))||false)&&true)) (gate (Sub (aroundS n p 0 (boxQ p 0)) (aroundS n p 0 (boxQ p 0))) (some (Out.of (.agg (c6 (boxQ p n)))))) none:=by kernel_rfl
theorem around_spec {n:Nat} (p:Nat→Nat→Nat) (h0:0 < n) (hn:n < 4611686018427387904):FSpec Tryz.prog 163 [.sl 3 n fun q=>c3 (p q)] (.agg (c6 (boxQ p n))):=by
  refine gspec V4_ok k_nil Tryz.func163 (by kernel_rfl) (by kernel_rfl) (aroundL_ok n p hn) rfl ?_
  rw [around_ev,decide_eq_true (show (0:Int) < (n:Int) by omega),gate_pos (Sub.refl _)]
  rfl

structure Fd where
  W:Int
  H:Int
  at_:Nat→Nat
  sd:Nat
  n:Nat
  hs:Nat→Int
  sk:Int
def Fd.c (F:Fd):List AV:=[iA F.W,iA F.H,.f (F.at_ 0),.f (F.at_ 1),.f (F.at_ 2),.f F.sd,.sl 1 F.n (fun i=>[iA (F.hs i)]),iA F.sk]
def mayLS (F:Fd) (r q:Int):St:=mkS 68 [(1,.own 0 0),(2,iA r),(55,.sl 1 F.n (fun i=>[iA (F.hs i)])),(56,iA F.n),(57,iA q)] [.c F.c]
def keepM:List Nat:=[1,2,55,56,57]

def hBad (h:Int):Bool:=cond (decide (h < -1000000)) true (decide (h > 1000000))
theorem mayL_step (F:Fd) (q:Int):evC Tryz.prog V4 [] noL (loopAt Tryz.f161 0) (mayLS F 0 q) (finN keepM [some 0]) =
    cond (decide (q < (F.n:Int))) (cond ((decide (0≤q)&&decide (q < (F.n:Int)))&&true) (cond (hBad (F.hs q.toNat)) none (some ⟨.normal,mayLS F 0 (w64 (q+1)),.any⟩)) none) none:=by kernel_rfl
theorem mayL_end (F:Fd) (q:Int):evC Tryz.prog V4 [] noL (loopAt Tryz.f161 0) (mayLS F 0 q) (finX keepM [some 0]) =
    cond (decide (q < (F.n:Int))) (cond ((decide (0≤q)&&decide (q < (F.n:Int)))&&true) (cond (hBad (F.hs q.toNat)) (some ⟨.ret,mayLS F 6 q,.any⟩) none) none) (some ⟨.exit 0,mayLS F 0 q,.any⟩):=by kernel_rfl
theorem mayL_round {F:Fd} {q:Nat} (hn:F.n < 4611686018427387904) (hq:q < F.n) (hb:hBad (F.hs q)=false):Leads Tryz.prog (loopAt Tryz.f161 0) (mayLS F 0 (q:Nat)) .normal (mayLS F 0 ((q+1:Nat):Int)):=by
  refine leads_ev (finN_sub keepM [some 0]) V4_ok k_nil noL_ok ?_
  rw [mayL_step,dec_lt hq,dec_nonneg,w64_next (by omega)]
  simp only [Int.toNat_natCast,hb]
  rfl
theorem mayL_ok {F:Fd} (hn:F.n < 4611686018427387904) (h:∀ q,q < F.n→hBad (F.hs q)=false):Leads Tryz.prog (.loop (loopAt Tryz.f161 0)) (mayLS F 0 0) (.exit 0) (mayLS F 0 F.n):=by
  refine loop_rule (fun q=>mayLS F 0 (q:Nat)) F.n (.exit 0) _ (by simp) (fun q hq=>mayL_round hn hq (h q hq)) ?_
  refine leads_ev (finX_sub keepM [some 0]) V4_ok k_nil noL_ok ?_
  rw [mayL_end,dec_self]
  rfl
theorem mayL_bad {F:Fd} (hn:F.n < 4611686018427387904) {j:Nat} (hj:j < F.n) (hb:hBad (F.hs j)=true) (h:∀ q,q < j→hBad (F.hs q)=false):Leads Tryz.prog (.loop (loopAt Tryz.f161 0)) (mayLS F 0 0) .ret (mayLS F 6 (j:Nat)):=by
  refine loop_rule (fun q=>mayLS F 0 (q:Nat)) j .ret _ (by simp) (fun q hq=>mayL_round hn (by omega) (h q hq)) ?_
  refine leads_ev (finX_sub keepM [some 0]) V4_ok k_nil noL_ok ?_
  rw [mayL_end,dec_lt hj,dec_nonneg]
  simp only [Int.toNat_natCast,hb]
  rfl
noncomputable def mayL (F:Fd) (ex:Exit) (sf:St):Nat→Option LFun:=oneL 12 (toldF keepM [some 0] (mayLS F 0 0) ex sf)
theorem mayL_lok {F:Fd} {ex:Exit} {sf:St} (h:Leads Tryz.prog (.loop (loopAt Tryz.f161 0)) (mayLS F 0 0) ex sf):LOk Tryz.prog (mayL F ex sf) (bodyOf Tryz.f161) :=
  lok_one (i:=12) 1 (by kernel_rfl) fun j hj _=>by
    have:j=0:=by omega
    subst this
    exact toldF_sound h
def Fd.dims (F:Fd):Bool:=cond (cond (cond (decide (F.W < 2)) true (decide (F.W > 8))) true (decide (F.H < 2))) true (decide (F.H > 8))
def Fd.far (F:Fd):Bool:=cond (!fineS (F.at_ 0) (F.at_ 1) (F.at_ 2)) true (!nearS F.sd)
/-- What is asked ahead of the heights. -/
def Fd.first (F:Fd) (X:Option Out):Option Out:=cond F.dims (some (Out.of (iA 4))) (cond (!((F.n:Int)==w64 (F.W*F.H))) (some (Out.of (iA 5))) (cond (skB F.sk) (some (Out.of (iA 4))) (cond F.far (some (Out.of (iA 1))) (cond (!fgt F.sd 0) (some (Out.of (iA 6))) X))))
theorem may_ev_ok (F:Fd):ev Tryz.prog V4 [] (mayL F (.exit 0) (mayLS F 0 F.n)) Tryz.f161 [.agg F.c] ret=F.first (gate (Sub (mayLS F 0 0) (mayLS F 0 0)) (some (Out.of (iA 0)))):=by kernel_rfl
theorem may_ev_bad (F:Fd) (j:Int):ev Tryz.prog V4 [] (mayL F .ret (mayLS F 6 j)) Tryz.f161 [.agg F.c] ret=F.first (gate (Sub (mayLS F 0 0) (mayLS F 0 0)) (some (Out.of (iA 6)))):=by kernel_rfl
/-- Which is the first height that may not be? -/
theorem first_bad (hs:Nat→Int):∀ n,(∀ q,q < n→hBad (hs q)=false)∨∃ j,j < n∧hBad (hs j)=true∧∀ q,q < j→hBad (hs q)=false
  | 0=>Or.inl fun q hq=>by omega
  | n + 1 => by
    rcases first_bad hs n with h | ⟨j,h1,h2,h3⟩
    · cases hb:hBad (hs n)
      · exact Or.inl fun q hq=>by
          by_cases e:q=n
          · rw [e]; exact hb
          · exact h q (by omega)
      · exact Or.inr ⟨n,by omega,hb,h⟩
    · exact Or.inr ⟨j,by omega,h2,h3⟩
def Fd.okAll (F:Fd):Bool:=(List.range F.n).all fun q=>!hBad (F.hs q)
def Fd.mayN (F:Fd):Int:=cond F.dims 4 (cond (!((F.n:Int)==w64 (F.W*F.H))) 5 (cond (skB F.sk) 4 (cond F.far 1 (cond (!fgt F.sd 0) 6 (cond F.okAll 0 6)))))
theorem may_spec (F:Fd) (hn:F.n < 4611686018427387904):FSpec Tryz.prog 161 [.agg F.c] (iA F.mayN):=by
  have fin:∀ e:Int,F.okAll=(e==0)→(e=0∨e=6)→F.first (some (Out.of (iA e)))=some (Out.of (iA F.mayN)):=fun e h1 h2=>by
    unfold Fd.first Fd.mayN
    rw [h1]
    cases F.dims<;>simp only [cond_true,cond_false]
    cases (!((F.n:Int)==w64 (F.W*F.H)))<;>simp only [cond_true,cond_false]
    cases skB F.sk<;>simp only [cond_true,cond_false]
    cases F.far<;>simp only [cond_true,cond_false]
    cases (!fgt F.sd 0)<;>simp only [cond_true,cond_false]
    rcases h2 with rfl | rfl<;>rfl
  rcases first_bad F.hs F.n with h | ⟨j,h1,h2,h3⟩
  · refine gspec V4_ok k_nil Tryz.func161 (by kernel_rfl) (by kernel_rfl) (mayL_lok (mayL_ok hn h)) rfl ?_
    rw [may_ev_ok,gate_pos (Sub.refl _)]
    refine fin 0 ?_ (Or.inl rfl)
    unfold Fd.okAll
    rw [List.all_eq_true.2]
    · rfl
    · intro q hq
      rw [h q (List.mem_range.1 hq)]
      rfl
  · refine gspec V4_ok k_nil Tryz.func161 (by kernel_rfl) (by kernel_rfl) (mayL_lok (mayL_bad hn h1 h2 h3)) rfl ?_
    rw [may_ev_bad,gate_pos (Sub.refl _)]
    refine fin 6 ?_ (Or.inr rfl)
    unfold Fd.okAll
    rw [List.all_eq_false.2 ⟨j,List.mem_range.2 h1,by rw [h2]; simp⟩]
    rfl

def ptXY (F:Fd) (h x y:Int):Nat→Nat:=ls [fadd (F.at_ 0) (fmul (itof x) F.sd),fadd (F.at_ 1) (fdiv (itof h) 4652007308841189376),fadd (F.at_ 2) (fmul (itof y) F.sd)]
def pt (F:Fd) (q:Nat):Nat→Nat:=ptXY F (F.hs q) ((q % F.W.toNat:Nat):Int) ((q / F.W.toNat:Nat):Int)
def pts (F:Fd):Nat→List AV:=fun q=>c3 (pt F q)
def innerS (F:Fd) (y x:Int) (m:Nat) (ps:Nat→List AV):St:=mkS 63 [(1,.own 0 0),(3,.osl 1 3 0 m),(4,iA y),(13,iA F.H),(14,iA y),(18,iA F.W),(19,iA x)] [.c F.c,.a 30 3 m ps]
def keepI:List Nat:=[1,3,4,13,14,18,19]
def ix (W y x:Int):Int:=w64 (w64 (y*W)+x)
theorem inner_step (F:Fd) (y x:Int) (m:Nat) (ps:Nat→List AV):evC Tryz.prog [] [] noL (loopAt Tryz.f162 1) (innerS F y x m ps) (finN keepI [some 0,some 3]) =
      cond (decide (x < F.W)) (cond (((decide (0≤ix F.W y x)&&decide (ix F.W y x < (F.n:Int)))||false)&&((((m==m)&&Nat.ble ((m+1)*24) 140737488355328)||false)&&true))
        (some ⟨.normal,innerS F y (w64 (x+1)) (m+1) (fun q=>mixL (Nat.blt q m) (ps q) (c3 (ptXY F (F.hs (ix F.W y x).toNat) x y))),.any⟩) none) none:=by kernel_rfl
theorem inner_end (F:Fd) (y x:Int) (m:Nat) (ps:Nat→List AV):evC Tryz.prog [] [] noL (loopAt Tryz.f162 1) (innerS F y x m ps) (finX keepI [some 0,some 1]) =
      cond (decide (x < F.W)) (cond (((decide (0≤ix F.W y x)&&decide (ix F.W y x < (F.n:Int)))||false)&&((((m==m)&&Nat.ble ((m+1)*24) 140737488355328)||false)&&true)) none none)
        (some ⟨.exit 2,innerS F y x m ps,.any⟩):=by kernel_rfl
/-- A field whose numbers say how many points there are. -/
structure Dim (F:Fd) (w h:Nat):Prop where
  W:F.W=(w:Int)
  H:F.H=(h:Int)
  n:F.n=w*h
  w1:2≤w
  h1:2≤h
  w8:w≤8
  h8:h≤8
theorem Dim.le {F:Fd} {w h:Nat} (d:Dim F w h):w*h≤64:=Nat.mul_le_mul d.w8 d.h8
theorem Dim.row {F:Fd} {w h y:Nat} (_:Dim F w h) (hy:y < h):y*w+w≤w*h:=by
  have:(y+1)*w≤h*w:=Nat.mul_le_mul_right _ hy
  rw [Nat.add_mul,Nat.mul_comm h w] at this
  omega
theorem Dim.ix {F:Fd} {w h y x:Nat} (d:Dim F w h) (hy:y < h) (hx:x < w):ix F.W (y:Nat) (x:Nat)=((y*w+x:Nat):Int):=by
  have h1:=d.row hy
  have h2:=d.le
  unfold Go.Proofs.YtefphimaggjihaaGreatDoor.Hs.Fm.ix
  rw [d.W]
  have hp:((y:Int)*(w:Int))=((y*w:Nat):Int):=by simp
  rw [hp,w64_id (n:=((y*w:Nat):Int)) (by omega) (by omega),w64_id (by omega) (by omega)]
  omega
theorem pt_at {F:Fd} {w h y x:Nat} (d:Dim F w h) (hx:x < w):pt F (y*w+x)=ptXY F (F.hs (y*w+x)) (x:Nat) (y:Nat):=by
  have hm:(y*w+x) % w=x:=by rw [Nat.mul_comm,Nat.mul_add_mod]; exact Nat.mod_eq_of_lt hx
  have hd:(y*w+x) / w=y:=by
    rw [Nat.mul_comm,Nat.mul_add_div (by omega),Nat.div_eq_of_lt hx]; omega
  unfold pt
  rw [d.W,Int.toNat_natCast,hm,hd]
theorem not_blt {q m:Nat} (h:Nat.blt q m=false):m≤q:=Nat.le_of_not_lt fun hc=>by
  have:Nat.blt q m=true:=Nat.ble_eq_true_of_le hc
  rw [this] at h; cases h
theorem inner_leads {F:Fd} {w h y:Nat} (d:Dim F w h) (hy:y < h) :
    Leads Tryz.prog (.loop (loopAt Tryz.f162 1)) (innerS F (y:Nat) 0 (y*w) (pts F)) (.exit 2) (innerS F (y:Nat) (w:Nat) (y*w+w) (pts F)):=by
  have hle:=d.le
  have hyW:=d.row hy
  refine loop_rule (fun j=>innerS F (y:Nat) (j:Nat) (y*w+j) (pts F)) w (.exit 2) _ (by simp) (fun j hj=>?_) ?_
  · have hix:=d.ix hy hj
    refine Leads.sub (leads_ev (finN_sub keepI [some 0,some 3]) e_nil k_nil noL_ok (s':=innerS F (y:Nat) (w64 ((j:Int)+1)) (y*w+j+1) (fun q=>mixL (Nat.blt q (y*w+j)) (pts F q) (c3 (ptXY F (F.hs (ix F.W (y:Nat) (j:Nat)).toNat) (j:Nat) (y:Nat))))) ?_) (Sub.refl _) ?_
    · rw [inner_step]
      have c1:decide (((j:Nat):Int) < F.W)=true:=by rw [d.W]; exact dec_lt hj
      have c2:decide (0≤ix F.W (y:Nat) (j:Nat))=true:=by rw [hix]; exact dec_nonneg _
      have c3:decide (ix F.W (y:Nat) (j:Nat) < (F.n:Int))=true:=by rw [hix,d.n]; exact dec_lt (by omega)
      have c4:Nat.ble ((y*w+j+1)*24) 140737488355328=true:=Nat.ble_eq_true_of_le (by omega)
      rw [c1,c2,c3,c4]
      simp only [cond_true,Bool.and_self,Bool.or_false,BEq.rfl]
    · rw [w64_next (by omega),hix,Int.toNat_natCast]
      refine sub_same ⟨Or.inl rfl,Or.inr ⟨30,3,y*w+j+1,_,_,rfl,rfl,fun q hq=>?_⟩,trivial⟩
      cases hlt:Nat.blt q (y*w+j)
      · have hq2:q=y*w+j:=by have:=not_blt hlt; omega
        subst hq2
        unfold pts
        rw [pt_at d hj]
        unfold c3
        simp only [mixL,mixA,cond_false]
      · unfold pts c3
        simp only [mixL,mixA,cond_true]
  · refine leads_ev (finX_sub keepI [some 0,some 1]) e_nil k_nil noL_ok ?_
    rw [inner_end]
    have c1:decide (((w:Nat):Int) < F.W)=false:=by rw [d.W]; exact dec_self w
    rw [c1]
    rfl
def outerS (F:Fd) (y:Int) (m:Nat) (ps:Nat→List AV):St:=mkS 63 [(1,.own 0 0),(3,.osl 1 3 0 m),(13,iA F.H),(14,iA y)] [.c F.c,.a 30 3 m ps]
def keepO:List Nat:=[1,3,13,14]
noncomputable def innerL (F:Fd) (w y:Nat):Nat→Option LFun:=oneL 6 (toldF keepI [some 0,some 1] (innerS F (y:Nat) 0 (y*w) (pts F)) (.exit 2) (innerS F (y:Nat) (w:Nat) (y*w+w) (pts F)))
end Go.Proofs.YtefphimaggjihaaGreatDoor.Hs.Fm

namespace Go.Proofs.YtefphimaggjihaaGreatDoor.Hs.Fm
open Go.Gv
open Go.Ev (cn fadd fsub fmul fdiv feq flt fle fgt fge)

theorem innerL_ok {F:Fd} {w h y:Nat} (d:Dim F w h) (hy:y < h):LOk Tryz.prog (innerL F w y) (loopAt Tryz.f162 0) :=
  lok_one (i:=6) 1 (by kernel_rfl) fun j hj _=>by
    have:j=0:=by omega
    subst this
    have e:(loopsOf (loopAt Tryz.f162 0)).getD 0 .skip=loopAt Tryz.f162 1:=by kernel_rfl
    rw [e]
    exact toldF_sound (inner_leads d hy)
theorem outer_step (F:Fd) (w y:Nat):evC Tryz.prog [] [] (innerL F w y) (loopAt Tryz.f162 0) (outerS F (y:Nat) (y*w) (pts F)) (finN keepO [some 0,some 1]) =
    cond (decide (((y:Nat):Int) < F.H)) (gate (Sub (innerS F (y:Nat) 0 (y*w) (pts F)) (innerS F (y:Nat) 0 (y*w) (pts F))) (some ⟨.normal,outerS F (w64 (((y:Nat):Int)+1)) (y*w+w) (pts F),.any⟩)) none:=by kernel_rfl
/-- A loop of which nothing is told, since it isn't reached. -/
theorem outer_last (F:Fd) (y m:Nat):evC Tryz.prog [] [] (oneL 6 fun _ _=>none) (loopAt Tryz.f162 0) (outerS F (y:Nat) m (pts F)) (finX keepO [some 0,some 1]) =
    cond (decide (((y:Nat):Int) < F.H)) none (some ⟨.exit 0,outerS F (y:Nat) m (pts F),.any⟩):=by kernel_rfl
theorem lok_none {P:Program} {c:Code} (i:Nat):LOk P (oneL i fun _ _=>none) c:=by
  intro c' _ i' g' _ hg
  unfold oneL at hg
  cases hb:Nat.beq i' i
  · rw [hb] at hg; cases hg
  · rw [hb] at hg
    cases hg
    exact ⟨fun _ _ _ hr=>(by cases hr),fun _ _ _ hk=>(by have:=hk (fun e s=>some ⟨e,s,.any⟩); cases this)⟩
theorem outer_leads {F:Fd} {w h:Nat} (d:Dim F w h):Leads Tryz.prog (.loop (loopAt Tryz.f162 0)) (outerS F 0 (0*w) (pts F)) (.exit 0) (outerS F (h:Nat) (h*w) (pts F)):=by
  have h8:=d.h8
  refine loop_rule (fun y=>outerS F (y:Nat) (y*w) (pts F)) h (.exit 0) _ (by simp) (fun y hy=>?_) ?_
  · refine leads_ev (finN_sub keepO [some 0,some 1]) e_nil k_nil (innerL_ok d hy) ?_
    have c1:decide (((y:Nat):Int) < F.H)=true:=by rw [d.H]; exact dec_lt hy
    rw [outer_step,c1,gate_pos (Sub.refl _),w64_next (by omega),Nat.succ_mul]
    rfl
  · refine leads_ev (finX_sub keepO [some 0,some 1]) e_nil k_nil (lok_none 6) ?_
    have c1:decide (((h:Nat):Int) < F.H)=false:=by rw [d.H]; exact dec_self h
    rw [outer_last,c1]
    rfl
noncomputable def pointsL (F:Fd) (w h:Nat):Nat→Option LFun:=oneL 3 (toldF keepO [some 0,some 1] (outerS F 0 (0*w) (pts F)) (.exit 0) (outerS F (h:Nat) (h*w) (pts F)))
theorem pointsL_ok {F:Fd} {w h:Nat} (d:Dim F w h):LOk Tryz.prog (pointsL F w h) (bodyOf Tryz.f162) :=
  lok_one (i:=3) 2 (by kernel_rfl) fun j hj hid=>by
    have:j=0∨j=1:=by omega
    rcases this with rfl | rfl
    · exact toldF_sound (outer_leads d)
    · have e:firstId ((loopsOf (bodyOf Tryz.f162)).getD 1 .skip)=some 6:=by kernel_rfl
      rw [e] at hid
      cases hid
def rows0 (F:Fd):St:=mkS 63 [(1,.own 0 0),(3,.osl 1 3 0 0),(13,iA F.H),(14,iA 0)] [.c F.c,.a 30 3 0 fun _=>[.f 0,.f 0,.f 0]]
theorem points_ev (F:Fd) (w h:Nat):ev Tryz.prog [] [] (pointsL F w h) Tryz.f162 [.agg F.c] ret =
    cond ((decide (0≤w64 (F.W*F.H))&&decide (((24:Nat):Int)*w64 (F.W*F.H)≤281474976710656))&&true)
      (gate (Sub (rows0 F) (outerS F 0 (0*w) (pts F))) (some (Out.of (.sl 3 (h*w) fun i=>c3 (pt F (0+i)))))) none:=by kernel_rfl
theorem Dim.prod {F:Fd} {w h:Nat} (d:Dim F w h):w64 (F.W*F.H)=((w*h:Nat):Int):=by
  have:=d.le
  rw [d.W,d.H,← Int.natCast_mul]
  exact w64_id (by omega) (by omega)
theorem points_spec {F:Fd} {w h:Nat} (d:Dim F w h):FSpec Tryz.prog 162 [.agg F.c] (.sl 3 (w*h) fun q=>c3 (pt F q)):=by
  refine gspec e_nil k_nil Tryz.func162 (by kernel_rfl) (by kernel_rfl) (pointsL_ok d) rfl ?_
  have hle:=d.le
  have hs:Sub (rows0 F) (outerS F 0 (0*w) (pts F)):=by
    rw [Nat.zero_mul]
    exact sub_same ⟨Or.inl rfl,Or.inr ⟨30,3,0,_,_,rfl,rfl,fun q hq=>by omega⟩,trivial⟩
  have c2:decide (((24:Nat):Int)*((w*h:Nat):Int)≤281474976710656)=true:=decide_eq_true (by omega)
  have e:(fun i=>c3 (pt F (0+i)))=fun q=>c3 (pt F q):=funext fun i=>by rw [Nat.zero_add]
  rw [points_ev,d.prod,dec_nonneg,c2,gate_pos hs,e,Nat.mul_comm h w]
  rfl

def gridZ:List AV:=[iA 0,iA 0,iA 0,.x (.slice none 0 0),.f 0,.f 0,.f 0,.f 0,.f 0,.f 0]
def gridC (F:Fd) (n:Nat) (b:Nat→Nat):List AV:=[iA F.W,iA F.H,iA F.sk,.sl 3 n (fun q=>c3 (pt F q)),.f (b 0),.f (b 1),.f (b 2),.f (b 3),.f (b 4),.f (b 5)]
theorem known_ev1 (F:Fd) (e:Int):ev Tryz.prog V4 [kfix 161 [.agg F.c] (iA e)] noL Tryz.f138 [.agg F.c] ret =
    gate ([AV.agg F.c]=[AV.agg F.c]) (cond (!(e==0)) (some (Out.of (.tup [.agg gridZ,iA e]))) none):=by kernel_rfl
theorem known_ev2 (F:Fd) (n:Nat) (b:Nat→Nat):ev Tryz.prog V4 [kfix 161 [.agg F.c] (iA 0),kfix 162 [.agg F.c] (.sl 3 n fun q=>c3 (pt F q)),kfix 163 [.sl 3 n fun q=>c3 (pt F q)] (.agg (c6 b))] noL Tryz.f138 [.agg F.c] ret =
    gate ([AV.agg F.c]=[AV.agg F.c]) (gate ([AV.agg F.c]=[AV.agg F.c]) (gate ([AV.sl 3 n fun q=>c3 (pt F q)]=[AV.sl 3 n fun q=>c3 (pt F q)]) (cond (!(mayS b==0)) (some (Out.of (.tup [.agg gridZ,iA 1]))) (some (Out.of (.tup [.agg (gridC F n b),iA 0])))))):=by kernel_rfl
theorem known_bad {F:Fd} (hn:F.n < 4611686018427387904) (he:F.mayN≠0):FSpec Tryz.prog 138 [.agg F.c] (.tup [.agg gridZ,iA F.mayN]):=by
  refine gspec V4_ok (k_cons (kfix_ok (may_spec F hn)) k_nil) Tryz.func138 (by kernel_rfl) (by kernel_rfl) noL_ok rfl ?_
  rw [known_ev1,gate_pos rfl,beq_false_of_ne he]
  rfl
/-- The box around all points. -/
def bx (F:Fd):Nat→Nat:=boxQ (pt F) F.n
theorem known_ok {F:Fd} {w h:Nat} (d:Dim F w h) (he:F.mayN=0):FSpec Tryz.prog 138 [.agg F.c] (.tup (cond (mayS (bx F)==0) [.agg (gridC F F.n (bx F)),iA 0] [.agg gridZ,iA 1])):=by
  have hle:=d.le
  have hpos:4≤w*h:=Nat.mul_le_mul d.w1 d.h1
  have hn:=d.n
  have s1:=may_spec F (by omega)
  rw [he] at s1
  have s2:=points_spec d
  have s3:=around_spec (n:=w*h) (pt F) (by omega) (by omega)
  refine gspec V4_ok (k_cons (kfix_ok s1) (k_cons (kfix_ok s2) (k_cons (kfix_ok s3) k_nil))) Tryz.func138 (by kernel_rfl) (by kernel_rfl) noL_ok rfl ?_
  rw [known_ev2,gate_pos rfl,gate_pos rfl,gate_pos rfl]
  unfold bx
  rw [hn]
  cases mayS (boxQ (pt F) (w*h))==0<;>rfl
end Go.Proofs.YtefphimaggjihaaGreatDoor.Hs.Fm

namespace Go.Proofs.YtefphimaggjihaaGreatDoor.Hs.Fm
open Go.Gv
open Go.Ev (cn fadd fsub fmul fdiv feq flt fle fgt fge)

def inR (k:Int) (n:Nat):Bool:=decide (0≤k)&&decide (k < (n:Int))
theorem inR_nat {k n:Nat} (h:k < n):inR (k:Nat) n=true:=by unfold inR; rw [dec_nonneg,dec_lt h]; rfl

noncomputable def GK (P:Program) (g:Func):List KEntry:=[inl P R3 [] (fun _=>noL) 144 g]
theorem GK_ok:∀ e,e ∈ GK Tryz.prog Tryz.f144→KOk Tryz.prog e:=k_cons (inl_ok R3_ok k_nil (by kernel_rfl) Tryz.func144 (by kernel_rfl) (by kernel_rfl) (c:=bodyOf Tryz.f144) fun _=>noL_ok) k_nil
def fbI (F:Fd) (y x:Int) (p b:Nat→Nat):St:=mkS 39 [(1,.own 0 0),(2,.own 1 0),(3,.own 2 0),(4,.own 3 0),(5,iA y),(6,iA x)] [.c F.c,.c z6,.c (c3 p),.c (c6 b)]
def fbO (F:Fd) (y:Int) (p b:Nat→Nat):St:=mkS 39 [(1,.own 0 0),(2,.own 1 0),(3,.own 2 0),(4,.own 3 0),(5,iA y)] [.c F.c,.c z6,.c (c3 p),.c (c6 b)]
def keepB:List Nat:=[1,2,3,4,5,6]
def keepC:List Nat:=[1,2,3,4,5]
def rmS (F:Fd) (e q:Int):St:=mkS 83 [(1,.own 0 0),(2,iA e),(5,iA q)] [.c F.c]
def keepR2:List Nat:=[1,2,5]

theorem fbI_step (F:Fd) (y x:Int) (p b:Nat→Nat):evC Tryz.prog R3 (GK Tryz.prog Tryz.f144) noL (loopAt Tryz.f104 1) (fbI F y x p b) (finN keepB [some 0,some 1,some 2,some 3]) =
    cond (decide (x < F.W)) (cond ((inR (ix F.W y x) F.n||false)&&true) (some ⟨.normal,fbI F y (w64 (x+1)) (ptXY F (F.hs (ix F.W y x).toNat) x y) (joinS b (pp (ptXY F (F.hs (ix F.W y x).toNat) x y))),.any⟩) none) none:=by kernel_rfl
theorem fbI_end (F:Fd) (y x:Int) (p b:Nat→Nat):evC Tryz.prog R3 (GK Tryz.prog Tryz.f144) noL (loopAt Tryz.f104 1) (fbI F y x p b) (finX keepB [some 0,some 1,some 2,some 3]) =
    cond (decide (x < F.W)) (cond ((inR (ix F.W y x) F.n||false)&&true) none none) (some ⟨.exit 2,fbI F y x p b,.any⟩):=by kernel_rfl
def lastP (p:Nat→Nat→Nat):Nat→Nat→Nat
  | 0=>p 0
  | q+1=>p q
theorem fbI_leads {F:Fd} {w h y:Nat} (d:Dim F w h) (hy:y < h):Leads Tryz.prog (.loop (loopAt Tryz.f104 1)) (fbI F (y:Nat) 0 (lastP (pt F) (y*w)) (boxQ (pt F) (y*w))) (.exit 2) (fbI F (y:Nat) (w:Nat) (lastP (pt F) (y*w+w)) (boxQ (pt F) (y*w+w))):=by
  have hle:=d.le
  have hyW:=d.row hy
  refine loop_rule (fun j=>fbI F (y:Nat) (j:Nat) (lastP (pt F) (y*w+j)) (boxQ (pt F) (y*w+j))) w (.exit 2) _ (by simp) (fun j hj=>?_) ?_
  · refine leads_ev (finN_sub keepB [some 0,some 1,some 2,some 3]) R3_ok GK_ok noL_ok ?_
    have c1:decide (((j:Nat):Int) < F.W)=true:=by rw [d.W]; exact dec_lt hj
    rw [fbI_step,c1,d.ix hy hj,inR_nat (by rw [d.n]; omega),w64_next (by omega),Int.toNat_natCast,← pt_at d hj]
    rfl
  · refine leads_ev (finX_sub keepB [some 0,some 1,some 2,some 3]) R3_ok GK_ok noL_ok ?_
    have c1:decide (((w:Nat):Int) < F.W)=false:=by rw [d.W]; exact dec_self w
    rw [fbI_end,c1]
    rfl
noncomputable def fbIL (F:Fd) (w y:Nat):Nat→Option LFun:=oneL 7 (toldF keepB [some 0,some 1,some 2,some 3] (fbI F (y:Nat) 0 (lastP (pt F) (y*w)) (boxQ (pt F) (y*w))) (.exit 2) (fbI F (y:Nat) (w:Nat) (lastP (pt F) (y*w+w)) (boxQ (pt F) (y*w+w))))
theorem fbIL_ok {F:Fd} {w h y:Nat} (d:Dim F w h) (hy:y < h):LOk Tryz.prog (fbIL F w y) (loopAt Tryz.f104 0) :=
  lok_one (i:=7) 1 (by kernel_rfl) fun j hj _=>by
    have:j=0:=by omega
    subst this
    have e:(loopsOf (loopAt Tryz.f104 0)).getD 0 .skip=loopAt Tryz.f104 1:=by kernel_rfl
    rw [e]
    exact toldF_sound (fbI_leads d hy)
theorem fbO_step (F:Fd) (w y:Nat):evC Tryz.prog R3 (GK Tryz.prog Tryz.f144) (fbIL F w y) (loopAt Tryz.f104 0) (fbO F (y:Nat) (lastP (pt F) (y*w)) (boxQ (pt F) (y*w))) (finN keepC [some 0,some 1,some 2,some 3]) =
    cond (decide (((y:Nat):Int) < F.H)) (gate (Sub (fbI F (y:Nat) 0 (lastP (pt F) (y*w)) (boxQ (pt F) (y*w))) (fbI F (y:Nat) 0 (lastP (pt F) (y*w)) (boxQ (pt F) (y*w)))) (some ⟨.normal,fbO F (w64 (((y:Nat):Int)+1)) (lastP (pt F) (y*w+w)) (boxQ (pt F) (y*w+w)),.any⟩)) none:=by kernel_rfl
theorem fbO_last (F:Fd) (y:Int) (p b:Nat→Nat):evC Tryz.prog R3 (GK Tryz.prog Tryz.f144) (oneL 7 fun _ _=>none) (loopAt Tryz.f104 0) (fbO F y p b) (finX keepC [some 0,some 1,some 2,some 3]) =
    cond (decide (y < F.H)) none (some ⟨.exit 0,fbO F y p b,.any⟩):=by kernel_rfl
theorem fbO_leads {F:Fd} {w h:Nat} (d:Dim F w h):Leads Tryz.prog (.loop (loopAt Tryz.f104 0)) (fbO F 0 (lastP (pt F) (0*w)) (boxQ (pt F) (0*w))) (.exit 0) (fbO F (h:Nat) (lastP (pt F) (h*w)) (boxQ (pt F) (h*w))):=by
  have h8:=d.h8
  refine loop_rule (fun y=>fbO F (y:Nat) (lastP (pt F) (y*w)) (boxQ (pt F) (y*w))) h (.exit 0) _ (by simp) (fun y hy=>?_) ?_
  · refine leads_ev (finN_sub keepC [some 0,some 1,some 2,some 3]) R3_ok GK_ok (fbIL_ok d hy) ?_
    have c1:decide (((y:Nat):Int) < F.H)=true:=by rw [d.H]; exact dec_lt hy
    rw [fbO_step,c1,gate_pos (Sub.refl _),w64_next (by omega),Nat.succ_mul y w]
    rfl
  · refine leads_ev (finX_sub keepC [some 0,some 1,some 2,some 3]) R3_ok GK_ok (lok_none 7) ?_
    have c1:decide (((h:Nat):Int) < F.H)=false:=by rw [d.H]; exact dec_self h
    rw [fbO_last,c1]
    rfl
noncomputable def fbL (F:Fd) (w h:Nat):Nat→Option LFun:=oneL 4 (toldF keepC [some 0,some 1,some 2,some 3] (fbO F 0 (lastP (pt F) (0*w)) (boxQ (pt F) (0*w))) (.exit 0) (fbO F (h:Nat) (lastP (pt F) (h*w)) (boxQ (pt F) (h*w))))
theorem fbL_ok {F:Fd} {w h:Nat} (d:Dim F w h):LOk Tryz.prog (fbL F w h) (bodyOf Tryz.f104) :=
  lok_one (i:=4) 2 (by kernel_rfl) fun j hj hid=>by
    have:j=0∨j=1:=by omega
    rcases this with rfl | rfl
    · exact toldF_sound (fbO_leads d)
    · have e:firstId ((loopsOf (bodyOf Tryz.f104)).getD 1 .skip)=some 7:=by kernel_rfl
      rw [e] at hid
      cases hid
theorem fb_ev (F:Fd) (w h:Nat):ev Tryz.prog R3 (GK Tryz.prog Tryz.f144) (fbL F w h) Tryz.f104 [.agg F.c] ret =
    cond ((inR (ix F.W 0 0) F.n||false)&&true) (gate (Sub (fbO F 0 (ptXY F (F.hs (ix F.W 0 0).toNat) 0 0) (pp (ptXY F (F.hs (ix F.W 0 0).toNat) 0 0))) (fbO F 0 (lastP (pt F) (0*w)) (boxQ (pt F) (0*w)))) (some (Out.of (.agg (c6 (boxQ (pt F) (h*w))))))) none:=by kernel_rfl
theorem fb_spec {F:Fd} {w h:Nat} (d:Dim F w h):FSpec Tryz.prog 104 [.agg F.c] (.agg (c6 (bx F))):=by
  refine gspec R3_ok GK_ok Tryz.func104 (by kernel_rfl) (by kernel_rfl) (fbL_ok d) rfl ?_
  have hpos:4≤w*h:=Nat.mul_le_mul d.w1 d.h1
  have hn:=d.n
  have hw:=d.w1
  have hix:ix F.W 0 0=((0*w+0:Nat):Int):=d.ix (y:=0) (x:=0) (by have:=d.h1; omega) (by omega)
  have hpt:ptXY F (F.hs (0*w+0)) 0 0=pt F 0:=by
    have:=(pt_at (y:=0) (x:=0) d (by omega)).symm
    rw [Nat.zero_mul] at this ⊢
    exact this
  rw [fb_ev,hix,inR_nat (by rw [hn]; omega),Int.toNat_natCast,hpt]
  have hs:Sub (fbO F 0 (pt F 0) (pp (pt F 0))) (fbO F 0 (lastP (pt F) (0*w)) (boxQ (pt F) (0*w))):=by
    rw [Nat.zero_mul]
    exact Sub.refl _
  rw [gate_pos hs]
  unfold bx
  rw [hn,Nat.mul_comm h w]
  rfl
end Go.Proofs.YtefphimaggjihaaGreatDoor.Hs.Fm

namespace Go.Proofs.YtefphimaggjihaaGreatDoor.Hs.Fm
open Go.Gv
open Go.Ev (cn fadd fsub fmul fdiv feq flt fle fgt fge)

theorem rm_step (F:Fd) (q:Int):evC Tryz.prog R3 [] noL (loopAt Tryz.f48 0) (rmS F 0 q) (finN keepR2 [some 0]) =
    cond (decide (q < (F.n:Int))) (cond (inR q F.n||false) (cond (inR q F.n||!((decide (F.hs q.toNat < -1000000)==false)&&true)) (cond (hBad (F.hs q.toNat)) none (some ⟨.normal,rmS F 0 (w64 (q+1)),.any⟩)) none) none) none:=by kernel_rfl
theorem rm_end (F:Fd) (q:Int):evC Tryz.prog R3 [] noL (loopAt Tryz.f48 0) (rmS F 0 q) (finX keepR2 [some 0]) =
    cond (decide (q < (F.n:Int))) (cond (inR q F.n||false) (cond (inR q F.n||!((decide (F.hs q.toNat < -1000000)==false)&&true)) (cond (hBad (F.hs q.toNat)) (some ⟨.ret,rmS F 6 q,.any⟩) none) none) none) (some ⟨.exit 0,rmS F 0 q,.any⟩):=by kernel_rfl
theorem rm_round {F:Fd} {q:Nat} (hn:F.n < 4611686018427387904) (hq:q < F.n) (hb:hBad (F.hs q)=false):Leads Tryz.prog (loopAt Tryz.f48 0) (rmS F 0 (q:Nat)) .normal (rmS F 0 ((q+1:Nat):Int)):=by
  refine leads_ev (finN_sub keepR2 [some 0]) R3_ok k_nil noL_ok ?_
  rw [rm_step,dec_lt hq,inR_nat hq,w64_next (by omega)]
  simp only [Int.toNat_natCast,hb,Bool.true_or,cond_true,cond_false]
theorem rm_ok {F:Fd} (hn:F.n < 4611686018427387904) (h:∀ q,q < F.n→hBad (F.hs q)=false):Leads Tryz.prog (.loop (loopAt Tryz.f48 0)) (rmS F 0 0) (.exit 0) (rmS F 0 F.n):=by
  refine loop_rule (fun q=>rmS F 0 (q:Nat)) F.n (.exit 0) _ (by simp) (fun q hq=>rm_round hn hq (h q hq)) ?_
  refine leads_ev (finX_sub keepR2 [some 0]) R3_ok k_nil noL_ok ?_
  rw [rm_end,dec_self]
  rfl
theorem rm_bad {F:Fd} (hn:F.n < 4611686018427387904) {j:Nat} (hj:j < F.n) (hb:hBad (F.hs j)=true) (h:∀ q,q < j→hBad (F.hs q)=false):Leads Tryz.prog (.loop (loopAt Tryz.f48 0)) (rmS F 0 0) .ret (rmS F 6 (j:Nat)):=by
  refine loop_rule (fun q=>rmS F 0 (q:Nat)) j .ret _ (by simp) (fun q hq=>rm_round hn (by omega) (h q hq)) ?_
  refine leads_ev (finX_sub keepR2 [some 0]) R3_ok k_nil noL_ok ?_
  rw [rm_end,dec_lt hj,inR_nat hj]
  simp only [Int.toNat_natCast,hb,Bool.true_or,cond_true]
noncomputable def rmL (F:Fd) (ex:Exit) (sf:St):Nat→Option LFun:=oneL 14 (toldF keepR2 [some 0] (rmS F 0 0) ex sf)
theorem rmL_lok {F:Fd} {ex:Exit} {sf:St} (h:Leads Tryz.prog (.loop (loopAt Tryz.f48 0)) (rmS F 0 0) ex sf):LOk Tryz.prog (rmL F ex sf) (bodyOf Tryz.f48) :=
  lok_one (i:=14) 1 (by kernel_rfl) fun j hj _=>by
    have:j=0:=by omega
    subst this
    exact toldF_sound h
def Fd.firstR (F:Fd) (X:Option Out):Option Out:=cond F.dims (some (Out.of (iA 4))) (cond (!((F.n:Int)==w64 (F.W*F.H))) (some (Out.of (iA 5))) (cond (skB F.sk) (some (Out.of (iA 4))) (cond F.far (some (Out.of (iA 1))) (cond (fle F.sd 0) (some (Out.of (iA 6))) X))))
theorem rm_ev0 (F:Fd):ev Tryz.prog R3 [] (rmL F (.exit 0) (rmS F 0 F.n)) Tryz.f48 [.agg F.c] ret=F.firstR (gate (Sub (rmS F 0 0) (rmS F 0 0)) none):=by kernel_rfl
theorem rm_ev1 (F:Fd) (j:Int):ev Tryz.prog R3 [] (rmL F .ret (rmS F 6 j)) Tryz.f48 [.agg F.c] ret=F.firstR (gate (Sub (rmS F 0 0) (rmS F 0 0)) (some (Out.of (iA 6)))):=by kernel_rfl
theorem rm_ev2 (F:Fd) (b:Nat→Nat):ev Tryz.prog R3 [kfix 104 [.agg F.c] (.agg (c6 b))] (rmL F (.exit 0) (rmS F 0 F.n)) Tryz.f48 [.agg F.c] ret =
    F.firstR (gate (Sub (rmS F 0 0) (rmS F 0 0)) (gate ([AV.agg F.c]=[AV.agg F.c]) (cond (!(mayS b==0)) (some (Out.of (iA 1))) (some (Out.of (iA 0)))))):=by kernel_rfl
theorem firstR_eq (F:Fd) (X:Option Out):F.firstR X=F.first X:=by
  unfold Fd.firstR Fd.first
  cases hf:F.far
  · have hn:nearS F.sd=true:=by
      unfold Fd.far at hf
      revert hf
      cases fineS (F.at_ 0) (F.at_ 1) (F.at_ 2)<;>cases nearS F.sd<;>intro hf<;>first | rfl | (cases hf)
    rw [not_gt hn]
  · rfl
theorem rmay_bad {F:Fd} (hn:F.n < 4611686018427387904) (he:F.mayN≠0):FSpec Tryz.prog 48 [.agg F.c] (iA F.mayN):=by
  have fin:∀ (X:Option Out),(F.okAll=true∨X=some (Out.of (iA 6))∧F.okAll=false)→F.first X=some (Out.of (iA F.mayN)):=fun X hX=>by
    revert he
    unfold Fd.first Fd.mayN
    cases F.dims<;>simp only [cond_true,cond_false]
    · cases (!((F.n:Int)==w64 (F.W*F.H)))<;>simp only [cond_true,cond_false]
      · cases skB F.sk<;>simp only [cond_true,cond_false]
        · cases F.far<;>simp only [cond_true,cond_false]
          · cases (!fgt F.sd 0)<;>simp only [cond_true,cond_false]
            · rcases hX with h1 | ⟨h1,h2⟩
              · rw [h1]; intro he; exact absurd rfl he
              · rw [h1,h2]; intro _; rfl
            · intro _; trivial
          · intro _; trivial
        · intro _; trivial
      · intro _; trivial
    · intro _; trivial
  rcases first_bad F.hs F.n with h | ⟨j,h1,h2,h3⟩
  · refine gspec R3_ok k_nil Tryz.func48 (by kernel_rfl) (by kernel_rfl) (rmL_lok (rm_ok hn h)) rfl ?_
    rw [rm_ev0,gate_pos (Sub.refl _),firstR_eq]
    refine fin _ (Or.inl ?_)
    unfold Fd.okAll
    rw [List.all_eq_true.2]
    intro q hq
    rw [h q (List.mem_range.1 hq)]
    rfl
  · refine gspec R3_ok k_nil Tryz.func48 (by kernel_rfl) (by kernel_rfl) (rmL_lok (rm_bad hn h1 h2 h3)) rfl ?_
    rw [rm_ev1,gate_pos (Sub.refl _),firstR_eq]
    refine fin _ (Or.inr ⟨rfl,?_⟩)
    unfold Fd.okAll
    rw [List.all_eq_false.2 ⟨j,List.mem_range.2 h1,by rw [h2]; simp⟩]
theorem rmay_good {F:Fd} {w h:Nat} (d:Dim F w h) (he:F.mayN=0):FSpec Tryz.prog 48 [.agg F.c] (iA (cond (mayS (bx F)==0) 0 1)):=by
  have hle:=d.le
  have hn:=d.n
  rcases first_bad F.hs F.n with h | ⟨j,h1,h2,h3⟩
  · refine gspec R3_ok (k_cons (kfix_ok (fb_spec d)) k_nil) Tryz.func48 (by kernel_rfl) (by kernel_rfl) (rmL_lok (rm_ok (by omega) h)) rfl ?_
    rw [rm_ev2,gate_pos (Sub.refl _),gate_pos rfl,firstR_eq]
    revert he
    unfold Fd.first Fd.mayN
    cases F.dims<;>simp only [cond_true,cond_false]
    · cases (!((F.n:Int)==w64 (F.W*F.H)))<;>simp only [cond_true,cond_false]
      · cases skB F.sk<;>simp only [cond_true,cond_false]
        · cases F.far<;>simp only [cond_true,cond_false]
          · cases (!fgt F.sd 0)<;>simp only [cond_true,cond_false]
            · intro _; cases mayS (bx F)==0<;>rfl
            · intro he; cases he
          · intro he; cases he
        · intro he; cases he
      · intro he; cases he
    · intro he; cases he
  · exfalso
    have hk:F.okAll=false:=by
      unfold Fd.okAll
      rw [List.all_eq_false.2 ⟨j,List.mem_range.2 h1,by rw [h2]; simp⟩]
    revert he
    unfold Fd.mayN
    rw [hk]
    cases F.dims<;>cases (!((F.n:Int)==w64 (F.W*F.H)))<;>cases skB F.sk<;>cases F.far<;>cases (!fgt F.sd 0)<;>intro he<;>cases he
theorem fm_ev1 (F:Fd) (e:Int):ev Tryz.prog [] [kfix 138 [.agg F.c] (.tup [.agg gridZ,iA e])] noL Tryz.f100 [.agg F.c] ret=gate ([AV.agg F.c]=[AV.agg F.c]) (some (Out.of (iA e))):=by kernel_rfl
theorem fm_ev2 (F:Fd) (n:Nat) (b:Nat→Nat):ev Tryz.prog [] [kfix 138 [.agg F.c] (.tup [.agg (gridC F n b),iA 0])] noL Tryz.f100 [.agg F.c] ret=gate ([AV.agg F.c]=[AV.agg F.c]) (some (Out.of (iA 0))):=by kernel_rfl
theorem fm_bad {F:Fd} {e:Int} (h:FSpec Tryz.prog 138 [.agg F.c] (.tup [.agg gridZ,iA e])):FSpec Tryz.prog 100 [.agg F.c] (iA e) :=
  gspec e_nil (k_cons (kfix_ok h) k_nil) Tryz.func100 (by kernel_rfl) (by kernel_rfl) noL_ok rfl ((fm_ev1 F e).trans (gate_pos rfl))
theorem fm_good {F:Fd} {n:Nat} {b:Nat→Nat} (h:FSpec Tryz.prog 138 [.agg F.c] (.tup [.agg (gridC F n b),iA 0])):FSpec Tryz.prog 100 [.agg F.c] (iA 0) :=
  gspec e_nil (k_cons (kfix_ok h) k_nil) Tryz.func100 (by kernel_rfl) (by kernel_rfl) noL_ok rfl ((fm_ev2 F n b).trans (gate_pos rfl))
/-- Numbers that may be: the sides, and how many points there are. -/
theorem mayN_dim {F:Fd} (h:F.mayN=0):(∃ w h,Dim F w h)∧F.far=false:=by
  unfold Fd.mayN at h
  cases hd:F.dims
  · rw [hd,cond_false] at h
    cases hn:((F.n:Int)==w64 (F.W*F.H))
    · rw [hn] at h; exact absurd (show (5:Int)=0 from h) (by decide)
    · rw [hn] at h
      have h:cond (skB F.sk) 4 (cond F.far 1 (cond (!fgt F.sd 0) 6 (cond F.okAll 0 6)))=(0:Int):=h
      cases hk:skB F.sk
      · rw [hk,cond_false] at h
        cases hf:F.far
        · refine ⟨?_,rfl⟩
          unfold Fd.dims at hd
          have d1:¬ F.W < 2:=fun c=>by rw [decide_eq_true c] at hd; cases hd
          rw [decide_eq_false d1,cond_false] at hd
          have d2:¬ F.W > 8:=fun c=>by rw [decide_eq_true c] at hd; cases hd
          rw [decide_eq_false d2,cond_false] at hd
          have d3:¬ F.H < 2:=fun c=>by rw [decide_eq_true c] at hd; cases hd
          rw [decide_eq_false d3,cond_false] at hd
          have d4:¬ F.H > 8:=fun c=>by rw [decide_eq_true c] at hd; cases hd
          have eW:F.W=((F.W.toNat:Nat):Int):=by omega
          have eH:F.H=((F.H.toNat:Nat):Int):=by omega
          have hle:F.W.toNat*F.H.toNat≤8*8:=Nat.mul_le_mul (by omega) (by omega)
          have e:F.W*F.H=((F.W.toNat*F.H.toNat:Nat):Int):=by rw [Int.natCast_mul,← eW,← eH]
          have hn:=eq_of_beq hn
          rw [e,w64_id (by omega) (by omega)] at hn
          exact ⟨F.W.toNat,F.H.toNat,eW,eH,by omega,by omega,by omega,by omega,by omega⟩
        · rw [hf] at h; exact absurd (show (1:Int)=0 from h) (by decide)
      · rw [hk] at h; exact absurd (show (4:Int)=0 from h) (by decide)
  · rw [hd] at h; exact absurd (show (4:Int)=0 from h) (by decide)
theorem may_ev_no (F:Fd):ev Tryz.prog V4 [] (oneL 12 fun _ _=>none) Tryz.f161 [.agg F.c] ret=F.first none:=by kernel_rfl
theorem rm_ev_no (F:Fd):ev Tryz.prog R3 [] (oneL 14 fun _ _=>none) Tryz.f48 [.agg F.c] ret=F.firstR none:=by kernel_rfl
theorem first_no {F:Fd} (hn:¬ F.n < 4611686018427387904) (X:Option Out):F.first X=some (Out.of (iA F.mayN))∧F.mayN≠0:=by
  cases hd:F.dims
  · cases he:((F.n:Int)==w64 (F.W*F.H))
    · unfold Fd.first Fd.mayN
      rw [hd,he]
      exact ⟨rfl,show (5:Int)≠0 by decide⟩
    · exfalso
      unfold Fd.dims at hd
      have d1:¬ F.W < 2:=fun c=>by rw [decide_eq_true c] at hd; cases hd
      rw [decide_eq_false d1,cond_false] at hd
      have d2:¬ F.W > 8:=fun c=>by rw [decide_eq_true c] at hd; cases hd
      rw [decide_eq_false d2,cond_false] at hd
      have d3:¬ F.H < 2:=fun c=>by rw [decide_eq_true c] at hd; cases hd
      rw [decide_eq_false d3,cond_false] at hd
      have d4:¬ F.H > 8:=fun c=>by rw [decide_eq_true c] at hd; cases hd
      have hle:F.W.toNat*F.H.toNat≤8*8:=Nat.mul_le_mul (by omega) (by omega)
      have eW:F.W=((F.W.toNat:Nat):Int):=by omega
      have eH:F.H=((F.H.toNat:Nat):Int):=by omega
      have e:F.W*F.H=((F.W.toNat*F.H.toNat:Nat):Int):=by rw [Int.natCast_mul,← eW,← eH]
      have he:=eq_of_beq he
      rw [e,w64_id (by omega) (by omega)] at he
      omega
  · unfold Fd.first Fd.mayN
    rw [hd]
    exact ⟨rfl,show (4:Int)≠0 by decide⟩
theorem skB_rngF {sk:Int} (h:skB sk=false):0≤sk∧sk < 16:=by
  unfold skB at h
  by_cases h1:sk < 0
  · rw [decide_eq_true h1] at h; cases h
  · rw [decide_eq_false h1,cond_false] at h
    have:=of_decide_eq_false h
    omega
theorem mayN_all {F:Fd} (h:F.mayN=0):(2≤F.W∧F.W≤8∧2≤F.H∧F.H≤8)∧(0≤F.sk∧F.sk < 16)∧∀ q,q < F.n→hBad (F.hs q)=false:=by
  obtain ⟨⟨w,h',d⟩,_⟩:=mayN_dim h
  obtain ⟨hk,hs⟩:F.okAll=true∧skB F.sk=false:=by
    unfold Fd.mayN at h
    revert h
    cases F.dims<;>cases (!((F.n:Int)==w64 (F.W*F.H)))<;>cases skB F.sk<;>cases F.far<;>cases (!fgt F.sd 0)<;>cases F.okAll<;>intro h<;>first | exact ⟨rfl,rfl⟩ | (cases h; done)
  refine ⟨?_,skB_rngF hs,fun q hq=>?_⟩
  · have a1:=d.W
    have a2:=d.H
    have a3:=d.w8
    have a4:=d.h8
    have a5:=d.w1
    have a6:=d.h1
    omega
  · unfold Fd.okAll at hk
    have:=List.all_eq_true.1 hk q (List.mem_range.2 hq)
    simpa using this
/-- A field may be, or not: the same for both. -/
theorem field_all (F:Fd):∃ m,FSpec Tryz.prog 100 [.agg F.c] (iA m)∧FSpec Tryz.prog 48 [.agg F.c] (iA m)∧(m=0→F.far=false∧F.n≤64∧F.mayN=0):=by
  by_cases hn:F.n < 4611686018427387904
  · by_cases he:F.mayN=0
    · obtain ⟨⟨w,h,d⟩,hf⟩:=mayN_dim he
      have k:=known_ok d he
      have g:=rmay_good d he
      have hl:=d.le
      cases hb:mayS (bx F)==0
      · rw [hb] at k g; exact ⟨1,fm_bad k,g,fun h=>absurd h (by decide)⟩
      · rw [hb] at k g; exact ⟨0,fm_good k,g,fun _=>⟨hf,by rw [d.n]; exact hl,he⟩⟩
    · exact ⟨_,fm_bad (known_bad hn he),rmay_bad hn he,fun h=>absurd h he⟩
  · have f:=first_no hn none
    have s1:FSpec Tryz.prog 161 [.agg F.c] (iA F.mayN):=gspec V4_ok k_nil Tryz.func161 (by kernel_rfl) (by kernel_rfl) (lok_none 12) rfl ((may_ev_no F).trans f.1)
    have s2:FSpec Tryz.prog 48 [.agg F.c] (iA F.mayN):=gspec R3_ok k_nil Tryz.func48 (by kernel_rfl) (by kernel_rfl) (lok_none 14) rfl ((rm_ev_no F).trans ((firstR_eq F none).trans f.1))
    have s3:FSpec Tryz.prog 138 [.agg F.c] (.tup [.agg gridZ,iA F.mayN]):=by
      refine gspec V4_ok (k_cons (kfix_ok s1) k_nil) Tryz.func138 (by kernel_rfl) (by kernel_rfl) noL_ok rfl ?_
      rw [known_ev1,gate_pos rfl,beq_false_of_ne f.2]
      rfl
    exact ⟨_,fm_bad s3,s2,fun h=>absurd h f.2⟩
end Go.Proofs.YtefphimaggjihaaGreatDoor.Hs.Fm

namespace Go.Gv
open Go.RowKit

/-- Told either way. -/
def condL (b:Bool) (g h:LFun):LFun:=fun s k=>cond b (g s k) (h s k)
theorem condL_sound {P:Program} {c:Code} {b:Bool} {g h:LFun} (hg:b=true→LSound P c g) (hh:b=false→LSound P c h):LSound P c (condL b g h):=by
  cases b
  · exact hh rfl
  · exact hg rfl
/-- Several loops. -/
def manyL:List (Nat × LFun)→Nat→Option LFun
  | [],_=>none
  | x::l,j=>cond (Nat.beq j x.1) (some x.2) (manyL l j)
theorem lok_nil {P:Program} {c:Code}:LOk P (manyL []) c:=fun _ _ _ _ _ h=>by cases h
theorem lok_cons {P:Program} {c:Code} {i:Nat} {g:LFun} {l:List (Nat × LFun)} (hg:LOk P (oneL i g) c) (hl:LOk P (manyL l) c):LOk P (manyL ((i,g)::l)) c:=by
  intro c' hc j f hj hf
  have hf:cond (Nat.beq j i) (some g) (manyL l j)=some f:=hf
  cases hb:Nat.beq j i
  · rw [hb,cond_false] at hf
    exact hl c' hc j f hj hf
  · rw [hb,cond_true] at hf
    refine hg c' hc j f hj ?_
    unfold oneL
    rw [hb,cond_true]
    exact hf
end Go.Gv
namespace Go.Proofs.YtefphimaggjihaaGreatDoor.Hs.Sc
open Go.Gv So

/-- What a loop does that gives up at the first thing that may not be. -/
noncomputable def mayT (keep:List Nat) (τ:List (Option Nat)) (S:Int→St) (ex:Exit) (E:Int→St) (fb:Nat→Int) (n:Nat):LFun :=
  condL (seqE fb n==0) (toldF keep τ (S 0) ex (S (n:Nat))) (toldF keep τ (S 0) .ret (E (seqE fb n)))
theorem mayT_sound {P:Program} {c:Code} {keep:List Nat} {τ:List (Option Nat)} {S:Int→St} {ex:Exit} {E:Int→St} {fb:Nat→Int} {n:Nat} (hex:ex≠.normal)
    (h1:∀ k:Nat,k < n→fb k=0→Leads P c (S (k:Nat)) .normal (S ((k+1:Nat):Int))) (h2:∀ k:Nat,k < n→fb k≠0→Leads P c (S (k:Nat)) .ret (E (fb k))) (h3:Leads P c (S (n:Nat)) ex (S (n:Nat))) :
    LSound P c (mayT keep τ S ex E fb n):=by
  refine condL_sound (fun hb=>?_) fun hb=>?_
  · have h:=seq_zero n (eq_of_beq hb)
    exact toldF_sound (loop_rule (fun k=>S (k:Nat)) n ex _ hex (fun k hk=>h1 k hk (h k hk)) h3)
  · rcases all_or_first (fun i=>fb i==0) n with hl | ⟨K,hK,hp,hq⟩
    · rw [seq_all n fun i hi=>by simpa using hl i hi] at hb
      cases hb
    · have hp':fb K≠0:=by simpa using hp
      have hq':∀ i,i < K→fb i=0:=fun i hi=>by simpa using hq i hi
      rw [seq_first hp' hq' n hK]
      exact toldF_sound (loop_rule (fun k=>S (k:Nat)) K .ret _ (by simp) (fun k hk=>h1 k (by omega) (hq' k hk)) (h2 K hK hp'))
/-- A contract that is asked for: a number of the cells of the first argument. -/
def gO (f:List AV→Int):List AV→AV
  | [.agg c]=>iA (f c)
  | _=>.any
end Go.Proofs.YtefphimaggjihaaGreatDoor.Hs.Sc

namespace Go.Proofs.YtefphimaggjihaaGreatDoor.Hs.Sc
open Go.Gv
open Go.Ev (cn fadd fsub fmul fdiv fsqrt fneg feq flt fle fgt fge fabs isNan)

abbrev skC (k:Nat→Int):List AV:=[iA (k 0),iA (k 1),iA (k 2),iA (k 3),iA (k 4),iA (k 5),iA (k 6),iA (k 7),iA (k 8),iA (k 9)]
abbrev lmC (a:Nat→Nat) (l:Nat→Int):List AV:=[.f (a 0),.f (a 1),.f (a 2),iA (l 0),iA (l 1),iA (l 2)]
abbrev eyC (e:Nat→Nat):List AV:=[.f (e 0),.f (e 1),.f (e 2),.f (e 3),.f (e 4),.f (e 5),.f (e 6),.f (e 7),.f (e 8),.f (e 9)]
def oB (b:Bool):Option Out:=some (Out.of (bA b))
def oI (n:Int):Option Out:=some (Out.of (iA n))
def cbB (x:Int):Bool:=cond (decide (x < 0)) true (decide (x > 1000))
def suB (s m g:Int):Bool:=decide (w64 (w64 (s+m)+g)≤1000)
def mcB (s m g:Int):Bool:=cond (cbB s) false (cond (cbB m) false (cond (cbB g) false (suB s m g)))
theorem mc_ev (s m g:Int):ev Tryz.prog [] [] noL Tryz.f62 [iA s,iA m,iA g] ret=cond (cbB s) (oB false) (cond (cbB m) (oB false) (cond (cbB g) (oB false) (oB (suB s m g)))):=by kernel_rfl
theorem mc_spec (s m g:Int):FSpec Tryz.prog 62 [iA s,iA m,iA g] (bA (mcB s m g)):=by
  refine gspec e_nil k_nil Tryz.func62 (by kernel_rfl) (by kernel_rfl) noL_ok rfl ((mc_ev s m g).trans ?_)
  unfold mcB
  cases cbB s<;>cases cbB m<;>cases cbB g<;>rfl
def eC3 (f:Int→Int→Int→Bool):List AV→Option AV
  | [.x (.int .i64 a),.x (.int .i64 b),.x (.int .i64 c)]=>some (bA (f a b c))
  | _=>none
theorem eC3_ok:EOk Tryz.prog ⟨62,eC3 mcB⟩:=fun args r hr=>by
  simp only [eC3] at hr
  split at hr
  · cases hr; exact Or.inl (mc_spec _ _ _)
  · cases hr
section
variable (f:Int→Int→Int→Bool) (k:Nat→Int)
def beB:Bool:=cond (decide (k 9 < 100)) true (decide (k 9 > 10000))
def skX:Option Out:=cond (!f (k 0) (k 3) (k 6)) (oI 6) (cond (!f (k 1) (k 4) (k 7)) (oI 6) (cond (!f (k 2) (k 5) (k 8)) (oI 6) (cond (beB k) (oI 6) (oI 0))))
theorem sk_ev:ev Tryz.prog [⟨62,eC3 f⟩] [] noL Tryz.f18 [.agg (skC k)] ret=skX f k:=by kernel_rfl
end
/-- The errno of a skin. -/
def skE (k:Nat→Int):Int:=cond (!mcB (k 0) (k 3) (k 6)) 6 (cond (!mcB (k 1) (k 4) (k 7)) 6 (cond (!mcB (k 2) (k 5) (k 8)) 6 (cond (beB k) 6 0)))
theorem skX_eq (k:Nat→Int):skX mcB k=oI (skE k):=by
  unfold skX skE
  cases mcB (k 0) (k 3) (k 6)<;>cases mcB (k 1) (k 4) (k 7)<;>cases mcB (k 2) (k 5) (k 8)<;>cases beB k<;>rfl
theorem sk_spec (k:Nat→Int):FSpec Tryz.prog 18 [.agg (skC k)] (iA (skE k)) :=
  gspec (e_cons eC3_ok e_nil) k_nil Tryz.func18 (by kernel_rfl) (by kernel_rfl) noL_ok rfl ((sk_ev mcB k).trans (skX_eq k))
def bcB (a b g:Int):Bool:=cond (cond (cond (cond (cond (cond (decide (a < 0)) true (decide (a > 1000))) true (decide (b < 0))) true (decide (b > 1000))) true (decide (g < 0))) true (decide (g > 1000))) true (decide (w64 (w64 (a+b)+g) > 1000))
theorem rsk_ev (k:Nat→Int):ev Tryz.prog [] [] noL Tryz.f19 [.agg (skC k)] ret=cond (bcB (k 0) (k 3) (k 6)) (oI 6) (cond (bcB (k 1) (k 4) (k 7)) (oI 6) (cond (bcB (k 2) (k 5) (k 8)) (oI 6) (cond (beB k) (oI 6) (oI 0)))):=by kernel_rfl
theorem bcB_eq (a b g:Int):bcB a b g=!mcB a b g:=by
  unfold bcB mcB cbB suB
  have e:decide (w64 (w64 (a+b)+g) > 1000)=!decide (w64 (w64 (a+b)+g)≤1000):=by
    by_cases h:w64 (w64 (a+b)+g)≤1000
    · rw [decide_eq_true h,decide_eq_false (by omega)]; rfl
    · rw [decide_eq_false h,decide_eq_true (by omega)]; rfl
  rw [e]
  cases decide (a < 0)<;>cases decide (a > 1000)<;>cases decide (b < 0)<;>cases decide (b > 1000)<;>cases decide (g < 0)<;>cases decide (g > 1000)<;>rfl
theorem rsk_spec (k:Nat→Int):FSpec Tryz.prog 19 [.agg (skC k)] (iA (skE k)):=by
  refine gspec e_nil k_nil Tryz.func19 (by kernel_rfl) (by kernel_rfl) noL_ok rfl ((rsk_ev k).trans ?_)
  rw [bcB_eq,bcB_eq,bcB_eq]
  exact skX_eq k
def lbB (x:Int):Bool:=cond (decide (x < 0)) true (decide (x > 65536))
def liB (l:Nat→Int):Bool:=cond (lbB (l 0)) false (cond (lbB (l 1)) false (cond (lbB (l 2)) false true))
abbrev liC (l:Nat→Int):List AV:=[iA (l 0),iA (l 1),iA (l 2)]
theorem li_ev (l:Nat→Int):ev Tryz.prog [] [] noL Tryz.f45 [.agg (liC l)] ret=cond (lbB (l 0)) (oB false) (cond (lbB (l 1)) (oB false) (cond (lbB (l 2)) (oB false) (oB true))):=by kernel_rfl
theorem li_spec (l:Nat→Int):FSpec Tryz.prog 45 [.agg (liC l)] (bA (liB l)):=by
  refine gspec e_nil k_nil Tryz.func45 (by kernel_rfl) (by kernel_rfl) noL_ok rfl ((li_ev l).trans ?_)
  unfold liB
  cases lbB (l 0)<;>cases lbB (l 1)<;>cases lbB (l 2)<;>rfl
def lrB (ok:Bool) (x:Int):Bool:=cond (cond ok (decide (x ≥ 0)) false) (decide (x≤65536)) false
theorem rli_ev (l:Nat→Int):ev Tryz.prog [] [] noL Tryz.f50 [.agg (liC l)] ret=oB (lrB (lrB (lrB true (l 0)) (l 1)) (l 2)):=by kernel_rfl
theorem lrB_eq (ok:Bool) (x:Int):lrB ok x=cond ok (!lbB x) false:=by
  unfold lrB lbB
  have e1:decide (x ≥ 0)=!decide (x < 0):=by
    by_cases h:x < 0
    · rw [decide_eq_true h,decide_eq_false (by omega)]; rfl
    · rw [decide_eq_false h,decide_eq_true (by omega)]; rfl
  have e2:decide (x≤65536)=!decide (x > 65536):=by
    by_cases h:x > 65536
    · rw [decide_eq_true h,decide_eq_false (by omega)]; rfl
    · rw [decide_eq_false h,decide_eq_true (by omega)]; rfl
  rw [e1,e2]
  cases ok<;>cases decide (x < 0)<;>cases decide (x > 65536)<;>rfl
theorem rli_spec (l:Nat→Int):FSpec Tryz.prog 50 [.agg (liC l)] (bA (liB l)):=by
  refine gspec e_nil k_nil Tryz.func50 (by kernel_rfl) (by kernel_rfl) noL_ok rfl ((rli_ev l).trans ?_)
  rw [lrB_eq,lrB_eq,lrB_eq]
  unfold liB
  cases lbB (l 0)<;>cases lbB (l 1)<;>cases lbB (l 2)<;>rfl
def eL3 (f:(Nat→Int)→Bool):List AV→Option AV
  | [.agg [.x (.int .i64 a),.x (.int .i64 b),.x (.int .i64 c)]]=>some (bA (f (fun q=>match q with | 0=>a | 1=>b | _=>c)))
  | _=>none
theorem eL3_ok:EOk Tryz.prog ⟨45,eL3 liB⟩:=fun args r hr=>by
  simp only [eL3] at hr
  split at hr
  · rename_i a b c
    cases hr; exact Or.inl (li_spec fun q=>match q with | 0=>a | 1=>b | _=>c)
  · cases hr
/-- The errno of a lamp. -/
def lmE (a:Nat→Nat) (l:Nat→Int):Int:=cond (!fineS (a 0) (a 1) (a 2)) 1 (cond (!liB l) 6 0)
theorem lm_ev (a:Nat→Nat) (l:Nat→Int):ev Tryz.prog (⟨45,eL3 liB⟩::V2) [] noL Tryz.f44 [.agg (lmC a l)] ret=cond (!fineS (a 0) (a 1) (a 2)) (oI 1) (cond (!liB l) (oI 6) (oI 0)):=by kernel_rfl
theorem lm_spec (a:Nat→Nat) (l:Nat→Int):FSpec Tryz.prog 44 [.agg (lmC a l)] (iA (lmE a l)):=by
  refine gspec (e_cons eL3_ok V2_ok) k_nil Tryz.func44 (by kernel_rfl) (by kernel_rfl) noL_ok rfl ((lm_ev a l).trans ?_)
  unfold lmE
  cases fineS (a 0) (a 1) (a 2)<;>cases liB l<;>rfl
def feB (e:Nat→Nat):Bool:=cond (cond (cond (!fineS (e 0) (e 1) (e 2)) true (!fineS (e 3) (e 4) (e 5))) true (!fineS (e 6) (e 7) (e 8))) true (!nearS (e 9))
section
variable (e:Nat→Nat)
def dX:Nat:=fsub (e 3) (e 0)
def dY:Nat:=fsub (e 4) (e 1)
def dZ:Nat:=fsub (e 5) (e 2)
def uX:Nat:=unN (dX e) (dY e) (dZ e) (dX e)
def uY:Nat:=unN (dX e) (dY e) (dZ e) (dY e)
def uZ:Nat:=unN (dX e) (dY e) (dZ e) (dZ e)
def upB:Bool:=feq (lengthS (crX (uY e) (uZ e) (e 7) (e 8)) (crX (uZ e) (uX e) (e 8) (e 6)) (crX (uX e) (uY e) (e 6) (e 7))) 0
def eyX (b:Bool):Option Out:=cond (feB e) (oI 1) (cond b (oI 6) (cond (!(unE (dX e) (dY e) (dZ e)==0)) (oI (unE (dX e) (dY e) (dZ e))) (cond (upB e) (oI 2) (oI 0))))
/-- The errno of an eye. -/
def eyE:Int:=cond (feB e) 1 (cond (!fgt (e 9) 0) 6 (cond (!(unE (dX e) (dY e) (dZ e)==0)) (unE (dX e) (dY e) (dZ e)) (cond (upB e) 2 0)))
theorem ey_ev:ev Tryz.prog V3 [] noL Tryz.f16 [.agg (eyC e)] ret=eyX e (!fgt (e 9) 0):=by kernel_rfl
theorem rey_ev:ev Tryz.prog R3 [] noL Tryz.f17 [.agg (eyC e)] ret=eyX e (fle (e 9) 0):=by kernel_rfl
theorem eyX_eq:eyX e (!fgt (e 9) 0)=oI (eyE e):=by
  unfold eyX eyE
  cases feB e<;>cases fgt (e 9) 0<;>cases (unE (dX e) (dY e) (dZ e)==0)<;>cases upB e<;>rfl
theorem ey_spec:FSpec Tryz.prog 16 [.agg (eyC e)] (iA (eyE e)) :=
  gspec V3_ok k_nil Tryz.func16 (by kernel_rfl) (by kernel_rfl) noL_ok rfl ((ey_ev e).trans (eyX_eq e))
theorem rey_spec:FSpec Tryz.prog 17 [.agg (eyC e)] (iA (eyE e)):=by
  refine gspec R3_ok k_nil Tryz.func17 (by kernel_rfl) (by kernel_rfl) noL_ok rfl ((rey_ev e).trans ?_)
  have h:eyX e (fle (e 9) 0)=eyX e (!fgt (e 9) 0):=by
    unfold eyX
    cases hf:feB e
    · have hn:nearS (e 9)=true:=by
        unfold feB at hf
        revert hf
        cases fineS (e 0) (e 1) (e 2)<;>cases fineS (e 3) (e 4) (e 5)<;>cases fineS (e 6) (e 7) (e 8)<;>cases nearS (e 9)<;>intro hf<;>first | rfl | (cases hf)
      rw [not_gt hn]
    · rfl
  exact h.trans (eyX_eq e)
end
def weE (e sk:Int) (n:Nat):Int:=cond (!(e==0)) e (cond (decide (sk ≥ (n:Int))) 9 0)
theorem we_ev (e sk:Int) (n:Nat) (el:Nat→List AV):ev Tryz.prog [] [] noL Tryz.f97 [iA e,iA sk,.sl 10 n el] ret=cond (!(e==0)) (oI e) (cond (decide (sk ≥ (n:Int))) (oI 9) (oI 0)):=by kernel_rfl
theorem we_spec (e sk:Int) (n:Nat) (el:Nat→List AV):FSpec Tryz.prog 97 [iA e,iA sk,.sl 10 n el] (iA (weE e sk n)):=by
  refine gspec e_nil k_nil Tryz.func97 (by kernel_rfl) (by kernel_rfl) noL_ok rfl ((we_ev e sk n el).trans ?_)
  unfold weE
  cases e==0<;>cases decide (sk ≥ (n:Int))<;>rfl
end Go.Proofs.YtefphimaggjihaaGreatDoor.Hs.Sc

namespace Go.Proofs.YtefphimaggjihaaGreatDoor.Hs.Sc
open Go.Gv So Fm
open Go.Ev (cn fadd fsub fmul fdiv fsqrt fneg feq flt fle fgt fge fabs isNan)

structure Shp where
  k:Int
  a:Nat→Nat
  sk:Int
abbrev Shp.c (s:Shp):List AV:=shC s.k s.a s.sk
structure Sld where
  n:Nat
  P:Nat→Prt
  sk:Int
abbrev Sld.c (s:Sld):List AV:=soC s.n s.P s.sk
structure Scn where
  nS:Nat
  S:Nat→Shp
  nO:Nat
  O:Nat→Sld
  nF:Nat
  F:Nat→Fm.Fd
  nK:Nat
  K:Nat→Nat→Int
  nL:Nat
  LA:Nat→Nat→Nat
  LL:Nat→Nat→Int
  sky:Nat→Int
  eye:Nat→Nat
abbrev Scn.vS (s:Scn):AV:=.sl 13 s.nS fun q=>(s.S q).c
abbrev Scn.vO (s:Scn):AV:=.sl 2 s.nO fun q=>(s.O q).c
abbrev Scn.vF (s:Scn):AV:=.sl 8 s.nF fun q=>(s.F q).c
abbrev Scn.vK (s:Scn):AV:=.sl 10 s.nK fun q=>skC (s.K q)
abbrev Scn.vL (s:Scn):AV:=.sl 6 s.nL fun q=>lmC (s.LA q) (s.LL q)
def Scn.c (s:Scn):List AV:=[s.vS,s.vO,s.vF,s.vK,s.vL,iA (s.sky 0),iA (s.sky 1),iA (s.sky 2),.f (s.eye 0),.f (s.eye 1),.f (s.eye 2),.f (s.eye 3),.f (s.eye 4),.f (s.eye 5),.f (s.eye 6),.f (s.eye 7),.f (s.eye 8),.f (s.eye 9)]
def tmB (s:Scn):Bool:=cond (cond (cond (cond (decide ((s.nS:Int) > 64)) true (decide ((s.nO:Int) > 8))) true (decide ((s.nF:Int) > 2))) true (decide ((s.nK:Int) > 16))) true (decide ((s.nL:Int) > 4))
theorem tm_spec (s:Scn):FSpec Tryz.prog 42 [.agg s.c] (bA (tmB s)) :=
  gspec e_nil k_nil Tryz.func42 (by kernel_rfl) (by kernel_rfl) noL_ok rfl (show ev Tryz.prog [] [] noL Tryz.f42 [.agg s.c] ret=oB (tmB s) by kernel_rfl)
noncomputable def mlC (f:Nat) (n:Nat) (c:Nat→List AV) (g:List AV→Int) (i:Int) (o:Option Out) (r:Int→Option Out) (oe:Option Out):Option Out:=cond (decide (i < n)) (cond (ixB i n||false) (gate (FSpec Tryz.prog f [.agg (c i.toNat)] (iA (g (c i.toNat)))) (cond (!(g (c i.toNat)==0)) (r (g (c i.toNat))) o)) none) oe
section
variable (fk:List AV→Int) (s:Scn) (i:Int)
def m1S:St:=mkS 50 [(1,.own 0 0),(13,s.vK),(14,iA s.nK),(15,iA i)] [.c s.c]
def m2S:St:=mkS 50 [(1,.own 0 0),(31,s.vL),(32,iA s.nL),(33,iA i)] [.c s.c]
def mE (e:Int):St:=mkS 50 [(2,iA e)] []
def keep1:List Nat:=[1,13,14,15]
def keep2:List Nat:=[1,31,32,33]
theorem m1_step:evC Tryz.prog [] [kS Tryz.prog 18 (gO fk)] noL (loopAt Tryz.f14 0) (m1S s i) (finN keep1 [some 0])=mlC 18 s.nK (fun q=>skC (s.K q)) fk i (some ⟨.normal,m1S s (w64 (i+1)),.any⟩) (fun _=>none) none:=by kernel_rfl
theorem m1_ret:evC Tryz.prog [] [kS Tryz.prog 18 (gO fk)] noL (loopAt Tryz.f14 0) (m1S s i) (finR [2] [])=mlC 18 s.nK (fun q=>skC (s.K q)) fk i none (fun e=>some ⟨.ret,mE e,.any⟩) none:=by kernel_rfl
theorem m1_end:evC Tryz.prog [] [kS Tryz.prog 18 (gO fk)] noL (loopAt Tryz.f14 0) (m1S s i) (finE keep1 [some 0])=mlC 18 s.nK (fun q=>skC (s.K q)) fk i none (fun _=>none) (some ⟨.exit 0,m1S s i,.any⟩):=by kernel_rfl
theorem m2_step:evC Tryz.prog [] [kS Tryz.prog 44 (gO fk)] noL (loopAt Tryz.f14 1) (m2S s i) (finN keep2 [some 0])=mlC 44 s.nL (fun q=>lmC (s.LA q) (s.LL q)) fk i (some ⟨.normal,m2S s (w64 (i+1)),.any⟩) (fun _=>none) none:=by kernel_rfl
theorem m2_ret:evC Tryz.prog [] [kS Tryz.prog 44 (gO fk)] noL (loopAt Tryz.f14 1) (m2S s i) (finR [2] [])=mlC 44 s.nL (fun q=>lmC (s.LA q) (s.LL q)) fk i none (fun e=>some ⟨.ret,mE e,.any⟩) none:=by kernel_rfl
theorem m2_end:evC Tryz.prog [] [kS Tryz.prog 44 (gO fk)] noL (loopAt Tryz.f14 1) (m2S s i) (finE keep2 [some 0])=mlC 44 s.nL (fun q=>lmC (s.LA q) (s.LL q)) fk i none (fun _=>none) (some ⟨.exit 2,m2S s i,.any⟩):=by kernel_rfl
def gW:List AV→AV
  | [.x (.int .i64 e),.x (.int .i64 sk),.sl _ n _]=>iA (weE e sk n)
  | _=>.any
noncomputable def mtC (f:Nat) (n:Nat) (c:Nat→List AV) (sk:Nat→Int) (o:Option Out) (r:Int→Option Out) (oe:Option Out):Option Out:=cond (decide (i < n)) (cond (ixB i n||false) (gate (FSpec Tryz.prog f [.agg (c i.toNat)] (iA (fk (c i.toNat)))) (gate (FSpec Tryz.prog 97 [iA (fk (c i.toNat)),iA (sk i.toNat),s.vK] (iA (weE (fk (c i.toNat)) (sk i.toNat) s.nK))) (cond (!(weE (fk (c i.toNat)) (sk i.toNat) s.nK==0)) (r (weE (fk (c i.toNat)) (sk i.toNat) s.nK)) o))) none) oe
def t1S:St:=mkS 66 [(1,.own 0 0),(13,s.vS),(14,iA s.nS),(15,iA i)] [.c s.c]
def t2S:St:=mkS 66 [(1,.own 0 0),(31,s.vO),(32,iA s.nO),(33,iA i)] [.c s.c]
def t3S:St:=mkS 66 [(1,.own 0 0),(49,s.vF),(50,iA s.nF),(51,iA i)] [.c s.c]
def tE (e:Int):St:=mkS 66 [(2,iA e)] []
def keep3:List Nat:=[1,49,50,51]
noncomputable def tK (f:Nat):List KEntry:=[kS Tryz.prog f (gO fk),kS Tryz.prog 97 gW]
theorem t1_step:evC Tryz.prog [] (tK fk 98) noL (loopAt Tryz.f43 0) (t1S s i) (finN keep1 [some 0])=mtC fk s i 98 s.nS (fun q=>(s.S q).c) (fun q=>(s.S q).sk) (some ⟨.normal,t1S s (w64 (i+1)),.any⟩) (fun _=>none) none:=by kernel_rfl
theorem t1_ret:evC Tryz.prog [] (tK fk 98) noL (loopAt Tryz.f43 0) (t1S s i) (finR [2] [])=mtC fk s i 98 s.nS (fun q=>(s.S q).c) (fun q=>(s.S q).sk) none (fun e=>some ⟨.ret,tE e,.any⟩) none:=by kernel_rfl
theorem t1_end:evC Tryz.prog [] (tK fk 98) noL (loopAt Tryz.f43 0) (t1S s i) (finE keep1 [some 0])=mtC fk s i 98 s.nS (fun q=>(s.S q).c) (fun q=>(s.S q).sk) none (fun _=>none) (some ⟨.exit 0,t1S s i,.any⟩):=by kernel_rfl
theorem t2_step:evC Tryz.prog [] (tK fk 99) noL (loopAt Tryz.f43 1) (t2S s i) (finN keep2 [some 0])=mtC fk s i 99 s.nO (fun q=>(s.O q).c) (fun q=>(s.O q).sk) (some ⟨.normal,t2S s (w64 (i+1)),.any⟩) (fun _=>none) none:=by kernel_rfl
theorem t2_ret:evC Tryz.prog [] (tK fk 99) noL (loopAt Tryz.f43 1) (t2S s i) (finR [2] [])=mtC fk s i 99 s.nO (fun q=>(s.O q).c) (fun q=>(s.O q).sk) none (fun e=>some ⟨.ret,tE e,.any⟩) none:=by kernel_rfl
theorem t2_end:evC Tryz.prog [] (tK fk 99) noL (loopAt Tryz.f43 1) (t2S s i) (finE keep2 [some 0])=mtC fk s i 99 s.nO (fun q=>(s.O q).c) (fun q=>(s.O q).sk) none (fun _=>none) (some ⟨.exit 2,t2S s i,.any⟩):=by kernel_rfl
theorem t3_step:evC Tryz.prog [] (tK fk 100) noL (loopAt Tryz.f43 2) (t3S s i) (finN keep3 [some 0])=mtC fk s i 100 s.nF (fun q=>(s.F q).c) (fun q=>(s.F q).sk) (some ⟨.normal,t3S s (w64 (i+1)),.any⟩) (fun _=>none) none:=by kernel_rfl
theorem t3_ret:evC Tryz.prog [] (tK fk 100) noL (loopAt Tryz.f43 2) (t3S s i) (finR [2] [])=mtC fk s i 100 s.nF (fun q=>(s.F q).c) (fun q=>(s.F q).sk) none (fun e=>some ⟨.ret,tE e,.any⟩) none:=by kernel_rfl
theorem t3_end:evC Tryz.prog [] (tK fk 100) noL (loopAt Tryz.f43 2) (t3S s i) (finE keep3 [some 0])=mtC fk s i 100 s.nF (fun q=>(s.F q).c) (fun q=>(s.F q).sk) none (fun _=>none) (some ⟨.exit 4,t3S s i,.any⟩):=by kernel_rfl
end
end Go.Proofs.YtefphimaggjihaaGreatDoor.Hs.Sc

namespace Go.Proofs.YtefphimaggjihaaGreatDoor.Hs.Sc
open Go.Gv So Fm
open Go.Ev (cn fadd fsub fmul fdiv fsqrt fneg feq flt fle fgt fge fabs isNan)

def Both (f g:Nat) (c:List AV) (m:Int):Prop:=FSpec Tryz.prog f [.agg c] (iA m)∧FSpec Tryz.prog g [.agg c] (iA m)
/-- The numbers of a field are fine. -/
def FdFine:List AV→Prop
  | [.x (.int .i64 W),.x (.int .i64 H),.f a,.f b,.f d,.f x,.sl _ n el,.x (.int .i64 sk)]=>fineS a b d=true∧nearS x=true∧n≤64∧(2≤W∧W≤8∧2≤H∧H≤8)∧(0≤sk∧sk < 16)∧∀ q,q < n→hBad (match el q with | [.x (.int .i64 h)]=>h | _=>0)=false
  | _=>False
open Classical in
noncomputable def fFd (c:List AV):Int:=if h:∃ m,Both 100 48 c m∧(m=0→FdFine c) then h.choose else 0
theorem fFd_ok (F:Fm.Fd):Both 100 48 F.c (fFd F.c)∧(fFd F.c=0→FdFine F.c):=by
  have h:∃ m,Both 100 48 F.c m∧(m=0→FdFine F.c):=by
    obtain ⟨m,h1,h2,h3⟩:=field_all F
    refine ⟨m,⟨h1,h2⟩,fun e=>?_⟩
    obtain ⟨h4,h5,h6⟩:=h3 e
    have h7:=mayN_all h6
    unfold Fd.far at h4
    show fineS (F.at_ 0) (F.at_ 1) (F.at_ 2)=true∧nearS F.sd=true∧F.n≤64∧(2≤F.W∧F.W≤8∧2≤F.H∧F.H≤8)∧(0≤F.sk∧F.sk < 16)∧∀ q,q < F.n→hBad (F.hs q)=false
    revert h4
    cases fineS (F.at_ 0) (F.at_ 1) (F.at_ 2)<;>cases nearS F.sd<;>intro h4<;>first | (cases h4; done) | exact ⟨rfl,rfl,h5,h7⟩
  unfold fFd
  rw [dif_pos h]
  exact h.choose_spec
def fSk:List AV→Int
  | [.x (.int .i64 a),.x (.int .i64 b),.x (.int .i64 c),.x (.int .i64 d),.x (.int .i64 e),.x (.int .i64 f),.x (.int .i64 g),.x (.int .i64 h),.x (.int .i64 i),.x (.int .i64 j)]=>skE fun q=>match q with | 0=>a | 1=>b | 2=>c | 3=>d | 4=>e | 5=>f | 6=>g | 7=>h | 8=>i | _=>j
  | _=>0
theorem fSk_eq (k:Nat→Int):fSk (skC k)=skE k:=rfl
def dSo:List AV→Sld
  | [.sl _ n el,.x (.int .i64 sk)]=>⟨n,fun i=>decP (el i),sk⟩
  | _=>⟨0,fun _=>decP [],0⟩
noncomputable def fSo (c:List AV):Int:=soE (dSo c).n (dSo c).P (dSo c).sk
noncomputable def fSh:List AV→Int:=mayC
theorem fSk_ok (k:Nat→Int):Both 18 19 (skC k) (fSk (skC k)):=by rw [fSk_eq]; exact ⟨sk_spec k,rsk_spec k⟩
theorem fSo_ok (s:Sld):Both 99 47 s.c (fSo s.c):=⟨smay_spec s.n s.P s.sk,rsmay_spec s.n s.P s.sk⟩
theorem fSh_ok (s:Shp):Both 98 46 s.c (fSh s.c):=mayC_spec s.k s.a s.sk
def fLm:List AV→Int
  | [.f a,.f b,.f d,.x (.int .i64 x),.x (.int .i64 y),.x (.int .i64 z)]=>lmE (ls [a,b,d]) (fun q=>match q with | 0=>x | 1=>y | _=>z)
  | _=>0
section
variable (s:Scn)
def eK (q:Nat):Int:=fSk (skC (s.K q))
noncomputable def eS (q:Nat):Int:=weE (fSh (s.S q).c) (s.S q).sk s.nK
noncomputable def eO (q:Nat):Int:=weE (fSo (s.O q).c) (s.O q).sk s.nK
noncomputable def eF (q:Nat):Int:=weE (fFd (s.F q).c) (s.F q).sk s.nK
def eL (q:Nat):Int:=lmE (s.LA q) (s.LL q)
noncomputable def thE:Int:=cond (seqE (eS s) s.nS==0) (cond (seqE (eO s) s.nO==0) (seqE (eF s) s.nF) (seqE (eO s) s.nO)) (seqE (eS s) s.nS)
/-- The errno of a scene. -/
noncomputable def scE:Int:=cond (tmB s) 4 (cond (seqE (eK s) s.nK==0) (cond (thE s==0) (cond (seqE (eL s) s.nL==0) (cond (!liB s.sky) 6 (eyE s.eye)) (seqE (eL s) s.nL)) (thE s)) (seqE (eK s) s.nK))
theorem tm_few (h:tmB s=false):s.nS≤64∧s.nO≤8∧s.nF≤2∧s.nK≤16∧s.nL≤4:=by
  unfold tmB at h
  have d1:¬ (s.nS:Int) > 64:=fun c=>by rw [decide_eq_true c] at h; cases h
  rw [decide_eq_false d1,cond_false] at h
  have d2:¬ (s.nO:Int) > 8:=fun c=>by rw [decide_eq_true c] at h; cases h
  rw [decide_eq_false d2,cond_false] at h
  have d3:¬ (s.nF:Int) > 2:=fun c=>by rw [decide_eq_true c] at h; cases h
  rw [decide_eq_false d3,cond_false] at h
  have d4:¬ (s.nK:Int) > 16:=fun c=>by rw [decide_eq_true c] at h; cases h
  rw [decide_eq_false d4,cond_false] at h
  have d5:¬ (s.nL:Int) > 4:=fun c=>by rw [decide_eq_true c] at h; cases h
  omega
end
theorem mlC_t {f n:Nat} {c:Nat→List AV} {g:List AV→Int} {k:Nat} (hk:k < n) (h:FSpec Tryz.prog f [.agg (c k)] (iA (g (c k)))) (o:Option Out) (r:Int→Option Out) (oe:Option Out):mlC f n c g (k:Nat) o r oe=cond (g (c k)==0) o (r (g (c k))):=by
  unfold mlC
  rw [dec_lt hk,ixB_t hk,Int.toNat_natCast,gate_pos h]
  cases g (c k)==0<;>rfl
theorem mlC_e (f n:Nat) (c:Nat→List AV) (g:List AV→Int) (o:Option Out) (r:Int→Option Out) (oe:Option Out):mlC f n c g (n:Nat) o r oe=oe:=by
  unfold mlC
  rw [dec_self,cond_false]
theorem mtC_t {f n:Nat} {c:Nat→List AV} {g:List AV→Int} {s:Scn} {sk:Nat→Int} {k:Nat} (hk:k < n) (h:FSpec Tryz.prog f [.agg (c k)] (iA (g (c k)))) (o:Option Out) (r:Int→Option Out) (oe:Option Out):mtC g s (k:Nat) f n c sk o r oe=cond (weE (g (c k)) (sk k) s.nK==0) o (r (weE (g (c k)) (sk k) s.nK)):=by
  unfold mtC
  rw [dec_lt hk,ixB_t hk,Int.toNat_natCast,gate_pos h,gate_pos (we_spec _ _ _ _)]
  cases weE (g (c k)) (sk k) s.nK==0<;>rfl
theorem mtC_e (f n:Nat) (c:Nat→List AV) (g:List AV→Int) (s:Scn) (sk:Nat→Int) (o:Option Out) (r:Int→Option Out) (oe:Option Out):mtC g s (n:Nat) f n c sk o r oe=oe:=by
  unfold mtC
  rw [dec_self,cond_false]
theorem k1_ok {f:Nat} {g:List AV→AV}:∀ e,e ∈ [kS Tryz.prog f g]→KOk Tryz.prog e:=k_cons kS_ok k_nil
theorem tK_ok {fk:List AV→Int} {f:Nat}:∀ e,e ∈ tK fk f→KOk Tryz.prog e:=k_cons kS_ok (k_cons kS_ok k_nil)
section
variable {s:Scn}
theorem m1_sound (h:s.nK≤1000):LSound Tryz.prog (loopAt Tryz.f14 0) (mayT keep1 [some 0] (m1S s) (.exit 0) mE (eK s) s.nK):=by
  refine mayT_sound (by simp) (fun k hk hb=>?_) (fun k hk hb=>?_) ?_
  · refine leads_ev (finN_sub _ _) e_nil k1_ok noL_ok ((m1_step fSk s (k:Nat)).trans ?_)
    rw [mlC_t hk (fSk_ok _).1,show fSk (skC (s.K k))=0 from hb,w64_next (by omega)]; rfl
  · refine leads_ev (finR_sub _ _) e_nil k1_ok noL_ok ((m1_ret fSk s (k:Nat)).trans ?_)
    rw [mlC_t hk (fSk_ok _).1,beq_false_of_ne (show fSk (skC (s.K k))≠0 from hb)]; rfl
  · exact leads_ev (finE_sub _ _) e_nil k1_ok noL_ok ((m1_end fSk s (s.nK:Nat)).trans (mlC_e _ _ _ _ _ _ _))
theorem m2_sound (h:s.nL≤1000):LSound Tryz.prog (loopAt Tryz.f14 1) (mayT keep2 [some 0] (m2S s) (.exit 2) mE (eL s) s.nL):=by
  refine mayT_sound (by simp) (fun k hk hb=>?_) (fun k hk hb=>?_) ?_
  · refine leads_ev (finN_sub _ _) e_nil k1_ok noL_ok ((m2_step fLm s (k:Nat)).trans ?_)
    rw [mlC_t hk (lm_spec _ _),show fLm (lmC (s.LA k) (s.LL k))=0 from hb,w64_next (by omega)]; rfl
  · refine leads_ev (finR_sub _ _) e_nil k1_ok noL_ok ((m2_ret fLm s (k:Nat)).trans ?_)
    rw [mlC_t hk (lm_spec _ _),beq_false_of_ne (show fLm (lmC (s.LA k) (s.LL k))≠0 from hb)]; rfl
  · exact leads_ev (finE_sub _ _) e_nil k1_ok noL_ok ((m2_end fLm s (s.nL:Nat)).trans (mlC_e _ _ _ _ _ _ _))
theorem t1_sound (h:s.nS≤1000):LSound Tryz.prog (loopAt Tryz.f43 0) (mayT keep1 [some 0] (t1S s) (.exit 0) tE (eS s) s.nS):=by
  refine mayT_sound (by simp) (fun k hk hb=>?_) (fun k hk hb=>?_) ?_
  · refine leads_ev (finN_sub _ _) e_nil tK_ok noL_ok ((t1_step fSh s (k:Nat)).trans ?_)
    rw [mtC_t hk (fSh_ok _).1,show weE (fSh (s.S k).c) (s.S k).sk s.nK=0 from hb,w64_next (by omega)]; rfl
  · refine leads_ev (finR_sub _ _) e_nil tK_ok noL_ok ((t1_ret fSh s (k:Nat)).trans ?_)
    rw [mtC_t hk (fSh_ok _).1,beq_false_of_ne (show weE (fSh (s.S k).c) (s.S k).sk s.nK≠0 from hb)]; rfl
  · exact leads_ev (finE_sub _ _) e_nil tK_ok noL_ok ((t1_end fSh s (s.nS:Nat)).trans (mtC_e _ _ _ _ _ _ _ _ _))
theorem t2_sound (h:s.nO≤1000):LSound Tryz.prog (loopAt Tryz.f43 1) (mayT keep2 [some 0] (t2S s) (.exit 2) tE (eO s) s.nO):=by
  refine mayT_sound (by simp) (fun k hk hb=>?_) (fun k hk hb=>?_) ?_
  · refine leads_ev (finN_sub _ _) e_nil tK_ok noL_ok ((t2_step fSo s (k:Nat)).trans ?_)
    rw [mtC_t hk (fSo_ok _).1,show weE (fSo (s.O k).c) (s.O k).sk s.nK=0 from hb,w64_next (by omega)]; rfl
  · refine leads_ev (finR_sub _ _) e_nil tK_ok noL_ok ((t2_ret fSo s (k:Nat)).trans ?_)
    rw [mtC_t hk (fSo_ok _).1,beq_false_of_ne (show weE (fSo (s.O k).c) (s.O k).sk s.nK≠0 from hb)]; rfl
  · exact leads_ev (finE_sub _ _) e_nil tK_ok noL_ok ((t2_end fSo s (s.nO:Nat)).trans (mtC_e _ _ _ _ _ _ _ _ _))
theorem t3_sound (h:s.nF≤1000):LSound Tryz.prog (loopAt Tryz.f43 2) (mayT keep3 [some 0] (t3S s) (.exit 4) tE (eF s) s.nF):=by
  refine mayT_sound (by simp) (fun k hk hb=>?_) (fun k hk hb=>?_) ?_
  · refine leads_ev (finN_sub _ _) e_nil tK_ok noL_ok ((t3_step fFd s (k:Nat)).trans ?_)
    rw [mtC_t hk (fFd_ok _).1.1,show weE (fFd (s.F k).c) (s.F k).sk s.nK=0 from hb,w64_next (by omega)]; rfl
  · refine leads_ev (finR_sub _ _) e_nil tK_ok noL_ok ((t3_ret fFd s (k:Nat)).trans ?_)
    rw [mtC_t hk (fFd_ok _).1.1,beq_false_of_ne (show weE (fFd (s.F k).c) (s.F k).sk s.nK≠0 from hb)]; rfl
  · exact leads_ev (finE_sub _ _) e_nil tK_ok noL_ok ((t3_end fFd s (s.nF:Nat)).trans (mtC_e _ _ _ _ _ _ _ _ _))
end
section
variable (s:Scn) (f1 f2 f3:Nat→Int) (tm lb:Bool) (th ey:Int)
/-- A loop's answer. -/
noncomputable def lpO (f:Nat→Int) (n:Nat) (S:St) (o:Option Out):Option Out:=cond (seqE f n==0) (gate (Sub S S) o) (gate (Sub S S) (oI (seqE f n)))
theorem lpO_t (f:Nat→Int) (n:Nat) (S:St) (o:Option Out):lpO f n S o=cond (seqE f n==0) o (oI (seqE f n)):=by
  unfold lpO
  rw [gate_pos (Sub.refl _),gate_pos (Sub.refl _)]
noncomputable def tL:Nat→Option LFun:=manyL [(2,mayT keep1 [some 0] (t1S s) (.exit 0) tE f1 s.nS),(9,mayT keep2 [some 0] (t2S s) (.exit 2) tE f2 s.nO),(16,mayT keep3 [some 0] (t3S s) (.exit 4) tE f3 s.nF)]
theorem t_ev:ev Tryz.prog [] [] (tL s f1 f2 f3) Tryz.f43 [.agg s.c] ret=lpO f1 s.nS (t1S s 0) (lpO f2 s.nO (t2S s 0) (lpO f3 s.nF (t3S s 0) (oI 0))):=by kernel_rfl
noncomputable def mL:Nat→Option LFun:=manyL [(4,mayT keep1 [some 0] (m1S s) (.exit 0) mE f1 s.nK),(14,mayT keep2 [some 0] (m2S s) (.exit 2) mE f2 s.nL)]
noncomputable def mK:List KEntry:=[kS Tryz.prog 42 (fun _=>bA tm),kS Tryz.prog 43 (fun _=>iA th),kS Tryz.prog 45 (fun _=>bA lb),kS Tryz.prog 16 (fun _=>iA ey)]
theorem m_ev:ev Tryz.prog [] (mK tm lb th ey) (mL s f1 f2) Tryz.f14 [.agg s.c] ret=gate (FSpec Tryz.prog 42 [.agg s.c] (bA tm)) (cond tm (oI 4) (lpO f1 s.nK (m1S s 0) (gate (FSpec Tryz.prog 43 [.agg s.c] (iA th)) (cond (!(th==0)) (oI th) (lpO f2 s.nL (m2S s 0) (gate (FSpec Tryz.prog 45 [.agg (liC s.sky)] (bA lb)) (cond (!lb) (oI 6) (gate (FSpec Tryz.prog 16 [.agg (eyC s.eye)] (iA ey)) (oI ey))))))))):=by kernel_rfl
end
end Go.Proofs.YtefphimaggjihaaGreatDoor.Hs.Sc
