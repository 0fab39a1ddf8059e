/-
  Pf1 Pf2 Pf3 Pf4 Pf5 Pf6 Pf7 Pf8 Pf9 Pg6 Pg4 Pg5 Pg7 Pg2 Pg3 Pg8 Arg0 Ar1 Ar2 Pg9, one behind the other.
-/
import Derived.Test.YtcdhdnfkcmjnpaaDoorC23
import Derived.Shelf.Strings.Builder1
import Derived.Shelf.Strconv.Itoa3
import Derived.Test.YtcdhdnfkcmjnpaaDoorC12
import Derived.Test.YtcdhdnfkcmjnpaaDoorC18
import Derived.Test.YtcdhdnfkcmjnpaaDoorTie
import Derived.Test.YtcdhdnfkcmjnpaaDoorCards
import Derived.Carry
import Derived.ChangeSlices
import Derived.SizedLaws
import Derived.Deep.DeepHandedRow
import Derived.ProofKit
import Derived.OpenShut
import Derived.Lib.LaidTab
namespace Go.Proofs.YtcdhdnfkcmjnpaaDoor
open Go.Shelf
def Tryd.lays240_ren:Go.Shelf.Ren:=⟨fun | 240=>43 | 276=>53 | n=>n,fun | 0=>0 | 4=>4 | 9=>9 | 20=>20 | 37=>22 | 70=>44 | 72=>46 | 164=>83 | n=>n,fun  | n=>n⟩
theorem Tryd.lays240:Go.Proofs.Lays.n240 Tryd.prog Tryd.lays240_ren:={
  mixed:=by kernel_rfl
  f240:=Tryd.func43.trans (congrArg some (by kernel_rfl))
  f276:=Tryd.func53.trans (congrArg some (by kernel_rfl))
  t0:=Tryd.underlying0
  a0:=Tryd.isAgg0
  z0:=Tryd.sizeOf0
  v0:=Tryd.zeroValue0
  t4:=Tryd.underlying4
  a4:=Tryd.isAgg4
  z4:=Tryd.sizeOf4
  v4:=Tryd.zeroValue4
  t9:=Tryd.underlying9
  a9:=Tryd.isAgg9
  z9:=Tryd.sizeOf9
  v9:=Tryd.zeroValue9
  t20:=Tryd.underlying20
  a20:=Tryd.isAgg20
  z20:=Tryd.sizeOf20
  v20:=Tryd.zeroValue20
  t70:=Tryd.underlying44
  a70:=Tryd.isAgg44
  z70:=Tryd.sizeOf44
  v70:=Tryd.zeroValue44
  t72:=Tryd.underlying46
  a72:=Tryd.isAgg46
  z72:=Tryd.sizeOf46
  v72:=Tryd.zeroValue46
  t164:=Tryd.underlying83
  a164:=Tryd.isAgg83
  z164:=Tryd.sizeOf83
  v164:=Tryd.zeroValue83
}
def Tryd.lays169_ren:Go.Shelf.Ren:=⟨fun | 169=>26 | n=>n,fun | 0=>0 | 3=>3 | 5=>5 | 9=>9 | 37=>22 | 70=>44 | 72=>46 | 127=>75 | n=>n,fun  | n=>n⟩
theorem Tryd.lays169:Go.Proofs.Lays.n169 Tryd.prog Tryd.lays169_ren:={
  mixed:=by kernel_rfl
  f169:=Tryd.func26.trans (congrArg some (by kernel_rfl))
  t0:=Tryd.underlying0
  a0:=Tryd.isAgg0
  z0:=Tryd.sizeOf0
  v0:=Tryd.zeroValue0
  t3:=Tryd.underlying3
  a3:=Tryd.isAgg3
  z3:=Tryd.sizeOf3
  v3:=Tryd.zeroValue3
  t9:=Tryd.underlying9
  a9:=Tryd.isAgg9
  z9:=Tryd.sizeOf9
  v9:=Tryd.zeroValue9
  t37:=Tryd.underlying22
  a37:=Tryd.isAgg22
  z37:=Tryd.sizeOf22
  v37:=Tryd.zeroValue22
  t70:=Tryd.underlying44
  a70:=Tryd.isAgg44
  z70:=Tryd.sizeOf44
  v70:=Tryd.zeroValue44
  t72:=Tryd.underlying46
  a72:=Tryd.isAgg46
  z72:=Tryd.sizeOf46
  v72:=Tryd.zeroValue46
  t127:=Tryd.underlying75
  a127:=Tryd.isAgg75
  z127:=Tryd.sizeOf75
  v127:=Tryd.zeroValue75
}
def Tryd.laysm171_ren:Go.Shelf.Ren:=⟨fun | 129=>81 | 171=>45 | 243=>54 | 246=>62 | 283=>72 | 284=>73 | 285=>74 | 286=>75 | 317=>80 | 318=>82 | 319=>83 | 320=>84 | 337=>88 | 338=>89 | n=>n,fun | 0=>0 | 2=>2 | 3=>3 | 4=>4 | 5=>5 | 9=>9 | 20=>20 | 37=>22 | 46=>102 | 51=>114 | 53=>104 | 171=>103 | 173=>107 | 212=>113 | 213=>115 | 232=>124 | 233=>125 | n=>n,fun | 17=>1 | 18=>4 | 19=>5 | n=>n⟩
theorem Tryd.laysm171:Go.Proofs.LaysM.n171 Tryd.prog Tryd.laysm171_ren:={
  mixed:=by kernel_rfl
  f129:=Tryd.func81.trans (congrArg some (by kernel_rfl))
  f171:=Tryd.func45.trans (congrArg some (by kernel_rfl))
  f243:=Tryd.func54.trans (congrArg some (by kernel_rfl))
  f246:=Tryd.func62.trans (congrArg some (by kernel_rfl))
  f283:=Tryd.func72.trans (congrArg some (by kernel_rfl))
  f284:=Tryd.func73.trans (congrArg some (by kernel_rfl))
  f285:=Tryd.func74.trans (congrArg some (by kernel_rfl))
  f286:=Tryd.func75.trans (congrArg some (by kernel_rfl))
  f317:=Tryd.func80.trans (congrArg some (by kernel_rfl))
  f318:=Tryd.func82.trans (congrArg some (by kernel_rfl))
  f319:=Tryd.func83.trans (congrArg some (by kernel_rfl))
  f320:=Tryd.func84.trans (congrArg some (by kernel_rfl))
  f337:=Tryd.func88.trans (congrArg some (by kernel_rfl))
  f338:=Tryd.func89.trans (congrArg some (by kernel_rfl))
  t0:=Tryd.underlying0
  a0:=Tryd.isAgg0
  z0:=Tryd.sizeOf0
  v0:=Tryd.zeroValue0
  t2:=Tryd.underlying2
  a2:=Tryd.isAgg2
  z2:=Tryd.sizeOf2
  v2:=Tryd.zeroValue2
  t3:=Tryd.underlying3
  a3:=Tryd.isAgg3
  z3:=Tryd.sizeOf3
  v3:=Tryd.zeroValue3
  t4:=Tryd.underlying4
  a4:=Tryd.isAgg4
  z4:=Tryd.sizeOf4
  v4:=Tryd.zeroValue4
  t5:=Tryd.underlying5
  a5:=Tryd.isAgg5
  z5:=Tryd.sizeOf5
  v5:=Tryd.zeroValue5
  t9:=Tryd.underlying9
  a9:=Tryd.isAgg9
  z9:=Tryd.sizeOf9
  v9:=Tryd.zeroValue9
  t20:=Tryd.underlying20
  a20:=Tryd.isAgg20
  z20:=Tryd.sizeOf20
  v20:=Tryd.zeroValue20
  t37:=Tryd.underlying22
  a37:=Tryd.isAgg22
  z37:=Tryd.sizeOf22
  v37:=Tryd.zeroValue22
  t46:=Tryd.underlying102
  a46:=Tryd.isAgg102
  z46:=Tryd.sizeOf102
  v46:=Tryd.zeroValue102
  t51:=Tryd.underlying114
  a51:=Tryd.isAgg114
  z51:=Tryd.sizeOf114
  v51:=Tryd.zeroValue114
  t53:=Tryd.underlying104
  a53:=Tryd.isAgg104
  z53:=Tryd.sizeOf104
  v53:=Tryd.zeroValue104
  t171:=Tryd.underlying103
  a171:=Tryd.isAgg103
  z171:=Tryd.sizeOf103
  v171:=Tryd.zeroValue103
  t173:=Tryd.underlying107
  a173:=Tryd.isAgg107
  z173:=Tryd.sizeOf107
  v173:=Tryd.zeroValue107
  t212:=Tryd.underlying113
  a212:=Tryd.isAgg113
  z212:=Tryd.sizeOf113
  v212:=Tryd.zeroValue113
  t213:=Tryd.underlying115
  a213:=Tryd.isAgg115
  z213:=Tryd.sizeOf115
  t232:=Tryd.underlying124
  a232:=Tryd.isAgg124
  z232:=Tryd.sizeOf124
  v232:=Tryd.zeroValue124
  t233:=Tryd.underlying125
  a233:=Tryd.isAgg125
  z233:=Tryd.sizeOf125
  v233:=Tryd.zeroValue125
  g17:=by kernel_rfl
  g18:=by kernel_rfl
  g19:=by kernel_rfl
  i0:=by kernel_rfl
  i2:=by kernel_rfl
  i3:=by kernel_rfl
  i4:=by kernel_rfl
  i5:=by kernel_rfl
  i9:=by kernel_rfl
  i20:=by kernel_rfl
  i37:=by kernel_rfl
  i46:=by kernel_rfl
  i51:=by kernel_rfl
  i53:=by kernel_rfl
  i171:=by kernel_rfl
  i173:=by kernel_rfl
  i212:=by kernel_rfl
  i232:=by kernel_rfl
  i233:=by kernel_rfl
  m17:=by kernel_rfl
  m18:=by kernel_rfl
  m19:=by kernel_rfl
}
theorem Tryd.bX72:Go.Proofs.Builder.X72 Tryd.prog Tryd.lays240_ren:={ sizeBuilder:=by kernel_rfl,liesBuilder:=by kernel_rfl }
end Go.Proofs.YtcdhdnfkcmjnpaaDoor
namespace Go.Proofs.YtcdhdnfkcmjnpaaDoor.Pi
open Go.Shelf Go.RowKit Go.Gv

theorem pre_x {E:Env}:∀ {vs us:List Value},pre E (vs.map .x) us→us.take vs.length=vs
  | [],us,_=>by simp
  | v::vs,us,h=>by
    obtain ⟨u,us',rfl,h1,h2⟩:=pre_cons.1 h
    rw [rel_x.1 h1,List.length_cons,List.take_succ_cons,pre_x h2]
theorem tab_of {w : World} {A : Nat → Prop} (hg : glob ⟨w, A, fun _ => none⟩) : Lib.TabIs Tryd.prog w "internal/strconv.uint64pow10" .u64 Lib.pow10Tab := by
  have hk:known 1=some ((Lib.pow10Tab.map fun z=>Value.int .u64 z).map .x):=by kernel_rfl
  obtain ⟨h1,h2⟩:=hg 1 _ hk
  have h1:relA _ _ _:=h1
  rw [relA] at h1
  obtain ⟨b,o,cs,e,fz,hp,_,hb,hpre⟩:=h1
  simp only [Value.pointer.injEq,Option.some.injEq,Addr.mk.injEq] at hp
  obtain ⟨rfl,ho,_⟩:=hp
  have hpre:pre _ ((Lib.pow10Tab.map fun z=>Value.int .u64 z).map .x) (cs.toList.drop o):=hpre
  have ho':o=0:=by omega
  subst ho'
  have hsz:=h2 cs e fz hb
  have ht:=pre_x hpre
  rw [List.drop_zero] at ht
  have hlen:(Lib.pow10Tab.map fun z=>Value.int .u64 z).length=cs.toList.length:=by
    rw [List.length_map] at hsz
    exact (Array.length_toList.trans hsz).symm
  rw [hlen,List.take_length] at ht
  unfold Lib.TabIs World.var?
  rw [show Tryd.prog.globalNamed "internal/strconv.uint64pow10" = some 1 by kernel_rfl]
  simp only [Option.bind_some,hb]
  rw [← ht]
theorem itoa_spec {n:Int} (h0:-9223372036854775808≤n) (h1:n≤9223372036854775807):FSpec Tryd.prog 45 [iA n] (zA (lB (Lib.itoa n))):=by
  refine ⟨⟨_,Tryd.func45,by kernel_rfl,by kernel_rfl⟩,fun A w cargs _ hr hg=>?_⟩
  have e:=rels_x (vs:=[.int .i64 n]) hr
  have e2:cargs=#[.int .i64 n]:=by apply Array.ext'; simpa using e
  subst e2
  refine (Any.strconv_Itoa Tryd.laysm171 n h0 h1 w (tab_of hg)).mono fun e w' ⟨h2,k,os,h3⟩=>⟨_,h2,rel_x.2 rfl,?_⟩
  subst h3
  have hb:(w.drewN k).heap=w.heap:=by simp
  exact ⟨rfl,rfl,rfl,by simp [Go.Sort.grow],fun i hi=>by simp only [Go.Sort.grow,hb,Array.getElem?_append,hi,if_true]⟩
theorem setCell_row {w:World} {b:Nat} {p v u:Value} {T:TypeId} (h:w.heap[b]?=some (.cells #[p,v] T (0,0))):w.setCell ⟨b,0,none⟩ u=w.setRow b #[u,v]:=by
  have hlt:b < w.heap.size:=(Array.getElem?_eq_some_iff.1 h).1
  have hv:w.heap[b]=.cells #[p,v] T (0,0):=(Array.getElem?_eq_some_iff.1 h).2
  unfold World.setCell World.setRow
  congr 1
  apply Array.ext_getElem?
  intro i
  simp only [Array.getElem?_modify]
  by_cases hi:b=i
  · subst hi
    rw [if_pos rfl,if_pos rfl,h]
    rfl
  · rw [if_neg hi,if_neg hi]
theorem cc_w {mem:List Row} {k:Nat} {P0 Bv:AV} (hk:mem[k]?=some (.t 46 [P0,Bv])) (hP:P0=.x (.pointer none)∨P0=.own k 0):WSpec Tryd.prog 43 [.own k 0] mem (.tup []) (mem.set k (.t 46 [.own k 0,Bv])):=by
  refine ⟨⟨_,Tryd.func43,by kernel_rfl,by kernel_rfl⟩,fun A0 R w0 E cargs hW hgl hr=>?_⟩
  obtain ⟨u0,t0,e0,r0,hr⟩:=rels_cons.1 hr
  have e1:=rels_nil.1 hr
  subst e1
  obtain ⟨b,c,hO,rfl⟩:=rel_own.1 r0
  have ec:cargs=#[.pointer (some ⟨b,0,none⟩)]:=by apply Array.ext'; simpa using e0
  subst ec
  obtain ⟨row,hrow,hrel⟩:=hW.rows k b c hO
  rw [hk] at hrow
  cases hrow
  obtain ⟨cs,hcs,hpre,hsz⟩:=hrel
  obtain ⟨p,us,e2,rp,hpre⟩:=pre_cons.1 hpre
  obtain ⟨v,us',e3,rv,_⟩:=pre_cons.1 hpre
  have hus:us'=[]:=by
    have:=congrArg List.length e2
    rw [e3] at this
    simp only [Array.length_toList,List.length_cons,hsz] at this
    exact List.eq_nil_of_length_eq_zero (by simpa using this.symm)
  subst hus e3
  have hcs2:cs=#[p,v]:=by apply Array.ext'; simpa using e2
  subst hcs2
  rcases hP with rfl | rfl
  · have ep:=rel_x.1 rp
    subst ep
    refine (Any.Builder_copyCheck_fresh Tryd.lays240 Tryd.bX72 b E.w (by simp [World.cell?,hcs]) (by simp [World.shape?,hcs]; rfl) (by simp [World.frozen?,hcs])).mono fun e w' ⟨h1,h2⟩=>?_
    subst h2
    rw [setCell_row hcs]
    have hnk:E.O mem.length=none:=by
      cases hn:E.O mem.length with
      | none=>rfl
      | some q =>
        obtain ⟨r,g1,_⟩:=hW.rows mem.length q.1 q.2 hn
        simp at g1
    have happ:AppOk E mem (mem.set k (.t 46 [.own k 0,Bv])) mem.length ⟨.any,[],some (k,.t 46 [.own k 0,Bv]),none⟩:=by
      refine ⟨fun j _ b' c' hj=>?_,fun row h=>by cases h⟩
      simp only
      by_cases hjk:j=k
      · subst hjk
        rw [if_pos rfl,List.getElem?_set_self (List.getElem?_eq_some_iff.1 hk).1]
      · rw [if_neg hjk,List.getElem?_set_ne (fun h=>hjk h.symm)]
    have hle:E.le (E.row (E.w.setRow b #[.pointer (some ⟨b,0,none⟩),v]) k b c):=Env.row_le ⟨rfl,rfl,rfl,by simp [World.setRow],fun j _ hj=>setRow_other _ _ _ _ (fun e=>hj (by rw [e]))⟩ (Or.inl (hW.own k b c hO (by unfold liveAt; rw [hk]; rfl)).1) (Or.inr hO)
    obtain ⟨g1,g2⟩:=hW.written hnk happ hO hk rfl #[.pointer (some ⟨b,0,none⟩),v] ⟨_,setRow_heap E.w b _ _ _ (0,0) hcs,pre_cons.2 ⟨_,_,rfl,rel_own.2 ⟨b,c,by simp [Env.row],rfl⟩,pre_cons.2 ⟨_,_,rfl,rel_le hle rv,pre_nil⟩⟩,rfl⟩
    exact ⟨_,_,h1,rfl,g1,g2,rel_tup.2 ⟨_,rfl,rels_nil.2 rfl⟩⟩
  · obtain ⟨b',c',hO',rfl⟩:=rel_own.1 rp
    rw [hO] at hO'
    cases hO'
    refine (Any.Builder_copyCheck_used Tryd.lays240 Tryd.bX72 b E.w (by simp [World.cell?,hcs])).mono fun e w' ⟨h1,h2⟩=>?_
    subst h2
    have hm:mem.set k (.t 46 [.own k 0,Bv])=mem:=by
      apply List.ext_getElem?
      intro j
      by_cases hjk:j=k
      · subst hjk
        rw [List.getElem?_set_self (List.getElem?_eq_some_iff.1 hk).1,hk]
      · rw [List.getElem?_set_ne (fun h=>hjk h.symm)]
    rw [hm]
    exact ⟨_,E,h1,rfl,Env.le.refl E,hW,rel_tup.2 ⟨_,rfl,rels_nil.2 rfl⟩⟩
end Go.Proofs.YtcdhdnfkcmjnpaaDoor.Pi

namespace Go.Proofs.YtcdhdnfkcmjnpaaDoor.Pi
open Go.Shelf Go.RowKit Go.Gv

def uE (l:List UInt8):Nat→List AV:=fun q=>[.x (.int .u8 ((l.getD q 0).toNat:Nat))]
def bB (k n:Nat):Row:=.t 46 [.own 0 0,.osl k 1 0 n]
def bR (l:List UInt8):Row:=.a 5 1 l.length (uE l)
def bM (l:List UInt8):List Row:=[bB 1 l.length,bR l]
def bM2 (l:List UInt8):List Row:=[bB 2 l.length,.dead,bR l]
def bM0:List Row:=[.t 46 [.x (.pointer none),.x (.slice none 0 0)]]
def bM1:List Row:=[.t 46 [.own 0 0,.x (.slice none 0 0)]]
def nU:AV:=.x .nilIface
section
variable (l:List UInt8) (s:ByteArray) (c:Int)
def asB (n m:Nat):Bool:=(cond (n==n) (cond (Nat.blt 0 m) (Nat.ble ((n+m)*1) 140737488355328) false) false)&&true
theorem ws_ev:evGW Tryd.prog [] [] [] [wQ Tryd.prog 43 (fun _ _=>.tup []) (fun _ _=>bM l)] [] noL Tryd.f23 [.own 0 0,zA s] (bM l) [some 0,some 1,some 2] =
    cond (propB (WSpec Tryd.prog 43 [.own 0 0] (bM l) (.tup []) (bM l))) (cond (asB l.length s.size) (gout (.tup [iA (Int.ofNat s.size),nU]) [bB 2 (l.length+s.size),.dead,.a 5 1 (l.length+s.size) fun q=>mixL (Nat.blt q l.length) (uE l q) [.x (.int .u8 (byAt s (q - l.length)))]]) none) none:=by kernel_rfl
theorem ws0_ev:evGW Tryd.prog [] [] [] [wQ Tryd.prog 43 (fun _ _=>.tup []) (fun _ _=>bM1)] [] noL Tryd.f23 [.own 0 0,zA s] bM0 [some 0,some 1] =
    cond (propB (WSpec Tryd.prog 43 [.own 0 0] bM0 (.tup []) bM1)) (cond (cond (Nat.blt 0 s.size) (Nat.ble ((0+s.size)*1) 140737488355328) false&&true) (gout (.tup [iA (Int.ofNat s.size),nU]) [bB 1 (0+s.size),.a 5 1 (0+s.size) fun q=>[.x (.int .u8 (byAt s (q - 0)))]]) none) none:=by kernel_rfl
theorem wb_ev:evGW Tryd.prog [] [] [] [wQ Tryd.prog 43 (fun _ _=>.tup []) (fun _ _=>bM l)] [] noL Tryd.f44 [.own 0 0,yA c] (bM l) [some 0,some 1,some 3] =
    cond (propB (WSpec Tryd.prog 43 [.own 0 0] (bM l) (.tup []) (bM l))) (cond (apB l.length 1&&true) (gout nU [bB 2 (l.length+1),.dead,.a 5 1 (l.length+1) fun q=>mixL (Nat.blt q l.length) (uE l q) (spread l.length [[yA c]] q)]) none) none:=by kernel_rfl
end
theorem cc_used (l:List UInt8):WSpec Tryd.prog 43 [.own 0 0] (bM l) (.tup []) (bM l):=cc_w (mem:=bM l) (k:=0) (P0:=.own 0 0) (Bv:=.osl 1 1 0 l.length) rfl (Or.inr rfl)
theorem cc_fresh:WSpec Tryd.prog 43 [.own 0 0] bM0 (.tup []) bM1:=cc_w (mem:=bM0) (k:=0) (P0:=.x (.pointer none)) (Bv:=.x (.slice none 0 0)) rfl (Or.inl rfl)
theorem asB_t {n m:Nat} (h0:0 < m) (h:n+m≤1000000000):asB n m=true:=by
  unfold asB
  rw [BEq.rfl,show Nat.blt 0 m=true from Nat.ble_eq_true_of_le h0,Nat.ble_eq_true_of_le (by omega)]
  rfl
theorem uE_app (l:List UInt8) (s:List UInt8) (q:Nat):mixL (Nat.blt q l.length) (uE l q) [.x (.int .u8 (((s.getD (q - l.length) 0).toNat:Nat):Int))]=uE (l ++ s) q:=by
  unfold uE
  by_cases h:q < l.length
  · rw [show Nat.blt q l.length=true from Nat.ble_eq_true_of_le h]
    simp only [mixL,List.getD_eq_getElem?_getD,List.getElem?_append_left h]
    rfl
  · have hb:Nat.blt q l.length=false:=by
      cases hb:Nat.blt q l.length
      · rfl
      · exact absurd (Nat.le_of_ble_eq_true hb) h
    rw [hb]
    simp only [List.getD_eq_getElem?_getD,List.getElem?_append_right (Nat.le_of_not_lt h)]
    rfl
theorem ws_spec {l:List UInt8} {s:ByteArray} (h0:0 < s.size) (h:l.length+s.size≤1000000000):GSpec Tryd.prog 23 [.own 0 0,zA s] (bM l) (.tup [iA (Int.ofNat s.size),nU]) (bM2 (l ++ bL s)):=by
  refine (gspecGW e_nil k_nil m_nil (w_cons wQ_ok w_nil) r_nil Tryd.func23 (by kernel_rfl) (by kernel_rfl) (mem:=bM l) noL_okN rfl (τ:=[some 0,some 1,some 2]) (by rfl) ((ws_ev l s).trans (by rw [propB_t (cc_used l),asB_t h0 h]; rfl))).of_rows ?_
  have hlen:(l ++ bL s).length=l.length+s.size:=by rw [List.length_append]; rfl
  refine ⟨Or.inl ?_,Or.inl rfl,Or.inr ⟨5,1,l.length+s.size,_,uE (l ++ bL s),rfl,?_,fun q _=>(uE_app l (bL s) q).symm⟩,trivial⟩
  · show bB 2 (l ++ bL s).length=_
    rw [hlen]
  · unfold bR; rw [hlen]
theorem ws_fresh {s:ByteArray} (h0:0 < s.size) (h:s.size≤1000000000):GSpec Tryd.prog 23 [.own 0 0,zA s] bM0 (.tup [iA (Int.ofNat s.size),nU]) (bM (bL s)):=by
  refine (gspecGW e_nil k_nil m_nil (w_cons wQ_ok w_nil) r_nil Tryd.func23 (by kernel_rfl) (by kernel_rfl) (mem:=bM0) noL_okN rfl (τ:=[some 0,some 1]) (by rfl) ((ws0_ev s).trans (by rw [propB_t cc_fresh,show Nat.blt 0 s.size=true from Nat.ble_eq_true_of_le h0,Nat.ble_eq_true_of_le (by omega)]; rfl))).of_rows ?_
  refine ⟨Or.inl ?_,Or.inr ⟨5,1,0+s.size,_,uE (bL s),rfl,?_,fun q _=>rfl⟩,trivial⟩
  · rw [Nat.zero_add]; rfl
  · unfold bR; rw [Nat.zero_add]; rfl
theorem wb_spec {l:List UInt8} {c:UInt8} (h:l.length≤1000000000):GSpec Tryd.prog 44 [.own 0 0,yA ((c.toNat:Nat):Int)] (bM l) nU (bM2 (l ++ [c])):=by
  refine (gspecGW e_nil k_nil m_nil (w_cons wQ_ok w_nil) r_nil Tryd.func44 (by kernel_rfl) (by kernel_rfl) (mem:=bM l) noL_okN rfl (τ:=[some 0,some 1,some 3]) (by rfl) ((wb_ev l _).trans (by rw [propB_t (cc_used l),apB_t (by omega)]; rfl))).of_rows ?_
  have hlen:(l ++ [c]).length=l.length+1:=by simp
  refine ⟨Or.inl ?_,Or.inl rfl,Or.inr ⟨5,1,l.length+1,_,uE (l ++ [c]),rfl,?_,fun q hq=>?_⟩,trivial⟩
  · show bB 2 (l ++ [c]).length=_
    rw [hlen]
  · unfold bR; rw [hlen]
  · rw [← uE_app l [c] q]
    by_cases hl:q < l.length
    · rw [show Nat.blt q l.length=true from Nat.ble_eq_true_of_le hl]
      rfl
    · have:q - l.length=0:=by omega
      unfold spread
      rw [this]
      rfl
end Go.Proofs.YtcdhdnfkcmjnpaaDoor.Pi

namespace Go.Proofs.YtcdhdnfkcmjnpaaDoor.Pi
open Go.Shelf Go.RowKit Go.Gv

theorem freeze_grown (w:World) (g n:Nat):w.grownBy (w.drew.freeze ⟨g,0,none⟩ n) (some g):=by
  unfold World.freeze
  split
  · exact ⟨rfl,rfl,rfl,Nat.le_refl _,fun _ _ _=>rfl⟩
  · refine ⟨rfl,rfl,rfl,by simp,fun k _ hk=>?_⟩
    have hne:g≠k:=fun e=>hk (by rw [e])
    show (w.heap.modify g _)[k]?=_
    rw [Array.getElem?_modify,if_neg hne]
/-- String of a builder whose bytes lie in a row. -/
theorem string_run (b g cap:Nat) (p:Value) (cur:Array Value) (l:List UInt8) (w:World) (h0:l≠[]) (hbk:w.heap[b]?=some (.cells #[p,.slice (some ⟨g,0,none⟩) l.length cap] 46 (0,0)))
    (hg:w.heap[g]?=some (.cells cur 5 (0,0))) (hcap:l.length≤cap) (hsz:cur.size=cap) (hcm:cap≤maxLen) (hel:∀ (j:Nat) (x:UInt8),l[j]?=some x→cur[j]?=some (.int .u8 (x.toNat:Nat))) :
    Calls Tryd.prog 26 #[.pointer (some ⟨b,0,none⟩)] w fun e w'=>e=.returned (.string ⟨l.toArray⟩)∧w'=w.drew.freeze ⟨g,0,none⟩ l.length:=by
  have hl0:l.length≠0:=by simpa using h0
  have c1:w.drew.cell? ⟨b,1,none⟩=some (.slice (some ⟨g,0,none⟩) l.length cap):=by
    have h:w.drew.heap[b]?=some (.cells #[p,.slice (some ⟨g,0,none⟩) l.length cap] 46 (0,0)):=hbk
    rw [Lib.cell_of_heap h]; rfl
  have hSD:(Builtin.unsafeSliceData_ #[22] 75 #[.slice (some ⟨g,0,none⟩) l.length cap]).run Tryd.prog w.drew=.ok (.pointer (some ⟨g,0,none⟩)) w.drew :=
    Lib.run_unsafeSliceData_row _ _ _ _ _ _ (by omega)
  have hUS:(Builtin.unsafeString_ #[75,3] 9 #[.pointer (some ⟨g,0,none⟩),.int .i64 l.length]).run Tryd.prog w.drew=.ok (.string ⟨l.toArray⟩) (w.drew.freeze ⟨g,0,none⟩ l.length):=by
    have hg':w.drew.heap[g]?=some (.cells cur 5 (0,0)):=hg
    refine Lib.run_unsafeString_row w.drew 75 3 9 5 Tryd.underlying75 (by kernel_rfl) g cur.size (by simp [World.shape?,hg']) l h0 (by omega) (by unfold maxLen at hcm; omega) ?_
    intro j x hx
    rw [Addr.add_lit,Lib.cell_of_heap hg']
    simpa using hel j x hx
  have hlay:=Tryd.lays169
  have u46:=run_underlying Tryd.underlying46
  have u44:=run_underlying Tryd.underlying44
  have u22:=run_underlying Tryd.underlying22
  have u75:=run_underlying Tryd.underlying75
  have u3:=run_underlying Tryd.underlying3
  have u9:=run_underlying Tryd.underlying9
  have u5:=run_underlying Tryd.underlying5
  go_enter Tryd.func26,Tryd.ntmps26
  go_wp2
  go_region
  all_goals (go_wp2; go_ret; exact ⟨rfl,rfl⟩)
end Go.Proofs.YtcdhdnfkcmjnpaaDoor.Pi

namespace Go.Proofs.YtcdhdnfkcmjnpaaDoor.Pi
open Go.Shelf Go.RowKit Go.Gv

theorem string_w {mem:List Row} {k k2:Nat} {P0:AV} {l:List UInt8} (hk:mem[k]?=some (.t 46 [P0,.osl k2 1 0 l.length])) (hk2:mem[k2]?=some (bR l)) (h0:l≠[]):WSpec Tryd.prog 26 [.own k 0] mem (zA (lB l)) (mem.set k2 .dead):=by
  refine ⟨⟨_,Tryd.func26,by kernel_rfl,by kernel_rfl⟩,fun A0 R w0 E cargs hW hgl hr=>?_⟩
  obtain ⟨u0,t0,e0,r0,hr⟩:=rels_cons.1 hr
  have e1:=rels_nil.1 hr
  subst e1
  obtain ⟨b,c,hO,rfl⟩:=rel_own.1 r0
  have ec:cargs=#[.pointer (some ⟨b,0,none⟩)]:=by apply Array.ext'; simpa using e0
  subst ec
  obtain ⟨row,hrow,hrel⟩:=hW.rows k b c hO
  rw [hk] at hrow
  cases hrow
  obtain ⟨cs,hcs,hpre,hsz⟩:=hrel
  obtain ⟨p,us,e2,rp,hpre⟩:=pre_cons.1 hpre
  obtain ⟨v,us',e3,rv,_⟩:=pre_cons.1 hpre
  have hus:us'=[]:=by
    have:=congrArg List.length e2
    rw [e3] at this
    simp only [Array.length_toList,List.length_cons,hsz] at this
    exact List.eq_nil_of_length_eq_zero (by simpa using this.symm)
  subst hus e3
  have hcs2:cs=#[p,v]:=by apply Array.ext'; simpa using e2
  subst hcs2
  have hl0:l.length≠0:=by simpa using h0
  rcases rel_osl.1 rv with ⟨_,h,_⟩ | ⟨g,cap,n,hO2,hn1,hn2,rfl⟩
  · exact absurd h hl0
  obtain ⟨row2,hrow2,hrel2⟩:=hW.rows k2 g (cap,n) hO2
  rw [hk2] at hrow2
  cases hrow2
  obtain ⟨cur,hcur,hcz,hn,hnc,hcm,hel⟩:=hrel2
  have hn:n=l.length:=hn
  subst hn
  have hlive:liveAt mem k2=true:=by unfold liveAt; rw [hk2]; rfl
  refine (string_run b g cap p cur l E.w h0 (by simpa using hcs) hcur hn2 (by simpa using hcz) hcm ?_).mono ?_
  · intro j x hx
    have hj:j < l.length:=(List.getElem?_eq_some_iff.1 hx).1
    obtain ⟨u,us,e4,r4,_⟩:=pre_cons.1 (hel j hj).2
    have e5:=rel_x.1 r4
    have e6:cur.toList[j]?=some u:=by
      have:=congrArg (fun l:List Value=>l[0]?) e4
      simpa using this
    rw [← Array.getElem?_toList,e6,e5,List.getD_eq_getElem?_getD,hx]
    rfl
  · rintro e w' ⟨rfl,rfl⟩
    have hg:=freeze_grown E.w g l.length
    obtain ⟨hA,hR⟩:=hW.own k2 g (cap,l.length) hO2 hlive
    have hlt:g < E.w.heap.size:=hW.small g hA
    refine ⟨_,E.row (E.w.drew.freeze ⟨g,0,none⟩ l.length) k2 g (cap,l.length),rfl,rfl,Env.row_le hg (Or.inl hA) (Or.inr hO2),?_,rel_x.2 rfl⟩
    refine hW.row (row1:=.dead) hg (Nat.lt_of_lt_of_le hlt hg.size) hR (Or.inl hA) (Or.inr hO2) (List.getElem?_set_self (List.getElem?_eq_some_iff.1 hk2).1) (fun k' hk' b' c' hb'=>Or.inl ⟨List.getElem?_set_ne (fun h=>hk' h.symm),fun hl e=>?_⟩) trivial
    subst e
    exact hk' (hW.one k' k2 b' c' (cap,l.length) hb' hO2 hl hlive)
theorem len2 {l:List Nat} {i k:Nat} {a b:Nat} (hl:l=[a,b]) (h:l[i]?=some k):(i=0∧k=a)∨(i=1∧k=b):=by
  subst hl
  match i,h with
  | 0,h=>simp at h; exact Or.inl ⟨rfl,h.symm⟩
  | 1,h=>simp at h; exact Or.inr ⟨rfl,h.symm⟩
  | n+2,h=>simp at h
/-- The builder's bytes lie in the row k, all between are dead. -/
def bF1 (l:List UInt8):List Row:=bM l
def bF2 (l:List UInt8):List Row:=bM2 l
def bF3 (l:List UInt8):List Row:=[bB 3 l.length,.dead,.dead,bR l]
def bF4 (l:List UInt8):List Row:=[bB 4 l.length,.dead,.dead,.dead,bR l]
section
variable {f:Nat} {a v:AV} {l l':List UInt8}
theorem bw1 (h:GSpec Tryd.prog f [.own 0 0,a] (bM l) v (bM2 l')):WSpec Tryd.prog f [.own 0 0,a] (bF1 l) v (bF2 l'):=wspec_of h
theorem bw2 (ha:∀ g,renA g a=a) (hv:∀ g,renA g v=v) (h:GSpec Tryd.prog f [.own 0 0,a] (bM l) v (bM2 l')):WSpec Tryd.prog f [.own 0 0,a] (bF2 l) v (bF3 l'):=by
  rw [← hv (putF [0,2] (bF2 l).length)]
  refine wframe h [0,2] rfl rfl (by show _=[_,renA _ a]; rw [ha]; rfl) (fun i j hi=>?_) ⟨fun j hj hl=>?_,fun i j r hi hr=>?_,fun i r hi hr=>?_⟩
  · rcases len2 rfl hi with ⟨rfl,rfl⟩ | ⟨rfl,rfl⟩
    · exact ⟨_,rfl,rfl,rfl⟩
    · exact ⟨_,rfl,rfl,rfl⟩
  · match j,hj,hl with
    | 0,hj,_=>exact absurd (by simp) hj
    | 1,_,_=>rfl
    | 2,hj,_=>exact absurd (by simp) hj
    | n+3,_,hl=>exact absurd hl (by show ¬ n+3 < 3; omega)
  · rcases len2 rfl hi with ⟨rfl,rfl⟩ | ⟨rfl,rfl⟩
    · cases hr; rfl
    · cases hr; rfl
  · match i,hi,hr with
    | 0,hi,_=>exact absurd hi (by show ¬ 2≤0; omega)
    | 1,hi,_=>exact absurd hi (by show ¬ 2≤1; omega)
    | 2,_,hr=>cases hr; rfl
    | n+3,_,hr=>cases hr
theorem bw3 (ha:∀ g,renA g a=a) (hv:∀ g,renA g v=v) (h:GSpec Tryd.prog f [.own 0 0,a] (bM l) v (bM2 l')):WSpec Tryd.prog f [.own 0 0,a] (bF3 l) v (bF4 l'):=by
  rw [← hv (putF [0,3] (bF3 l).length)]
  refine wframe h [0,3] rfl rfl (by show _=[_,renA _ a]; rw [ha]; rfl) (fun i j hi=>?_) ⟨fun j hj hl=>?_,fun i j r hi hr=>?_,fun i r hi hr=>?_⟩
  · rcases len2 rfl hi with ⟨rfl,rfl⟩ | ⟨rfl,rfl⟩
    · exact ⟨_,rfl,rfl,rfl⟩
    · exact ⟨_,rfl,rfl,rfl⟩
  · match j,hj,hl with
    | 0,hj,_=>exact absurd (by simp) hj
    | 1,_,_=>rfl
    | 2,_,_=>rfl
    | 3,hj,_=>exact absurd (by simp) hj
    | n+4,_,hl=>exact absurd hl (by show ¬ n+4 < 4; omega)
  · rcases len2 rfl hi with ⟨rfl,rfl⟩ | ⟨rfl,rfl⟩
    · cases hr; rfl
    · cases hr; rfl
  · match i,hi,hr with
    | 0,hi,_=>exact absurd hi (by show ¬ 2≤0; omega)
    | 1,hi,_=>exact absurd hi (by show ¬ 2≤1; omega)
    | 2,_,hr=>cases hr; rfl
    | n+3,_,hr=>cases hr
end
end Go.Proofs.YtcdhdnfkcmjnpaaDoor.Pi

namespace Go.Proofs.YtcdhdnfkcmjnpaaDoor.Pi
open Go.Shelf Go.RowKit Go.Gv

theorem leads_evWN {np:Nat} {l:List Entry} {ks:List KEntry} {ms:List MEntry} {ws:List WEntry} {rs:List REntry} {L:Nat→Option LFun} {c:Code} {s s':St} {e:Exit} {k:Kont} (hk:KSubN np k) (hl:∀ e,e ∈ l→EOk Tryd.prog e) (hks:∀ e,e ∈ ks→KOk Tryd.prog e) (hms:∀ e,e ∈ ms→MEOk Tryd.prog e) (hws:∀ e,e ∈ ws→WEOk Tryd.prog e) (hrs:∀ e,e ∈ rs→REOk Tryd.prog e) (hL:LOkN np Tryd.prog L c) (h:evCW Tryd.prog l ks ms ws rs L c s k=some ⟨e,s',.any⟩):LeadsN np Tryd.prog c s e s' :=
  leads_ofKN hk (tabW_ok hl hks hms hws hrs) (drawnK_ok (tabW_ok hl hks hms hws hrs) (by kernel_rfl)) hL h
def fS (m:Nat) (f:Nat→Int):AV:=.sl 1 m fun q=>[iA (f q)]
def wlS (m:Nat) (f:Nat→Int) (i:Int) (mem:List Row):St:=mkS 24 [(0,.own 0 0),(6,fS m f),(7,iA (m:Nat)),(8,iA i)] mem
def keepWl:List Nat:=[0,6,7,8]
def wsV (s:ByteArray):AV:=.tup [iA (Int.ofNat s.size),nU]
section
variable (m:Nat) (f:Nat→Int) (i:Int) (l l1 l2:List UInt8) (s:ByteArray)
noncomputable def wlK:List KEntry:=[kS Tryd.prog 45 fun _=>zA s]
noncomputable def wlW0:List WEntry:=[wQ Tryd.prog 23 (fun _ _=>wsV s) (fun _ _=>bF2 l2)]
noncomputable def wlW1:List WEntry:=[wQ Tryd.prog 44 (fun _ _=>nU) (fun _ _=>bF3 l1),wQ Tryd.prog 23 (fun _ _=>wsV s) (fun _ _=>bF4 l2)]
noncomputable def wlE (s:ByteArray):List WEntry:=[wQ Tryd.prog 23 (fun _ _=>wsV s) (fun _ _=>bF3 l2)]
theorem wl_step0:evCW Tryd.prog [] (wlK s) [] (wlW0 l2 s) [] noL (loopAt Tryd.f24 0) (wlS m f 0 (bF1 l)) (finN keepWl [some 0,some 1,some 2]) =
    cond (decide ((0:Int) < (m:Nat))) (cond (ixB 0 m||false) (gate (FSpec Tryd.prog 45 [iA (f 0)] (zA s)) (cond (propB (WSpec Tryd.prog 23 [.own 0 0,zA s] (bF1 l) (wsV s) (bF2 l2))) (some ⟨.normal,wlS m f 1 (bF2 l2),.any⟩) none)) none) none:=by kernel_rfl
theorem wl_step1:evCW Tryd.prog [] (wlK s) [] (wlW1 l1 l2 s) [] noL (loopAt Tryd.f24 0) (wlS m f i (bF2 l)) (finN keepWl [some 0,some 1,some 4]) =
    cond (decide (i < (m:Nat))) (cond (ixB i m||false) (cond (decide (i > 0)) (cond (propB (WSpec Tryd.prog 44 [.own 0 0,yA 32] (bF2 l) nU (bF3 l1))) (gate (FSpec Tryd.prog 45 [iA (f i.toNat)] (zA s)) (cond (propB (WSpec Tryd.prog 23 [.own 0 0,zA s] (bF3 l1) (wsV s) (bF4 l2))) (some ⟨.normal,wlS m f (w64 (i+1)) (bF2 l2),.any⟩) none)) none)
      (gate (FSpec Tryd.prog 45 [iA (f i.toNat)] (zA s)) (cond (propB (WSpec Tryd.prog 23 [.own 0 0,zA s] (bF2 l) (wsV s) (bF4 l2))) (some ⟨.normal,wlS m f (w64 (i+1)) (bF2 l2),.any⟩) none))) none) none:=by kernel_rfl
theorem wl_end:evCW Tryd.prog [] [] [] [] [] noL (loopAt Tryd.f24 0) (wlS m f i (bF2 l)) (finE keepWl [some 0,some 1,some 2]) =
    cond (decide (i < (m:Nat))) (cond (ixB i m||false) (cond (decide (i > 0)) none none) none) (some ⟨.exit 0,wlS m f i (bF2 l),.any⟩):=by kernel_rfl
def nlS:ByteArray:=⟨#[10]⟩
theorem wl_ev:evGW Tryd.prog [] [] [] (wlE l2 nlS) [] (oneL 1 (toldP 2 keepWl [some 0,some 1] (wlS m f 0 (bF1 l)) (.exit 0) (wlS m f (m:Nat) (bF2 l1)))) Tryd.f24 [.own 0 0,fS m f] (bM l) [some 0,some 1,some 3] =
    gate (SubN 2 (wlS m f 0 (bF1 l)) (wlS m f 0 (bF1 l))) (cond (propB (WSpec Tryd.prog 23 [.own 0 0,zA nlS] (bF2 l1) (wsV nlS) (bF3 l2))) (gout (.tup []) (bM2 l2)) none):=by kernel_rfl
end
/-- The bytes of the first j numbers. -/
def wlP (f:Nat→Int):Nat→List UInt8
  | 0=>[]
  | j+1=>wlP f j ++ ((if j=0 then [] else [32]) ++ Lib.itoa (f j))
def wlSt (m:Nat) (f:Nat→Int) (l:List UInt8):Nat→St
  | 0=>wlS m f 0 (bF1 l)
  | j+1=>wlS m f ((j+1:Nat):Int) (bF2 (l ++ wlP f (j+1)))
structure Itn (n:Int):Prop where
  lo:-9223372036854775808≤n
  hi:n≤9223372036854775807
  pos:0 < (Lib.itoa n).length
  few:(Lib.itoa n).length≤20
theorem wlP_len {f:Nat→Int} {m:Nat} (h:∀ q,q < m→Itn (f q)):∀ j,j≤m→(wlP f j).length≤21*j
  | 0,_=>by simp [wlP]
  | j+1,hj=>by
    have h1:=wlP_len h j (by omega)
    have h2:=(h j (by omega)).few
    have h3:(if j=0 then ([]:List UInt8) else [32]).length≤1:=by split<;>simp
    unfold wlP
    rw [List.length_append,List.length_append]
    omega
theorem lB_size (x:List UInt8):(lB x).size=x.length:=rfl
theorem wl_leads {m:Nat} {f:Nat→Int} {l:List UInt8} (hm:0 < m) (h:∀ q,q < m→Itn (f q)) (hb:l.length+21*m≤900000000):LeadsN 2 Tryd.prog (.loop (loopAt Tryd.f24 0)) (wlS m f 0 (bF1 l)) (.exit 0) (wlS m f (m:Nat) (bF2 (l ++ wlP f m))):=by
  refine loop_rule (wlSt m f l) m (.exit 0) _ (by simp) (fun j hj=>?_) ?_
  · have hI:=itoa_spec (h j hj).lo (h j hj).hi
    have hp:=(h j hj).pos
    have hfw:=(h j hj).few
    have hl:=wlP_len h j (by omega)
    cases j with
    | zero =>
      refine leads_evWN (finN_subN _ (by rfl)) e_nil (k_cons kS_ok k_nil) m_nil (w_cons wQ_ok w_nil) r_nil noL_okN ((wl_step0 m f l (l ++ wlP f 1) (lB (Lib.itoa (f 0)))).trans ?_)
      have hw:GSpec Tryd.prog 23 [.own 0 0,zA (lB (Lib.itoa (f 0)))] (bM l) (wsV (lB (Lib.itoa (f 0)))) (bM2 (l ++ wlP f 1)):=ws_spec (s:=lB (Lib.itoa (f 0))) (by rw [lB_size]; exact hp) (by rw [lB_size]; omega)
      rw [decide_eq_true (show (0:Int) < (m:Nat) by omega),show ixB 0 m=true from ixB_t (i:=0) hm,gate_pos hI,propB_t (bw1 hw)]
      rfl
    | succ j =>
      refine leads_evWN (finN_subN _ (by rfl)) e_nil (k_cons kS_ok k_nil) m_nil (w_cons wQ_ok (w_cons wQ_ok w_nil)) r_nil noL_okN ((wl_step1 m f ((j+1:Nat):Int) (l ++ wlP f (j+1)) (l ++ wlP f (j+1) ++ [32]) (l ++ wlP f (j+2)) (lB (Lib.itoa (f (j+1))))).trans ?_)
      have hlen:(l ++ wlP f (j+1)).length=l.length+(wlP f (j+1)).length:=List.length_append
      have hlen2:(l ++ wlP f (j+1) ++ [32]).length=l.length+(wlP f (j+1)).length+1:=by rw [List.length_append,hlen]; rfl
      have e1:l ++ wlP f (j+2)=l ++ wlP f (j+1) ++ [32] ++ bL (lB (Lib.itoa (f (j+1)))):=by
        show l ++ (wlP f (j+1) ++ ((if j+1=0 then [] else [32]) ++ Lib.itoa (f (j+1))))=_
        rw [if_neg (by omega)]
        simp only [List.append_assoc]
        rfl
      have hb1:WSpec Tryd.prog 44 [.own 0 0,yA 32] (bF2 (l ++ wlP f (j+1))) nU (bF3 (l ++ wlP f (j+1) ++ [32])):=bw2 (fun _=>rfl) (fun _=>rfl) (wb_spec (c:=32) (by rw [hlen]; omega))
      have hw:WSpec Tryd.prog 23 [.own 0 0,zA (lB (Lib.itoa (f (j+1))))] (bF3 (l ++ wlP f (j+1) ++ [32])) (wsV (lB (Lib.itoa (f (j+1))))) (bF4 (l ++ wlP f (j+2))):=by
        rw [e1]
        exact bw3 (fun _=>rfl) (fun _=>rfl) (ws_spec (by rw [lB_size]; exact hp) (by rw [hlen2,lB_size]; omega))
      rw [dec_lt hj,ixB_t hj,decide_eq_true (show ((j+1:Nat):Int) > 0 by omega),Int.toNat_natCast,gate_pos hI,propB_t hb1,propB_t hw,w64_next (by omega)]
      rfl
  · obtain ⟨k,rfl⟩:∃ k,m=k+1:=⟨m - 1,by omega⟩
    refine leads_evWN (finE_subN _ (by rfl)) e_nil k_nil m_nil w_nil r_nil noL_okN ((wl_end (k+1) f ((k+1:Nat):Int) (l ++ wlP f (k+1))).trans ?_)
    rw [dec_self]
    rfl
/-- A line: the numbers and its end. -/
def wlN (m:Nat) (f:Nat→Int):List UInt8:=wlP f m ++ [10]
theorem writeLine_spec {m:Nat} {f:Nat→Int} {l:List UInt8} (hm:0 < m) (h:∀ q,q < m→Itn (f q)) (hb:l.length+21*m≤900000000):GSpec Tryd.prog 24 [.own 0 0,fS m f] (bM l) (.tup []) (bM2 (l ++ wlN m f)):=by
  have hl:=wlP_len h m (Nat.le_refl _)
  have hlen:(l ++ wlP f m).length=l.length+(wlP f m).length:=List.length_append
  have hw:WSpec Tryd.prog 23 [.own 0 0,zA nlS] (bF2 (l ++ wlP f m)) (wsV nlS) (bF3 (l ++ wlN m f)):=by
    rw [show l ++ wlN m f=l ++ wlP f m ++ bL nlS by rw [List.append_assoc]; rfl]
    exact bw2 (fun _=>rfl) (fun _=>rfl) (ws_spec (by decide) (by rw [hlen]; show _+1≤_; omega))
  refine gspecGW e_nil k_nil m_nil (w_cons wQ_ok w_nil) r_nil Tryd.func24 (by kernel_rfl) (by kernel_rfl) (mem:=bM l) (lokN_one (i:=1) 1 (by kernel_rfl) fun j hj _=>?_) rfl (τ:=[some 0,some 1,some 3]) (by rfl) ((wl_ev m f l (l ++ wlP f m) (l ++ wlN m f)).trans ?_)
  · have:j=0:=by omega
    subst this
    exact toldP_sound (by rfl) (wl_leads hm h hb)
  · rw [gate_pos (SubN.refl _),propB_t hw]
    rfl
end Go.Proofs.YtcdhdnfkcmjnpaaDoor.Pi

namespace Go.Proofs.YtcdhdnfkcmjnpaaDoor.Pi
open Go.Shelf Go.RowKit Go.Gv

def coS (n m:Nat) (r u:Nat→Int) (i:Int):St:=mkS 44 [(6,.osl 0 1 0 n),(27,sB m r),(28,iA (m:Nat)),(29,iA i)] [.a 3 1 n fun q=>[iA (u q)]]
def coA (n m:Nat) (r u:Nat→Int) (i j:Int):St:=mkS 44 [(6,.osl 0 1 0 (n+1)),(27,sB m r),(28,iA (m:Nat)),(29,iA j)] [.a 3 1 (n+1) fun q=>mixL (Nat.blt q n) [iA (u q)] [iA (IntKind.i64.wrap (r i.toNat))]]
def keepCo:List Nat:=[6,27,28,29]
section
variable (n m:Nat) (r u:Nat→Int) (i:Int)
theorem co_A:evCM Tryd.prog [] [] [] noL (loopAt Tryd.f25 0) (coS n m r u i) (finS 3 keepCo [some 2]) =
    cond (decide (i < (m:Nat))) (cond (ixB i m||false) (cond (decide (i.tmod 4 < 3)) (cond (apB n 8||false) (some ⟨.normal,coA n m r u i (w64 (i+1)),.any⟩) none) none) none) none:=by kernel_rfl
theorem co_B:evCM Tryd.prog [] [] [] noL (loopAt Tryd.f25 0) (coS n m r u i) (finS 1 keepCo [some 0]) =
    cond (decide (i < (m:Nat))) (cond (ixB i m||false) (cond (decide (i.tmod 4 < 3)) (cond (apB n 8||false) none none) (some ⟨.normal,coS n m r u (w64 (i+1)),.any⟩)) none) none:=by kernel_rfl
theorem co_end:evCM Tryd.prog [] [] [] noL (loopAt Tryd.f25 0) (coS n m r u i) (finE keepCo [some 0]) =
    cond (decide (i < (m:Nat))) (cond (ixB i m||false) (cond (decide (i.tmod 4 < 3)) (cond (apB n 8||false) none none) none) none) (some ⟨.exit 0,coS n m r u i,.any⟩):=by kernel_rfl
def coL (W y:Int):Int:=w64 (w64 (4*W)*y)
def coH (W y:Int):Int:=w64 (w64 (4*W)*w64 (y+1))
def coN (W y:Int) (n:Nat):Nat:=sbN (some (coL W y)) (some (coH W y)) n
def coR (W y:Int) (g:Nat→Int):Nat→Int:=fun i=>g (sbL (some (coL W y))+i)
def mk8B (c:Int):Bool:=decide (0≤c)&&decide (8*c≤281474976710656)
theorem co_ev (W H y:Int) (n k:Nat) (g v:Nat→Int):evM Tryd.prog [] [] [] (oneL 4 (toldF keepCo [some 1] (coS 0 (coN W y n) (coR W y g) (fun _=>0) 0) (.exit 0) (coS k (coN W y n) (coR W y g) v (coN W y n:Nat)))) Tryd.f25 [.agg [iA W,iA H,sB n g],iA y] ret =
    cond (sbB (some (coL W y)) (some (coH W y)) none n||false) (cond (mk8B (w64 (3*W))||false) (gate (Sub (coS 0 (coN W y n) (coR W y g) (fun _=>0) 0) (coS 0 (coN W y n) (coR W y g) (fun _=>0) 0)) (some (Out.of (fS k fun i=>v (0+i))))) none) none:=by kernel_rfl
end
def cn (j:Nat):Nat:=3*(j / 4)+min (j % 4) 3
def cv (r:Nat→Int):Nat→Int:=fun q=>r (4*(q / 3)+q % 3)
theorem tm4 (j:Nat):((j:Int).tmod 4 < 3) ↔ j % 4 < 3:=by
  rw [Int.tmod_eq_emod_of_nonneg (by omega)]
  omega
theorem co_leads {m:Nat} {r:Nat→Int} (hm:m≤1000000) (hr:By m r):Leads Tryd.prog (.loop (loopAt Tryd.f25 0)) (coS 0 m r (fun _=>0) 0) (.exit 0) (coS (cn m) m r (cv r) (m:Nat)):=by
  refine loop_rule (fun j=>match j with | 0=>coS 0 m r (fun _=>0) 0 | j+1=>coS (cn (j+1)) m r (cv r) ((j+1:Nat):Int)) m (.exit 0) _ (by simp) (fun j hj=>?_) ?_
  · have hbj:=hr j hj
    have go : ∀ (n:Nat) (u:Nat→Int),n=cn j→(∀ q,q < n→u q=cv r q)→Leads Tryd.prog (loopAt Tryd.f25 0) (coS n m r u (j:Nat)) .normal (coS (cn (j+1)) m r (cv r) ((j+1:Nat):Int)):=fun n u hn hu=>by
      by_cases h3:j % 4 < 3
      · have st:=co_A n m r u (j:Nat)
        have en:cn (j+1)=n+1:=by rw [hn]; unfold cn; omega
        rw [dec_lt hj,ixB_t hj,decide_eq_true ((tm4 j).2 h3),apB_t (by rw [hn]; unfold cn; omega),w64_next (by omega)] at st
        refine (leads_evM (finS_sub _ _ _) e_nil k_nil m_nil noL_ok st).sub (Sub.refl _) ?_
        rw [en]
        refine sub_same ⟨Or.inr ⟨3,1,n+1,_,_,rfl,rfl,fun q hq=>?_⟩,trivial⟩
        by_cases hq':q < n
        · rw [show Nat.blt q n=true from Nat.ble_eq_true_of_le hq',← hu q hq']
          rfl
        · have eq:q=n:=by omega
          have hb:Nat.blt q n=false:=by
            cases hb:Nat.blt q n
            · rfl
            · exact absurd (Nat.le_of_ble_eq_true hb) hq'
          rw [hb,Int.toNat_natCast,show IntKind.i64.wrap (r j)=r j from w64_id (by omega) (by omega)]
          have e4:4*(q / 3)+q % 3=j:=by rw [eq,hn]; unfold cn; omega
          show [iA (r (4*(q / 3)+q % 3))]=[iA (r j)]
          rw [e4]
      · have st:=co_B n m r u (j:Nat)
        have en:cn (j+1)=n:=by rw [hn]; unfold cn; omega
        rw [dec_lt hj,ixB_t hj,decide_eq_false (fun h=>h3 ((tm4 j).1 h)),w64_next (by omega)] at st
        refine (leads_evM (finS_sub _ _ _) e_nil k_nil m_nil noL_ok st).sub (Sub.refl _) ?_
        rw [en]
        exact sub_same ⟨Or.inr ⟨3,1,n,_,_,rfl,rfl,fun q hq=>by rw [hu q hq]⟩,trivial⟩
    cases j with
    | zero=>exact go 0 (fun _=>0) rfl (fun q hq=>absurd hq (by omega))
    | succ j=>exact go (cn (j+1)) (cv r) rfl (fun _ _=>rfl)
  · have st:∀ (n:Nat) (u:Nat→Int),Leads Tryd.prog (loopAt Tryd.f25 0) (coS n m r u (m:Nat)) (.exit 0) (coS n m r u (m:Nat)):=fun n u=>by
      refine leads_evM (finE_sub _ _) e_nil k_nil m_nil noL_ok ((co_end n m r u (m:Nat)).trans ?_)
      rw [dec_self]
      rfl
    cases m with
    | zero =>
      refine (st 0 fun _=>0).sub (Sub.refl _) ?_
      exact sub_same ⟨Or.inr ⟨3,1,0,_,_,rfl,rfl,fun q hq=>absurd hq (by omega)⟩,trivial⟩
    | succ m=>exact st _ _
theorem coloursOf_spec {W:Nat} {H:Int} {y n:Nat} {g:Nat→Int} (hW:W≤10000) (hy:y≤10000) (hn:4*W*(y+1)≤n) (hg:By n g):FSpec Tryd.prog 25 [.agg [iA (W:Nat),iA H,sB n g],iA (y:Nat)] (fS (3*W) fun q=>g (4*W*y+(4*(q / 3)+q % 3))):=by
  have b1:4*W*y≤4*10000*10000:=Nat.mul_le_mul (by omega) hy
  have b2:4*W*(y+1)=4*W*y+4*W:=Nat.mul_succ _ _
  have e4:w64 (4*(W:Int))=((4*W:Nat):Int):=by rw [w64_id (by omega) (by omega)]; omega
  have eL:coL W y=((4*W*y:Nat):Int):=by
    unfold coL
    rw [e4,← Int.natCast_mul,w64_id (by omega) (by omega)]
  have eH:coH W y=((4*W*(y+1):Nat):Int):=by
    unfold coH
    rw [e4,w64_next (by omega),← Int.natCast_mul,w64_id (by omega) (by omega)]
  have eN:coN W y n=4*W:=by unfold coN sbN; rw [eL,eH]; simp only [Option.getD_some]; omega
  have eR:coR W y g=fun i=>g (4*W*y+i):=by unfold coR sbL; rw [eL]; simp only [Option.getD_some,Int.toNat_natCast]
  have key:=co_leads (m:=4*W) (r:=fun i=>g (4*W*y+i)) (by omega) (fun i hi=>hg _ (by omega))
  rw [show cn (4*W)=3*W by unfold cn; omega] at key
  have key':Leads Tryd.prog (.loop (loopAt Tryd.f25 0)) (coS 0 (coN W y n) (coR W y g) (fun _=>0) 0) (.exit 0) (coS (3*W) (coN W y n) (coR W y g) (cv fun i=>g (4*W*y+i)) (coN W y n:Nat)):=by rw [eN,eR]; exact key
  have st:=co_ev W H y n (3*W) g (cv fun i=>g (4*W*y+i))
  rw [sbB_mid (by rw [eL]; omega) (by rw [eL,eH]; omega) (by rw [eH]; omega),gate_pos (Sub.refl _)] at st
  have e3:w64 (3*(W:Int))=((3*W:Nat):Int):=by rw [w64_id (by omega) (by omega)]; omega
  have hmk:mk8B (w64 (3*(W:Int)))=true:=by rw [e3]; unfold mk8B; rw [decide_eq_true (by omega),decide_eq_true (by omega)]; rfl
  rw [hmk] at st
  have e0:(fun i=>(cv fun i=>g (4*W*y+i)) (0+i))=fun q=>g (4*W*y+(4*(q / 3)+q % 3)):=by funext q; rw [Nat.zero_add]; rfl
  rw [e0] at st
  exact gspecM e_nil k_nil m_nil Tryd.func25 (by kernel_rfl) (by kernel_rfl) (lok_hd (c:=bodyOf Tryd.f25) (i:=4) 0 (by kernel_rfl) (by kernel_rfl) (toldF_sound (keep:=keepCo) (τ:=[some 1]) key')) rfl st
end Go.Proofs.YtcdhdnfkcmjnpaaDoor.Pi

namespace Go.Proofs.YtcdhdnfkcmjnpaaDoor.Pi
open Go.Shelf Go.RowKit Go.Gv

def typed (t:Nat):MEntry:=⟨typeK t,fun _ _ _=>none,none⟩
theorem typed_ok {P:Program} (t:Nat):MEOk P (typed t):=⟨⟨fun _ _ _ _ h=>(by cases h),fun _ _ _ _ _ _ h=>(by cases h)⟩,fun _ h=>(by cases h)⟩
/-- Built slices of this type are told as frozen. -/
def born (t:Nat):MEntry:=⟨bornK t,fun _ _ _=>none,none⟩
theorem born_ok {P:Program} (t:Nat):MEOk P (born t):=⟨⟨fun _ _ _ _ h=>(by cases h),fun _ _ _ _ _ _ h=>(by cases h)⟩,fun _ h=>(by cases h)⟩
section
variable (W H:Int) (n:Nat) (g:Nat→Int) (l l1 l2 l3:List UInt8) (e i:Int)
def txB:Row:=.c [iA W,iA H,sB n g]
def txM0:List Row:=[txB W H n g,.t 46 [.x (.pointer none),.x (.slice none 0 0)]]
def txM2:List Row:=[txB W H n g,.t 46 [.own 1 0,.osl 2 1 0 l.length],bR l]
def txM3:List Row:=[txB W H n g,.t 46 [.own 1 0,.osl 3 1 0 l.length],.dead,bR l]
def txM4:List Row:=[txB W H n g,.t 46 [.own 1 0,.osl 4 1 0 l.length],.dead,.dead,bR l]
def txD:List Row:=[txB W H n g,.t 46 [.own 1 0,.osl 2 1 0 l.length],.dead]
def txS:St:=mkS 32 [(1,.own 0 0),(5,.own 1 0),(22,iA H),(23,iA i)] (txM2 W H n g l)
def keepTx:List Nat:=[1,5,22,23]
def hdS:ByteArray:=⟨#[80,51,10]⟩
noncomputable def txK:List KEntry:=[kS Tryd.prog 18 fun _=>iA e]
noncomputable def txW:List WEntry:=[wQ Tryd.prog 23 (fun _ _=>wsV hdS) (fun _ _=>txM2 W H n g l),wQ Tryd.prog 24 (fun _ _=>.tup []) (fun _ mem=>cond (Nat.beq mem.length 3) (txM3 W H n g l1) (txM4 W H n g l2)),wQ Tryd.prog 26 (fun _ _=>zA (lB l3)) (fun _ _=>txD W H n g l3)]
noncomputable def txC (m:Nat) (f:Nat→Int):List KEntry:=[kS Tryd.prog 25 fun _=>fS m f]
noncomputable def txV:List WEntry:=[wQ Tryd.prog 24 (fun _ _=>.tup []) (fun _ _=>txM3 W H n g l1)]
theorem tx_step (m:Nat) (f:Nat→Int):evCW Tryd.prog [] (txC m f) [] (txV W H n g l1) [] noL (loopAt Tryd.f9 0) (txS W H n g l i) (finN keepTx [some 0,some 1,some 3]) =
    cond (decide (i < H)) (gate (FSpec Tryd.prog 25 [.agg [iA W,iA H,sB n g],iA i] (fS m f)) (cond (propB (WSpec Tryd.prog 24 [.own 1 0,fS m f] (txM2 W H n g l) (.tup []) (txM3 W H n g l1))) (some ⟨.normal,txS W H n g l1 (w64 (i+1)),.any⟩) none)) none:=by kernel_rfl
theorem tx_end:evCW Tryd.prog [] [] [] [] [] noL (loopAt Tryd.f9 0) (txS W H n g l i) (finE keepTx [some 0,some 1,some 2])=cond (decide (i < H)) none (some ⟨.exit 0,txS W H n g l i,.any⟩):=by kernel_rfl
theorem tx_ev:evW Tryd.prog [] (txK e) [typed 46,born 35] (txW W H n g l l1 l2 l3) [] (oneL 9 (toldF keepTx [some 0,some 1,some 4] (txS W H n g l2 0) (.exit 0) (txS W H n g l3 i))) Tryd.f9 [.agg [iA W,iA H,sB n g]] ret =
    gate (FSpec Tryd.prog 18 [.agg [iA W,iA H,sB n g]] (iA e)) (cond (!(e==0)) (some (Out.of (.tup [zA ⟨#[]⟩,iA e])))
      (cond (propB (WSpec Tryd.prog 23 [.own 1 0,zA hdS] (txM0 W H n g) (wsV hdS) (txM2 W H n g l))) (cond (propB (WSpec Tryd.prog 24 [.own 1 0,.sl 1 2 (chunk [iA W,iA H] 1)] (txM2 W H n g l) (.tup []) (txM3 W H n g l1)))
        (cond (propB (WSpec Tryd.prog 24 [.own 1 0,.sl 1 1 (chunk [iA 255] 1)] (txM3 W H n g l1) (.tup []) (txM4 W H n g l2)))
          (gate (Sub (txS W H n g l2 0) (txS W H n g l2 0)) (cond (propB (WSpec Tryd.prog 26 [.own 1 0] (txM2 W H n g l3) (zA (lB l3)) (txD W H n g l3))) (some (Out.of (.tup [zA (lB l3),iA 0]))) none)) none) none) none)):=by kernel_rfl
end
end Go.Proofs.YtcdhdnfkcmjnpaaDoor.Pi

namespace Go.Proofs.YtcdhdnfkcmjnpaaDoor.Pi
open Go.Shelf Go.RowKit Go.Gv

/-- A number below 1000 in decimal. -/
def d3 (n:Nat):List UInt8:=if n < 10 then [UInt8.ofNat (48+n)] else if n < 100 then [UInt8.ofNat (48+n / 10),UInt8.ofNat (48+n % 10)] else [UInt8.ofNat (48+n / 10 / 10),UInt8.ofNat (48+n / 10 % 10),UInt8.ofNat (48+n % 10)]
theorem itoa_d3 {n:Nat} (h:n < 1000):Lib.itoa (n:Int)=d3 n:=by
  unfold Lib.itoa
  rw [if_neg (by omega),Int.toNat_natCast]
  unfold d3
  by_cases h1:n < 10
  · rw [if_pos h1,Lib.decDigits_one h1]
  · rw [if_neg h1]
    by_cases h2:n < 100
    · rw [if_pos h2,Lib.decDigits_two h1 h2]
    · rw [if_neg h2,Lib.decDigits,dif_neg h1,Lib.decDigits_two (by omega) (by omega)]
      rfl
theorem d3_len (n:Nat):0 < (d3 n).length∧(d3 n).length≤3:=by
  unfold d3
  split
  · exact ⟨by show 0 < 1; omega,by show 1≤3; omega⟩
  · split
    · exact ⟨by show 0 < 2; omega,by show 2≤3; omega⟩
    · exact ⟨by show 0 < 3; omega,by show 3≤3; omega⟩
theorem itn_of {n:Int} (h0:0≤n) (h1:n≤255):Itn n:=by
  obtain ⟨k,rfl⟩:=Int.eq_ofNat_of_zero_le h0
  have e:=itoa_d3 (n:=k) (by omega)
  have l:=d3_len k
  exact ⟨by omega,by omega,by rw [e]; exact l.1,by rw [e]; omega⟩
theorem wl_any {a:AV} {m:Nat} {f:Nat→Int} {l:List UInt8} (ha:∀ E u,rel E a u→rel E (fS m f) u) (hm:0 < m) (h:∀ q,q < m→Itn (f q)) (hb:l.length+21*m≤900000000):GSpec Tryd.prog 24 [.own 0 0,a] (bM l) (.tup []) (bM2 (l ++ wlN m f)):=by
  have k:=writeLine_spec hm h hb
  refine ⟨k.1,fun R E cargs hp hW hg hr=>k.2 R E cargs hp hW hg ?_⟩
  obtain ⟨u,us,e1,r1,r2⟩:=rels_cons.1 hr
  obtain ⟨u2,us2,e2,r3,r4⟩:=rels_cons.1 r2
  exact rels_cons.2 ⟨u,us,e1,r1,rels_cons.2 ⟨u2,us2,e2,ha E u2 r3,r4⟩⟩
theorem sl_to {m:Nat} {el:Nat→List AV} {f:Nat→Int} (h:∀ q,q < m→el q=[iA (f q)]) (E:Env) (u:Value) (hr:rel E (.sl 1 m el) u):rel E (fS m f) u:=by
  obtain ⟨a,c,rfl,hc,hd⟩:=rel_sl.1 hr
  refine rel_sl.2 ⟨a,c,rfl,hc,hd.imp id ?_⟩
  rintro ⟨b,o,cs,e,fz,h1,h2,h3,h4⟩
  refine ⟨b,o,cs,e,fz,h1,h2,h3,fun i hi=>?_⟩
  have:=h4 i hi
  rw [h i hi] at this
  exact this
theorem len1 {l:List Nat} {i k a:Nat} (hl:l=[a]) (h:l[i]?=some k):i=0∧k=a:=by
  subst hl
  match i,h with
  | 0,h=>simp at h; exact ⟨rfl,h.symm⟩
  | n+1,h=>simp at h
section
variable {W H:Int} {n:Nat} {g:Nat→Int} {l l':List UInt8} {a:AV}
theorem tx_w0:WSpec Tryd.prog 23 [.own 1 0,zA hdS] (txM0 W H n g) (wsV hdS) (txM2 W H n g (bL hdS)):=by
  refine wframe (ws_fresh (s:=hdS) (by decide) (by decide)) [1] rfl rfl rfl (fun i j hi=>?_) ⟨fun j hj hl=>?_,fun i j r hi hr=>?_,fun i r hi hr=>?_⟩
  · obtain ⟨rfl,rfl⟩:=len1 rfl hi
    exact ⟨_,rfl,rfl,rfl⟩
  · match j,hj,hl with
    | 0,_,_=>rfl
    | 1,hj,_=>exact absurd (by simp) hj
    | n+2,_,hl=>exact absurd hl (by show ¬ n+2 < 2; omega)
  · obtain ⟨rfl,rfl⟩:=len1 rfl hi
    cases hr; rfl
  · match i,hi,hr with
    | 0,hi,_=>exact absurd hi (by show ¬ 1≤0; omega)
    | 1,_,hr=>cases hr; rfl
    | n+2,_,hr=>cases hr
theorem tx_w2 (ha:∀ g,renA g a=a) (h:GSpec Tryd.prog 24 [.own 0 0,a] (bM l) (.tup []) (bM2 l')):WSpec Tryd.prog 24 [.own 1 0,a] (txM2 W H n g l) (.tup []) (txM3 W H n g l'):=by
  refine wframe h [1,2] rfl rfl (by show _=[_,renA _ a]; rw [ha]; rfl) (fun i j hi=>?_) ⟨fun j hj hl=>?_,fun i j r hi hr=>?_,fun i r hi hr=>?_⟩
  · rcases len2 rfl hi with ⟨rfl,rfl⟩ | ⟨rfl,rfl⟩
    · exact ⟨_,rfl,rfl,rfl⟩
    · exact ⟨_,rfl,rfl,rfl⟩
  · match j,hj,hl with
    | 0,_,_=>rfl
    | 1,hj,_=>exact absurd (by simp) hj
    | 2,hj,_=>exact absurd (by simp) hj
    | n+3,_,hl=>exact absurd hl (by show ¬ n+3 < 3; omega)
  · rcases len2 rfl hi with ⟨rfl,rfl⟩ | ⟨rfl,rfl⟩
    · cases hr; rfl
    · cases hr; rfl
  · match i,hi,hr with
    | 0,hi,_=>exact absurd hi (by show ¬ 2≤0; omega)
    | 1,hi,_=>exact absurd hi (by show ¬ 2≤1; omega)
    | 2,_,hr=>cases hr; rfl
    | n+3,_,hr=>cases hr
theorem tx_w3 (ha:∀ g,renA g a=a) (h:GSpec Tryd.prog 24 [.own 0 0,a] (bM l) (.tup []) (bM2 l')):WSpec Tryd.prog 24 [.own 1 0,a] (txM3 W H n g l) (.tup []) (txM4 W H n g l'):=by
  refine wframe h [1,3] rfl rfl (by show _=[_,renA _ a]; rw [ha]; rfl) (fun i j hi=>?_) ⟨fun j hj hl=>?_,fun i j r hi hr=>?_,fun i r hi hr=>?_⟩
  · rcases len2 rfl hi with ⟨rfl,rfl⟩ | ⟨rfl,rfl⟩
    · exact ⟨_,rfl,rfl,rfl⟩
    · exact ⟨_,rfl,rfl,rfl⟩
  · match j,hj,hl with
    | 0,_,_=>rfl
    | 1,hj,_=>exact absurd (by simp) hj
    | 2,_,_=>rfl
    | 3,hj,_=>exact absurd (by simp) hj
    | n+4,_,hl=>exact absurd hl (by show ¬ n+4 < 4; omega)
  · rcases len2 rfl hi with ⟨rfl,rfl⟩ | ⟨rfl,rfl⟩
    · cases hr; rfl
    · cases hr; rfl
  · match i,hi,hr with
    | 0,hi,_=>exact absurd hi (by show ¬ 2≤0; omega)
    | 1,hi,_=>exact absurd hi (by show ¬ 2≤1; omega)
    | 2,_,hr=>cases hr; rfl
    | n+3,_,hr=>cases hr
theorem tx_wS (h0:l≠[]):WSpec Tryd.prog 26 [.own 1 0] (txM2 W H n g l) (zA (lB l)) (txD W H n g l):=string_w (mem:=txM2 W H n g l) (k:=1) (k2:=2) (P0:=.own 1 0) rfl rfl h0
end
def f2 (W H:Nat):Nat→Int:=fun q=>if q=0 then (W:Int) else (H:Int)
def f1:Nat→Int:=fun _=>255
def rwF (W:Nat) (g:Nat→Int) (y:Nat):Nat→Int:=fun q=>g (4*W*y+(4*(q / 3)+q % 3))
def txT (W H:Nat) (g:Nat→Int):Nat→List UInt8
  | 0=>bL hdS ++ wlN 2 (f2 W H) ++ wlN 1 f1
  | y+1=>txT W H g y ++ wlN (3*W) (rwF W g y)
theorem wlN_len {m:Nat} {f:Nat→Int} (h:∀ q,q < m→Itn (f q)):(wlN m f).length≤21*m+1:=by
  have:=wlP_len h m (Nat.le_refl _)
  unfold wlN
  rw [List.length_append]
  show _+1≤_
  omega
section
variable {W H:Nat} {N:Nat} {g:Nat→Int}
theorem rw_itn (hN:N=W*H) (hg:By (4*N) g) {y:Nat} (hy:y < H):∀ q,q < 3*W→Itn (rwF W g y q):=fun q hq=>by
  have h1:W*(y+1)≤W*H:=Nat.mul_le_mul_left _ hy
  have h2:W*(y+1)=W*y+W:=Nat.mul_succ _ _
  have h3:4*W*y=4*(W*y):=Nat.mul_assoc _ _ _
  have hb:=hg (4*W*y+(4*(q / 3)+q % 3)) (by rw [h3]; omega)
  exact itn_of hb.1 hb.2
theorem f2_itn (hW:W≤64) (hH:H≤64):∀ q,q < 2→Itn (f2 W H q):=fun q _=>by
  unfold f2
  split
  · exact itn_of (by omega) (by omega)
  · exact itn_of (by omega) (by omega)
theorem f1_itn:∀ q,q < 1→Itn (f1 q):=fun _ _=>itn_of (n:=255) (by decide) (by decide)
theorem txT_len (hW:W≤64) (hH:H≤64) (hN:N=W*H) (hg:By (4*N) g):∀ y,y≤H→(txT W H g y).length≤100+5000*y
  | 0,_=>by
    have h1:=wlN_len (f2_itn hW hH)
    have h2:=wlN_len f1_itn
    unfold txT
    rw [List.length_append,List.length_append]
    show 3+_+_≤_
    omega
  | y+1,hy=>by
    have h1:=txT_len hW hH hN hg y (by omega)
    have h2:=wlN_len (rw_itn hN hg (y:=y) (by omega))
    unfold txT
    rw [List.length_append]
    omega
theorem tx_leads (hW:1≤W∧W≤64) (hH:1≤H∧H≤64) (hN:N=W*H) (hg:By (4*N) g):Leads Tryd.prog (.loop (loopAt Tryd.f9 0)) (txS (W:Nat) (H:Nat) (4*N) g (txT W H g 0) 0) (.exit 0) (txS (W:Nat) (H:Nat) (4*N) g (txT W H g H) (H:Nat)):=by
  refine loop_rule (fun j=>txS (W:Nat) (H:Nat) (4*N) g (txT W H g j) (j:Nat)) H (.exit 0) _ (by simp) (fun j hj=>?_) ?_
  · have h1:W*(j+1)≤W*H:=Nat.mul_le_mul_left _ hj
    have hc:FSpec Tryd.prog 25 [.agg [iA (W:Nat),iA (H:Nat),sB (4*N) g],iA (j:Nat)] (fS (3*W) (rwF W g j)):=coloursOf_spec (W:=W) (H:=(H:Nat)) (y:=j) (n:=4*N) (g:=g) (by omega) (by omega) (by rw [Nat.mul_assoc]; omega) hg
    have hl:=txT_len (W:=W) (H:=H) hW.2 hH.2 hN hg j (by omega)
    have hw:WSpec Tryd.prog 24 [.own 1 0,fS (3*W) (rwF W g j)] (txM2 (W:Nat) (H:Nat) (4*N) g (txT W H g j)) (.tup []) (txM3 (W:Nat) (H:Nat) (4*N) g (txT W H g (j+1))):=tx_w2 (W:=(W:Nat)) (H:=(H:Nat)) (n:=4*N) (g:=g) (fun _=>rfl) (writeLine_spec (l:=txT W H g j) (m:=3*W) (f:=rwF W g j) (by omega) (rw_itn hN hg hj) (by omega))
    refine leads_evW e_nil (k_cons kS_ok k_nil) m_nil (w_cons wQ_ok w_nil) r_nil (finN_sub _ _) noL_ok ((tx_step (W:Nat) (H:Nat) (4*N) g (txT W H g j) (txT W H g (j+1)) (j:Nat) (3*W) (rwF W g j)).trans ?_)
    rw [dec_lt hj,gate_pos hc,propB_t hw,w64_next (by omega)]
    rfl
  · refine leads_evW e_nil k_nil m_nil w_nil r_nil (finE_sub _ _) noL_ok ((tx_end (W:Nat) (H:Nat) (4*N) g (txT W H g H) (H:Nat)).trans ?_)
    rw [dec_self]
    rfl
theorem txT_ne (y:Nat):txT W H g y≠[]:=by
  induction y with
  | zero=>unfold txT; intro h; cases h
  | succ y ih=>unfold txT; intro h; exact ih (List.append_eq_nil_iff.1 h).1
theorem text_spec (hW:1≤W∧W≤64) (hH:1≤H∧H≤64) (hN:N=W*H) (hm:pmay (W:Nat) (H:Nat) (4*N)=0) (hg:By (4*N) g):FSpec Tryd.prog 9 [.agg [iA (W:Nat),iA (H:Nat),sB (4*N) g]] (.tup [zA (lB (txT W H g H)),iA 0]):=by
  have hs:=smay_spec (W:Nat) (H:Nat) (4*N) g
  rw [hm] at hs
  have e1:=tx_w2 (W:=(W:Nat)) (H:=(H:Nat)) (n:=4*N) (g:=g) (a:=.sl 1 2 (chunk [iA (W:Nat),iA (H:Nat)] 1)) (fun _=>rfl) (wl_any (l:=bL hdS) (m:=2) (f:=f2 W H) (sl_to fun q hq=>by match q,hq with | 0,_=>rfl | 1,_=>rfl) (by omega) (f2_itn hW.2 hH.2) (by show 3+21*2≤_; omega))
  have l1:(bL hdS ++ wlN 2 (f2 W H)).length≤100:=by
    have:=wlN_len (f2_itn (W:=W) (H:=H) hW.2 hH.2)
    rw [List.length_append]
    show 3+_≤_
    omega
  have e2:WSpec Tryd.prog 24 [.own 1 0,.sl 1 1 (chunk [iA 255] 1)] (txM3 (W:Nat) (H:Nat) (4*N) g (bL hdS ++ wlN 2 (f2 W H))) (.tup []) (txM4 (W:Nat) (H:Nat) (4*N) g (txT W H g 0)):=tx_w3 (W:=(W:Nat)) (H:=(H:Nat)) (n:=4*N) (g:=g) (a:=.sl 1 1 (chunk [iA 255] 1)) (fun _=>rfl) (wl_any (l:=bL hdS ++ wlN 2 (f2 W H)) (m:=1) (f:=f1) (sl_to fun q hq=>by match q,hq with | 0,_=>rfl) (by omega) f1_itn (by omega))
  refine gspecW e_nil (k_cons kS_ok k_nil) (m_cons (typed_ok _) (m_cons (born_ok _) m_nil)) (w_cons wQ_ok (w_cons wQ_ok (w_cons wQ_ok w_nil))) r_nil Tryd.func9 (by kernel_rfl) (by kernel_rfl) (lok_hd (c:=bodyOf Tryd.f9) (i:=9) 0 (by kernel_rfl) (by kernel_rfl) (toldF_sound (keep:=keepTx) (τ:=[some 0,some 1,some 4]) (tx_leads hW hH hN hg))) rfl ((tx_ev (W:Nat) (H:Nat) (4*N) g (bL hdS) (bL hdS ++ wlN 2 (f2 W H)) (txT W H g 0) (txT W H g H) 0 (H:Nat)).trans ?_)
  rw [gate_pos hs,propB_t tx_w0,propB_t e1,propB_t e2,gate_pos (Sub.refl _),propB_t (tx_wS (txT_ne H))]
  rfl
theorem tx_bad (W H:Int) (n:Nat) (g:Nat→Int) (e:Int):evW Tryd.prog [] (txK e) [] [] [] (oneL 9 fun _ _=>none) Tryd.f9 [.agg [iA W,iA H,sB n g]] ret=gate (FSpec Tryd.prog 18 [.agg [iA W,iA H,sB n g]] (iA e)) (cond (!(e==0)) (some (Out.of (.tup [zA ⟨#[]⟩,iA e]))) none):=by kernel_rfl
theorem text_bad {W H:Int} {n:Nat} {g:Nat→Int} (h:pmay W H n≠0):FSpec Tryd.prog 9 [.agg [iA W,iA H,sB n g]] (.tup [zA ⟨#[]⟩,iA (pmay W H n)]):=by
  refine gspecW e_nil (k_cons kS_ok k_nil) m_nil w_nil r_nil Tryd.func9 (by kernel_rfl) (by kernel_rfl) (lok_none 9) rfl ((tx_bad W H n g (pmay W H n)).trans ?_)
  rw [gate_pos (smay_spec W H n g),show (pmay W H n==0)=false by simpa using h]
  rfl
end
end Go.Proofs.YtcdhdnfkcmjnpaaDoor.Pi

namespace Go.Proofs.YtcdhdnfkcmjnpaaDoor.Pi
open Go.Shelf Go.RowKit Go.Gv

noncomputable def dcC (c:Int):ByteArray:=strF 1 fun i=>Go.Gv.byteOf (chunk [yA c] 1 i)
noncomputable def dcK (s:ByteArray):List KEntry:=[kS Tryd.prog 27 fun _=>zA s]
noncomputable def adB (a b:ByteArray):Bool:=catF a b
theorem dec_ev (n:Int) (s:ByteArray):evM Tryd.prog [] (dcK s) [born 22] noL Tryd.f27 [iA n] ret =
    cond (decide (n < 0)) (gate (FSpec Tryd.prog 27 [iA (w64 (0 - n))] (zA s)) (cond (adB ⟨#[45]⟩ s||false) (some (Out.of (zA (⟨#[45]⟩ ++ s)))) none))
      (cond (decide (n < 10)) (some (Out.of (zA (dcC (by8 (w64 (48+n)))))))
        (gate (FSpec Tryd.prog 27 [iA (w64 (n.tdiv 10))] (zA s)) (cond ((adB s (dcC (by8 (w64 (48+n.tmod 10))))||false)&&true) (some (Out.of (zA (s ++ dcC (by8 (w64 (48+n.tmod 10))))))) none))):=by kernel_rfl
theorem dcC_eq (c:Nat):dcC (c:Nat)=lB [UInt8.ofNat c]:=by
  unfold dcC
  rw [strF_eq]
  show ByteArray.push ByteArray.empty (UInt8.ofNat ((c:Int)).toNat)=_
  rw [Int.toNat_natCast]
  rfl
theorem lB_app (a b:List UInt8):lB a ++ lB b=lB (a ++ b):=by
  apply ByteArray.ext
  simp [lB]
theorem dec_dig {k:Nat} (h:k < 10):dcC (by8 (w64 (48+(k:Int))))=lB [UInt8.ofNat (48+k)]:=by
  rw [w64_id (by omega) (by omega),show by8 (48+(k:Int))=((48+k:Nat):Int) by unfold by8; rw [u8_id (by omega) (by omega)]; omega,dcC_eq]
theorem dec_one {k:Nat} (h:k < 10):FSpec Tryd.prog 27 [iA (k:Nat)] (zA (lB [UInt8.ofNat (48+k)])):=by
  refine gspecM e_nil (k_cons kS_ok k_nil) (m_cons (born_ok _) m_nil) Tryd.func27 (by kernel_rfl) (by kernel_rfl) noL_ok rfl ((dec_ev (k:Nat) ⟨#[]⟩).trans ?_)
  rw [decide_eq_false (show ¬ (k:Int) < 0 by omega),decide_eq_true (show (k:Int) < 10 by omega),dec_dig h]
  rfl
theorem dec_more {k:Nat} {l:List UInt8} (h10:10≤k) (hk:k < 1000) (hl:l.length≤100) (h:FSpec Tryd.prog 27 [iA ((k / 10:Nat):Int)] (zA (lB l))):FSpec Tryd.prog 27 [iA (k:Nat)] (zA (lB (l ++ [UInt8.ofNat (48+k % 10)]))):=by
  refine gspecM e_nil (k_cons kS_ok k_nil) (m_cons (born_ok _) m_nil) Tryd.func27 (by kernel_rfl) (by kernel_rfl) noL_ok rfl ((dec_ev (k:Nat) (lB l)).trans ?_)
  have e1:w64 ((k:Int).tdiv 10)=((k / 10:Nat):Int):=by rw [Int.tdiv_eq_ediv_of_nonneg (by omega),w64_id (by omega) (by omega)]; omega
  have e2:(k:Int).tmod 10=((k % 10:Nat):Int):=by rw [Int.tmod_eq_emod_of_nonneg (by omega)]; omega
  have e3:adB (lB l) (lB [UInt8.ofNat (48+k % 10)])=true:=by
    unfold adB
    rw [catF_eq]
    exact decide_eq_true (by show ((l.length+1:Nat):Int)≤9223372036854775807; omega)
  rw [decide_eq_false (show ¬ (k:Int) < 0 by omega),decide_eq_false (show ¬ (k:Int) < 10 by omega),e1,e2,gate_pos h,dec_dig (k:=k % 10) (by omega),e3,lB_app]
  rfl
theorem dec_spec {k:Nat} (h:k < 1000):FSpec Tryd.prog 27 [iA (k:Nat)] (zA (lB (d3 k))):=by
  unfold d3
  by_cases h1:k < 10
  · rw [if_pos h1]; exact dec_one h1
  · rw [if_neg h1]
    by_cases h2:k < 100
    · rw [if_pos h2]
      exact dec_more (l:=[UInt8.ofNat (48+k / 10)]) (by omega) h (by show 1≤100; omega) (dec_one (by omega))
    · rw [if_neg h2]
      exact dec_more (l:=[UInt8.ofNat (48+k / 10 / 10),UInt8.ofNat (48+k / 10 % 10)]) (by omega) h (by show 2≤100; omega) (dec_more (l:=[UInt8.ofNat (48+k / 10 / 10)]) (by omega) (by omega) (by show 1≤100; omega) (dec_one (by omega)))
end Go.Proofs.YtcdhdnfkcmjnpaaDoor.Pi

namespace Go.Proofs.YtcdhdnfkcmjnpaaDoor.Pi
open Go.Shelf Go.RowKit Go.Gv

def dcG (df:Int→ByteArray):List AV→AV
  | [.x (.int _ n)]=>zA (df n)
  | _=>.any
noncomputable def dcF (df:Int→ByteArray):List KEntry:=[kS Tryd.prog 27 (dcG df)]
def ptS (W H:Int) (n:Nat) (g:Nat→Int) (s:ByteArray) (i c:Int):St:=mkS 68 [(1,.own 0 0),(5,zA s),(6,iA i),(7,iA c)] [txB W H n g]
def ptO (W H:Int) (n:Nat) (g:Nat→Int) (s:ByteArray) (i:Int):St:=mkS 68 [(1,.own 0 0),(5,zA s),(6,iA i)] [txB W H n g]
def keepPi:List Nat:=[1,5,6,7]
def keepPo:List Nat:=[1,5,6]
def spS:ByteArray:=⟨#[32]⟩
section
variable (W H:Int) (n:Nat) (g:Nat→Int) (s s1:ByteArray) (df:Int→ByteArray) (i c:Int)
def nzB (W:Int):Bool:=!(W==0)||false
def ptX:Int:=w64 (w64 (4*i)+c)
noncomputable def ptD (t:ByteArray) (x:ByteArray→Option Out):Option Out:=cond (ixB (ptX i c) n||false) (gate (FSpec Tryd.prog 27 [iA (w64 (g (ptX i c).toNat))] (zA (df (w64 (g (ptX i c).toNat))))) (cond (adB t (df (w64 (g (ptX i c).toNat)))||false) (x (t ++ df (w64 (g (ptX i c).toNat)))) none)) none
noncomputable def ptT (y:ByteArray→Option Out) (z:Option Out):Option Out:=cond (decide (c < 3)) (cond (nzB W) (cond (decide (w64 (i.tmod W+c) > 0)) (cond (adB s spS||false) (ptD n g df i c (s ++ spS) y) none) (ptD n g df i c s y)) none) z
theorem pi_step:evCM Tryd.prog [] (dcF df) [] noL (loopAt Tryd.f10 1) (ptS W H n g s i c) (finN keepPi [some 0])=ptT W n g s df i c (fun t=>some ⟨.normal,ptS W H n g t i (w64 (c+1)),.any⟩) none:=by kernel_rfl
theorem pi_end:evCM Tryd.prog [] (dcF df) [] noL (loopAt Tryd.f10 1) (ptS W H n g s i c) (finE keepPi [some 0])=ptT W n g s df i c (fun _=>none) (some ⟨.exit 2,ptS W H n g s i c,.any⟩):=by kernel_rfl
theorem po_step:evCM Tryd.prog [] (dcF df) [] (oneL 9 (toldF keepPi [some 0] (ptS W H n g s i 0) (.exit 2) (ptS W H n g s1 i 3))) (loopAt Tryd.f10 0) (ptO W H n g s i) (finN keepPo [some 0]) =
    cond (decide (i < w64 (W*H))) (gate (Sub (ptS W H n g s i 0) (ptS W H n g s i 0)) (cond (nzB W&&true) (cond (i.tmod W==w64 (W - 1)) (cond (adB s1 nlS||false) (some ⟨.normal,ptO W H n g (s1 ++ nlS) (w64 (i+1)),.any⟩) none) (some ⟨.normal,ptO W H n g s1 (w64 (i+1)),.any⟩)) none)) none:=by kernel_rfl
theorem po_end:evCM Tryd.prog [] (dcF df) [] (oneL 9 fun _ _=>none) (loopAt Tryd.f10 0) (ptO W H n g s i) (finE keepPo [some 0]) =
    cond (decide (i < w64 (W*H))) none (some ⟨.exit 0,ptO W H n g s i,.any⟩):=by kernel_rfl
end
section
variable (W H:Int) (n:Nat) (g:Nat→Int) (s1:ByteArray) (df:Int→ByteArray) (e i:Int)
def tlS:ByteArray:=⟨#[10,50,53,53,10]⟩
def ptH:ByteArray:=(((hdS ++ df W) ++ spS) ++ df H) ++ tlS
noncomputable def ptK:List KEntry:=kS Tryd.prog 20 (fun _=>iA e)::dcF df
noncomputable def ptC:Bool:=(adB hdS (df W)||false)&&((adB (hdS ++ df W) spS||false)&&((adB ((hdS ++ df W) ++ spS) (df H)||false)&&((adB (((hdS ++ df W) ++ spS) ++ df H) tlS||false)&&true)))
theorem pt_ev:evM Tryd.prog [] (ptK df e) [] (oneL 6 (toldF keepPo [some 0] (ptO W H n g (ptH W H df) 0) (.exit 0) (ptO W H n g s1 i))) Tryd.f10 [.agg [iA W,iA H,sB n g]] ret =
  gate (FSpec Tryd.prog 20 [.agg [iA W,iA H,sB n g]] (iA e)) (cond (!(e==0)) (some (Out.of (.tup [zA ⟨#[]⟩,iA e])))
   (gate (FSpec Tryd.prog 27 [iA W] (zA (df W))) (gate (FSpec Tryd.prog 27 [iA H] (zA (df H))) (cond (ptC W H df) (gate (Sub (ptO W H n g (ptH W H df) 0) (ptO W H n g (ptH W H df) 0)) (some (Out.of (.tup [zA s1,iA 0])))) none)))):=by kernel_rfl
theorem pt_bad:evM Tryd.prog [] [kS Tryd.prog 20 (fun _=>iA e),⟨27,fun _ _=>none⟩] [] (oneL 6 fun _ _=>none) Tryd.f10 [.agg [iA W,iA H,sB n g]] ret =
  gate (FSpec Tryd.prog 20 [.agg [iA W,iA H,sB n g]] (iA e)) (cond (!(e==0)) (some (Out.of (.tup [zA ⟨#[]⟩,iA e]))) none):=by kernel_rfl
end
end Go.Proofs.YtcdhdnfkcmjnpaaDoor.Pi

namespace Go.Proofs.YtcdhdnfkcmjnpaaDoor.Pi
open Go.Shelf Go.RowKit Go.Gv

def dgt (b:UInt8):Prop:=b≠35∧gapB b=false
theorem wrds_word1 {c:UInt8} (hc:gapB c=true) (l:List UInt8):∀ (w v:List UInt8),(∀ b,b ∈ w→dgt b)→v ++ w≠[]→wrds (w ++ c::l) v false=(v ++ w)::wrds l [] false
  | [],v,_,h=>by
    rw [List.append_nil] at h ⊢
    rw [List.nil_append]
    conv=>lhs; unfold wrds
    rw [if_neg (gap_not hc),if_pos (Or.inr hc),if_neg h,Bool.false_and]
  | b::w,v,hw,h=>by
    obtain ⟨h1,h2⟩:=hw b (by simp)
    rw [List.cons_append]
    conv=>lhs; unfold wrds
    rw [if_neg h1,if_neg (by rw [h2]; simp),wrds_word1 hc l w (v ++ [b]) (fun x hx=>hw x (by simp [hx])) (by simp)]
    simp
theorem digit_ok:(List.range 10).all (fun k=>!(UInt8.ofNat (48+k)==35)&&!(gapB (UInt8.ofNat (48+k))))=true:=by kernel_rfl
theorem dgt_of {k:Nat} (h:k < 10):dgt (UInt8.ofNat (48+k)):=by
  have:=List.all_eq_true.1 digit_ok k (List.mem_range.2 h)
  simp only [Bool.and_eq_true,Bool.not_eq_true',beq_eq_false_iff_ne] at this
  exact this
theorem d3_dgt {n:Nat} (h:n < 1000):∀ b,b ∈ d3 n→dgt b:=fun b hb=>by
  unfold d3 at hb
  split at hb
  · simp only [List.mem_singleton] at hb; subst hb; exact dgt_of (by omega)
  · split at hb
    · simp only [List.mem_cons,List.not_mem_nil,or_false] at hb
      rcases hb with rfl | rfl
      · exact dgt_of (by omega)
      · exact dgt_of (by omega)
    · simp only [List.mem_cons,List.not_mem_nil,or_false] at hb
      rcases hb with rfl | rfl | rfl
      · exact dgt_of (by omega)
      · exact dgt_of (by omega)
      · exact dgt_of (by omega)
/-- A number that is a byte. -/
def Byt (n:Int):Prop:=0≤n∧n≤255
theorem byt_itoa {n:Int} (h:Byt n):Lib.itoa n=d3 n.toNat:=by
  obtain ⟨k,rfl⟩:=Int.eq_ofNat_of_zero_le h.1
  have:=h.2
  exact itoa_d3 (by omega)
theorem wrds_num {n:Int} (h:Byt n) {c:UInt8} (hc:gapB c=true) (l:List UInt8):wrds (Lib.itoa n ++ c::l) [] false=Lib.itoa n::wrds l [] false:=by
  have h2:=h.2
  have h1:=h.1
  rw [byt_itoa h]
  refine wrds_word1 hc l _ [] (d3_dgt (by omega)) ?_
  rw [List.nil_append]
  intro e
  have:=(d3_len n.toNat).1
  rw [e] at this
  exact absurd this (by decide)
theorem wrds_nums {f:Nat→Int}:∀ (j:Nat),(∀ q,q < j+1→Byt (f q))→∀ {c:UInt8},gapB c=true→∀ l:List UInt8,wrds (wlP f (j+1) ++ c::l) [] false=(List.range (j+1)).map (fun q=>Lib.itoa (f q)) ++ wrds l [] false
  | 0,h,c,hc,l=>by
    have e:wlP f 1=Lib.itoa (f 0):=rfl
    rw [show (0+1:Nat)=1 from rfl,e,wrds_num (h 0 (by omega)) hc l]
    rfl
  | j + 1,h,c,hc,l=>by
    have e:wlP f (j+2) ++ c::l=wlP f (j+1) ++ 32::(Lib.itoa (f (j+1)) ++ c::l):=by
      show (wlP f (j+1) ++ ((if j+1=0 then [] else [32]) ++ Lib.itoa (f (j+1)))) ++ c::l=_
      rw [if_neg (by omega)]
      simp
    rw [show j+1+1=j+2 from rfl,e,wrds_nums j (fun q hq=>h q (by omega)) (by decide) _,wrds_num (h (j+1) (by omega)) hc l,List.range_succ (n:=j+1),List.map_append,List.append_assoc]
    rfl
theorem wrds_line {m:Nat} {f:Nat→Int} (hm:0 < m) (h:∀ q,q < m→Byt (f q)) (l:List UInt8):wrds (wlN m f ++ l) [] false=(List.range m).map (fun q=>Lib.itoa (f q)) ++ wrds l [] false:=by
  obtain ⟨j,rfl⟩:∃ j,m=j+1:=⟨m - 1,by omega⟩
  unfold wlN
  rw [List.append_assoc]
  exact wrds_nums j h (by decide) l
/-- The words: the mark, the sides, the greatest number, all colours. -/
def txH (W H:Nat):List (List UInt8):=[[80,51],Lib.itoa (W:Int),Lib.itoa (H:Int),Lib.itoa 255]
def pcF (g:Nat→Int) (k:Nat):Int:=g (4*(k / 3)+k % 3)
def txQ (W H:Nat) (g:Nat→Int) (y:Nat):List (List UInt8):=txH W H ++ (List.range (3*(W*y))).map fun k=>Lib.itoa (pcF g k)
theorem wrds_txT {W H N:Nat} {g:Nat→Int} (hW:1≤W∧W≤64) (hH:1≤H∧H≤64) (hN:N=W*H) (hg:By (4*N) g):∀ (y:Nat),y≤H→∀ l:List UInt8,wrds (txT W H g y ++ l) [] false=txQ W H g y ++ wrds l [] false
  | 0,_,l=>by
    have e:txT W H g 0 ++ l=[80,51] ++ 10::(wlN 2 (f2 W H) ++ (wlN 1 f1 ++ l)):=by
      unfold txT
      simp only [List.append_assoc]
      rfl
    have hb2:∀ q,q < 2→Byt (f2 W H q):=fun q _=>by
      unfold f2 Byt
      split<;>omega
    rw [e,wrds_word1 (by decide) _ [80,51] [] (fun b hb=>by
      simp only [List.mem_cons,List.not_mem_nil,or_false] at hb
      rcases hb with rfl | rfl
      · exact ⟨by decide,by decide⟩
      · exact ⟨by decide,by decide⟩) (by simp),wrds_line (by omega) hb2,wrds_line (m:=1) (by omega) (fun q _=>⟨by show (0:Int)≤255; omega,by show (255:Int)≤255; omega⟩)]
    rfl
  | y + 1,hy,l=>by
    have e:txT W H g (y+1) ++ l=txT W H g y ++ (wlN (3*W) (rwF W g y) ++ l):=by
      show (txT W H g y ++ wlN (3*W) (rwF W g y)) ++ l=_
      rw [List.append_assoc]
    have h1:W*(y+1)≤W*H:=Nat.mul_le_mul_left _ hy
    have h2:W*(y+1)=W*y+W:=Nat.mul_succ _ _
    have h3:4*W*y=4*(W*y):=Nat.mul_assoc _ _ _
    have hb:∀ q,q < 3*W→Byt (rwF W g y q):=fun q hq=>hg (4*W*y+(4*(q / 3)+q % 3)) (by rw [h3]; omega)
    rw [e,wrds_txT hW hH hN hg y (by omega),wrds_line (by omega) hb]
    have hm:(List.range (3*W)).map (fun q=>Lib.itoa (rwF W g y q))=(List.range (3*W)).map ((fun k=>Lib.itoa (pcF g k)) ∘ fun x=>3*(W*y)+x):=by
      refine List.map_congr_left fun q hq=>?_
      have hq:=List.mem_range.1 hq
      show Lib.itoa (g (4*W*y+(4*(q / 3)+q % 3)))=Lib.itoa (g (4*((3*(W*y)+q) / 3)+(3*(W*y)+q) % 3))
      rw [h3,show 4*(W*y)+(4*(q / 3)+q % 3)=4*((3*(W*y)+q) / 3)+(3*(W*y)+q) % 3 by omega]
    unfold txQ
    rw [h2,Nat.mul_add,List.range_add,List.map_append,List.map_map,hm]
    simp only [List.append_assoc]
theorem wds_text {W H N:Nat} {g:Nat→Int} (hW:1≤W∧W≤64) (hH:1≤H∧H≤64) (hN:N=W*H) (hg:By (4*N) g):wds (lB (txT W H g H))=txQ W H g H:=by
  have h:=wrds_txT hW hH hN hg H (Nat.le_refl _) []
  rw [List.append_nil] at h
  have e:wrds [] [] false=[]:=rfl
  rw [e,List.append_nil] at h
  exact h
end Go.Proofs.YtcdhdnfkcmjnpaaDoor.Pi

namespace Go.Proofs.YtcdhdnfkcmjnpaaDoor.Pi
open Go.Shelf Go.RowKit Go.Gv

theorem num_all:(List.range 256).all (fun k=>numP (d3 k)==((k:Int),(0:Int)))=true:=by kernel_rfl
theorem num_d3 {n:Int} (h:Byt n):numP (Lib.itoa n)=(n,0):=by
  rw [byt_itoa h]
  obtain ⟨k,rfl⟩:=Int.eq_ofNat_of_zero_le h.1
  have h2:=h.2
  have:=List.all_eq_true.1 num_all k (List.mem_range.2 (by omega))
  exact beq_iff_eq.1 this
theorem wlP_len4 {f:Nat→Int} {m:Nat} (h:∀ q,q < m→Byt (f q)):∀ j,j≤m→(wlP f j).length≤4*j
  | 0,_=>by simp [wlP]
  | j+1,hj=>by
    have h1:=wlP_len4 h j (by omega)
    have h2:(Lib.itoa (f j)).length≤3:=by rw [byt_itoa (h j (by omega))]; exact (d3_len _).2
    have h3:(if j=0 then ([]:List UInt8) else [32]).length≤1:=by split<;>simp
    unfold wlP
    rw [List.length_append,List.length_append]
    omega
theorem wlN_len4 {m:Nat} {f:Nat→Int} (h:∀ q,q < m→Byt (f q)):(wlN m f).length≤4*m+1:=by
  have:=wlP_len4 h m (Nat.le_refl _)
  unfold wlN
  rw [List.length_append]
  show _+1≤_
  omega
section
variable {W H N:Nat} {g:Nat→Int}
theorem txT_len4 (hW:1≤W∧W≤64) (hH:1≤H∧H≤64) (hN:N=W*H) (hg:By (4*N) g):∀ y,y≤H→(txT W H g y).length≤20+800*y
  | 0,_=>by
    have h1:=wlN_len4 (m:=2) (f:=f2 W H) fun q _=>by unfold f2 Byt; split<;>omega
    have h2:=wlN_len4 (m:=1) (f:=f1) fun q _=>⟨by show (0:Int)≤255; omega,by show (255:Int)≤255; omega⟩
    unfold txT
    rw [List.length_append,List.length_append]
    show 3+_+_≤_
    omega
  | y+1,hy=>by
    have h1:=txT_len4 hW hH hN hg y (by omega)
    have h4:W*(y+1)≤W*H:=Nat.mul_le_mul_left _ hy
    have h5:W*(y+1)=W*y+W:=Nat.mul_succ _ _
    have h3:4*W*y=4*(W*y):=Nat.mul_assoc _ _ _
    have h2:=wlN_len4 (m:=3*W) (f:=rwF W g y) fun q hq=>hg (4*W*y+(4*(q / 3)+q % 3)) (by rw [h3]; omega)
    unfold txT
    rw [List.length_append]
    omega
theorem txQ_k {k:Nat} (hk:k < 3*(W*H)):wK (txQ W H g H) (4+k)=Lib.itoa (pcF g k):=by
  unfold wK txQ
  rw [List.getD_eq_getElem?_getD,List.getElem?_append_right (by show 4≤4+k; omega)]
  show ((List.map _ (List.range (3*(W*H))))[4+k - 4]?).getD []=_
  rw [show 4+k - 4=k by omega,List.getElem?_map,List.getElem?_range hk]
  rfl
theorem txQ_end:wK (txQ W H g H) (4+3*(W*H))=[]:=by
  unfold wK txQ
  rw [List.getD_eq_getElem?_getD,List.getElem?_eq_none (by rw [List.length_append,List.length_map,List.length_range]; show 4+_≤_; omega)]
  rfl
theorem pcF_byt (hN:N=W*H) (hg:By (4*N) g) {k:Nat} (hk:k < 3*(W*H)):Byt (pcF g k):=hg _ (by omega)
theorem pxE_zero {ws:WS}:∀ m,(∀ k,k < m→nE ws (4+k)=0)→pxE ws m=0
  | 0,_=>rfl
  | m+1,h=>by
    unfold pxE
    rw [if_neg (fun c=>c (pxE_zero m fun k hk=>h k (by omega)))]
    exact h m (by omega)
theorem rd_text (hW:1≤W∧W≤64) (hH:1≤H∧H≤64) (hN:N=W*H) (hg:By (4*N) g):rdE (lB (txT W H g H)).size (wds (lB (txT W H g H)))=0∧rdN (wds (lB (txT W H g H)))=N∧nN (wds (lB (txT W H g H))) 1=(W:Nat)∧nN (wds (lB (txT W H g H))) 2=(H:Nat) ∧
    ∀ j,j < 4*N→rdG (wds (lB (txT W H g H))) j=if j % 4=3 then 255 else g j:=by
  rw [wds_text hW hH hN hg]
  have n1:numP (wK (txQ W H g H) 1)=((W:Int),0):=num_d3 (n:=(W:Int)) ⟨by omega,by omega⟩
  have n2:numP (wK (txQ W H g H) 2)=((H:Int),0):=num_d3 (n:=(H:Int)) ⟨by omega,by omega⟩
  have n3:numP (wK (txQ W H g H) 3)=(255,0):=num_d3 (n:=255) ⟨by decide,by decide⟩
  have nk:∀ k,k < 3*(W*H)→numP (wK (txQ W H g H) (4+k))=(pcF g k,0):=fun k hk=>by rw [txQ_k hk]; exact num_d3 (pcF_byt hN hg hk)
  have eN:rdN (txQ W H g H)=N:=by
    unfold rdN nN
    rw [n1,n2]
    show ((W:Int)*(H:Int)).toNat=N
    rw [← Int.natCast_mul,Int.toNat_natCast,hN]
  have eH:rdH (txQ W H g H)=0:=by
    have w1:sidB (W:Int)=true:=by unfold sidB; rw [decide_eq_true (by omega),decide_eq_true (by omega)]; rfl
    have w2:sidB (H:Int)=true:=by unfold sidB; rw [decide_eq_true (by omega),decide_eq_true (by omega)]; rfl
    have h0:wK (txQ W H g H) 0=[80,51]:=rfl
    have he:e3 (txQ W H g H) 1=0:=by unfold e3 nE; rw [n1,n2,n3]; rfl
    unfold rdH nN
    rw [h0,he,n1,n2,n3,if_neg (by decide),if_neg (by decide),if_neg (by decide),if_neg (by rw [w1,w2]; simp),if_neg (by decide)]
  have hl:=txT_len4 hW hH hN hg H (Nat.le_refl _)
  refine ⟨?_,eN,?_,?_,fun j hj=>?_⟩
  · unfold rdE
    rw [if_neg (by rw [lB_size]; omega),eH,eN,if_neg (by decide),if_neg (fun c=>c (pxE_zero _ fun k hk=>by unfold nE; rw [nk k (by omega)])),if_neg (fun c=>c (by rw [hN]; exact txQ_end))]
  · unfold nN; rw [n1]
  · unfold nN; rw [n2]
  · unfold rdG
    by_cases c:j % 4=3
    · rw [if_pos c,if_pos c]
    · rw [if_neg c,if_neg c]
      unfold nN
      rw [show 4+3*(j / 4)+j % 4=4+(3*(j / 4)+j % 4) by omega,nk _ (by omega)]
      show g (4*((3*(j / 4)+j % 4) / 3)+(3*(j / 4)+j % 4) % 3)=g j
      congr 1
      omega
end
end Go.Proofs.YtcdhdnfkcmjnpaaDoor.Pi

namespace Go.Proofs.YtcdhdnfkcmjnpaaDoor.Pi
open Go.Shelf Go.RowKit Go.Gv

def ptB (W H:Nat) (g:Nat→Int) (i c:Nat):List UInt8:=txT W H g (i / W) ++ wlP (rwF W g (i / W)) (3*(i % W)+c)
theorem adB_t {a b:List UInt8} (h:a.length+b.length≤1000000000):adB (lB a) (lB b)=true:=by
  unfold adB
  rw [catF_eq]
  exact decide_eq_true (by show ((a.length+b.length:Nat):Int)≤9223372036854775807; omega)
section
variable {W H N:Nat} {g:Nat→Int}
theorem ptB_next (i c:Nat) (hc:c < 3):ptB W H g i (c+1)=ptB W H g i c ++ ((if i % W+c=0 then [] else [32]) ++ Lib.itoa (rwF W g (i / W) (3*(i % W)+c))):=by
  unfold ptB
  rw [← Nat.add_assoc]
  show txT W H g (i / W) ++ (wlP (rwF W g (i / W)) (3*(i % W)+c) ++ ((if 3*(i % W)+c=0 then [] else [32]) ++ Lib.itoa (rwF W g (i / W) (3*(i % W)+c))))=_
  by_cases h:i % W+c=0
  · rw [if_pos h,if_pos (by omega),List.append_assoc]
  · rw [if_neg h,if_neg (by omega),List.append_assoc]
theorem rw_at (i c:Nat) (hc:c < 3):rwF W g (i / W) (3*(i % W)+c)=g (4*i+c):=by
  unfold rwF
  have h:=Nat.div_add_mod i W
  have h3:4*W*(i / W)=4*(W*(i / W)):=Nat.mul_assoc _ _ _
  congr 1
  rw [h3]
  omega
theorem ptB_row (hW:1≤W) {i:Nat} (h:i % W=W - 1):ptB W H g (i+1) 0=ptB W H g i 3 ++ [10]:=by
  have hd:=Nat.div_add_mod i W
  have e:i+1=W*(i / W+1):=by rw [Nat.mul_succ]; omega
  have e1:(i+1) / W=i / W+1:=by rw [e]; exact Nat.mul_div_cancel_left _ hW
  have e2:(i+1) % W=0:=by rw [e]; exact Nat.mul_mod_right _ _
  unfold ptB
  rw [e1,e2,h,show 3*(W - 1)+3=3*W by omega]
  show (txT W H g (i / W) ++ (wlP (rwF W g (i / W)) (3*W) ++ [10])) ++ []=_
  rw [List.append_nil,List.append_assoc]
theorem ptB_in (hW:1≤W) {i:Nat} (h:i % W≠W - 1):ptB W H g (i+1) 0=ptB W H g i 3:=by
  have hd:=Nat.div_add_mod i W
  have hl:=Nat.mod_lt i (show W > 0 by omega)
  have e:i+1=(i % W+1)+W*(i / W):=by omega
  have e1:(i+1) / W=i / W:=by rw [e,Nat.add_mul_div_left _ _ (by omega),Nat.div_eq_of_lt (by omega),Nat.zero_add]
  have e2:(i+1) % W=i % W+1:=by rw [e,Nat.add_mul_mod_self_left,Nat.mod_eq_of_lt (by omega)]
  unfold ptB
  rw [e1,e2]
  rfl
theorem ptB_end (hW:1≤W):ptB W H g (W*H) 0=txT W H g H:=by
  unfold ptB
  rw [Nat.mul_div_cancel_left _ hW,Nat.mul_mod_right]
  exact List.append_nil _
theorem ptB_len (hW:1≤W∧W≤64) (hH:1≤H∧H≤64) (hN:N=W*H) (hg:By (4*N) g) {i c:Nat} (hi:i < W*H) (hc:c≤3):(ptB W H g i c).length≤1000000:=by
  have hy:i / W < H:=Nat.div_lt_of_lt_mul hi
  have hm:=Nat.mod_lt i (show W > 0 by omega)
  have h1:=txT_len (W:=W) (H:=H) hW.2 hH.2 hN hg (i / W) (by omega)
  have h2:=wlP_len (rw_itn hN hg hy) (3*(i % W)+c) (by omega)
  unfold ptB
  rw [List.length_append]
  omega
def dfF (n:Int):ByteArray:=lB (d3 n.toNat)
theorem dcF_ok (df:Int→ByteArray):∀ e,e ∈ dcF df→KOk Tryd.prog e:=k_cons kS_ok k_nil
theorem dec_byt {v:Int} (h:Byt v):FSpec Tryd.prog 27 [iA v] (zA (dfF v)):=by
  obtain ⟨k,rfl⟩:=Int.eq_ofNat_of_zero_le h.1
  have h2:=h.2
  exact dec_spec (k:=k) (by omega)
theorem d3_le (n:Nat):(d3 n).length≤3:=(d3_len n).2
theorem ptD_at (hW:1≤W∧W≤64) (hH:1≤H∧H≤64) (hN:N=W*H) (hg:By (4*N) g) {i c:Nat} (hi:i < W*H) (hc:c < 3) {l:List UInt8} (hl:l.length≤1000001) (y:ByteArray→Option Out) :
    ptD (4*N) g dfF (i:Nat) (c:Nat) (lB l) y=y (lB (l ++ Lib.itoa (g (4*i+c)))):=by
  have hM:W*H≤64*64:=Nat.mul_le_mul hW.2 hH.2
  have eX:ptX (i:Nat) (c:Nat)=((4*i+c:Nat):Int):=by
    unfold ptX
    rw [w64_id (n:=4*_) (by omega) (by omega),w64_id (by omega) (by omega)]; omega
  have hb:Byt (g (4*i+c)):=hg _ (by omega)
  unfold ptD
  rw [eX,Int.toNat_natCast,w64_id (by have:=hb.1; omega) (by have:=hb.2; omega),ixB_t (by omega),gate_pos (dec_byt hb),byt_itoa hb]
  unfold dfF
  rw [adB_t (by have:=d3_le (g (4*i+c)).toNat; omega),lB_app]
  rfl
theorem ptT_at (hW:1≤W∧W≤64) (hH:1≤H∧H≤64) (hN:N=W*H) (hg:By (4*N) g) {i c:Nat} (hi:i < W*H) (hc:c < 3) (y:ByteArray→Option Out) (z:Option Out) :
    ptT (W:Nat) (4*N) g (lB (ptB W H g i c)) dfF (i:Nat) (c:Nat) y z=y (lB (ptB W H g i (c+1))):=by
  have hM:W*H≤64*64:=Nat.mul_le_mul hW.2 hH.2
  have hl:=ptB_len hW hH hN hg (c:=c) hi (by omega)
  have hm:=Nat.mod_lt i (show W > 0 by omega)
  have e1:w64 ((i:Int).tmod (W:Int)+(c:Int))=((i % W+c:Nat):Int):=by
    rw [← Int.ofNat_tmod,w64_id (by omega) (by omega)]; omega
  have ez:nzB (W:Nat)=true:=by unfold nzB; rw [beq_false_of_ne (by omega)]; rfl
  have hs:spS=lB [32]:=rfl
  unfold ptT
  rw [decide_eq_true (show (c:Int) < 3 by omega),ez,e1,ptB_next i c hc,rw_at i c hc]
  by_cases h:i % W+c=0
  · rw [decide_eq_false (by omega),if_pos h,List.nil_append,cond_true,cond_true,cond_false,ptD_at hW hH hN hg hi hc (by omega)]
  · rw [decide_eq_true (by omega),if_neg h,hs,adB_t (by show _+1≤_; omega),lB_app,← List.append_assoc,cond_true,cond_true,cond_true,Bool.or_false,cond_true,ptD_at hW hH hN hg hi hc (by rw [List.length_append]; show _+1≤_; omega)]
theorem pi_leads (hW:1≤W∧W≤64) (hH:1≤H∧H≤64) (hN:N=W*H) (hg:By (4*N) g) {i:Nat} (hi:i < W*H) :
    Leads Tryd.prog (.loop (loopAt Tryd.f10 1)) (ptS (W:Nat) (H:Nat) (4*N) g (lB (ptB W H g i 0)) (i:Nat) 0) (.exit 2) (ptS (W:Nat) (H:Nat) (4*N) g (lB (ptB W H g i 3)) (i:Nat) 3):=by
  refine loop_rule (fun c=>ptS (W:Nat) (H:Nat) (4*N) g (lB (ptB W H g i c)) (i:Nat) (c:Nat)) 3 (.exit 2) _ (by simp) (fun c hc=>?_) ?_
  · refine leads_evM (finN_sub _ _) e_nil (dcF_ok dfF) m_nil noL_ok ((pi_step (W:Nat) (H:Nat) (4*N) g (lB (ptB W H g i c)) dfF (i:Nat) (c:Nat)).trans ?_)
    rw [ptT_at hW hH hN hg hi hc,w64_next (by omega)]
  · refine leads_evM (finE_sub _ _) e_nil (dcF_ok dfF) m_nil noL_ok ((pi_end (W:Nat) (H:Nat) (4*N) g (lB (ptB W H g i 3)) dfF (i:Nat) (3:Nat)).trans ?_)
    unfold ptT
    rw [decide_eq_false (by omega)]
    rfl
theorem po_leads (hW:1≤W∧W≤64) (hH:1≤H∧H≤64) (hN:N=W*H) (hg:By (4*N) g) :
    Leads Tryd.prog (.loop (loopAt Tryd.f10 0)) (ptO (W:Nat) (H:Nat) (4*N) g (lB (ptB W H g 0 0)) 0) (.exit 0) (ptO (W:Nat) (H:Nat) (4*N) g (lB (ptB W H g (W*H) 0)) (W*H:Nat)):=by
  have hM:W*H≤64*64:=Nat.mul_le_mul hW.2 hH.2
  have em:w64 ((W:Int)*(H:Int))=((W*H:Nat):Int):=by rw [← Int.natCast_mul,w64_id (by omega) (by omega)]
  refine loop_rule (fun i=>ptO (W:Nat) (H:Nat) (4*N) g (lB (ptB W H g i 0)) (i:Nat)) (W*H) (.exit 0) _ (by simp) (fun i hi=>?_) ?_
  · have hL:=lok_hd (c:=loopAt Tryd.f10 0) (i:=9) 0 (by kernel_rfl) (by kernel_rfl) (toldF_sound (keep:=keepPi) (τ:=[some 0]) (pi_leads hW hH hN hg hi))
    refine leads_evM (finN_sub _ _) e_nil (dcF_ok dfF) m_nil hL ((po_step (W:Nat) (H:Nat) (4*N) g (lB (ptB W H g i 0)) (lB (ptB W H g i 3)) dfF (i:Nat)).trans ?_)
    have hm:=Nat.mod_lt i (show W > 0 by omega)
    have e1:(i:Int).tmod (W:Int)=((i % W:Nat):Int):=(Int.ofNat_tmod i W).symm
    have e2:w64 ((W:Int) - 1)=((W - 1:Nat):Int):=by rw [w64_id (by omega) (by omega)]; omega
    have ez:nzB (W:Nat)=true:=by unfold nzB; rw [beq_false_of_ne (by omega)]; rfl
    have hl:=ptB_len hW hH hN hg (c:=3) hi (by omega)
    have hn:nlS=lB [10]:=rfl
    rw [em,dec_lt hi,gate_pos (Sub.refl _),ez,e1,e2,w64_next (by omega)]
    by_cases h:i % W=W - 1
    · rw [h,BEq.rfl,hn,adB_t (by show _+1≤_; omega),lB_app,← ptB_row hW.1 h]
      rfl
    · rw [beq_false_of_ne (by omega),← ptB_in hW.1 h]
      rfl
  · refine leads_evM (finE_sub _ _) e_nil (dcF_ok dfF) m_nil (lok_none 9) ((po_end (W:Nat) (H:Nat) (4*N) g (lB (ptB W H g (W*H) 0)) dfF (W*H:Nat)).trans ?_)
    rw [em,dec_self]
    rfl
theorem pt_head (hW:1≤W∧W≤64) (hH:1≤H∧H≤64):ptH (W:Nat) (H:Nat) dfF=lB (ptB W H g 0 0):=by
  have e1:hdS=lB [80,51,10]:=rfl
  have e2:spS=lB [32]:=rfl
  have e3:tlS=lB [10,50,53,53,10]:=rfl
  have w1:Lib.itoa (W:Nat)=d3 W:=itoa_d3 (by omega)
  have w2:Lib.itoa (H:Nat)=d3 H:=itoa_d3 (by omega)
  have w3:Lib.itoa 255=d3 255:=itoa_d3 (n:=255) (by omega)
  unfold ptH dfF
  rw [e1,e2,e3,lB_app,lB_app,lB_app,lB_app,Int.toNat_natCast,Int.toNat_natCast]
  congr 1
  unfold ptB
  rw [Nat.zero_div,Nat.zero_mod]
  show _=((bL hdS ++ (([] ++ ([] ++ Lib.itoa (W:Nat))) ++ ([32] ++ Lib.itoa (H:Nat)) ++ [10])) ++ (([] ++ ([] ++ Lib.itoa 255)) ++ [10])) ++ []
  rw [w1,w2,w3,show bL hdS=[80,51,10] from rfl,show d3 255=[50,53,53] from rfl]
  simp
theorem pictText_spec (hW:1≤W∧W≤64) (hH:1≤H∧H≤64) (hN:N=W*H) (hm:pmay (W:Nat) (H:Nat) (4*N)=0) (hg:By (4*N) g):FSpec Tryd.prog 10 [.agg [iA (W:Nat),iA (H:Nat),sB (4*N) g]] (.tup [zA (lB (txT W H g H)),iA 0]):=by
  have hL:=lok_hd (c:=bodyOf Tryd.f10) (i:=6) 1 (by kernel_rfl) (by kernel_rfl) (toldF_sound (keep:=keepPo) (τ:=[some 0]) (po_leads hW hH hN hg))
  have st:=pt_ev (W:Nat) (H:Nat) (4*N) g (lB (ptB W H g (W*H) 0)) dfF 0 (W*H:Nat)
  rw [pt_head (g:=g) hW hH] at st
  have hp:FSpec Tryd.prog 20 [.agg [iA (W:Nat),iA (H:Nat),sB (4*N) g]] (iA 0):=by
    have:=pmayR_spec (W:Nat) (H:Nat) 1 (4*N) fun i=>[yA (g i)]
    rw [hm] at this
    exact this
  have c1:=d3_le W
  have c2:=d3_le H
  have hc:ptC (W:Nat) (H:Nat) dfF=true:=by
    have e1:hdS=lB [80,51,10]:=rfl
    have e2:spS=lB [32]:=rfl
    have e3:tlS=lB [10,50,53,53,10]:=rfl
    unfold ptC dfF
    rw [e1,e2,e3,lB_app,lB_app,lB_app,Int.toNat_natCast,Int.toNat_natCast,adB_t (by simp; omega),adB_t (by simp; omega),adB_t (by simp; omega),adB_t (by simp; omega)]
    rfl
  rw [gate_pos hp,gate_pos (dec_byt ⟨by omega,by omega⟩),gate_pos (dec_byt ⟨by omega,by omega⟩),hc,gate_pos (Sub.refl _),ptB_end hW.1] at st
  rw [ptB_end hW.1] at hL
  exact gspecM e_nil (k_cons kS_ok (dcF_ok dfF)) m_nil Tryd.func10 (by kernel_rfl) (by kernel_rfl) hL rfl st
theorem pictText_bad {W H:Int} {n:Nat} (h:pmay W H n≠0):FSpec Tryd.prog 10 [.agg [iA W,iA H,sB n g]] (.tup [zA ⟨#[]⟩,iA (pmay W H n)]):=by
  have st:=pt_bad W H n g (pmay W H n)
  have hp:FSpec Tryd.prog 20 [.agg [iA W,iA H,sB n g]] (iA (pmay W H n)):=pmayR_spec W H 1 n fun i=>[yA (g i)]
  rw [gate_pos hp,bne_t h] at st
  exact gspecM e_nil (k_cons kS_ok (k_cons (kno_ok _) k_nil)) m_nil Tryd.func10 (by kernel_rfl) (by kernel_rfl) (lok_none 6) rfl st
end
end Go.Proofs.YtcdhdnfkcmjnpaaDoor.Pi

namespace Go.Proofs.YtcdhdnfkcmjnpaaDoor.Pi
open Go.Shelf Go.RowKit Go.Gv

theorem px_add (g:Nat→Int) (s k k':Nat):px g s (k+k')=px g s k ++ px g (s+k) k':=by
  unfold px
  rw [Nat.mul_add,List.range_add,List.map_append,List.map_map]
  congr 1
  refine List.map_congr_left fun i _=>?_
  show g (4*s+(4*k+i))=g (4*(s+k)+i)
  congr 1
  omega
theorem px_same {g g':Nat→Int} {a b k:Nat} (h:∀ i,i < 4*k→g (4*a+i)=g' (4*b+i)):px g a k=px g' b k:=by
  unfold px
  exact List.map_congr_left fun i hi=>h i (List.mem_range.1 hi)
theorem like_px {g:Nat→Int} {a b:Nat} (h:like g a b=true):px g b 1=px g a 1:=by
  unfold like at h
  simp only [Bool.and_eq_true,beq_iff_eq] at h
  refine px_same fun i hi=>?_
  rcases (show i=0∨i=1∨i=2∨i=3 by omega) with rfl | rfl | rfl | rfl
  · exact h.1.symm
  · exact h.2.1.symm
  · exact h.2.2.1.symm
  · exact h.2.2.2.symm
theorem rep_px {N:Nat} {g:Nat→Int} {a:Nat}:∀ k,k≤rn N g a→rep k (px g a 1)=px g a k
  | 0,_=>by simp [rep,px]
  | k+1,h=>by rw [rep_succ,rep_px (N:=N) k (by omega),px_add,like_px (rn_like (N:=N) (k:=k) (by omega))]
theorem rep_one (Q:List Int):rep 1 Q=Q:=by simp [rep]
/-- What lies in a list from a place on. -/
def At (B:Nat→Int) (o:Nat) (l:List Int):Prop:=∀ i,i < l.length→B (o+i)=l.getD i 0
theorem At.head {B:Nat→Int} {o:Nat} {v:Int} {l:List Int} (h:At B o (v::l)):B o=v:=h 0 (by simp)
theorem At.tail {B:Nat→Int} {o:Nat} {v:Int} {l:List Int} (h:At B o (v::l)):At B (o+1) l:=fun i hi=>by
  have:=h (i+1) (by simpa using hi)
  rw [show o+1+i=o+(i+1) by omega,this]
  simp
theorem At.left {B:Nat→Int} {o:Nat} {l r:List Int} (h:At B o (l ++ r)):At B o l:=fun i hi=>by
  rw [h i (by rw [List.length_append]; omega),List.getD_eq_getElem?_getD,List.getElem?_append_left hi,← List.getD_eq_getElem?_getD]
theorem At.right {B:Nat→Int} {o:Nat} {l r:List Int} (h:At B o (l ++ r)):At B (o+l.length) r:=fun i hi=>by
  rw [Nat.add_assoc,h (l.length+i) (by rw [List.length_append]; omega),List.getD_eq_getElem?_getD,List.getElem?_append_right (by omega),← List.getD_eq_getElem?_getD]
  congr 1
  omega
theorem At.px {B:Nat→Int} {o:Nat} {g:Nat→Int} {a k:Nat} (h:At B o (px g a k)):(List.range (4*k)).map (fun i=>B (o+i))=px g a k:=by
  conv=>rhs; unfold Pi.px
  refine List.map_congr_left fun i hi=>?_
  have hi:=List.mem_range.1 hi
  rw [h i (by rw [px_len]; exact hi),px_get g a k i hi]
theorem dcq_pk {L N:Nat} {B g:Nat→Int}:∀ (m a o f:Nat),N - a≤m→(pkA N g a).length≤f→a≤N→At B o (pkA N g a)→o+(pkA N g a).length≤L→dcq L (4*N) B f o (px g 0 a)=(0,o+(pkA N g a).length,px g 0 N)
  | m, a, o,f,hm,hf,ha,hB,hL=>by
    by_cases hN:N≤a
    · have e:a=N:=by omega
      subst e
      rw [pkA_end (Nat.le_refl _)]
      cases f with
      | zero=>rfl
      | succ f=>unfold dcq; rw [if_pos (by rw [px_len]; omega)]; rfl
    · have hlt:a < N:=by omega
      obtain ⟨m',rfl⟩:∃ m',m=m'+1:=⟨m - 1,by omega⟩
      have hpos:0 < (pkA N g a).length:=by
        by_cases h1:1 < rn N g a
        · rw [pkA_run hlt h1]; simp
        · rw [pkA_one hlt (rn_one h1)]; simp
      obtain ⟨f',rfl⟩:∃ f',f=f'+1:=⟨f - 1,by omega⟩
      clear hpos
      unfold dcq
      rw [if_neg (by rw [px_len]; omega)]
      by_cases h1:1 < rn N g a
      · have hin:=rn_in (g:=g) hlt
        rw [pkA_run hlt h1] at hB hL hf ⊢
        have hl:((127+(rn N g a:Int))::(px g a 1 ++ pkA N g (a+rn N g a))).length=5+(pkA N g (a+rn N g a)).length:=by
          rw [List.length_cons,List.length_append,px_len]; omega
        rw [hl] at hL hf ⊢
        have hb:=hB.head
        have em:mn (B o)=1:=by unfold mn; rw [hb,if_neg (by omega)]
        have et:tm (B o)=rn N g a:=by unfold tm; rw [hb,if_neg (by omega)]; omega
        have eP:dcP B o=px g a 1:=by unfold dcP; rw [em]; exact hB.tail.left.px
        have eR:dcR B o=px g a (rn N g a):=by unfold dcR; rw [et,eP]; exact rep_px _ (Nat.le_refl _)
        have eW:dcW L B o=true:=by unfold dcW; rw [em,decide_eq_true (by omega),decide_eq_true (by omega)]; rfl
        rw [if_pos eW,eR,px_len,px_len,if_pos (by omega),em]
        have e0:px g 0 a ++ px g a (rn N g a)=px g 0 (a+rn N g a):=by rw [px_add,Nat.zero_add]
        rw [e0]
        have hB':At B (o+1+4*1) (pkA N g (a+rn N g a)):=by
          have:=hB.tail.right
          rw [px_len] at this
          exact this
        rw [dcq_pk m' (a+rn N g a) (o+1+4*1) f' (by omega) (by omega) hin hB' (by omega)]
        congr 2
        omega
      · have h1:=rn_one h1
        have hs:=sn_pos hlt h1
        have hin:=sn_in (g:=g) (Nat.le_of_lt hlt)
        have hle:=sn_le N g a
        rw [pkA_one hlt h1] at hB hL hf ⊢
        have hl:(((sn N g a:Int) - 1)::(px g a (sn N g a) ++ pkA N g (a+sn N g a))).length=1+4*sn N g a+(pkA N g (a+sn N g a)).length:=by
          rw [List.length_cons,List.length_append,px_len]; omega
        rw [hl] at hL hf ⊢
        have hb:=hB.head
        have em:mn (B o)=sn N g a:=by unfold mn; rw [hb,if_pos (by omega)]; omega
        have et:tm (B o)=1:=by unfold tm; rw [hb,if_pos (by omega)]
        have eP:dcP B o=px g a (sn N g a):=by unfold dcP; rw [em]; exact hB.tail.left.px
        have eR:dcR B o=px g a (sn N g a):=by unfold dcR; rw [et,eP,rep_one]
        have eW:dcW L B o=true:=by unfold dcW; rw [em,decide_eq_true (by omega),decide_eq_true (by omega)]; rfl
        rw [if_pos eW,eR,px_len,px_len,if_pos (by omega),em]
        have e0:px g 0 a ++ px g a (sn N g a)=px g 0 (a+sn N g a):=by rw [px_add,Nat.zero_add]
        rw [e0]
        have hB':At B (o+1+4*sn N g a) (pkA N g (a+sn N g a)):=by
          have:=hB.tail.right
          rw [px_len] at this
          exact this
        rw [dcq_pk m' (a+sn N g a) (o+1+4*sn N g a) f' (by omega) (by omega) hin hB' (by omega)]
        congr 2
        omega
section
variable {N:Nat} {g g':Nat→Int}
theorem like_congr (h:∀ i,i < 4*N→g i=g' i) {a b:Nat} (ha:a < N) (hb:b < N):like g a b=like g' a b:=by
  unfold like
  rw [h (4*a) (by omega),h (4*a+1) (by omega),h (4*a+2) (by omega),h (4*a+3) (by omega),h (4*b) (by omega),h (4*b+1) (by omega),h (4*b+2) (by omega),h (4*b+3) (by omega)]
theorem rnS_congr (h:∀ i,i < 4*N→g i=g' i) {a k:Nat} (ha:a < N):rnStop N g a k ↔ rnStop N g' a k:=by
  unfold rnStop
  by_cases c:N≤a+k
  · exact ⟨fun _=>Or.inr (Or.inl c),fun _=>Or.inr (Or.inl c)⟩
  · rw [like_congr h ha (by omega)]
theorem rn_congr (h:∀ i,i < 4*N→g i=g' i) {a:Nat} (ha:a < N):rn N g a=rn N g' a :=
  rn_uniq (rn_pos N g' a) ((rnS_congr h ha).2 (rn_stop N g' a)) fun _ h1 h2 hs=>rn_go N g' a h1 h2 ((rnS_congr h ha).1 hs)
theorem snS_congr (h:∀ i,i < 4*N→g i=g' i) {a k:Nat}:snStop N g a k ↔ snStop N g' a k:=by
  unfold snStop
  by_cases c:N≤a+k
  · exact ⟨fun _=>Or.inr (Or.inl c),fun _=>Or.inr (Or.inl c)⟩
  · rw [rn_congr h (by omega)]
theorem sn_congr (h:∀ i,i < 4*N→g i=g' i) (a:Nat):sn N g a=sn N g' a :=
  sn_uniq ((snS_congr h).2 (sn_stop N g' a)) fun _ h1 hs=>sn_go N g' a h1 ((snS_congr h).1 hs)
theorem pk_congr (h:∀ i,i < 4*N→g i=g' i):∀ f a,pk N g f a=pk N g' f a
  | 0,_=>rfl
  | f + 1,a=>by
    unfold pk
    by_cases c:N≤a
    · rw [if_pos c,if_pos c]
    · have hlt:a < N:=by omega
      have e1:=rn_congr h hlt
      have i2:=sn_in (N:=N) (g:=g') (a:=a) (by omega)
      rw [if_neg c,if_neg c,e1,sn_congr h a,pk_congr h f,pk_congr h f,px_same (g:=g) (g':=g') (a:=a) (b:=a) (k:=1) (fun i hi=>h _ (by omega)),px_same (g:=g) (g':=g') (a:=a) (b:=a) (k:=sn N g' a) (fun i hi=>h _ (by omega))]
theorem pkA_congr (h:∀ i,i < 4*N→g i=g' i) (a:Nat):pkA N g a=pkA N g' a:=pk_congr h _ a
theorem pkX_congr (h:∀ i,i < 4*N→g i=g' i) (W H:Int):pkX W H N g=pkX W H N g':=by unfold pkX; rw [pkA_congr h]
theorem pkL_congr (h:∀ i,i < 4*N→g i=g' i) (W H:Int):pkL W H N g=pkL W H N g':=by unfold pkL; rw [pkX_congr h]
end
end Go.Proofs.YtcdhdnfkcmjnpaaDoor.Pi

namespace Go.Proofs.YtcdhdnfkcmjnpaaDoor.Pi
open Go.Shelf Go.RowKit Go.Gv

theorem cs_congr {g g':Nat→Int}:∀ n,(∀ i,i < n→g i=g' i)→cs g n=cs g' n
  | 0,_=>rfl
  | n+1,h=>by unfold cs; rw [cs_congr n (fun i hi=>h i (by omega)),h n (by omega)]
theorem gl_left {l r:List Int} {i:Nat} (h:i < l.length):gl (l ++ r) i=gl l i:=by
  unfold gl
  rw [List.getD_eq_getElem?_getD,List.getElem?_append_left h,← List.getD_eq_getElem?_getD]
theorem gl_right {l r:List Int} (i:Nat):gl (l ++ r) (l.length+i)=gl r i:=by
  unfold gl
  rw [List.getD_eq_getElem?_getD,List.getElem?_append_right (by omega),← List.getD_eq_getElem?_getD]
  congr 1
  omega
section
variable {W H:Int} {N:Nat} {g:Nat→Int}
theorem pkL_B4:gl (pkL W H N g) 4=W:=rfl
theorem pkL_B5:gl (pkL W H N g) 5=H:=rfl
theorem pkL_unN (hN:(N:Int)=W*H):unN (gl (pkL W H N g))=N:=by
  unfold unN
  rw [pkL_B4,pkL_B5,← hN,Int.toNat_natCast]
theorem pkX_len:(pkX W H N g).length=6+(pkA N g 0).length:=by unfold pkX; rw [List.length_append]; rfl
theorem pkL_len:(pkL W H N g).length=(pkX W H N g).length+2:=by unfold pkL; rw [List.length_append]; rfl
theorem pkL_unD (hN:(N:Int)=W*H):unD (pkL W H N g).length (gl (pkL W H N g))=(0,(pkX W H N g).length,px g 0 N):=by
  unfold unD dcA
  rw [pkL_unN hN]
  have h:=dcq_pk (L:=(pkL W H N g).length) (N:=N) (B:=gl (pkL W H N g)) (g:=g) N 0 6 ((pkL W H N g).length+1) (by omega) (by rw [pkL_len,pkX_len]; omega) (Nat.zero_le _) (fun i hi=>?_) (by rw [pkL_len,pkX_len]; omega)
  · rw [pkX_len]
    exact h
  · unfold pkL
    rw [gl_left (by rw [pkX_len]; omega)]
    unfold pkX
    exact gl_right (l:=[82,72,80,49,W,H]) i
theorem gl_px {i:Nat} (h:i < 4*N):gl (px g 0 N) i=g i:=by
  have:=px_get g 0 N i h
  rw [Nat.mul_zero,Nat.zero_add] at this
  exact this
theorem unE_pack (hW:1≤W∧W≤64) (hH:1≤H∧H≤64) (hN:(N:Int)=W*H):unE (pkL W H N g).length (gl (pkL W H N g))=0:=by
  have e1:unH (pkL W H N g).length (gl (pkL W H N g))=0:=by
    unfold unH
    have hs:sq 4 (gl (pkL W H N g)) 4 mkF=true:=by
      classical
      unfold sq
      refine decide_eq_true ⟨rfl,fun i hi=>?_⟩
      rcases (show i=0∨i=1∨i=2∨i=3 by omega) with rfl | rfl | rfl | rfl<;>rfl
    have w1:sidB W=true:=by unfold sidB; rw [decide_eq_true hW.1,decide_eq_true hW.2]; rfl
    have w2:sidB H=true:=by unfold sidB; rw [decide_eq_true hH.1,decide_eq_true hH.2]; rfl
    rw [if_neg (by rw [pkL_len,pkX_len]; omega),if_neg (by rw [hs]; simp),pkL_B4,pkL_B5,if_neg (by rw [w1,w2]; simp)]
  have e2:unC (pkL W H N g).length (pkX W H N g).length (gl (pkL W H N g))=0:=by
    unfold unC
    have hc:cs (gl (pkL W H N g)) (pkX W H N g).length=cs (gl (pkX W H N g)) (pkX W H N g).length:=cs_congr _ fun i hi=>by unfold pkL; exact gl_left hi
    rw [if_neg (by rw [pkL_len]; omega),if_neg (by rw [pkL_len]; omega),hc,if_pos]
    constructor
    · unfold pkL; exact gl_right 0
    · unfold pkL; exact gl_right 1
  have e3:unK (pkL W H N g).length (gl (pkL W H N g))=pkL W H N g:=by
    unfold unK
    rw [pkL_unD hN,pkL_unN hN,pkL_B4,pkL_B5]
    exact pkL_congr (fun i hi=>gl_px hi) W H
  unfold unE
  rw [pkL_unD hN,e1,e2,e3]
  have hs:sq (pkL W H N g).length (gl (pkL W H N g)) (pkL W H N g).length (gl (pkL W H N g))=true:=by
    classical
    unfold sq
    exact decide_eq_true ⟨rfl,fun _ _=>rfl⟩
  rw [hs]
  simp
theorem unP_pack (hW:1≤W∧W≤64) (hH:1≤H∧H≤64) (hN:(N:Int)=W*H):unP (pkL W H N g).length (gl (pkL W H N g))=⟨W,H,4*N,gl (px g 0 N)⟩:=by
  unfold unP
  rw [if_pos (unE_pack hW hH hN),pkL_B4,pkL_B5,pkL_unN hN,pkL_unD hN]
end
end Go.Proofs.YtcdhdnfkcmjnpaaDoor.Pi

namespace Go.Proofs.YtcdhdnfkcmjnpaaDoor.Pi
open Go.Shelf Go.RowKit Go.Gv

def pA (W H:Int) (n:Nat) (g:Nat→Int):AV:=.agg [iA W,iA H,sB n g]
def lwS (W H:Int) (n:Nat) (g rg:Nat→Int) (i:Int):St:=mkS 143 [(1,.own 0 0),(2,bA false),(11,.own 1 0),(12,iA i)] [.c [iA W,iA H,sB n g],.c [iA W,iA H,sB n rg]]
def keepLw:List Nat:=[1,2,11,12]
section
variable (W H:Int) (n:Nat) (g rg:Nat→Int) (i:Int)
def m4 (i:Int):Int:=i.tmod 4
def lwA:Bool:=cond (m4 i==3) (!(rg i.toNat==255)) false
def lwT:Bool:=cond (lwA rg i) true (cond (decide (m4 i < 3)) (!(rg i.toNat==g i.toNat)) false)
def g3 (i:Int):Bool:=decide ((m4 i==3)=true)&&true
def gB (rg:Nat→Int) (i:Int):Bool:=decide ((decide (m4 i < 3))=true)&&(decide (lwA rg i=false)&&true)
def lwC:Bool:=(ixB i n||!(g3 i))&&((ixB i n||!(gB rg i))&&((ixB i n||!(gB rg i))&&true))
theorem lw_step:evCM Tryd.prog [] [] [] noL (loopAt Tryd.f3 0) (lwS W H n g rg i) (finN keepLw [some 0,some 1]) =
  cond (decide (i < (n:Int))) (cond (lwC n rg i) (cond (lwT g rg i) none (some ⟨.normal,lwS W H n g rg (w64 (i+1)),.any⟩)) none) none:=by kernel_rfl
theorem lw_end:evCM Tryd.prog [] [] [] noL (loopAt Tryd.f3 0) (lwS W H n g rg i) (finE keepLw [some 0,some 1]) =
  cond (decide (i < (n:Int))) (cond (lwC n rg i) (cond (lwT g rg i) none none) none) (some ⟨.exit 0,lwS W H n g rg i,.any⟩):=by kernel_rfl
end
section
variable (W H:Int) (n:Nat) (g rg qg h:Nat→Int) (m:Nat) (t:ByteArray) (hv:Bool) (i e:Int)
noncomputable def psK:List KEntry:=[kC 6 (bA hv),kC 7 (.tup [sB m h,iA 0]),kC 8 (.tup [sB m h,iA 0]),kC 9 (.tup [zA t,iA 0]),kC 10 (.tup [zA t,iA 0]),
  kC 11 (.tup [pA W H n qg,iA 0]),kC 12 (bA true),kC 13 (.tup [pA W H n rg,iA 0])]
noncomputable def psT:Bool:=cond (cond (!((strF m h).toList==(strF m h).toList)) true (!(t.toList==t.toList))) true false
def psR:Bool:=cond (cond (!(W==W)) true (!(H==H))) true (!((n:Int)==(n:Int)))
theorem ps_ev:evM Tryd.prog [] (psK W H n rg qg h m t hv) [] (oneL 18 (toldF keepLw [some 0,some 1] (lwS W H n g rg 0) (.exit 0) (lwS W H n g rg i))) Tryd.f3 [pA W H n g] ret =
  gS 6 [pA W H n g] (bA hv) (cond hv (some (Out.of (bA true)))
   (gS 7 [pA W H n g] (.tup [sB m h,iA 0]) (gS 8 [pA W H n g] (.tup [sB m h,iA 0]) (gS 9 [pA W H n g] (.tup [zA t,iA 0]) (gS 10 [pA W H n g] (.tup [zA t,iA 0])
    (cond (allB m (fun _=>true)||false) (cond (allB m (fun _=>true)||false) (cond (psT h m t) (some (Out.of (bA false)))
      (gS 11 [sB m h] (.tup [pA W H n qg,iA 0]) (gS 12 [pA W H n g,pA W H n qg] (bA true)
        (gS 13 [zA t] (.tup [pA W H n rg,iA 0]) (cond (psR W H n) (some (Out.of (bA false)))
          (gate (Sub (lwS W H n g rg 0) (lwS W H n g rg 0)) (some (Out.of (bA true))))))))) none) none)))))):=by kernel_rfl
noncomputable def pbK:List KEntry:=[kC 6 (bA hv),kC 7 (.tup [sB 0 h,iA e]),kC 8 (.tup [sB 0 h,iA e]),kC 9 (.tup [zA ⟨#[]⟩,iA e]),kC 10 (.tup [zA ⟨#[]⟩,iA e]),
  ⟨11,fun _ _=>none⟩,⟨12,fun _ _=>none⟩,⟨13,fun _ _=>none⟩]
noncomputable def pbT:Bool:=cond (cond (cond (!(e==e)) true (!((strF 0 h).toList==(strF 0 h).toList))) true false) true (!(e==e))
noncomputable def pbC:Bool:=allB 0 (fun _=>true)||!(decide ((!(e==e))=false)&&true)
theorem pb_ev:evM Tryd.prog [] (pbK h hv e) [] (oneL 18 fun _ _=>none) Tryd.f3 [pA W H n g] ret =
  gS 6 [pA W H n g] (bA hv) (cond hv (some (Out.of (bA true)))
   (gS 7 [pA W H n g] (.tup [sB 0 h,iA e]) (gS 8 [pA W H n g] (.tup [sB 0 h,iA e]) (gS 9 [pA W H n g] (.tup [zA ⟨#[]⟩,iA e]) (gS 10 [pA W H n g] (.tup [zA ⟨#[]⟩,iA e])
    (cond (pbC e) (cond (pbC e) (cond (pbT h e) (some (Out.of (bA false))) (cond (!(e==0)) (some (Out.of (bA true))) none)) none) none)))))):=by kernel_rfl
theorem hvp_ev:ev Tryd.prog [] [] noL Tryd.f6 [pA W H n g] ret=some (Out.of (bA (decide ((n:Int) > 1600)))):=by kernel_rfl
theorem hvp_spec:FSpec Tryd.prog 6 [pA W H n g] (bA (decide ((n:Int) > 1600))):=gspec e_nil k_nil Tryd.func6 (by kernel_rfl) (by kernel_rfl) noL_ok rfl (hvp_ev W H n g)
end
theorem lw_leads {W H:Int} {n:Nat} {g rg:Nat→Int} (hn:n≤100000) (h:∀ j,j < n→rg j=if j % 4=3 then 255 else g j):Leads Tryd.prog (.loop (loopAt Tryd.f3 0)) (lwS W H n g rg 0) (.exit 0) (lwS W H n g rg (n:Nat)):=by
  refine loop_rule (fun i=>lwS W H n g rg (i:Nat)) n (.exit 0) _ (by simp) (fun i hi=>?_) ?_
  · refine leads_evM (finN_sub _ _) e_nil k_nil m_nil noL_ok ((lw_step W H n g rg (i:Nat)).trans ?_)
    have e4:m4 (i:Nat)=((i % 4:Nat):Int):=(Int.ofNat_tmod i 4).symm
    have hc:lwC n rg (i:Nat)=true:=by unfold lwC; rw [ixB_t hi]; rfl
    have ht:lwT g rg (i:Nat)=false:=by
      unfold lwT lwA
      rw [e4,Int.toNat_natCast,h i hi]
      by_cases c:i % 4=3
      · rw [if_pos c,c]; rfl
      · rw [if_neg c,BEq.rfl,beq_false_of_ne (by omega),decide_eq_true (by omega)]; rfl
    rw [dec_lt hi,hc,ht,w64_next (by omega)]
    rfl
  · refine leads_evM (finE_sub _ _) e_nil k_nil m_nil noL_ok ((lw_end W H n g rg (n:Nat)).trans ?_)
    rw [dec_self]
    rfl
theorem sp_spec' {W H:Int} {n:Nat} {g qg:Nat→Int} (h:∀ i,i < n→qg i=g i):FSpec Tryd.prog 12 [pA W H n g,pA W H n qg] (bA true):=by
  refine FSpec.of_args (sp_spec ⟨W,H,n,g⟩) fun E vs hv=>?_
  obtain ⟨u0,t0,e0,r0,hv⟩:=rels_cons.1 hv
  obtain ⟨u1,t1,e1,r1,hv⟩:=rels_cons.1 hv
  refine rels_cons.2 ⟨u0,t0,e0,r0,rels_cons.2 ⟨u1,t1,e1,?_,hv⟩⟩
  obtain ⟨zs,e2,r1⟩:=rel_agg.1 r1
  obtain ⟨v0,s0,f0,q0,r1⟩:=rels_cons.1 r1
  obtain ⟨v1,s1,f1,q1,r1⟩:=rels_cons.1 r1
  obtain ⟨v2,s2,f2,q2,r1⟩:=rels_cons.1 r1
  exact rel_agg.2 ⟨zs,e2,rels_cons.2 ⟨v0,s0,f0,q0,rels_cons.2 ⟨v1,s1,f1,q1,rels_cons.2 ⟨v2,s2,f2,sl_like q2 fun i hi=>congrArg (fun z=>[yA z]) (h i hi).symm,r1⟩⟩⟩⟩
theorem nil_pack {f:Nat} {args:List AV} {e:Int} (h:FSpec Tryd.prog f args (.tup [.x (.slice none 0 0),iA e])):FSpec Tryd.prog f args (.tup [sB 0 (fun _=>0),iA e]) :=
  FSpec.of_res h fun _ _ hv=>tup2_like hv fun _ hu=>nil_like hu
theorem pkL_by {W H:Int} {N:Nat} {g:Nat→Int} (hW:1≤W∧W≤64) (hH:1≤H∧H≤64) (hg:By (4*N) g):By (pkL W H N g).length (gl (pkL W H N g)):=(pkL_bts (by omega) (by omega) hg).by
theorem pkL_short {W H:Int} {N:Nat} {g:Nat→Int} (hN:N≤4096):(pkL W H N g).length≤100000:=by
  have:=pkA_len N g N 0 (by omega)
  rw [pkL_len,pkX_len]
  omega
theorem pictSays_law {W H:Int} {n:Nat} {g:Nat→Int} (hg:By n g):FSpec Tryd.prog 3 [pA W H n g] (bA true):=by
  by_cases hm:pmay W H n=0
  · obtain ⟨N,rfl,hWH,hN,hW,hH⟩:=may_size hm
    obtain ⟨w,rfl⟩:=Int.eq_ofNat_of_zero_le (show 0≤W by omega)
    obtain ⟨k,rfl⟩:=Int.eq_ofNat_of_zero_le (show 0≤H by omega)
    have hW':1≤w∧w≤64:=by omega
    have hH':1≤k∧k≤64:=by omega
    have hN':N=w*k:=by
      have:((N:Nat):Int)=((w*k:Nat):Int):=by rw [hWH]; simp
      omega
    obtain ⟨r0,r1,r2,r3,r4⟩:=rd_text hW' hH' hN' hg
    have p1:FSpec Tryd.prog 7 [pA (w:Nat) (k:Nat) (4*N) g] (.tup [sB (pkL (w:Nat) (k:Nat) N g).length (gl (pkL (w:Nat) (k:Nat) N g)),iA 0]):=pack_spec hm hg
    have p2:FSpec Tryd.prog 8 [pA (w:Nat) (k:Nat) (4*N) g] (.tup [sB (pkL (w:Nat) (k:Nat) N g).length (gl (pkL (w:Nat) (k:Nat) N g)),iA 0]):=packR_spec hW hH hWH hg
    have p3:FSpec Tryd.prog 9 [pA (w:Nat) (k:Nat) (4*N) g] (.tup [zA (lB (txT w k g k)),iA 0]):=text_spec hW' hH' hN' hm hg
    have p4:FSpec Tryd.prog 10 [pA (w:Nat) (k:Nat) (4*N) g] (.tup [zA (lB (txT w k g k)),iA 0]):=pictText_spec hW' hH' hN' hm hg
    have p5:=unpack_spec (pkL_short (W:=(w:Nat)) (H:=(k:Nat)) (g:=g) hN) (pkL_by hW hH hg)
    rw [unE_pack hW hH hWH,unP_pack hW hH hWH] at p5
    have p6:=read_spec (lB (txT w k g k))
    rw [r0] at p6
    have p5:FSpec Tryd.prog 11 [sB (pkL (w:Nat) (k:Nat) N g).length (gl (pkL (w:Nat) (k:Nat) N g))] (.tup [pA (w:Nat) (k:Nat) (4*N) (gl (px g 0 N)),iA 0]):=p5
    have e6:rdP (lB (txT w k g k)).size (wds (lB (txT w k g k)))=⟨(w:Nat),(k:Nat),4*N,rdG (wds (lB (txT w k g k)))⟩:=by
      unfold rdP
      rw [if_pos r0,r1,r2,r3]
    rw [e6] at p6
    have p6:FSpec Tryd.prog 13 [zA (lB (txT w k g k))] (.tup [pA (w:Nat) (k:Nat) (4*N) (rdG (wds (lB (txT w k g k)))),iA 0]):=p6
    have hL:=lok_hd (c:=bodyOf Tryd.f3) (i:=18) 0 (by kernel_rfl) (by kernel_rfl) (toldF_sound (keep:=keepLw) (τ:=[some 0,some 1]) (lw_leads (W:=(w:Nat)) (H:=(k:Nat)) (n:=4*N) (g:=g) (rg:=rdG (wds (lB (txT w k g k)))) (by omega) r4))
    have st:=ps_ev (w:Nat) (k:Nat) (4*N) g (rdG (wds (lB (txT w k g k)))) (gl (px g 0 N)) (gl (pkL (w:Nat) (k:Nat) N g)) (pkL (w:Nat) (k:Nat) N g).length (lB (txT w k g k)) (decide (((4*N:Nat):Int) > 1600)) (4*N:Nat)
    have eT:psT (gl (pkL (w:Nat) (k:Nat) N g)) (pkL (w:Nat) (k:Nat) N g).length (lB (txT w k g k))=false:=by unfold psT; rw [BEq.rfl,BEq.rfl]; rfl
    have eR:psR (w:Nat) (k:Nat) (4*N)=false:=by unfold psR; rw [BEq.rfl,BEq.rfl,BEq.rfl]; rfl
    unfold gS at st
    rw [gate_pos (hvp_spec _ _ _ _),gate_pos p1,gate_pos p2,gate_pos p3,gate_pos p4,allB_true fun _ _=>rfl,eT,gate_pos p5,gate_pos (sp_spec' fun i hi=>gl_px hi),gate_pos p6,eR,gate_pos (Sub.refl _)] at st
    refine gspecM e_nil (k_cons (kC_ok _ _) <| k_cons (kC_ok _ _) <| k_cons (kC_ok _ _) <| k_cons (kC_ok _ _) <| k_cons (kC_ok _ _) <| k_cons (kC_ok _ _) <| k_cons (kC_ok _ _) <| k_cons (kC_ok _ _) k_nil) m_nil Tryd.func3 (by kernel_rfl) (by kernel_rfl) hL rfl (st.trans ?_)
    cases decide (((4*N:Nat):Int) > 1600)<;>rfl
  · have st:=pb_ev W H n g (fun _=>0) (decide ((n:Int) > 1600)) (pmay W H n)
    have eC:pbC (pmay W H n)=true:=by unfold pbC; rw [allB_true fun _ _=>rfl]; rfl
    have eT:pbT (fun _=>0) (pmay W H n)=false:=by unfold pbT; rw [BEq.rfl,BEq.rfl]; rfl
    have b1:FSpec Tryd.prog 7 [pA W H n g] (.tup [sB 0 (fun _=>0),iA (pmay W H n)]):=nil_pack (pack_bad hm)
    have b2:FSpec Tryd.prog 8 [pA W H n g] (.tup [sB 0 (fun _=>0),iA (pmay W H n)]):=nil_pack (packR_bad hm)
    have b3:FSpec Tryd.prog 9 [pA W H n g] (.tup [zA ⟨#[]⟩,iA (pmay W H n)]):=text_bad hm
    have b4:FSpec Tryd.prog 10 [pA W H n g] (.tup [zA ⟨#[]⟩,iA (pmay W H n)]):=pictText_bad hm
    unfold gS at st
    rw [gate_pos (hvp_spec _ _ _ _),gate_pos b1,gate_pos b2,gate_pos b3,gate_pos b4,eC,eT,bne_t hm] at st
    refine gspecM e_nil (k_cons (kC_ok _ _) <| k_cons (kC_ok _ _) <| k_cons (kC_ok _ _) <| k_cons (kC_ok _ _) <| k_cons (kC_ok _ _) <| k_cons (kno_ok _) <| k_cons (kno_ok _) <| k_cons (kno_ok _) k_nil) m_nil Tryd.func3 (by kernel_rfl) (by kernel_rfl) (lok_none 18) rfl (st.trans ?_)
    cases decide ((n:Int) > 1600)<;>rfl
end Go.Proofs.YtcdhdnfkcmjnpaaDoor.Pi

namespace Go.Proofs.YtcdhdnfkcmjnpaaDoor
open Go.Gv Go.RowKit Go.ChangeShapes Go.WideShapes Go.ChangeAt

theorem fitL_single {k:Kd} {zs:List AV} (h:fitL [k] zs):∃ a,zs=[a]∧fitA k a:=by
  match zs,h with
  | [a],h=>exact ⟨a,rfl,(fitL_cons.1 h).1⟩
  | [],h=>have:=fitL_length h; simp at this
  | _::_::_,h=>have:=fitL_length h; simp at this
end Go.Proofs.YtcdhdnfkcmjnpaaDoor

namespace Go.Proofs.YtcdhdnfkcmjnpaaDoor
open Go.Gv Go.RowKit Go.ChangeShapes Go.WideShapes Go.ChangeAt

def u8Of (el:Nat→List AV) (i:Nat):Int:=match el i with
  | [.x (.int .u8 h)]=>h
  | _=>0
theorem u8_wf {n:Int} (h:(Lit.int .u8 n).wf=true):0≤n∧n≤255:=by
  simp [Lit.wf,IntKind.min,IntKind.max,IntKind.signed,IntKind.bits] at h
  omega
theorem fit_iw {a:AV} {k:IntKind} (h:fitA (.i k) a):∃ n,a=.x (.int k n)∧(Lit.int k n).wf=true:=by rw [fitA] at h; exact h
/-- A row of bytes within something. -/
theorem fit_bytes {E:Env} {a:AV} {v:Value} (h:fitA (.l 1 [.i .u8]) a) (hr:rel E a v):∃ n g,n≤maxLen∧(∀ i,i < n→0≤g i∧g i≤255)∧rel E (sB n g) v:=by
  rw [fitA] at h
  obtain ⟨n,el,rfl,hn,hel⟩:=h
  have key:∀ i,i < n→el i=[yA (u8Of el i)]∧(Lit.int .u8 (u8Of el i)).wf=true:=fun i hi=>by
    obtain ⟨a,ha,hf⟩:=fitL_single (hel i hi)
    obtain ⟨m,rfl,hw⟩:=fit_iw hf
    have e:u8Of el i=m:=by unfold u8Of; rw [ha]
    rw [e]
    exact ⟨ha,hw⟩
  exact ⟨n,u8Of el,hn,fun i hi=>u8_wf (key i hi).2,sl_like hr fun i hi=>(key i hi).1.symm⟩
/-- Four cells, one behind the other. -/
theorem fitL_n3 {k0 k1 k2:Kd} {zs:List AV} (h:fitL [k0,k1,k2] zs):∃ x y z,zs=[x,y,z]∧fitA k0 x∧fitA k1 y∧fitA k2 z:=by
  match zs,h with
  | [x,y,z],h =>
    simp only [fitL_cons] at h
    exact ⟨x,y,z,rfl,h.1,h.2.1,h.2.2.1⟩
  | [],h=>have:=fitL_length h; simp at this
  | [_],h=>have:=fitL_length h; simp at this
  | [_,_],h=>have:=fitL_length h; simp at this
  | _::_::_::_::_,h=>have:=fitL_length h; simp at this
end Go.Proofs.YtcdhdnfkcmjnpaaDoor

namespace Go.Proofs.YtcdhdnfkcmjnpaaDoor
open Go.Gv Go.RowKit Go.ChangeShapes Go.WideShapes Go.ChangeAt

theorem pic_arg {E:Env} {zs:List AV} {v:Value} (h:fitL [.i .i64,.i .i64,.l 1 [.i .u8]] zs) (hr:rel E (.agg zs) v):∃ p:Pic,(p.n≤maxLen∧∀ i,i < p.n→0≤p.px i∧p.px i≤255)∧rel E (.agg p.c) v:=by
  obtain ⟨x,y,z,rfl,h0,h1,h2⟩:=fitL_n3 h
  obtain ⟨W,rfl,_⟩:=fit_iw h0
  obtain ⟨H,rfl,_⟩:=fit_iw h1
  obtain ⟨vs,e,hr⟩:=rel_agg.1 hr
  obtain ⟨v0,t0,e0,r0,hr⟩:=rels_cons.1 hr
  obtain ⟨v1,t1,e1,r1,hr⟩:=rels_cons.1 hr
  obtain ⟨v2,t2,e2,r2,hr⟩:=rels_cons.1 hr
  obtain ⟨n,g,hn,hg,r2⟩:=fit_bytes h2 r2
  exact ⟨⟨W,H,n,g⟩,⟨hn,hg⟩,rel_agg.2 ⟨vs,e,rels_cons.2 ⟨v0,t0,e0,r0,rels_cons.2 ⟨v1,t1,e1,r1,rels_cons.2 ⟨v2,t2,e2,r2,hr⟩⟩⟩⟩⟩
end Go.Proofs.YtcdhdnfkcmjnpaaDoor

namespace Go.Proofs.YtcdhdnfkcmjnpaaDoor.Pi
open Go.Gv Go.RowKit Go.ChangeShapes Go.WideShapes Go.ChangeAt

theorem g1 : Tryd.prog.globalNamed "internal/strconv.uint64pow10" = some 1 := by kernel_rfl
theorem g1t:(Tryd.prog.globals[1]?).map (·.type)=some 113:=by kernel_rfl
theorem pre_xs (E:Env):∀ vs:List Value,pre E (vs.map .x) vs
  | []=>pre_nil
  | v::vs=>pre_cons.2 ⟨v,vs,rfl,rel_x.2 rfl,pre_xs E vs⟩
theorem tab1 {W : World} (h : laidMet Tryd.prog Rows.pictSaysRow.laid W) : Lib.TabIs Tryd.prog W "internal/strconv.uint64pow10" .u64 Lib.pow10Tab := by
  obtain ⟨ps,⟨_,_,_,_,_,_,_,_,_,_,⟨_,_,_,_,_,_,_,_,_,_,⟨g,t,cs,fuel,p,q,hg,ht,hvar,hd,_,_⟩,_⟩,_⟩,_⟩:=h
  obtain rfl:=Option.some.inj (g1.symm.trans hg)
  obtain rfl:=Option.some.inj (g1t.symm.trans ht)
  unfold Lib.TabIs
  rw [hvar,← Lib.cells_of_tab (zs:=Lib.pow10Tab) Tryd.underlying113 Tryd.underlying104 (by kernel_rfl) (by kernel_rfl) hd]
theorem glob_ok {W:World} (h:laidMet Tryd.prog Rows.pictSaysRow.laid W):glob ⟨W,fun _=>False,fun _=>none⟩:=by
  have h1:=tab1 h
  have hk:known 1=some ((Lib.pow10Tab.map fun z=>Value.int .u64 z).map .x):=by kernel_rfl
  unfold Lib.TabIs World.var? at h1
  rw [g1] at h1
  simp only [Option.bind_some] at h1
  intro g l hl
  have hg:g=1:=by
    unfold known at hl
    cases e1:Nat.beq g 1
    · rw [e1] at hl; cases hl
    · exact Nat.eq_of_beq_eq_true e1
  subst hg
  obtain rfl:=Option.some.inj (hk.symm.trans hl)
  split at h1
  · rename_i cs e fz hh
    simp only [Option.some.injEq] at h1
    constructor
    · show relA _ _ _
      rw [relA]
      refine ⟨1,0,cs,e,fz,rfl,fun hf=>hf,hh,?_⟩
      rw [h1]
      show pre _ _ _
      simpa using pre_xs (Env.fz ⟨W,fun _=>False,fun _=>none⟩) (Lib.pow10Tab.map fun z=>Value.int .u64 z)
    · intro cs' e' fz' hh'
      have:=hh.symm.trans hh'
      simp only [Option.some.injEq,Obj.cells.injEq] at this
      rw [← this.1,h1]
      simp
  · cases h1
/-- The cells of a datum. -/
def cell1 {H:Type}:DataW H→List Value
  | .lit (.int k n)=>[.int k n]
  | _=>[]
def cell2 {H:Type}:DataW H→List Value
  | .agg ds=>ds.flatMap cell1
  | d=>cell1 d
def cellsOf {H:Type}:DataW H→List Value
  | .agg ds=>ds.flatMap cell2
  | d=>cell2 d
/-- A WORLD FOR THE WITNESS. -/
def lay (cs:List Value):Obj→Obj
  | .cells _ t frozen=>.cells cs.toArray t frozen
  | o=>o
noncomputable def laidWorld (os:Os):World :=
  let w0:=World.holding Tryd.prog os ⟨#[],#[],[]⟩
  { w0 with heap:=((((w0.heap.modify 3 (lay (cellsOf Rows.laid_unicode_utf8_acceptRanges (H:=Unit)))).modify 2 (lay (cellsOf Rows.laid_unicode_utf8_first))).modify 1 (lay (cellsOf Rows.laid_internal_strconv_uint64pow10 (H:=Unit)))).modify 4 (lay (cellsOf Rows.laid_math_bits_deBruijn32tab (H:=Unit)))).modify 5 (lay (cellsOf Rows.laid_math_bits_deBruijn64tab (H:=Unit))) }
end Go.Proofs.YtcdhdnfkcmjnpaaDoor.Pi
