/-
  Gy Pa0 Pa1 Pa2, one behind the other.
-/
import Derived.Test.YtcdhdnfkcmjnpaaDoorC12
import Derived.Test.YtcdhdnfkcmjnpaaDoorC14
import Derived.Test.YtcdhdnfkcmjnpaaDoorC15
import Derived.Test.YtcdhdnfkcmjnpaaDoorC16
import Derived.Test.YtcdhdnfkcmjnpaaDoorC17
import Derived.Shelf.Strings.IndexAnyAll
import Derived.Shelf.Strings.SlTrimAscii
import Derived.Shelf.Strings.Prefix
import Derived.Shelf.Strings.Search2
import Derived.Laws.RangeAny
import Derived.WalkKit
import Derived.WalkMore
import Derived.Deep.RegionWith
import Derived.Shelf.Small.Utf8
import Derived.Lib.OthersKept
namespace Go.Gv
/-- Where a loop is left by a return. -/
noncomputable def finR (keep:List Nat) (τ:List (Option Nat)):Kont:=fun e s=>match e with
  | .ret=>finF keep τ .ret s
  | _=>none
theorem finR_sub (keep:List Nat) (τ:List (Option Nat)):KSub (finR keep τ):=fun e s o h=>by
  unfold finR at h
  cases e<;>simp only at h<;>first | (cases h; done) | exact finF_sub keep τ _ s o h
end Go.Gv
namespace Go.Proofs.YtcdhdnfkcmjnpaaDoor
open Go.Gv

def yA (b:Int):AV:=.x (.int .u8 b)
def sB (n:Nat) (g:Nat→Int):AV:=.sl 1 n fun i=>[yA (g i)]
def ixB (i:Int) (n:Nat):Bool:=decide (0≤i)&&decide (i < n)
theorem ixB_t {i n:Nat} (h:i < n):ixB (i:Nat) n=true:=by unfold ixB; rw [dec_nonneg,dec_lt h]; rfl
def isId (o:Option Nat) (i:Nat):Bool:=match o with | some k=>Nat.beq k i | none=>false
/-- Of the loops within, the first is told. -/
theorem lok_hd {P:Program} {c:Code} {i:Nat} {g:LFun} (m:Nat) (hlen:(loopsOf c).length=m+1) (hno:((List.range m).all fun j=>!(isId (firstId ((loopsOf c).getD (j+1) .skip)) i))=true) (h:LSound P ((loopsOf c).getD 0 .skip) g):LOk P (oneL i g) c :=
  lok_one (m+1) hlen fun j hj hid=>by
    cases j with
    | zero=>exact h
    | succ j =>
      rw [List.all_eq_true] at hno
      have:=hno j (List.mem_range.2 (by omega))
      rw [hid] at this
      simp [isId] at this
/-- The loop with this number is told. -/
theorem lok_at {P:Program} {c:Code} {i:Nat} {g:LFun} (j0 m:Nat) (hlen:(loopsOf c).length=m) (hno:((List.range m).all fun j=>Nat.beq j j0||!(isId (firstId ((loopsOf c).getD j .skip)) i))=true) (h:LSound P ((loopsOf c).getD j0 .skip) g):LOk P (oneL i g) c :=
  lok_one m hlen fun j hj hid=>by
    rw [List.all_eq_true] at hno
    have:=hno j (List.mem_range.2 hj)
    rw [hid] at this
    simp [isId] at this
    subst this
    exact h
theorem lok_none {P:Program} {c:Code} (i:Nat):LOk P (oneL i fun _ _=>none) c:=by
  intro c' _ i' g' _ hg
  unfold oneL at hg
  cases hb:Nat.beq i' i
  · rw [hb] at hg; cases hg
  · rw [hb] at hg
    cases hg
    constructor
    · intro s k r hr; cases hr
    · intro s s' e' hk
      have:=hk fun e s=>some ⟨e,s,.any⟩
      cases this
theorem kno_ok (f:Nat):KOk Tryd.prog ⟨f,fun _ _=>none⟩:=by
  constructor
  · intro args k o h; simp at h
  · intro args v h
    have h1:=h fun x=>some (Out.of x)
    simp at h1
/-- A contract that is asked for where it is used. -/
noncomputable def kS (P:Program) (f:Nat) (g:List AV→AV):KEntry:=⟨f,fun args k=>gate (FSpec P f args (g args)) (k (g args))⟩
theorem kS_ok {P:Program} {f:Nat} {g:List AV→AV}:KOk P (kS P f g):=by
  constructor
  · intro args k o ho
    simp only [kS] at ho ⊢
    obtain ⟨hp,ho⟩:=gate_some ho
    exact ⟨g args,ho,fun k'=>by rw [gate_pos hp]⟩
  · intro args v hv
    have h1:=hv fun x=>some (Out.of x)
    simp only [kS] at h1
    obtain ⟨hp,h1⟩:=gate_some h1
    simp only [Option.some.injEq,Out.of,Out.mk.injEq,true_and] at h1
    subst h1
    exact Or.inl hp
theorem gspecM {l : List Entry} {ks : List KEntry} {ms : List MEntry} {L : Nat → Option LFun} (hl : ∀ e, e ∈ l → EOk Tryd.prog e) (hks : ∀ e, e ∈ ks → KOk Tryd.prog e) (hms : ∀ e, e ∈ ms → MEOk Tryd.prog e) {f : Nat} {fn : Func} (hf : Tryd.prog.funcs[f]? = some fn) (hnm : (fn.name == "runtime.NumGoroutine") = false) (hb : fn.body = some (bodyOf fn)) (hL : LOk Tryd.prog L (bodyOf fn))
    {args:List AV} (hlen:Nat.ble args.length fn.ntmps=true) {r:AV} (h:evM Tryd.prog l ks ms L fn args ret=some (Out.of r)):FSpec Tryd.prog f args r:=spec_of_evM hl hks hms (by kernel_rfl) hf hnm hb hL hlen h
theorem gspecG {l : List Entry} {ks : List KEntry} {ms : List MEntry} {L : Nat → Option LFun} (hl : ∀ e, e ∈ l → EOk Tryd.prog e) (hks : ∀ e, e ∈ ks → KOk Tryd.prog e) (hms : ∀ e, e ∈ ms → MEOk Tryd.prog e) {f : Nat} {fn : Func} (hf : Tryd.prog.funcs[f]? = some fn) (hnm : (fn.name == "runtime.NumGoroutine") = false) (hb : fn.body = some (bodyOf fn))
    {args:List AV} {mem:List Row} (hL:LOkN mem.length Tryd.prog L (bodyOf fn)) (hlen:Nat.ble args.length fn.ntmps=true) {τ:List (Option Nat)} (hpin:pinT mem.length τ=true) {v:AV} {mem1:List Row} (h:evG Tryd.prog l ks ms L fn args mem τ=gout v mem1):GSpec Tryd.prog f args mem v mem1 :=
  spec_of_evG hl hks hms (by kernel_rfl) hf hnm hb hL hlen hpin h
theorem m_nil {P:Program}:∀ e,e ∈ ([]:List MEntry)→MEOk P e:=fun _ h=>by cases h
theorem m_cons {P:Program} {e:MEntry} {l:List MEntry} (h:MEOk P e) (hl:∀ e,e ∈ l→MEOk P e):∀ e',e' ∈ e::l→MEOk P e':=fun e' he=>by
  rcases List.mem_cons.1 he with rfl | he
  · exact h
  · exact hl e' he
theorem leads_evM {l:List Entry} {ks:List KEntry} {ms:List MEntry} {L:Nat→Option LFun} {c:Code} {s s':St} {e:Exit} {k:Kont} (hk:KSub k) (hl:∀ e,e ∈ l→EOk Tryd.prog e) (hks:∀ e,e ∈ ks→KOk Tryd.prog e) (hms:∀ e,e ∈ ms→MEOk Tryd.prog e) (hL:LOk Tryd.prog L c) (h:evCM Tryd.prog l ks ms L c s k=some ⟨e,s',.any⟩):Leads Tryd.prog c s e s' :=
  leads_ofK hk (tabM_ok hl hks hms) (drawnK_ok (tabM_ok hl hks hms) (by kernel_rfl)) hL h
theorem mixY (b:Bool) (a c:Int):mixL b [yA a] [yA c]=[yA (cond b a c)]:=by unfold yA; simp only [mixL,mixA,decide_true,cond_true]
theorem blt_t {a b:Nat} (h:a < b):Nat.blt a b=true:=Nat.ble_eq_true_of_le h
theorem not_blt {q m:Nat} (h:Nat.blt q m=false):m≤q:=Nat.le_of_not_lt fun hc=>by
  rw [blt_t hc] at h; cases h
theorem mulB {x y X Y:Int} (h0:0≤x) (h1:x≤X) (g0:0≤y) (g1:y≤Y):0≤x*y∧x*y≤X*Y :=
  ⟨Int.mul_nonneg h0 g0,Int.mul_le_mul h1 g1 g0 (Int.le_trans h0 h1)⟩
/-- The first place at which something holds. -/
theorem first_of (Q:Nat→Prop):∀ m,Q m→∃ K,K≤m∧Q K∧∀ k,k < K→¬ Q k:=by
  intro m
  induction m using Nat.strongRecOn with
  | ind m ih =>
    intro h
    by_cases hc:∃ k,k < m∧Q k
    · obtain ⟨k,hk,hq⟩:=hc
      obtain ⟨K,h1,h2,h3⟩:=ih k hk hq
      exact ⟨K,by omega,h2,h3⟩
    · exact ⟨m,Nat.le_refl _,h,fun k hk hq=>hc ⟨k,hk,hq⟩⟩
theorem FSpec.of_res {P:Program} {f:Nat} {args:List AV} {r r':AV} (h:FSpec P f args r) (hr:∀ (E:Env) (v:Value),rel E r v→rel E r' v):FSpec P f args r' :=
  ⟨h.1,fun A w cargs hA ha hg=>(h.2 A w cargs hA ha hg).mono fun _ _ ⟨v,h1,h2,h3⟩=>⟨v,h1,hr _ _ h2,h3⟩⟩
theorem FSpec.of_args {P:Program} {f:Nat} {args args':List AV} {r:AV} (h:FSpec P f args r) (ha:∀ (E:Env) (vs:List Value),rels E args' vs→rels E args vs):FSpec P f args' r :=
  ⟨h.1,fun A w cargs hA h2 hg=>h.2 A w cargs hA (ha _ _ h2) hg⟩
theorem nil_like {E:Env} {sz:Nat} {el:Nat→List AV} {v:Value} (h:rel E (.x (.slice none 0 0)) v):rel E (.sl sz 0 el) v:=by
  have:=rel_x.1 h
  subst this
  exact rel_sl.2 ⟨none,0,rfl,Nat.le_refl _,Or.inl rfl⟩
theorem sl_like {E:Env} {sz n:Nat} {el el':Nat→List AV} {v:Value} (h:rel E (.sl sz n el) v) (he:∀ i,i < n→el' i=el i):rel E (.sl sz n el') v:=by
  have h:relA _ _ _:=h
  show relA _ _ _
  rw [relA] at h ⊢
  obtain ⟨a,c,h1,h2,h3⟩:=h
  refine ⟨a,c,h1,h2,?_⟩
  rcases h3 with h3 | ⟨b,o,cs,e,fz,h4,h5,h6,h7⟩
  · exact Or.inl h3
  · exact Or.inr ⟨b,o,cs,e,fz,h4,h5,h6,fun i hi=>by rw [he i hi]; exact h7 i hi⟩
theorem tup2_like {E:Env} {a a' b:AV} {v:Value} (h:rel E (.tup [a,b]) v) (ha:∀ u,rel E a u→rel E a' u):rel E (.tup [a',b]) v:=by
  obtain ⟨vs,h1,h2⟩:=rel_tup.1 h
  refine rel_tup.2 ⟨vs,h1,?_⟩
  obtain ⟨u0,t0,e0,r0,h2⟩:=rels_cons.1 h2
  exact rels_cons.2 ⟨u0,t0,e0,ha _ r0,h2⟩
theorem ble_t {a b:Nat} (h:a≤b):Nat.ble a b=true:=Nat.ble_eq_true_of_le h
/-- Append of one. -/
def apB (c sz:Nat):Bool:=(c==c)&&Nat.ble ((c+1)*sz) 140737488355328
theorem apB_t {c sz:Nat} (h:(c+1)*sz≤140737488355328):apB c sz=true:=by unfold apB; rw [BEq.rfl,Nat.ble_eq_true_of_le h]; rfl
theorem u8_id {n:Int} (h0:0≤n) (h1:n≤255):IntKind.u8.wrap n=n:=by
  have e:IntKind.u8.wrap n=n % 256:=by
    unfold IntKind.wrap
    simp only [IntKind.bits,IntKind.signed,Bool.false_and]
    rfl
  rw [e]
  omega
end Go.Proofs.YtcdhdnfkcmjnpaaDoor

namespace Go.Proofs.YtcdhdnfkcmjnpaaDoor
open Go.Shelf

def Tryd.lays153_ren:Go.Shelf.Ren:=⟨fun | 153=>51 | 152=>58 | 226=>59 | 227=>60 | 228=>61 | 137=>68 | 119=>69 | 224=>70 | 225=>71 | 217=>79 | 266=>87 | n=>n,fun | 9=>9 | 3=>3 | 4=>4 | 5=>5 | 21=>21 | 117=>92 | 116=>91 | 0=>0 | 46=>102 | 124=>98 | n=>n,fun | n=>n⟩
theorem Tryd.lays153:Go.Proofs.Lays.n153 Tryd.prog Tryd.lays153_ren:={
  mixed:=by kernel_rfl
  f119:=Tryd.func69.trans (congrArg some (by kernel_rfl))
  f137:=Tryd.func68.trans (congrArg some (by kernel_rfl))
  f152:=Tryd.func58.trans (congrArg some (by kernel_rfl))
  f153:=Tryd.func51.trans (congrArg some (by kernel_rfl))
  f217:=Tryd.func79.trans (congrArg some (by kernel_rfl))
  f224:=Tryd.func70.trans (congrArg some (by kernel_rfl))
  f225:=Tryd.func71.trans (congrArg some (by kernel_rfl))
  f226:=Tryd.func59.trans (congrArg some (by kernel_rfl))
  f227:=Tryd.func60.trans (congrArg some (by kernel_rfl))
  f228:=Tryd.func61.trans (congrArg some (by kernel_rfl))
  f266:=Tryd.func87.trans (congrArg some (by kernel_rfl))
  t0:=Tryd.underlying0
  a0:=Tryd.isAgg0
  z0:=Tryd.sizeOf0
  v0:=Tryd.zeroValue0
  t3:=Tryd.underlying3
  a3:=Tryd.isAgg3
  z3:=Tryd.sizeOf3
  v3:=Tryd.zeroValue3
  t4:=Tryd.underlying4
  a4:=Tryd.isAgg4
  z4:=Tryd.sizeOf4
  v4:=Tryd.zeroValue4
  t5:=Tryd.underlying5
  a5:=Tryd.isAgg5
  z5:=Tryd.sizeOf5
  v5:=Tryd.zeroValue5
  t9:=Tryd.underlying9
  a9:=Tryd.isAgg9
  z9:=Tryd.sizeOf9
  v9:=Tryd.zeroValue9
  t21:=Tryd.underlying21
  a21:=Tryd.isAgg21
  z21:=Tryd.sizeOf21
  v21:=Tryd.zeroValue21
  t46:=Tryd.underlying102
  a46:=Tryd.isAgg102
  z46:=Tryd.sizeOf102
  v46:=Tryd.zeroValue102
  t116:=Tryd.underlying91
  a116:=Tryd.isAgg91
  z116:=Tryd.sizeOf91
  t117:=Tryd.underlying92
  a117:=Tryd.isAgg92
  z117:=Tryd.sizeOf92
  v117:=Tryd.zeroValue92
  t124:=Tryd.underlying98
  a124:=Tryd.isAgg98
  z124:=Tryd.sizeOf98
  v124:=Tryd.zeroValue98 }
def Tryd.lays161_ren:Go.Shelf.Ren:=⟨fun | 161=>55 | 231=>63 | 227=>60 | 233=>64 | 235=>65 | 228=>61 | 197=>76 | 151=>77 | 260=>85 | 152=>58 | 137=>68 | 119=>69 | 224=>70 | 225=>71 | 217=>79 | 266=>87 | n=>n,fun | 9=>9 | 4=>4 | 3=>3 | 5=>5 | 117=>92 | 116=>91 | 0=>0 | 124=>98 | 105=>109 | 21=>21 | 119=>118 | 46=>102 | 139=>121 | 138=>120 | n=>n,fun | 3=>2 | 4=>3 | n=>n⟩
theorem Tryd.lays161:Go.Proofs.Lays.n161 Tryd.prog Tryd.lays161_ren:={
  mixed:=by kernel_rfl
  f119:=Tryd.func69.trans (congrArg some (by kernel_rfl))
  f137:=Tryd.func68.trans (congrArg some (by kernel_rfl))
  f151:=Tryd.func77.trans (congrArg some (by kernel_rfl))
  f152:=Tryd.func58.trans (congrArg some (by kernel_rfl))
  f161:=Tryd.func55.trans (congrArg some (by kernel_rfl))
  f197:=Tryd.func76.trans (congrArg some (by kernel_rfl))
  f217:=Tryd.func79.trans (congrArg some (by kernel_rfl))
  f224:=Tryd.func70.trans (congrArg some (by kernel_rfl))
  f225:=Tryd.func71.trans (congrArg some (by kernel_rfl))
  f227:=Tryd.func60.trans (congrArg some (by kernel_rfl))
  f228:=Tryd.func61.trans (congrArg some (by kernel_rfl))
  f231:=Tryd.func63.trans (congrArg some (by kernel_rfl))
  f233:=Tryd.func64.trans (congrArg some (by kernel_rfl))
  f235:=Tryd.func65.trans (congrArg some (by kernel_rfl))
  f260:=Tryd.func85.trans (congrArg some (by kernel_rfl))
  f266:=Tryd.func87.trans (congrArg some (by kernel_rfl))
  t0:=Tryd.underlying0
  a0:=Tryd.isAgg0
  z0:=Tryd.sizeOf0
  v0:=Tryd.zeroValue0
  t3:=Tryd.underlying3
  a3:=Tryd.isAgg3
  z3:=Tryd.sizeOf3
  v3:=Tryd.zeroValue3
  t4:=Tryd.underlying4
  a4:=Tryd.isAgg4
  z4:=Tryd.sizeOf4
  v4:=Tryd.zeroValue4
  t5:=Tryd.underlying5
  a5:=Tryd.isAgg5
  z5:=Tryd.sizeOf5
  v5:=Tryd.zeroValue5
  t9:=Tryd.underlying9
  a9:=Tryd.isAgg9
  z9:=Tryd.sizeOf9
  v9:=Tryd.zeroValue9
  t21:=Tryd.underlying21
  a21:=Tryd.isAgg21
  z21:=Tryd.sizeOf21
  v21:=Tryd.zeroValue21
  t46:=Tryd.underlying102
  a46:=Tryd.isAgg102
  z46:=Tryd.sizeOf102
  v46:=Tryd.zeroValue102
  t105:=Tryd.underlying109
  a105:=Tryd.isAgg109
  z105:=Tryd.sizeOf109
  v105:=Tryd.zeroValue109
  t116:=Tryd.underlying91
  a116:=Tryd.isAgg91
  z116:=Tryd.sizeOf91
  t117:=Tryd.underlying92
  a117:=Tryd.isAgg92
  z117:=Tryd.sizeOf92
  v117:=Tryd.zeroValue92
  t119:=Tryd.underlying118
  a119:=Tryd.isAgg118
  z119:=Tryd.sizeOf118
  t124:=Tryd.underlying98
  a124:=Tryd.isAgg98
  z124:=Tryd.sizeOf98
  v124:=Tryd.zeroValue98
  t138:=Tryd.underlying120
  a138:=Tryd.isAgg120
  z138:=Tryd.sizeOf120
  v138:=Tryd.zeroValue120
  t139:=Tryd.underlying121
  a139:=Tryd.isAgg121
  z139:=Tryd.sizeOf121
  v139:=Tryd.zeroValue121
  g3:=by kernel_rfl
  g4:=by kernel_rfl }
def Tryd.lays99_ren:Go.Shelf.Ren:=⟨fun | 99=>56 | 206=>66 | n=>n,fun | 9=>9 | 4=>4 | 3=>3 | n=>n,fun | n=>n⟩
theorem Tryd.lays99:Go.Proofs.Lays.n99 Tryd.prog Tryd.lays99_ren:={
  mixed:=by kernel_rfl
  f99:=Tryd.func56.trans (congrArg some (by kernel_rfl))
  f206:=Tryd.func66.trans (congrArg some (by kernel_rfl))
  t3:=Tryd.underlying3
  a3:=Tryd.isAgg3
  z3:=Tryd.sizeOf3
  v3:=Tryd.zeroValue3
  t4:=Tryd.underlying4
  a4:=Tryd.isAgg4
  z4:=Tryd.sizeOf4
  v4:=Tryd.zeroValue4
  t9:=Tryd.underlying9
  a9:=Tryd.isAgg9
  z9:=Tryd.sizeOf9
  v9:=Tryd.zeroValue9 }
def Tryd.lays219_ren:Go.Shelf.Ren:=⟨fun | 219=>78 | 217=>79 | 225=>71 | 224=>70 | 267=>86 | 266=>87 | 314=>90 | n=>n,fun | 9=>9 | 3=>3 | 4=>4 | 5=>5 | 46=>102 | 146=>122 | 51=>114 | n=>n,fun | 1=>0 | n=>n⟩
theorem Tryd.lays219:Go.Proofs.Lays.n219 Tryd.prog Tryd.lays219_ren:={
  mixed:=by kernel_rfl
  f217:=Tryd.func79.trans (congrArg some (by kernel_rfl))
  f219:=Tryd.func78.trans (congrArg some (by kernel_rfl))
  f224:=Tryd.func70.trans (congrArg some (by kernel_rfl))
  f225:=Tryd.func71.trans (congrArg some (by kernel_rfl))
  f266:=Tryd.func87.trans (congrArg some (by kernel_rfl))
  f267:=Tryd.func86.trans (congrArg some (by kernel_rfl))
  f314:=Tryd.func90.trans (congrArg some (by kernel_rfl))
  t3:=Tryd.underlying3
  a3:=Tryd.isAgg3
  z3:=Tryd.sizeOf3
  v3:=Tryd.zeroValue3
  t4:=Tryd.underlying4
  a4:=Tryd.isAgg4
  z4:=Tryd.sizeOf4
  v4:=Tryd.zeroValue4
  t5:=Tryd.underlying5
  a5:=Tryd.isAgg5
  z5:=Tryd.sizeOf5
  v5:=Tryd.zeroValue5
  t9:=Tryd.underlying9
  a9:=Tryd.isAgg9
  z9:=Tryd.sizeOf9
  v9:=Tryd.zeroValue9
  t46:=Tryd.underlying102
  a46:=Tryd.isAgg102
  z46:=Tryd.sizeOf102
  v46:=Tryd.zeroValue102
  t51:=Tryd.underlying114
  a51:=Tryd.isAgg114
  z51:=Tryd.sizeOf114
  v51:=Tryd.zeroValue114
  t146:=Tryd.underlying122
  a146:=Tryd.isAgg122
  z146:=Tryd.sizeOf122
  v146:=Tryd.zeroValue122
  g1:=by kernel_rfl }
end Go.Proofs.YtcdhdnfkcmjnpaaDoor

namespace Go.Proofs.YtcdhdnfkcmjnpaaDoor.Pi
open Go.Shelf Go.RowKit Go.Gv

theorem l152:Go.Proofs.Lays.n152 Tryd.prog Tryd.lays153_ren:={ Tryd.lays153 with }
set_option maxHeartbeats 4000000 in
set_option maxRecDepth 1000000 in
theorem rune_err (w:World):Calls Tryd.prog 58 #[.string ⟨#[32,9,13,10,35]⟩,.int .i32 65533] w fun e w'=>e=.returned (.int .i64 (-1))∧∃ pos,w'=w.iter ⟨#[32,9,13,10,35]⟩ pos:=by
  have hn0:=fun ty=>run_next_ascii (P:=Tryd.prog) w ⟨#[32,9,13,10,35]⟩ 0 ty (by decide) (by decide)
  have hn1:=fun ty=>run_next_ascii (P:=Tryd.prog) w ⟨#[32,9,13,10,35]⟩ 1 ty (by decide) (by decide)
  have hn2:=fun ty=>run_next_ascii (P:=Tryd.prog) w ⟨#[32,9,13,10,35]⟩ 2 ty (by decide) (by decide)
  have hn3:=fun ty=>run_next_ascii (P:=Tryd.prog) w ⟨#[32,9,13,10,35]⟩ 3 ty (by decide) (by decide)
  have hn4:=fun ty=>run_next_ascii (P:=Tryd.prog) w ⟨#[32,9,13,10,35]⟩ 4 ty (by decide) (by decide)
  have hn5:=fun ty=>run_next_end (P:=Tryd.prog) w ⟨#[32,9,13,10,35]⟩ 5 ty (by decide)
  go_enter Tryd.func58,Tryd.ntmps58
  go_wp2
  go_loopg [5,6] 5 (fun g _ _ wx=>∃ i:Nat,i+g=5∧wx=w.iter ⟨#[32,9,13,10,35]⟩ i)
  case atStart=>exact ⟨0,by omega,rfl⟩
  case round =>
    obtain ⟨i,hig,rfl⟩:=hrel
    cases gk with
    | zero =>
      obtain rfl:i=5:=by omega
      go_wp2
      go_ret
      exact ⟨rfl,_,rfl⟩
    | succ g =>
      have hi:i=0∨i=1∨i=2∨i=3∨i=4:=by omega
      rcases hi with rfl | rfl | rfl | rfl | rfl
      all_goals
        go_wp2
        go_roundg g
        case measure=>omega
        case rel=>exact ⟨_,by omega,rfl⟩
theorem ib_no (b:UInt8) (h:128≤b.toNat):Lib.indexByte [10,35] b=-1∧Lib.indexByte [13,10,35] b=-1∧Lib.indexByte [35] b=-1∧b≠9∧b≠13∧b≠10:=by
  have h1:∀ c:UInt8,c.toNat < 128→(c==b)=false:=fun c hc=>by
    rw [beq_eq_false_iff_ne]
    intro e
    subst e
    omega
  have n:∀ c:UInt8,c.toNat < 128→b≠c:=fun c hc e=>by subst e; omega
  simp [Lib.indexByte,h1 10 (by decide),h1 35 (by decide),h1 13 (by decide),n 9 (by decide),n 13 (by decide),n 10 (by decide)]
theorem c_valid (r:Int) (w:World):Calls Tryd.prog 69 #[.int .i32 r] w fun e w'=>e=.returned (.bool (Lib.validRune r))∧w'=w:=Any.utf8_ValidRune { l152 with } r w
theorem c_index (s:ByteArray) (c:Int) (w:World):Calls Tryd.prog 68 #[.string s,.int .u8 c] w fun e w'=>e=.returned (.int .i64 (Lib.indexByte s.data.toList c.toNat.toUInt8))∧w'=w:=Any.strings_IndexByte { l152 with } s c w
set_option maxHeartbeats 4000000 in
set_option maxRecDepth 1000000 in
theorem rune_two (w:World) (r:Int) (b0 b1:UInt8) (h0:128≤r) (h1:r≠65533) (hv:Lib.validRune r=true) (he:Utf8.encode r=⟨#[b0,b1]⟩) (hb:128≤b1.toNat) :
    Calls Tryd.prog 58 #[.string ⟨#[32,9,13,10,35]⟩,.int .i32 r] w fun e w'=>e=.returned (.int .i64 (-1))∧Below w.heap.size w w':=by
  obtain ⟨i1,i2,i3,n9,n13,n10⟩:=ib_no b1 hb
  have h2:¬ r < 128:=by omega
  have h3:(r==65533)=false:=beq_eq_false_iff_ne.2 h1
  have i2':Lib.indexByte [13,10,35] ((⟨#[b0,b1]⟩:ByteArray)[1]'(by show 1 < 2; decide))=-1:=i2
  go_enter Tryd.func58,Tryd.ntmps58
  go_wp2_with (first
    | (go_at_call 69; refine (c_valid _ _).mono ?_; rintro e w' ⟨rfl,rfl⟩; rw [hv])
    | (go_at_call 68; refine (c_index _ _ _).mono ?_; rintro e w' ⟨rfl,rfl⟩))
  go_step3
  go_wp2_with (first
    | (go_at_call 69; refine (c_valid _ _).mono ?_; rintro e w' ⟨rfl,rfl⟩; rw [hv])
    | (go_at_call 68; refine (c_index _ _ _).mono ?_; rintro e w' ⟨rfl,rfl⟩))
  go_loopg [9,10] 0 (fun _ s9 s10 wx=>s9=.int .i64 1∧s10=.int .i64 0∧wx=w')
  case atStart=>exact ⟨rfl,rfl,rfl⟩
  case round =>
    obtain ⟨rfl,rfl,rfl⟩:=hrel
    go_wp2_with (first
      | (go_at_call 68; refine (c_index _ _ _).mono ?_; rintro e w' ⟨rfl,rfl⟩))
    go_step3
    go_wp2
    go_region
    go_wp2
    rotate_left
    · exfalso
      have hh:((9:Int) != (b1.toNat:Int))=false:=by assumption
      simp only [bne_eq_false_iff_eq] at hh
      omega
    go_region_with (go_at_call 68; refine (c_index _ _ _).mono ?_; rintro e w' ⟨rfl,rfl⟩)
    all_goals
      go_wp2
      rw [Exit.noGoto_ret]
      go_wp2
      rw [Exit.noGoto_ret]
      go_ret
      exact ⟨rfl,((Below.refl _ _).drew).drew⟩
set_option maxHeartbeats 4000000 in
set_option maxRecDepth 1000000 in
theorem rune_three (w:World) (r:Int) (b0 b1 b2:UInt8) (h0:128≤r) (h1:r≠65533) (hv:Lib.validRune r=true) (he:Utf8.encode r=⟨#[b0,b1,b2]⟩) (hb:128≤b2.toNat) :
    Calls Tryd.prog 58 #[.string ⟨#[32,9,13,10,35]⟩,.int .i32 r] w fun e w'=>e=.returned (.int .i64 (-1))∧Below w.heap.size w w':=by
  obtain ⟨i1,i2,i3,n9,n13,n10⟩:=ib_no b2 hb
  have h2:¬ r < 128:=by omega
  have h3:(r==65533)=false:=beq_eq_false_iff_ne.2 h1
  have i2':Lib.indexByte [10,35] ((⟨#[b0,b1,b2]⟩:ByteArray)[2]'(by show 2 < 3; decide))=-1:=i1
  go_enter Tryd.func58,Tryd.ntmps58
  go_wp2_with (first
    | (go_at_call 69; refine (c_valid _ _).mono ?_; rintro e w' ⟨rfl,rfl⟩; rw [hv])
    | (go_at_call 68; refine (c_index _ _ _).mono ?_; rintro e w' ⟨rfl,rfl⟩))
  go_step3
  go_wp2_with (first
    | (go_at_call 69; refine (c_valid _ _).mono ?_; rintro e w' ⟨rfl,rfl⟩; rw [hv])
    | (go_at_call 68; refine (c_index _ _ _).mono ?_; rintro e w' ⟨rfl,rfl⟩))
  go_loopg [9,10] 0 (fun _ s9 s10 wx=>s9=.int .i64 2∧s10=.int .i64 0∧wx=w')
  case atStart=>exact ⟨rfl,rfl,rfl⟩
  case round =>
    obtain ⟨rfl,rfl,rfl⟩:=hrel
    go_wp2_with (first
      | (go_at_call 68; refine (c_index _ _ _).mono ?_; rintro e w' ⟨rfl,rfl⟩))
    go_step3
    go_wp2
    go_region
    go_wp2
    rotate_left
    · exfalso
      have hh:((13:Int) != (b2.toNat:Int))=false:=by assumption
      simp only [bne_eq_false_iff_eq] at hh
      omega
    go_region_with (go_at_call 68; refine (c_index _ _ _).mono ?_; rintro e w' ⟨rfl,rfl⟩)
    all_goals
      go_wp2
      rw [Exit.noGoto_ret]
      go_wp2
      rw [Exit.noGoto_ret]
      go_ret
      exact ⟨rfl,((Below.refl _ _).drew).drew⟩
set_option maxHeartbeats 4000000 in
set_option maxRecDepth 1000000 in
theorem rune_four (w:World) (r:Int) (b0 b1 b2 b3:UInt8) (h0:128≤r) (h1:r≠65533) (hv:Lib.validRune r=true) (he:Utf8.encode r=⟨#[b0,b1,b2,b3]⟩) (hb:128≤b3.toNat) :
    Calls Tryd.prog 58 #[.string ⟨#[32,9,13,10,35]⟩,.int .i32 r] w fun e w'=>e=.returned (.int .i64 (-1))∧Below w.heap.size w w':=by
  obtain ⟨i1,i2,i3,n9,n13,n10⟩:=ib_no b3 hb
  have h2:¬ r < 128:=by omega
  have h3:(r==65533)=false:=beq_eq_false_iff_ne.2 h1
  have i2':Lib.indexByte [35] ((⟨#[b0,b1,b2,b3]⟩:ByteArray)[3]'(by show 3 < 4; decide))=-1:=i3
  go_enter Tryd.func58,Tryd.ntmps58
  go_wp2_with (first
    | (go_at_call 69; refine (c_valid _ _).mono ?_; rintro e w' ⟨rfl,rfl⟩; rw [hv])
    | (go_at_call 68; refine (c_index _ _ _).mono ?_; rintro e w' ⟨rfl,rfl⟩))
  go_step3
  go_wp2_with (first
    | (go_at_call 69; refine (c_valid _ _).mono ?_; rintro e w' ⟨rfl,rfl⟩; rw [hv])
    | (go_at_call 68; refine (c_index _ _ _).mono ?_; rintro e w' ⟨rfl,rfl⟩))
  go_loopg [9,10] 0 (fun _ s9 s10 wx=>s9=.int .i64 3∧s10=.int .i64 0∧wx=w')
  case atStart=>exact ⟨rfl,rfl,rfl⟩
  case round =>
    obtain ⟨rfl,rfl,rfl⟩:=hrel
    go_wp2_with (first
      | (go_at_call 68; refine (c_index _ _ _).mono ?_; rintro e w' ⟨rfl,rfl⟩))
    go_step3
    go_wp2
    go_region
    go_wp2
    rotate_left
    · exfalso
      have hh:((10:Int) != (b3.toNat:Int))=false:=by assumption
      simp only [bne_eq_false_iff_eq] at hh
      omega
    go_region_with (go_at_call 68; refine (c_index _ _ _).mono ?_; rintro e w' ⟨rfl,rfl⟩)
    all_goals
      go_wp2
      rw [Exit.noGoto_ret]
      go_wp2
      rw [Exit.noGoto_ret]
      go_ret
      exact ⟨rfl,((Below.refl _ _).drew).drew⟩
theorem enc_last (r:Int) (h0:128≤r) (hv:Lib.validRune r=true):(∃ b0 b1,Utf8.encode r=⟨#[b0,b1]⟩∧128≤b1.toNat)∨(∃ b0 b1 b2,Utf8.encode r=⟨#[b0,b1,b2]⟩∧128≤b2.toNat)∨∃ b0 b1 b2 b3,Utf8.encode r=⟨#[b0,b1,b2,b3]⟩∧128≤b3.toNat:=by
  have hv':Utf8.valid r=true:=by
    unfold Lib.validRune at hv
    unfold Utf8.valid
    simp only [decide_eq_true_eq] at hv
    simp only [Bool.or_eq_true,Bool.and_eq_true,decide_eq_true_eq]
    omega
  have hlast:∀ n:Nat,128≤(UInt8.ofNat (0x80+n % 64)).toNat:=fun n=>by
    have:(UInt8.ofNat (0x80+n % 64)).toNat=(0x80+n % 64) % 256:=rfl
    omega
  have h1:¬ r.toNat < 128:=by omega
  unfold Utf8.encode
  simp only [hv',if_true,h1,if_false]
  by_cases h2:r.toNat < 0x800
  · exact Or.inl ⟨_,_,by rw [if_pos h2],hlast _⟩
  · by_cases h3:r.toNat < 0x10000
    · exact Or.inr (Or.inl ⟨_,_,_,by rw [if_neg h2,if_pos h3],hlast _⟩)
    · exact Or.inr (Or.inr ⟨_,_,_,_,by rw [if_neg h2,if_neg h3],hlast _⟩)
/-- A rune beyond ASCII is none of the signs. -/
theorem rune_high (w:World) (r:Int) (h0:128≤r) (hv:Lib.validRune r=true) :
    Calls Tryd.prog 58 #[.string ⟨#[32,9,13,10,35]⟩,.int .i32 r] w fun e w'=>e=.returned (.int .i64 (-1))∧Below w.heap.size w w':=by
  by_cases h1:r=65533
  · subst h1
    exact (rune_err w).mono fun e w' ⟨h1,pos,h2⟩=>⟨h1,by rw [h2]; exact (Below.refl _ _).alloc (Nat.le_refl _) _⟩
  · rcases enc_last r h0 hv with ⟨b0,b1,he,hb⟩ | ⟨b0,b1,b2,he,hb⟩ | ⟨b0,b1,b2,b3,he,hb⟩
    · exact rune_two w r b0 b1 h0 h1 hv he hb
    · exact rune_three w r b0 b1 b2 h0 h1 hv he hb
    · exact rune_four w r b0 b1 b2 b3 h0 h1 hv he hb
end Go.Proofs.YtcdhdnfkcmjnpaaDoor.Pi

namespace Go.Proofs.YtcdhdnfkcmjnpaaDoor.Pi
open Go.Shelf Go.RowKit Go.Gv

def endsL:List UInt8:=[32,9,13,10,35]
theorem ends_high {b:UInt8} (h:128≤b.toNat):endsL.contains b=false:=by
  have h1:∀ c:UInt8,c.toNat < 128→b≠c:=fun c hc e=>by subst e; omega
  simp [endsL,h1 32 (by decide),h1 9 (by decide),h1 13 (by decide),h1 10 (by decide),h1 35 (by decide)]
theorem val_of {r:Int} (h:Utf8.valid r=true):Lib.validRune r=true:=by
  unfold Utf8.valid at h
  unfold Lib.validRune
  rw [decide_eq_true_eq]
  simp only [Bool.or_eq_true,Bool.and_eq_true,decide_eq_true_eq] at h
  omega
theorem val_small (n:Nat) (h:n < 55296):Lib.validRune (n:Int)=true:=by
  unfold Lib.validRune
  rw [decide_eq_true_eq]
  omega
theorem val_err:Lib.validRune ((Utf8.runeError:Nat):Int)=true:=by decide
/-- What a rune beyond ASCII takes: no byte below 128. -/
theorem decode_wide (s:ByteArray) (pos:Nat) (h:pos < s.size) (ha:128≤(s[pos]'h).toNat) :
    Lib.validRune (Utf8.decode s pos).1=true∧128≤(Utf8.decode s pos).1∧1≤(Utf8.decode s pos).2∧pos+(Utf8.decode s pos).2≤s.size∧∀ k,k < (Utf8.decode s pos).2→128≤(s.get! (pos+k)).toNat:=by
  obtain ⟨g1,g2⟩:=decode_high s pos h ha
  have hn:¬ (s[pos]'h).toNat < 128:=by omega
  have h0:128≤(s.get! (pos+0)).toNat:=by rw [get_at s pos h]; exact ha
  refine ⟨?_,g1,g2,?_⟩
  · have hb : ∀ k,(s.get! (pos+k)).toNat < 256:=fun k=>(s.get! (pos+k)).toNat_lt
    have b0:=hb 0; have b1:=hb 1; have b2:=hb 2; have b3:=hb 3
    unfold Utf8.decode
    simp only
    split
    · exact val_small _ (by simp only; omega)
    · split
      · split
        · exact val_small _ (by simp only; omega)
        · exact val_err
      · split
        · split
          · rename_i hx
            simp only [Bool.and_eq_true] at hx
            exact val_of hx.2
          · exact val_err
        · split
          · split
            · rename_i hx
              simp only [Bool.and_eq_true] at hx
              exact val_of hx.2
            · exact val_err
          · exact val_err
  · have one:pos+1≤s.size∧∀ k,k < 1→128≤(s.get! (pos+k)).toNat:=⟨h,fun k hk=>by
      have:k=0:=by omega
      subst this; exact h0⟩
    have c:∀ k,(decide (pos+k < s.size)&&(s.get! (pos+k)).toNat / 64==2)=true→pos+k < s.size∧128≤(s.get! (pos+k)).toNat:=fun k hk=>by
      simp only [Bool.and_eq_true,decide_eq_true_eq,beq_iff_eq] at hk
      exact ⟨hk.1,by omega⟩
    unfold Utf8.decode
    simp only
    split
    · exact one
    · split
      · rename_i hx
        simp only [Bool.and_eq_true] at hx
        obtain ⟨c1,d1⟩:=c 1 (by simp only [Bool.and_eq_true]; exact hx.2)
        split
        · refine ⟨by simp only; omega,fun k hk=>?_⟩
          simp only at hk
          rcases (show k=0∨k=1 by omega) with rfl | rfl
          · exact h0
          · exact d1
        · exact one
      · split
        · rename_i hx
          simp only [Bool.and_eq_true] at hx
          obtain ⟨c1,d1⟩:=c 1 (by simp only [Bool.and_eq_true]; exact hx.1.2)
          obtain ⟨c2,d2⟩:=c 2 (by simp only [Bool.and_eq_true]; exact hx.2)
          split
          · refine ⟨by simp only; omega,fun k hk=>?_⟩
            simp only at hk
            rcases (show k=0∨k=1∨k=2 by omega) with rfl | rfl | rfl
            · exact h0
            · exact d1
            · exact d2
          · exact one
        · split
          · rename_i hx
            simp only [Bool.and_eq_true] at hx
            obtain ⟨c1,d1⟩:=c 1 (by simp only [Bool.and_eq_true]; exact hx.1.1.2)
            obtain ⟨c2,d2⟩:=c 2 (by simp only [Bool.and_eq_true]; exact hx.1.2)
            obtain ⟨c3,d3⟩:=c 3 (by simp only [Bool.and_eq_true]; exact hx.2)
            split
            · refine ⟨by simp only; omega,fun k hk=>?_⟩
              simp only at hk
              rcases (show k=0∨k=1∨k=2∨k=3 by omega) with rfl | rfl | rfl | rfl
              · exact h0
              · exact d1
              · exact d2
              · exact d3
            · exact one
          · exact one
theorem noAny_wide {s:ByteArray} {i n:Nat} (h:Lib.NoAny s.data.toList endsL i) (hn:i+n≤s.size) (hb:∀ k,k < n→128≤(s.get! (i+k)).toNat):Lib.NoAny s.data.toList endsL (i+n):=fun j b hj hjb=>by
  by_cases hlt:j < i
  · exact h j b hlt hjb
  · have h1:=hb (j - i) (by omega)
    have e:i+(j - i)=j:=by omega
    rw [e] at h1
    have h2:s.data.toList[j]?=some (s.get! j):=by
      have hj':j < s.size:=by omega
      have hg:=get_at s j hj'
      rw [Nat.add_zero] at hg
      rw [hg]
      exact Lib.data_getElem? s j hj'
    rw [h2] at hjb
    cases hjb
    exact ends_high h1
theorem c_use (n:Int) (w:World):Calls Tryd.prog 59 #[.int .i64 n] w fun e w'=>e=.returned (.bool (decide (8 < n)))∧w'=w:=Any.strings_shouldUseASCIISet { Tryd.lays153 with } n w
theorem c_rune (s:ByteArray) (r:Int) (w:World) (h0:0≤r) (h1:r < 128):Calls Tryd.prog 58 #[.string s,.int .i32 r] w fun e w'=>e=.returned (.int .i64 (Lib.indexByte s.data.toList r.toNat.toUInt8))∧w'=w:=Any.strings_IndexRune_ascii l152 s r w h0 h1
set_option maxHeartbeats 8000000 in
set_option maxRecDepth 1000000 in
theorem any_short (s:ByteArray) (w:World) (h8:s.size≤8) :
    Calls Tryd.prog 51 #[.string s,.string ⟨#[32,9,13,10,35]⟩] w fun e w'=>e=.returned (.int .i64 (Lib.indexAny s.data.toList endsL))∧Below w.heap.size w w':=by
  have h8z:decide ((8:Int) < (s.size:Int))=false:=decide_eq_false (by omega)
  go_enter Tryd.func51,Tryd.ntmps51
  go_wp2_with (go_at_call 59; refine (c_use _ _).mono ?_; rintro e w' ⟨rfl,rfl⟩; rw [h8z])
  go_loopg [9,10] s.size (fun g _ _ wx=>∃ i:Nat,i+g=s.size∧wx.heap[w'.heap.size]?=some (.stringIter s i)∧Below w'.heap.size w' wx∧Lib.NoAny s.data.toList endsL i)
  case atStart=>exact ⟨0,by omega,World.iter_heap _ s 0,(Below.refl _ _).alloc (Nat.le_refl _) _,Lib.NoAny.zero _ _⟩
  case round =>
    obtain ⟨i,hig,hit,hbel,hno⟩:=hrel
    have hlt:w'.heap.size < wr.heap.size:=(Array.getElem?_eq_some_iff.1 hit).1
    by_cases hp:i < s.size
    · have hit2:=fun p=>Lib.iterAt_heap wr w'.heap.size s i p hit
      have hbw2:=fun p=>Lib.below_iterAt hbel (k:=w'.heap.size) (Nat.le_refl _) s p
      have hsz2:=fun p=>Lib.iterAt_size wr w'.heap.size s p
      have HN:Aside (Lib.NoAny s.data.toList endsL i):=hno
      clear hno
      by_cases hx:(s[i]'hp).toNat < 128
      · have hnx:∀ ty,(Instr.next (.pointer (some ⟨w'.heap.size,0,none⟩)) true ty).run Tryd.prog wr=_:=fun ty=>Lib.run_next_ascii_at wr w'.heap.size s i ty hit hp hx
        have hxl:s.data.toList[i]?=some (s[i]'hp):=Lib.data_getElem? s i hp
        generalize (s[i]'hp)=x at hnx hxl hx
        have Hx:Aside (s.data.toList[i]?=some x):=hxl
        clear hxl
        have hcon:=Lib.contains_iff_indexByte endsL x
        have hback:((x.toNat:Int)).toNat.toUInt8=x:=by simp
        have hib:∀ y,Lib.indexByte (⟨#[32,9,13,10,35]⟩:ByteArray).data.toList y=Lib.indexByte endsL y:=fun y=>rfl
        cases hin:endsL.contains x
        · rw [hin] at hcon
          have hlt:¬ ((0:Int)≤Lib.indexByte endsL x):=of_decide_eq_false hcon.symm
          clear hcon
          go_wp2_with (go_at_call 58; refine (c_rune _ _ _ (by omega) (by omega)).mono ?_; rintro e w2 ⟨rfl,rfl⟩; rw [hback,hib])
          go_roundg (s.size - (i+1))
          case measure=>omega
          case rel=>exact ⟨i+1,by omega,hit2 _,hbw2 _,HN.out.succ Hx.out hin⟩
        · rw [hin] at hcon
          have hge:(0:Int)≤Lib.indexByte endsL x:=of_decide_eq_true hcon.symm
          clear hcon
          go_wp2_with (go_at_call 58; refine (c_rune _ _ _ (by omega) (by omega)).mono ?_; rintro e w2 ⟨rfl,rfl⟩; rw [hback,hib])
          go_ret
          exact ⟨by rw [Lib.indexAny_hit HN.out Hx.out hin]; rfl,hbw2 _⟩
      · obtain ⟨v1,v2,v3,v4,v5⟩:=decode_wide s i hp (by omega)
        have hnx:∀ ty,(Instr.next (.pointer (some ⟨w'.heap.size,0,none⟩)) true ty).run Tryd.prog wr=_:=fun ty=>Lib.run_next_any_at wr w'.heap.size s i ty hit hp
        generalize Utf8.decode s i=cw at hnx v1 v2 v3 v4 v5
        obtain ⟨c,wd⟩:=cw
        simp only at hnx v1 v2 v3 v4 v5
        go_wp2_with (go_at_call 58; refine (rune_high _ _ (by omega) v1).mono ?_; rintro e w2 ⟨rfl,hb2⟩)
        go_roundg (s.size - (i+wd))
        case measure=>omega
        case rel=>exact ⟨i+wd,by omega,by rw [hb2.block _ (by rw [hsz2]; exact hlt)]; exact hit2 _,(hbw2 _).trans (hb2.mono (by rw [hsz2]; omega)),noAny_wide HN.out v4 v5⟩
    · have hnx:∀ ty,(Instr.next (.pointer (some ⟨w'.heap.size,0,none⟩)) true ty).run Tryd.prog wr=_:=fun ty=>Lib.run_next_end_at wr w'.heap.size s i ty hit hp
      go_wp2
      go_ret
      have hi:i=s.size:=by omega
      subst hi
      exact ⟨by rw [Lib.indexAny_none (by rw [← Lib.size_eq]; exact hno)]; rfl,hbel⟩
end Go.Proofs.YtcdhdnfkcmjnpaaDoor.Pi
