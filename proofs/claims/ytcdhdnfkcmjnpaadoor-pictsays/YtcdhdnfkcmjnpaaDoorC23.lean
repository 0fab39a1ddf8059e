/-
  Pa3 Pa4 Pa5 Pa6 Pa7 Pa8 Pc0 Pa9 Pb0 Pb1 Pb2 Pb3 Pb4 Pb5 Pb6 Pb7 Pd1 Pd2 Pd3 Pd4 Pd5 Pd6 Pc1 Pd7 Pe1 Pe2 Pe3 Pe4 Pe5 Pe6 Pe7 Pe8 Gyw Gyl Gyf Gyr, one behind the other.
-/
import Derived.Test.YtcdhdnfkcmjnpaaDoorC18
import Derived.Test.YtcdhdnfkcmjnpaaDoorC22
import Derived.Test.YtcdhdnfkcmjnpaaDoorC20
import Derived.Test.YtcdhdnfkcmjnpaaDoorC15
import Derived.Laws.Closers25
import Derived.Test.YtcdhdnfkcmjnpaaDoorC19
import Derived.Test.YtcdhdnfkcmjnpaaDoorC21
namespace Go.Proofs.YtcdhdnfkcmjnpaaDoor.Pi
open Go.Shelf Go.RowKit Go.Gv

def zA (s:ByteArray):AV:=.x (.string s)
/-- The bytes of a string; the string of bytes. -/
def bL (s:ByteArray):List UInt8:=s.data.toList
def lB (l:List UInt8):ByteArray:=⟨l.toArray⟩
@[simp] theorem bL_lB (l:List UInt8):bL (lB l)=l:=by simp [bL,lB]
@[simp] theorem lB_bL (s:ByteArray):lB (bL s)=s:=by simp [bL,lB]
theorem bL_inj {s t:ByteArray} (h:bL s=bL t):s=t:=by rw [← lB_bL s,h,lB_bL]
theorem size_bL (s:ByteArray):s.size=(bL s).length:=Lib.size_eq s
theorem size_lB (l:List UInt8):(lB l).size=l.length:=by rw [size_bL,bL_lB]
theorem bL_extract (s:ByteArray) (a b:Nat):bL (s.extract a b)=((bL s).take b).drop a:=by
  unfold bL
  rw [ByteArray.data_extract,Array.toList_extract]
  simp [List.extract_eq_take_drop,List.drop_take]
theorem sEq (s t:ByteArray):(s.toList==t.toList)=decide (bL s=bL t):=by
  rw [Lib.toList_data,Lib.toList_data]
  unfold bL
  by_cases h:s.data.toList=t.data.toList
  · rw [h]; simp
  · rw [decide_eq_false h]; simpa using h
theorem rels_x {E:Env}:∀ {vs us:List Value},rels E (vs.map .x) us→us=vs
  | [],us,h=>rels_nil.1 h
  | v::vs,us,h=>by
    obtain ⟨u,us',e,h1,h2⟩:=rels_cons.1 h
    rw [e,rel_x.1 h1,rels_x h2]
/-- A contract of the library's shelf, as one of ours. -/
theorem fspec_calls {f : Nat} {fn : Func} (hf : Tryd.prog.funcs[f]? = some fn) (hnm : (fn.name == "runtime.NumGoroutine") = false) (hb : fn.body.isNone = false) (vs : List Value) {v : Value} {r : AV} (hr : ∀ E, rel E r v)
    (h:∀ w,Calls Tryd.prog f vs.toArray w fun e w'=>e=.returned v∧Below w.heap.size w w'):FSpec Tryd.prog f (vs.map .x) r:=by
  refine ⟨⟨fn,hf,hnm,hb⟩,fun A w cargs _ hr' _=>?_⟩
  have e:=rels_x hr'
  have e2:cargs=vs.toArray:=by apply Array.ext'; simpa using e
  subst e2
  exact (h w).mono fun e w' ⟨h1,h2⟩=>⟨v,h1,hr _,h2⟩
def gapsL:List UInt8:=[32,9,13,10]
theorem info91:(Tryd.prog.info? (Tryd.lays153_ren.t 116)).map (fun i=>(i.zero,i.size))=some (some (.agg (Array.replicate 256 (.bool false))),256):=by kernel_rfl
theorem info91':(Tryd.prog.info? (Tryd.lays161_ren.t 116)).map (fun i=>(i.zero,i.size))=some (some (.agg (Array.replicate 256 (.bool false))),256):=by kernel_rfl
/-- Where the first sign that ends a word stands; below nought: nowhere. -/
def anyS (s:ByteArray):Int:=Lib.indexAny (bL s) endsL
theorem any_spec (s:ByteArray) (hs:s.size < 4294967281):FSpec Tryd.prog 51 [zA s,zA ⟨#[32,9,13,10,35]⟩] (iA (anyS s)):=by
  refine fspec_calls Tryd.func51 (by kernel_rfl) (by kernel_rfl) [.string s,.string ⟨#[32,9,13,10,35]⟩] (v:=.int .i64 (anyS s)) (fun E=>rel_x.2 rfl) fun w=>?_
  by_cases h8:s.size≤8
  · exact any_short s w h8
  · refine (Any.strings_IndexAny_long Tryd.lays153 (zero_of_info info91).1 (zero_of_info info91).2 s ⟨#[32,9,13,10,35]⟩ w (by decide) (by omega) hs (by decide) (ascii_of_all (by decide))).mono fun e w' ⟨h1,h2⟩=>⟨h1,?_⟩
    rw [h2]
    exact ((Below.refl _ _).alloc (Nat.le_refl _) _).alloc (by simp) _
/-- A text without the gaps ahead. -/
def trimS (s:ByteArray):ByteArray:=lB (Lib.trimLeftS (bL s) gapsL)
theorem trim_spec (s:ByteArray):FSpec Tryd.prog 55 [zA s,zA ⟨#[32,9,13,10]⟩] (zA (trimS s)):=by
  refine fspec_calls Tryd.func55 (by kernel_rfl) (by kernel_rfl) [.string s,.string ⟨#[32,9,13,10]⟩] (v:=.string (trimS s)) (fun E=>rel_x.2 rfl) fun w=>?_
  exact Any.strings_TrimLeft_laid Tryd.lays161 info91' s ⟨#[32,9,13,10]⟩ w (by decide) (ascii_of_all (by decide))
/-- Whether a text begins with a remark. -/
def hashS (s:ByteArray):Bool:=Lib.hasPrefix (bL s) [35]
theorem hash_spec (s:ByteArray):FSpec Tryd.prog 56 [zA s,zA ⟨#[35]⟩] (bA (hashS s)):=by
  refine fspec_calls Tryd.func56 (by kernel_rfl) (by kernel_rfl) [.string s,.string ⟨#[35]⟩] (v:=.bool (hashS s)) (fun E=>rel_x.2 rfl) fun w=>?_
  exact (Any.strings_HasPrefix Tryd.lays99 s ⟨#[35]⟩ w).mono fun e w' ⟨h1,h2⟩=>⟨h1,by rw [h2]; exact Below.refl _ _⟩
/-- Where a line ends. -/
def eolS (s:ByteArray):Int:=Lib.indexByte (bL s) 10
theorem eol_spec (s:ByteArray):FSpec Tryd.prog 78 [zA s,zA ⟨#[10]⟩] (iA (eolS s)):=by
  refine fspec_calls Tryd.func78 (by kernel_rfl) (by kernel_rfl) [.string s,.string ⟨#[10]⟩] (v:=.int .i64 (eolS s)) (fun E=>rel_x.2 rfl) fun w=>?_
  exact (Any.stringslite_Index_one Tryd.lays219 s 10 w).mono fun e w' ⟨h1,h2⟩=>⟨h1,by rw [h2]; exact Below.refl _ _⟩
end Go.Proofs.YtcdhdnfkcmjnpaaDoor.Pi

namespace Go.Proofs.YtcdhdnfkcmjnpaaDoor.Pi
open Go.Shelf Go.RowKit Go.Gv

theorem leads_evMN {np:Nat} {l:List Entry} {ks:List KEntry} {ms:List MEntry} {L:Nat→Option LFun} {c:Code} {s s':St} {e:Exit} {k:Kont} (hk:KSubN np k) (hl:∀ e,e ∈ l→EOk Tryd.prog e) (hks:∀ e,e ∈ ks→KOk Tryd.prog e) (hms:∀ e,e ∈ ms→MEOk Tryd.prog e) (hL:LOkN np Tryd.prog L c) (h:evCM Tryd.prog l ks ms L c s k=some ⟨e,s',.any⟩):LeadsN np Tryd.prog c s e s' :=
  leads_ofKN hk (tabM_ok hl hks hms) (drawnK_ok (tabM_ok hl hks hms) (by kernel_rfl)) hL h
/-- A function of a text and of a text that is known. -/
def eC (f:Nat) (l:List UInt8) (g:ByteArray→AV):Entry:=⟨f,fun args=>match args with
  | [.x (.string s),.x (.string t)]=>cond (decide (t.data.toList=l)) (some (g s)) none
  | _=>none⟩
theorem eC_ok {f:Nat} {l:List UInt8} {g:ByteArray→AV} (h:∀ s,FSpec Tryd.prog f [zA s,zA (lB l)] (g s)):EOk Tryd.prog (eC f l g):=fun args r hr=>by
  unfold eC at hr
  simp only at hr
  split at hr
  · rename_i s t
    by_cases e:t.data.toList=l
    · rw [decide_eq_true e] at hr
      cases hr
      have:t=lB l:=bL_inj (by rw [bL_lB]; exact e)
      subst this
      exact Or.inl (h s)
    · rw [decide_eq_false e] at hr; cases hr
  · cases hr
/-- A piece of a text. -/
def pcS (s:ByteArray) (l h:Option Int):ByteArray:=s.extract (sbL l) (h.getD (s.size:Int)).toNat
theorem cut_ev (s:ByteArray):ev Tryd.prog [eC 78 [10] fun s=>iA (eolS s)] [] noL Tryd.f67 [zA s,zA ⟨#[10]⟩] ret =
    cond (decide (eolS s ≥ 0)) (cond ((sbB none (some (eolS s)) none s.size||false)&&((sbB (some (w64 (eolS s+1))) none none s.size||false)&&true)) (some (Out.of (.tup [zA (pcS s none (some (eolS s))),zA (pcS s (some (w64 (eolS s+1))) none),bA true]))) none) (some (Out.of (.tup [zA s,zA ⟨#[]⟩,bA false]))):=by kernel_rfl
/-- What is behind the line. -/
def cuA (s:ByteArray):ByteArray:=if 0≤eolS s then pcS s none (some (eolS s)) else s
def cuB (s:ByteArray):ByteArray:=if 0≤eolS s then pcS s (some (eolS s+1)) none else ⟨#[]⟩
def cuF (s:ByteArray):Bool:=decide (0≤eolS s)
def cuV (s:ByteArray):AV:=.tup [zA (cuA s),zA (cuB s),bA (cuF s)]
theorem eol_lt (s:ByteArray):eolS s < s.size:=by
  unfold eolS
  rw [size_bL]
  generalize bL s=l
  induction l with
  | nil=>unfold Lib.indexByte; simp
  | cons b l ih =>
    unfold Lib.indexByte
    simp only [List.length_cons]
    split
    · omega
    · split<;>omega
theorem sbB_hi {n:Nat} {k:Int} (h0:0≤k) (h1:k≤n):sbB none (some k) none n=true:=by
  unfold sbB
  simp only [Option.getD_none,Option.getD_some]
  rw [decide_eq_true (Int.le_refl 0),decide_eq_true h0,decide_eq_true h1,decide_eq_true (Int.le_refl _)]
  rfl
theorem sbB_lo {n:Nat} {k:Int} (h0:0≤k) (h1:k≤n):sbB (some k) none none n=true:=by
  unfold sbB
  simp only [Option.getD_none,Option.getD_some]
  rw [decide_eq_true h0,decide_eq_true h1,decide_eq_true (Int.le_refl _)]
  rfl
theorem cut1_spec (s:ByteArray) (hs:s.size < 4294967281):FSpec Tryd.prog 67 [zA s,zA ⟨#[10]⟩] (cuV s):=by
  refine gspec (e_cons (eC_ok eol_spec) e_nil) k_nil Tryd.func67 (by kernel_rfl) (by kernel_rfl) noL_ok rfl ((cut_ev s).trans ?_)
  have h1:=eol_lt s
  unfold cuV cuA cuB cuF
  by_cases h:0≤eolS s
  · rw [if_pos h,if_pos h,decide_eq_true h,w64_id (by omega) (by omega),sbB_hi h (by omega),sbB_lo (by omega) (by omega)]
    rfl
  · rw [if_neg h,if_neg h,decide_eq_false h]
    rfl
def cuG:List AV→AV
  | [.x (.string s),_]=>cuV s
  | _=>.any
theorem cut2_ev (s:ByteArray):ev Tryd.prog [] [kS Tryd.prog 67 cuG] noL Tryd.f57 [zA s,zA ⟨#[10]⟩] ret=gate (FSpec Tryd.prog 67 [zA s,zA ⟨#[10]⟩] (cuV s)) (some (Out.of (cuV s))):=by kernel_rfl
theorem cut_spec (s:ByteArray) (hs:s.size < 4294967281):FSpec Tryd.prog 57 [zA s,zA ⟨#[10]⟩] (cuV s):=by
  refine gspec e_nil (k_cons (kS_ok (P:=Tryd.prog) (f:=67) (g:=cuG)) k_nil) Tryd.func57 (by kernel_rfl) (by kernel_rfl) noL_ok rfl ((cut2_ev s).trans ?_)
  rw [gate_pos (cut1_spec s hs)]
def paS (s:ByteArray):St:=mkS 35 [(0,.own 0 0)] [.c [zA s]]
def paE:List Entry:=[eC 55 [32,9,13,10] fun s=>zA (trimS s),eC 56 [35] fun s=>bA (hashS s)]
theorem paE_ok:∀ e,e ∈ paE→EOk Tryd.prog e:=e_cons (eC_ok trim_spec) <| e_cons (eC_ok hash_spec) e_nil
noncomputable def paK:List KEntry:=[kS Tryd.prog 57 cuG]
theorem paK_ok:∀ e,e ∈ paK→KOk Tryd.prog e:=k_cons (kS_ok (P:=Tryd.prog) (f:=57) (g:=cuG)) k_nil
def nxS (s:ByteArray):ByteArray:=trimS (cuB s)
theorem pa_step (s:ByteArray):evCM Tryd.prog paE paK [] noL (loopAt Tryd.f50 0) (paS s) (finN [0] [some 0])=cond (hashS s) (gate (FSpec Tryd.prog 57 [zA s,zA ⟨#[10]⟩] (cuV s)) (some ⟨.normal,paS (nxS s),.any⟩)) none:=by kernel_rfl
theorem pa_end (s:ByteArray):evCM Tryd.prog paE paK [] noL (loopAt Tryd.f50 0) (paS s) (finE [0] [some 0])=cond (hashS s) (gate (FSpec Tryd.prog 57 [zA s,zA ⟨#[10]⟩] (cuV s)) none) (some ⟨.exit 0,paS s,.any⟩):=by kernel_rfl
noncomputable def paL (s t:ByteArray):Nat→Option LFun:=oneL 1 (toldP 1 [0] [some 0] (paS (trimS s)) (.exit 0) (paS t))
theorem pa_ev (s t:ByteArray):evG Tryd.prog paE paK [] (paL s t) Tryd.f50 [.own 0 0] [.c [zA s]] [some 0]=gate (SubN 1 (paS (trimS s)) (paS (trimS s))) (gout (.tup []) [.c [zA t]]):=by kernel_rfl
end Go.Proofs.YtcdhdnfkcmjnpaaDoor.Pi

namespace Go.Proofs.YtcdhdnfkcmjnpaaDoor.Pi
open Go.Shelf Go.RowKit Go.Gv

theorem bL_hi (s:ByteArray) (k:Int):bL (pcS s none (some k))=(bL s).take k.toNat:=by
  unfold pcS
  rw [bL_extract]
  show List.drop 0 _=_
  rw [List.drop_zero]
  rfl
theorem bL_lo (s:ByteArray) (k:Int):bL (pcS s (some k) none)=(bL s).drop k.toNat:=by
  unfold pcS
  rw [bL_extract]
  have:((none:Option Int).getD (s.size:Int)).toNat=(bL s).length:=by rw [Option.getD_none,Int.toNat_natCast,size_bL]
  rw [this,List.take_length]
  rfl
/-- What is behind a line's end. -/
def aftL:List UInt8→List UInt8
  | []=>[]
  | b::l=>if b=10 then l else aftL l
theorem ib_aft:∀ l:List UInt8,(0≤Lib.indexByte l 10→aftL l=l.drop (Lib.indexByte l 10+1).toNat)∧(¬ 0≤Lib.indexByte l 10→aftL l=[])
  | []=>⟨fun h=>by unfold Lib.indexByte at h; omega,fun _=>rfl⟩
  | b :: l=>by
    obtain ⟨h1,h2⟩:=ib_aft l
    have hge:=Lib.indexByte_ge l 10
    unfold aftL Lib.indexByte
    by_cases hb:b=10
    · subst hb
      simp
    · have hbb:(b==10)=false:=by simpa using hb
      rw [if_neg hb]
      simp only [hbb,Bool.false_eq_true,if_false]
      by_cases hm:Lib.indexByte l 10=-1
      · rw [hm]
        simp only [beq_self_eq_true,if_true]
        exact ⟨fun h=>by omega,fun _=>h2 (by omega)⟩
      · have hmb:(Lib.indexByte l 10==-1)=false:=by simpa using hm
        simp only [hmb,Bool.false_eq_true,if_false]
        refine ⟨fun _=>?_,fun h=>by omega⟩
        rw [h1 (by omega),show (Lib.indexByte l 10+1+1).toNat=(Lib.indexByte l 10+1).toNat+1 by omega,List.drop_succ_cons]
theorem bL_cuB (s:ByteArray):bL (cuB s)=aftL (bL s):=by
  obtain ⟨h1,h2⟩:=ib_aft (bL s)
  unfold cuB eolS
  by_cases h:0≤Lib.indexByte (bL s) 10
  · rw [if_pos h,bL_lo,h1 h]
  · rw [if_neg h,h2 h]; rfl
theorem aft_len (l:List UInt8):(aftL l).length≤l.length:=by
  induction l with
  | nil=>exact Nat.le_refl _
  | cons b l ih =>
    unfold aftL
    split
    · simp
    · simp only [List.length_cons]; omega
def gapB (b:UInt8):Bool:=gapsL.contains b
def endB (b:UInt8):Bool:=endsL.contains b
theorem bL_trim (s:ByteArray):bL (trimS s)=(bL s).dropWhile gapB:=by unfold trimS; rw [bL_lB]; rfl
theorem bL_nx (s:ByteArray):bL (nxS s)=(aftL (bL s)).dropWhile gapB:=by unfold nxS; rw [bL_trim,bL_cuB]
theorem hash_cons (s:ByteArray):hashS s=true ↔ ∃ l,bL s=35::l:=by
  unfold hashS Lib.hasPrefix
  cases h:bL s with
  | nil=>simp
  | cons b l =>
    simp only [List.isPrefixOf,Bool.and_true,beq_iff_eq,List.cons.injEq]
    exact ⟨fun e=>⟨l,e.symm,rfl⟩,fun ⟨_,e,_⟩=>e.symm⟩
theorem dropW_len (l:List UInt8) (p:UInt8→Bool):(l.dropWhile p).length≤l.length:=(List.dropWhile_suffix p).sublist.length_le
def sqS (s:ByteArray):Nat→ByteArray
  | 0=>trimS s
  | k+1=>nxS (sqS s k)
theorem sq_len (s:ByteArray):∀ k,(∀ j,j < k→hashS (sqS s j)=true)→(bL (sqS s k)).length+k≤(bL s).length
  | 0,_=>by rw [sqS,bL_trim,Nat.add_zero]; exact dropW_len _ _
  | k + 1,h=>by
    have ih:=sq_len s k fun j hj=>h j (by omega)
    obtain ⟨l,hl⟩:=(hash_cons _).1 (h k (by omega))
    rw [sqS,bL_nx,hl]
    have h1:=dropW_len (aftL (35::l)) gapB
    have h2:aftL (35::l)=aftL l:=by
      show (if (35:UInt8)=10 then l else aftL l)=aftL l
      rw [if_neg (by decide)]
    rw [h2] at h1 ⊢
    have h3:=aft_len l
    rw [hl,List.length_cons] at ih
    omega
theorem sq_end (s:ByteArray):∃ K,hashS (sqS s K)=false∧∀ k,k < K→hashS (sqS s k)=true:=by
  obtain ⟨K,_,h1,h2⟩:=first_of (fun k=>hashS (sqS s k)=false∨(bL s).length < k) ((bL s).length+1) (Or.inr (by omega))
  have h3:∀ k,k < K→hashS (sqS s k)=true:=fun k hk=>by
    have:=h2 k hk
    cases h:hashS (sqS s k) with
    | true=>rfl
    | false=>exact absurd (Or.inl h) this
  rcases h1 with h1 | h1
  · exact ⟨K,h1,h3⟩
  · have:=sq_len s K h3
    omega
noncomputable def pasK (s:ByteArray):Nat:=Classical.choose (sq_end s)
/-- A text from where its next word begins. -/
noncomputable def pasS (s:ByteArray):ByteArray:=sqS s (pasK s)
theorem pas_no (s:ByteArray):hashS (pasS s)=false:=(Classical.choose_spec (sq_end s)).1
theorem pas_yes (s:ByteArray):∀ k,k < pasK s→hashS (sqS s k)=true:=(Classical.choose_spec (sq_end s)).2
theorem sq_gap (s:ByteArray):∀ k,∃ l,bL (sqS s k)=List.dropWhile gapB l
  | 0=>⟨bL s,bL_trim s⟩
  | _+1=>⟨_,bL_nx _⟩
theorem pas_len (s:ByteArray):(bL (pasS s)).length≤(bL s).length:=by
  have:=sq_len s (pasK s) (pas_yes s)
  unfold pasS
  omega
/-- A word begins with none of the signs. -/
theorem pas_head (s:ByteArray) (b:UInt8) (l:List UInt8) (h:bL (pasS s)=b::l):endB b=false:=by
  have h1:gapB b=false:=by
    obtain ⟨l0,hl⟩:=sq_gap s (pasK s)
    have h2:List.dropWhile gapB l0=b::l:=by rw [← hl]; exact h
    cases hg:gapB b with
    | false=>rfl
    | true =>
      have:=List.head?_dropWhile_not gapB l0
      rw [h2] at this
      simp only [List.head?_cons] at this
      rw [hg] at this
      cases this
  have h2:b≠35:=fun e=>by
    subst e
    have:=(hash_cons (pasS s)).2 ⟨l,h⟩
    rw [pas_no] at this
    cases this
  unfold gapB gapsL at h1
  unfold endB endsL
  simp only [List.contains_cons,List.contains_nil,Bool.or_false,Bool.or_eq_false_iff,beq_eq_false_iff_ne] at h1 ⊢
  exact ⟨h1.1,h1.2.1,h1.2.2.1,h1.2.2.2,h2⟩
theorem pa_leads (s:ByteArray) (hs:s.size < 4294967281):LeadsN 1 Tryd.prog (.loop (loopAt Tryd.f50 0)) (paS (trimS s)) (.exit 0) (paS (pasS s)):=by
  refine loop_rule (fun k=>paS (sqS s k)) (pasK s) (.exit 0) _ (by simp) (fun k hk=>?_) ?_
  · have hz:(sqS s k).size < 4294967281:=by
      have:=sq_len s k fun j hj=>pas_yes s j (by omega)
      rw [size_bL] at hs ⊢
      omega
    refine leads_evMN (finN_subN _ (by rfl)) paE_ok paK_ok m_nil noL_okN ((pa_step (sqS s k)).trans ?_)
    rw [pas_yes s k hk,cond_true,gate_pos (cut_spec _ hz)]
    rfl
  · refine leads_evMN (finE_subN _ (by rfl)) paE_ok paK_ok m_nil noL_okN ((pa_end (sqS s (pasK s))).trans ?_)
    rw [show hashS (sqS s (pasK s))=false from pas_no s]
    rfl
theorem pass_spec (s:ByteArray) (hs:s.size < 4294967281):GSpec Tryd.prog 50 [.own 0 0] [.c [zA s]] (.tup []) [.c [zA (pasS s)]]:=by
  refine gspecG paE_ok paK_ok m_nil Tryd.func50 (by kernel_rfl) (by kernel_rfl) (L:=paL s (pasS s)) ?_ rfl rfl ((pa_ev s (pasS s)).trans ?_)
  · exact lokN_one 1 (by rfl) fun j hj _=>by
      have:j=0:=by omega
      subst this
      exact toldP_sound (by rfl) (pa_leads s hs)
  · rw [gate_pos (SubN.refl _)]
end Go.Proofs.YtcdhdnfkcmjnpaaDoor.Pi

namespace Go.Proofs.YtcdhdnfkcmjnpaaDoor.Pi
open Go.Shelf Go.RowKit Go.Gv

/-- A call that is handed one row and writes it; its contract is asked for where it is used. -/
noncomputable def mgC (f:Nat) (gv:Row→AV) (gr:Row→Row):List AV→List Row→Option (Bool × AV × List Row):=fun args rs=>match rs with
  | [r]=>some (propB (GSpec Tryd.prog f args [r] (gv r) [gr r]),gv r,[gr r])
  | _=>none
noncomputable def mG1 (f:Nat) (gv:Row→AV) (gr:Row→Row):MEntry:=⟨f,liftM (some 0) (mgC f gv gr),none⟩
theorem mG1_ok {f:Nat} {gv:Row→AV} {gr:Row→Row}:MEOk Tryd.prog (mG1 f gv gr):=by
  refine ⟨liftM_ok fun args rs v mem1 h=>?_,fun _ h=>by cases h⟩
  unfold mgC at h
  split at h
  · simp only [Option.some.injEq,Prod.mk.injEq] at h
    obtain ⟨h1,rfl,rfl⟩:=h
    exact ⟨propB_of h1,fun i hi hne=>by
      have:i=0:=by simp at hi; exact hi
      subst this
      exact absurd rfl hne⟩
  · cases h
def strOf:Row→ByteArray
  | .c [.x (.string s)]=>s
  | _=>⟨#[]⟩
noncomputable def mPass:MEntry:=mG1 50 (fun _=>.tup []) fun r=>.c [zA (pasS (strOf r))]
def anG:List AV→AV
  | [.x (.string s),_]=>iA (anyS s)
  | _=>.any
noncomputable def wdK:List KEntry:=[kS Tryd.prog 51 anG]
theorem wdK_ok:∀ e,e ∈ wdK→KOk Tryd.prog e:=k_cons (kS_ok (P:=Tryd.prog) (f:=51) (g:=anG)) k_nil
def wdX (p:ByteArray) (k:Int):Option Out:=cond (sbB none (some k) none p.size||false) (cond (sbB (some k) none none p.size||false) (gout (zA (pcS p none (some k))) [.c [zA (pcS p (some k) none)]]) none) none
theorem wd_ev (s:ByteArray):evG Tryd.prog [] wdK [mPass] noL Tryd.f34 [.own 0 0] [.c [zA s]] [some 0] =
    cond ((propB (GSpec Tryd.prog 50 [.own 0 0] [.c [zA s]] (.tup []) [.c [zA (pasS s)]])&&true)||false)
      (gate (FSpec Tryd.prog 51 [zA (pasS s),zA ⟨#[32,9,13,10,35]⟩] (iA (anyS (pasS s)))) (cond (decide (anyS (pasS s) < 0)) (wdX (pasS s) (pasS s).size) (wdX (pasS s) (anyS (pasS s))))) none:=by kernel_rfl
def nuV (n e:Int):Option Out:=some (Out.of (.tup [iA n,iA e]))
def nuX:List UInt8→Int→Option Out
  | [],n=>cond (decide (n > 255)) (nuV 0 6) (nuV n 0)
  | b::l,n=>cond (cond (decide ((b.toNat:Int) < 48)) true (decide ((b.toNat:Int) > 57))) (nuV 0 7) (nuX l (w64 (w64 (10*n)+IntKind.i64.wrap (IntKind.u8.wrap ((b.toNat:Int) - 48)))))
theorem nu_ev0 (s:ByteArray):ev Tryd.prog [] [] (oneL 7 fun _ _=>none) Tryd.f49 [zA s] ret=cond (s.toList==ByteArray.toList ⟨#[]⟩) (nuV 0 8) (cond (decide ((s.size:Int) > 6)) (nuV 0 7) none):=by kernel_rfl
theorem nu_ev1 (a:UInt8):ev Tryd.prog [] [] noL Tryd.f49 [zA ⟨#[a]⟩] ret=nuX [a] 0:=by kernel_rfl
theorem nu_ev2 (a b:UInt8):ev Tryd.prog [] [] noL Tryd.f49 [zA ⟨#[a,b]⟩] ret=nuX [a,b] 0:=by kernel_rfl
theorem nu_ev3 (a b c:UInt8):ev Tryd.prog [] [] noL Tryd.f49 [zA ⟨#[a,b,c]⟩] ret=nuX [a,b,c] 0:=by kernel_rfl
theorem nu_ev4 (a b c d:UInt8):ev Tryd.prog [] [] noL Tryd.f49 [zA ⟨#[a,b,c,d]⟩] ret=nuX [a,b,c,d] 0:=by kernel_rfl
theorem nu_ev5 (a b c d e:UInt8):ev Tryd.prog [] [] noL Tryd.f49 [zA ⟨#[a,b,c,d,e]⟩] ret=nuX [a,b,c,d,e] 0:=by kernel_rfl
theorem nu_ev6 (a b c d e f:UInt8):ev Tryd.prog [] [] noL Tryd.f49 [zA ⟨#[a,b,c,d,e,f]⟩] ret=nuX [a,b,c,d,e,f] 0:=by kernel_rfl
section
variable (wf rf:ByteArray→ByteArray) (nf ne:ByteArray→Int)
noncomputable def mWord:MEntry:=mG1 34 (fun r=>zA (wf (strOf r))) fun r=>.c [zA (rf (strOf r))]
def eNum:Entry:=⟨49,fun args=>match args with
  | [.x (.string s)]=>some (.tup [iA (nf s),iA (ne s)])
  | _=>none⟩
noncomputable def wG (s:ByteArray):Bool:=propB (GSpec Tryd.prog 34 [.own 0 0] [.c [zA s]] (zA (wf s)) [.c [zA (rf s)]])&&true
def nbR (a b c e:Int) (s:ByteArray):Option Out:=gout (.tup [.agg [iA a,iA b,iA c],iA e]) [.c [zA s]]
theorem nb_ev (s:ByteArray):evG Tryd.prog [eNum nf ne] [] [mWord wf rf] noL Tryd.f33 [.own 0 0] [.c [zA s]] [some 0] =
    cond (wG wf rf s||false) (cond (!(ne (wf s)==0)) (nbR 0 0 0 (ne (wf s)) (rf s))
      (cond (wG wf rf (rf s)||false) (cond (!(ne (wf (rf s))==0)) (nbR 0 0 0 (ne (wf (rf s))) (rf (rf s)))
        (cond (wG wf rf (rf (rf s))||false) (cond (!(ne (wf (rf (rf s)))==0)) (nbR 0 0 0 (ne (wf (rf (rf s)))) (rf (rf (rf s))))
          (nbR (nf (wf s)) (nf (wf (rf s))) (nf (wf (rf (rf s)))) 0 (rf (rf (rf s))))) none)) none)) none:=by kernel_rfl
end
end Go.Proofs.YtcdhdnfkcmjnpaaDoor.Pi

namespace Go.Proofs.YtcdhdnfkcmjnpaaDoor.Pi
open Go.Shelf Go.RowKit Go.Gv

def sidB (n:Int):Bool:=cond (decide (n ≥ 1)) (decide (n≤64)) false
theorem sid_spec (n:Int):FSpec Tryd.prog 47 [iA n] (bA (sidB n)):=by
  refine gspec e_nil k_nil Tryd.func47 (by kernel_rfl) (by kernel_rfl) noL_ok rfl ?_
  have h:ev Tryd.prog [] [] noL Tryd.f47 [iA n] ret=some (Out.of (bA (sidB n))):=by kernel_rfl
  exact h
def eSid (sd:Int→Bool):Entry:=⟨47,fun args=>match args with
  | [.x (.int .i64 n)]=>some (bA (sd n))
  | _=>none⟩
theorem eSid_ok:EOk Tryd.prog (eSid sidB):=fun args r hr=>by
  unfold eSid at hr
  simp only at hr
  split at hr
  · cases hr; exact Or.inl (sid_spec _)
  · cases hr
def P0:AV:=.agg [iA 0,iA 0,.x (.slice none 0 0)]
section
variable (wf rf:ByteArray→ByteArray) (na nb nc ne:ByteArray→Int) (nr:ByteArray→ByteArray) (sd:Int→Bool)
def nbV (s:ByteArray):AV:=.tup [.agg [iA (na s),iA (nb s),iA (nc s)],iA (ne s)]
noncomputable def mNum:MEntry:=mG1 33 (fun r=>nbV na nb nc ne (strOf r)) fun r=>.c [zA (nr (strOf r))]
noncomputable def nG (s:ByteArray):Bool:=propB (GSpec Tryd.prog 33 [.own 0 0] [.c [zA s]] (nbV na nb nc ne s) [.c [zA (nr s)]])&&true
def hdR (a b e:Int) (s:ByteArray):Option Out:=gout (.tup [.agg [iA a,iA b,.x (.slice none 0 0)],iA e]) [.c [zA s]]
def isE (s:ByteArray):Bool:=s.toList==ByteArray.toList ⟨#[]⟩
def isM (s:ByteArray):Bool:=s.toList==ByteArray.toList ⟨#[80,51]⟩
theorem hd_ev (s:ByteArray):evG Tryd.prog [eSid sd] [] [mWord wf rf,mNum na nb nc ne nr] noL Tryd.f32 [.own 0 0] [.c [zA s]] [some 0] =
    cond (wG wf rf s||false) (cond (isE (wf s)) (hdR 0 0 8 (rf s)) (cond (isM (wf s))
      (cond (nG na nb nc ne nr (rf s)||false) (cond (!(ne (rf s)==0)) (hdR 0 0 (ne (rf s)) (nr (rf s)))
        (cond (cond (!(sd (na (rf s)))) true (!(sd (nb (rf s))))) (hdR 0 0 4 (nr (rf s)))
          (cond (!(nc (rf s)==255)) (hdR 0 0 6 (nr (rf s))) (hdR (na (rf s)) (nb (rf s)) 0 (nr (rf s)))))) none)
      (hdR 0 0 11 (rf s)))) none:=by kernel_rfl
end
end Go.Proofs.YtcdhdnfkcmjnpaaDoor.Pi

namespace Go.Proofs.YtcdhdnfkcmjnpaaDoor.Pi
open Go.Shelf Go.RowKit Go.Gv
section
variable (na nb nc ne:ByteArray→Int) (nr:ByteArray→ByteArray)
def pxC (w h:Int) (n:Nat):Row:=.c [iA w,iA h,.osl 3 1 0 n]
def reS (w h N i:Int) (s:ByteArray) (n:Nat) (p:Nat→Int):St:=mkS 57 [(2,.own 0 0),(4,.own 1 0),(5,.own 2 0),(27,iA N),(28,iA i)] [.c [iA 0,iA 0,.x (.slice none 0 0)],.c [zA s],pxC w h n,.a 5 1 n fun j=>[yA (p j)]]
def keepRe:List Nat:=[2,4,5,27,28]
def by8 (n:Int):Int:=IntKind.u8.wrap n
def reF (n:Nat) (p:Nat→Int) (a b c:Int):Nat→List AV:=fun q=>mixL (Nat.blt q n) [yA (p q)] (spread n [[yA (by8 a)],[yA (by8 b)],[yA (by8 c)],[yA 255]] q)
def reN (w h N i:Int) (s:ByteArray) (n:Nat) (f:Nat→List AV):St:=mkS 57 [(2,.own 0 0),(4,.own 1 0),(5,.own 2 0),(27,iA N),(28,iA i)] [.c [iA 0,iA 0,.x (.slice none 0 0)],.c [zA s],pxC w h (n+4),.a 5 1 (n+4) f]
theorem re_step (w h N i:Int) (s:ByteArray) (n:Nat) (p:Nat→Int):evCM Tryd.prog [] [] [mNum na nb nc ne nr] noL (loopAt Tryd.f13 0) (reS w h N i s n p) (finN keepRe [some 0,some 1,some 2,some 6]) =
    cond (decide (i < N)) (cond (nG na nb nc ne nr s||false) (cond (!(ne s==0)) none (cond (((n==n)&&Nat.ble ((n+4)*1) 140737488355328)||false) (some ⟨.normal,reN w h N (w64 (i+1)) (nr s) n (reF n p (na s) (nb s) (nc s)),.any⟩) none)) none) none:=by kernel_rfl
theorem re_end (w h N i:Int) (s:ByteArray) (n:Nat) (p:Nat→Int):evCM Tryd.prog [] [] [mNum na nb nc ne nr] noL (loopAt Tryd.f13 0) (reS w h N i s n p) (finE keepRe [some 0,some 1,some 2,some 3]) =
    cond (decide (i < N)) (cond (nG na nb nc ne nr s||false) (cond (!(ne s==0)) none (cond (((n==n)&&Nat.ble ((n+4)*1) 140737488355328)||false) none none)) none) (some ⟨.exit 0,reS w h N i s n p,.any⟩):=by kernel_rfl
def rtS (e:Int):St:=mkS 57 [(2,.own 0 0),(3,iA e)] [.c [iA 0,iA 0,.x (.slice none 0 0)]]
theorem re_ret (w h N i:Int) (s:ByteArray) (n:Nat) (p:Nat→Int):evCM Tryd.prog [] [] [mNum na nb nc ne nr] noL (loopAt Tryd.f13 0) (reS w h N i s n p) (finR [2,3] [some 0]) =
    cond (decide (i < N)) (cond (nG na nb nc ne nr s||false) (cond (!(ne s==0)) (some ⟨.ret,rtS (ne s),.any⟩) (cond (((n==n)&&Nat.ble ((n+4)*1) 140737488355328)||false) none none)) none) none:=by kernel_rfl
variable (wf rf:ByteArray→ByteArray) (ha hb he:ByteArray→Int) (hr:ByteArray→ByteArray)
def hdV (s:ByteArray):AV:=.tup [.agg [iA (ha s),iA (hb s),.x (.slice none 0 0)],iA (he s)]
noncomputable def mHead:MEntry:=mG1 32 (fun r=>hdV ha hb he (strOf r)) fun r=>.c [zA (hr (strOf r))]
noncomputable def hG (s:ByteArray):Bool:=propB (GSpec Tryd.prog 32 [.own 0 0] [.c [zA s]] (hdV ha hb he s) [.c [zA (hr s)]])&&true
noncomputable def reM:List MEntry:=[mWord wf rf,mHead ha hb he hr,mNum na nb nc ne nr]
def reV (p:AV) (e:Int):Option Out:=some (Out.of (.tup [p,iA e]))
noncomputable def reLA (w h N:Int) (s s':ByteArray) (n:Nat) (g:Nat→Int):Nat→Option LFun:=oneL 8 (toldC keepRe 2 [(2,3,1)] (.a 5 1 0 fun q=>[yA (g q)]) [some 0,some 1,some 2,none] (reS w h N 0 s 0 g) (.exit 0) (reS w h N N s' n g))
noncomputable def reLB (w h N:Int) (s:ByteArray) (e:Int) (g:Nat→Int):Nat→Option LFun:=oneL 8 (toldC keepRe 2 [(2,3,1)] (.a 5 1 0 fun q=>[yA (g q)]) [some 0,some 1,some 2,none] (reS w h N 0 s 0 g) .ret (rtS e))
theorem re_evA (w h N:Int) (s s1 s':ByteArray) (n:Nat) (g:Nat→Int):evM Tryd.prog [] [] (reM na nb nc ne nr wf rf ha hb he hr) (reLA w h N s1 s' n g) Tryd.f13 [zA s] ret =
    cond (decide ((s.size:Int) > 80000)) (reV P0 4) (cond (hG ha hb he hr s||false) (cond (!(he s==0)) (reV P0 (he s)) (gate (Sub (reS (ha s) (hb s) (w64 (ha s*hb s)) 0 (hr s) 0 g) (reS w h N 0 s1 0 g))
      (cond (wG wf rf s'||false) (cond (!(isE (wf s'))) (reV P0 5) (reV (.agg [iA w,iA h,.sl 1 n fun j=>[yA (g (0+j))]]) 0)) none))) none):=by kernel_rfl
theorem re_evB (w h N:Int) (s s1:ByteArray) (e:Int) (g:Nat→Int):evM Tryd.prog [] [] (reM na nb nc ne nr wf rf ha hb he hr) (reLB w h N s1 e g) Tryd.f13 [zA s] ret =
    cond (decide ((s.size:Int) > 80000)) (reV P0 4) (cond (hG ha hb he hr s||false) (cond (!(he s==0)) (reV P0 (he s)) (gate (Sub (reS (ha s) (hb s) (w64 (ha s*hb s)) 0 (hr s) 0 g) (reS w h N 0 s1 0 g)) (reV P0 e))) none):=by kernel_rfl
end
end Go.Proofs.YtcdhdnfkcmjnpaaDoor.Pi

namespace Go.Proofs.YtcdhdnfkcmjnpaaDoor
open Go.Gv

structure Pic where
  W:Int
  H:Int
  n:Nat
  px:Nat→Int
def Pic.c (p:Pic):List AV:=[iA p.W,iA p.H,sB p.n p.px]
def zP:Pic:=⟨0,0,0,fun _=>0⟩
def picZ:List AV:=[iA 0,iA 0,.x (.slice none 0 0)]
theorem zP_like {E:Env} {v:Value} (h:rel E (.agg picZ) v):rel E (.agg zP.c) v:=by
  obtain ⟨vs,h1,h2⟩:=rel_agg.1 h
  refine rel_agg.2 ⟨vs,h1,?_⟩
  obtain ⟨u0,t0,e0,r0,h2⟩:=rels_cons.1 h2
  obtain ⟨u1,t1,e1,r1,h2⟩:=rels_cons.1 h2
  obtain ⟨u2,t2,e2,r2,h2⟩:=rels_cons.1 h2
  exact rels_cons.2 ⟨u0,t0,e0,r0,rels_cons.2 ⟨u1,t1,e1,r1,rels_cons.2 ⟨u2,t2,e2,nil_like r2,h2⟩⟩⟩
def pOut (p:Pic) (e:Int):AV:=.tup [.agg p.c,iA e]
def pBad (e:Int):Option Out:=some (Out.of (.tup [.agg picZ,iA e]))
theorem pspec_bad {f:Nat} {args:List AV} {e:Int} (h:FSpec Tryd.prog f args (.tup [.agg picZ,iA e])):FSpec Tryd.prog f args (pOut zP e):=FSpec.of_res h fun _ _ hr=>tup2_like hr fun _=>zP_like
def pbad (W H:Int):Bool:=cond (cond (cond (decide (W < 1)) true (decide (H < 1))) true (decide (W > 64))) true (decide (H > 64))
def pcnt (W H:Int) (n:Nat):Bool:=!((n:Int)==w64 (w64 (4*W)*H))
def pmay (W H:Int) (n:Nat):Int:=cond (pbad W H) 4 (cond (pcnt W H n) 5 0)
theorem pbad_false {W H:Int} (h:pbad W H=false):1≤W∧W≤64∧1≤H∧H≤64:=by
  unfold pbad at h
  by_cases h1:W < 1<;>by_cases h2:W > 64<;>by_cases h3:H < 1<;>by_cases h4:H > 64<;>simp [h1,h2,h3,h4] at h
  omega
theorem pmay_zero {W H:Int} {n:Nat} (h:pmay W H n=0):(1≤W∧W≤64∧1≤H∧H≤64)∧(n:Int)=4*(W*H)∧n≤16384:=by
  unfold pmay at h
  cases hb:pbad W H
  · rw [hb] at h
    cases hc:pcnt W H n
    · obtain ⟨a,b,c,d⟩:=pbad_false hb
      have hM:=mulB (x:=W) (y:=H) (X:=64) (Y:=64) (by omega) b (by omega) d
      have e:(n:Int)=4*(W*H):=by
        unfold pcnt at hc
        rw [w64_id (n:=4*W) (by omega) (by omega),Int.mul_assoc,w64_id (by omega) (by omega)] at hc
        simpa using hc
      exact ⟨⟨a,b,c,d⟩,e,by omega⟩
    · rw [hc] at h; cases h
  · rw [hb] at h; cases h
end Go.Proofs.YtcdhdnfkcmjnpaaDoor

namespace Go.Proofs.YtcdhdnfkcmjnpaaDoor.Pi
open Go.Shelf Go.RowKit Go.Gv

def nEnd (b:UInt8):Bool:=!endB b
def wrdL (l:List UInt8):List UInt8:=l.takeWhile nEnd
def rstL (l:List UInt8):List UInt8:=l.dropWhile nEnd
theorem any_take:∀ l:List UInt8,(Lib.indexAny l endsL < 0→wrdL l=l∧rstL l=[])∧(0≤Lib.indexAny l endsL→(Lib.indexAny l endsL).toNat≤l.length∧wrdL l=l.take (Lib.indexAny l endsL).toNat∧rstL l=l.drop (Lib.indexAny l endsL).toNat)
  | []=>⟨fun _=>⟨rfl,rfl⟩,fun h=>by unfold Lib.indexAny at h; omega⟩
  | b :: l=>by
    obtain ⟨h1,h2⟩:=any_take l
    have hge:=Lib.indexAny_ge endsL l
    unfold Lib.indexAny
    cases hb:endsL.contains b
    · have hn:nEnd b=true:=by unfold nEnd endB; rw [hb]; rfl
      simp only [Bool.false_eq_true,if_false]
      have ew:wrdL (b::l)=b::wrdL l:=by unfold wrdL; rw [List.takeWhile_cons,if_pos hn]
      have er:rstL (b::l)=rstL l:=by unfold rstL; rw [List.dropWhile_cons,if_pos hn]
      rw [ew,er]
      by_cases hm:Lib.indexAny l endsL=-1
      · rw [hm]
        simp only [beq_self_eq_true,if_true]
        obtain ⟨g1,g2⟩:=h1 (by omega)
        exact ⟨fun _=>⟨by rw [g1],g2⟩,fun h=>by omega⟩
      · have hmb:(Lib.indexAny l endsL==-1)=false:=by simpa using hm
        simp only [hmb,Bool.false_eq_true,if_false]
        obtain ⟨g0,g1,g2⟩:=h2 (by omega)
        refine ⟨fun h=>by omega,fun _=>?_⟩
        rw [show (Lib.indexAny l endsL+1).toNat=(Lib.indexAny l endsL).toNat+1 by omega,List.take_succ_cons,List.drop_succ_cons,g1,g2]
        exact ⟨by simp only [List.length_cons]; omega,rfl,rfl⟩
    · have hn:nEnd b=false:=by unfold nEnd endB; rw [hb]; rfl
      simp only [if_true]
      refine ⟨fun h=>by omega,fun _=>⟨Nat.zero_le _,?_,?_⟩⟩
      · unfold wrdL; rw [List.takeWhile_cons,if_neg (by rw [hn]; simp)]; rfl
      · unfold rstL; rw [List.dropWhile_cons,if_neg (by rw [hn]; simp)]; rfl
noncomputable def wrdS (s:ByteArray):ByteArray:=lB (wrdL (bL (pasS s)))
noncomputable def rstS (s:ByteArray):ByteArray:=lB (rstL (bL (pasS s)))
theorem rst_len (s:ByteArray):(rstS s).size≤s.size:=by
  unfold rstS
  rw [size_lB,size_bL]
  exact Nat.le_trans (dropW_len _ _) (pas_len s)
theorem pas_size (s:ByteArray):(pasS s).size≤s.size:=by rw [size_bL,size_bL]; exact pas_len s
theorem word_spec (s:ByteArray) (hs:s.size < 4294967281):GSpec Tryd.prog 34 [.own 0 0] [.c [zA s]] (zA (wrdS s)) [.c [zA (rstS s)]]:=by
  refine gspecG e_nil wdK_ok (m_cons mG1_ok m_nil) Tryd.func34 (by kernel_rfl) (by kernel_rfl) noL_okN rfl rfl ((wd_ev s).trans ?_)
  have hp:(pasS s).size < 4294967281:=Nat.lt_of_le_of_lt (pas_size s) hs
  rw [propB_t (pass_spec s hs),gate_pos (any_spec _ hp)]
  obtain ⟨h1,h2⟩:=any_take (bL (pasS s))
  have key:∀ k:Int,0≤k→k≤(pasS s).size→wrdL (bL (pasS s))=(bL (pasS s)).take k.toNat→rstL (bL (pasS s))=(bL (pasS s)).drop k.toNat→wdX (pasS s) k=gout (zA (wrdS s)) [.c [zA (rstS s)]]:=fun k k0 k1 e1 e2=>by
    unfold wdX
    rw [sbB_hi k0 k1,sbB_lo k0 k1]
    have f1:pcS (pasS s) none (some k)=wrdS s:=bL_inj (by rw [bL_hi]; unfold wrdS; rw [bL_lB,e1])
    have f2:pcS (pasS s) (some k) none=rstS s:=bL_inj (by rw [bL_lo]; unfold rstS; rw [bL_lB,e2])
    rw [f1,f2]
    rfl
  show cond (decide (anyS (pasS s) < 0)) (wdX (pasS s) (pasS s).size) (wdX (pasS s) (anyS (pasS s)))=_
  unfold anyS
  by_cases h:Lib.indexAny (bL (pasS s)) endsL < 0
  · obtain ⟨g1,g2⟩:=h1 h
    rw [decide_eq_true h]
    refine key _ (by omega) (by omega) ?_ ?_
    · rw [Int.toNat_natCast,size_bL,List.take_length,g1]
    · rw [Int.toNat_natCast,size_bL,List.drop_length,g2]
  · obtain ⟨g0,g1,g2⟩:=h2 (by omega)
    rw [decide_eq_false h]
    exact key _ (by omega) (by rw [size_bL]; omega) g1 g2
def numQ:List UInt8→Int→Int × Int
  | [],n=>if n > 255 then (0,6) else (n,0)
  | b::l,n=>if (b.toNat:Int) < 48∨(b.toNat:Int) > 57 then (0,7) else numQ l (10*n+((b.toNat:Int) - 48))
def numP (l:List UInt8):Int × Int:=if l=[] then (0,8) else if 6 < l.length then (0,7) else numQ l 0
theorem nuX_eq:∀ (l:List UInt8) (n:Int),0≤n→(n+1)*10 ^ l.length≤1000000000000→nuX l n=nuV (numQ l n).1 (numQ l n).2
  | [],n,_,_=>by
    unfold nuX numQ
    by_cases h:n > 255
    · rw [decide_eq_true h,if_pos h]; rfl
    · rw [decide_eq_false h,if_neg h]; rfl
  | b :: l,n,h0,h1=>by
    have hb:=b.toNat_lt
    have hp:(1:Int)≤10 ^ l.length:=by
      have:(0:Int) < 10 ^ l.length:=Int.pow_pos (by decide)
      omega
    rw [List.length_cons,Int.pow_succ] at h1
    have h2:(n+1)*10≤1000000000000:=by
      have e:(n+1)*10*1≤(n+1)*10*10 ^ l.length:=Int.mul_le_mul_of_nonneg_left hp (by omega)
      have e2:(n+1)*(10 ^ l.length*10)=(n+1)*10*10 ^ l.length:=by rw [Int.mul_comm (10 ^ l.length) 10,Int.mul_assoc]
      omega
    unfold nuX numQ
    by_cases c1:(b.toNat:Int) < 48
    · rw [decide_eq_true c1,if_pos (Or.inl c1)]; rfl
    · by_cases c2:(b.toNat:Int) > 57
      · rw [decide_eq_true c2,decide_eq_false c1,if_pos (Or.inr c2)]; rfl
      · rw [decide_eq_false c1,decide_eq_false c2,if_neg (by omega)]
        have e1:IntKind.u8.wrap ((b.toNat:Int) - 48)=(b.toNat:Int) - 48:=by rw [IntKind.wrap_u8]; omega
        have e2:IntKind.i64.wrap ((b.toNat:Int) - 48)=(b.toNat:Int) - 48:=w64_id (by omega) (by omega)
        rw [e1,e2,w64_id (n:=10*n) (by omega) (by omega),w64_id (by omega) (by omega)]
        refine nuX_eq l _ (by omega) ?_
        have e3:(10*n+((b.toNat:Int) - 48)+1)*10 ^ l.length≤(n+1)*10*10 ^ l.length:=Int.mul_le_mul_of_nonneg_right (by omega) (by omega)
        have e4:(n+1)*(10 ^ l.length*10)=(n+1)*10*10 ^ l.length:=by rw [Int.mul_comm (10 ^ l.length) 10,Int.mul_assoc]
        omega
def nmN (s:ByteArray):Int:=(numP (bL s)).1
def nmE (s:ByteArray):Int:=(numP (bL s)).2
theorem num_list (l:List UInt8):FSpec Tryd.prog 49 [zA (lB l)] (.tup [iA (numP l).1,iA (numP l).2]):=by
  have main:∀ (L:Nat→Option LFun),LOk Tryd.prog L (bodyOf Tryd.f49)→ev Tryd.prog [] [] L Tryd.f49 [zA (lB l)] ret=nuV (numP l).1 (numP l).2→FSpec Tryd.prog 49 [zA (lB l)] (.tup [iA (numP l).1,iA (numP l).2]):=fun L hL h =>
    gspec e_nil k_nil Tryd.func49 (by kernel_rfl) (by kernel_rfl) hL rfl h
  by_cases h0:l=[]
  · refine main _ (lok_none 7) ((nu_ev0 (lB l)).trans ?_)
    unfold numP
    rw [if_pos h0,sEq,bL_lB,h0]
    rfl
  by_cases h6:6 < l.length
  · refine main _ (lok_none 7) ((nu_ev0 (lB l)).trans ?_)
    unfold numP
    rw [if_neg h0,if_pos h6,sEq,bL_lB,size_lB,decide_eq_true (show (l.length:Int) > 6 by omega),decide_eq_false (show ¬ l=bL ⟨#[]⟩ from h0)]
    rfl
  · have fin:nuX l 0=nuV (numP l).1 (numP l).2:=by
      unfold numP
      rw [if_neg h0,if_neg h6]
      refine nuX_eq l 0 (by omega) ?_
      have:((10:Int) ^ l.length)≤10 ^ 6:=by
        rcases (show l.length=0∨l.length=1∨l.length=2∨l.length=3∨l.length=4∨l.length=5∨l.length=6 by omega) with e | e | e | e | e | e | e<;>rw [e]<;>decide
      omega
    match l,h0,h6,fin,main with
    | [a],_,_,fin,main=>exact main _ noL_ok ((nu_ev1 a).trans fin)
    | [a,b],_,_,fin,main=>exact main _ noL_ok ((nu_ev2 a b).trans fin)
    | [a,b,c],_,_,fin,main=>exact main _ noL_ok ((nu_ev3 a b c).trans fin)
    | [a,b,c,d],_,_,fin,main=>exact main _ noL_ok ((nu_ev4 a b c d).trans fin)
    | [a,b,c,d,e],_,_,fin,main=>exact main _ noL_ok ((nu_ev5 a b c d e).trans fin)
    | [a,b,c,d,e,f],_,_,fin,main=>exact main _ noL_ok ((nu_ev6 a b c d e f).trans fin)
    | _::_::_::_::_::_::_::_,_,h6,_,_=>exfalso; simp only [List.length_cons] at h6; omega
theorem num_spec (s:ByteArray):FSpec Tryd.prog 49 [zA s] (.tup [iA (nmN s),iA (nmE s)]):=by
  have:=num_list (bL s)
  rw [lB_bL] at this
  exact this
theorem eNum_ok:EOk Tryd.prog (eNum nmN nmE):=fun args r hr=>by
  unfold eNum at hr
  simp only at hr
  split at hr
  · cases hr; exact Or.inl (num_spec _)
  · cases hr
end Go.Proofs.YtcdhdnfkcmjnpaaDoor.Pi

namespace Go.Proofs.YtcdhdnfkcmjnpaaDoor.Pi
open Go.Shelf Go.RowKit Go.Gv

/-- The words of a text: the one that is being gone through, and whether all is passed over. -/
def wrds:List UInt8→List UInt8→Bool→List (List UInt8)
  | [],w,_=>if w=[] then [] else [w]
  | c::l,w,o=>if c=35 then (if w=[] then wrds l [] true else w::wrds l [] true)
    else if (o=true∧c≠10)∨gapB c=true then (if w=[] then wrds l [] (o&&!(c==10)) else w::wrds l [] (o&&!(c==10)))
    else wrds l (w ++ [c]) false
theorem gap_ten:gapB 10=true:=by decide
theorem gap_not {c:UInt8} (h:gapB c=true):c≠35:=fun e=>by subst e; exact absurd h (by decide)
theorem wrds_gap:∀ l:List UInt8,wrds (l.dropWhile gapB) [] false=wrds l [] false
  | []=>rfl
  | c :: l=>by
    cases h:gapB c
    · rw [List.dropWhile_cons,if_neg (by rw [h]; simp)]
    · rw [List.dropWhile_cons,if_pos h,wrds_gap l]
      conv=>rhs; unfold wrds
      rw [if_neg (gap_not h),if_pos (Or.inr h),if_pos rfl]
      rfl
theorem wrds_over:∀ l:List UInt8,wrds l [] true=wrds (aftL l) [] false
  | []=>rfl
  | c :: l=>by
    unfold aftL
    by_cases h:c=10
    · subst h
      rw [if_pos rfl]
      conv=>lhs; unfold wrds
      rw [if_neg (by decide),if_pos (Or.inr gap_ten),if_pos rfl]
      rfl
    · rw [if_neg h,← wrds_over l]
      conv=>lhs; unfold wrds
      by_cases h2:c=35
      · rw [if_pos h2,if_pos rfl]
      · have hb:(c==10)=false:=by simpa using h
        rw [if_neg h2,if_pos (Or.inl ⟨rfl,h⟩),if_pos rfl,hb]
        rfl
theorem wrds_hash (l:List UInt8):wrds (35::l) [] false=wrds (aftL (35::l)) [] false:=by
  conv=>lhs; unfold wrds
  rw [if_pos rfl,if_pos rfl,wrds_over]
  conv=>rhs; unfold aftL
  rw [if_neg (by decide)]
theorem wrds_sq (s:ByteArray):∀ k,(∀ j,j < k→hashS (sqS s j)=true)→wrds (bL (sqS s k)) [] false=wrds (bL s) [] false
  | 0,_=>by rw [sqS,bL_trim,wrds_gap]
  | k+1,h=>by
    rw [← wrds_sq s k fun j hj=>h j (by omega)]
    obtain ⟨l,hl⟩:=(hash_cons _).1 (h k (by omega))
    rw [sqS,bL_nx,wrds_gap,hl,← wrds_hash]
theorem wrds_pas (s:ByteArray):wrds (bL (pasS s)) [] false=wrds (bL s) [] false:=wrds_sq s (pasK s) (pas_yes s)
theorem end_cases {c:UInt8} (h:nEnd c=false):c=35∨gapB c=true:=by
  have h1:endB c=true:=by unfold nEnd at h; simpa using h
  unfold endB endsL at h1
  unfold gapB gapsL
  simp only [List.contains_cons,List.contains_nil,Bool.or_false,Bool.or_eq_true,beq_iff_eq] at h1 ⊢
  rcases h1 with h | h | h | h | h
  · exact Or.inr (Or.inl h)
  · exact Or.inr (Or.inr (Or.inl h))
  · exact Or.inr (Or.inr (Or.inr (Or.inl h)))
  · exact Or.inr (Or.inr (Or.inr (Or.inr h)))
  · exact Or.inl h
theorem not_end {c:UInt8} (h:nEnd c=true):c≠35∧gapB c=false∧c≠10:=by
  have h1:endB c=false:=by unfold nEnd at h; simpa using h
  unfold endB endsL at h1
  unfold gapB gapsL
  simp only [List.contains_cons,List.contains_nil,Bool.or_false,Bool.or_eq_false_iff,beq_eq_false_iff_ne] at h1 ⊢
  exact ⟨h1.2.2.2.2,⟨h1.1,h1.2.1,h1.2.2.1,h1.2.2.2.1⟩,h1.2.2.2.1⟩
theorem wrds_word:∀ (l w:List UInt8),wrds l w false=if w ++ wrdL l=[] then wrds (rstL l) [] false else (w ++ wrdL l)::wrds (rstL l) [] false
  | [],w=>by
    have e1:wrdL []=[]:=rfl
    have e2:rstL []=[]:=rfl
    rw [e1,e2,List.append_nil]
    rfl
  | c :: l,w=>by
    cases h:nEnd c
    · have e1:wrdL (c::l)=[]:=by unfold wrdL; rw [List.takeWhile_cons,if_neg (by rw [h]; simp)]
      have e2:rstL (c::l)=c::l:=by unfold rstL; rw [List.dropWhile_cons,if_neg (by rw [h]; simp)]
      rw [e1,e2,List.append_nil]
      conv=>lhs; unfold wrds
      have e3:wrds (c::l) [] false=if c=35 then wrds l [] true else wrds l [] false:=by
        conv=>lhs; unfold wrds
        rcases end_cases h with h | h
        · rw [if_pos h,if_pos rfl,if_pos h]
        · rw [if_neg (gap_not h),if_pos (Or.inr h),if_pos rfl,if_neg (gap_not h)]; rfl
      rw [e3]
      rcases end_cases h with h | h
      · rw [if_pos h,if_pos h]
      · rw [if_neg (gap_not h),if_pos (Or.inr h),if_neg (gap_not h)]; rfl
    · obtain ⟨n1,n2,n3⟩:=not_end h
      have e1:wrdL (c::l)=c::wrdL l:=by unfold wrdL; rw [List.takeWhile_cons,if_pos h]
      have e2:rstL (c::l)=rstL l:=by unfold rstL; rw [List.dropWhile_cons,if_pos h]
      conv=>lhs; unfold wrds
      rw [if_neg n1,if_neg (by rw [n2]; simp),wrds_word l (w ++ [c]),e1,e2]
      have e4:w ++ [c] ++ wrdL l=w ++ c::wrdL l:=by simp
      rw [e4]
/-- The words of a text. -/
def wds (s:ByteArray):List (List UInt8):=wrds (bL s) [] false
def wK (ws:List (List UInt8)) (k:Nat):List UInt8:=ws.getD k []
theorem wds_word (s:ByteArray):bL (wrdS s)=wK (wds s) 0∧wds (rstS s)=(wds s).drop 1:=by
  have h:=wrds_word (bL (pasS s)) []
  rw [wrds_pas,List.nil_append] at h
  have e1:bL (wrdS s)=wrdL (bL (pasS s)):=by unfold wrdS; rw [bL_lB]
  have e2:wds (rstS s)=wrds (rstL (bL (pasS s))) [] false:=by unfold wds rstS; rw [bL_lB]
  have e3:wds s=wrds (bL s) [] false:=rfl
  by_cases hw:wrdL (bL (pasS s))=[]
  · have hp:bL (pasS s)=[]:=by
      cases hb:bL (pasS s) with
      | nil=>rfl
      | cons b l =>
        have hb1:=pas_head s b l hb
        rw [hb] at hw
        unfold wrdL at hw
        rw [List.takeWhile_cons,if_pos (by unfold nEnd; rw [hb1]; rfl)] at hw
        cases hw
    have h0:wds s=[]:=by
      rw [e3,← wrds_pas,hp]
      rfl
    rw [e1,e2,hw,h0,hp]
    exact ⟨rfl,rfl⟩
  · rw [if_neg hw] at h
    rw [e1,e2,e3,h]
    exact ⟨rfl,rfl⟩
/-- What is left behind so many words. -/
noncomputable def rq (s:ByteArray):Nat→ByteArray
  | 0=>s
  | k+1=>rstS (rq s k)
theorem rq_wds (s:ByteArray):∀ k,wds (rq s k)=(wds s).drop k
  | 0=>rfl
  | k+1=>by rw [rq,(wds_word _).2,rq_wds s k,List.drop_drop]
theorem rq_word (s:ByteArray) (k:Nat):bL (wrdS (rq s k))=wK (wds s) k:=by
  rw [(wds_word _).1,rq_wds]
  unfold wK
  simp [List.getD_eq_getElem?_getD]
theorem rq_size (s:ByteArray):∀ k,(rq s k).size≤s.size
  | 0=>Nat.le_refl _
  | k+1=>Nat.le_trans (rst_len _) (rq_size s k)
/-- The number that the k-th word tells, and what is wrong with it. -/
def nN (ws:List (List UInt8)) (k:Nat):Int:=(numP (wK ws k)).1
def nE (ws:List (List UInt8)) (k:Nat):Int:=(numP (wK ws k)).2
theorem numQ_ok:∀ (l:List UInt8) (n:Int),0≤n→0≤(numQ l n).1∧(numQ l n).1≤255
  | [],n,h=>by
    unfold numQ
    by_cases c:n > 255
    · rw [if_pos c]; exact ⟨by decide,by decide⟩
    · rw [if_neg c]; exact ⟨h,by simp only; omega⟩
  | b::l,n,h=>by
    unfold numQ
    by_cases c:(b.toNat:Int) < 48∨(b.toNat:Int) > 57
    · rw [if_pos c]; exact ⟨by decide,by decide⟩
    · rw [if_neg c]; exact numQ_ok l _ (by omega)
theorem nN_ok (ws:List (List UInt8)) (k:Nat):0≤nN ws k∧nN ws k≤255:=by
  unfold nN numP
  split
  · exact ⟨by decide,by decide⟩
  · split
    · exact ⟨by decide,by decide⟩
    · exact numQ_ok _ _ (by decide)
theorem rq_num (s:ByteArray) (k:Nat):nmN (wrdS (rq s k))=nN (wds s) k∧nmE (wrdS (rq s k))=nE (wds s) k:=by
  unfold nmN nmE nN nE
  rw [rq_word]
  exact ⟨rfl,rfl⟩
def e3 (ws:List (List UInt8)) (k:Nat):Int:=if nE ws k≠0 then nE ws k else if nE ws (k+1)≠0 then nE ws (k+1) else nE ws (k+2)
noncomputable def nbE (s:ByteArray):Int:=e3 (wds s) 0
noncomputable def nb0 (s:ByteArray):Int:=if nbE s=0 then nN (wds s) 0 else 0
noncomputable def nb1 (s:ByteArray):Int:=if nbE s=0 then nN (wds s) 1 else 0
noncomputable def nb2 (s:ByteArray):Int:=if nbE s=0 then nN (wds s) 2 else 0
noncomputable def nbRr (s:ByteArray):ByteArray:=if nE (wds s) 0≠0 then rq s 1 else if nE (wds s) 1≠0 then rq s 2 else rq s 3
theorem bne_t {a:Int} (h:a≠0):(!(a==0))=true:=by simpa using h
theorem bne_f {a:Int} (h:a=0):(!(a==0))=false:=by subst h; rfl
theorem nbs_spec (s:ByteArray) (hs:s.size < 4294967281):GSpec Tryd.prog 33 [.own 0 0] [.c [zA s]] (nbV nb0 nb1 nb2 nbE s) [.c [zA (nbRr s)]]:=by
  refine gspecG (e_cons eNum_ok e_nil) k_nil (m_cons mG1_ok m_nil) Tryd.func33 (by kernel_rfl) (by kernel_rfl) noL_okN rfl rfl ((nb_ev wrdS rstS nmN nmE s).trans ?_)
  have hw:∀ k,wG wrdS rstS (rq s k)=true:=fun k=>by
    unfold wG
    rw [propB_t (word_spec _ (Nat.lt_of_le_of_lt (rq_size s k) hs))]
    rfl
  have w0:=hw 0
  have w1:=hw 1
  have w2:=hw 2
  have n0:=rq_num s 0
  have n1:=rq_num s 1
  have n2:=rq_num s 2
  have r1:rq s 1=rstS s:=rfl
  have r2:rq s 2=rstS (rstS s):=rfl
  have r3:rq s 3=rstS (rstS (rstS s)):=rfl
  have r0:rq s 0=s:=rfl
  rw [r0] at w0 n0
  rw [r1] at w1 n1
  rw [r2] at w2 n2
  rw [w0,w1,w2,n0.1,n0.2,n1.1,n1.2,n2.1,n2.2]
  unfold nbV nb0 nb1 nb2 nbE e3 nbRr
  rw [r1,r2,r3]
  by_cases c0:nE (wds s) 0=0
  · by_cases c1:nE (wds s) 1=0
    · by_cases c2:nE (wds s) 2=0
      · rw [bne_f c0,bne_f c1,bne_f c2]
        simp only [Nat.zero_add,c0,c1,c2,ne_eq,not_true_eq_false,if_false,if_true]
        rfl
      · rw [bne_f c0,bne_f c1,bne_t c2]
        simp only [Nat.zero_add,c0,c1,c2,ne_eq,not_true_eq_false,if_false]
        rfl
    · rw [bne_f c0,bne_t c1]
      simp only [Nat.zero_add,c0,c1,ne_eq,not_true_eq_false,not_false_eq_true,if_false,if_true]
      rfl
  · rw [bne_t c0]
    simp only [c0,ne_eq,not_false_eq_true,if_false,if_true]
    rfl
end Go.Proofs.YtcdhdnfkcmjnpaaDoor.Pi

namespace Go.Proofs.YtcdhdnfkcmjnpaaDoor.Pi
open Go.Shelf Go.RowKit Go.Gv

abbrev WS:=List (List UInt8)
/-- What is wrong with a head. -/
def rdH (ws:WS):Int:=if wK ws 0=[] then 8 else if wK ws 0≠[80,51] then 11 else if e3 ws 1≠0 then e3 ws 1
  else if sidB (nN ws 1)=false∨sidB (nN ws 2)=false then 4 else if nN ws 3≠255 then 6 else 0
noncomputable def hdE (s:ByteArray):Int:=rdH (wds s)
noncomputable def hdA (s:ByteArray):Int:=if hdE s=0 then nN (wds s) 1 else 0
noncomputable def hdB (s:ByteArray):Int:=if hdE s=0 then nN (wds s) 2 else 0
noncomputable def hdQ (s:ByteArray):ByteArray:=if wK (wds s) 0=[]∨wK (wds s) 0≠[80,51] then rstS s else nbRr (rstS s)
theorem isE_eq (s:ByteArray):isE s=decide (bL s=[]):=by unfold isE; rw [sEq]; rfl
theorem isM_eq (s:ByteArray):isM s=decide (bL s=[80,51]):=by unfold isM; rw [sEq]; rfl
theorem wK_drop (ws:WS) (k j:Nat):wK (ws.drop k) j=wK ws (k+j):=by unfold wK; simp [List.getD_eq_getElem?_getD]
theorem nN_drop (ws:WS) (k j:Nat):nN (ws.drop k) j=nN ws (k+j):=by unfold nN; rw [wK_drop]
theorem nE_drop (ws:WS) (k j:Nat):nE (ws.drop k) j=nE ws (k+j):=by unfold nE; rw [wK_drop]
theorem e3_drop (ws:WS) (k j:Nat):e3 (ws.drop k) j=e3 ws (k+j):=by unfold e3; simp only [nE_drop,Nat.add_assoc]
theorem hd_spec (s:ByteArray) (hs:s.size < 4294967281):GSpec Tryd.prog 32 [.own 0 0] [.c [zA s]] (hdV hdA hdB hdE s) [.c [zA (hdQ s)]]:=by
  refine gspecG (e_cons eSid_ok e_nil) k_nil (m_cons mG1_ok <| m_cons mG1_ok m_nil) Tryd.func32 (by kernel_rfl) (by kernel_rfl) noL_okN rfl rfl ((hd_ev wrdS rstS nb0 nb1 nb2 nbE nbRr sidB s).trans ?_)
  have hw:wG wrdS rstS s=true:=by unfold wG; rw [propB_t (word_spec s hs)]; rfl
  have hn:nG nb0 nb1 nb2 nbE nbRr (rstS s)=true:=by unfold nG; rw [propB_t (nbs_spec _ (Nat.lt_of_le_of_lt (rst_len s) hs))]; rfl
  obtain ⟨g1,g2⟩:=wds_word s
  rw [hw,hn,isE_eq,isM_eq,g1]
  have key:∀ (e:Int) (q:ByteArray),rdH (wds s)=e→e≠0→hdQ s=q→hdR 0 0 e q=gout (hdV hdA hdB hdE s) [.c [zA (hdQ s)]]:=fun e q h1 h2 h3=>by
    unfold hdV hdA hdB hdE
    rw [h1,h3,if_neg h2,if_neg h2]
    rfl
  have key0:∀ (q:ByteArray),rdH (wds s)=0→hdQ s=q→hdR (nN (wds s) 1) (nN (wds s) 2) 0 q=gout (hdV hdA hdB hdE s) [.c [zA (hdQ s)]]:=fun q h1 h3=>by
    unfold hdV hdA hdB hdE
    rw [h1,h3,if_pos rfl,if_pos rfl]
    rfl
  by_cases c0:wK (wds s) 0=[]
  · rw [decide_eq_true c0]
    exact key 8 (rstS s) (by unfold rdH; rw [if_pos c0]) (by decide) (by unfold hdQ; rw [if_pos (Or.inl c0)])
  · by_cases c1:wK (wds s) 0=[80,51]
    · have q1 : nbE (rstS s)=e3 (wds s) 1:=by unfold nbE; rw [g2,e3_drop]
      have q2:nb0 (rstS s)=if e3 (wds s) 1=0 then nN (wds s) 1 else 0:=by unfold nb0; rw [q1,g2,nN_drop]
      have q3:nb1 (rstS s)=if e3 (wds s) 1=0 then nN (wds s) 2 else 0:=by unfold nb1; rw [q1,g2,nN_drop]
      have q4:nb2 (rstS s)=if e3 (wds s) 1=0 then nN (wds s) 3 else 0:=by unfold nb2; rw [q1,g2,nN_drop]
      have hq:hdQ s=nbRr (rstS s):=by
        unfold hdQ
        rw [if_neg]
        rintro (h | h)
        · exact c0 h
        · exact h c1
      rw [decide_eq_false c0,decide_eq_true c1,q1,q2,q3,q4]
      by_cases c2:e3 (wds s) 1=0
      · rw [bne_f c2,if_pos c2,if_pos c2,if_pos c2]
        have hr:rdH (wds s)=if sidB (nN (wds s) 1)=false∨sidB (nN (wds s) 2)=false then 4 else if nN (wds s) 3≠255 then 6 else 0:=by
          unfold rdH
          rw [if_neg c0,if_neg (fun h=>h c1),if_neg (fun h=>h c2)]
        cases c3:sidB (nN (wds s) 1)
        · exact key 4 _ (by rw [hr,if_pos (Or.inl c3)]) (by decide) hq
        · cases c4:sidB (nN (wds s) 2)
          · exact key 4 _ (by rw [hr,if_pos (Or.inr c4)]) (by decide) hq
          · have hno:¬ (sidB (nN (wds s) 1)=false∨sidB (nN (wds s) 2)=false):=by rw [c3,c4]; simp
            by_cases c5:nN (wds s) 3=255
            · have:(nN (wds s) 3==255)=true:=by simpa using c5
              rw [this]
              exact key0 _ (by rw [hr,if_neg hno,if_neg (fun h=>h c5)]) hq
            · have:(nN (wds s) 3==255)=false:=by simpa using c5
              rw [this]
              exact key 6 _ (by rw [hr,if_neg hno,if_pos c5]) (by decide) hq
      · rw [bne_t c2]
        exact key _ _ (by unfold rdH; rw [if_neg c0,if_neg (fun h=>h c1),if_pos c2]) c2 hq
    · rw [decide_eq_false c0,decide_eq_false c1]
      exact key 11 (rstS s) (by unfold rdH; rw [if_neg c0,if_pos c1]) (by decide) (by unfold hdQ; rw [if_pos (Or.inr c1)])
end Go.Proofs.YtcdhdnfkcmjnpaaDoor.Pi

namespace Go.Proofs.YtcdhdnfkcmjnpaaDoor.Pi
open Go.Shelf Go.RowKit Go.Gv

/-- The first fault of so many numbers of pixels. -/
def pxE (ws:WS):Nat→Int
  | 0=>0
  | m+1=>if pxE ws m≠0 then pxE ws m else nE ws (4+m)
def rdN (ws:WS):Nat:=(nN ws 1*nN ws 2).toNat
def rdG (ws:WS) (j:Nat):Int:=if j % 4=3 then 255 else nN ws (4+3*(j / 4)+j % 4)
/-- What is wrong with a text of so many bytes. -/
def rdE (sz:Nat) (ws:WS):Int:=if 80000 < sz then 4 else if rdH ws≠0 then rdH ws else if pxE ws (3*rdN ws)≠0 then pxE ws (3*rdN ws) else if wK ws (4+3*rdN ws)≠[] then 5 else 0
def rdP (sz:Nat) (ws:WS):Pic:=if rdE sz ws=0 then ⟨nN ws 1,nN ws 2,4*rdN ws,rdG ws⟩ else zP
theorem px_mono {ws:WS} {m:Nat} (h:pxE ws m≠0):∀ d,pxE ws (m+d)=pxE ws m
  | 0=>rfl
  | d+1=>by
    show (if pxE ws (m+d)≠0 then pxE ws (m+d) else nE ws (4+(m+d)))=_
    rw [px_mono h d,if_pos h]
/-- Three numbers more. -/
theorem px_three {ws:WS} {i:Nat} (h:pxE ws (3*i)=0):pxE ws (3*(i+1))=e3 ws (4+3*i):=by
  show pxE ws (3*i+3)=_
  have s1:pxE ws (3*i+1)=nE ws (4+3*i):=by
    show (if pxE ws (3*i)≠0 then _ else _)=_
    rw [if_neg (fun x=>x h)]
  have s2:pxE ws (3*i+2)=if nE ws (4+3*i)≠0 then nE ws (4+3*i) else nE ws (4+3*i+1):=by
    show (if pxE ws (3*i+1)≠0 then _ else _)=_
    rw [s1]
    rfl
  have s3:pxE ws (3*i+3)=if pxE ws (3*i+2)≠0 then pxE ws (3*i+2) else nE ws (4+3*i+2):=rfl
  rw [s3,s2]
  unfold e3
  by_cases c:nE ws (4+3*i)=0
  · simp only [c,ne_eq,not_true_eq_false,if_false]
  · simp only [c,ne_eq,not_false_eq_true,if_true]
theorem rq_rq (s:ByteArray) (k:Nat):∀ j,rq (rq s k) j=rq s (k+j)
  | 0=>rfl
  | j+1=>by rw [rq,rq_rq s k j]; rfl
theorem e3_all {ws:WS} {k:Nat} (h:e3 ws k=0):nE ws k=0∧nE ws (k+1)=0∧nE ws (k+2)=0:=by
  unfold e3 at h
  by_cases c:nE ws k=0
  · rw [if_neg (fun x=>x c)] at h
    by_cases c1:nE ws (k+1)=0
    · rw [if_neg (fun x=>x c1)] at h
      exact ⟨c,c1,h⟩
    · rw [if_pos c1] at h; exact absurd h c1
  · rw [if_pos c] at h; exact absurd h c
theorem nb_at (s:ByteArray) (k:Nat):nbE (rq s k)=e3 (wds s) k∧(e3 (wds s) k=0→nb0 (rq s k)=nN (wds s) k∧nb1 (rq s k)=nN (wds s) (k+1)∧nb2 (rq s k)=nN (wds s) (k+2)∧nbRr (rq s k)=rq s (k+3)):=by
  have h0:nbE (rq s k)=e3 (wds s) k:=by unfold nbE; rw [rq_wds,e3_drop]; rfl
  refine ⟨h0,fun h=>?_⟩
  obtain ⟨a,b,_⟩:=e3_all h
  unfold nb0 nb1 nb2 nbRr
  rw [h0,if_pos h,if_pos h,if_pos h,rq_wds,nN_drop,nN_drop,nN_drop,nE_drop,nE_drop,if_neg (fun x=>x a),if_neg (fun x=>x b),rq_rq]
  exact ⟨rfl,rfl,rfl,rfl⟩
theorem hd_rest (s:ByteArray) (h:rdH (wds s)=0):hdQ s=rq s 4∧1≤nN (wds s) 1∧nN (wds s) 1≤64∧1≤nN (wds s) 2∧nN (wds s) 2≤64:=by
  unfold rdH at h
  by_cases c0:wK (wds s) 0=[]
  · rw [if_pos c0] at h; cases h
  rw [if_neg c0] at h
  by_cases c1:wK (wds s) 0=[80,51]
  · rw [if_neg (fun x=>x c1)] at h
    by_cases c2:e3 (wds s) 1=0
    · rw [if_neg (fun x=>x c2)] at h
      by_cases c3:sidB (nN (wds s) 1)=false∨sidB (nN (wds s) 2)=false
      · rw [if_pos c3] at h; cases h
      · have sd:∀ n:Int,sidB n≠false→1≤n∧n≤64:=fun n hn=>by
          unfold sidB at hn
          by_cases d1:n ≥ 1
          · rw [decide_eq_true d1] at hn
            by_cases d2:n≤64
            · exact ⟨d1,d2⟩
            · rw [decide_eq_false d2] at hn; exact absurd rfl hn
          · rw [decide_eq_false d1] at hn; exact absurd rfl hn
        have a:=sd _ fun e=>c3 (Or.inl e)
        have b:=sd _ fun e=>c3 (Or.inr e)
        refine ⟨?_,a.1,a.2,b.1,b.2⟩
        unfold hdQ
        rw [if_neg (by rintro (x | x); exact c0 x; exact x c1)]
        have:=(nb_at s 1).2 c2
        exact this.2.2.2
    · rw [if_pos c2] at h; exact absurd h c2
  · rw [if_pos c1] at h; cases h
theorem by8_id {n:Int} (h0:0≤n) (h1:n≤255):by8 n=n:=by unfold by8; rw [IntKind.wrap_u8]; omega
theorem re_row (ws:WS) (i q:Nat) (hq:q < 4*i+4):reF (4*i) (rdG ws) (nN ws (4+3*i)) (nN ws (4+3*i+1)) (nN ws (4+3*i+2)) q=[yA (rdG ws q)]:=by
  unfold reF
  rw [by8_id (nN_ok ws _).1 (nN_ok ws _).2,by8_id (nN_ok ws _).1 (nN_ok ws _).2,by8_id (nN_ok ws _).1 (nN_ok ws _).2]
  simp only [spread,mixY]
  by_cases h0:q < 4*i
  · rw [blt_t h0]; rfl
  · have e0:Nat.blt q (4*i)=false:=by
      cases h:Nat.blt q (4*i) with
      | false=>rfl
      | true=>exact absurd (lt_of_blt h) h0
    rw [e0,cond_false]
    have bl:∀ m,m≤q→Nat.blt q m=false:=fun m hm=>by
      cases h:Nat.blt q m with
      | false=>rfl
      | true=>have:=lt_of_blt h; omega
    have g:∀ c,q=4*i+c→c < 4→rdG ws q=if c=3 then 255 else nN ws (4+3*i+c):=fun c hc hc4=>by
      unfold rdG
      have e1:q % 4=c:=by omega
      have e2:q / 4=i:=by omega
      rw [e1,e2]
    rcases (show q=4*i+0∨q=4*i+1∨q=4*i+2∨q=4*i+3 by omega) with e | e | e | e
    · rw [g 0 e (by omega),blt_t (show q < 4*i+1 by omega)]; rfl
    · rw [g 1 e (by omega),bl (4*i+1) (by omega),blt_t (show q < 4*i+1+1 by omega)]; rfl
    · rw [g 2 e (by omega),bl (4*i+1) (by omega),bl (4*i+1+1) (by omega),blt_t (show q < 4*i+1+1+1 by omega)]; rfl
    · rw [g 3 e (by omega),bl (4*i+1) (by omega),bl (4*i+1+1) (by omega),bl (4*i+1+1+1) (by omega)]; rfl
section
variable {s:ByteArray} (hs:s.size≤80000)
include hs
theorem re_nG (k:Nat):nG nb0 nb1 nb2 nbE nbRr (rq s k)=true:=by
  unfold nG
  rw [propB_t (nbs_spec _ (by have:=rq_size s k; omega))]
  rfl
theorem re_one {N i:Nat} (w h:Int) (hi:i < N) (hN:N≤4096) (he:e3 (wds s) (4+3*i)=0) :
    Leads Tryd.prog (loopAt Tryd.f13 0) (reS w h N (i:Nat) (rq s (4+3*i)) (4*i) (rdG (wds s))) .normal (reS w h N ((i+1:Nat):Int) (rq s (4+3*(i+1))) (4*(i+1)) (rdG (wds s))):=by
  have st:=re_step nb0 nb1 nb2 nbE nbRr w h N (i:Nat) (rq s (4+3*i)) (4*i) (rdG (wds s))
  obtain ⟨q0,q⟩:=nb_at s (4+3*i)
  obtain ⟨q1,q2,q3,q4⟩:=q he
  rw [dec_lt hi,re_nG hs,q0,q1,q2,q3,q4,bne_f he,w64_next (by omega),BEq.rfl,ble_t (show (4*i+4)*1≤140737488355328 by omega)] at st
  refine (leads_evM (finN_sub _ _) e_nil k_nil (m_cons mG1_ok m_nil) noL_ok st).sub (Sub.refl _) ?_
  exact sub_same ⟨Or.inl rfl,Or.inl rfl,Or.inl rfl,Or.inr ⟨5,1,4*i+4,_,_,rfl,rfl,fun q hq=>(re_row (wds s) i q hq).symm⟩,trivial⟩
theorem re_all {N:Nat} (w h:Int) (hN:N≤4096) (he:pxE (wds s) (3*N)=0) :
    Leads Tryd.prog (.loop (loopAt Tryd.f13 0)) (reS w h N 0 (rq s 4) 0 (rdG (wds s))) (.exit 0) (reS w h N N (rq s (4+3*N)) (4*N) (rdG (wds s))):=by
  refine loop_rule (fun i=>reS w h N (i:Nat) (rq s (4+3*i)) (4*i) (rdG (wds s))) N (.exit 0) _ (by simp) (fun i hi=>?_) ?_
  · refine re_one hs w h hi hN ?_
    have hz:∀ m,m≤3*N→pxE (wds s) m=0:=fun m hm=>by
      by_cases c:pxE (wds s) m=0
      · exact c
      · have:=px_mono c (3*N - m)
        rw [show m+(3*N - m)=3*N by omega,he] at this
        exact absurd this.symm c
    rw [← px_three (hz (3*i) (by omega))]
    exact hz _ (by omega)
  · refine leads_evM (finE_sub _ _) e_nil k_nil (m_cons mG1_ok m_nil) noL_ok ((re_end nb0 nb1 nb2 nbE nbRr w h N (N:Nat) (rq s (4+3*N)) (4*N) (rdG (wds s))).trans ?_)
    rw [dec_self]
    rfl
theorem re_bad {N:Nat} (w h:Int) (hN:N≤4096) (he:pxE (wds s) (3*N)≠0) :
    Leads Tryd.prog (.loop (loopAt Tryd.f13 0)) (reS w h N 0 (rq s 4) 0 (rdG (wds s))) .ret (rtS (pxE (wds s) (3*N))):=by
  obtain ⟨K,hK,h1,h2⟩:=first_of (fun i=>pxE (wds s) (3*(i+1))≠0) (N - 1) (by
    have:N≠0:=fun e=>by subst e; exact he rfl
    rw [show N - 1+1=N by omega]; exact he)
  have hN0:N≠0:=fun e=>by subst e; exact he rfl
  have hK2:K < N:=by omega
  have h3:∀ i,i≤K→pxE (wds s) (3*i)=0:=fun i hi=>by
    cases i with
    | zero=>rfl
    | succ i=>exact Decidable.not_not.1 (h2 i (by omega))
  have h4:pxE (wds s) (3*N)=e3 (wds s) (4+3*K):=by
    rw [← px_three (h3 K (Nat.le_refl _))]
    have:=px_mono h1 (3*N - 3*(K+1))
    rw [show 3*(K+1)+(3*N - 3*(K+1))=3*N by omega] at this
    exact this
  refine loop_rule (fun i=>reS w h N (i:Nat) (rq s (4+3*i)) (4*i) (rdG (wds s))) K .ret _ (by simp) (fun i hi=>?_) ?_
  · refine re_one hs w h (by omega) hN ?_
    rw [← px_three (h3 i (by omega))]
    exact h3 _ (by omega)
  · refine leads_evM (finR_sub _ _) e_nil k_nil (m_cons mG1_ok m_nil) noL_ok ((re_ret nb0 nb1 nb2 nbE nbRr w h N (K:Nat) (rq s (4+3*K)) (4*K) (rdG (wds s))).trans ?_)
    obtain ⟨q0,_⟩:=nb_at s (4+3*K)
    rw [dec_lt hK2,re_nG hs,q0,← h4,bne_t he]
    rfl
end
end Go.Proofs.YtcdhdnfkcmjnpaaDoor.Pi

namespace Go.Proofs.YtcdhdnfkcmjnpaaDoor.Pi
open Go.Shelf Go.RowKit Go.Gv

/-- Where no new row was made. -/
noncomputable def finS (n:Nat) (keep:List Nat) (τ:List (Option Nat)):Kont:=fun e s=>cond (Nat.beq s.mem.length n) (finN keep τ e s) none
theorem finS_sub (n:Nat) (keep:List Nat) (τ:List (Option Nat)):KSub (finS n keep τ):=fun e s r h=>by
  unfold finS at h
  cases hb:Nat.beq s.mem.length n
  · rw [hb] at h; cases h
  · rw [hb] at h; exact finN_sub keep τ e s r h
section
variable (s:ByteArray) (n:Nat) (el:Nat→List AV) (w:ByteArray) (o:Bool) (i:Int)
end
end Go.Proofs.YtcdhdnfkcmjnpaaDoor.Pi

namespace Go.Proofs.YtcdhdnfkcmjnpaaDoor.Pi
open Go.Shelf Go.RowKit Go.Gv

theorem re_ev0 (na nb nc ne:ByteArray→Int) (nr wf rf:ByteArray→ByteArray) (ha hb he:ByteArray→Int) (hr:ByteArray→ByteArray) (s:ByteArray):evM Tryd.prog [] [] (reM na nb nc ne nr wf rf ha hb he hr) (oneL 8 fun _ _=>none) Tryd.f13 [zA s] ret =
    cond (decide ((s.size:Int) > 80000)) (reV P0 4) (cond (hG ha hb he hr s||false) (cond (!(he s==0)) (reV P0 (he s)) none) none):=by kernel_rfl
noncomputable def rM:List MEntry:=reM nb0 nb1 nb2 nbE nbRr wrdS rstS hdA hdB hdE hdQ
theorem rM_ok:∀ e,e ∈ rM→MEOk Tryd.prog e:=m_cons mG1_ok <| m_cons mG1_ok <| m_cons mG1_ok m_nil
theorem rd_bad {f:Nat} {args:List AV} {z:Nat} {ws:WS} {e:Int} (he:rdE z ws=e) (h0:e≠0) (h:FSpec Tryd.prog f args (.tup [.agg picZ,iA e])):FSpec Tryd.prog f args (pOut (rdP z ws) (rdE z ws)):=by
  have:rdP z ws=zP:=by unfold rdP; rw [if_neg (by rw [he]; exact h0)]
  rw [this,he]
  exact pspec_bad h
theorem rdN_eq {s:ByteArray} (h:rdH (wds s)=0):((rdN (wds s):Nat):Int)=nN (wds s) 1*nN (wds s) 2∧rdN (wds s)≤4096:=by
  obtain ⟨_,a,b,c,d⟩:=hd_rest s h
  have hM:=mulB (x:=nN (wds s) 1) (y:=nN (wds s) 2) (X:=64) (Y:=64) (by omega) b (by omega) d
  unfold rdN
  omega
theorem read_spec (s:ByteArray):FSpec Tryd.prog 13 [zA s] (pOut (rdP s.size (wds s)) (rdE s.size (wds s))):=by
  have base:∀ (e:Int),evM Tryd.prog [] [] rM (oneL 8 fun _ _=>none) Tryd.f13 [zA s] ret=reV P0 e→FSpec Tryd.prog 13 [zA s] (.tup [.agg picZ,iA e]):=fun e h =>
    gspecM e_nil k_nil rM_ok Tryd.func13 (by kernel_rfl) (by kernel_rfl) (lok_none 8) rfl h
  by_cases c0:80000 < s.size
  · refine rd_bad (e:=4) (by unfold rdE; rw [if_pos c0]) (by decide) (base 4 ((re_ev0 _ _ _ _ _ _ _ _ _ _ _ s).trans ?_))
    rw [decide_eq_true (show (s.size:Int) > 80000 by omega)]
    rfl
  have hs:s.size < 4294967281:=by omega
  have hs':s.size≤80000:=by omega
  have hh:hG hdA hdB hdE hdQ s=true:=by unfold hG; rw [propB_t (hd_spec s hs)]; rfl
  have hc:decide ((s.size:Int) > 80000)=false:=decide_eq_false (by omega)
  by_cases c1:rdH (wds s)=0
  · obtain ⟨q1,a1,a2,b1,b2⟩:=hd_rest s c1
    obtain ⟨hN,hN2⟩:=rdN_eq c1
    have hA:hdA s=nN (wds s) 1:=by unfold hdA hdE; rw [if_pos c1]
    have hB:hdB s=nN (wds s) 2:=by unfold hdB hdE; rw [if_pos c1]
    have hE:hdE s=0:=c1
    have hw:w64 (nN (wds s) 1*nN (wds s) 2)=(rdN (wds s):Int):=by rw [← hN]; exact w64_id (by omega) (by omega)
    by_cases c2:pxE (wds s) (3*rdN (wds s))=0
    · have hL:=lok_hd (c:=bodyOf Tryd.f13) (i:=8) 0 (by kernel_rfl) (by kernel_rfl) (toldC_sound (keep:=keepRe) (r0:=2) (nils:=[(2,3,1)]) (nr:=.a 5 1 0 fun q=>[yA (rdG (wds s) q)]) (τ:=[some 0,some 1,some 2,none]) (re_all hs' (nN (wds s) 1) (nN (wds s) 2) hN2 c2))
      have st:=re_evA nb0 nb1 nb2 nbE nbRr wrdS rstS hdA hdB hdE hdQ (nN (wds s) 1) (nN (wds s) 2) (rdN (wds s)) s (rq s 4) (rq s (4+3*rdN (wds s))) (4*rdN (wds s)) (rdG (wds s))
      have hW:wG wrdS rstS (rq s (4+3*rdN (wds s)))=true:=by unfold wG; rw [propB_t (word_spec _ (Nat.lt_of_le_of_lt (rq_size s _) hs))]; rfl
      rw [hc,hh,hA,hB,hE,hw,q1,gate_pos (Sub.refl _),hW,isE_eq,rq_word] at st
      by_cases c3:wK (wds s) (4+3*rdN (wds s))=[]
      · have hz:rdE s.size (wds s)=0:=by
          unfold rdE
          rw [if_neg c0,if_neg (fun x=>x c1),if_neg (fun x=>x c2),if_neg (fun x=>x c3)]
        unfold rdP
        rw [hz,if_pos rfl]
        refine gspecM e_nil k_nil rM_ok Tryd.func13 (by kernel_rfl) (by kernel_rfl) hL rfl (Eq.trans st ?_)
        rw [decide_eq_true c3]
        have e5:(fun j=>[yA (rdG (wds s) (0+j))])=fun j=>[yA (rdG (wds s) j)]:=funext fun j=>by rw [Nat.zero_add]
        rw [e5]
        rfl
      · refine rd_bad (e:=5) (by unfold rdE; rw [if_neg c0,if_neg (fun x=>x c1),if_neg (fun x=>x c2),if_pos c3]) (by decide) (gspecM e_nil k_nil rM_ok Tryd.func13 (by kernel_rfl) (by kernel_rfl) hL rfl (Eq.trans st ?_))
        rw [decide_eq_false c3]
        rfl
    · have hL:=lok_hd (c:=bodyOf Tryd.f13) (i:=8) 0 (by kernel_rfl) (by kernel_rfl) (toldC_sound (keep:=keepRe) (r0:=2) (nils:=[(2,3,1)]) (nr:=.a 5 1 0 fun q=>[yA (rdG (wds s) q)]) (τ:=[some 0,some 1,some 2,none]) (re_bad hs' (nN (wds s) 1) (nN (wds s) 2) hN2 c2))
      have st:=re_evB nb0 nb1 nb2 nbE nbRr wrdS rstS hdA hdB hdE hdQ (nN (wds s) 1) (nN (wds s) 2) (rdN (wds s)) s (rq s 4) (pxE (wds s) (3*rdN (wds s))) (rdG (wds s))
      rw [hc,hh,hA,hB,hE,hw,q1,gate_pos (Sub.refl _)] at st
      exact rd_bad (by unfold rdE; rw [if_neg c0,if_neg (fun x=>x c1),if_pos c2]) c2 (gspecM e_nil k_nil rM_ok Tryd.func13 (by kernel_rfl) (by kernel_rfl) hL rfl st)
  · refine rd_bad (by unfold rdE; rw [if_neg c0,if_pos c1]) c1 (base (rdH (wds s)) ((re_ev0 _ _ _ _ _ _ _ _ _ _ _ s).trans ?_))
    rw [hc,hh]
    have hE:hdE s=rdH (wds s):=rfl
    rw [hE,bne_t c1]
    rfl
end Go.Proofs.YtcdhdnfkcmjnpaaDoor.Pi

namespace Go.Proofs.YtcdhdnfkcmjnpaaDoor.Pi
open Go.Shelf Go.RowKit Go.Gv

def hA (m:Nat) (h:Nat→ByteArray):AV:=.sl 1 m fun q=>[zA (h q)]
section
variable (m:Nat) (h:Nat→ByteArray) (k n i:Int)
end
section
variable {m:Nat} {h:Nat→ByteArray} {k:Nat}
end
end Go.Proofs.YtcdhdnfkcmjnpaaDoor.Pi

namespace Go.Proofs.YtcdhdnfkcmjnpaaDoor.Pi
open Go.Shelf Go.RowKit Go.Gv

def ap8 (m:Nat):Bool:=(m==m)&&Nat.ble ((m+1)*1) 140737488355328
section
variable (sN sE:Int→Int) (m:Nat) (h:Nat→ByteArray) (W H k:Int) (n:Nat) (el:Nat→List AV)
end
section
variable (sN sE:Int→Int) (m:Nat) (h:Nat→ByteArray) (s:ByteArray)
end
end Go.Proofs.YtcdhdnfkcmjnpaaDoor.Pi

namespace Go.Proofs.YtcdhdnfkcmjnpaaDoor.Pi
open Go.Shelf Go.RowKit Go.Gv

section
end
end Go.Proofs.YtcdhdnfkcmjnpaaDoor.Pi

namespace Go.Proofs.YtcdhdnfkcmjnpaaDoor.Pi
open Go.Shelf Go.RowKit Go.Gv

noncomputable def eqI (n:Nat) (g:Nat→Int) (m:Nat) (h:Nat→Int):Bool:=(strF n g).toList==(strF m h).toList
theorem eq_ev (n m:Nat) (g h:Nat→Int):ev Tryd.prog [] [] noL Tryd.f31 [sB n g,sB m h] ret=cond (allB n (fun _=>true)||false) (cond (allB m (fun _=>true)||false) (some (Out.of (bA ((strF n g).toList==(strF m h).toList)))) none) none:=by kernel_rfl
abbrev EF4:Type:=Nat→(Nat→List AV)→Nat→(Nat→List AV)→Bool
def eqG (ef:EF4):List AV→AV
  | [.sl _ n el,.sl _ m el']=>bA (ef n el m el')
  | _=>.any
def u8O:List AV→Int
  | [.x (.int .u8 b)]=>b
  | _=>0
theorem push_all:∀ (l:List Int) (acc:ByteArray),(l.foldl (fun r n=>r.push (UInt8.ofNat n.toNat)) acc).data.toList=acc.data.toList ++ l.map fun n=>UInt8.ofNat n.toNat
  | [],acc=>by simp
  | x::l,acc=>by
    rw [List.foldl_cons,push_all l]
    simp [ByteArray.push]
theorem strF_data (n:Nat) (g:Nat→Int):(strF n g).toList=(List.range n).map fun i=>UInt8.ofNat (g i).toNat:=by
  rw [ByteArray.toList_eq,strF_eq]
  unfold strR
  rw [push_all,List.map_map]
  rfl
theorem u8_inj {a b:Int} (a0:0≤a) (a1:a≤255) (b0:0≤b) (b1:b≤255) (h:UInt8.ofNat a.toNat=UInt8.ofNat b.toNat):a=b:=by
  have:=congrArg UInt8.toNat h
  rw [UInt8.toNat_ofNat',UInt8.toNat_ofNat'] at this
  omega
/-- Bytes alone. -/
def By (n:Nat) (g:Nat→Int):Prop:=∀ i,i < n→0≤g i∧g i≤255
theorem eqI_iff {n m:Nat} {g h:Nat→Int} (hg:By n g) (hh:By m h):eqI n g m h=true ↔ n=m∧∀ i,i < n→g i=h i:=by
  unfold eqI
  rw [strF_data,strF_data,beq_iff_eq]
  constructor
  · intro e
    have hl:=congrArg List.length e
    simp only [List.length_map,List.length_range] at hl
    subst hl
    refine ⟨rfl,fun k hk=>?_⟩
    have:=congrArg (fun l:List UInt8=>l[k]?) e
    simp only [List.getElem?_map,List.getElem?_range hk,Option.map_some,Option.some.injEq] at this
    exact u8_inj (hg k hk).1 (hg k hk).2 (hh k hk).1 (hh k hk).2 this
  · rintro ⟨rfl,he⟩
    exact List.map_congr_left fun i hi=>by rw [he i (List.mem_range.1 hi)]
noncomputable def eqE:EF4:=fun n el m el'=>eqI n (fun i=>u8O (el i)) m fun i=>u8O (el' i)
theorem eq_spec (n m:Nat) (g h:Nat→Int):FSpec Tryd.prog 31 [sB n g,sB m h] (bA (eqI n g m h)):=by
  refine gspec e_nil k_nil Tryd.func31 (by kernel_rfl) (by kernel_rfl) noL_ok rfl ((eq_ev n m g h).trans ?_)
  rw [allB_true fun _ _=>rfl,allB_true fun _ _=>rfl]
  rfl
noncomputable def kEq:KEntry:=kS Tryd.prog 31 (eqG eqE)
theorem kEq_ok:KOk Tryd.prog kEq:=kS_ok (P:=Tryd.prog) (f:=31) (g:=eqG eqE)
def lE (l:List Int):Nat→List AV:=fun q=>[yA (l.getD q 0)]
def lA (l:List Int):AV:=.sl 1 l.length (lE l)
theorem lE_app (l r:List Int) (q:Nat):lE (l ++ r) q=[yA (cond (Nat.blt q l.length) (l.getD q 0) (r.getD (q - l.length) 0))]:=by
  unfold lE
  cases h:Nat.blt q l.length
  · have:=not_blt h
    rw [cond_false,List.getD_eq_getElem?_getD,List.getD_eq_getElem?_getD,List.getElem?_append_right this]
  · have:=lt_of_blt h
    rw [cond_true,List.getD_eq_getElem?_getD,List.getD_eq_getElem?_getD,List.getElem?_append_left this]
def like (g:Nat→Int) (a b:Nat):Bool:=(g (4*a)==g (4*b))&&((g (4*a+1)==g (4*b+1))&&((g (4*a+2)==g (4*b+2))&&(g (4*a+3)==g (4*b+3))))
theorem like_iff {g:Nat→Int} {a b:Nat}:like g a b=true ↔ ∀ i,i < 4→g (4*a+i)=g (4*b+i):=by
  unfold like
  simp only [Bool.and_eq_true,beq_iff_eq]
  constructor
  · rintro ⟨h0,h1,h2,h3⟩ i hi
    rcases (show i=0∨i=1∨i=2∨i=3 by omega) with rfl | rfl | rfl | rfl
    · exact h0
    · exact h1
    · exact h2
    · exact h3
  · intro h
    exact ⟨h 0 (by omega),h 1 (by omega),h 2 (by omega),h 3 (by omega)⟩
def rnStop (N:Nat) (g:Nat→Int) (a K:Nat):Prop:=128≤K∨N≤a+K∨like g a (a+K)=false
theorem rn_ex (N:Nat) (g:Nat→Int) (a:Nat):∃ K,rnStop N g a (K+1)∧∀ k,k < K→¬ rnStop N g a (k+1):=by
  obtain ⟨K,_,h1,h2⟩:=first_of (fun k=>rnStop N g a (k+1)) 127 (Or.inl (by omega))
  exact ⟨K,h1,h2⟩
noncomputable def rn (N:Nat) (g:Nat→Int) (a:Nat):Nat:=Classical.choose (rn_ex N g a)+1
theorem rn_pos (N:Nat) (g:Nat→Int) (a:Nat):1≤rn N g a:=by unfold rn; omega
theorem rn_stop (N:Nat) (g:Nat→Int) (a:Nat):rnStop N g a (rn N g a):=(Classical.choose_spec (rn_ex N g a)).1
theorem rn_go (N:Nat) (g:Nat→Int) (a:Nat) {k:Nat} (h1:1≤k) (h2:k < rn N g a):¬ rnStop N g a k:=by
  have:=(Classical.choose_spec (rn_ex N g a)).2 (k - 1) (by unfold rn at h2; omega)
  rw [show k - 1+1=k by omega] at this
  exact this
theorem rn_uniq {N:Nat} {g:Nat→Int} {a K:Nat} (h1:1≤K) (hs:rnStop N g a K) (hg:∀ k,1≤k→k < K→¬ rnStop N g a k):rn N g a=K:=by
  rcases Nat.lt_trichotomy (rn N g a) K with h | h | h
  · exact absurd (rn_stop N g a) (hg _ (rn_pos N g a) h)
  · exact h
  · exact absurd hs (rn_go N g a h1 h)
theorem rn_le (N:Nat) (g:Nat→Int) (a:Nat):rn N g a≤128:=by
  by_cases h:rn N g a≤128
  · exact h
  · exact absurd (Or.inl (by omega)) (rn_go N g a (k:=128) (by omega) (by omega))
theorem rn_in {N:Nat} {g:Nat→Int} {a:Nat} (h:a < N):a+rn N g a≤N:=by
  by_cases hc:a+rn N g a≤N
  · exact hc
  · have:=rn_pos N g a
    exact absurd (Or.inr (Or.inl (by omega))) (rn_go N g a (k:=N - a) (by omega) (by omega))
theorem rn_like {N:Nat} {g:Nat→Int} {a k:Nat} (h:k < rn N g a):like g a (a+k)=true:=by
  by_cases hk:k=0
  · subst hk; exact like_iff.2 fun _ _=>rfl
  · cases hl:like g a (a+k)
    · exact absurd (Or.inr (Or.inr hl)) (rn_go N g a (k:=k) (by omega) h)
    · rfl
theorem rn_shift {N:Nat} {g:Nat→Int} {c:Nat} (hc:c≤N) (a:Nat):rn (N - c) (fun i=>g (4*c+i)) a=rn N g (c+a):=by
  have hl:∀ k,like (fun i=>g (4*c+i)) a (a+k)=like g (c+a) (c+a+k):=fun k=>by
    unfold like
    simp only [Nat.mul_add,Nat.add_assoc]
  refine rn_uniq (rn_pos _ _ _) ?_ fun k h1 h2 hs=>rn_go N g (c+a) h1 h2 ?_
  · rcases rn_stop N g (c+a) with h | h | h
    · exact Or.inl h
    · exact Or.inr (Or.inl (by omega))
    · exact Or.inr (Or.inr (by rw [hl]; exact h))
  · rcases hs with h | h | h
    · exact Or.inl h
    · exact Or.inr (Or.inl (by omega))
    · exact Or.inr (Or.inr (by rw [← hl]; exact h))
def snStop (N:Nat) (g:Nat→Int) (a K:Nat):Prop:=128≤K∨N≤a+K∨rn N g (a+K)≠1
theorem sn_ex (N:Nat) (g:Nat→Int) (a:Nat):∃ K,snStop N g a K∧∀ k,k < K→¬ snStop N g a k:=by
  obtain ⟨K,_,h1,h2⟩:=first_of (fun k=>snStop N g a k) 128 (Or.inl (by omega))
  exact ⟨K,h1,h2⟩
noncomputable def sn (N:Nat) (g:Nat→Int) (a:Nat):Nat:=Classical.choose (sn_ex N g a)
theorem sn_stop (N:Nat) (g:Nat→Int) (a:Nat):snStop N g a (sn N g a):=(Classical.choose_spec (sn_ex N g a)).1
theorem sn_go (N:Nat) (g:Nat→Int) (a:Nat) {k:Nat} (h:k < sn N g a):¬ snStop N g a k:=(Classical.choose_spec (sn_ex N g a)).2 k h
theorem sn_uniq {N:Nat} {g:Nat→Int} {a K:Nat} (hs:snStop N g a K) (hg:∀ k,k < K→¬ snStop N g a k):sn N g a=K:=by
  rcases Nat.lt_trichotomy (sn N g a) K with h | h | h
  · exact absurd (sn_stop N g a) (hg _ h)
  · exact h
  · exact absurd hs (sn_go N g a h)
theorem sn_le (N:Nat) (g:Nat→Int) (a:Nat):sn N g a≤128:=by
  by_cases h:sn N g a≤128
  · exact h
  · exact absurd (Or.inl (by omega)) (sn_go N g a (k:=128) (by omega))
theorem sn_in {N:Nat} {g:Nat→Int} {a:Nat} (h:a≤N):a+sn N g a≤N:=by
  by_cases hc:a+sn N g a≤N
  · exact hc
  · exact absurd (Or.inr (Or.inl (by omega))) (sn_go N g a (k:=N - a) (by omega))
theorem sn_pos {N:Nat} {g:Nat→Int} {a:Nat} (h:a < N) (h1:rn N g a=1):1≤sn N g a:=by
  by_cases hc:1≤sn N g a
  · exact hc
  · have h0:sn N g a=0:=by omega
    have hs:=sn_stop N g a
    rw [h0] at hs
    rcases hs with h' | h' | h'
    · omega
    · omega
    · exact absurd h1 h'
theorem sn_shift {N:Nat} {g:Nat→Int} {c:Nat} (hc:c≤N) (a:Nat):sn (N - c) (fun i=>g (4*c+i)) a=sn N g (c+a):=by
  have hl:∀ k,rn (N - c) (fun i=>g (4*c+i)) (a+k)=rn N g (c+a+k):=fun k=>by rw [rn_shift hc,Nat.add_assoc]
  refine sn_uniq ?_ fun k h2 hs=>sn_go N g (c+a) h2 ?_
  · rcases sn_stop N g (c+a) with h | h | h
    · exact Or.inl h
    · exact Or.inr (Or.inl (by omega))
    · exact Or.inr (Or.inr (by rw [hl]; exact h))
  · rcases hs with h | h | h
    · exact Or.inl h
    · exact Or.inr (Or.inl (by omega))
    · exact Or.inr (Or.inr (by rw [← hl]; exact h))
def px (g:Nat→Int) (a k:Nat):List Int:=(List.range (4*k)).map fun i=>g (4*a+i)
theorem px_len (g:Nat→Int) (a k:Nat):(px g a k).length=4*k:=by simp [px]
theorem px_get (g:Nat→Int) (a k i:Nat) (h:i < 4*k):(px g a k).getD i 0=g (4*a+i):=by
  unfold px
  rw [List.getD_eq_getElem?_getD,List.getElem?_map,List.getElem?_range h]
  rfl
noncomputable def pk (N:Nat) (g:Nat→Int):Nat→Nat→List Int
  | 0,_=>[]
  | f+1,a=>if N≤a then [] else if 1 < rn N g a then (127+(rn N g a:Int))::(px g a 1 ++ pk N g f (a+rn N g a)) else ((sn N g a:Int) - 1)::(px g a (sn N g a) ++ pk N g f (a+sn N g a))
theorem rn_one {N:Nat} {g:Nat→Int} {a:Nat} (h:¬ 1 < rn N g a):rn N g a=1:=by have:=rn_pos N g a; omega
theorem pk_more (N:Nat) (g:Nat→Int):∀ f f' a,N - a≤f→N - a≤f'→pk N g f a=pk N g f' a
  | 0,0,_,_,_=>rfl
  | 0,f'+1,a,h,_=>by unfold pk; rw [if_pos (by omega)]
  | f+1,0,a,_,h=>by unfold pk; rw [if_pos (by omega)]
  | f + 1,f'+1,a,h,h'=>by
    unfold pk
    by_cases h0:N≤a
    · rw [if_pos h0,if_pos h0]
    · rw [if_neg h0,if_neg h0]
      by_cases h1:1 < rn N g a
      · rw [if_pos h1,if_pos h1,pk_more N g f f' (a+rn N g a) (by omega) (by omega)]
      · have:=sn_pos (show a < N by omega) (rn_one h1)
        rw [if_neg h1,if_neg h1,pk_more N g f f' (a+sn N g a) (by omega) (by omega)]
/-- The pieces from a pixel on. -/
noncomputable def pkA (N:Nat) (g:Nat→Int) (a:Nat):List Int:=pk N g (N - a) a
theorem pkA_end {N:Nat} {g:Nat→Int} {a:Nat} (h:N≤a):pkA N g a=[]:=by
  unfold pkA
  rw [show N - a=0 by omega]
  rfl
theorem pkA_run {N:Nat} {g:Nat→Int} {a:Nat} (h:a < N) (h1:1 < rn N g a):pkA N g a=(127+(rn N g a:Int))::(px g a 1 ++ pkA N g (a+rn N g a)):=by
  unfold pkA
  obtain ⟨f,hf⟩:∃ f,N - a=f+1:=⟨N - a - 1,by omega⟩
  rw [hf]
  conv=>lhs; unfold pk
  rw [if_neg (by omega),if_pos h1,pk_more N g f (N - (a+rn N g a)) (a+rn N g a) (by omega) (by omega)]
theorem pkA_one {N:Nat} {g:Nat→Int} {a:Nat} (h:a < N) (h1:rn N g a=1):pkA N g a=((sn N g a:Int) - 1)::(px g a (sn N g a) ++ pkA N g (a+sn N g a)):=by
  unfold pkA
  obtain ⟨f,hf⟩:∃ f,N - a=f+1:=⟨N - a - 1,by omega⟩
  have:=sn_pos h h1
  rw [hf]
  conv=>lhs; unfold pk
  rw [if_neg (by omega),if_neg (by omega),pk_more N g f (N - (a+sn N g a)) (a+sn N g a) (by omega) (by omega)]
end Go.Proofs.YtcdhdnfkcmjnpaaDoor.Pi

namespace Go.Proofs.YtcdhdnfkcmjnpaaDoor.Pi
open Go.Shelf Go.RowKit Go.Gv

section
variable (ef:EF4) (n:Nat) (g:Nat→Int) (k:Int)
def ilF:Int:=w64 (4*k)
def ilB:Bool:=decide (ilF k < (n:Int))
def ilX:Bool:=ef (sbN none (some 4) n) (fun i=>[yA (g (sbL none+i))]) (sbN (some (ilF k)) (some (w64 (ilF k+4))) n) fun i=>[yA (g (sbL (some (ilF k))+i))]
theorem il_ev:ev Tryd.prog [] [kS Tryd.prog 31 (eqG ef)] noL Tryd.f52 [sB n g,iA k] ret =
    gate (FSpec Tryd.prog 31 [.sl 1 (sbN none (some 4) n) (fun i=>[yA (g (sbL none+i))]),.sl 1 (sbN (some (ilF k)) (some (w64 (ilF k+4))) n) fun i=>[yA (g (sbL (some (ilF k))+i))]] (bA (ilX ef n g k)))
      (cond ((sbB none (some 4) none n||!(decide (ilB n k=true)&&true))&&((sbB (some (ilF k)) (some (w64 (ilF k+4))) none n||!(decide (ilB n k=true)&&true))&&true)) (some (Out.of (bA (cond (ilB n k) (ilX ef n g k) false)))) none):=by kernel_rfl
end
theorem sbB_mid {n:Nat} {a b:Int} (h0:0≤a) (h1:a≤b) (h2:b≤n):sbB (some a) (some b) none n=true:=by
  unfold sbB
  simp only [Option.getD_none,Option.getD_some]
  rw [decide_eq_true h0,decide_eq_true h1,decide_eq_true h2,decide_eq_true (Int.le_refl _)]
  rfl
theorem il_spec {N:Nat} {g:Nat→Int} (hN:N≤1000000) (hg:By (4*N) g) {k:Nat} (hk:k≤1000000):FSpec Tryd.prog 52 [sB (4*N) g,iA (k:Nat)] (bA (decide (k < N)&&like g 0 k)):=by
  have hF:ilF (k:Nat)=((4*k:Nat):Int):=by unfold ilF; rw [w64_id (by omega) (by omega)]; omega
  have hF4:w64 (((4*k:Nat):Int)+4)=((4*k+4:Nat):Int):=by rw [w64_id (by omega) (by omega)]; omega
  have hB:ilB (4*N) (k:Nat)=decide (k < N):=by
    unfold ilB
    rw [hF]
    by_cases h:k < N
    · rw [decide_eq_true h]; exact decide_eq_true (by omega)
    · rw [decide_eq_false h]; exact decide_eq_false (by omega)
  refine gspec e_nil (k_cons kEq_ok k_nil) Tryd.func52 (by kernel_rfl) (by kernel_rfl) noL_ok rfl ((il_ev eqE (4*N) g (k:Nat)).trans ?_)
  have hq:FSpec Tryd.prog 31 [.sl 1 (sbN none (some 4) (4*N)) (fun i=>[yA (g (sbL none+i))]),.sl 1 (sbN (some (ilF (k:Nat))) (some (w64 (ilF (k:Nat)+4))) (4*N)) fun i=>[yA (g (sbL (some (ilF (k:Nat)))+i))]] (bA (ilX eqE (4*N) g (k:Nat))):=eq_spec _ _ (fun i=>g (sbL none+i)) fun i=>g (sbL (some (ilF (k:Nat)))+i)
  rw [gate_pos hq,hB]
  by_cases h:k < N
  · rw [decide_eq_true h,hF,hF4,sbB_hi (by omega) (by omega),sbB_mid (by omega) (by omega) (by omega)]
    have e1:sbN none (some 4) (4*N)=4:=by unfold sbN; simp only [Option.getD_some,Option.getD_none]; omega
    have e2:sbN (some ((4*k:Nat):Int)) (some ((4*k+4:Nat):Int)) (4*N)=4:=by unfold sbN; simp only [Option.getD_some]; omega
    have e3:sbL (some ((4*k:Nat):Int))=4*k:=by unfold sbL; simp only [Option.getD_some]; omega
    have e4:sbL none=0:=rfl
    have hx : ilX eqE (4*N) g (k:Nat)=like g 0 k:=by
      unfold ilX
      rw [hF,hF4,e1,e2,e3,e4]
      show eqI 4 (fun i=>g (0+i)) 4 (fun i=>g (4*k+i))=_
      have hiff:=eqI_iff (n:=4) (m:=4) (g:=fun i=>g (0+i)) (h:=fun i=>g (4*k+i)) (fun i hi=>hg (0+i) (by omega)) (fun i hi=>hg (4*k+i) (by omega))
      cases hl:like g 0 k
      · cases he:eqI 4 (fun i=>g (0+i)) 4 (fun i=>g (4*k+i))
        · rfl
        · have:like g 0 k=true:=like_iff.2 fun i hi=>by
            have:=(hiff.1 he).2 i hi
            simpa using this
          rw [hl] at this; cases this
      · exact hiff.2 ⟨rfl,fun i hi=>by have:=like_iff.1 hl i hi; simpa using this⟩
    rw [hx]
    rfl
  · rw [decide_eq_false h]
    have e0:∀ b:Bool,(b||!(decide (false=true)&&true))=true:=fun b=>by cases b<;>rfl
    rw [e0,e0]
    rfl
def ruS (n:Nat) (g:Nat→Int) (k:Int):St:=mkS 14 [(0,sB n g),(3,iA k)] []
def lfG (lf:Int→Bool):List AV→AV
  | [_,.x (.int .i64 k)]=>bA (lf k)
  | _=>.any
section
variable (lf:Int→Bool) (n:Nat) (g:Nat→Int) (k:Int)
noncomputable def ruT (y z:Option Out):Option Out:=gate (FSpec Tryd.prog 52 [sB n g,iA k] (bA (lf k))) (cond (cond (decide (k < 128)) (lf k) false) y z)
theorem ru_step:evC Tryd.prog [] [kS Tryd.prog 52 (lfG lf)] noL (loopAt Tryd.f39 0) (ruS n g k) (finN [0,3] [])=ruT lf n g k (some ⟨.normal,ruS n g (w64 (k+1)),.any⟩) none:=by kernel_rfl
theorem ru_end:evC Tryd.prog [] [kS Tryd.prog 52 (lfG lf)] noL (loopAt Tryd.f39 0) (ruS n g k) (finE [0,3] [])=ruT lf n g k none (some ⟨.exit 0,ruS n g k,.any⟩):=by kernel_rfl
theorem ru_ev:ev Tryd.prog [] [⟨52,fun _ _=>none⟩] (oneL 2 (toldF [0,3] [] (ruS n g 1) (.exit 0) (ruS n g k))) Tryd.f39 [sB n g] ret=gate (Sub (ruS n g 1) (ruS n g 1)) (some (Out.of (iA k))):=by kernel_rfl
end
def lfN (N:Nat) (g:Nat→Int) (k:Int):Bool:=decide (k.toNat < N)&&like g 0 k.toNat
theorem ruT_eq {N:Nat} {g:Nat→Int} (hN:N≤1000000) (hg:By (4*N) g) {k:Nat} (hk:k≤1000000) (y z:Option Out):(¬ rnStop N g 0 k→ruT (lfN N g) (4*N) g (k:Nat) y z=y)∧(rnStop N g 0 k→ruT (lfN N g) (4*N) g (k:Nat) y z=z):=by
  have e:lfN N g (k:Nat)=(decide (k < N)&&like g 0 k):=by unfold lfN; rw [Int.toNat_natCast]
  have hs:FSpec Tryd.prog 52 [sB (4*N) g,iA (k:Nat)] (bA (lfN N g (k:Nat))):=by rw [e]; exact il_spec hN hg hk
  unfold ruT
  rw [gate_pos hs,e]
  unfold rnStop
  rw [Nat.zero_add]
  constructor
  · intro h
    have h1:k < 128:=by omega
    have h2:k < N:=by omega
    have h3:like g 0 k=true:=by
      cases hl:like g 0 k
      · exact absurd (Or.inr (Or.inr hl)) h
      · rfl
    rw [decide_eq_true (show (k:Int) < 128 by omega),decide_eq_true h2,h3]
    rfl
  · intro h
    by_cases h1:k < 128
    · rw [decide_eq_true (show (k:Int) < 128 by omega)]
      rcases h with h | h | h
      · omega
      · rw [decide_eq_false (show ¬ k < N by omega)]; rfl
      · rw [h,Bool.and_false]; rfl
    · rw [decide_eq_false (show ¬ ((k:Int) < 128) by omega)]; rfl
theorem run_spec {N:Nat} {g:Nat→Int} (hN:N≤1000000) (hg:By (4*N) g):FSpec Tryd.prog 39 [sB (4*N) g] (iA (rn N g 0)):=by
  have h1:=rn_pos N g 0
  have h2:=rn_le N g 0
  have key:Leads Tryd.prog (.loop (loopAt Tryd.f39 0)) (ruS (4*N) g 1) (.exit 0) (ruS (4*N) g (rn N g 0:Nat)):=by
    refine loop_rule (fun j=>ruS (4*N) g ((j+1:Nat):Int)) (rn N g 0 - 1) (.exit 0) _ (by simp) (fun j hj=>?_) ?_
    · have st:=ru_step (lfN N g) (4*N) g ((j+1:Nat):Int)
      rw [(ruT_eq hN hg (by omega) _ _).1 (rn_go N g 0 (by omega) (by omega)),w64_next (by omega)] at st
      exact leads_ev (finN_sub _ _) e_nil (k_cons kS_ok k_nil) noL_ok st
    · rw [show rn N g 0 - 1+1=rn N g 0 by omega]
      have st:=ru_end (lfN N g) (4*N) g (rn N g 0:Nat)
      rw [(ruT_eq hN hg (by omega) _ _).2 (rn_stop N g 0)] at st
      exact leads_ev (finE_sub _ _) e_nil (k_cons kS_ok k_nil) noL_ok st
  refine gspec e_nil (k_cons (kno_ok _) k_nil) Tryd.func39 (by kernel_rfl) (by kernel_rfl) (lok_hd (c:=bodyOf Tryd.f39) (i:=2) 0 (by kernel_rfl) (by kernel_rfl) (toldF_sound (keep:=[0,3]) (τ:=[]) key)) rfl ((ru_ev (4*N) g (rn N g 0:Nat)).trans ?_)
  rw [gate_pos (Sub.refl _)]
def siS (n:Nat) (g:Nat→Int) (c:Int):St:=mkS 21 [(0,sB n g),(3,iA c)] []
abbrev RF:Type:=Nat→(Nat→List AV)→Int
def rnG (rf:RF):List AV→AV
  | [.sl _ n el]=>iA (rf n el)
  | _=>.any
section
variable (rf:RF) (n:Nat) (g:Nat→Int) (c:Int)
noncomputable def siT (y z:Option Out):Option Out:=gate (FSpec Tryd.prog 39 [sB n g] (iA (rf n fun i=>[yA (g i)]))) (cond (cond (cond (decide (c < 128)) (decide ((n:Int) > 0)) false) (rf n (fun i=>[yA (g i)])==1) false) (cond (sbB (some 4) none none n||false) y none) z)
theorem si_step:evC Tryd.prog [] [kS Tryd.prog 39 (rnG rf)] noL (loopAt Tryd.f40 0) (siS n g c) (finN [0,3] [])=siT rf n g c (some ⟨.normal,siS (sbN (some 4) none n) (fun i=>g (sbL (some 4)+i)) (w64 (c+1)),.any⟩) none:=by kernel_rfl
theorem si_end:evC Tryd.prog [] [kS Tryd.prog 39 (rnG rf)] noL (loopAt Tryd.f40 0) (siS n g c) (finE [0,3] [])=siT rf n g c none (some ⟨.exit 0,siS n g c,.any⟩):=by kernel_rfl
theorem si_ev (n':Nat) (g':Nat→Int):ev Tryd.prog [] [⟨39,fun _ _=>none⟩] (oneL 2 (toldF [0,3] [] (siS n g 0) (.exit 0) (siS n' g' c))) Tryd.f40 [sB n g] ret=gate (Sub (siS n g 0) (siS n g 0)) (some (Out.of (iA c))):=by kernel_rfl
end
noncomputable def rfE:RF:=fun n el=>(rn (n / 4) (fun i=>u8O (el i)) 0:Nat)
def shf (g:Nat→Int) (c:Nat):Nat→Int:=fun i=>g (4*c+i)
theorem shf_by {N:Nat} {g:Nat→Int} (hg:By (4*N) g) (c:Nat):By (4*(N - c)) (shf g c):=fun i hi=>hg (4*c+i) (by omega)
theorem shf_zero (g:Nat→Int):shf g 0=g:=funext fun i=>by unfold shf; rw [Nat.mul_zero,Nat.zero_add]
theorem siT_eq {N:Nat} {g:Nat→Int} (hN:N≤1000000) (hg:By (4*N) g) {c:Nat} (hc:c≤N) (y z:Option Out):(¬ snStop N g 0 c→siT rfE (4*(N - c)) (shf g c) (c:Nat) y z=y)∧(snStop N g 0 c→siT rfE (4*(N - c)) (shf g c) (c:Nat) y z=z):=by
  have e:rfE (4*(N - c)) (fun i=>[yA (shf g c i)])=(rn N g c:Nat):=by
    unfold rfE
    rw [show 4*(N - c) / 4=N - c by omega]
    have:=rn_shift (g:=g) hc 0
    rw [Nat.add_zero] at this
    rw [← this]
    rfl
  have hs:FSpec Tryd.prog 39 [sB (4*(N - c)) (shf g c)] (iA (rfE (4*(N - c)) fun i=>[yA (shf g c i)])):=by
    have h1:=run_spec (N:=N - c) (g:=shf g c) (by omega) (shf_by hg c)
    have h2:=rn_shift (g:=g) hc 0
    rw [Nat.add_zero] at h2
    have h3:rn (N - c) (shf g c) 0=rn N g c:=h2
    rw [h3] at h1
    rw [e]
    exact h1
  unfold siT
  rw [gate_pos hs,e]
  unfold snStop
  rw [Nat.zero_add]
  constructor
  · intro h
    have h1:c < 128:=by omega
    have h2:c < N:=by omega
    have h3:rn N g c=1:=by omega
    rw [decide_eq_true (show (c:Int) < 128 by omega),decide_eq_true (show ((4*(N - c):Nat):Int) > 0 by omega),h3,sbB_lo (by omega) (by omega)]
    rfl
  · intro h
    by_cases h1:c < 128
    · rw [decide_eq_true (show (c:Int) < 128 by omega)]
      by_cases h2:c < N
      · have h3:rn N g c≠1:=by omega
        have h4:(((rn N g c:Nat):Int)==1)=false:=beq_eq_false_iff_ne.2 (by omega)
        rw [h4]
        cases decide (((4*(N - c):Nat):Int) > 0)<;>rfl
      · rw [decide_eq_false (show ¬ (((4*(N - c):Nat):Int) > 0) by omega)]; rfl
    · rw [decide_eq_false (show ¬ ((c:Int) < 128) by omega)]; rfl
theorem singles_spec {N:Nat} {g:Nat→Int} (hN:N≤1000000) (hg:By (4*N) g):FSpec Tryd.prog 40 [sB (4*N) g] (iA (sn N g 0)):=by
  have h2:=sn_le N g 0
  have h3:=sn_in (g:=g) (Nat.zero_le N)
  have key:Leads Tryd.prog (.loop (loopAt Tryd.f40 0)) (siS (4*N) g 0) (.exit 0) (siS (4*(N - sn N g 0)) (shf g (sn N g 0)) (sn N g 0:Nat)):=by
    have k0:siS (4*N) g 0=siS (4*(N - 0)) (shf g 0) ((0:Nat):Int):=by rw [shf_zero]; rfl
    rw [k0]
    refine loop_rule (fun j=>siS (4*(N - j)) (shf g j) (j:Nat)) (sn N g 0) (.exit 0) _ (by simp) (fun j hj=>?_) ?_
    · have st:=si_step rfE (4*(N - j)) (shf g j) (j:Nat)
      have e1:sbN (some 4) none (4*(N - j))=4*(N - (j+1)):=by unfold sbN; simp only [Option.getD_some,Option.getD_none]; omega
      have e2:(fun i=>shf g j (sbL (some 4)+i))=shf g (j+1):=funext fun i=>by
        unfold shf
        have:sbL (some 4)=4:=rfl
        rw [this,show 4*j+(4+i)=4*(j+1)+i by omega]
      rw [e1,e2,w64_next (by omega)] at st
      rw [(siT_eq hN hg (by omega) _ _).1 (sn_go N g 0 hj)] at st
      exact leads_ev (finN_sub _ _) e_nil (k_cons kS_ok k_nil) noL_ok st
    · have st:=si_end rfE (4*(N - sn N g 0)) (shf g (sn N g 0)) (sn N g 0:Nat)
      rw [(siT_eq hN hg (by omega) _ _).2 (sn_stop N g 0)] at st
      exact leads_ev (finE_sub _ _) e_nil (k_cons kS_ok k_nil) noL_ok st
  refine gspec e_nil (k_cons (kno_ok _) k_nil) Tryd.func40 (by kernel_rfl) (by kernel_rfl) (lok_hd (c:=bodyOf Tryd.f40) (i:=2) 0 (by kernel_rfl) (by kernel_rfl) (toldF_sound (keep:=[0,3]) (τ:=[]) key)) rfl ((si_ev (4*N) g (sn N g 0:Nat) _ _).trans ?_)
  rw [gate_pos (Sub.refl _)]
def cs (g:Nat→Int):Nat→Int × Int
  | 0=>(1,0)
  | i+1=>(((cs g i).1+g i) % 251,((cs g i).2+((cs g i).1+g i) % 251) % 251)
theorem cs_rng (g:Nat→Int):∀ n,0≤(cs g n).1∧(cs g n).1≤250∧0≤(cs g n).2∧(cs g n).2≤250
  | 0=>by simp [cs]
  | n+1=>by simp only [cs]; omega
def ckS (n:Nat) (g:Nat→Int) (s t i:Int):St:=mkS 28 [(4,iA s),(5,iA t),(8,sB n g),(9,iA n),(10,iA i)] []
def keepCk:List Nat:=[4,5,8,9,10]
section
variable (n:Nat) (g:Nat→Int) (s t i:Int)
def ckA:Int:=(w64 (s+IntKind.i64.wrap (g i.toNat))).tmod 251
def ckT (y z:Option Out):Option Out:=cond (decide (i < (n:Int))) (cond (ixB i n||false) y none) z
theorem ck_step:evC Tryd.prog [] [] noL (loopAt Tryd.f41 0) (ckS n g s t i) (finN keepCk [])=ckT n i (some ⟨.normal,ckS n g (ckA g s i) ((w64 (t+ckA g s i)).tmod 251) (w64 (i+1)),.any⟩) none:=by kernel_rfl
theorem ck_end:evC Tryd.prog [] [] noL (loopAt Tryd.f41 0) (ckS n g s t i) (finE keepCk [])=ckT n i none (some ⟨.exit 0,ckS n g s t i,.any⟩):=by kernel_rfl
theorem ck_ev:ev Tryd.prog [] [] (oneL 3 (toldF keepCk [] (ckS n g 1 0 0) (.exit 0) (ckS n g s t i))) Tryd.f41 [sB n g] ret=gate (Sub (ckS n g 1 0 0) (ckS n g 1 0 0)) (some (Out.of (.tup [yA (by8 s),yA (by8 t)]))):=by kernel_rfl
end
theorem tmod_pos {a:Int} (h:0≤a):a.tmod 251=a % 251:=Int.tmod_eq_emod_of_nonneg h
theorem ck_one {g:Nat→Int} {k:Nat} (hg:0≤g k∧g k≤255):ckA g (cs g k).1 (k:Nat)=(cs g (k+1)).1∧(w64 ((cs g k).2+ckA g (cs g k).1 (k:Nat))).tmod 251=(cs g (k+1)).2:=by
  obtain ⟨a,b,c,d⟩:=cs_rng g k
  have e1:IntKind.i64.wrap (g k)=g k:=w64_id (by omega) (by omega)
  have h1:ckA g (cs g k).1 (k:Nat)=((cs g k).1+g k) % 251:=by
    unfold ckA
    rw [Int.toNat_natCast,e1,w64_id (by omega) (by omega),tmod_pos (by omega)]
  refine ⟨h1,?_⟩
  rw [h1,w64_id (by omega) (by omega),tmod_pos (by omega)]
  rfl
theorem check_spec {n:Nat} {g:Nat→Int} (hn:n≤1000000000) (hg:By n g):FSpec Tryd.prog 41 [sB n g] (.tup [yA (cs g n).1,yA (cs g n).2]):=by
  have key:Leads Tryd.prog (.loop (loopAt Tryd.f41 0)) (ckS n g 1 0 0) (.exit 0) (ckS n g (cs g n).1 (cs g n).2 (n:Nat)):=by
    refine loop_rule (fun k=>ckS n g (cs g k).1 (cs g k).2 (k:Nat)) n (.exit 0) _ (by simp) (fun k hk=>?_) ?_
    · have st:=ck_step n g (cs g k).1 (cs g k).2 (k:Nat)
      obtain ⟨e1,e2⟩:=ck_one (hg k hk)
      unfold ckT at st
      rw [e2,e1,dec_lt hk,ixB_t hk,w64_next (by omega)] at st
      exact leads_ev (finN_sub _ _) e_nil k_nil noL_ok st
    · have st:=ck_end n g (cs g n).1 (cs g n).2 (n:Nat)
      unfold ckT at st
      rw [dec_self] at st
      exact leads_ev (finE_sub _ _) e_nil k_nil noL_ok st
  obtain ⟨a,b,c,d⟩:=cs_rng g n
  refine gspec e_nil k_nil Tryd.func41 (by kernel_rfl) (by kernel_rfl) (lok_hd (c:=bodyOf Tryd.f41) (i:=3) 0 (by kernel_rfl) (by kernel_rfl) (toldF_sound (keep:=keepCk) (τ:=[]) key)) rfl ((ck_ev n g (cs g n).1 (cs g n).2 (n:Nat)).trans ?_)
  rw [gate_pos (Sub.refl _),by8_id a (by omega),by8_id c (by omega)]
end Go.Proofs.YtcdhdnfkcmjnpaaDoor.Pi

namespace Go.Proofs.YtcdhdnfkcmjnpaaDoor.Pi
open Go.Shelf Go.RowKit Go.Gv

def full (t len:Nat):MEntry:=⟨fullK t len,fun _ _ _=>none,none⟩
theorem full_ok {P:Program} (t len:Nat):MEOk P (full t len):=⟨⟨fun _ _ _ _ h=>(by cases h),fun _ _ _ _ _ _ h=>(by cases h)⟩,fun _ h=>(by cases h)⟩
def pqS (m:Nat) (el:Nat→List AV) (n:Nat) (g:Nat→Int):St:=mkS 65 [(3,.osl 0 1 0 m),(4,sB n g)] [.a 5 1 m el]
def keepPq:List Nat:=[3,4]
/-- Append of a row that is not ours. -/
def apF (c k:Nat):Bool:=(c==c)&&(Nat.blt 0 k&&(allB k (fun _=>true)&&Nat.ble ((c+k)*1) 140737488355328))
section
variable (rf sf:RF) (m:Nat) (el:Nat→List AV) (n:Nat) (g:Nat→Int)
noncomputable def pqK:List KEntry:=[kS Tryd.prog 39 (rnG rf),kS Tryd.prog 40 (rnG sf)]
theorem pqK_ok:∀ e,e ∈ pqK rf sf→KOk Tryd.prog e:=k_cons (kS_ok (P:=Tryd.prog) (f:=39) (g:=rnG rf)) (k_cons (kS_ok (P:=Tryd.prog) (f:=40) (g:=rnG sf)) k_nil)
/-- A piece more: its first byte, where its pixels end, where the next begins. -/
def pqN (v h s:Int):St:=mkS 65 [(3,.osl 0 1 0 (m+1+sbN none (some h) n)),(4,sB (sbN (some s) none n) fun i=>g (sbL (some s)+i))] [.a 5 1 (m+1+sbN none (some h) n) fun q=>mixL (Nat.blt q (m+1)) (mixL (Nat.blt q m) (el q) [yA (by8 v)]) [yA (g (sbL none+(q - (m+1))))]]
def pqB (h s:Int) (y:Option Out):Option Out:=cond (ap8 m||false) (cond (sbB none (some h) none n||false) (cond (apF (m+1) (sbN none (some h) n)||false) (cond (sbB (some s) none none n||false) y none) none) none) none
def pqR:Int:=rf n fun i=>[yA (g i)]
noncomputable def pqT (y1 y2 z:Option Out):Option Out:=cond (decide ((n:Int) > 0)) (gate (FSpec Tryd.prog 39 [sB n g] (iA (pqR rf n g))) (cond (decide (pqR rf n g > 1)) (pqB m n 4 (w64 (4*pqR rf n g)) y1)
  (gate (FSpec Tryd.prog 40 [sB n g] (iA (pqR sf n g))) (pqB m n (w64 (4*pqR sf n g)) (w64 (4*pqR sf n g)) y2)))) z
theorem pq_step:evCM Tryd.prog [] (pqK rf sf) [] noL (loopAt Tryd.f19 0) (pqS m el n g) (finN keepPq [some 3]) =
    pqT rf sf m n g (some ⟨.normal,pqN m el n g (w64 (127+pqR rf n g)) 4 (w64 (4*pqR rf n g)),.any⟩) (some ⟨.normal,pqN m el n g (w64 (pqR sf n g - 1)) (w64 (4*pqR sf n g)) (w64 (4*pqR sf n g)),.any⟩) none:=by kernel_rfl
theorem pq_end:evCM Tryd.prog [] (pqK rf sf) [] noL (loopAt Tryd.f19 0) (pqS m el n g) (finE keepPq [some 0])=pqT rf sf m n g none none (some ⟨.exit 0,pqS m el n g,.any⟩):=by kernel_rfl
end
end Go.Proofs.YtcdhdnfkcmjnpaaDoor.Pi

namespace Go.Proofs.YtcdhdnfkcmjnpaaDoor.Pi
open Go.Shelf Go.RowKit Go.Gv

def Runs (c:Code) (s:St) (e:Exit) (sf:St):Prop:=∃ (S:Nat→St) (n:Nat),S 0=s∧(∀ j,j < n→Leads Tryd.prog c (S j) .normal (S (j+1)))∧Leads Tryd.prog c (S n) e sf
theorem Runs.last {c:Code} {s sf:St} {e:Exit} (h:Leads Tryd.prog c s e sf):Runs c s e sf:=⟨fun _=>s,0,rfl,fun j hj=>absurd hj (Nat.not_lt_zero j),h⟩
theorem Runs.cons {c:Code} {s s1 sf:St} {e:Exit} (h:Leads Tryd.prog c s .normal s1) (g:Runs c s1 e sf):Runs c s e sf:=by
  obtain ⟨S,n,h0,h1,h2⟩:=g
  refine ⟨fun j=>match j with | 0=>s | j+1=>S j,n+1,rfl,fun j hj=>?_,h2⟩
  cases j with
  | zero=>rw [← h0] at h; exact h
  | succ j=>exact h1 j (by omega)
theorem Runs.loop {c:Code} {s sf:St} {e:Exit} (he:e≠.normal) (h:Runs c s e sf):Leads Tryd.prog (.loop c) s e sf:=by
  obtain ⟨S,n,h0,h1,h2⟩:=h
  rw [← h0]
  exact loop_rule S n e sf he h1 h2
/-- Bytes alone. -/
def Bts (l:List Int):Prop:=∀ v,v ∈ l→0≤v∧v≤255
theorem Bts.app {l r:List Int} (h:Bts l) (h':Bts r):Bts (l ++ r):=fun v hv=>by
  rcases List.mem_append.1 hv with hv | hv
  · exact h v hv
  · exact h' v hv
theorem Bts.cons {v:Int} {l:List Int} (h:0≤v∧v≤255) (h':Bts l):Bts (v::l):=fun u hu=>by
  rcases List.mem_cons.1 hu with rfl | hu
  · exact h
  · exact h' u hu
theorem Bts.nil:Bts []:=fun v hv=>by cases hv
def gl (l:List Int):Nat→Int:=fun i=>l.getD i 0
theorem Bts.by {l:List Int} (h:Bts l):By l.length (gl l):=fun i hi=>by
  unfold gl
  rw [List.getD_eq_getElem?_getD,List.getElem?_eq_getElem hi]
  exact h _ (List.getElem_mem _)
theorem px_bts {N:Nat} {g:Nat→Int} (hg:By (4*N) g) {a k:Nat} (h:a+k≤N):Bts (px g a k):=fun v hv=>by
  obtain ⟨i,hi,rfl⟩:=List.mem_map.1 hv
  have:=List.mem_range.1 hi
  exact hg _ (by omega)
theorem pkA_bts {N:Nat} {g:Nat→Int} (hg:By (4*N) g):∀ (m a:Nat),N - a≤m→Bts (pkA N g a)
  | 0,a,h=>by rw [pkA_end (by omega)]; exact Bts.nil
  | m + 1,a,h=>by
    by_cases ha:a < N
    · by_cases h1:1 < rn N g a
      · have:=rn_le N g a
        have:=rn_in (g:=g) ha
        rw [pkA_run ha h1]
        exact Bts.cons (by omega) ((px_bts hg (by omega)).app (pkA_bts hg m _ (by omega)))
      · have h2:=sn_pos ha (rn_one h1)
        have:=sn_le N g a
        have:=sn_in (N:=N) (g:=g) (a:=a) (by omega)
        rw [pkA_one ha (rn_one h1)]
        exact Bts.cons (by omega) ((px_bts hg (by omega)).app (pkA_bts hg m _ (by omega)))
    · rw [pkA_end (by omega)]; exact Bts.nil
/-- How long pieces are, at most. -/
theorem pkA_len (N:Nat) (g:Nat→Int):∀ (m a:Nat),N - a≤m→(pkA N g a).length≤5*(N - a)
  | 0,a,h=>by rw [pkA_end (by omega)]; simp
  | m + 1,a,h=>by
    by_cases ha:a < N
    · by_cases h1:1 < rn N g a
      · have:=rn_in (g:=g) ha
        have ih:=pkA_len N g m (a+rn N g a) (by omega)
        rw [pkA_run ha h1]
        simp only [List.length_cons,List.length_append,px_len]
        omega
      · have h2:=sn_pos ha (rn_one h1)
        have:=sn_in (N:=N) (g:=g) (a:=a) (by omega)
        have ih:=pkA_len N g m (a+sn N g a) (by omega)
        rw [pkA_one ha (rn_one h1)]
        simp only [List.length_cons,List.length_append,px_len]
        omega
    · rw [pkA_end (by omega)]; simp
theorem row_app (X:List Int) (v:Int) (k:Nat) (f:Nat→Int) {q:Nat} (hq:q < X.length+1+k):lE (X ++ v::(List.range k).map f) q=mixL (Nat.blt q (X.length+1)) (mixL (Nat.blt q X.length) (lE X q) [yA v]) [yA (f (q - (X.length+1)))]:=by
  have e1:mixL (Nat.blt q X.length) (lE X q) [yA v]=[yA (cond (Nat.blt q X.length) (X.getD q 0) v)]:=mixY _ _ _
  rw [e1,mixY,lE_app]
  congr 2
  cases h0:Nat.blt q X.length
  · have h0':=not_blt h0
    rw [cond_false,cond_false]
    cases h1:Nat.blt q (X.length+1)
    · have h1':=not_blt h1
      rw [cond_false,List.getD_eq_getElem?_getD,show q - X.length=(q - (X.length+1))+1 by omega,List.getElem?_cons_succ,List.getElem?_map,List.getElem?_range (by omega)]
      rfl
    · have h1':=lt_of_blt h1
      rw [cond_true,show q - X.length=0 by omega]
      rfl
  · have h0':=lt_of_blt h0
    rw [blt_t (show q < X.length+1 by omega)]
    rfl
theorem apF_t {c k:Nat} (h0:0 < k) (h:c+k≤1000000):apF c k=true:=by
  unfold apF
  rw [BEq.rfl,blt_t h0,allB_true fun _ _=>rfl,ble_t (show (c+k)*1≤140737488355328 by omega)]
  rfl
theorem ap8_t {m:Nat} (h:m≤1000000):ap8 m=true:=by unfold ap8; rw [BEq.rfl,ble_t (by omega)]; rfl
noncomputable def sfE:RF:=fun n el=>(sn (n / 4) (fun i=>u8O (el i)) 0:Nat)
section
variable {N:Nat} {g:Nat→Int} (hN:N≤10000) (hg:By (4*N) g)
include hN hg
theorem pq_run {a:Nat} (ha:a < N):pqR rfE (4*(N - a)) (shf g a)=(rn N g a:Nat)∧FSpec Tryd.prog 39 [sB (4*(N - a)) (shf g a)] (iA (pqR rfE (4*(N - a)) (shf g a))):=by
  have h2:=rn_shift (g:=g) (show a≤N by omega) 0
  rw [Nat.add_zero] at h2
  have h3:rn (N - a) (shf g a) 0=rn N g a:=h2
  have e:pqR rfE (4*(N - a)) (shf g a)=(rn N g a:Nat):=by
    unfold pqR rfE
    rw [show 4*(N - a) / 4=N - a by omega,← h3]
    rfl
  refine ⟨e,?_⟩
  have h1:=run_spec (N:=N - a) (g:=shf g a) (by omega) (shf_by hg a)
  rw [h3] at h1
  rw [e]
  exact h1
theorem pq_one {a:Nat} (ha:a < N):pqR sfE (4*(N - a)) (shf g a)=(sn N g a:Nat)∧FSpec Tryd.prog 40 [sB (4*(N - a)) (shf g a)] (iA (pqR sfE (4*(N - a)) (shf g a))):=by
  have h2:=sn_shift (g:=g) (show a≤N by omega) 0
  rw [Nat.add_zero] at h2
  have h3:sn (N - a) (shf g a) 0=sn N g a:=h2
  have e:pqR sfE (4*(N - a)) (shf g a)=(sn N g a:Nat):=by
    unfold pqR sfE
    rw [show 4*(N - a) / 4=N - a by omega,← h3]
    rfl
  refine ⟨e,?_⟩
  have h1:=singles_spec (N:=N - a) (g:=shf g a) (by omega) (shf_by hg a)
  rw [h3] at h1
  rw [e]
  exact h1
omit hg in
/-- A piece more. -/
theorem pq_piece {X:List Int} {a k d:Nat} {v:Int} (hX:X.length≤100000) (hv:0≤v∧v≤255) (hk:0 < k) (hkd:a+k≤N) (hd:a+d≤N) :
    Sub (pqN X.length (lE X) (4*(N - a)) (shf g a) v ((4*k:Nat):Int) ((4*d:Nat):Int)) (pqS (X ++ v::px g a k).length (lE (X ++ v::px g a k)) (4*(N - (a+d))) (shf g (a+d)))∧∀ y,pqB X.length (4*(N - a)) ((4*k:Nat):Int) ((4*d:Nat):Int) y=y:=by
  have e1:sbN none (some ((4*k:Nat):Int)) (4*(N - a))=4*k:=by unfold sbN; simp only [Option.getD_some,Option.getD_none]; omega
  have e2:sbN (some ((4*d:Nat):Int)) none (4*(N - a))=4*(N - (a+d)):=by unfold sbN; simp only [Option.getD_some,Option.getD_none]; omega
  have e3:(fun i=>shf g a (sbL (some ((4*d:Nat):Int))+i))=shf g (a+d):=funext fun i=>by
    unfold shf sbL
    simp only [Option.getD_some,Int.toNat_natCast]
    rw [show 4*a+(4*d+i)=4*(a+d)+i by omega]
  have el:(X ++ v::px g a k).length=X.length+1+4*k:=by simp only [List.length_append,List.length_cons,px_len]; omega
  constructor
  · unfold pqN
    rw [e1,e2,e3,el,by8_id hv.1 hv.2]
    refine sub_same ⟨Or.inr ⟨5,1,X.length+1+4*k,_,_,rfl,rfl,fun q hq=>?_⟩,trivial⟩
    rw [show px g a k=(List.range (4*k)).map (fun i=>shf g a (sbL none+i)) from by
      unfold px shf
      have:sbL none=0:=rfl
      simp only [this,Nat.zero_add]]
    exact row_app X v (4*k) (fun i=>shf g a (sbL none+i)) hq
  · intro y
    unfold pqB
    rw [ap8_t (by omega),sbB_hi (by omega) (by omega),e1,apF_t (by omega) (by omega),sbB_lo (by omega) (by omega)]
    rfl
theorem pq_runs:∀ (m a:Nat) (X:List Int),N - a≤m→a≤N→X.length+5*(N - a)≤100000→Runs (loopAt Tryd.f19 0) (pqS X.length (lE X) (4*(N - a)) (shf g a)) (.exit 0) (pqS (X ++ pkA N g a).length (lE (X ++ pkA N g a)) 0 (shf g N))
  | m, a, X,hm,ha,hX=>by
    by_cases hlt:a < N
    · have hpos:decide (((4*(N - a):Nat):Int) > 0)=true:=decide_eq_true (by omega)
      obtain ⟨r1,r2⟩:=pq_run hN hg hlt
      cases m with
      | zero=>omega
      | succ m =>
        by_cases h1:1 < rn N g a
        · have hle:=rn_le N g a
          have hin:=rn_in (g:=g) hlt
          obtain ⟨s1,s2⟩:=pq_piece hN (g:=g) (X:=X) (a:=a) (k:=1) (d:=rn N g a) (v:=127+(rn N g a:Int)) (by omega) (by omega) (by omega) (by omega) hin
          have st:=pq_step rfE sfE X.length (lE X) (4*(N - a)) (shf g a)
          have w1:w64 (127+(rn N g a:Int))=127+(rn N g a:Int):=w64_id (by omega) (by omega)
          have w2:w64 (4*(rn N g a:Int))=((4*rn N g a:Nat):Int):=by rw [w64_id (by omega) (by omega)]; omega
          have s2':∀ y,pqB X.length (4*(N - a)) 4 ((4*rn N g a:Nat):Int) y=y:=s2
          unfold pqT at st
          rw [hpos,gate_pos r2,r1,decide_eq_true (show ((rn N g a:Nat):Int) > 1 by omega),w1,w2,s2'] at st
          refine Runs.cons ((leads_evM (finN_sub _ _) e_nil (pqK_ok _ _) m_nil noL_ok st).sub (Sub.refl _) s1) ?_
          have ih:=pq_runs m (a+rn N g a) (X ++ (127+(rn N g a:Int))::px g a 1) (by omega) hin (by simp only [List.length_append,List.length_cons,px_len]; omega)
          rw [pkA_run hlt h1]
          have el:X ++ (127+(rn N g a:Int))::(px g a 1 ++ pkA N g (a+rn N g a))=X ++ (127+(rn N g a:Int))::px g a 1 ++ pkA N g (a+rn N g a):=by simp
          rw [el]
          exact ih
        · have h2:=sn_pos hlt (rn_one h1)
          have hle:=sn_le N g a
          have hin:=sn_in (N:=N) (g:=g) (a:=a) (by omega)
          obtain ⟨q1,q2⟩:=pq_one hN hg hlt
          obtain ⟨s1,s2⟩:=pq_piece hN (g:=g) (X:=X) (a:=a) (k:=sn N g a) (d:=sn N g a) (v:=(sn N g a:Int) - 1) (by omega) (by omega) (by omega) hin hin
          have st:=pq_step rfE sfE X.length (lE X) (4*(N - a)) (shf g a)
          have w1:w64 ((sn N g a:Int) - 1)=(sn N g a:Int) - 1:=w64_id (by omega) (by omega)
          have w2:w64 (4*(sn N g a:Int))=((4*sn N g a:Nat):Int):=by rw [w64_id (by omega) (by omega)]; omega
          unfold pqT at st
          rw [hpos,gate_pos r2,r1,decide_eq_false (show ¬ (((rn N g a:Nat):Int) > 1) by omega),gate_pos q2,q1,w1,w2,s2] at st
          refine Runs.cons ((leads_evM (finN_sub _ _) e_nil (pqK_ok _ _) m_nil noL_ok st).sub (Sub.refl _) s1) ?_
          have ih:=pq_runs m (a+sn N g a) (X ++ ((sn N g a:Int) - 1)::px g a (sn N g a)) (by omega) hin (by simp only [List.length_append,List.length_cons,px_len]; omega)
          rw [pkA_one hlt (rn_one h1)]
          have el:X ++ ((sn N g a:Int) - 1)::(px g a (sn N g a) ++ pkA N g (a+sn N g a))=X ++ ((sn N g a:Int) - 1)::px g a (sn N g a) ++ pkA N g (a+sn N g a):=by simp
          rw [el]
          exact ih
    · have e:a=N:=by omega
      subst e
      rw [pkA_end (Nat.le_refl _),List.append_nil,Nat.sub_self,Nat.mul_zero]
      have st:=pq_end rfE sfE X.length (lE X) 0 (shf g a)
      unfold pqT at st
      exact Runs.last (leads_evM (finE_sub _ _) e_nil (pqK_ok _ _) m_nil noL_ok st)
end
def hdRow (W H:Int):Nat→List AV:=fun q=>mixL (Nat.blt q 4) (chunk [yA 82,yA 72,yA 80,yA 49] 1 q) (spread 4 [[yA (by8 W)],[yA (by8 H)]] q)
theorem pq_ev (W H:Int) (n n' m:Nat) (g g' h:Nat→Int) (a b:Int) (s0:St):evM Tryd.prog [] [kS Tryd.prog 41 (fun _=>.tup [yA a,yA b])] [full 22 4] (oneL 3 (toldF keepPq [some 3] s0 (.exit 0) (pqS m (fun q=>[yA (h q)]) n' g'))) Tryd.f19 [.agg [iA W,iA H,sB n g]] ret =
    gate (Sub (pqS 6 (hdRow W H) n g) s0) (cond (Nat.ble (0+m) m&&true) (gate (FSpec Tryd.prog 41 [.sl 1 m fun i=>[yA (h (0+i))]] (.tup [yA a,yA b])) (cond (((m==m)&&Nat.ble ((m+2)*1) 140737488355328)||false)
      (some (Out.of (.sl 1 (m+2) fun i=>[yA (cond (Nat.blt (0+i) m) (h (0+i)) (cond (Nat.blt (0+i) (m+1)) a b))]))) none)) none):=by kernel_rfl
/-- A packed picture. -/
noncomputable def pkX (W H:Int) (N:Nat) (g:Nat→Int):List Int:=[82,72,80,49,W,H] ++ pkA N g 0
noncomputable def pkL (W H:Int) (N:Nat) (g:Nat→Int):List Int:=pkX W H N g ++ [(cs (gl (pkX W H N g)) (pkX W H N g).length).1,(cs (gl (pkX W H N g)) (pkX W H N g).length).2]
theorem packed_spec {W H:Int} {N:Nat} {g:Nat→Int} (hW:0≤W∧W≤255) (hH:0≤H∧H≤255) (hN:N≤10000) (hg:By (4*N) g):FSpec Tryd.prog 19 [.agg [iA W,iA H,sB (4*N) g]] (lA (pkL W H N g)):=by
  have key:=Runs.loop (by simp) (pq_runs hN hg N 0 [82,72,80,49,W,H] (by omega) (by omega) (by simp; omega))
  rw [Nat.sub_zero,shf_zero] at key
  have hb:Bts (pkX W H N g):=by
    refine Bts.app ?_ (pkA_bts hg N 0 (by omega))
    exact Bts.cons (by decide) <| Bts.cons (by decide) <| Bts.cons (by decide) <| Bts.cons (by decide) <| Bts.cons hW <| Bts.cons hH Bts.nil
  have hlen:(pkX W H N g).length≤100000:=by
    have:=pkA_len N g N 0 (by omega)
    unfold pkX
    simp only [List.length_append,List.length_cons,List.length_nil]
    omega
  have hck:=check_spec (n:=(pkX W H N g).length) (g:=gl (pkX W H N g)) (by omega) hb.by
  have key':Leads Tryd.prog (.loop (loopAt Tryd.f19 0)) (pqS 6 (lE [82,72,80,49,W,H]) (4*N) g) (.exit 0) (pqS (pkX W H N g).length (fun q=>[yA (gl (pkX W H N g) q)]) 0 (shf g N)):=key
  have st:=pq_ev W H (4*N) 0 (pkX W H N g).length g (shf g N) (gl (pkX W H N g)) (cs (gl (pkX W H N g)) (pkX W H N g).length).1 (cs (gl (pkX W H N g)) (pkX W H N g).length).2 (pqS 6 (lE [82,72,80,49,W,H]) (4*N) g)
  have hS:Sub (pqS 6 (hdRow W H) (4*N) g) (pqS 6 (lE [82,72,80,49,W,H]) (4*N) g):=by
    refine sub_same ⟨Or.inr ⟨5,1,6,_,_,rfl,rfl,fun q hq=>?_⟩,trivial⟩
    unfold hdRow
    rw [by8_id hW.1 hW.2,by8_id hH.1 hH.2]
    rcases (show q=0∨q=1∨q=2∨q=3∨q=4∨q=5 by omega) with rfl | rfl | rfl | rfl | rfl | rfl<;>rfl
  have e0:(fun i=>[yA (gl (pkX W H N g) (0+i))])=fun i=>[yA (gl (pkX W H N g) i)]:=funext fun i=>by rw [Nat.zero_add]
  have hck':FSpec Tryd.prog 41 [.sl 1 (pkX W H N g).length fun i=>[yA (gl (pkX W H N g) (0+i))]] (.tup [yA (cs (gl (pkX W H N g)) (pkX W H N g).length).1,yA (cs (gl (pkX W H N g)) (pkX W H N g).length).2]):=by
    rw [e0]; exact hck
  rw [gate_pos hS,ble_t (show 0+(pkX W H N g).length≤(pkX W H N g).length by omega),gate_pos hck',BEq.rfl,ble_t (show ((pkX W H N g).length+2)*1≤140737488355328 by omega)] at st
  refine FSpec.of_res (gspecM e_nil (k_cons kS_ok k_nil) (m_cons (full_ok _ _) m_nil) Tryd.func19 (by kernel_rfl) (by kernel_rfl) (lok_hd (c:=bodyOf Tryd.f19) (i:=3) 0 (by kernel_rfl) (by kernel_rfl) (toldF_sound (keep:=keepPq) (τ:=[some 3]) key')) rfl st) fun E v hv=>?_
  have hl:(pkL W H N g).length=(pkX W H N g).length+2:=by unfold pkL; simp
  unfold lA
  rw [hl]
  refine sl_like hv fun i hi=>?_
  unfold pkL
  rw [lE_app,Nat.zero_add]
  refine congrArg (fun z=>[yA z]) ?_
  cases h0:Nat.blt i (pkX W H N g).length
  · have h0':=not_blt h0
    rw [cond_false,cond_false]
    by_cases h1:i < (pkX W H N g).length+1
    · rw [blt_t h1,show i - (pkX W H N g).length=0 by omega]; rfl
    · have hb1:Nat.blt i ((pkX W H N g).length+1)=false:=by
        cases h:Nat.blt i ((pkX W H N g).length+1) with
        | false=>rfl
        | true=>exact absurd (lt_of_blt h) h1
      rw [hb1,show i - (pkX W H N g).length=1 by omega]; rfl
  · rfl
theorem pkL_bts {W H:Int} {N:Nat} {g:Nat→Int} (hW:0≤W∧W≤255) (hH:0≤H∧H≤255) (hg:By (4*N) g):Bts (pkL W H N g):=by
  have hb:Bts (pkX W H N g):=by
    refine Bts.app ?_ (pkA_bts hg N 0 (by omega))
    exact Bts.cons (by decide) <| Bts.cons (by decide) <| Bts.cons (by decide) <| Bts.cons (by decide) <| Bts.cons hW <| Bts.cons hH Bts.nil
  obtain ⟨a,b,c,d⟩:=cs_rng (gl (pkX W H N g)) (pkX W H N g).length
  exact hb.app (Bts.cons (by omega) <| Bts.cons (by omega) Bts.nil)
end Go.Proofs.YtcdhdnfkcmjnpaaDoor.Pi

namespace Go.Proofs.YtcdhdnfkcmjnpaaDoor.Pi
open Go.Shelf Go.RowKit Go.Gv

section
variable (n:Nat) (g:Nat→Int) (a b:Int)
def al4 (a:Int):Int:=w64 (4*a)
def alC (a c:Int):Int:=w64 (al4 a+c)
def alE0:Bool:=g (al4 a).toNat==g (al4 b).toNat
def alE (c:Int):Bool:=g (alC a c).toNat==g (alC b c).toNat
def al1:Bool:=cond (alE0 g a b) (alE g a b 1) false
def al2:Bool:=cond (al1 g a b) (alE g a b 2) false
def al3:Bool:=cond (al2 g a b) (alE g a b 3) false
def alI (c:Bool) (i:Int):Bool:=ixB i n||!(decide (c=true)&&true)
def alB:Bool:=(ixB (al4 a) n||false)&&((ixB (al4 b) n||false)&&(alI n (alE0 g a b) (alC a 1)&&(alI n (alE0 g a b) (alC b 1)&&(alI n (al1 g a b) (alC a 2)&&(alI n (al1 g a b) (alC b 2)&&(alI n (al2 g a b) (alC a 3)&&(alI n (al2 g a b) (alC b 3)&&true)))))))
theorem al_ev:ev Tryd.prog [] [] noL Tryd.f42 [sB n g,iA a,iA b] ret=cond (alB n g a b) (some (Out.of (bA (al3 g a b)))) none:=by kernel_rfl
end
theorem alI_t {n:Nat} {c:Bool} {i:Nat} (h:i < n):alI n c (i:Nat)=true:=by unfold alI; rw [ixB_t h]; rfl
theorem al_spec {N:Nat} {g:Nat→Int} (hN:N≤1000000) {a b:Nat} (ha:a < N) (hb:b < N):FSpec Tryd.prog 42 [sB (4*N) g,iA (a:Nat),iA (b:Nat)] (bA (like g a b)):=by
  have e4:∀ x:Nat,x < N→al4 (x:Nat)=((4*x:Nat):Int):=fun x hx=>by unfold al4; rw [w64_id (by omega) (by omega)]; omega
  have eC:∀ (x c:Nat),x < N→c < 4→alC (x:Nat) (c:Nat)=((4*x+c:Nat):Int):=fun x c hx hc=>by unfold alC; rw [e4 x hx,w64_id (by omega) (by omega)]; omega
  refine gspec e_nil k_nil Tryd.func42 (by kernel_rfl) (by kernel_rfl) noL_ok rfl ((al_ev (4*N) g (a:Nat) (b:Nat)).trans ?_)
  have a1:alC (a:Nat) 1=((4*a+1:Nat):Int):=eC a 1 ha (by omega)
  have a2:alC (a:Nat) 2=((4*a+2:Nat):Int):=eC a 2 ha (by omega)
  have a3:alC (a:Nat) 3=((4*a+3:Nat):Int):=eC a 3 ha (by omega)
  have b1:alC (b:Nat) 1=((4*b+1:Nat):Int):=eC b 1 hb (by omega)
  have b2:alC (b:Nat) 2=((4*b+2:Nat):Int):=eC b 2 hb (by omega)
  have b3:alC (b:Nat) 3=((4*b+3:Nat):Int):=eC b 3 hb (by omega)
  have hB:alB (4*N) g (a:Nat) (b:Nat)=true:=by
    unfold alB
    rw [e4 a ha,e4 b hb,a1,a2,a3,b1,b2,b3,ixB_t (by omega),ixB_t (by omega),alI_t (by omega),alI_t (by omega),alI_t (by omega),alI_t (by omega),alI_t (by omega),alI_t (by omega)]
    rfl
  have hV:al3 g (a:Nat) (b:Nat)=like g a b:=by
    unfold al3 al2 al1 alE0 alE like
    rw [e4 a ha,e4 b hb,a1,a2,a3,b1,b2,b3]
    simp only [Int.toNat_natCast]
    cases g (4*a)==g (4*b)<;>cases g (4*a+1)==g (4*b+1)<;>cases g (4*a+2)==g (4*b+2)<;>rfl
  rw [hB,hV]
  rfl
def raS (n:Nat) (g:Nat→Int) (a k:Int):St:=mkS 30 [(0,sB n g),(1,iA a),(5,iA k)] []
def keepRa:List Nat:=[0,1,5]
def raR (k:Int):St:=mkS 30 [(4,iA k)] []
def afG (af:Int→Int→Bool):List AV→AV
  | [_,.x (.int .i64 a),.x (.int .i64 b)]=>bA (af a b)
  | _=>.any
section
variable (af:Int→Int→Bool) (n:Nat) (g:Nat→Int) (a k:Int)
noncomputable def raT (r y z:Option Out):Option Out:=cond (cond (decide (k < 128)) (decide (w64 (4*w64 (a+k)) < (n:Int))) false) (gate (FSpec Tryd.prog 42 [sB n g,iA a,iA (w64 (a+k))] (bA (af a (w64 (a+k))))) (cond (!(af a (w64 (a+k)))) r y)) z
theorem ra_step:evC Tryd.prog [] [kS Tryd.prog 42 (afG af)] noL (loopAt Tryd.f21 0) (raS n g a k) (finN keepRa [])=raT af n g a k none (some ⟨.normal,raS n g a (w64 (k+1)),.any⟩) none:=by kernel_rfl
theorem ra_end:evC Tryd.prog [] [kS Tryd.prog 42 (afG af)] noL (loopAt Tryd.f21 0) (raS n g a k) (finE keepRa [])=raT af n g a k none none (some ⟨.exit 0,raS n g a k,.any⟩):=by kernel_rfl
theorem ra_ret:evC Tryd.prog [] [kS Tryd.prog 42 (afG af)] noL (loopAt Tryd.f21 0) (raS n g a k) (finR [4] [])=raT af n g a k (some ⟨.ret,raR k,.any⟩) none none:=by kernel_rfl
theorem ra_evA:ev Tryd.prog [] [⟨42,fun _ _=>none⟩] (oneL 2 (toldF keepRa [] (raS n g a 1) (.exit 0) (raS n g a k))) Tryd.f21 [sB n g,iA a] ret=gate (Sub (raS n g a 1) (raS n g a 1)) (some (Out.of (iA k))):=by kernel_rfl
theorem ra_evB:ev Tryd.prog [] [⟨42,fun _ _=>none⟩] (oneL 2 (toldF keepRa [] (raS n g a 1) .ret (raR k))) Tryd.f21 [sB n g,iA a] ret=gate (Sub (raS n g a 1) (raS n g a 1)) (some (Out.of (iA k))):=by kernel_rfl
end
def afN (g:Nat→Int) (a b:Int):Bool:=like g a.toNat b.toNat
theorem raT_eq {N:Nat} {g:Nat→Int} (hN:N≤1000000) {a k:Nat} (ha:a < N) (hk:k≤128) (r y z:Option Out):(k < 128→a+k < N→raT (afN g) (4*N) g (a:Nat) (k:Nat) r y z=cond (like g a (a+k)) y r)∧(¬ (k < 128∧a+k < N)→raT (afN g) (4*N) g (a:Nat) (k:Nat) r y z=z):=by
  have e1:w64 ((a:Int)+(k:Int))=((a+k:Nat):Int):=by rw [w64_id (by omega) (by omega)]; omega
  have e2:w64 (4*((a+k:Nat):Int))=((4*(a+k):Nat):Int):=by rw [w64_id (by omega) (by omega)]; omega
  have e3:afN g (a:Nat) ((a+k:Nat):Int)=like g a (a+k):=by unfold afN; rw [Int.toNat_natCast,Int.toNat_natCast]
  unfold raT
  rw [e1,e2,e3]
  constructor
  · intro h1 h2
    rw [decide_eq_true (show (k:Int) < 128 by omega),decide_eq_true (show ((4*(a+k):Nat):Int) < ((4*N:Nat):Int) by omega),gate_pos (al_spec hN ha h2)]
    cases like g a (a+k)<;>rfl
  · intro h
    by_cases h1:k < 128
    · rw [decide_eq_true (show (k:Int) < 128 by omega),decide_eq_false (show ¬ (((4*(a+k):Nat):Int) < ((4*N:Nat):Int)) by omega)]; rfl
    · rw [decide_eq_false (show ¬ ((k:Int) < 128) by omega)]; rfl
theorem runAt_spec {N:Nat} {g:Nat→Int} (hN:N≤1000000) {a:Nat} (ha:a < N):FSpec Tryd.prog 21 [sB (4*N) g,iA (a:Nat)] (iA (rn N g a)):=by
  have h1:=rn_pos N g a
  have h2:=rn_le N g a
  have step:∀ j,j < rn N g a - 1→Leads Tryd.prog (loopAt Tryd.f21 0) (raS (4*N) g (a:Nat) ((j+1:Nat):Int)) .normal (raS (4*N) g (a:Nat) ((j+1+1:Nat):Int)):=fun j hj=>by
    have st:=ra_step (afN g) (4*N) g (a:Nat) ((j+1:Nat):Int)
    have hgo:=rn_go N g a (k:=j+1) (by omega) (by omega)
    have hlk:=rn_like (N:=N) (g:=g) (a:=a) (k:=j+1) (by omega)
    unfold rnStop at hgo
    rw [(raT_eq hN ha (by omega) _ _ _).1 (by omega) (by omega),hlk,w64_next (by omega)] at st
    exact leads_ev (finN_sub _ _) e_nil (k_cons kS_ok k_nil) noL_ok st
  have e1:rn N g a - 1+1=rn N g a:=by omega
  by_cases hc:rn N g a < 128∧a+rn N g a < N
  · have hl:like g a (a+rn N g a)=false:=by
      rcases rn_stop N g a with h | h | h
      · omega
      · omega
      · exact h
    have key:Leads Tryd.prog (.loop (loopAt Tryd.f21 0)) (raS (4*N) g (a:Nat) 1) .ret (raR (rn N g a:Nat)):=by
      refine loop_rule (fun j=>raS (4*N) g (a:Nat) ((j+1:Nat):Int)) (rn N g a - 1) .ret _ (by simp) step ?_
      rw [e1]
      have st:=ra_ret (afN g) (4*N) g (a:Nat) (rn N g a:Nat)
      rw [(raT_eq hN ha (by omega) _ _ _).1 hc.1 hc.2,hl] at st
      exact leads_ev (finR_sub _ _) e_nil (k_cons kS_ok k_nil) noL_ok st
    refine gspec e_nil (k_cons (kno_ok _) k_nil) Tryd.func21 (by kernel_rfl) (by kernel_rfl) (lok_hd (c:=bodyOf Tryd.f21) (i:=2) 0 (by kernel_rfl) (by kernel_rfl) (toldF_sound (keep:=keepRa) (τ:=[]) key)) rfl ((ra_evB (4*N) g (a:Nat) (rn N g a:Nat)).trans ?_)
    rw [gate_pos (Sub.refl _)]
  · have key:Leads Tryd.prog (.loop (loopAt Tryd.f21 0)) (raS (4*N) g (a:Nat) 1) (.exit 0) (raS (4*N) g (a:Nat) (rn N g a:Nat)):=by
      refine loop_rule (fun j=>raS (4*N) g (a:Nat) ((j+1:Nat):Int)) (rn N g a - 1) (.exit 0) _ (by simp) step ?_
      rw [e1]
      have st:=ra_end (afN g) (4*N) g (a:Nat) (rn N g a:Nat)
      rw [(raT_eq hN ha (by omega) _ _ _).2 hc] at st
      exact leads_ev (finE_sub _ _) e_nil (k_cons kS_ok k_nil) noL_ok st
    refine gspec e_nil (k_cons (kno_ok _) k_nil) Tryd.func21 (by kernel_rfl) (by kernel_rfl) (lok_hd (c:=bodyOf Tryd.f21) (i:=2) 0 (by kernel_rfl) (by kernel_rfl) (toldF_sound (keep:=keepRa) (τ:=[]) key)) rfl ((ra_evA (4*N) g (a:Nat) (rn N g a:Nat)).trans ?_)
    rw [gate_pos (Sub.refl _)]
def tsS (n:Nat) (g:Nat→Int) (s t i:Int):St:=mkS 29 [(0,sB n g),(3,iA s),(4,iA t),(5,iA i)] []
def keepTs:List Nat:=[0,3,4,5]
section
variable (n:Nat) (g:Nat→Int) (s t i:Int)
theorem ts_step:evC Tryd.prog [] [] noL (loopAt Tryd.f22 0) (tsS n g s t i) (finN keepTs [])=ckT n i (some ⟨.normal,tsS n g (ckA g s i) ((w64 (t+ckA g s i)).tmod 251) (w64 (i+1)),.any⟩) none:=by kernel_rfl
theorem ts_end:evC Tryd.prog [] [] noL (loopAt Tryd.f22 0) (tsS n g s t i) (finE keepTs [])=ckT n i none (some ⟨.exit 0,tsS n g s t i,.any⟩):=by kernel_rfl
end
end Go.Proofs.YtcdhdnfkcmjnpaaDoor.Pi

namespace Go.Proofs.YtcdhdnfkcmjnpaaDoor.Pi
open Go.Shelf Go.RowKit Go.Gv

/-- Where so many rows were made, with a slice that is nil told as a row of nothing. -/
noncomputable def finZ (n:Nat) (keep:List Nat) (nils:List (Nat × Nat × Nat)) (nr:Row) (τ:List (Option Nat)):Kont:=fun e s=>match e with
  | .normal=>cond (Nat.beq s.mem.length n) (cond (fgtOk τ s) (some ⟨.normal,fgtN keep nils nr τ s,.any⟩) none) none
  | _=>none
theorem finZ_sub (n:Nat) (keep:List Nat) (nils:List (Nat × Nat × Nat)) (nr:Row) (τ:List (Option Nat)):KSub (finZ n keep nils nr τ):=fun e s o h=>by
  unfold finZ at h
  cases e<;>simp only at h<;>first | (cases h; done) | skip
  cases hb:Nat.beq s.mem.length n
  · rw [hb] at h; cases h
  · rw [hb] at h
    simp only [cond_true] at h
    cases hf:fgtOk τ s
    · rw [hf] at h; cases h
    · rw [hf] at h
      simp only [cond_true,Option.some.injEq] at h
      subst h
      exact ⟨rfl,fgtN_sub hf⟩
/-- Where a slot holds a row of ours. -/
def isOwn (t:Nat) (s:St):Bool:=match (s.slots.getD t dflt).1 with
  | .osl _ _ _ _=>true
  | _=>false
noncomputable def finO (t n:Nat) (keep:List Nat) (τ:List (Option Nat)):Kont:=fun e s=>cond (isOwn t s) (finS n keep τ e s) none
theorem finO_sub (t n:Nat) (keep:List Nat) (τ:List (Option Nat)):KSub (finO t n keep τ):=fun e s o h=>by
  unfold finO at h
  cases hb:isOwn t s
  · rw [hb] at h; cases h
  · rw [hb] at h; exact finS_sub n keep τ e s o h
theorem leads_evZ {l:List Entry} {ks:List KEntry} {ms:List MEntry} {L:Nat→Option LFun} {Z:Nat→Option ZFun} {c:Code} {s s':St} {e:Exit} {k:Kont} (hk:KSub k) (hZ:∀ i h,Z i=some h→ZSoundN 0 h) (hl:∀ e,e ∈ l→EOk Tryd.prog e) (hks:∀ e,e ∈ ks→KOk Tryd.prog e) (hms:∀ e,e ∈ ms→MEOk Tryd.prog e) (hL:LOk Tryd.prog L c) (h:evCZ Tryd.prog l ks ms L Z c s k=some ⟨e,s',.any⟩):Leads Tryd.prog c s e s' :=
  leads_ofZ hk hZ (tabM_ok hl hks hms) (drawnK_ok (tabM_ok hl hks hms) (by kernel_rfl)) hL h
def rpC (W H:Int) (n:Nat) (g:Nat→Int):Row:=.c [iA W,iA H,sB n g]
def rpS (W H:Int) (n:Nat) (g:Nat→Int) (m:Nat) (eo:Nat→List AV) (c:Nat) (eg:Nat→List AV) (a:Int):St:=mkS 103 [(1,.own 0 0),(5,.osl 1 1 0 m),(6,.osl 2 1 0 c),(7,iA a)] [rpC W H n g,.a 5 1 m eo,.a 5 1 c eg]
def keepRp:List Nat:=[1,5,6,7]
section
variable (W H:Int) (n:Nat) (g:Nat→Int) (m:Nat) (eo:Nat→List AV) (c:Nat) (h:Nat→Int) (a:Int) (hh:Nat→Int) (j:Nat)
def rpW:Int:=w64 (W*H)
def rpLo:Int:=w64 (4*a)
def rpHi:Int:=w64 (rpLo a+4)
def rpN:Nat:=sbN (some (rpLo a)) (some (rpHi a)) n
def rpPx:Nat→List AV:=fun i=>[yA (g (sbL (some (rpLo a))+i))]
def rpSl (y:Option Out):Option Out:=cond (sbB (some (rpLo a)) (some (rpHi a)) none n||false) y none
def rpEg:Nat→List AV:=fun q=>mixL (Nat.blt q c) [yA (h q)] (rpPx g a (q - c))
def fz3 (c:Nat):Bool:=(Nat.beq c c&&(Nat.beq c c&&(Nat.beq c c&&true)))&&true
def fz4 (c:Nat):Bool:=(Nat.beq c c&&(Nat.beq c c&&(Nat.beq c c&&(Nat.beq c c&&true))))&&true
def rpV (c:Nat):Int:=w64 (w64 ((c:Int).tdiv 4) - 1)
def flA (c:Nat):Bool:=cond (decide ((c:Int) > 0)) (cond ((c:Int)==512) true (w64 (a+1)==rpW W H)) false
noncomputable def rpA (yF yN z:Option Out):Option Out:=cond (decide (a < rpW W H)) (gate (FSpec Tryd.prog 21 [sB n g,iA a] (iA 1)) (rpSl n a (cond (apF c (rpN n a)||false) (cond (flA W H a (c+rpN n a))
  (cond (ap8 m||false) (cond (fz4 (c+rpN n a)) (cond (apF (m+1) (c+rpN n a)||false) yF none) none) none) yN) none))) z
/-- A row with a byte and another row behind it. -/
def rpE1 (v:Int) (er:Nat→List AV):Nat→List AV:=fun q=>mixL (Nat.blt q (m+1)) (mixL (Nat.blt q m) (eo q) [yA (by8 v)]) (er (q - (m+1)))
noncomputable def rk1:List KEntry:=[kS Tryd.prog 21 fun _=>iA 1]
noncomputable def rkj:List KEntry:=[kS Tryd.prog 21 fun _=>iA (Int.ofNat (j+2))]
theorem rp_A4:evCZ Tryd.prog [] rk1 [] noL (oneZ 14 (frzK 3)) (loopAt Tryd.f8 0) (rpS W H n g m eo c (fun q=>[yA (h q)]) a) (finS 4 keepRp [some 0,some 1,some 3]) =
    rpA W H n g m c a none (some ⟨.normal,rpS W H n g m eo (c+rpN n a) (rpEg g c h a) (w64 (a+1)),.any⟩) none:=by kernel_rfl
theorem rp_A7:evCZ Tryd.prog [] rk1 [] noL (oneZ 14 (frzK 3)) (loopAt Tryd.f8 0) (rpS W H n g m eo c (fun q=>[yA (h q)]) a) (finZ 7 keepRp [(6,2,1)] (.a 5 1 0 fun q=>[yA (hh q)]) [some 0,some 6,none]) =
    rpA W H n g m c a (some ⟨.normal,rpS W H n g (m+1+(c+rpN n a)) (rpE1 m eo (rpV (c+rpN n a)) (rpEg g c h a)) 0 (fun q=>[yA (hh q)]) (w64 (a+1)),.any⟩) none none:=by kernel_rfl
/-- With a run behind what is gathered. -/
def flB (k:Int) (c:Nat):Bool:=cond (decide ((c:Int) > 0)) (cond (cond (decide (k > 1)) true ((c:Int)==512)) true (a==rpW W H)) false
def rpU (m:Nat) (y:Option Out):Option Out:=cond (ap8 m||false) (rpSl n a (cond (apF (m+1) (rpN n a)||false) y none)) none
noncomputable def rpB (k:Int) (yF yN z:Option Out):Option Out:=cond (decide (a < rpW W H)) (gate (FSpec Tryd.prog 21 [sB n g,iA a] (iA k)) (cond (flB W H a k c)
  (cond (ap8 m||false) (cond (fz3 c) (cond (apF (m+1) c||false) (cond (decide (k > 1)) (rpU n a (m+1+c) yF) none) none) none) none)
  (cond (decide (k > 1)) (rpU n a m yN) none))) z
theorem rp_B6:evCZ Tryd.prog [] (rkj j) [] noL (oneZ 14 (frzK 2)) (loopAt Tryd.f8 0) (rpS W H n g m eo c (fun q=>[yA (h q)]) a) (finO 6 6 keepRp [some 0,some 5,some 2]) =
    rpB W H n g m c a (Int.ofNat (j+2)) none (some ⟨.normal,rpS W H n g (m+1+rpN n a) (rpE1 m eo (w64 (127+Int.ofNat (j+2))) (rpPx g a)) c (fun q=>[yA (h q)]) (w64 (a+Int.ofNat (j+2))),.any⟩) none:=by kernel_rfl
theorem rp_B9:evCZ Tryd.prog [] (rkj j) [] noL (oneZ 14 (frzK 2)) (loopAt Tryd.f8 0) (rpS W H n g m eo c (fun q=>[yA (h q)]) a) (finZ 9 keepRp [(6,2,1)] (.a 5 1 0 fun q=>[yA (hh q)]) [some 0,some 8,none]) =
    rpB W H n g m c a (Int.ofNat (j+2)) (some ⟨.normal,rpS W H n g (m+1+c+1+rpN n a) (rpE1 (m+1+c) (rpE1 m eo (rpV c) fun q=>[yA (h q)]) (w64 (127+Int.ofNat (j+2))) (rpPx g a)) 0 (fun q=>[yA (hh q)]) (w64 (a+Int.ofNat (j+2))),.any⟩) none none:=by kernel_rfl
theorem rp_end:evCZ Tryd.prog [] [⟨21,fun _ _=>none⟩] [] noL (oneZ 14 (frzK 2)) (loopAt Tryd.f8 0) (rpS W H n g m eo c (fun q=>[yA (h q)]) a) (finE keepRp [some 0,some 1,some 2]) =
    cond (decide (a < rpW W H)) none (some ⟨.exit 0,rpS W H n g m eo c (fun q=>[yA (h q)]) a,.any⟩):=by kernel_rfl
end
end Go.Proofs.YtcdhdnfkcmjnpaaDoor.Pi

namespace Go.Proofs.YtcdhdnfkcmjnpaaDoor
open Go.Gv

theorem pmay_ev (W H:Int) (sz n:Nat) (el:Nat→List AV):ev Tryd.prog [] [] noL Tryd.f20 [.agg [iA W,iA H,.sl sz n el]] ret =
    cond (pbad W H) (some (Out.of (iA 4))) (cond (pcnt W H n) (some (Out.of (iA 5))) (some (Out.of (iA 0)))):=by kernel_rfl
theorem pmayR_spec (W H:Int) (sz n:Nat) (el:Nat→List AV):FSpec Tryd.prog 20 [.agg [iA W,iA H,.sl sz n el]] (iA (pmay W H n)):=by
  refine gspec e_nil k_nil Tryd.func20 (by kernel_rfl) (by kernel_rfl) noL_ok rfl ((pmay_ev W H sz n el).trans ?_)
  unfold pmay
  cases pbad W H<;>cases pcnt W H n<;>rfl
end Go.Proofs.YtcdhdnfkcmjnpaaDoor

namespace Go.Proofs.YtcdhdnfkcmjnpaaDoor.Pi
open Go.Shelf Go.RowKit Go.Gv

theorem ts_evG (n:Nat) (g:Nat→Int) (s t i:Int):evG Tryd.prog [] [] [] (oneL 4 (toldF keepTs [] (tsS n g 1 0 0) (.exit 0) (tsS n g s t i))) Tryd.f22 [sB n g] [] [some 0]=gate (Sub (tsS n g 1 0 0) (tsS n g 1 0 0)) (gout (.osl 0 1 0 2) [.a 5 1 2 (chunk [yA (by8 s),yA (by8 t)] 1)]):=by kernel_rfl
theorem sums_fresh {n:Nat} {g:Nat→Int} (hn:n≤1000000000) (hg:By n g):FreshSpec Tryd.prog 22 [sB n g] (lA [(cs g n).1,(cs g n).2]):=by
  have key:Leads Tryd.prog (.loop (loopAt Tryd.f22 0)) (tsS n g 1 0 0) (.exit 0) (tsS n g (cs g n).1 (cs g n).2 (n:Nat)):=by
    refine loop_rule (fun k=>tsS n g (cs g k).1 (cs g k).2 (k:Nat)) n (.exit 0) _ (by simp) (fun k hk=>?_) ?_
    · have st:=ts_step n g (cs g k).1 (cs g k).2 (k:Nat)
      obtain ⟨e1,e2⟩:=ck_one (hg k hk)
      unfold ckT at st
      rw [e2,e1,dec_lt hk,ixB_t hk,w64_next (by omega)] at st
      exact leads_ev (finN_sub _ _) e_nil k_nil noL_ok st
    · have st:=ts_end n g (cs g n).1 (cs g n).2 (n:Nat)
      unfold ckT at st
      rw [dec_self] at st
      exact leads_ev (finE_sub _ _) e_nil k_nil noL_ok st
  obtain ⟨a,b,c,d⟩:=cs_rng g n
  have st:=ts_evG n g (cs g n).1 (cs g n).2 (n:Nat)
  rw [gate_pos (Sub.refl _),by8_id a (by omega),by8_id c (by omega)] at st
  have hG:=gspecG (mem:=[]) e_nil k_nil m_nil Tryd.func22 (by kernel_rfl) (by kernel_rfl) (lok_hd (c:=bodyOf Tryd.f22) (i:=4) 0 (by kernel_rfl) (by kernel_rfl) (toldF_sound (keep:=keepTs) (τ:=[]) key)) rfl (by kernel_rfl) st
  have hF:=fresh_rows hG (by rfl) (by
    intro k e sz n el hk i hi
    match k,hk with
    | 0,hk =>
      cases hk
      rcases (show i=0∨i=1 by omega) with rfl | rfl<;>rfl
    | k+1,hk=>simp at hk)
  refine hF.of_res fun E v hv=>?_
  have hv:rel E (.sl 1 2 fun q=>chunk [yA (cs g n).1,yA (cs g n).2] 1 (0+q)) v:=hv
  refine sl_like hv fun q hq=>?_
  have hq:q < 2:=hq
  rcases (show q=0∨q=1 by omega) with rfl | rfl<;>rfl
noncomputable def rpF (p:Prop) (m:Nat):Bool:=((propB p&&(Nat.ble (0+m) m&&true))&&(Nat.blt 0 (0+m)&&true))||false
def rpHd (W H:Int):Nat→List AV:=chunk [yA 82,yA 72,yA 80,yA 49,yA (by8 W),yA (by8 H)] 1
theorem rp_ev (W H:Int) (n:Nat) (g:Nat→Int) (e:Int) (s0:St) (m:Nat) (o:Nat→Int) (c:Nat) (h:Nat→Int) (a x y:Int) (hh:Nat→Int):evM Tryd.prog [] [kS Tryd.prog 20 fun _=>iA e] [mF Tryd.prog 22 fun _=>lA [x,y]]
    (oneL 7 (toldN keepRp [(6,2,1)] (.a 5 1 0 fun q=>[yA (hh q)]) [some 0,some 1,none] s0 (.exit 0) (rpS W H n g m (fun q=>[yA (o q)]) c (fun q=>[yA (h q)]) a))) Tryd.f8 [.agg [iA W,iA H,sB n g]] ret =
    gate (FSpec Tryd.prog 20 [.agg [iA W,iA H,sB n g]] (iA e)) (cond (!(e==0)) (some (Out.of (.tup [.x (.slice none 0 0),iA e]))) (gate (Sub (rpS W H n g 6 (rpHd W H) 0 (fun q=>[yA (hh q)]) 0) s0)
      (cond (rpF (FreshSpec Tryd.prog 22 [.sl 1 m fun i=>[yA (o (0+i))]] (lA [x,y])) m) (cond (apF m 2||false) (some (Out.of (.tup [.sl 1 (m+2) fun i=>[yA (cond (Nat.blt (0+i) m) (o (0+i)) ([x,y].getD (0+i - m) 0))],iA 0]))) none) none))):=by kernel_rfl
theorem rp_ev0 (W H:Int) (n:Nat) (g:Nat→Int) (e x y:Int):evM Tryd.prog [] [kS Tryd.prog 20 fun _=>iA e] [mF Tryd.prog 22 fun _=>lA [x,y]] (oneL 7 fun _ _=>none) Tryd.f8 [.agg [iA W,iA H,sB n g]] ret =
    gate (FSpec Tryd.prog 20 [.agg [iA W,iA H,sB n g]] (iA e)) (cond (!(e==0)) (some (Out.of (.tup [.x (.slice none 0 0),iA e]))) none):=by kernel_rfl
section
variable {W H:Int} {N:Nat} {g:Nat→Int} (hN:N≤10000) (hWH:(N:Int)=W*H)
include hN hWH
omit hN in
theorem rpW_eq (hN:N≤10000):rpW W H=(N:Int):=by unfold rpW; rw [← hWH]; exact w64_id (by omega) (by omega)
omit hN hWH in
theorem rp_cut {a:Nat} (hN:N≤10000) (ha:a < N):rpLo (a:Nat)=((4*a:Nat):Int)∧rpHi (a:Nat)=((4*a+4:Nat):Int)∧rpN (4*N) (a:Nat)=4∧(∀ y,rpSl (4*N) (a:Nat) y=y)∧rpPx g (a:Nat)=fun i=>[yA (g (4*a+i))]:=by
  have e1:rpLo (a:Nat)=((4*a:Nat):Int):=by unfold rpLo; rw [w64_id (by omega) (by omega)]; omega
  have e2:rpHi (a:Nat)=((4*a+4:Nat):Int):=by unfold rpHi; rw [e1,w64_id (by omega) (by omega)]; omega
  refine ⟨e1,e2,?_,fun y=>?_,funext fun i=>?_⟩
  · unfold rpN
    rw [e1,e2]
    unfold sbN
    simp only [Option.getD_some]
    omega
  · unfold rpSl
    rw [e1,e2,sbB_mid (by omega) (by omega) (by omega)]
    rfl
  · unfold rpPx
    rw [e1]
    unfold sbL
    simp only [Option.getD_some,Int.toNat_natCast]
def rpQ (W H:Int) (N:Nat) (g:Nat→Int) (X:List Int) (s a:Nat):St:=rpS W H (4*N) g X.length (lE X) (4*(a - s)) (fun q=>[yA (g (4*s+q))]) (a:Nat)
omit hN hWH in
theorem rp_row (X:List Int) {v:Int} (hv:0≤v∧v≤255) {k:Nat} (hk:0 < k) {f:Nat→Int} {er:Nat→List AV} (her:∀ q,q < k→er q=[yA (f q)]) {q:Nat} (hq:q < X.length+1+k):lE (X ++ v::(List.range k).map f) q=rpE1 X.length (lE X) v er q:=by
  rw [row_app X v k f hq]
  unfold rpE1
  rw [by8_id hv.1 hv.2,her (q - (X.length+1)) (by omega)]
omit hN hWH in
theorem rpV_eq {d:Nat} (hd:1≤d) (hd2:d≤100000):rpV (4*d)=(d:Int) - 1:=by
  unfold rpV
  have:((4*d:Nat):Int).tdiv 4=(d:Int):=by rw [Int.tdiv_eq_ediv_of_nonneg (by omega)]; omega
  rw [this,w64_id (n:=(d:Int)) (by omega) (by omega),w64_id (by omega) (by omega)]
omit hN hWH in
theorem fz_t (c:Nat):fz3 c=true∧fz4 c=true:=by
  have:Nat.beq c c=true:=Nat.beq_refl c
  unfold fz3 fz4
  rw [this]
  exact ⟨rfl,rfl⟩
omit hN hWH in
theorem px_map (s k:Nat):px g s k=(List.range (4*k)).map fun q=>g (4*s+q):=rfl
/-- One pixel more is gathered. -/
theorem rp_gather {X:List Int} {s a:Nat} (hsa:s≤a) (ha:a < N) (h1:rn N g a=1) (hn:a+1 - s < 128) (he:a+1 < N):Leads Tryd.prog (loopAt Tryd.f8 0) (rpQ W H N g X s a) .normal (rpQ W H N g X s (a+1)):=by
  obtain ⟨_,_,c3,c4,c5⟩:=rp_cut (g:=g) hN ha
  have hr:=runAt_spec (N:=N) (g:=g) (by omega) ha
  rw [h1] at hr
  have hr':FSpec Tryd.prog 21 [sB (4*N) g,iA (a:Nat)] (iA 1):=hr
  have st:=rp_A4 W H (4*N) g X.length (lE X) (4*(a - s)) (fun q=>g (4*s+q)) (a:Nat)
  unfold rpA at st
  have hfl:flA W H (a:Nat) (4*(a - s)+4)=false:=by
    unfold flA
    rw [rpW_eq hWH hN,w64_next (by omega),decide_eq_true (show ((4*(a - s)+4:Nat):Int) > 0 by omega)]
    have e1:(((4*(a - s)+4:Nat):Int)==512)=false:=beq_eq_false_iff_ne.2 (by omega)
    have e2:(((a+1:Nat):Int)==(N:Int))=false:=beq_eq_false_iff_ne.2 (by omega)
    rw [e1,e2]
    rfl
  rw [rpW_eq hWH hN,dec_lt ha,gate_pos hr',c3,c4,apF_t (by omega) (by omega),hfl,w64_next (by omega)] at st
  refine (leads_evZ (finS_sub _ _ _) (oneZ_ok (frzK_ok 3)) e_nil (k_cons kS_ok k_nil) m_nil noL_ok st).sub (Sub.refl _) ?_
  unfold rpQ
  rw [show 4*(a+1 - s)=4*(a - s)+4 by omega]
  refine sub_same ⟨Or.inl rfl,Or.inl rfl,Or.inr ⟨5,1,4*(a - s)+4,_,_,rfl,rfl,fun q hq=>?_⟩,trivial⟩
  unfold rpEg
  rw [c5,mixY]
  cases h:Nat.blt q (4*(a - s))
  · have:=not_blt h
    rw [cond_false,show 4*a+(q - 4*(a - s))=4*s+q by omega]
  · rfl
/-- The last pixel of a piece is gathered. -/
theorem rp_flush {X:List Int} {s a:Nat} (hX:X.length≤100000) (hsa:s≤a) (ha:a < N) (h1:rn N g a=1) (hd:a+1 - s≤128) (he:a+1 - s=128∨a+1=N):Leads Tryd.prog (loopAt Tryd.f8 0) (rpQ W H N g X s a) .normal (rpQ W H N g (X ++ ((a+1 - s:Nat) - 1:Int)::px g s (a+1 - s)) (a+1) (a+1)):=by
  obtain ⟨_,_,c3,c4,c5⟩:=rp_cut (g:=g) hN ha
  have hr:=runAt_spec (N:=N) (g:=g) (by omega) ha
  rw [h1] at hr
  have hr':FSpec Tryd.prog 21 [sB (4*N) g,iA (a:Nat)] (iA 1):=hr
  have st:=rp_A7 W H (4*N) g X.length (lE X) (4*(a - s)) (fun q=>g (4*s+q)) (a:Nat) (fun q=>g (4*(a+1)+q))
  unfold rpA at st
  have hc:4*(a - s)+4=4*(a+1 - s):=by omega
  have hfl:flA W H (a:Nat) (4*(a - s)+4)=true:=by
    unfold flA
    rw [rpW_eq hWH hN,w64_next (by omega),decide_eq_true (show ((4*(a - s)+4:Nat):Int) > 0 by omega)]
    rcases he with he | he
    · have e1:(((4*(a - s)+4:Nat):Int)==512)=true:=beq_iff_eq.2 (by omega)
      rw [e1]
      rfl
    · have e2:(((a+1:Nat):Int)==(N:Int))=true:=beq_iff_eq.2 (by omega)
      rw [e2]
      cases (((4*(a - s)+4:Nat):Int)==512)<;>rfl
  rw [rpW_eq hWH hN,dec_lt ha,gate_pos hr',c3,c4,apF_t (by omega) (by omega),hfl,ap8_t (by omega),(fz_t _).2,apF_t (by omega) (by omega),w64_next (by omega)] at st
  refine (leads_evZ (finZ_sub _ _ _ _ _) (oneZ_ok (frzK_ok 3)) e_nil (k_cons kS_ok k_nil) m_nil noL_ok st).sub (Sub.refl _) ?_
  have el:(X ++ ((a+1 - s:Nat) - 1:Int)::px g s (a+1 - s)).length=X.length+1+(4*(a - s)+4):=by simp only [List.length_append,List.length_cons,px_len]; omega
  unfold rpQ
  rw [Nat.sub_self,el]
  refine sub_same ⟨Or.inl rfl,Or.inr ⟨5,1,X.length+1+(4*(a - s)+4),_,_,rfl,rfl,fun q hq=>?_⟩,Or.inl rfl,trivial⟩
  rw [hc] at hq ⊢
  rw [px_map,rpV_eq (by omega) (by omega)]
  refine rp_row X (by omega) (by omega) (fun q hq=>?_) hq
  unfold rpEg
  rw [c5,mixY]
  cases h:Nat.blt q (4*(a - s))
  · have:=not_blt h
    rw [cond_false,show 4*a+(q - 4*(a - s))=4*s+q by omega]
  · rfl
omit hN hWH in
theorem ofNat_two {k:Nat} (h:1 < k):Int.ofNat (k - 2+2)=(k:Int):=by show ((k - 2+2:Nat):Int)=_; omega
/-- A run, with nothing gathered. -/
theorem rp_run {X:List Int} {a:Nat} (hX:X.length≤100000) (ha:a < N) (h1:1 < rn N g a):Leads Tryd.prog (loopAt Tryd.f8 0) (rpQ W H N g X a a) .normal (rpQ W H N g (X ++ (127+(rn N g a:Int))::px g a 1) (a+rn N g a) (a+rn N g a)):=by
  obtain ⟨_,_,c3,c4,c5⟩:=rp_cut (g:=g) hN ha
  have hr:=runAt_spec (N:=N) (g:=g) (by omega) ha
  have hle:=rn_le N g a
  have hj:=ofNat_two h1
  have st:=rp_B6 W H (4*N) g X.length (lE X) (4*(a - a)) (fun q=>g (4*a+q)) (a:Nat) (rn N g a - 2)
  unfold rpB rpU at st
  have hfl:flB W H (a:Nat) (rn N g a:Int) (4*(a - a))=false:=by
    unfold flB
    rw [Nat.sub_self,Nat.mul_zero]
    rfl
  have ek:w64 ((a:Int)+(rn N g a:Int))=((a+rn N g a:Nat):Int):=by rw [w64_id (by omega) (by omega)]; omega
  rw [hj,rpW_eq hWH hN,dec_lt ha,cond_true,gate_pos hr,hfl,cond_false,decide_eq_true (show ((rn N g a:Nat):Int) > 1 by omega),cond_true,ap8_t (by omega),c3,c4,apF_t (by omega) (by omega),ek,w64_id (n:=127+(rn N g a:Int)) (by omega) (by omega)] at st
  refine (leads_evZ (finO_sub _ _ _ _) (oneZ_ok (frzK_ok 2)) e_nil (k_cons kS_ok k_nil) m_nil noL_ok st).sub (Sub.refl _) ?_
  have el:(X ++ (127+(rn N g a:Int))::px g a 1).length=X.length+1+4:=by simp only [List.length_append,List.length_cons,px_len]; try omega
  unfold rpQ
  rw [Nat.sub_self,Nat.sub_self,el]
  refine sub_same ⟨Or.inl rfl,Or.inr ⟨5,1,X.length+1+4,_,_,rfl,rfl,fun q hq=>?_⟩,Or.inr ⟨5,1,4*0,_,_,rfl,rfl,fun q hq=>by omega⟩,trivial⟩
  rw [px_map]
  exact rp_row X (by omega) (by omega) (fun q hq=>by rw [c5]) hq
/-- A run, with pixels gathered ahead. -/
theorem rp_both {X:List Int} {s a:Nat} (hX:X.length≤50000) (hsa:s < a) (hd:a - s < 128) (ha:a < N) (h1:1 < rn N g a):Leads Tryd.prog (loopAt Tryd.f8 0) (rpQ W H N g X s a) .normal (rpQ W H N g ((X ++ ((a - s:Nat) - 1:Int)::px g s (a - s)) ++ (127+(rn N g a:Int))::px g a 1) (a+rn N g a) (a+rn N g a)):=by
  obtain ⟨_,_,c3,c4,c5⟩:=rp_cut (g:=g) hN ha
  have hr:=runAt_spec (N:=N) (g:=g) (by omega) ha
  have hle:=rn_le N g a
  have hj:=ofNat_two h1
  have st:=rp_B9 W H (4*N) g X.length (lE X) (4*(a - s)) (fun q=>g (4*s+q)) (a:Nat) (fun q=>g (4*(a+rn N g a)+q)) (rn N g a - 2)
  unfold rpB rpU at st
  have hfl:flB W H (a:Nat) (rn N g a:Int) (4*(a - s))=true:=by
    unfold flB
    rw [decide_eq_true (show ((4*(a - s):Nat):Int) > 0 by omega),decide_eq_true (show ((rn N g a:Nat):Int) > 1 by omega)]
    rfl
  have ek:w64 ((a:Int)+(rn N g a:Int))=((a+rn N g a:Nat):Int):=by rw [w64_id (by omega) (by omega)]; omega
  rw [hj,rpW_eq hWH hN,dec_lt ha,gate_pos hr,hfl,decide_eq_true (show ((rn N g a:Nat):Int) > 1 by omega),ap8_t (by omega),(fz_t _).1,apF_t (by omega) (by omega),ap8_t (by omega),c3,c4,apF_t (by omega) (by omega),ek,w64_id (n:=127+(rn N g a:Int)) (by omega) (by omega),rpV_eq (by omega) (by omega)] at st
  refine (leads_evZ (finZ_sub _ _ _ _ _) (oneZ_ok (frzK_ok 2)) e_nil (k_cons kS_ok k_nil) m_nil noL_ok st).sub (Sub.refl _) ?_
  generalize hY:X ++ ((a - s:Nat) - 1:Int)::px g s (a - s)=Y
  have eY:Y.length=X.length+1+4*(a - s):=by rw [← hY]; simp only [List.length_append,List.length_cons,px_len]; omega
  have el:(Y ++ (127+(rn N g a:Int))::px g a 1).length=X.length+1+4*(a - s)+1+4:=by simp only [List.length_append,List.length_cons,px_len,eY]; try omega
  have hrow:∀ q,q < Y.length→lE Y q=rpE1 X.length (lE X) ((a - s:Nat) - 1:Int) (fun q=>[yA (g (4*s+q))]) q:=fun q hq=>by
    rw [eY] at hq
    rw [← hY,px_map]
    exact rp_row X (by omega) (by omega) (fun q _=>rfl) hq
  unfold rpQ
  rw [Nat.sub_self,el]
  refine sub_same ⟨Or.inl rfl,Or.inr ⟨5,1,X.length+1+4*(a - s)+1+4,_,_,rfl,rfl,fun q hq=>?_⟩,Or.inl rfl,trivial⟩
  rw [px_map,rp_row Y (v:=127+(rn N g a:Int)) (by omega) (k:=4*1) (by omega) (er:=rpPx g (a:Nat)) (fun q hq=>by rw [c5]) (by omega)]
  unfold rpE1
  rw [eY]
  have key:mixL (Nat.blt q (X.length+1+4*(a - s))) (lE Y q) [yA (by8 (127+(rn N g a:Int)))]=mixL (Nat.blt q (X.length+1+4*(a - s))) (rpE1 X.length (lE X) ((a - s:Nat) - 1:Int) (fun q=>[yA (g (4*s+q))]) q) [yA (by8 (127+(rn N g a:Int)))]:=by
    by_cases hq2:q < Y.length
    · rw [hrow q hq2]
    · have e1:rpE1 X.length (lE X) ((a - s:Nat) - 1:Int) (fun q=>[yA (g (4*s+q))]) q=[yA (cond (Nat.blt q (X.length+1)) (cond (Nat.blt q X.length) (X.getD q 0) (by8 ((a - s:Nat) - 1:Int))) (g (4*s+(q - (X.length+1)))))]:=by
        unfold rpE1
        have e0:mixL (Nat.blt q X.length) (lE X q) [yA (by8 ((a - s:Nat) - 1:Int))]=[yA (cond (Nat.blt q X.length) (X.getD q 0) (by8 ((a - s:Nat) - 1:Int)))]:=mixY _ _ _
        rw [e0,mixY]
      have e2:lE Y q=[yA (Y.getD q 0)]:=rfl
      have e3:Nat.blt q (X.length+1+4*(a - s))=false:=by
        cases h:Nat.blt q (X.length+1+4*(a - s)) with
        | false=>rfl
        | true=>have:=lt_of_blt h; omega
      rw [e1,e2,mixY,mixY,e3]
      rfl
  exact congrArg (fun z=>mixL (Nat.blt q (X.length+1+4*(a - s)+1)) z (rpPx g (a:Nat) (q - (X.length+1+4*(a - s)+1)))) key
theorem rp_runs : ∀ (m s a:Nat) (X:List Int),N - a≤m→s≤a→a≤N→(a=N→s=a)→a - s < 128→(∀ k,s≤k→k < a→rn N g k=1)→X.length+5*(N - s)≤50000→Runs (loopAt Tryd.f8 0) (rpQ W H N g X s a) (.exit 0) (rpQ W H N g (X ++ pkA N g s) N N)
  | m, s, a, X, hm,hsa,haN,hend,hd,hone,hX=>by
    by_cases ha:a < N
    · cases m with
      | zero=>omega
      | succ m =>
        by_cases h1:1 < rn N g a
        · have hin:=rn_in (g:=g) ha
          by_cases hs:s=a
          · subst hs
            refine Runs.cons (rp_run hN hWH (by omega) ha h1) ?_
            have ih:=rp_runs m (s+rn N g s) (s+rn N g s) (X ++ (127+(rn N g s:Int))::px g s 1) (by omega) (Nat.le_refl _) hin (fun _=>rfl) (by omega) (fun k h1 h2=>by omega) (by simp only [List.length_append,List.length_cons,px_len]; omega)
            rw [pkA_run ha h1]
            have el:X ++ (127+(rn N g s:Int))::(px g s 1 ++ pkA N g (s+rn N g s))=X ++ (127+(rn N g s:Int))::px g s 1 ++ pkA N g (s+rn N g s):=by simp
            rw [el]
            exact ih
          · have hsn:sn N g s=a - s:=sn_uniq (Or.inr (Or.inr (by rw [show s+(a - s)=a by omega]; omega))) fun k hk hst=>by
              rcases hst with h | h | h
              · omega
              · omega
              · exact h (hone _ (by omega) (by omega))
            refine Runs.cons (rp_both hN hWH (by omega) (by omega) hd ha h1) ?_
            have ih:=rp_runs m (a+rn N g a) (a+rn N g a) ((X ++ ((a - s:Nat) - 1:Int)::px g s (a - s)) ++ (127+(rn N g a:Int))::px g a 1) (by omega) (Nat.le_refl _) hin (fun _=>rfl) (by omega) (fun k h1 h2=>by omega) (by simp only [List.length_append,List.length_cons,px_len]; omega)
            rw [pkA_one (show s < N by omega) (hone s (Nat.le_refl _) (by omega)),hsn,show s+(a - s)=a by omega,pkA_run ha h1]
            have el:X ++ ((a - s:Nat) - 1:Int)::(px g s (a - s) ++ (127+(rn N g a:Int))::(px g a 1 ++ pkA N g (a+rn N g a)))=((X ++ ((a - s:Nat) - 1:Int)::px g s (a - s)) ++ (127+(rn N g a:Int))::px g a 1) ++ pkA N g (a+rn N g a):=by simp
            rw [el]
            exact ih
        · have hr1:=rn_one h1
          by_cases hf:a+1 - s=128∨a+1=N
          · have hsn:sn N g s=a+1 - s:=sn_uniq (by rcases hf with h | h; exact Or.inl (by omega); exact Or.inr (Or.inl (by omega))) fun k hk hst=>by
              rcases hst with h | h | h
              · omega
              · omega
              · by_cases hka:s+k < a
                · exact h (hone _ (by omega) hka)
                · exact h (by rw [show s+k=a by omega]; exact hr1)
            have hs1:rn N g s=1:=by
              by_cases hsa':s < a
              · exact hone s (Nat.le_refl _) hsa'
              · rw [show s=a by omega]; exact hr1
            refine Runs.cons (rp_flush hN hWH (by omega) hsa ha hr1 (by omega) hf) ?_
            have ih:=rp_runs m (a+1) (a+1) (X ++ ((a+1 - s:Nat) - 1:Int)::px g s (a+1 - s)) (by omega) (Nat.le_refl _) (by omega) (fun _=>rfl) (by omega) (fun k h1 h2=>by omega) (by simp only [List.length_append,List.length_cons,px_len]; omega)
            rw [pkA_one (show s < N by omega) hs1,hsn,show s+(a+1 - s)=a+1 by omega]
            have el:X ++ ((a+1 - s:Nat) - 1:Int)::(px g s (a+1 - s) ++ pkA N g (a+1))=X ++ ((a+1 - s:Nat) - 1:Int)::px g s (a+1 - s) ++ pkA N g (a+1):=by simp
            rw [el]
            exact ih
          · refine Runs.cons (rp_gather hN hWH hsa ha hr1 (by omega) (by omega)) ?_
            exact rp_runs m s (a+1) X (by omega) (by omega) (by omega) (fun h=>by omega) (by omega) (fun k hk1 hk2=>by
              by_cases hka:k < a
              · exact hone k hk1 hka
              · rw [show k=a by omega]; exact hr1) hX
    · have e:a=N:=by omega
      have e2:=hend e
      subst e
      subst e2
      rw [pkA_end (Nat.le_refl _),List.append_nil]
      have st:=rp_end W H (4*s) g X.length (lE X) (4*(s - s)) (fun q=>g (4*s+q)) (s:Nat)
      rw [rpW_eq hWH hN,dec_self] at st
      exact Runs.last (leads_evZ (finE_sub _ _) (oneZ_ok (frzK_ok 2)) e_nil (k_cons (kno_ok _) k_nil) m_nil noL_ok st)
end
theorem packR_spec {W H:Int} {N:Nat} {g:Nat→Int} (hW:1≤W∧W≤64) (hH:1≤H∧H≤64) (hWH:(N:Int)=W*H) (hg:By (4*N) g):FSpec Tryd.prog 8 [.agg [iA W,iA H,sB (4*N) g]] (.tup [lA (pkL W H N g),iA 0]):=by
  have hM:=mulB (x:=W) (y:=H) (X:=64) (Y:=64) (by omega) hW.2 (by omega) hH.2
  have hN:N≤4096:=by omega
  have key:=Runs.loop (by simp) (rp_runs (g:=g) (by omega) hWH N 0 0 [82,72,80,49,W,H] (by omega) (by omega) (by omega) (fun h=>h ▸ rfl) (by omega) (fun k h1 h2=>by omega) (by simp; omega))
  have hmay:FSpec Tryd.prog 20 [.agg [iA W,iA H,sB (4*N) g]] (iA 0):=by
    have:=pmayR_spec W H 1 (4*N) fun i=>[yA (g i)]
    have e:pmay W H (4*N)=0:=by
      unfold pmay
      have e1:pbad W H=false:=by
        unfold pbad
        rw [decide_eq_false (show ¬ W < 1 by omega),decide_eq_false (show ¬ H < 1 by omega),decide_eq_false (show ¬ W > 64 by omega),decide_eq_false (show ¬ H > 64 by omega)]
        rfl
      have e2:pcnt W H (4*N)=false:=by
        unfold pcnt
        rw [w64_id (n:=4*W) (by omega) (by omega),Int.mul_assoc,← hWH,w64_id (by omega) (by omega)]
        have:((((4*N:Nat):Int))==4*(N:Int))=true:=beq_iff_eq.2 (by omega)
        rw [this]
        rfl
      rw [e1,e2]
      rfl
    rw [e] at this
    exact this
  have hb:Bts (pkX W H N g):=by
    refine Bts.app ?_ (pkA_bts hg N 0 (by omega))
    exact Bts.cons (by decide) <| Bts.cons (by decide) <| Bts.cons (by decide) <| Bts.cons (by decide) <| Bts.cons (by omega) <| Bts.cons (by omega) Bts.nil
  have hlen:6≤(pkX W H N g).length∧(pkX W H N g).length≤100000:=by
    have:=pkA_len N g N 0 (by omega)
    unfold pkX
    simp only [List.length_append,List.length_cons,List.length_nil]
    omega
  have hck:=sums_fresh (n:=(pkX W H N g).length) (g:=gl (pkX W H N g)) (by omega) hb.by
  have key':Leads Tryd.prog (.loop (loopAt Tryd.f8 0)) (rpS W H (4*N) g 6 (lE [82,72,80,49,W,H]) 0 (fun q=>[yA (g (4*0+q))]) 0) (.exit 0) (rpS W H (4*N) g (pkX W H N g).length (fun q=>[yA (gl (pkX W H N g) q)]) (4*(N - N)) (fun q=>[yA (g (4*N+q))]) (N:Nat)):=key
  have st:=rp_ev W H (4*N) g 0 (rpS W H (4*N) g 6 (lE [82,72,80,49,W,H]) 0 (fun q=>[yA (g (4*0+q))]) 0) (pkX W H N g).length (gl (pkX W H N g)) (4*(N - N)) (fun q=>g (4*N+q)) (N:Nat) (cs (gl (pkX W H N g)) (pkX W H N g).length).1 (cs (gl (pkX W H N g)) (pkX W H N g).length).2 (fun q=>g (4*0+q))
  have hS:Sub (rpS W H (4*N) g 6 (rpHd W H) 0 (fun q=>[yA (g (4*0+q))]) 0) (rpS W H (4*N) g 6 (lE [82,72,80,49,W,H]) 0 (fun q=>[yA (g (4*0+q))]) 0):=by
    refine sub_same ⟨Or.inl rfl,Or.inr ⟨5,1,6,_,_,rfl,rfl,fun q hq=>?_⟩,Or.inl rfl,trivial⟩
    unfold rpHd
    rw [by8_id (by omega) (by omega),by8_id (by omega) (by omega)]
    rcases (show q=0∨q=1∨q=2∨q=3∨q=4∨q=5 by omega) with rfl | rfl | rfl | rfl | rfl | rfl<;>rfl
  have e0:(fun i=>[yA (gl (pkX W H N g) (0+i))])=fun i=>[yA (gl (pkX W H N g) i)]:=funext fun i=>by rw [Nat.zero_add]
  have hck':FreshSpec Tryd.prog 22 [.sl 1 (pkX W H N g).length fun i=>[yA (gl (pkX W H N g) (0+i))]] (lA [(cs (gl (pkX W H N g)) (pkX W H N g).length).1,(cs (gl (pkX W H N g)) (pkX W H N g).length).2]):=by
    rw [e0]; exact hck
  unfold rpF at st
  rw [gate_pos hmay,gate_pos hS,propB_t hck',ble_t (show 0+(pkX W H N g).length≤(pkX W H N g).length by omega),blt_t (show 0 < 0+(pkX W H N g).length by omega),apF_t (by omega) (by omega)] at st
  refine FSpec.of_res (gspecM e_nil (k_cons kS_ok k_nil) (m_cons mF_ok m_nil) Tryd.func8 (by kernel_rfl) (by kernel_rfl) (lok_hd (c:=bodyOf Tryd.f8) (i:=7) 0 (by kernel_rfl) (by kernel_rfl) (toldN_sound (keep:=keepRp) (nils:=[(6,2,1)]) (nr:=.a 5 1 0 fun q=>[yA (g (4*0+q))]) (τ:=[some 0,some 1,none]) key')) rfl st) fun E v hv=>?_
  refine tup2_like hv fun u hu=>?_
  have hl:(pkL W H N g).length=(pkX W H N g).length+2:=by unfold pkL; simp
  unfold lA
  rw [hl]
  refine sl_like hu fun i hi=>?_
  unfold pkL
  rw [lE_app,Nat.zero_add]
  refine congrArg (fun z=>[yA z]) ?_
  cases h0:Nat.blt i (pkX W H N g).length<;>rfl
theorem packR_bad {W H:Int} {n:Nat} {g:Nat→Int} (h:pmay W H n≠0):FSpec Tryd.prog 8 [.agg [iA W,iA H,sB n g]] (.tup [.x (.slice none 0 0),iA (pmay W H n)]):=by
  have st:=rp_ev0 W H n g (pmay W H n) 0 0
  have hp:FSpec Tryd.prog 20 [.agg [iA W,iA H,sB n g]] (iA (pmay W H n)):=pmayR_spec W H 1 n fun i=>[yA (g i)]
  rw [gate_pos hp,bne_t h] at st
  exact gspecM e_nil (k_cons kS_ok k_nil) (m_cons mF_ok m_nil) Tryd.func8 (by kernel_rfl) (by kernel_rfl) (lok_none 7) rfl st
def sbad (W H:Int):Bool:=cond (cond (cond (decide (W < 1)) true (decide (W > 64))) true (decide (H < 1))) true (decide (H > 64))
def scnt (W H:Int) (n:Nat):Bool:=!((n:Int)==w64 (w64 (W*H)*4))
theorem smay_ev (W H:Int) (n:Nat) (g:Nat→Int):ev Tryd.prog [] [] noL Tryd.f18 [.agg [iA W,iA H,sB n g]] ret=cond (sbad W H) (some (Out.of (iA 4))) (cond (scnt W H n) (some (Out.of (iA 5))) (some (Out.of (iA 0)))):=by kernel_rfl
theorem smay_spec (W H:Int) (n:Nat) (g:Nat→Int):FSpec Tryd.prog 18 [.agg [iA W,iA H,sB n g]] (iA (pmay W H n)):=by
  refine gspec e_nil k_nil Tryd.func18 (by kernel_rfl) (by kernel_rfl) noL_ok rfl ((smay_ev W H n g).trans ?_)
  have e1:sbad W H=pbad W H:=by
    unfold sbad pbad
    cases decide (W < 1)<;>cases decide (W > 64)<;>cases decide (H < 1)<;>rfl
  unfold pmay
  rw [e1]
  cases hb:pbad W H
  · obtain ⟨a,b,c,d⟩:=pbad_false hb
    have hM:=mulB (x:=W) (y:=H) (X:=64) (Y:=64) (by omega) b (by omega) d
    have e2:scnt W H n=pcnt W H n:=by
      unfold scnt pcnt
      rw [w64_id (n:=4*W) (by omega) (by omega),Int.mul_assoc,w64_id (n:=W*H) (by omega) (by omega),w64_id (n:=W*H*4) (by omega) (by omega),w64_id (n:=4*(W*H)) (by omega) (by omega),Int.mul_comm (W*H) 4]
    rw [e2]
    cases pcnt W H n<;>rfl
  · rfl
theorem pk_ev (W H:Int) (n:Nat) (g:Nat→Int) (e:Int) (k:Nat) (f:Nat→List AV):ev Tryd.prog [] [kS Tryd.prog 18 fun _=>iA e,kS Tryd.prog 19 fun _=>.sl 1 k f] noL Tryd.f7 [.agg [iA W,iA H,sB n g]] ret =
    gate (FSpec Tryd.prog 18 [.agg [iA W,iA H,sB n g]] (iA e)) (cond (!(e==0)) (some (Out.of (.tup [.x (.slice none 0 0),iA e]))) (gate (FSpec Tryd.prog 19 [.agg [iA W,iA H,sB n g]] (.sl 1 k f)) (some (Out.of (.tup [.sl 1 k f,iA 0]))))):=by kernel_rfl
theorem pk_ev0 (W H:Int) (n:Nat) (g:Nat→Int) (e:Int):ev Tryd.prog [] [kS Tryd.prog 18 fun _=>iA e,⟨19,fun _ _=>none⟩] noL Tryd.f7 [.agg [iA W,iA H,sB n g]] ret =
    gate (FSpec Tryd.prog 18 [.agg [iA W,iA H,sB n g]] (iA e)) (cond (!(e==0)) (some (Out.of (.tup [.x (.slice none 0 0),iA e]))) none):=by kernel_rfl
theorem may_size {W H:Int} {n:Nat} (h:pmay W H n=0):∃ N:Nat,n=4*N∧(N:Int)=W*H∧N≤4096∧(1≤W∧W≤64)∧1≤H∧H≤64:=by
  obtain ⟨⟨a,b,c,d⟩,e,f⟩:=pmay_zero h
  have hM:=mulB (x:=W) (y:=H) (X:=64) (Y:=64) (by omega) b (by omega) d
  refine ⟨(W*H).toNat,by omega,by omega,by omega,⟨a,b⟩,c,d⟩
theorem pack_spec {W H:Int} {N:Nat} {g:Nat→Int} (h:pmay W H (4*N)=0) (hg:By (4*N) g):FSpec Tryd.prog 7 [.agg [iA W,iA H,sB (4*N) g]] (.tup [lA (pkL W H N g),iA 0]):=by
  obtain ⟨N',e1,_,hN,hW,hH⟩:=may_size h
  have st:=pk_ev W H (4*N) g 0 (pkL W H N g).length (lE (pkL W H N g))
  have hm:=smay_spec W H (4*N) g
  rw [h] at hm
  have hp:FSpec Tryd.prog 19 [.agg [iA W,iA H,sB (4*N) g]] (.sl 1 (pkL W H N g).length (lE (pkL W H N g))):=packed_spec (by omega) (by omega) (by omega) hg
  rw [gate_pos hm,gate_pos hp] at st
  exact gspec e_nil (k_cons kS_ok (k_cons kS_ok k_nil)) Tryd.func7 (by kernel_rfl) (by kernel_rfl) noL_ok rfl st
theorem pack_bad {W H:Int} {n:Nat} {g:Nat→Int} (h:pmay W H n≠0):FSpec Tryd.prog 7 [.agg [iA W,iA H,sB n g]] (.tup [.x (.slice none 0 0),iA (pmay W H n)]):=by
  have st:=pk_ev0 W H n g (pmay W H n)
  rw [gate_pos (smay_spec W H n g),bne_t h] at st
  exact gspec e_nil (k_cons kS_ok (k_cons (kno_ok _) k_nil)) Tryd.func7 (by kernel_rfl) (by kernel_rfl) noL_ok rfl st
end Go.Proofs.YtcdhdnfkcmjnpaaDoor.Pi

namespace Go.Proofs.YtcdhdnfkcmjnpaaDoor.Pi
open Go.Shelf Go.RowKit Go.Gv

noncomputable def sq (n:Nat) (g:Nat→Int) (m:Nat) (h:Nat→Int):Bool:=open Classical in decide (n=m∧∀ i,i < n→g i=h i)
theorem eqI_sq {n m:Nat} {g h:Nat→Int} (hg:By n g) (hh:By m h):eqI n g m h=sq n g m h:=by
  classical
  have:=eqI_iff hg hh
  unfold sq
  by_cases c:n=m∧∀ i,i < n→g i=h i
  · rw [decide_eq_true c]; exact this.2 c
  · rw [decide_eq_false c]
    cases he:eqI n g m h
    · rfl
    · exact absurd (this.1 he) c
section
variable (n:Nat) (g:Nat→Int) (m:Nat) (h:Nat→Int) (i:Int)
end
section
variable (n:Nat) (g:Nat→Int)
def pcNo:Option Out:=some (Out.of (.tup [.x (.slice none 0 0),iA 0,bA false]))
def pcX (c t:Int):Option Out:=cond (decide ((n:Int)≤w64 (4*c))) pcNo (cond (sbB (some 1) (some (w64 (1+w64 (4*c)))) none n||false) (some (Out.of (.tup [.sl 1 (sbN (some 1) (some (w64 (1+w64 (4*c)))) n) fun i=>[yA (g (sbL (some 1)+i))],iA t,bA true]))) none)
theorem pc_ev:ev Tryd.prog [] [] noL Tryd.f48 [sB n g] ret=cond ((n:Int)==0) pcNo (cond (ixB 0 n||false) (cond (ixB 0 n||false) (cond (decide (g 0 > 127)) (cond ((ixB 0 n||false)&&true) (pcX n g 1 (w64 (IntKind.i64.wrap (g 0) - 127))) none) (pcX n g (w64 (IntKind.i64.wrap (g 0)+1)) 1)) none) none):=by kernel_rfl
end
/-- How many pixels a piece holds; how often. -/
def mn (k:Int):Nat:=if k≤127 then (k+1).toNat else 1
def tm (k:Int):Nat:=if k≤127 then 1 else (k - 127).toNat
theorem mn_rng {k:Int} (h0:0≤k) (h1:k≤255):1≤mn k∧mn k≤128∧1≤tm k∧tm k≤128:=by
  unfold mn tm
  by_cases h:k≤127
  · rw [if_pos h,if_pos h]; omega
  · rw [if_neg h,if_neg h]; omega
theorem piece_spec {n:Nat} {g:Nat→Int} (hn:n≤1000000) (hg:By n g):FSpec Tryd.prog 48 [sB n g] (if 0 < n∧4*mn (g 0) < n then .tup [sB (4*mn (g 0)) (fun i=>g (1+i)),iA (tm (g 0):Nat),bA true] else .tup [.x (.slice none 0 0),iA 0,bA false]):=by
  refine gspec e_nil k_nil Tryd.func48 (by kernel_rfl) (by kernel_rfl) noL_ok rfl ((pc_ev n g).trans ?_)
  by_cases h0:0 < n
  · have hb:(((n:Nat):Int)==0)=false:=beq_eq_false_iff_ne.2 (by omega)
    obtain ⟨g0,g1⟩:=hg 0 h0
    have hw:IntKind.i64.wrap (g 0)=g 0:=w64_id (by omega) (by omega)
    have hix:ixB 0 n=true:=ixB_t (i:=0) h0
    rw [hb,hix,hw,w64_id (n:=g 0 - 127) (by omega) (by omega),w64_id (n:=g 0+1) (by omega) (by omega)]
    have X:∀ (c:Nat) (t:Int),c≤128→pcX n g (c:Nat) t=if 4*c < n then some (Out.of (.tup [sB (4*c) (fun i=>g (1+i)),iA t,bA true])) else pcNo:=fun c t hc=>by
      unfold pcX
      have e1:w64 (4*(c:Int))=((4*c:Nat):Int):=by rw [w64_id (by omega) (by omega)]; omega
      have e2:w64 (1+((4*c:Nat):Int))=((1+4*c:Nat):Int):=by rw [w64_id (by omega) (by omega)]; omega
      rw [e1,e2]
      by_cases hc2:4*c < n
      · rw [if_pos hc2,decide_eq_false (show ¬ ((n:Int)≤((4*c:Nat):Int)) by omega),sbB_mid (by omega) (by omega) (by omega)]
        have e3:sbN (some 1) (some ((1+4*c:Nat):Int)) n=4*c:=by unfold sbN; simp only [Option.getD_some]; omega
        rw [e3]
        rfl
      · rw [if_neg hc2,decide_eq_true (show (n:Int)≤((4*c:Nat):Int) by omega)]
        rfl
    unfold mn tm
    by_cases h1:g 0≤127
    · rw [if_pos h1,if_pos h1,decide_eq_false (show ¬ (g 0 > 127) by omega)]
      have e:g 0+1=(((g 0+1).toNat:Nat):Int):=by omega
      have:=X (g 0+1).toNat 1 (by omega)
      rw [← e] at this
      rw [this]
      by_cases h2:4*(g 0+1).toNat < n
      · rw [if_pos h2,if_pos ⟨h0,h2⟩]; rfl
      · rw [if_neg h2,if_neg (fun c=>h2 c.2)]; rfl
    · rw [if_neg h1,if_neg h1,decide_eq_true (show g 0 > 127 by omega)]
      have:=X 1 (g 0 - 127) (by omega)
      have e:g 0 - 127=(((g 0 - 127).toNat:Nat):Int):=by omega
      rw [show ((1:Nat):Int)=1 from rfl] at this
      rw [this,← e]
      by_cases h2:4*1 < n
      · rw [if_pos h2,if_pos ⟨h0,h2⟩]; rfl
      · rw [if_neg h2,if_neg (fun c=>h2 c.2)]; rfl
  · have e:n=0:=by omega
    subst e
    rw [if_neg (fun c=>h0 c.1)]
    rfl
end Go.Proofs.YtcdhdnfkcmjnpaaDoor.Pi

namespace Go.Proofs.YtcdhdnfkcmjnpaaDoor.Pi
open Go.Shelf Go.RowKit Go.Gv

def pxS (n:Nat) (g:Nat→Int) (sz:Int) (m:Nat) (el:Nat→List AV):St:=mkS 52 [(0,sB n g),(1,iA sz),(4,.osl 0 1 0 m),(6,iA 0)] [.a 5 1 m el]
def keepPx:List Nat:=[0,1,4,6]
def peS (n:Nat) (g:Nat→Int) (m:Nat) (el:Nat→List AV) (e:Int):St:=mkS 52 [(0,sB n g),(4,.osl 0 1 0 m),(6,iA e)] [.a 5 1 m el]
def keepPe:List Nat:=[0,4,6]
def pyS (n:Nat) (g:Nat→Int) (sz:Int) (m:Nat) (el:Nat→List AV) (k:Nat) (f:Nat→Int) (t i:Int):St:=mkS 52 [(0,sB n g),(1,iA sz),(4,.osl 0 1 0 m),(6,iA 0),(7,sB k f),(35,iA t),(36,iA i)] [.a 5 1 m el]
def keepPy:List Nat:=[0,1,4,6,7,35,36]
section
variable (n:Nat) (g:Nat→Int) (sz:Int) (m:Nat) (el:Nat→List AV) (k:Nat) (f:Nat→Int) (t i:Int) (b:Bool)
theorem py_step:evCM Tryd.prog [] [] [] noL (loopAt Tryd.f29 1) (pyS n g sz m el k f t i) (finN keepPy [some 1])=cond (decide (i < t)) (cond (apF m k||false) (some ⟨.normal,pyS n g sz (m+k) (fun q=>mixL (Nat.blt q m) (el q) [yA (f (q - m))]) k f t (w64 (i+1)),.any⟩) none) none:=by kernel_rfl
theorem py_end:evCM Tryd.prog [] [] [] noL (loopAt Tryd.f29 1) (pyS n g sz m el k f t i) (finE keepPy [some 0])=cond (decide (i < t)) (cond (apF m k||false) none none) (some ⟨.exit 3,pyS n g sz m el k f t i,.any⟩):=by kernel_rfl
noncomputable def pcK:List KEntry:=[kS Tryd.prog 48 fun _=>.tup [sB k f,iA t,bA b]]
noncomputable def pxG (x:Option Out):Option Out:=gate (FSpec Tryd.prog 48 [sB n g] (.tup [sB k f,iA t,bA b])) x
theorem px_exit:evCM Tryd.prog [] (pcK k f t b) [] (oneL 9 fun _ _=>none) (loopAt Tryd.f29 0) (pxS n g sz m el) (finE keepPe [some 0]) =
    cond (decide ((m:Int) < sz)) (pxG n g k f t b (cond (!b) (some ⟨.exit 0,peS n g m el 8,.any⟩) (cond (decide (w64 (m+w64 (k*t)) > sz)) (some ⟨.exit 0,peS n g m el 5,.any⟩) none))) (some ⟨.exit 0,peS n g m el 0,.any⟩):=by kernel_rfl
def pxN (m':Nat) (el':Nat→List AV):St:=pxS (sbN (some (w64 (1+k))) none n) (fun i=>g (sbL (some (w64 (1+k)))+i)) sz m' el'
theorem px_step (s0:St) (m':Nat) (el':Nat→List AV):evCM Tryd.prog [] (pcK k f t b) [] (oneL 9 (toldF keepPy [some 0] s0 (.exit 3) (pyS n g sz m' el' k f t i))) (loopAt Tryd.f29 0) (pxS n g sz m el) (finN keepPx [some 0]) =
    cond (decide ((m:Int) < sz)) (pxG n g k f t b (cond (!b) none (cond (decide (w64 (m+w64 (k*t)) > sz)) none (gate (Sub (pyS n g sz m el k f t 0) s0) (cond (sbB (some (w64 (1+k))) none none n||false) (some ⟨.normal,pxN n g sz k m' el',.any⟩) none))))) none:=by kernel_rfl
def mkB (sz:Int):Bool:=decide ((0:Int)≤0)&&(decide (0≤sz)&&decide (((1:Nat):Int)*sz≤281474976710656))
theorem px_ev (s0:St) (o:Nat→Int) (e:Int) (n':Nat) (g':Nat→Int):evM Tryd.prog [] [⟨48,fun _ _=>none⟩] [] (oneL 2 (toldF keepPx [some 0] s0 (.exit 0) (peS n' g' m (fun q=>[yA (o q)]) e))) Tryd.f29 [sB n g,iA sz] ret =
    cond (mkB sz||false) (gate (Sub (pxS n g sz 0 fun _=>[yA 0]) s0) (cond (!(e==0)) (some (Out.of (.tup [.x (.slice none 0 0),.x (.slice none 0 0),iA e]))) (some (Out.of (.tup [.sl 1 m fun q=>[yA (o (0+q))],sB n' g',iA 0]))))) none:=by kernel_rfl
end
end Go.Proofs.YtcdhdnfkcmjnpaaDoor.Pi

namespace Go.Proofs.YtcdhdnfkcmjnpaaDoor.Pi
open Go.Shelf Go.RowKit Go.Gv

/-- Whether a piece is whole; its pixels; all of them. -/
def dcW (L:Nat) (B:Nat→Int) (o:Nat):Bool:=decide (o < L)&&decide (o+1+4*mn (B o)≤L)
def dcP (B:Nat→Int) (o:Nat):List Int:=(List.range (4*mn (B o))).map fun i=>B (o+1+i)
def rep (t:Nat) (Q:List Int):List Int:=(List.replicate t Q).flatten
def dcR (B:Nat→Int) (o:Nat):List Int:=rep (tm (B o)) (dcP B o)
theorem rep_succ (t:Nat) (Q:List Int):rep (t+1) Q=rep t Q ++ Q:=by unfold rep; rw [List.replicate_succ',List.flatten_append]; simp
theorem rep_len (t:Nat) (Q:List Int):(rep t Q).length=t*Q.length:=by unfold rep; simp
theorem dcP_len (B:Nat→Int) (o:Nat):(dcP B o).length=4*mn (B o):=by unfold dcP; simp
def dcq (L S:Nat) (B:Nat→Int):Nat→Nat→List Int→Int × Nat × List Int
  | 0,o,P=>(0,o,P)
  | f+1,o,P=>if S≤P.length then (0,o,P) else if dcW L B o=true then (if P.length+(dcR B o).length≤S then dcq L S B f (o+1+4*mn (B o)) (P ++ dcR B o) else (5,o,P)) else (8,o,P)
theorem dcW_t {L:Nat} {B:Nat→Int} {o:Nat} (h:dcW L B o=true):o < L∧o+1+4*mn (B o)≤L:=by
  unfold dcW at h
  simpa using h
theorem dcq_good {L S:Nat} {B:Nat→Int} (hB:By L B):∀ (f o:Nat) (P:List Int),L - o < f→o≤L→P.length≤S→Bts P→(dcq L S B f o P).1=0→(dcq L S B f o P).2.1≤L∧o≤(dcq L S B f o P).2.1∧(dcq L S B f o P).2.2.length=S∧Bts (dcq L S B f o P).2.2
  | 0,o,P,h,_,_,_,_=>by omega
  | f + 1,o,P,h,ho,hP,hb,he=>by
    unfold dcq at he ⊢
    by_cases c0:S≤P.length
    · rw [if_pos c0] at he ⊢
      exact ⟨ho,Nat.le_refl _,by simp only; omega,hb⟩
    · rw [if_neg c0] at he ⊢
      by_cases c1:dcW L B o=true
      · rw [if_pos c1] at he ⊢
        obtain ⟨d1,d2⟩:=dcW_t c1
        by_cases c2:P.length+(dcR B o).length≤S
        · rw [if_pos c2] at he ⊢
          have hbr:Bts (dcR B o):=fun v hv=>by
            unfold dcR rep at hv
            obtain ⟨l,hl,hv⟩:=List.mem_flatten.1 hv
            have:=(List.mem_replicate.1 hl).2
            subst this
            obtain ⟨i,hi,rfl⟩:=List.mem_map.1 hv
            exact hB _ (by have:=List.mem_range.1 hi; omega)
          obtain ⟨a,b,c,d⟩:=dcq_good hB f _ _ (by omega) d2 (by rw [List.length_append]; exact c2) (hb.app hbr) he
          exact ⟨a,by omega,c,d⟩
        · rw [if_neg c2] at he; cases he
      · rw [if_neg c1] at he; cases he
theorem lE_map (X:List Int) (k:Nat) (f:Nat→Int) {q:Nat} (hq:q < X.length+k):lE (X ++ (List.range k).map f) q=mixL (Nat.blt q X.length) (lE X q) [yA (f (q - X.length))]:=by
  have e1:mixL (Nat.blt q X.length) (lE X q) [yA (f (q - X.length))]=[yA (cond (Nat.blt q X.length) (X.getD q 0) (f (q - X.length)))]:=mixY _ _ _
  rw [e1,lE_app]
  refine congrArg (fun z=>[yA z]) ?_
  cases h0:Nat.blt q X.length
  · have h0':=not_blt h0
    rw [cond_false,cond_false,List.getD_eq_getElem?_getD,List.getElem?_map,List.getElem?_range (by omega)]
    rfl
  · rfl
theorem py_leads (n:Nat) (g:Nat→Int) (sz:Int) (P:List Int) {k:Nat} (f:Nat→Int) {t:Nat} (hk:0 < k) (hlen:P.length+t*k≤100000):Leads Tryd.prog (.loop (loopAt Tryd.f29 1)) (pyS n g sz P.length (lE P) k f (t:Nat) 0) (.exit 3) (pyS n g sz (P ++ rep t ((List.range k).map f)).length (lE (P ++ rep t ((List.range k).map f))) k f (t:Nat) (t:Nat)):=by
  have hl:∀ i,(P ++ rep i ((List.range k).map f)).length=P.length+i*k:=fun i=>by rw [List.length_append,rep_len]; simp
  have h0:pyS n g sz P.length (lE P) k f (t:Nat) 0=pyS n g sz (P ++ rep 0 ((List.range k).map f)).length (lE (P ++ rep 0 ((List.range k).map f))) k f (t:Nat) ((0:Nat):Int):=by
    have:P ++ rep 0 ((List.range k).map f)=P:=by simp [rep]
    rw [this]
    rfl
  rw [h0]
  refine loop_rule (fun i=>pyS n g sz (P ++ rep i ((List.range k).map f)).length (lE (P ++ rep i ((List.range k).map f))) k f (t:Nat) (i:Nat)) t (.exit 3) _ (by simp) (fun i hi=>?_) ?_
  · have hik:(i+1)*k≤t*k:=Nat.mul_le_mul_right _ hi
    have hii:i+1≤(i+1)*k:=Nat.le_mul_of_pos_right _ hk
    rw [Nat.add_mul,Nat.one_mul] at hik hii
    have st:=py_step n g sz (P ++ rep i ((List.range k).map f)).length (lE (P ++ rep i ((List.range k).map f))) k f (t:Nat) (i:Nat)
    rw [dec_lt hi,apF_t hk (by rw [hl]; omega),w64_next (by omega)] at st
    refine (leads_evM (finN_sub _ _) e_nil k_nil m_nil noL_ok st).sub (Sub.refl _) ?_
    have el:P ++ rep (i+1) ((List.range k).map f)=(P ++ rep i ((List.range k).map f)) ++ (List.range k).map f:=by rw [rep_succ,List.append_assoc]
    rw [el]
    generalize P ++ rep i ((List.range k).map f)=X
    have ex:(X ++ (List.range k).map f).length=X.length+k:=by simp
    rw [ex]
    exact sub_same ⟨Or.inr ⟨5,1,X.length+k,_,_,rfl,rfl,fun q hq=>lE_map X k f hq⟩,trivial⟩
  · have st:=py_end n g sz (P ++ rep t ((List.range k).map f)).length (lE (P ++ rep t ((List.range k).map f))) k f (t:Nat) (t:Nat)
    rw [dec_self] at st
    exact leads_evM (finE_sub _ _) e_nil k_nil m_nil noL_ok st
section
variable {L S:Nat} {B:Nat→Int} (hL:L≤100000) (hS:S≤20000) (hB:By L B)
include hL hS hB
def puS (L S:Nat) (B:Nat→Int) (o:Nat) (P:List Int):St:=pxS (L - o) (fun i=>B (o+i)) (S:Nat) P.length (lE P)
omit hS in
theorem pu_piece {o:Nat}:(dcW L B o=true→FSpec Tryd.prog 48 [sB (L - o) fun i=>B (o+i)] (.tup [sB (4*mn (B o)) (fun i=>B (o+1+i)),iA (tm (B o):Nat),bA true]))∧(dcW L B o=false→FSpec Tryd.prog 48 [sB (L - o) fun i=>B (o+i)] (.tup [sB 0 (fun _=>0),iA 0,bA false])):=by
  have hp:=piece_spec (n:=L - o) (g:=fun i=>B (o+i)) (by omega) (fun i hi=>hB (o+i) (by omega))
  simp only [Nat.add_zero] at hp
  constructor
  · intro h
    obtain ⟨h1,h2⟩:=dcW_t h
    rw [if_pos ⟨by omega,by omega⟩] at hp
    have e:(fun i=>B (o+(1+i)))=fun i=>B (o+1+i):=funext fun i=>by rw [Nat.add_assoc]
    rw [e] at hp
    exact hp
  · intro h
    have hn:¬ (0 < L - o∧4*mn (B o) < L - o):=fun c=>by
      unfold dcW at h
      rw [decide_eq_true (show o < L by omega),decide_eq_true (show o+1+4*mn (B o)≤L by omega)] at h
      cases h
    rw [if_neg hn] at hp
    refine FSpec.of_res hp fun E v hv=>?_
    obtain ⟨vs,h1,h2⟩:=rel_tup.1 hv
    refine rel_tup.2 ⟨vs,h1,?_⟩
    obtain ⟨u0,t0,e0,r0,h2⟩:=rels_cons.1 h2
    exact rels_cons.2 ⟨u0,t0,e0,nil_like r0,h2⟩
theorem pu_runs:∀ (f o:Nat) (P:List Int),L - o < f→o≤L→P.length≤S→Runs (loopAt Tryd.f29 0) (puS L S B o P) (.exit 0) (peS (L - (dcq L S B f o P).2.1) (fun i=>B ((dcq L S B f o P).2.1+i)) (dcq L S B f o P).2.2.length (lE (dcq L S B f o P).2.2) (dcq L S B f o P).1)
  | 0,o,P,h,_,_=>by omega
  | f + 1, o, P,h,ho,hP=>by
    unfold dcq
    by_cases c0:S≤P.length
    · rw [if_pos c0]
      have st:=px_exit (L - o) (fun i=>B (o+i)) (S:Nat) P.length (lE P) 0 (fun _=>0) 0 true
      rw [decide_eq_false (show ¬ ((P.length:Int) < (S:Int)) by omega)] at st
      refine Runs.last (leads_evM (finE_sub _ _) e_nil (k_cons kS_ok k_nil) m_nil (lok_none 9) st)
    · rw [if_neg c0]
      have hlt:decide ((P.length:Int) < (S:Int))=true:=decide_eq_true (by omega)
      by_cases c1:dcW L B o=true
      · rw [if_pos c1]
        obtain ⟨d1,d2⟩:=dcW_t c1
        obtain ⟨b0,b1⟩:=hB o d1
        obtain ⟨m1,m2,t1,t2⟩:=mn_rng b0 b1
        have hpc:=(pu_piece hL hB (o:=o)).1 c1
        have hR:(dcR B o).length=tm (B o)*(4*mn (B o)):=by unfold dcR; rw [rep_len,dcP_len]
        have hRb:tm (B o)*(4*mn (B o))≤128*512:=Nat.mul_le_mul t2 (by omega)
        have hR2:w64 (((4*mn (B o):Nat):Int)*((tm (B o):Nat):Int))=(((dcR B o).length:Nat):Int):=by
          rw [hR,Int.mul_comm,← Int.natCast_mul,w64_id (by omega) (by omega)]
        have hR3:w64 ((P.length:Int)+(((dcR B o).length:Nat):Int))=((P.length+(dcR B o).length:Nat):Int):=by rw [hR,w64_id (by omega) (by omega)]; omega
        by_cases c2:P.length+(dcR B o).length≤S
        · rw [if_pos c2]
          have hin:=py_leads (L - o) (fun i=>B (o+i)) (S:Nat) P (k:=4*mn (B o)) (fun i=>B (o+1+i)) (t:=tm (B o)) (by omega) (by rw [← hR]; omega)
          have st:=px_step (L - o) (fun i=>B (o+i)) (S:Nat) P.length (lE P) (4*mn (B o)) (fun i=>B (o+1+i)) (tm (B o):Nat) (tm (B o):Nat) true (pyS (L - o) (fun i=>B (o+i)) (S:Nat) P.length (lE P) (4*mn (B o)) (fun i=>B (o+1+i)) (tm (B o):Nat) 0) (P ++ dcR B o).length (lE (P ++ dcR B o))
          unfold pxG at st
          have e1:w64 (1+((4*mn (B o):Nat):Int))=((1+4*mn (B o):Nat):Int):=by rw [w64_id (by omega) (by omega)]; omega
          rw [hlt,gate_pos hpc,hR2,hR3,decide_eq_false (show ¬ (((P.length+(dcR B o).length:Nat):Int) > (S:Int)) by omega),gate_pos (Sub.refl _),e1,sbB_lo (by omega) (by omega)] at st
          have eN:pxN (L - o) (fun i=>B (o+i)) (S:Nat) (4*mn (B o)) (P ++ dcR B o).length (lE (P ++ dcR B o))=puS L S B (o+1+4*mn (B o)) (P ++ dcR B o):=by
            unfold pxN puS
            rw [e1]
            have x1:sbN (some ((1+4*mn (B o):Nat):Int)) none (L - o)=L - (o+1+4*mn (B o)):=by unfold sbN; simp only [Option.getD_some,Option.getD_none]; omega
            have x2:(fun i=>B (o+(sbL (some ((1+4*mn (B o):Nat):Int))+i)))=fun i=>B (o+1+4*mn (B o)+i):=funext fun i=>by
              unfold sbL
              simp only [Option.getD_some,Int.toNat_natCast]
              rw [show o+(1+4*mn (B o)+i)=o+1+4*mn (B o)+i by omega]
            rw [x1,x2]
          have ih:=pu_runs f (o+1+4*mn (B o)) (P ++ dcR B o) (by omega) d2 (by rw [List.length_append]; exact c2)
          rw [← eN] at ih
          exact Runs.cons (leads_evM (finN_sub _ _) e_nil (k_cons kS_ok k_nil) m_nil (lok_at (c:=loopAt Tryd.f29 0) (i:=9) 0 1 (by kernel_rfl) (by kernel_rfl) (toldF_sound (keep:=keepPy) (τ:=[some 0]) hin)) st) ih
        · rw [if_neg c2]
          have st:=px_exit (L - o) (fun i=>B (o+i)) (S:Nat) P.length (lE P) (4*mn (B o)) (fun i=>B (o+1+i)) (tm (B o):Nat) true
          unfold pxG at st
          rw [hlt,gate_pos hpc,hR2,hR3,decide_eq_true (show (((P.length+(dcR B o).length:Nat):Int) > (S:Int)) by omega)] at st
          exact Runs.last (leads_evM (finE_sub _ _) e_nil (k_cons kS_ok k_nil) m_nil (lok_none 9) st)
      · have c1':dcW L B o=false:=by simpa using c1
        rw [if_neg c1]
        have st:=px_exit (L - o) (fun i=>B (o+i)) (S:Nat) P.length (lE P) 0 (fun _=>0) 0 false
        unfold pxG at st
        rw [hlt,gate_pos ((pu_piece hL hB (o:=o)).2 c1')] at st
        exact Runs.last (leads_evM (finE_sub _ _) e_nil (k_cons kS_ok k_nil) m_nil (lok_none 9) st)
/-- The pixels of pieces: the first fault, where they end, what they are. -/
def dcA (L S:Nat) (B:Nat→Int):Int × Nat × List Int:=dcq L S B (L+1) 6 []
theorem pixels_spec (h6:6≤L):FSpec Tryd.prog 29 [sB (L - 6) (fun i=>B (6+i)),iA (S:Nat)] (if (dcA L S B).1=0 then .tup [lA (dcA L S B).2.2,sB (L - (dcA L S B).2.1) (fun i=>B ((dcA L S B).2.1+i)),iA 0] else .tup [.x (.slice none 0 0),.x (.slice none 0 0),iA (dcA L S B).1]):=by
  have key:=Runs.loop (by simp) (pu_runs hL hS hB (L+1) 6 [] (by omega) h6 (by simp))
  have st:=px_ev (L - 6) (fun i=>B (6+i)) (S:Nat) (dcA L S B).2.2.length (puS L S B 6 []) (gl (dcA L S B).2.2) (dcA L S B).1 (L - (dcA L S B).2.1) (fun i=>B ((dcA L S B).2.1+i))
  have hmk:mkB (S:Nat)=true:=by
    unfold mkB
    rw [decide_eq_true (show (0:Int)≤0 by omega),decide_eq_true (show (0:Int)≤(S:Int) by omega),decide_eq_true (show ((1:Nat):Int)*(S:Int)≤281474976710656 by omega)]
    rfl
  have hsub:Sub (pxS (L - 6) (fun i=>B (6+i)) (S:Nat) 0 fun _=>[yA 0]) (puS L S B 6 []):=sub_same ⟨Or.inr ⟨5,1,0,_,_,rfl,rfl,fun q hq=>by omega⟩,trivial⟩
  have hL2:=lok_hd (c:=bodyOf Tryd.f29) (i:=2) 1 (by kernel_rfl) (by kernel_rfl) (toldF_sound (keep:=keepPx) (τ:=[some 0]) key)
  rw [hmk,gate_pos hsub] at st
  by_cases he:(dcA L S B).1=0
  · rw [if_pos he]
    rw [he] at st
    have he':(dcq L S B (L+1) 6 []).1=0:=he
    rw [he'] at hL2
    refine gspecM e_nil (k_cons (kno_ok _) k_nil) m_nil Tryd.func29 (by kernel_rfl) (by kernel_rfl) hL2 rfl (Eq.trans st ?_)
    have e5:(fun q=>[yA (gl (dcA L S B).2.2 (0+q))])=lE (dcA L S B).2.2:=funext fun q=>by rw [Nat.zero_add]; rfl
    rw [e5]
    rfl
  · rw [if_neg he]
    refine gspecM e_nil (k_cons (kno_ok _) k_nil) m_nil Tryd.func29 (by kernel_rfl) (by kernel_rfl) hL2 rfl (Eq.trans st ?_)
    rw [bne_t he]
    rfl
end
end Go.Proofs.YtcdhdnfkcmjnpaaDoor.Pi

namespace Go.Proofs.YtcdhdnfkcmjnpaaDoor.Pi
open Go.Shelf Go.RowKit Go.Gv

def hpB (n m:Nat):Bool:=sbB none (some (m:Int)) none n||!(decide (decide ((n:Int) ≥ (m:Int))=true)&&true)
theorem hp_ev (ef:EF4) (n m:Nat) (g h:Nat→Int):ev Tryd.prog [] [kS Tryd.prog 31 (eqG ef)] noL Tryd.f46 [sB n g,sB m h] ret =
    cond (hpB n m) (gate (FSpec Tryd.prog 31 [.sl 1 (sbN none (some (m:Int)) n) (fun i=>[yA (g (sbL none+i))]),sB m h] (bA (ef (sbN none (some (m:Int)) n) (fun i=>[yA (g (sbL none+i))]) m fun i=>[yA (h i)])))
      (some (Out.of (bA (cond (decide ((n:Int) ≥ (m:Int))) (ef (sbN none (some (m:Int)) n) (fun i=>[yA (g (sbL none+i))]) m fun i=>[yA (h i)]) false))))) none:=by kernel_rfl
theorem pre_spec {n m:Nat} (hnm:m≤n) (g h:Nat→Int):FSpec Tryd.prog 46 [sB n g,sB m h] (bA (eqI m g m h)):=by
  refine gspec e_nil (k_cons kEq_ok k_nil) Tryd.func46 (by kernel_rfl) (by kernel_rfl) noL_ok rfl ((hp_ev eqE n m g h).trans ?_)
  have hB:hpB n m=true:=by
    unfold hpB
    rw [sbB_hi (by omega) (by omega)]
    rfl
  have e1:sbN none (some (m:Int)) n=m:=by unfold sbN; simp only [Option.getD_some,Option.getD_none]; omega
  have e2:(fun i=>[yA (g (sbL none+i))])=fun i=>[yA (g i)]:=funext fun i=>by
    have:sbL none=0:=rfl
    rw [this,Nat.zero_add]
  have hq:FSpec Tryd.prog 31 [.sl 1 m fun i=>[yA (g i)],sB m h] (bA (eqE m (fun i=>[yA (g i)]) m fun i=>[yA (h i)])):=eq_spec m m g h
  rw [hB,e1,e2,gate_pos hq,decide_eq_true (show (n:Int) ≥ (m:Int) by omega)]
  rfl
def mkL:Nat→List AV:=fun i=>chunk [yA 82,yA 72,yA 80,yA 49] 1 (0+i)
def mkF:Nat→Int:=gl [82,72,80,49]
theorem sd_ev (n:Nat) (g:Nat→Int) (hb:Bool) (sd:Int→Bool):evM Tryd.prog [eSid sd] [kS Tryd.prog 46 fun _=>bA hb] [] noL Tryd.f28 [sB n g] ret =
    cond (decide ((n:Int) < 6)) (pBad 8) (gate (FSpec Tryd.prog 46 [sB n g,.sl 1 4 mkL] (bA hb)) (cond (!hb) (pBad 11) (cond ((ixB 4 n||false)&&((ixB 5 n||false)&&true)) (cond (cond (!(sd (IntKind.i64.wrap (g 4)))) true (!(sd (IntKind.i64.wrap (g 5))))) (pBad 4)
      (some (Out.of (.tup [.agg [iA (IntKind.i64.wrap (g 4)),iA (IntKind.i64.wrap (g 5)),.x (.slice none 0 0)],iA 0])))) none))):=by kernel_rfl
/-- What is wrong with a head. -/
noncomputable def unH (L:Nat) (B:Nat→Int):Int:=if L < 6 then 8 else if sq 4 B 4 mkF=false then 11 else if sidB (B 4)=false∨sidB (B 5)=false then 4 else 0
theorem mk_by:By 4 mkF:=fun i hi=>by
  rcases (show i=0∨i=1∨i=2∨i=3 by omega) with rfl | rfl | rfl | rfl<;>decide
theorem sides_spec {L:Nat} {B:Nat→Int} (hB:By L B):FSpec Tryd.prog 28 [sB L B] (if unH L B=0 then .tup [.agg [iA (B 4),iA (B 5),.x (.slice none 0 0)],iA 0] else .tup [.agg picZ,iA (unH L B)]):=by
  have st:=sd_ev L B (eqI 4 B 4 mkF) sidB
  have main:∀ (r:AV),evM Tryd.prog [eSid sidB] [kS Tryd.prog 46 fun _=>bA (eqI 4 B 4 mkF)] [] noL Tryd.f28 [sB L B] ret=some (Out.of r)→FSpec Tryd.prog 28 [sB L B] r:=fun r h =>
    gspecM (e_cons eSid_ok e_nil) (k_cons kS_ok k_nil) m_nil Tryd.func28 (by kernel_rfl) (by kernel_rfl) noL_ok rfl h
  have bad:∀ e:Int,unH L B=e→e≠0→evM Tryd.prog [eSid sidB] [kS Tryd.prog 46 fun _=>bA (eqI 4 B 4 mkF)] [] noL Tryd.f28 [sB L B] ret=pBad e→FSpec Tryd.prog 28 [sB L B] (if unH L B=0 then .tup [.agg [iA (B 4),iA (B 5),.x (.slice none 0 0)],iA 0] else .tup [.agg picZ,iA (unH L B)]):=fun e h1 h2 h3=>by
    rw [h1,if_neg h2]
    exact main _ h3
  by_cases c0:L < 6
  · rw [decide_eq_true (show (L:Int) < 6 by omega)] at st
    exact bad 8 (by unfold unH; rw [if_pos c0]) (by decide) st
  · have hp:=pre_spec (n:=L) (m:=4) (by omega) B mkF
    have hm:FSpec Tryd.prog 46 [sB L B,.sl 1 4 mkL] (bA (eqI 4 B 4 mkF)):=by
      refine FSpec.of_args hp fun E vs hv=>?_
      obtain ⟨u0,t0,e0,r0,hv⟩:=rels_cons.1 hv
      obtain ⟨u1,t1,e1,r1,hv⟩:=rels_cons.1 hv
      refine rels_cons.2 ⟨u0,t0,e0,r0,rels_cons.2 ⟨u1,t1,e1,sl_like r1 fun i hi=>?_,hv⟩⟩
      rcases (show i=0∨i=1∨i=2∨i=3 by omega) with rfl | rfl | rfl | rfl<;>rfl
    have hsq:=eqI_sq (n:=4) (m:=4) (g:=B) (h:=mkF) (fun i hi=>hB i (by omega)) mk_by
    have h4:=hB 4 (by omega)
    have h5:=hB 5 (by omega)
    have w4:IntKind.i64.wrap (B 4)=B 4:=w64_id (by omega) (by omega)
    have w5:IntKind.i64.wrap (B 5)=B 5:=w64_id (by omega) (by omega)
    have i4:ixB 4 L=true:=ixB_t (i:=4) (by omega)
    have i5:ixB 5 L=true:=ixB_t (i:=5) (by omega)
    rw [decide_eq_false (show ¬ ((L:Int) < 6) by omega),gate_pos hm,i4,i5,w4,w5] at st
    have hH:unH L B=if sq 4 B 4 mkF=false then 11 else if sidB (B 4)=false∨sidB (B 5)=false then 4 else 0:=by unfold unH; rw [if_neg c0]
    cases c1:sq 4 B 4 mkF
    · refine bad 11 (by rw [hH,if_pos c1]) (by decide) (Eq.trans st ?_)
      rw [hsq,c1]
      rfl
    · have hH2:unH L B=if sidB (B 4)=false∨sidB (B 5)=false then 4 else 0:=by rw [hH,if_neg (by rw [c1]; simp)]
      cases c2:sidB (B 4)
      · refine bad 4 (by rw [hH2,if_pos (Or.inl c2)]) (by decide) (Eq.trans st ?_)
        rw [hsq,c1,c2]
        rfl
      · cases c3:sidB (B 5)
        · refine bad 4 (by rw [hH2,if_pos (Or.inr c3)]) (by decide) (Eq.trans st ?_)
          rw [hsq,c1,c2,c3]
          rfl
        · have h0:unH L B=0:=by rw [hH2,if_neg (by rw [c2,c3]; simp)]
          rw [h0,if_pos rfl]
          refine main _ (Eq.trans st ?_)
          rw [hsq,c1,c2,c3]
          rfl
theorem cd_ev (n m:Nat) (g h:Nat→Int) (a b:Int):ev Tryd.prog [] [kS Tryd.prog 41 fun _=>.tup [yA a,yA b]] noL Tryd.f30 [sB n g,sB m h] ret =
    cond (decide ((m:Int) < 2)) (some (Out.of (iA 8))) (cond (decide ((m:Int) > 2)) (some (Out.of (iA 5))) (cond (sbB none (some (w64 ((n:Int) - 2))) none n||false) (gate (FSpec Tryd.prog 41 [.sl 1 (sbN none (some (w64 ((n:Int) - 2))) n) fun i=>[yA (g (sbL none+i))]] (.tup [yA a,yA b]))
      (cond (ixB 0 m||false) (cond (ixB 1 m||!(decide ((!(h 0==a))=false)&&true)) (cond (cond (!(h 0==a)) true (!(h 1==b))) (some (Out.of (iA 12))) (some (Out.of (iA 0)))) none) none)) none)):=by kernel_rfl
noncomputable def unC (L o:Nat) (B:Nat→Int):Int:=if L < o+2 then 8 else if o+2 < L then 5 else if B o=(cs B o).1∧B (o+1)=(cs B o).2 then 0 else 12
theorem checked_spec {L o:Nat} {B:Nat→Int} (hL:L≤100000) (hB:By L B) (ho:o≤L):FSpec Tryd.prog 30 [sB L B,sB (L - o) (fun i=>B (o+i))] (iA (unC L o B)):=by
  have st:=cd_ev L (L - o) B (fun i=>B (o+i)) (cs B o).1 (cs B o).2
  have main:∀ (r:AV),ev Tryd.prog [] [kS Tryd.prog 41 fun _=>.tup [yA (cs B o).1,yA (cs B o).2]] noL Tryd.f30 [sB L B,sB (L - o) (fun i=>B (o+i))] ret=some (Out.of r)→FSpec Tryd.prog 30 [sB L B,sB (L - o) (fun i=>B (o+i))] r:=fun r h =>
    gspec e_nil (k_cons kS_ok k_nil) Tryd.func30 (by kernel_rfl) (by kernel_rfl) noL_ok rfl h
  unfold unC
  by_cases c0:L < o+2
  · rw [if_pos c0]
    rw [decide_eq_true (show ((L - o:Nat):Int) < 2 by omega)] at st
    exact main _ st
  · rw [if_neg c0]
    rw [decide_eq_false (show ¬ (((L - o:Nat):Int) < 2) by omega)] at st
    by_cases c1:o+2 < L
    · rw [if_pos c1]
      rw [decide_eq_true (show ((L - o:Nat):Int) > 2 by omega)] at st
      exact main _ st
    · rw [if_neg c1]
      have e:L=o+2:=by omega
      have e1:w64 ((L:Int) - 2)=(o:Int):=by rw [w64_id (by omega) (by omega)]; omega
      have e2:sbN none (some (o:Int)) L=o:=by unfold sbN; simp only [Option.getD_some,Option.getD_none]; omega
      have e3:(fun i=>[yA (B (sbL none+i))])=fun i=>[yA (B i)]:=funext fun i=>by
        have:sbL none=0:=rfl
        rw [this,Nat.zero_add]
      have hck:FSpec Tryd.prog 41 [.sl 1 o fun i=>[yA (B i)]] (.tup [yA (cs B o).1,yA (cs B o).2]):=check_spec (by omega) fun i hi=>hB i (by omega)
      have i0:ixB 0 (L - o)=true:=ixB_t (i:=0) (by omega)
      have i1:ixB 1 (L - o)=true:=ixB_t (i:=1) (by omega)
      rw [decide_eq_false (show ¬ (((L - o:Nat):Int) > 2) by omega),e1,sbB_hi (by omega) (by omega),e2,e3,gate_pos hck,i0,i1] at st
      by_cases c2:B o=(cs B o).1
      · have b2:(B (o+0)==(cs B o).1)=true:=beq_iff_eq.2 (by rw [Nat.add_zero]; exact c2)
        rw [b2] at st
        by_cases c3:B (o+1)=(cs B o).2
        · have b3:(B (o+1)==(cs B o).2)=true:=beq_iff_eq.2 c3
          rw [b3] at st
          rw [if_pos ⟨c2,c3⟩]
          exact main _ st
        · have b3:(B (o+1)==(cs B o).2)=false:=beq_eq_false_iff_ne.2 c3
          rw [b3] at st
          rw [if_neg (fun c=>c3 c.2)]
          exact main _ st
      · have b2:(B (o+0)==(cs B o).1)=false:=beq_eq_false_iff_ne.2 (by rw [Nat.add_zero]; exact c2)
        rw [b2] at st
        rw [if_neg (fun c=>c2 c.1)]
        exact main _ st
noncomputable def gS (f:Nat) (a:List AV) (r:AV) (x:Option Out):Option Out:=gate (FSpec Tryd.prog f a r) x
noncomputable def kC (f:Nat) (r:AV):KEntry:=kS Tryd.prog f fun _=>r
theorem kC_ok (f:Nat) (r:AV):KOk Tryd.prog (kC f r):=kS_ok (P:=Tryd.prog) (f:=f) (g:=fun _=>r)
section
variable (n:Nat) (g:Nat→Int) (W H e:Int) (m:Nat) (q:Nat→Int) (r:Nat) (rf:Nat→Int) (e2 e3:Int) (pl:Nat) (pf:Nat→List AV) (eq:Bool)
noncomputable def upK:List KEntry:=[kC 28 (.tup [.agg [iA W,iA H,.x (.slice none 0 0)],iA e]),kC 29 (.tup [sB m q,sB r rf,iA e2]),kC 30 (iA e3),kC 19 (.sl 1 pl pf),kC 31 (bA eq)]
theorem up_ev:ev Tryd.prog [] (upK W H e m q r rf e2 e3 pl pf eq) noL Tryd.f11 [sB n g] ret =
    gS 28 [sB n g] (.tup [.agg [iA W,iA H,.x (.slice none 0 0)],iA e]) (cond (!(e==0)) (pBad e) (gS 29 [.sl 1 (sbN (some 6) none n) (fun i=>[yA (g (sbL (some 6)+i))]),iA (w64 (w64 (4*W)*H))] (.tup [sB m q,sB r rf,iA e2])
      (cond ((sbB (some 6) none none n||false)&&true) (cond (!(e2==0)) (pBad e2) (gS 30 [sB n g,sB r rf] (iA e3) (cond (!(e3==0)) (pBad e3)
        (gS 19 [.agg [iA W,iA H,sB m q]] (.sl 1 pl pf) (gS 31 [.sl 1 pl pf,sB n g] (bA eq) (cond (!eq) (pBad 11) (some (Out.of (.tup [.agg [iA W,iA H,sB m q],iA 0]))))))))) none))):=by kernel_rfl
end
end Go.Proofs.YtcdhdnfkcmjnpaaDoor.Pi

namespace Go.Proofs.YtcdhdnfkcmjnpaaDoor.Pi
open Go.Shelf Go.RowKit Go.Gv

noncomputable def unN (B:Nat→Int):Nat:=(B 4*B 5).toNat
noncomputable def unD (L:Nat) (B:Nat→Int):Int × Nat × List Int:=dcA L (4*unN B) B
noncomputable def unK (L:Nat) (B:Nat→Int):List Int:=pkL (B 4) (B 5) (unN B) (gl (unD L B).2.2)
noncomputable def unE (L:Nat) (B:Nat→Int):Int:=if unH L B≠0 then unH L B else if (unD L B).1≠0 then (unD L B).1 else if unC L (unD L B).2.1 B≠0 then unC L (unD L B).2.1 B else if sq (unK L B).length (gl (unK L B)) L B=true then 0 else 11
noncomputable def unP (L:Nat) (B:Nat→Int):Pic:=if unE L B=0 then ⟨B 4,B 5,4*unN B,gl (unD L B).2.2⟩ else zP
theorem un_bad {f:Nat} {args:List AV} {L:Nat} {B:Nat→Int} {e:Int} (he:unE L B=e) (h0:e≠0) (h:FSpec Tryd.prog f args (.tup [.agg picZ,iA e])):FSpec Tryd.prog f args (pOut (unP L B) (unE L B)):=by
  have:unP L B=zP:=by unfold unP; rw [if_neg (by rw [he]; exact h0)]
  rw [this,he]
  exact pspec_bad h
theorem unH_zero {L:Nat} {B:Nat→Int} (h:unH L B=0):6≤L∧(1≤B 4∧B 4≤64)∧(1≤B 5∧B 5≤64)∧((unN B:Nat):Int)=B 4*B 5∧unN B≤4096∧sq 4 B 4 mkF=true:=by
  unfold unH at h
  by_cases c0:L < 6
  · rw [if_pos c0] at h; cases h
  rw [if_neg c0] at h
  cases c1:sq 4 B 4 mkF
  · rw [if_pos c1] at h; cases h
  rw [if_neg (by rw [c1]; simp)] at h
  by_cases c2:sidB (B 4)=false∨sidB (B 5)=false
  · rw [if_pos c2] at h; cases h
  have sd:∀ n:Int,sidB n≠false→1≤n∧n≤64:=fun n hn=>by
    unfold sidB at hn
    by_cases d1:n ≥ 1
    · rw [decide_eq_true d1] at hn
      by_cases d2:n≤64
      · exact ⟨d1,d2⟩
      · rw [decide_eq_false d2] at hn; exact absurd rfl hn
    · rw [decide_eq_false d1] at hn; exact absurd rfl hn
  have a:=sd _ fun e=>c2 (Or.inl e)
  have b:=sd _ fun e=>c2 (Or.inr e)
  have hM:=mulB (x:=B 4) (y:=B 5) (X:=64) (Y:=64) (by omega) a.2 (by omega) b.2
  exact ⟨by omega,a,b,by unfold unN; omega,by unfold unN; omega,rfl⟩
theorem un_size {L:Nat} {B:Nat→Int} (h:unH L B=0):w64 (w64 (4*B 4)*B 5)=((4*unN B:Nat):Int):=by
  obtain ⟨_,a,b,hN,hN2,_⟩:=unH_zero h
  rw [w64_id (n:=4*B 4) (by omega) (by omega),Int.mul_assoc,← hN,w64_id (by omega) (by omega)]
  omega
theorem unD_good {L:Nat} {B:Nat→Int} (hB:By L B) (h:unH L B=0) (hd:(unD L B).1=0):(unD L B).2.1≤L∧6≤(unD L B).2.1∧(unD L B).2.2.length=4*unN B∧Bts (unD L B).2.2:=by
  obtain ⟨h6,_⟩:=unH_zero h
  exact dcq_good hB (L+1) 6 [] (by omega) h6 (by simp) Bts.nil hd
theorem unpack_spec {L:Nat} {B:Nat→Int} (hL:L≤100000) (hB:By L B):FSpec Tryd.prog 11 [sB L B] (pOut (unP L B) (unE L B)):=by
  have hs:=sides_spec hB
  have main:∀ {W H e:Int} {m:Nat} {q:Nat→Int} {r:Nat} {rf:Nat→Int} {e2 e3:Int} {pl:Nat} {pf:Nat→List AV} {eq:Bool} (v:AV),ev Tryd.prog [] (upK W H e m q r rf e2 e3 pl pf eq) noL Tryd.f11 [sB L B] ret=some (Out.of v)→FSpec Tryd.prog 11 [sB L B] v:=fun {W H e m q r rf e2 e3 pl pf eq} v h =>
    gspec e_nil (k_cons (kC_ok _ _) <| k_cons (kC_ok _ _) <| k_cons (kC_ok _ _) <| k_cons (kC_ok _ _) <| k_cons (kC_ok _ _) k_nil) Tryd.func11 (by kernel_rfl) (by kernel_rfl) noL_ok rfl h
  by_cases c0:unH L B=0
  · rw [if_pos c0] at hs
    obtain ⟨h6,hW,hH,hN,hN2,_⟩:=unH_zero c0
    have hpx:=pixels_spec (S:=4*unN B) hL (by omega) hB h6
    have e1:sbN (some 6) none L=L - 6:=by unfold sbN; simp only [Option.getD_some,Option.getD_none]; omega
    have e2:(fun i=>[yA (B (sbL (some 6)+i))])=fun i=>[yA (B (6+i))]:=rfl
    by_cases c1:(unD L B).1=0
    · have c1':(dcA L (4*unN B) B).1=0:=c1
      rw [if_pos c1'] at hpx
      obtain ⟨ho,ho6,hPl,hPb⟩:=unD_good hB c0 c1
      have hck:=checked_spec hL hB ho
      by_cases c2:unC L (unD L B).2.1 B=0
      · have hpk:FSpec Tryd.prog 19 [.agg [iA (B 4),iA (B 5),sB (4*unN B) (gl (unD L B).2.2)]] (.sl 1 (unK L B).length (lE (unK L B))):=packed_spec (by omega) (by omega) (by omega) (by rw [← hPl]; exact hPb.by)
        have hkb:Bts (unK L B):=pkL_bts (by omega) (by omega) (by rw [← hPl]; exact hPb.by)
        have heq:FSpec Tryd.prog 31 [.sl 1 (unK L B).length (lE (unK L B)),sB L B] (bA (sq (unK L B).length (gl (unK L B)) L B)):=by
          rw [← eqI_sq hkb.by hB]
          exact eq_spec _ _ (gl (unK L B)) B
        have st:=up_ev L B (B 4) (B 5) 0 (4*unN B) (gl (unD L B).2.2) (L - (unD L B).2.1) (fun i=>B ((unD L B).2.1+i)) 0 0 (unK L B).length (lE (unK L B)) (sq (unK L B).length (gl (unK L B)) L B)
        have hpx':FSpec Tryd.prog 29 [.sl 1 (L - 6) (fun i=>[yA (B (6+i))]),iA ((4*unN B:Nat):Int)] (.tup [sB (4*unN B) (gl (unD L B).2.2),sB (L - (unD L B).2.1) (fun i=>B ((unD L B).2.1+i)),iA 0]):=by
          rw [← hPl]
          rw [hPl]
          have e:lA (dcA L (4*unN B) B).2.2=sB (4*unN B) (gl (unD L B).2.2):=by
            show AV.sl 1 (unD L B).2.2.length _=_
            rw [hPl]
            rfl
          rw [e] at hpx
          exact hpx
        rw [c2] at hck
        unfold gS at st
        rw [gate_pos hs,e1,e2,un_size c0,gate_pos hpx',sbB_lo (by omega) (by omega),gate_pos hck,gate_pos hpk,gate_pos heq] at st
        cases c3:sq (unK L B).length (gl (unK L B)) L B
        · rw [c3] at st
          exact un_bad (e:=11) (by unfold unE; rw [if_neg (fun h=>h c0),if_neg (fun h=>h c1),if_neg (fun h=>h c2),c3]; rfl) (by decide) (main _ st)
        · rw [c3] at st
          have hz:unE L B=0:=by unfold unE; rw [if_neg (fun h=>h c0),if_neg (fun h=>h c1),if_neg (fun h=>h c2),c3]; rfl
          unfold unP
          rw [hz,if_pos rfl]
          exact main _ st
      · have hpx':FSpec Tryd.prog 29 [.sl 1 (L - 6) (fun i=>[yA (B (6+i))]),iA ((4*unN B:Nat):Int)] (.tup [sB (unD L B).2.2.length (gl (unD L B).2.2),sB (L - (unD L B).2.1) (fun i=>B ((unD L B).2.1+i)),iA 0]):=hpx
        have st:=up_ev L B (B 4) (B 5) 0 (unD L B).2.2.length (gl (unD L B).2.2) (L - (unD L B).2.1) (fun i=>B ((unD L B).2.1+i)) 0 (unC L (unD L B).2.1 B) 0 (fun _=>[]) true
        unfold gS at st
        rw [gate_pos hs,e1,e2,un_size c0,gate_pos hpx',sbB_lo (by omega) (by omega),gate_pos hck,bne_t c2] at st
        exact un_bad (by unfold unE; rw [if_neg (fun h=>h c0),if_neg (fun h=>h c1),if_pos c2]) c2 (main _ st)
    · have c1':(dcA L (4*unN B) B).1≠0:=c1
      rw [if_neg c1'] at hpx
      have hpx':FSpec Tryd.prog 29 [.sl 1 (L - 6) (fun i=>[yA (B (6+i))]),iA ((4*unN B:Nat):Int)] (.tup [sB 0 fun _=>0,sB 0 fun _=>0,iA (unD L B).1]):=by
        refine FSpec.of_res hpx fun E v hv=>?_
        obtain ⟨vs,h1,h2⟩:=rel_tup.1 hv
        refine rel_tup.2 ⟨vs,h1,?_⟩
        obtain ⟨u0,t0,e0,r0,h2⟩:=rels_cons.1 h2
        obtain ⟨u1,t1,e1,r1,h2⟩:=rels_cons.1 h2
        exact rels_cons.2 ⟨u0,t0,e0,nil_like r0,rels_cons.2 ⟨u1,t1,e1,nil_like r1,h2⟩⟩
      have st:=up_ev L B (B 4) (B 5) 0 0 (fun _=>0) 0 (fun _=>0) (unD L B).1 0 0 (fun _=>[]) true
      unfold gS at st
      rw [gate_pos hs,e1,e2,un_size c0,gate_pos hpx',sbB_lo (by omega) (by omega),bne_t c1] at st
      exact un_bad (by unfold unE; rw [if_neg (fun h=>h c0),if_pos c1]) c1 (main _ st)
  · rw [if_neg c0] at hs
    have st:=up_ev L B 0 0 (unH L B) 0 (fun _=>0) 0 (fun _=>0) 0 0 0 (fun _=>[]) true
    unfold gS at st
    have hs':FSpec Tryd.prog 28 [sB L B] (.tup [.agg [iA 0,iA 0,.x (.slice none 0 0)],iA (unH L B)]):=hs
    rw [gate_pos hs',bne_t c0] at st
    exact un_bad (by unfold unE; rw [if_pos c0]) c0 (main _ st)
section
variable (n:Nat) (g:Nat→Int) (W H:Int) (o many t i:Int) (m:Nat) (el:Nat→List AV)
end
end Go.Proofs.YtcdhdnfkcmjnpaaDoor.Pi

namespace Go.Proofs.YtcdhdnfkcmjnpaaDoor.Pi
open Go.Shelf Go.RowKit Go.Gv

section
variable (n:Nat) (g:Nat→Int) (W H:Int) (o:Int) (m:Nat) (el:Nat→List AV)
def vxZ:Int:=w64 (w64 (4*W)*H)
end
section
variable (n:Nat) (g:Nat→Int)
variable (ef:EF4) (x y:Int) (pl:Nat) (pf:Nat→List AV) (pe:Int)
end
end Go.Proofs.YtcdhdnfkcmjnpaaDoor.Pi

namespace Go.Proofs.YtcdhdnfkcmjnpaaDoor.Pi
open Go.Shelf Go.RowKit Go.Gv

section
end
end Go.Proofs.YtcdhdnfkcmjnpaaDoor.Pi

namespace Go.Proofs.YtcdhdnfkcmjnpaaDoor.Pi
open Go.Shelf Go.RowKit Go.Gv

section
variable (p q:Pic)
def spC:Bool:=cond (p.W==q.W) (p.H==q.H) false
theorem sp_ev:ev Tryd.prog [] [] noL Tryd.f12 [.agg p.c,.agg q.c] ret =
    cond (allB p.n (fun _=>true)||!(decide (spC p q=true)&&true)) (cond (allB q.n (fun _=>true)||!(decide (spC p q=true)&&true)) (some (Out.of (bA (cond (spC p q) ((strF p.n p.px).toList==(strF q.n q.px).toList) false)))) none) none:=by kernel_rfl
end
theorem sp_spec (p:Pic):FSpec Tryd.prog 12 [.agg p.c,.agg p.c] (bA true):=by
  refine gspec e_nil k_nil Tryd.func12 (by kernel_rfl) (by kernel_rfl) noL_ok rfl ((sp_ev p p).trans ?_)
  rw [allB_true fun _ _=>rfl]
  unfold spC
  rw [BEq.rfl,BEq.rfl,BEq.rfl]
  rfl
end Go.Proofs.YtcdhdnfkcmjnpaaDoor.Pi

namespace Go.Proofs.YtcdhdnfkcmjnpaaDoor
open Go.Gv

theorem w_nil {P:Program}:∀ e,e ∈ ([]:List WEntry)→WEOk P e:=fun _ h=>by cases h
theorem r_nil {P:Program}:∀ e,e ∈ ([]:List REntry)→REOk P e:=fun _ h=>by cases h
theorem w_cons {P:Program} {e:WEntry} {l:List WEntry} (h:WEOk P e) (hl:∀ e,e ∈ l→WEOk P e):∀ e',e' ∈ e::l→WEOk P e':=fun e' he=>by
  rcases List.mem_cons.1 he with rfl | he
  · exact h
  · exact hl e' he
section
variable {l:List Entry} {ks:List KEntry} {ms:List MEntry} {ws:List WEntry} {rs:List REntry} {L:Nat→Option LFun} (hl:∀ e,e ∈ l→EOk Tryd.prog e) (hks:∀ e,e ∈ ks→KOk Tryd.prog e) (hms:∀ e,e ∈ ms→MEOk Tryd.prog e) (hws:∀ e,e ∈ ws→WEOk Tryd.prog e) (hrs:∀ e,e ∈ rs→REOk Tryd.prog e)
include hl hks hms hws hrs
theorem gspecW {f : Nat} {fn : Func} (hf : Tryd.prog.funcs[f]? = some fn) (hnm : (fn.name == "runtime.NumGoroutine") = false) (hb : fn.body = some (bodyOf fn)) (hL : LOk Tryd.prog L (bodyOf fn))
    {args:List AV} (hlen:Nat.ble args.length fn.ntmps=true) {r:AV} (h:evW Tryd.prog l ks ms ws rs L fn args ret=some (Out.of r)):FSpec Tryd.prog f args r :=
  spec_of_body (tabW_ok hl hks hms hws hrs) (drawnK_ok (tabW_ok hl hks hms hws hrs) (by kernel_rfl)) 40 hf hnm hb hL hlen h
theorem gspecGW {f : Nat} {fn : Func} (hf : Tryd.prog.funcs[f]? = some fn) (hnm : (fn.name == "runtime.NumGoroutine") = false) (hb : fn.body = some (bodyOf fn))
    {args:List AV} {mem:List Row} (hL:LOkN mem.length Tryd.prog L (bodyOf fn)) (hlen:Nat.ble args.length fn.ntmps=true) {τ:List (Option Nat)} (hpin:pinT mem.length τ=true) {v:AV} {mem1:List Row} (h:evGW Tryd.prog l ks ms ws rs L fn args mem τ=gout v mem1):GSpec Tryd.prog f args mem v mem1 :=
  gspec_of_body (tabW_ok hl hks hms hws hrs) (drawnK_ok (tabW_ok hl hks hms hws hrs) (by kernel_rfl)) 40 hf hnm hb hL hlen hpin h
theorem leads_evW {c:Code} {s s':St} {e:Exit} {k:Kont} (hk:KSub k) (hL:LOk Tryd.prog L c) (h:evCW Tryd.prog l ks ms ws rs L c s k=some ⟨e,s',.any⟩):Leads Tryd.prog c s e s' :=
  leads_ofK hk (tabW_ok hl hks hms hws hrs) (drawnK_ok (tabW_ok hl hks hms hws hrs) (by kernel_rfl)) hL h
end
end Go.Proofs.YtcdhdnfkcmjnpaaDoor

namespace Go.Gv
open Go.RowKit Go.Ev

end Go.Gv

namespace Go.Gv
open Go.RowKit Go.Ev
noncomputable section

theorem ixOf_none {l:List Nat} {k:Nat} (h:ixOf l k=none):k ∉ l:=fun hk=>by
  unfold ixOf at h
  rw [List.findIdx?_eq_none_iff] at h
  have:=h k hk
  simp at this
/-- Where the callee's rows lie among the caller's. -/
def putF (l:List Nat) (n:Nat) (i:Nat):Option Nat:=match l[i]? with
  | some k=>some k
  | none=>some (n+(i - l.length))
/-- The caller's rows behind the call. -/
structure MemF (l:List Nat) (mem mem1 mem':List Row):Prop where
  other:∀ k,k ∉ l→k < mem.length→mem'[k]?=mem[k]?
  mine:∀ (i k:Nat) (r:Row),l[i]?=some k→mem1[i]?=some r→mem'[k]?=some (renRow (putF l mem.length) r)
  fresh:∀ (i:Nat) (r:Row),l.length≤i→mem1[i]?=some r→mem'[mem.length+(i - l.length)]?=some (renRow (putF l mem.length) r)
theorem wframe {P:Program} {f:Nat} {args args0:List AV} {mem mem0 mem1 mem':List Row} {v:AV} (h:GSpec P f args0 mem0 v mem1) (l:List Nat) (hl:l.length=mem0.length) (hnd:nodupB l=true)
    (hargs:args0=renL (ixOf l) args) (hmem:∀ (i k:Nat),l[i]?=some k→∃ row,mem[k]?=some row∧row.live=true∧mem0[i]?=some (renRow (ixOf l) row)) (hF:MemF l mem mem1 mem'):WSpec P f args mem (renA (putF l mem.length) v) mem':=by
  refine ⟨h.1,fun A0 R w0 E cargs hW hgl hr=>?_⟩
  have dom:∀ k p,E.O k=some p→k < mem.length:=fun k p hp=>by
    obtain ⟨row,h1,_⟩:=hW.rows k p.1 p.2 hp
    exact (List.getElem?_eq_some_iff.1 h1).1
  have lives:∀ k,k ∈ l→liveAt mem k=true:=fun k hk=>by
    obtain ⟨i,hi⟩:=List.mem_iff_getElem?.1 hk
    obtain ⟨row,g1,g2,_⟩:=hmem i k hi
    unfold liveAt
    rw [g1]
    exact g2
  let O1:Nat→Option (Nat × Nat × Nat):=fun i=>(l[i]?).bind E.O
  let E1:Env:={ E with O:=O1 }
  have hO1:∀ i b c,E1.O i=some (b,c)→∃ k,l[i]?=some k∧E.O k=some (b,c):=fun i b c hi=>by
    have hi:(l[i]?).bind E.O=some (b,c):=hi
    cases hx:l[i]? with
    | none=>rw [hx] at hi; cases hi
    | some k=>rw [hx] at hi; exact ⟨k,rfl,hi⟩
  have hO1':∀ (i k:Nat) (p:Nat × Nat × Nat),l[i]?=some k→E.O k=some p→O1 i=some p:=fun i k p hi hp=>by
    show (l[i]?).bind E.O=some p
    rw [hi]; exact hp
  have hσ:∀ k i p,ixOf l k=some i→E.O k=some p→O1 i=some p:=fun k i p hi hp=>hO1' i k p (ixOf_some hi) hp
  let R1:Nat→Prop:=fun b=>∃ k c,k ∈ l∧E.O k=some (b,c)
  have hW1:Wd E.A R1 E1 E1 mem0:=by
    refine ⟨fun i b c hi=>?_,hW.small,fun _ h=>h,fun i b c hi _=>?_,fun i j b c c' hi hj _ _=>?_,BelowR.refl _ _,Env.le.refl _⟩
    · obtain ⟨k,h1,h2⟩:=hO1 i b c hi
      obtain ⟨row,g1,_,g2⟩:=hmem i k h1
      obtain ⟨row',g3,g4⟩:=hW.rows k b c h2
      rw [g1] at g3
      cases g3
      exact ⟨_,g2,renRow_rel hσ g4⟩
    · obtain ⟨k,h1,h2⟩:=hO1 i b c hi
      have hm:=List.mem_of_getElem? h1
      exact ⟨(hW.own k b c h2 (lives k hm)).1,Or.inl ⟨k,c,hm,h2⟩⟩
    · obtain ⟨k,h1,h2⟩:=hO1 i b c hi
      obtain ⟨k',h3,h4⟩:=hO1 j b c' hj
      have:=hW.one k k' b c c' h2 h4 (lives k (List.mem_of_getElem? h1)) (lives k' (List.mem_of_getElem? h3))
      subst this
      exact nodupB_get hnd i j k h1 h3
  have hpins:Pins mem0.length E1.A R1 E1:=by
    refine ⟨fun i hi=>?_,fun h0=>⟨fun b hb=>?_,hW.small⟩⟩
    · show (l[i]?).bind E.O=none
      rw [List.getElem?_eq_none (by omega)]; rfl
    · obtain ⟨k,c,hk,_⟩:=hb
      have:l=[]:=List.eq_nil_of_length_eq_zero (by omega)
      rw [this] at hk
      cases hk
  have hr1:rels E1 args0 cargs.toList:=by
    rw [hargs]
    exact relsA_ren args hσ _ hr
  refine (h.2 R1 E1 cargs hpins hW1 (glob_O hgl _) hr1).mono ?_
  rintro e w' ⟨u,E',rfl,rfl,hW2,hrel⟩
  have dom1:∀ i p,E'.O i=some p→∃ r,mem1[i]?=some r:=fun i p hp=>by
    obtain ⟨row,h1,_⟩:=hW2.rows i p.1 p.2 hp
    exact ⟨row,h1⟩
  let O2:Nat→Option (Nat × Nat × Nat):=fun k=>match ixOf l k with
    | some i=>E'.O i
    | none=>if k < mem.length then E.O k else E'.O (l.length+(k - mem.length))
  let E2:Env:={ E' with O:=O2 }
  have isIx:∀ (i k:Nat),l[i]?=some k→ixOf l k=some i:=fun i k hi=>by
    cases hx:ixOf l k with
    | none=>exact absurd (List.mem_of_getElem? hi) (ixOf_none hx)
    | some j=>rw [nodupB_get hnd i j k hi (ixOf_some hx)]
  have hO2:∀ k p,E.O k=some p→E2.O k=some p:=fun k p hp=>by
    show (match ixOf l k with
      | some i=>E'.O i
      | none=>if k < mem.length then E.O k else E'.O (l.length+(k - mem.length)))=some p
    cases hx:ixOf l k with
    | none=>rw [if_pos (dom k p hp)]; exact hp
    | some i=>exact hW2.le0.own i p (hO1' i k p (ixOf_some hx) hp)
  /- what stands where, behind the call -/
  have hO2':∀ k p,E2.O k=some p→(k ∉ l∧k < mem.length∧E.O k=some p)∨∃ i r,E'.O i=some p∧mem1[i]?=some r∧mem'[k]?=some (renRow (putF l mem.length) r)∧putF l mem.length i=some k:=fun k p hp=>by
    have hp:(match ixOf l k with
      | some i=>E'.O i
      | none=>if k < mem.length then E.O k else E'.O (l.length+(k - mem.length)))=some p:=hp
    cases hx:ixOf l k with
    | some i =>
      rw [hx] at hp
      obtain ⟨r,hr⟩:=dom1 i p hp
      have hi:=ixOf_some hx
      exact Or.inr ⟨i,r,hp,hr,hF.mine i k r hi hr,by unfold putF; rw [hi]⟩
    | none =>
      rw [hx] at hp
      by_cases hk:k < mem.length
      · simp only [if_pos hk] at hp
        exact Or.inl ⟨ixOf_none hx,hk,hp⟩
      · simp only [if_neg hk] at hp
        obtain ⟨r,hr⟩:=dom1 _ p hp
        have e:mem.length+(l.length+(k - mem.length) - l.length)=k:=by omega
        have:=hF.fresh _ r (Nat.le_add_right _ _) hr
        rw [e] at this
        exact Or.inr ⟨_,r,hp,hr,this,by unfold putF; rw [List.getElem?_eq_none (by omega)]; simp only; rw [e]⟩
  have hback:∀ i k' p,putF l mem.length i=some k'→E'.O i=some p→O2 k'=some p:=fun i k' p hi hp=>by
    unfold putF at hi
    cases hx:l[i]? with
    | some k =>
      rw [hx] at hi
      simp only [Option.some.injEq] at hi
      subst hi
      show (match ixOf l k with
        | some i=>E'.O i
        | none=>if k < mem.length then E.O k else E'.O (l.length+(k - mem.length)))=some p
      rw [isIx i k hx]
      exact hp
    | none =>
      rw [hx] at hi
      simp only [Option.some.injEq] at hi
      have hil:=List.getElem?_eq_none_iff.1 hx
      have hk:ixOf l k'=none:=by
        cases hy:ixOf l k' with
        | none=>rfl
        | some j =>
          obtain ⟨row,g1,_⟩:=hmem j k' (ixOf_some hy)
          have:=(List.getElem?_eq_some_iff.1 g1).1
          omega
      show (match ixOf l k' with
        | some i=>E'.O i
        | none=>if k' < mem.length then E.O k' else E'.O (l.length+(k' - mem.length)))=some p
      rw [hk]
      simp only
      rw [if_neg (by omega),show l.length+(k' - mem.length)=i by omega]
      exact hp
  have hle:E.le E2:=⟨hW2.le0.keep,hO2⟩
  have liv1:∀ (i k:Nat) (r:Row),mem1[i]?=some r→mem'[k]?=some (renRow (putF l mem.length) r)→liveAt mem' k=true→liveAt mem1 i=true:=fun i k r h1 h2 h3=>by
    unfold liveAt at h3 ⊢
    rw [h2] at h3
    rw [h1]
    simp only [renRow_live] at h3
    exact h3
  have liv0:∀ k,k ∉ l→k < mem.length→liveAt mem' k=true→liveAt mem k=true:=fun k h1 h2 h3=>by
    unfold liveAt at h3 ⊢
    rw [hF.other k h1 h2] at h3
    exact h3
  have cross:∀ (k i:Nat) (b:Nat) (c c':Nat × Nat),k ∉ l→E.O k=some (b,c)→liveAt mem k=true→E'.O i=some (b,c')→liveAt mem1 i=true→False:=fun k i b c c' hk hb hlk ho hl1=>by
    rcases (hW2.own i b c' ho hl1).2 with ⟨k',c2,hk',hb'⟩ | g2
    · have:=hW.one k k' b c c2 hb hb' hlk (lives k' hk')
      subst this
      exact hk hk'
    · have:=hW.small b (hW.own k b c hb hlk).1
      have g2:E.w.heap.size≤b:=g2
      omega
  refine ⟨u,E2,rfl,rfl,hle,⟨?_,hW2.small,fun b hb=>hW2.old b (hW.old b hb),?_,?_,?_,hW.le0.trans hle⟩,relA_ren v hback u hrel⟩
  · intro k b c hb
    rcases hO2' k _ hb with ⟨h1,h2,h3⟩ | ⟨i,r,h1,h2,h3,_⟩
    · obtain ⟨row,g3,g4⟩:=hW.rows k b c h3
      refine ⟨row,by rw [hF.other k h1 h2]; exact g3,rowRel_keep hle g4 fun hlv=>?_⟩
      have hlk:liveAt mem k=true:=by unfold liveAt; rw [g3]; exact hlv
      refine hW2.below.block b (hW.small b (hW.own k b c h3 hlk).1) ?_
      rintro ⟨k',c',hk',hb'⟩
      have:=hW.one k k' b c c' h3 hb' hlk (lives k' hk')
      subst this
      exact h1 hk'
    · obtain ⟨row',g3,g4⟩:=hW2.rows i b c h1
      have:row'=r:=by
        have g3:mem1[i]?=some row':=g3
        rw [h2] at g3
        cases g3
        rfl
      subst this
      exact ⟨_,h3,renRow_rel hback g4⟩
  · intro k b c hb hlv
    rcases hO2' k _ hb with ⟨h1,h2,h3⟩ | ⟨i,r,h1,h2,h3,_⟩
    · obtain ⟨g1,g2⟩:=hW.own k b c h3 (liv0 k h1 h2 hlv)
      exact ⟨hW2.old b g1,g2⟩
    · obtain ⟨g1,g2⟩:=hW2.own i b c h1 (liv1 i k r h2 h3 hlv)
      refine ⟨g1,?_⟩
      rcases g2 with ⟨k',c',hk',hb'⟩ | g2
      · exact (hW.own k' b c' hb' (lives k' hk')).2
      · exact Or.inr (Nat.le_trans hW.below.size g2)
  · intro k k' b c c' hb hb' hlv hlv'
    rcases hO2' k _ hb with ⟨h1,h2,h3⟩ | ⟨i,r,h1,h2,h3,h4⟩
    · rcases hO2' k' _ hb' with ⟨g1,g2,g3⟩ | ⟨i',r',g1,g2,g3,_⟩
      · exact hW.one k k' b c c' h3 g3 (liv0 k h1 h2 hlv) (liv0 k' g1 g2 hlv')
      · exact (cross k i' b c c' h1 h3 (liv0 k h1 h2 hlv) g1 (liv1 i' k' r' g2 g3 hlv')).elim
    · rcases hO2' k' _ hb' with ⟨g1,g2,g3⟩ | ⟨i',r',g1,g2,g3,g4⟩
      · exact (cross k' i b c' c g1 g3 (liv0 k' g1 g2 hlv') h1 (liv1 i k r h2 h3 hlv)).elim
      · have:=hW2.one i i' b c c' h1 g1 (liv1 i k r h2 h3 hlv) (liv1 i' k' r' g2 g3 hlv')
        subst this
        rw [h4] at g4
        cases g4
        rfl
  · refine ⟨hW2.below.os.trans hW.below.os,hW2.below.tape.trans hW.below.tape,hW2.below.output.trans hW.below.output,Nat.le_trans hW.below.size hW2.below.size,fun b hb hn=>?_⟩
    refine (hW2.below.block b (Nat.lt_of_lt_of_le hb hW.below.size) ?_).trans (hW.below.block b hb hn)
    rintro ⟨k,c,hk,hk2⟩
    rcases (hW.own k b c hk2 (lives k hk)).2 with h | h
    · exact hn h
    · omega
end
end Go.Gv

namespace Go.Gv
open Go.RowKit Go.Ev
noncomputable section

/-- A contract over all of our rows, asked for where it is used. -/
def wQ (P:Program) (f:Nat) (g:List AV→List Row→AV) (m:List AV→List Row→List Row):WEntry:=⟨f,fun args mem=>some (propB (WSpec P f args mem (g args mem) (m args mem)),g args mem,m args mem)⟩
theorem wQ_ok {P:Program} {f:Nat} {g:List AV→List Row→AV} {m:List AV→List Row→List Row}:WEOk P (wQ P f g m):=fun args mem v mem1 h=>by
  have h:some (propB (WSpec P f args mem (g args mem) (m args mem)),g args mem,m args mem)=some (true,v,mem1):=h
  simp only [Option.some.injEq,Prod.mk.injEq] at h
  obtain ⟨h1,rfl,rfl⟩:=h
  exact propB_of h1
end
end Go.Gv
