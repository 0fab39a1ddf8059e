/-
  Package chance, and the answer: numbers that are stirred.
-/
import Derived.Test.YthdobfifpkpbnaaDoorMir
namespace Go.Proofs.YthdobfifpkpbnaaDoor
open Go.Gv

def mu (a b : Int) : Int := IntKind.u32.wrap (a * b)
def xr (a b : Int) : Int := IntKind.u32.wrap ((BitVec.ofInt IntKind.u32.bits a ^^^ BitVec.ofInt IntKind.u32.bits b).toNat : Int)
def sh (a : Int) (n : Nat) : Int := a.fdiv (2 ^ n)
def qu (a b : Int) : Int := IntKind.u32.wrap (a.tdiv b)
def stC (h t : Int) : Int := mu (xr h (sh h 15)) t
def finC (h : Int) : Int := xr h (sh h 16)
def stR (h t : Int) : Int := mu (xr h (qu h 32768)) t
def finR (h : Int) : Int := xr h (qu h 65536)
def h3C (a b c : Int) : Int := xr (xr (xr 0 (mu a 2654435761)) (mu b 2246822519)) (mu c 3266489917)
def h3R (a b c : Int) : Int := xr (xr (mu a 2654435761) (mu b 2246822519)) (mu c 3266489917)
def mixC (a b c : Int) : Int := finC (stC (stC (h3C a b c) 2246822507) 3266489909)
def mixR (a b c : Int) : Int := finR (stR (stR (h3R a b c) 2246822507) 3266489909)
theorem mixC_ev (a b c : Int) : ev Tryd.prog [] [] noL Tryd.f6 [uA a, uA b, uA c] ret = some (Out.of (uA (mixC a b c))) := by kernel_rfl
theorem mixR_ev (a b c : Int) : ev Tryd.prog [] [] noL Tryd.f7 [uA a, uA b, uA c] ret = some (Out.of (uA (mixR a b c))) := by kernel_rfl
theorem wrap_u32 (n : Int) : IntKind.u32.wrap n = n % 4294967296 := by
  unfold IntKind.wrap
  simp [IntKind.bits, IntKind.signed]
theorem mu_rng (a b : Int) : 0 ≤ mu a b ∧ mu a b < 4294967296 := by unfold mu; rw [wrap_u32]; omega
theorem xr_rng (a b : Int) : 0 ≤ xr a b ∧ xr a b < 4294967296 := by unfold xr; rw [wrap_u32]; omega
theorem xr_zero {x : Int} (h0 : 0 ≤ x) (h1 : x < 4294967296) : xr 0 x = x := by
  unfold xr
  rw [wrap_u32]
  have e : BitVec.ofInt IntKind.u32.bits 0 = 0#IntKind.u32.bits := rfl
  rw [e, BitVec.zero_xor, BitVec.toNat_ofInt]
  have e2 : ((2 ^ IntKind.u32.bits : Nat) : Int) = 4294967296 := rfl
  rw [e2]
  omega
theorem sh_qu {h : Int} (h0 : 0 ≤ h) (h1 : h < 4294967296) : sh h 15 = qu h 32768 ∧ sh h 16 = qu h 65536 := by
  unfold sh qu
  have e1 : (2 : Int) ^ 15 = 32768 := rfl
  have e2 : (2 : Int) ^ 16 = 65536 := rfl
  rw [e1, e2, wrap_u32, wrap_u32, Int.tdiv_eq_ediv_of_nonneg h0, Int.tdiv_eq_ediv_of_nonneg h0, Int.fdiv_eq_ediv_of_nonneg _ (by decide), Int.fdiv_eq_ediv_of_nonneg _ (by decide)]
  omega
theorem mixC_eq (a b c : Int) : mixC a b c = mixR a b c := by
  have e0 : h3C a b c = h3R a b c := by unfold h3C h3R; rw [xr_zero (mu_rng _ _).1 (mu_rng _ _).2]
  have e1 : ∀ h t, 0 ≤ h → h < 4294967296 → stC h t = stR h t := fun h t h0 h1 => by unfold stC stR; rw [(sh_qu h0 h1).1]
  have e2 : ∀ h, 0 ≤ h → h < 4294967296 → finC h = finR h := fun h h0 h1 => by unfold finC finR; rw [(sh_qu h0 h1).2]
  unfold mixC mixR
  rw [e0, e1 (h3R a b c) _ (xr_rng _ _).1 (xr_rng _ _).2, e1 (stR _ _) _ (mu_rng _ _).1 (mu_rng _ _).2, e2 (stR _ _) (mu_rng _ _).1 (mu_rng _ _).2]
theorem mixC_spec (a b c : Int) : FSpec Tryd.prog 6 [uA a, uA b, uA c] (uA (mixR a b c)) := by
  refine gspec e_nil k_nil Tryd.func6 (by kernel_rfl) (by kernel_rfl) noL_ok rfl ?_
  rw [mixC_ev, mixC_eq]
theorem mixR_spec (a b c : Int) : FSpec Tryd.prog 7 [uA a, uA b, uA c] (uA (mixR a b c)) := by
  refine gspec e_nil k_nil Tryd.func7 (by kernel_rfl) (by kernel_rfl) noL_ok rfl ?_
  rw [mixR_ev]
/-! ### Entries of whole numbers -/
def g3u (g : Int → Int → Int → AV) : List AV → Option AV
  | [.x (.int .u32 a), .x (.int .u32 b), .x (.int .u32 c)] => some (g a b c)
  | _ => none
theorem g3u_ok {P : Program} {f : Nat} {g : Int → Int → Int → AV} (h : ∀ a b c, FSpec P f [uA a, uA b, uA c] (g a b c)) : EOk P ⟨f, g3u g⟩ := by
  intro args r hr
  simp only [g3u] at hr
  split at hr
  · cases hr; exact Or.inl (h _ _ _)
  · cases hr
def g1i (g : Int → AV) : List AV → Option AV
  | [.x (.int .i64 a)] => some (g a)
  | _ => none
theorem g1i_ok {P : Program} {f : Nat} {g : Int → AV} (h : ∀ a, FSpec P f [iA a] (g a)) : EOk P ⟨f, g1i g⟩ := by
  intro args r hr
  simp only [g1i] at hr
  split at hr
  · cases hr; exact Or.inl (h _)
  · cases hr
def g2i (g : Int → Int → AV) : List AV → Option AV
  | [.x (.int .i64 a), .x (.int .i64 b)] => some (g a b)
  | _ => none
theorem g2i_ok {P : Program} {f : Nat} {g : Int → Int → AV} (h : ∀ a b, FSpec P f [iA a, iA b] (g a b)) : EOk P ⟨f, g2i g⟩ := by
  intro args r hr
  simp only [g2i] at hr
  split at hr
  · cases hr; exact Or.inl (h _ _)
  · cases hr
def g3i (g : Int → Int → Int → AV) : List AV → Option AV
  | [.x (.int .i64 a), .x (.int .i64 b), .x (.int .i64 c)] => some (g a b c)
  | _ => none
theorem g3i_ok {P : Program} {f : Nat} {g : Int → Int → Int → AV} (h : ∀ a b c, FSpec P f [iA a, iA b, iA c] (g a b c)) : EOk P ⟨f, g3i g⟩ := by
  intro args r hr
  simp only [g3i] at hr
  split at hr
  · cases hr; exact Or.inl (h _ _ _)
  · cases hr
/-! ### Noise -/
def u32 (n : Int) : Int := IntKind.u32.wrap n
def co (i j k : Int) : Int := w64 ((mixR (u32 i) (u32 j) (u32 k)).tmod 256)
def bl (a b t : Int) : Int := w64 ((w64 (w64 (a * w64 (256 - t)) + w64 (b * t))).tdiv 256)
def rw_ (i j k u : Int) : Int := bl (co i j k) (co (w64 (i + 1)) j k) u
def plane (i j k u v : Int) : Int := bl (rw_ i j k u) (rw_ i (w64 (j + 1)) k u) v
def noi (i u j v k w : Int) : Int := bl (plane i j (w64 (k + 0)) u v) (plane i j (w64 (k + 1)) u v) w
def EC1 : List Entry := [⟨6, g3u fun a b c => uA (mixR a b c)⟩]
def ER1 : List Entry := [⟨7, g3u fun a b c => uA (mixR a b c)⟩]
theorem EC1_ok : ∀ e, e ∈ EC1 → EOk Tryd.prog e := e_cons (g3u_ok mixC_spec) e_nil
theorem ER1_ok : ∀ e, e ∈ ER1 → EOk Tryd.prog e := e_cons (g3u_ok mixR_spec) e_nil
theorem coC_ev (i j k : Int) : ev Tryd.prog EC1 [] noL Tryd.f22 [iA i, iA j, iA k] ret = some (Out.of (iA (co i j k))) := by kernel_rfl
theorem coR_ev (i j k : Int) : ev Tryd.prog ER1 [] noL Tryd.f21 [iA i, iA j, iA k] ret = some (Out.of (iA (co i j k))) := by kernel_rfl
theorem blC_ev (i j k : Int) : ev Tryd.prog [] [] noL Tryd.f18 [iA i, iA j, iA k] ret = some (Out.of (iA (bl i j k))) := by kernel_rfl
theorem blR_ev (i j k : Int) : ev Tryd.prog [] [] noL Tryd.f20 [iA i, iA j, iA k] ret = some (Out.of (iA (bl i j k))) := by kernel_rfl
def EC2 : List Entry := ⟨22, g3i fun i j k => iA (co i j k)⟩ :: ⟨18, g3i fun i j k => iA (bl i j k)⟩ :: EC1
def ER2 : List Entry := ⟨21, g3i fun i j k => iA (co i j k)⟩ :: ⟨20, g3i fun i j k => iA (bl i j k)⟩ :: ER1
theorem EC2_ok : ∀ e, e ∈ EC2 → EOk Tryd.prog e := e_cons (g3i_ok fun i j k => gspec EC1_ok k_nil Tryd.func22 (by kernel_rfl) (by kernel_rfl) noL_ok rfl (coC_ev i j k)) <| e_cons (g3i_ok fun i j k => gspec e_nil k_nil Tryd.func18 (by kernel_rfl) (by kernel_rfl) noL_ok rfl (blC_ev i j k)) EC1_ok
theorem ER2_ok : ∀ e, e ∈ ER2 → EOk Tryd.prog e := e_cons (g3i_ok fun i j k => gspec ER1_ok k_nil Tryd.func21 (by kernel_rfl) (by kernel_rfl) noL_ok rfl (coR_ev i j k)) <| e_cons (g3i_ok fun i j k => gspec e_nil k_nil Tryd.func20 (by kernel_rfl) (by kernel_rfl) noL_ok rfl (blR_ev i j k)) ER1_ok
/-- The cell that a number lies in, and what is left: as the code has it, and as the answer has it. -/
def ceR (n : Int) : Int := (w64 (n.tmod 256 + 256)).tmod 256
def ceQ (n : Int) : Int := w64 ((w64 (n - ceR n)).tdiv 256)
def flR (n m : Int) : Int := cond (decide (n.tmod m < 0)) (w64 (n.tmod m + m)) (n.tmod m)
def flQ (n m : Int) : Int := cond (decide (n.tmod m < 0)) (w64 (w64 (n.tdiv m) - 1)) (w64 (n.tdiv m))
theorem ce_ev (n : Int) : ev Tryd.prog [] [] noL Tryd.f16 [iA n] ret = some (Out.of (.tup [iA (ceQ n), iA (ceR n)])) := by kernel_rfl
theorem fl_ev (n m : Int) : ev Tryd.prog [] [] noL Tryd.f19 [iA n, iA m] ret =
    cond ((!(m == 0)) && true) (cond ((!(m == 0)) && true) (cond (decide (n.tmod m < 0)) (some (Out.of (.tup [iA (w64 (w64 (n.tdiv m) - 1)), iA (w64 (n.tmod m + m))]))) (some (Out.of (.tup [iA (w64 (n.tdiv m)), iA (n.tmod m)])))) none) none := by kernel_rfl
theorem fl_spec {n m : Int} (hm : (!(m == 0)) = true) : FSpec Tryd.prog 19 [iA n, iA m] (.tup [iA (flQ n m), iA (flR n m)]) := by
  refine gspec e_nil k_nil Tryd.func19 (by kernel_rfl) (by kernel_rfl) noL_ok rfl ?_
  rw [fl_ev, hm]
  unfold flQ flR
  cases decide (n.tmod m < 0) <;> rfl
def flC : List AV → Bool
  | [.x (.int .i64 _), .x (.int .i64 n)] => !(n == 0)
  | _ => false
def flG : List AV → AV
  | [.x (.int .i64 n), .x (.int .i64 m)] => .tup [iA (flQ n m), iA (flR n m)]
  | _ => .any
theorem kFl_ok : KOk Tryd.prog (kIf 19 flC flG) := kIf_ok fun args h => by
  unfold flC at h
  split at h
  · exact fl_spec h
  · cases h
theorem row_ev (i j k u : Int) : ev Tryd.prog EC2 [] noL Tryd.f17 [iA i, iA j, iA k, iA u] ret = some (Out.of (iA (rw_ i j k u))) := by kernel_rfl
end Go.Proofs.YthdobfifpkpbnaaDoor
