/-
  A picture, half of it, half of that, .. down to one pixel: the code's.
-/
import Derived.Test.YtkibceiellnggaaSk16
namespace Go.Proofs.Ytkibceiellnggaa
open Go.Gv

def sB (n : Nat) (g : Nat → Int) : AV := .sl 1 n fun i => [yA (g i)]
theorem cl_ev (n : Nat) (g : Nat → Int) : ev Try.prog [] [] noL Try.f26 [sB n g] ret =
    cond (Nat.blt 0 n && true) (cond ((Nat.blt 0 n && (allB n (fun _ => true) && Nat.ble ((0 + n) * 1) 140737488355328)) && true) (some (Out.of (sB (0 + n) fun i => g (0 + i - 0)))) none) none := by kernel_rfl
theorem cl_spec {n : Nat} (g : Nat → Int) (h : 0 < n) (h2 : n ≤ 1000000) : FSpec Try.prog 26 [sB n g] (sB n g) := by
  refine gspec e_nil k_nil Try.func26 (by kernel_rfl) (by kernel_rfl) noL_ok rfl ((cl_ev n g).trans ?_)
  have e : (fun i => g (0 + i - 0)) = g := funext fun i => by rw [Nat.zero_add, Nat.sub_zero]
  rw [blt_t h, allB_true fun _ _ => rfl, Nat.ble_eq_true_of_le (show (0 + n) * 1 ≤ 140737488355328 by omega), Nat.zero_add, e]
  rfl
/-- A side that is halved again and again. -/
def hwk (n : Nat) : Nat → Nat
  | 0 => n
  | k + 1 => half2 (hwk n k)
/-- The pictures. -/
def hp (p : Pic) (wd ht : Nat) : Nat → Pic
  | 0 => p
  | k + 1 => hpic (hp p wd ht k) (hwk wd k) (hwk ht k)
theorem hp_pg {p : Pic} {wd ht : Nat} (h : PG p wd ht) : ∀ k, PG (hp p wd ht k) (hwk wd k) (hwk ht k)
  | 0 => h
  | k + 1 => hpic_pg (hp_pg h k)
theorem hwk_one {n : Nat} (h1 : 1 ≤ n) (h : n ≤ 64) : hwk n 6 = 1 := by
  simp only [hwk, half2]
  omega
theorem first_of (Q : Nat → Prop) : ∀ m, Q m → ∃ K, K ≤ m ∧ Q K ∧ ∀ k, k < K → ¬ Q k := by
  intro m
  induction m using Nat.strongRecOn with
  | ind m ih =>
    intro h
    by_cases hc : ∃ k, k < m ∧ Q k
    · obtain ⟨k, hk, hq⟩ := hc
      obtain ⟨K, h1, h2, h3⟩ := ih k hk hq
      exact ⟨K, by omega, h2, h3⟩
    · exact ⟨m, Nat.le_refl _, h, fun k hk hq => hc ⟨k, hk, hq⟩⟩
theorem hK_ex {wd ht : Nat} (w1 : 1 ≤ wd) (w2 : wd ≤ 64) (h1 : 1 ≤ ht) (h2 : ht ≤ 64) : ∃ K, K ≤ 6 ∧ (hwk wd K = 1 ∧ hwk ht K = 1) ∧ ∀ k, k < K → ¬ (hwk wd k = 1 ∧ hwk ht k = 1) :=
  first_of _ 6 ⟨hwk_one w1 w2, hwk_one h1 h2⟩
def haS (q : Pic) (m : Nat) (el : Nat → List AV) : St := mkS 37 [(5, .own 0 0), (6, .osl 1 3 0 m)] [.c q.c, .a 24 3 m el]
section
variable (q h : Pic) (m : Nat) (el : Nat → List AV)
def haT : Bool := cond (decide (q.W > 1)) true (decide (q.H > 1))
theorem ha_step : evC Try.prog [] [kfix 25 [.agg q.c] (.agg h.c)] noL (loopAt Try.f14 0) (haS q m el) (finN [5, 6] [some 0, some 3]) =
    cond (haT q) (gate ([AV.agg q.c] = [AV.agg q.c]) (cond (((m == m) && Nat.ble ((m + 1) * 40) 140737488355328) && true) (some ⟨.normal, haS h (m + 1) (fun j => mixL (Nat.blt j m) (el j) h.c), .any⟩) none)) none := by kernel_rfl
theorem ha_end : evC Try.prog [] [⟨25, fun _ _ => none⟩] noL (loopAt Try.f14 0) (haS q m el) (finX [5, 6] [some 0, some 1]) =
    cond (haT q) none (some ⟨.exit 0, haS q m el, .any⟩) := by kernel_rfl
end
end Go.Proofs.Ytkibceiellnggaa
