/-
  The law of skins.
-/
import Derived.Test.YtkibceiellnggaaSk20
namespace Go.Proofs.Ytkibceiellnggaa
open Go.Gv

section
variable (p x : Pic) (w u v k : Int) (M : Nat) (fs : Nat → Pic)
theorem law_ev1 : ev Try.prog [] (lawK p x w u v 0 0 0 0 1 0 0 0 M (fun _ => 0) fs) (lawL p M fs k) Try.f3 (a4 p w u v) ret = gate ([AV.agg p.c] = [AV.agg p.c]) (gate (a4 p w u v = a4 p w u v) (gate (a4 p w u v = a4 p w u v) (gate ([AV.agg p.c] = [AV.agg p.c]) (gate ([AV.agg p.c] = [AV.agg p.c]) (gate ([AV.agg p.c] = [AV.agg p.c]) (gate ([AV.agg p.c] = [AV.agg p.c]) (gate ([AV.agg x.c, .agg x.c] = [AV.agg x.c, .agg x.c]) (gate ([AV.agg p.c] = [AV.agg p.c]) (gate (Sub (lwS p M fs 0) (lwS p M fs 0)) (some (Out.of (.x (.bool true))))))))))))) := by kernel_rfl
theorem law_ev3 : ev Try.prog [] (lawK p x w u v 0 0 0 0 3 0 0 0 M (fun _ => 0) fs) (lawL p M fs k) Try.f3 (a4 p w u v) ret = gate ([AV.agg p.c] = [AV.agg p.c]) (gate (a4 p w u v = a4 p w u v) (gate (a4 p w u v = a4 p w u v) (gate ([AV.agg p.c] = [AV.agg p.c]) (gate ([AV.agg p.c] = [AV.agg p.c]) (gate ([AV.agg p.c] = [AV.agg p.c]) (gate ([AV.agg p.c] = [AV.agg p.c]) (gate ([AV.agg x.c, .agg x.c] = [AV.agg x.c, .agg x.c]) (gate ([AV.agg p.c] = [AV.agg p.c]) (gate (Sub (lwS p M fs 0) (lwS p M fs 0)) (some (Out.of (.x (.bool true))))))))))))) := by kernel_rfl
theorem law_ev4 : ev Try.prog [] (lawK p x w u v 0 0 0 0 4 4 4 0 0 (fun _ => 0) fs) (oneL 16 fun _ _ => none) Try.f3 (a4 p w u v) ret = gate ([AV.agg p.c] = [AV.agg p.c]) (gate (a4 p w u v = a4 p w u v) (gate (a4 p w u v = a4 p w u v) (gate ([AV.agg p.c] = [AV.agg p.c]) (gate ([AV.agg p.c] = [AV.agg p.c]) (gate ([AV.agg p.c] = [AV.agg p.c]) (gate ([AV.agg p.c] = [AV.agg p.c]) (gate ([AV.agg x.c, .agg x.c] = [AV.agg x.c, .agg x.c]) (gate ([AV.agg p.c] = [AV.agg p.c]) (some (Out.of (.x (.bool true)))))))))))) := by kernel_rfl
theorem law_ev5 : ev Try.prog [] (lawK p x w u v 0 0 0 0 5 5 5 0 0 (fun _ => 0) fs) (oneL 16 fun _ _ => none) Try.f3 (a4 p w u v) ret = gate ([AV.agg p.c] = [AV.agg p.c]) (gate (a4 p w u v = a4 p w u v) (gate (a4 p w u v = a4 p w u v) (gate ([AV.agg p.c] = [AV.agg p.c]) (gate ([AV.agg p.c] = [AV.agg p.c]) (gate ([AV.agg p.c] = [AV.agg p.c]) (gate ([AV.agg p.c] = [AV.agg p.c]) (gate ([AV.agg x.c, .agg x.c] = [AV.agg x.c, .agg x.c]) (gate ([AV.agg p.c] = [AV.agg p.c]) (some (Out.of (.x (.bool true)))))))))))) := by kernel_rfl
theorem law_evH : ev Try.prog [] [kfix 6 [.agg p.c] (.x (.bool true)), ⟨7, fun _ _ => none⟩] (oneL 16 fun _ _ => none) Try.f3 (a4 p w u v) ret = gate ([AV.agg p.c] = [AV.agg p.c]) (some (Out.of (.x (.bool true)))) := by kernel_rfl
end
end Go.Proofs.Ytkibceiellnggaa
