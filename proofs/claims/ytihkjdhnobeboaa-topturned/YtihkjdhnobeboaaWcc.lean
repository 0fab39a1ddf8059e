/-
  The code's Save and Load, as the law of a turned byte asks for them.
-/
import Derived.Test.YtihkjdhnobeboaaM2
import Derived.Test.YtihkjdhnobeboaaM3
namespace Go.Proofs.Ytihkjdhnobeboaa
open Go.Gv
theorem tuok : TurnOk := ⟨fun _ h => csave_G h, fun _ _ hg => cload_fresh hg⟩
end Go.Proofs.Ytihkjdhnobeboaa
