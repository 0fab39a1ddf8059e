/-
  A loop that is told, and begins with a nil slice in a struct of ours.
-/
import Derived.Test.YtefphimaggjihaaGreatDoorC8
namespace Go.Gv
open Go.RowKit Go.Ev
noncomputable section

end
end Go.Gv
