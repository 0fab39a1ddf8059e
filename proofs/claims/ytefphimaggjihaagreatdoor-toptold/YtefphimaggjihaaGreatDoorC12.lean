/-
  Rows of ours that are lent to a call: it reads them as what is not ours, and hands back nothing that points.
-/
import Derived.Test.YtefphimaggjihaaGreatDoorC10
import Derived.Test.YtefphimaggjihaaGreatDoorC11
namespace Go.Gv
open Go.RowKit Go.Ev
noncomputable section

end
end Go.Gv
