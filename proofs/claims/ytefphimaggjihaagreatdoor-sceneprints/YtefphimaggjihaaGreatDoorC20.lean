/-
  A row of ours that is not written any more: frozen.
-/
import Derived.Test.YtefphimaggjihaaGreatDoorC8
namespace Go.Gv
open Go.RowKit Go.Ev

end Go.Gv
