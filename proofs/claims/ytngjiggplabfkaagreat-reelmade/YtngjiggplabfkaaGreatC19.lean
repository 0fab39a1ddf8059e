/-
  Loops that are told, in a call that was handed rows.
-/
import Derived.Test.YtngjiggplabfkaaGreatC17
import Derived.Test.YtngjiggplabfkaaGreatC9
namespace Go.Gv
open Go.RowKit Go.Ev
noncomputable section

end
end Go.Gv
