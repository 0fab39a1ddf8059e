/-
  Rows of ours that are lent to a call: it reads them as what is not ours, and hands back nothing that points.
-/
import Derived.Test.YtngjiggplabfkaaGreatC12
import Derived.Test.YtngjiggplabfkaaGreatC9
namespace Go.Gv
open Go.RowKit Go.Ev
noncomputable section

end
end Go.Gv
