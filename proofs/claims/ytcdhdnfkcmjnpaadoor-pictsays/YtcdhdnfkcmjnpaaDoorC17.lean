/-
  Rows of ours that are lent to a call: it reads them as what is not ours, and hands back nothing that points.
-/
import Derived.Test.YtcdhdnfkcmjnpaaDoorC14
import Derived.Test.YtcdhdnfkcmjnpaaDoorC11
namespace Go.Gv
open Go.RowKit Go.Ev
noncomputable section

end
end Go.Gv
