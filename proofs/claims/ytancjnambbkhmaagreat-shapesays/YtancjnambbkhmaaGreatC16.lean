/-
  Rows of ours that are lent to a call: it reads them as what is not ours, and hands back nothing that points.
-/
import Derived.Test.YtancjnambbkhmaaGreatC13
import Derived.Test.YtancjnambbkhmaaGreatC10
namespace Go.Gv
open Go.RowKit Go.Ev
noncomputable section

/-- A contract that is asked for where it is used, of rows that are lent. -/
def lendC (P:Program) (f:Nat) (g:List AV→AV):List AV→List Row→Option (Bool × AV × List Row):=fun args rs=>cond (plainA (g (lendL rs args))) (some (propB (FSpec P f (lendL rs args) (g (lendL rs args)))&&lendBL rs args,g (lendL rs args),rs)) none
def mS (P:Program) (f:Nat) (g:List AV→AV):MEntry:=⟨f,liftM none (lendC P f g),none⟩
end
end Go.Gv
