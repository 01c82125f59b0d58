/-
  each of the rows of three widths, where a range over a function goes through it.
-/
import Derived.Test.YtpigbnlapcndgaaGreatCrw
import Derived.Test.YtpigbnlapcndgaaGreatTrs
import Derived.OwnWalkIn
import Derived.TacticsInMore
import Derived.LoopNIn
import Derived.LoopIn
namespace Go.Proofs.YtpigbnlapcndgaaGreat
open Go.RowKit Go.WideShapes
attribute [local go_sem] Oper.semAt_some

end Go.Proofs.YtpigbnlapcndgaaGreat
