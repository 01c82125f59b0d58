/-
  The reference: Divide by 0, and of numbers that fit.
-/
import Derived.Deep.CutBlock
import Derived.Test.YteplmnnpmekngabRDiv
namespace Go.Proofs.Yteplmnnpmekngab
open Go.RowKit

end Go.Proofs.Yteplmnnpmekngab
