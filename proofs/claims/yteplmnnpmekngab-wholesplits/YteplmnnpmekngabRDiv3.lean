/-
  The reference: Divide where it comes out plain.
-/
import Derived.Deep.CutBlock
import Derived.Test.YteplmnnpmekngabRDiv2
namespace Go.Proofs.Yteplmnnpmekngab
open Go.RowKit

end Go.Proofs.Yteplmnnpmekngab
