/-
  The reference: size.
-/
import Derived.Test.YteplmnnpmekngabRMade
namespace Go.Proofs.Yteplmnnpmekngab
open Go.RowKit

end Go.Proofs.Yteplmnnpmekngab
