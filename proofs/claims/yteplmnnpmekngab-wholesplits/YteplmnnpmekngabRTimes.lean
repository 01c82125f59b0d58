/-
  The reference: times.
-/
import Derived.Test.YteplmnnpmekngabRAdd
namespace Go.Proofs.Yteplmnnpmekngab
open Go.RowKit

end Go.Proofs.Yteplmnnpmekngab
