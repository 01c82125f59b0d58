/-
  WholeRests, walked.
-/
import Derived.Test.YteplmnnpmekngabRefRest
import Derived.Test.YteplmnnpmekngabAwake
namespace Go.Proofs.Yteplmnnpmekngab
open Go.RowKit

end Go.Proofs.Yteplmnnpmekngab
