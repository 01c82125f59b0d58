/-
  What letters.Quote answers.
-/
import Derived.Test.YtgillafjccgkdaaDoorLeQuote
namespace Go.Proofs.YtgillafjccgkdaaDoor
open Go.RowKit Go.Lib

theorem qrs_app (a b : List Nat) : qrs (a ++ b) = qrs a ++ qrs b := by simp [qrs]

end Go.Proofs.YtgillafjccgkdaaDoor
