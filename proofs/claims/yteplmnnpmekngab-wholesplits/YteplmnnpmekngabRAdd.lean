/-
  The reference: Add, Sub.
-/
import Derived.Test.YteplmnnpmekngabRSum
namespace Go.Proofs.Yteplmnnpmekngab
open Go.RowKit

theorem pw_sum {z x y : Int} (hx : x.natAbs < pw 256) (hy : y.natAbs < pw 256) (h : z = x + y) : z.natAbs < pw 257 := by
  have e : pw 257 = pw 1 * pw 256 := pw_add 1 256
  rw [show pw 1 = 4294967296 from rfl] at e
  have := Int.natAbs_add_le x y
  rw [h, e]
  omega

end Go.Proofs.Yteplmnnpmekngab
