/-
  What Sub does.
-/
import Derived.Test.YteplmnnpmekngabAddInt
namespace Go.Proofs.Yteplmnnpmekngab
open Go.RowKit

theorem SumRes.of {B : Nat} {w : World} {v : Value} {k z : Int} {x y : Nat} (h : ((pw 256 ≤ x ∨ pw 256 ≤ y) ∧ k = 3 ∧ v = .agg #[.bool false, .slice none 0 0]) ∨ ((x < pw 256 ∧ y < pw 256) ∧ Res B w v k z)) : SumRes B w v k x y z := h
end Go.Proofs.Yteplmnnpmekngab
