/-
  The document's own lexer: a line begins.
-/
import Derived.Test.YtmckhkkbghihaaaDoorLxRf
namespace Go.Proofs.YtmckhkkbghihaaaDoor
open Go.RowKit Go.WideShapes
namespace Lx

/-- How a call of it ends: where it faults nothing but the fault counts. -/
def FnR (B : Nat) (w : World) (g : Nat) (sv : Value) (a : Nat) (x : Except Nat St) (w' : World) : Prop :=
  match x with
  | .error c => (∃ s, RfX B w' g sv s c a) ∧ Below B w w'
  | .ok s => RfX B w' g sv s 0 0 ∧ Below B w w'
end Lx
end Go.Proofs.YtmckhkkbghihaaaDoor
