/-
  The document's own Tokens.
-/
import Derived.Test.YtmckhkkbghihaaaDoorLxRfT
import Derived.Test.YtmckhkkbghihaaaDoorLxFin
import Derived.Test.YtmckhkkbghihaaaDoorLxLong
namespace Go.Proofs.YtmckhkkbghihaaaDoor
open Go.RowKit Go.WideShapes
namespace Lx

/-- The state ahead of a round. -/
structure Rs (N : Nat) (w0 : World) (g : Nat) (sv : Value) (n : Nat) (l : List UInt8) (gk : Nat) (hd : Bool) (b : Nat) (s : St) (wr : World) : Prop where
  e : s.at_ + gk = n
  x : RfX (N + 1) wr g sv s 0 0
  k : s.Ok n
  v : Via l cf0 ⟨hd, b, s⟩
  bl : b ≤ s.at_
  b : Below (N + 1) w0 wr
end Lx
end Go.Proofs.YtmckhkkbghihaaaDoor
