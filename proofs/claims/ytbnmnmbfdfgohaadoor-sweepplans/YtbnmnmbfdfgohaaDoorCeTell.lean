/-
  What cells tell of themselves; which cell and what value are refused.
-/
import Derived.Test.YtbnmnmbfdfgohaaDoorCeMem
namespace Go.Proofs.YtbnmnmbfdfgohaaDoor
open Go.RowKit Go.WideShapes

/-- A nil Cells, or a zero one. -/
def No (w : World) (v : Value) : Prop := v = .pointer none ∨ ∃ g, v = .pointer (some ⟨g, 0, none⟩) ∧ w.cell? ⟨g, 1, none⟩ = some .nilIface
theorem i64_small {x : Int} (h0 : -9223372036854775808 ≤ x) (h1 : x < 9223372036854775808) : IntKind.i64.wrap x = x := by
  rw [IntKind.wrap_i64]; omega
/-- Whether there is such a cell; whether it may hold that. -/
def ixE (S : Nat) (i : Int) : Int := if 0 ≤ i ∧ i < (S : Int) then 0 else 5
def may (S : Nat) (v : Int) : Bool := decide (-2 ≤ v ∧ v < ((rm S : Nat) : Int))
end Go.Proofs.YtbnmnmbfdfgohaaDoor
