/-
  The iterator of table.All over entries.
-/
import Derived.Test.YtbdpecpmdglalaaGreatPrMem
import Derived.Test.YtbdpecpmdglalaaGreatTrs
import Derived.OwnWalkIn
import Derived.TacticsInMore
import Derived.LoopNIn
import Derived.LoopIn
namespace Go.Proofs.YtbdpecpmdglalaaGreat
open Go.RowKit Go.WideShapes
attribute [local go_sem] Oper.semAt_some

/-- How many of the first i entries live. -/
def cntL (es : List En) : Nat → Nat
  | 0 => 0
  | i + 1 => cntL es i + if (nth es i).live = true then 1 else 0
theorem cntL_le (es : List En) : ∀ {i j : Nat}, i ≤ j → cntL es i ≤ cntL es j := by
  intro i j h
  induction j with
  | zero => rw [show i = 0 by omega]; exact Nat.le_refl _
  | succ j ih =>
    rcases Nat.lt_or_ge i (j + 1) with y | y
    · exact Nat.le_trans (ih (by omega)) (Nat.le_add_right _ _)
    · rw [show i = j + 1 by omega]; exact Nat.le_refl _
end Go.Proofs.YtbdpecpmdglalaaGreat
