/-
  The reference: Compare.
-/
import Derived.Test.YteplmnnpmekngabRMul
namespace Go.Proofs.Yteplmnnpmekngab
open Go.RowKit

theorem Fm.pos {X : List Nat} (f : Fm true X) : 0 < val X := by
  rcases Nat.eq_zero_or_pos (val X) with h | h
  · have := (Tr_zero f.tr).1 h
    have := f.nn (List.eq_nil_of_length_eq_zero this)
    simp at this
  · exact h
theorem cmp_neg {x y : Nat} : cmpI (zv true x) (zv true y) = - cmpN x y := by
  simp only [cmpI, cmpN, zv, if_true]
  repeat' split
  all_goals omega
theorem cmp_pos {x y : Nat} : cmpI (zv false x) (zv false y) = cmpN x y := by
  simp only [cmpI, cmpN, zv, Bool.false_eq_true, if_false]
  repeat' split
  all_goals omega

end Go.Proofs.Yteplmnnpmekngab
