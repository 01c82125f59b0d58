/-
  Functions that hold numbers: one number turned, the first ones of another.
-/
import Derived.WalkKit
namespace Go.Proofs.YtjkpailkamafcaaGreatDoor

/-- Room of S cells. -/
def rm (S : Nat) : Nat := S * 2 / 3
/-- f, but v at i. -/
def upd (f : Nat → Int) (i : Nat) (v : Int) : Nat → Int := fun x => if x = i then v else f x
/-- The first k of l, the rest of f. -/
def mix (k : Nat) (l f : Nat → Int) : Nat → Int := fun x => if x < k then l x else f x
theorem mix_upd (k : Nat) (l f : Nat → Int) : upd (mix k l f) k (l k) = mix (k + 1) l f := by
  funext x
  unfold upd mix
  by_cases h : x = k
  · subst h
    rw [if_pos rfl, if_pos (by omega)]
  · rw [if_neg h]
    by_cases h2 : x < k
    · rw [if_pos h2, if_pos (by omega)]
    · rw [if_neg h2, if_neg (by omega)]
/-- The first k cells are empty. -/
def emp (k : Nat) : Nat → Int := fun x => if x < k then -1 else 0
theorem emp_upd (k : Nat) : upd (emp k) k (-1) = emp (k + 1) := by
  funext x
  unfold upd emp
  by_cases h : x = k
  · subst h
    rw [if_pos rfl, if_pos (by omega)]
  · rw [if_neg h]
    by_cases h2 : x < k
    · rw [if_pos h2, if_pos (by omega)]
    · rw [if_neg h2, if_neg (by omega)]
end Go.Proofs.YtjkpailkamafcaaGreatDoor
