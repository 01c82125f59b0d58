/-
  The reference: Mul.
-/
import Derived.Test.YteplmnnpmekngabRTimes
namespace Go.Proofs.Yteplmnnpmekngab
open Go.RowKit

theorem Box2.putOther {w : World} {N M : Nat} {neg : Bool} {a : Option Addr} {n cap : Nat} (h : Box2 w N neg a n cap) (hne : N ≠ M) (x : Bool) (s : Value) : Box2 (put2 w M x s) N neg a n cap := by
  have o : ∀ j, (put2 w M x s).cell? ⟨N, j, none⟩ = w.cell? ⟨N, j, none⟩ := fun j => by
    unfold put2
    rw [World.cell?_setCell_other _ _ _ _ (by intro e; injection e with e; omega), World.cell?_setCell_other _ _ _ _ (by intro e; injection e with e; omega)]
  have f : ∀ j, (put2 w M x s).frozen? ⟨N, j, none⟩ = w.frozen? ⟨N, j, none⟩ := fun j => by
    unfold put2
    rw [World.frozen?_setCell, World.frozen?_setCell]
  exact ⟨(o 0).trans h.c0, (o 1).trans h.c1, (f 0).trans h.f0, (f 1).trans h.f1⟩
theorem pw_prod {z x y : Int} (hx : x.natAbs < pw 256) (hy : y.natAbs < pw 256) (h : z = x * y) : z.natAbs < pw 512 := by
  have e : pw 512 = pw 256 * pw 256 := pw_add 256 256
  rw [h, e, Int.natAbs_mul]
  exact Nat.mul_lt_mul'' hx hy

end Go.Proofs.Yteplmnnpmekngab
