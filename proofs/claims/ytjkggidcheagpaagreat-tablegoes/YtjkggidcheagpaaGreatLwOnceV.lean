/-
  A nil meter's Visit.
-/
import Derived.Test.YtjkggidcheagpaaGreatDtb
import Derived.Test.YtjkggidcheagpaaGreatLdn
namespace Go.Proofs.YtjkggidcheagpaaGreat
open Go.RowKit Go.WideShapes

theorem nvisit_nil (n : Int) (w : World) : Calls Tryz.prog 82 #[.pointer none, .int .i64 n] w fun e w' => e = .returned (.tuple #[]) ∧ w' = w := by
  go_enter Tryz.func82, Tryz.ntmps82
  go_wp2_with fail
  refine (ncount_nil 1 n w).mono ?_
  rintro e w' ⟨rfl, rfl⟩
  go_wp2
  go_end0
  exact ⟨rfl, rfl⟩
theorem mvOk_nil : MvOk (.pointer none) noM := fun a b w _ _ _ => (nvisit_nil 1 w).mono fun e w' ⟨h1, h2⟩ => ⟨h1, trivial, by rw [h2]; exact Ex.refl _ _⟩
end Go.Proofs.YtjkggidcheagpaaGreat
