/-
  The reference: Divide.
-/
import Derived.Test.YteplmnnpmekngabDivZ
namespace Go.Proofs.Yteplmnnpmekngab
open Go.RowKit

theorem boxes4 (w : World) (n0 n1 : Bool) (a0 a1 : Option Addr) (l0 c0 l1 c1 : Nat) (t : TypeId) :
    let W := (((w.alloc (.cells #[.bool n0, .slice a0 l0 c0] t)).alloc (.cells #[.bool n1, .slice a1 l1 c1] t)).alloc (.cells #[.bool false, .slice none 0 0] t)).alloc (.cells #[.bool false, .slice none 0 0] t)
    Box2 W w.heap.size n0 a0 l0 c0 ∧ Box2 W (w.heap.size + 1) n1 a1 l1 c1 ∧ Box2 W (w.heap.size + 1 + 1) false none 0 0 ∧ Box2 W (w.heap.size + 1 + 1 + 1) false none 0 0 ∧ Below w.heap.size w W := by
  intro W
  obtain ⟨h0, h1, h2, h3⟩ := boxes3 w n0 n1 false a0 a1 none l0 c0 l1 c1 0 0 t
  have hb := below_alloc (((w.alloc (.cells #[.bool n0, .slice a0 l0 c0] t)).alloc (.cells #[.bool n1, .slice a1 l1 c1] t)).alloc (.cells #[.bool false, .slice none 0 0] t)) (.cells #[.bool false, .slice none 0 0] t)
  refine ⟨h0.below hb, h1.below hb, h2.below hb, ?_, h3.trans (hb.mono h3.size)⟩
  have := Box2.new (((w.alloc (.cells #[.bool n0, .slice a0 l0 c0] t)).alloc (.cells #[.bool n1, .slice a1 l1 c1] t)).alloc (.cells #[.bool false, .slice none 0 0] t)) false none 0 0 t
  simpa using this

end Go.Proofs.Yteplmnnpmekngab
