/-
  Pairs.
-/
import Derived.Test.YtbdpecpmdglalaaGreatPrAll2
import Derived.Test.YtbdpecpmdglalaaGreatRgBox
namespace Go.Proofs.YtbdpecpmdglalaaGreat
open Go.RowKit Go.WideShapes
attribute [local go_sem] Oper.semAt_some

/-- How Pairs stands behind k pairs. -/
structure PaI (w : World) (es : List En) (N G bp b : Nat) (v0 : Value) (B3 : Nat) (k : Nat) (W : World) : Prop where
  bl : Below w.heap.size w W
  bx : W.cell? ⟨bp, 0, none⟩ = some (.slice (some ⟨G, 0, none⟩) k N)
  fz : W.frozen? ⟨bp, 0, none⟩ = false
  ow : W.ownsRow w.heap.size 53 5 (.slice (some ⟨G, 0, none⟩) k N) k (enl ((liveL es).take k))
  es : Es W v0 es
  ib : W.cell? ⟨b, 0, none⟩ = some v0
  sz : B3 ≤ W.heap.size
/-- What of it hangs on memory. -/
theorem PaI.below {w : World} {es : List En} {N G bp b : Nat} {v0 : Value} {B3 k : Nat} {A A' : World} (h : PaI w es N G bp b v0 B3 k A) (hb : Below B3 A A') (hG : G < B3) (hbp : bp < B3) (hbb : b < B3) (hv : ∀ j, v0.ownBlock = some j → j < B3) (hw : w.heap.size ≤ B3) : PaI w es N G bp b v0 B3 k A' :=
  ⟨h.bl.trans (hb.mono hw), (hb.cell (p := ⟨bp, 0, none⟩) hbp).trans h.bx, (World.frozen?_of_block (a := ⟨bp, 0, none⟩) (hb.block bp hbp)).trans h.fz, by
    refine ⟨h.ow.1, ?_⟩
    rcases h.ow.2 with h0 | ⟨g, cap, cur, e, h1, h2, h3⟩
    · exact .inl h0
    · refine .inr ⟨g, cap, cur, e, h1, (hb.block g ?_).trans h2, h3⟩
      cases e
      exact hG, h.es.same fun j hj => hb.block j (hv j hj), (hb.cell (p := ⟨b, 0, none⟩) hbb).trans h.ib, Nat.le_trans h.sz hb.size⟩
end Go.Proofs.YtbdpecpmdglalaaGreat
