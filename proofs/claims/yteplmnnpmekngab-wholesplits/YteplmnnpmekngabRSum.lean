/-
  The reference: sum.
-/
import Derived.Test.YteplmnnpmekngabRSize
import Derived.Test.YteplmnnpmekngabRPlus
namespace Go.Proofs.Yteplmnnpmekngab
open Go.RowKit

theorem IntIs.len_le {B : Nat} {w : World} {neg : Bool} {a : Option Addr} {n c : Nat} {z : Int} (h : IntIs B w (.agg #[.bool neg, .slice a n c]) z) (k : Nat) (hz : z.natAbs < pw k) : n ≤ k := by
  obtain ⟨xs, ho, ok, fm, e⟩ := h.open
  rw [ho.len]
  exact Tr_len_le fm.tr k (by rw [← e, zv_abs] at hz; exact hz)

/-- Two Ints in their boxes, N and N + 1. -/
def C4 (N : Nat) (na : Bool) (ax : Option Addr) (nx cx : Nat) (nb : Bool) (ay : Option Addr) (ny cy : Nat) (W : World) : Prop :=
  W.cell? ⟨N, 0, none⟩ = some (.bool na) ∧ W.cell? ⟨N, 1, none⟩ = some (.slice ax nx cx) ∧ W.cell? ⟨N + 1, 0, none⟩ = some (.bool nb) ∧ W.cell? ⟨N + 1, 1, none⟩ = some (.slice ay ny cy)
section
variable {N : Nat} {na : Bool} {ax : Option Addr} {nx cx : Nat} {nb : Bool} {ay : Option Addr} {ny cy : Nat} {W W' : World}
theorem C4.mk (hA : Box2 W N na ax nx cx) (hB : Box2 W (N + 1) nb ay ny cy) : C4 N na ax nx cx nb ay ny cy W := ⟨hA.c0, hA.c1, hB.c0, hB.c1⟩
theorem C4.drew (h : C4 N na ax nx cx nb ay ny cy W) : C4 N na ax nx cx nb ay ny cy W.drew := h
theorem C4.keep (h : C4 N na ax nx cx nb ay ny cy W) (hb : Below W.heap.size W W') : C4 N na ax nx cx nb ay ny cy W' :=
  ⟨cell_below h.1 hb, cell_below h.2.1 hb, cell_below h.2.2.1 hb, cell_below h.2.2.2 hb⟩
theorem C4.put (h : C4 N na ax nx cx nb ay ny cy W) (x : Bool) (s : Value) : C4 N na ax nx cx nb ay ny cy ((W.setCell ⟨N + 1 + 1, 0, none⟩ (.bool x)).setCell ⟨N + 1 + 1, 1, none⟩ s) := by
  have o : ∀ p : Addr, p.block < N + 1 + 1 → ((W.setCell ⟨N + 1 + 1, 0, none⟩ (.bool x)).setCell ⟨N + 1 + 1, 1, none⟩ s).cell? p = W.cell? p := fun p hp => by
    rw [World.cell?_setCell_other _ _ _ _ (by intro e; rw [← e] at hp; simp at hp), World.cell?_setCell_other _ _ _ _ (by intro e; rw [← e] at hp; simp at hp)]
  exact ⟨(o _ (by simp; omega)).trans h.1, (o _ (by simp; omega)).trans h.2.1, (o _ (by simp)).trans h.2.2.1, (o _ (by simp)).trans h.2.2.2⟩
end

end Go.Proofs.Yteplmnnpmekngab
