/-
  What the reference's All does.
-/
import Derived.Test.YtgillafjccgkdaaDoorLeAwake
import Derived.Test.YtgillafjccgkdaaDoorLeBytes
namespace Go.Proofs.YtgillafjccgkdaaDoor
open Go.RowKit Go.Lib

/-- A slice of texts that the call has made. -/
def OwnS (B : Nat) (w : World) (v : Value) (ss : List ByteArray) : Prop := w.ownsRow B 9 1 v ss.length (ss.map Value.string)
theorem Tryd.infoStr : (Tryd.prog.info? 9).map (fun i => (i.zero, i.size, i.bytes)) = some (some (.string ⟨#[]⟩), 1, 16) := by kernel_rfl
theorem OwnS.nil (B : Nat) (w : World) : OwnS B w (.slice none 0 0) [] := World.ownsRow_nil _ _ _ _
/-- The pieces as texts. -/
def pcs (rs : List Nat) : List ByteArray := rs.map fun r => ⟨(enc r).toArray⟩
theorem pcs_len (rs : List Nat) : (pcs rs).length = rs.length := by simp [pcs]
theorem OwnS.form {B : Nat} {w : World} {v : Value} {ss : List ByteArray} (h : OwnS B w v ss) : ∃ a cap, v = .slice a ss.length cap ∧ ∀ j (hj : j < ss.length), ∃ g, B ≤ g ∧ g < w.heap.size ∧ a = some ⟨g, 0, none⟩ ∧ w.cell? ⟨g, j, none⟩ = some (.string ss[j]) := by
  rcases h.2 with ⟨rfl, h0⟩ | ⟨g, cap, cur, rfl, hg, hh, hc, _, hs, ht⟩
  · exact ⟨none, 0, by rw [h0], fun j hj => by omega⟩
  · refine ⟨_, cap, rfl, fun j hj => ⟨g, hg, (Array.getElem?_eq_some_iff.1 hh).1, rfl, ?_⟩⟩
    have := h.cells (g := g) rfl j (.string ss[j]) (by simp [hj])
    rw [WideShapes.add_plain] at this
    simpa using this
theorem OwnS.below {B : Nat} {w w' : World} {v : Value} {bs : List ByteArray} (h : OwnS B w v bs) (hb : Below w.heap.size w w') : OwnS B w' v bs := by
  refine ⟨h.1, ?_⟩
  rcases h.2 with h4 | ⟨g, cap, cur, e1, e2, e3, e4⟩
  · exact .inl h4
  · exact .inr ⟨g, cap, cur, e1, e2, (hb.block g (Array.getElem?_eq_some_iff.1 e3).1).trans e3, e4⟩

end Go.Proofs.YtgillafjccgkdaaDoor
