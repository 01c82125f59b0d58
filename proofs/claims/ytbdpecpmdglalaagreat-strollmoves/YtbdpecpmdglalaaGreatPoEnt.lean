/-
  The law's entries: two rows that hold the same.
-/
import Derived.Test.YtbdpecpmdglalaaGreatPrPairs
import Derived.Test.YtbdpecpmdglalaaGreatLwMem
namespace Go.Proofs.YtbdpecpmdglalaaGreat
open Go.RowKit Go.WideShapes

/-- An entry's five cells, with a key alone. -/
def keyW (w : World) (ge n : Nat) (b : Int) : World := ((((w.setCell ⟨ge, n * 5, none⟩ (.bool false)).setCell ⟨ge, n * 5 + 1, none⟩ (.int .i64 0)).setCell ⟨ge, n * 5 + 2, none⟩ (.int .i64 b)).setCell ⟨ge, n * 5 + 3, none⟩ (.int .i64 0)).setCell ⟨ge, n * 5 + 4, none⟩ (.int .i64 0)
theorem keyW_but (w : World) (ge n : Nat) (b : Int) : But ge w (keyW w ge n b) := by
  unfold keyW
  exact (((((But.refl ge w).setCell _ _).setCell _ _).setCell _ _).setCell _ _).setCell _ _
theorem Es.keyed {w : World} {ge cap : Nat} {es : List En} (h : Es w (.slice (some ⟨ge, 0, none⟩) es.length cap) es) (n : Nat) (hn : n < es.length) (b : Int) : Es (keyW w ge n b) (.slice (some ⟨ge, 0, none⟩) es.length cap) (es.set n ⟨false, 0, b, 0, 0⟩) := by
  have e0 : Es (w.setCell ⟨ge, n * 5 + 0, none⟩ (.bool false)) (.slice (some ⟨ge, 0, none⟩) es.length cap) (es.set n ⟨false, (nth es n).hash, (nth es n).key, (nth es n).value, (nth es n).birth⟩) := Es.put rfl h n 0 hn (by decide) (.bool false) _ rfl rfl
  have sh : ∀ (es : List En) (e : En), n < es.length → nth (es.set n e) n = e := fun es e h => by rw [nth_set h, if_pos rfl]
  have e1 := Es.put (by simp) e0 n 1 (by simpa using hn) (by decide) (.int .i64 0) ⟨false, 0, (nth es n).key, (nth es n).value, (nth es n).birth⟩ (by rw [sh _ _ hn]; rfl) rfl
  rw [List.set_set] at e1
  have e2 := Es.put (by simp) e1 n 2 (by simpa using hn) (by decide) (.int .i64 b) ⟨false, 0, b, (nth es n).value, (nth es n).birth⟩ (by rw [sh _ _ hn]; rfl) rfl
  rw [List.set_set] at e2
  have e3 := Es.put (by simp) e2 n 3 (by simpa using hn) (by decide) (.int .i64 0) ⟨false, 0, b, 0, (nth es n).birth⟩ (by rw [sh _ _ hn]; rfl) rfl
  rw [List.set_set] at e3
  have e4 := Es.put (by simp) e3 n 4 (by simpa using hn) (by decide) (.int .i64 0) ⟨false, 0, b, 0, 0⟩ (by rw [sh _ _ hn]; rfl) rfl
  rw [List.set_set, Nat.add_zero] at e4
  exact e4
end Go.Proofs.YtbdpecpmdglalaaGreat
