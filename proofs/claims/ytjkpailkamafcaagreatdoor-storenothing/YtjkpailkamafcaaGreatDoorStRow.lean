/-
  Rows of ints of one's own.
-/
import Derived.Test.YtjkpailkamafcaaGreatDoorEnMem
import Derived.LoopTactic
import Derived.OwnWalkIn
namespace Go.Proofs.YtjkpailkamafcaaGreatDoor
open Go.RowKit Go.WideShapes

theorem Tryz.infoN : (Tryz.prog.info? 3).map (fun i => (i.zero, i.size, i.bytes)) = some (some (.int .i64 0), 1, 8) := by kernel_rfl
/-- Ints in a row of their own, from block B on. -/
def IntsR (B : Nat) (w : World) (v : Value) (l : List Int) : Prop := w.ownsRow B 3 1 v l.length (l.map fun x : Int => Value.int .i64 x)
theorem IntsR.nil (B : Nat) (w : World) : IntsR B w (.slice none 0 0) [] := ⟨rfl, Or.inl ⟨rfl, rfl⟩⟩
theorem intsR_snoc {B : Nat} {w1 : World} {v' : Value} {l : List Int} {d : Int} (h : w1.ownsRow B 3 1 v' (l.length + 1) ((l.map fun x : Int => Value.int .i64 x) ++ [Value.int .i64 d])) : IntsR B w1 v' (l ++ [d]) := by
  unfold IntsR
  simpa using h
theorem newR_one (w : World) (x : Value) (t : TypeId) : ∀ j u, [x][j]? = some u → (w.alloc (.cells #[x] t)).cell? (Addr.add ⟨w.heap.size, 0, none⟩ j) = some u := by
  intro j u hj
  match j, hj with
  | 0, hj => rw [WideShapes.add_plain, World.cell?_alloc_at _ _ _ _ rfl]; simpa using hj
  | j + 1, hj => simp at hj
theorem belowR_grown {B n : Nat} {w wr w1 : World} {v : Value} {xs : List Value} {o : Obj} {t : TypeId} (hb : Below B w wr) (hB : B ≤ w.heap.size) (hown : wr.ownsRow B t 1 v n xs) (hg : (wr.alloc o).grownBy w1 v.ownBlock) : Below B w w1 := by
  refine (hb.alloc (Nat.le_trans hB hb.size) o).grown hg (by simp; have := hb.size; omega) (fun k e => ?_)
  rcases hown.2 with ⟨rfl, _⟩ | ⟨g, cap, cur, rfl, h1, _⟩
  · cases e
  · simp [Value.ownBlock] at e
    omega
/-- A row of one's own, laid open as a block. -/
theorem IntsR.open {B : Nat} {w : World} {v : Value} {l : List Int} (h : IntsR B w v l) : ∃ a cap g, v = .slice a l.length cap ∧ l.length ≤ cap ∧ (0 < l.length → a = some ⟨g, 0, none⟩ ∧ g < w.heap.size ∧ B ≤ g ∧ Blk w g l.length (fun j => .int .i64 (l[j]?.getD 0))) := by
  have h0 : w.ownsRow B 3 1 v l.length (l.map fun x : Int => Value.int .i64 x) := h
  rcases h0.2 with ⟨rfl, h1⟩ | ⟨g, cap, cur, rfl, hg, hh, hc, _⟩
  · obtain rfl : l = [] := List.eq_nil_of_length_eq_zero h1
    exact ⟨none, 0, 0, rfl, Nat.le_refl _, fun h => absurd h (by simp)⟩
  · refine ⟨_, cap, g, rfl, hc, fun _ => ⟨rfl, (Array.getElem?_eq_some_iff.1 hh).1, hg, fun j hj => ?_, fun j => h0.frozenAt j⟩⟩
    rw [h0.cellAt j (by simpa using hj)]
    simp [hj]
end Go.Proofs.YtjkpailkamafcaaGreatDoor
