/-
  Cells in memory; the functions that tell their size, room and width.
-/
import Derived.Test.YtbnmnmbfdfgohaaDoorRows
import Derived.Test.YtbnmnmbfdfgohaaDoorFnMath
import Derived.WalkKit
import Derived.Below
import Derived.LoopTactic
import Derived.OwnWalkIn
namespace Go.Proofs.YtbnmnmbfdfgohaaDoor
open Go.RowKit Go.WideShapes

theorem Lib.hid {p : Prop} (h : p) : Hid p := h
theorem lt_of_cell {w : World} {b o : Nat} {v : Value} (h : w.cell? ⟨b, o, none⟩ = some v) : b < w.heap.size := by
  by_cases hb : b < w.heap.size
  · exact hb
  · rw [World.cell?, Array.getElem?_eq_none (Nat.le_of_not_lt hb)] at h
    exact absurd h (by simp)
/-- A table of S = 2 ^ L cells. -/
structure Sz (L S : Nat) : Prop where
  eq : 2 ^ L = S
  ge : 3 ≤ L
  le : L ≤ 20
theorem Sz.pos {L S : Nat} (h : Sz L S) : 8 ≤ S := by
  rw [← h.eq]
  exact Nat.le_trans (by decide) (Nat.pow_le_pow_right (by decide) h.ge)
theorem Sz.most {L S : Nat} (h : Sz L S) : S ≤ 1048576 := by
  rw [← h.eq]
  exact Nat.le_trans (Nat.pow_le_pow_right (by decide) h.le) (by decide)
theorem Sz.most7 {L S : Nat} (h : Sz L S) (h7 : L ≤ 7) : S ≤ 128 := by
  rw [← h.eq]
  exact Nat.le_trans (Nat.pow_le_pow_right (by decide) h7) (by decide)
theorem Sz.most15 {L S : Nat} (h : Sz L S) (h7 : L ≤ 15) : S ≤ 32768 := by
  rw [← h.eq]
  exact Nat.le_trans (Nat.pow_le_pow_right (by decide) h7) (by decide)
theorem Sz.int {L S : Nat} (h : Sz L S) : (2 : Int) ^ L = (S : Int) := by rw [← h.eq]; push_cast; rfl
theorem Sz.i64 {L S : Nat} (h : Sz L S) : IntKind.i64.wrap ((2 : Int) ^ L) = (S : Int) := by
  have h1 := h.most
  rw [h.int, IntKind.wrap_i64]
  omega
theorem log_cases (l : Int) : (∃ L S : Nat, l = (L : Int) ∧ Sz L S) ∨ ¬ (3 ≤ l ∧ l ≤ 20) := by
  by_cases h : 3 ≤ l ∧ l ≤ 20
  · exact .inl ⟨l.toNat, 2 ^ l.toNat, by omega, rfl, by omega, by omega⟩
  · exact .inr h

theorem wrap_i8 (n : Int) : IntKind.i8.wrap n = (n + 128) % 256 - 128 := by
  simp [IntKind.wrap, IntKind.bits, IntKind.signed]
  split <;> omega
theorem wrap_i16 (n : Int) : IntKind.i16.wrap n = (n + 32768) % 65536 - 32768 := by
  simp [IntKind.wrap, IntKind.bits, IntKind.signed]
  split <;> omega
/-- Bytes of a cell; its kind; the type of its row; the methods of that row. -/
def wd (L : Nat) : Nat := if L ≤ 7 then 1 else if L ≤ 15 then 2 else 4
def kd (L : Nat) : IntKind := if L ≤ 7 then .i8 else if L ≤ 15 then .i16 else .i32
theorem L_cases (L : Nat) : L ≤ 7 ∨ (¬ L ≤ 7 ∧ L ≤ 15) ∨ (¬ L ≤ 7 ∧ ¬ L ≤ 15) := by omega

/-- A row of S cells at block h, its head at block r. -/
structure Rw (w : World) (r h : Nat) (k : IntKind) (W S cap : Nat) (f : Nat → Int) : Prop where
  r0 : w.cell? ⟨r, 0, none⟩ = some (.int .i64 (W : Int))
  r1 : w.cell? ⟨r, 1, none⟩ = some (.slice (some ⟨h, 0, none⟩) S cap)
  le : S ≤ cap
  hc : ∀ j, j < S → w.cell? ⟨h, j, none⟩ = some (.int k (f j))
  hz : ∀ j, w.frozen? ⟨h, j, none⟩ = false
end Go.Proofs.YtbnmnmbfdfgohaaDoor
