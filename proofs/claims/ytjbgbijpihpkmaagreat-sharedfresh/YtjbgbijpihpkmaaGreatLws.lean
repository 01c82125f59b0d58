/-
  A list of ints that was handed in.
  A list of ints that was handed in as data, laid open.
-/
import Derived.Test.YtjbgbijpihpkmaaGreatCel
import Derived.Test.YtjbgbijpihpkmaaGreatTrOpen
namespace Go.Proofs.YtjbgbijpihpkmaaGreat
open Go.RowKit Go.WideShapes

/-- Ints in a row, at block b from off on. -/
def SegI (w : World) (b off : Nat) (l : List Int) : Prop := ∀ j, j < l.length → w.cell? ⟨b, off + j, none⟩ = some (.int .i64 (l[j]?.getD 0))
def SlI (w : World) (a : Option Addr) (n cap : Nat) (l : List Int) : Prop := n = l.length ∧ l.length ≤ cap ∧ ∃ b off, (0 < l.length → a = some ⟨b, off, none⟩ ∧ b < w.heap.size) ∧ SegI w b off l
theorem SlI.below {w w' : World} {a : Option Addr} {n cap : Nat} {l : List Int} (h : SlI w a n cap l) (hb : Below w.heap.size w w') : SlI w' a n cap l := by
  obtain ⟨h1, h2, b, off, h3, h4⟩ := h
  refine ⟨h1, h2, b, off, fun h0 => ⟨(h3 h0).1, Nat.lt_of_lt_of_le (h3 h0).2 hb.size⟩, fun j hj => ?_⟩
  exact (hb.cell (p := ⟨b, off + j, none⟩) (h3 (by omega)).2).trans (h4 j hj)
/-- The ints of a list, laid open. -/
theorem SlI.open {w : World} {a : Option Addr} {n cap : Nat} {l : List Int} (h : SlI w a n cap l) : ∃ b off, (0 < n → a = some ⟨b, off, none⟩ ∧ b < w.heap.size) ∧ n = l.length ∧ n ≤ cap ∧ ∀ j, j < n → w.cell? ⟨b, off + j, none⟩ = some (.int .i64 (l[j]?.getD 0)) := by
  obtain ⟨h1, h2, b, off, h3, h4⟩ := h
  exact ⟨b, off, by rw [h1]; exact h3, h1, by omega, fun j hj => h4 j (by omega)⟩
end Go.Proofs.YtjbgbijpihpkmaaGreat
namespace Go.Proofs.YtjbgbijpihpkmaaGreat
open Go.ChangeShapes Go.WideShapes Go.ChangeAt Go.RowKit Go.Joins

theorem Tryz.cellsI : Tryz.prog.cellsOf 3 = 1 := by kernel_rfl
set_option maxRecDepth 100000 in
theorem ints_open {H : Type} {enc : TypeId × Value → H} {W : World} {r : Reach} {base : Nat} {v : Value} {d : DataW H} {p : List MemPlace} (hv : Value.okWide Tryz.prog W r base 31 v) (h : DataW.Trod enc Tryz.prog W 0 (fun _ => true) true 31 v d p) :
    ∃ a n c l, v = .slice a n c ∧ SlI W a n c l ∧ ∀ x ∈ l, -9223372036854775808 ≤ x ∧ x ≤ 9223372036854775807 := by
  obtain ⟨a0, n0, c0, rfl⟩ := okWide_slice Tryz.underlying31 hv
  have h' := h
  obtain ⟨fuel, hf⟩ := h
  rcases open_ints Tryz.underlying31 Tryz.underlying3 Tryz.cellsI hf with ⟨hcs, _⟩ | ⟨a, len, cap, zs, hcs, _, hl, hm, hz, _, hcell, hwz⟩
  · simp [Value.cells] at hcs
    obtain ⟨rfl, rfl, rfl⟩ := hcs
    exact ⟨none, 0, 0, [], rfl, ⟨rfl, Nat.le_refl _, 0, 0, fun h => absurd h (by simp), fun j h => absurd h (by simp)⟩, fun x hx => by cases hx⟩
  · simp [Value.cells] at hcs
    obtain ⟨rfl, rfl, rfl⟩ := hcs
    simp only [if_true] at hz
    have hlen : (zs.take n0).length = n0 := by simp; omega
    obtain ⟨b, off, spot⟩ := a
    refine ⟨_, _, _, zs.take n0, rfl, ⟨hlen.symm, by omega, b, off, fun h0 => ?_, fun j hj => ?_⟩, fun x hx => ?_⟩
    · have hp : 0 < zs.length := by omega
      have hc := hcell 0 hp
      have hspot : spot = none := by simpa [Addr.add] using World.cell?_spot hc
      subst hspot
      rw [add_plain] at hc
      exact ⟨rfl, lt_of_cell hc⟩
    · rw [hlen] at hj
      have hj' : j < zs.length := by omega
      have hspot : spot = none := by simpa [Addr.add] using World.cell?_spot (hcell 0 (by omega))
      subst hspot
      have hc := hcell j hj'
      rw [add_plain] at hc
      rw [hc]
      simp [hj, hj', List.getD]
    · have := bounds_i64 (hwz x (List.mem_of_mem_take hx))
      omega
end Go.Proofs.YtjbgbijpihpkmaaGreat
