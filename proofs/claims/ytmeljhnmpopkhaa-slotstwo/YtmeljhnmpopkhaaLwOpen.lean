/-
  A list of ints that was handed in as data, laid open.
-/
import Derived.Test.YtmeljhnmpopkhaaTrOpen
import Derived.Test.YtmeljhnmpopkhaaLwInts
namespace Go.Proofs.Ytmeljhnmpopkhaa
open Go.ChangeShapes Go.WideShapes Go.ChangeAt Go.RowKit Go.Joins

theorem Try.cellsI : Try.prog.cellsOf 3 = 1 := by kernel_rfl
set_option maxRecDepth 100000 in
theorem ints_open {H : Type} {enc : TypeId × Value → H} {W : World} {r : Reach} {base : Nat} {v : Value} {d : DataW H} {p : List MemPlace} (hv : Value.okWide Try.prog W r base 27 v) (h : DataW.Trod enc Try.prog W 0 (fun _ => true) true 27 v d p) :
    ∃ a n c l, v = .slice a n c ∧ SlI W a n c l ∧ ∀ x ∈ l, -9223372036854775808 ≤ x ∧ x ≤ 9223372036854775807 := by
  obtain ⟨a0, n0, c0, rfl⟩ := okWide_slice Try.underlying27 hv
  have h' := h
  obtain ⟨fuel, hf⟩ := h
  rcases open_ints Try.underlying27 Try.underlying3 Try.cellsI hf with ⟨hcs, _⟩ | ⟨a, len, cap, zs, hcs, _, hl, hm, hz, _, hcell, hwz⟩
  · simp [Value.cells] at hcs
    obtain ⟨rfl, rfl, rfl⟩ := hcs
    exact ⟨none, 0, 0, [], rfl, ⟨rfl, Nat.le_refl _, 0, 0, fun h => absurd h (by simp), fun j h => absurd h (by simp)⟩, fun x hx => by cases hx⟩
  · simp [Value.cells] at hcs
    obtain ⟨rfl, rfl, rfl⟩ := hcs
    simp only [if_true] at hz
    have hlen : (zs.take n0).length = n0 := by simp; omega
    obtain ⟨b, off, spot⟩ := a
    refine ⟨_, _, _, zs.take n0, rfl, ⟨hlen.symm, by omega, b, off, fun h0 => ?_, fun j hj => ?_⟩, fun x hx => ?_⟩
    · have hp : 0 < zs.length := by omega
      have hc := hcell 0 hp
      have hspot : spot = none := by simpa [Addr.add] using World.cell?_spot hc
      subst hspot
      rw [add_plain] at hc
      exact ⟨rfl, lt_of_cell hc⟩
    · rw [hlen] at hj
      have hj' : j < zs.length := by omega
      have hspot : spot = none := by simpa [Addr.add] using World.cell?_spot (hcell 0 (by omega))
      subst hspot
      have hc := hcell j hj'
      rw [add_plain] at hc
      rw [hc]
      simp [hj, hj', List.getD]
    · have := bounds_i64 (hwz x (List.mem_of_mem_take hx))
      omega
end Go.Proofs.Ytmeljhnmpopkhaa
