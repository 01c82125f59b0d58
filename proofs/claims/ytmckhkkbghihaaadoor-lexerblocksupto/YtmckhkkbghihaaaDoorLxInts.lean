/-
  A list of ints that was handed in, laid open.
-/
import Derived.Test.YtmckhkkbghihaaaDoorLxOpen
import Derived.Test.YtmckhkkbghihaaaDoorLxBks
namespace Go.Proofs.YtmckhkkbghihaaaDoor
open Go.ChangeShapes Go.WideShapes Go.ChangeAt Go.RowKit Go.Joins

theorem Tryd.cellsI : Tryd.prog.cellsOf 3 = 1 := by kernel_rfl
set_option maxRecDepth 100000 in
theorem ints_open {H : Type} {enc : TypeId × Value → H} {W : World} {r : Reach} {base : Nat} {v : Value} {d : DataW H} {p : List MemPlace} (hv : Value.okWide Tryd.prog W r base 34 v) (h : DataW.Trod enc Tryd.prog W 0 (fun _ => true) true 34 v d p) :
    ∃ a n c l, v = .slice a n c ∧ Lx.Is W a n l := by
  obtain ⟨a0, n0, c0, rfl⟩ := okWide_slice Tryd.underlying34 hv
  obtain ⟨fuel, hf⟩ := h
  rcases open_ints Tryd.underlying34 Tryd.underlying3 Tryd.cellsI hf with ⟨hcs, _⟩ | ⟨a, len, cap, zs, hcs, _, hl, hm, hz, _, hcell, hwz⟩
  · simp [Value.cells] at hcs
    obtain ⟨rfl, rfl, rfl⟩ := hcs
    exact ⟨none, 0, 0, [], rfl, ⟨rfl, 0, 0, fun h => absurd h (by simp), fun j h => absurd h (by simp)⟩⟩
  · simp [Value.cells] at hcs
    obtain ⟨rfl, rfl, rfl⟩ := hcs
    simp only [if_true] at hz
    have hlen : (zs.take n0).length = n0 := by simp; omega
    obtain ⟨b, off, spot⟩ := a
    refine ⟨_, _, _, zs.take n0, rfl, ⟨hlen.symm, b, off, fun h0 => ?_, fun j hj => ?_⟩⟩
    · have hp : 0 < zs.length := by omega
      have hc := hcell 0 hp
      have hspot : spot = none := by simpa [Addr.add] using World.cell?_spot hc
      subst hspot
      rw [add_plain] at hc
      exact ⟨rfl, lt_of_cell hc⟩
    · have hj' : j < zs.length := by omega
      have hspot : spot = none := by simpa [Addr.add] using World.cell?_spot (hcell 0 (by omega))
      subst hspot
      have hc := hcell j hj'
      rw [add_plain] at hc
      rw [hc]
      simp [hj, hj', List.getD]
end Go.Proofs.YtmckhkkbghihaaaDoor
