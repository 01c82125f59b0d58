/-
  Lines of pieces that were handed in, laid open.
-/
import Derived.Test.YtgillafjccgkdaaDoorLyc
import Derived.Test.YtgillafjccgkdaaDoorLxOpen
import Derived.Deep.Slices
import Derived.ChangeSame
namespace Go.Proofs.YtgillafjccgkdaaDoor
open Go.ChangeShapes Go.WideShapes Go.ChangeAt Go.RowKit Go.Joins

/-- One line's pieces, and where they lie. -/
structure PRow where
  a : Option Addr
  n : Nat
  c : Nat
  b : Nat
  off : Nat
  G : Nat → Nat → Int
instance : Inhabited PRow := ⟨⟨none, 0, 0, 0, 0, fun _ _ => 0⟩⟩
theorem Tryd.cellsPi : Tryd.prog.cellsOf 33 = 3 := by kernel_rfl
theorem Tryd.cellsPs : Tryd.prog.cellsOf 27 = 1 := by kernel_rfl
theorem Tryd.cellsPI : Tryd.prog.cellsOf 3 = 1 := by kernel_rfl
theorem pc_add (b off q : Nat) : (⟨b, off, none⟩ : Addr).add q = ⟨b, off + q, none⟩ := by
  unfold Addr.add
  split <;> simp_all
def PRow.Ok (W : World) (x : PRow) : Prop := (0 < x.n → x.a = some ⟨x.b, x.off, none⟩ ∧ x.b < W.heap.size) ∧ ∀ k, k < x.n → ∀ j, j < 3 → W.cell? ⟨x.b, x.off + k * 3 + j, none⟩ = some (.int .i64 (x.G k j))
set_option maxRecDepth 100000 in
theorem pieces_at {H : Type} {enc : TypeId × Value → H} {W : World} {fuel : Nat} {cs : List Value} {d : DataW H} {p : List MemPlace} (hf : DataW.trod enc Tryd.prog W 0 (fun _ => true) true fuel 27 cs = some (d, p)) :
    ∃ x : PRow, cs = [.slice x.a x.n x.c] ∧ x.Ok W := by
  rcases Deep.open_slice Tryd.underlying27 hf with ⟨hcs, _⟩ | ⟨a, len, cap, m, n, D, Pl, hcs, hb, hl, hm, hmm, _, hx⟩
  · exact ⟨⟨none, 0, 0, 0, 0, fun _ _ => 0⟩, hcs, fun h => absurd h (by simp), fun k hk => absurd hk (by simp)⟩
  · simp only [if_true] at hmm
    have each : ∀ i, i < m → ∃ q : Nat → Int, ∀ k, k < 3 → W.cell? (a.add (i * 3 + k)) = some (.int .i64 (q k)) := by
      intro i hi
      obtain ⟨cs', h1, h2⟩ := hx i hi
      rw [Tryd.cellsPi] at h1
      obtain ⟨_, hlen, hcell⟩ := World.cells?_some h1
      obtain ⟨xs, k, hk, hxy, _, hxl, hf⟩ := DataW.trod_struct Tryd.underlying33 h2
      match xs, hxl, cs', hlen with
      | [y0, y1, y2], _, [v0, v1, v2], _ =>
        have g0 := hf 0 _ rfl
        have g1 := hf 1 _ rfl
        have g2 := hf 2 _ rfl
        simp [Tryd.cellsPI] at g0 g1 g2
        obtain ⟨z0, e0, _⟩ := DataW.trod_int Tryd.underlying3 g0
        obtain ⟨z1, e1, _⟩ := DataW.trod_int Tryd.underlying3 g1
        obtain ⟨z2, e2, _⟩ := DataW.trod_int Tryd.underlying3 g2
        simp only [List.cons.injEq, and_true] at e0 e1 e2
        subst e0 e1 e2
        refine ⟨fun k => match k with | 0 => z0 | 1 => z1 | _ => z2, fun k hk => ?_⟩
        have hc := hcell k (by omega)
        rw [Deep.add_add] at hc
        match k, hk with
        | 0, _ => simpa using hc
        | 1, _ => simpa using hc
        | 2, _ => simpa using hc
    obtain ⟨q, hq⟩ := Deep.choose_lt each
    obtain ⟨b, off, spot⟩ := a
    have hsp : 0 < len → spot = none := fun h0 => by
      have := hq 0 (by omega) 0 (by omega)
      simpa [Addr.add] using World.cell?_spot this
    refine ⟨⟨some ⟨b, off, spot⟩, len, cap, b, off, q⟩, hcs, fun h0 => ?_, fun i hi k hk => ?_⟩
    · obtain rfl := hsp h0
      simp only at h0
      have hc := hq 0 (by omega) 0 (by omega)
      rw [pc_add] at hc
      exact ⟨rfl, lt_of_cell hc⟩
    · simp only at hi
      obtain rfl := hsp (by omega)
      have hc := hq i (by omega) k hk
      rw [pc_add, ← Nat.add_assoc] at hc
      exact hc
set_option maxRecDepth 100000 in
theorem lines_open {H : Type} {enc : TypeId × Value → H} {W : World} {r : Reach} {base : Nat} {v : Value} {d : DataW H} {p : List MemPlace} (hv : Value.okWide Tryd.prog W r base 22 v) (h : DataW.Trod enc Tryd.prog W 0 (fun _ => true) true 22 v d p) :
    ∃ a n c A N C X b off b' off', v = .slice a n c ∧ Lx.Lns W a n A N C X b off b' off' := by
  obtain ⟨a0, n0, c0, rfl⟩ := okWide_slice Tryd.underlying22 hv
  obtain ⟨fuel, hf⟩ := h
  rcases Deep.open_slice Tryd.underlying22 hf with ⟨hcs, _⟩ | ⟨a, len, cap, m, n, D, Pl, hcs, hb, hl, hm, hmm, _, hx⟩
  · simp [Value.cells] at hcs
    obtain ⟨rfl, rfl, rfl⟩ := hcs
    exact ⟨none, 0, 0, fun _ => none, fun _ => 0, fun _ => 0, fun _ _ _ => 0, 0, 0, fun _ => 0, fun _ => 0, rfl, fun h => absurd h (by omega), fun i h => absurd h (by omega), fun i h => absurd h (by omega), fun i h => absurd h (by omega)⟩
  · simp [Value.cells] at hcs
    obtain ⟨rfl, rfl, rfl⟩ := hcs
    simp only [if_true] at hmm
    have each : ∀ i, i < m → ∃ x : PRow, W.cell? (a.add i) = some (.slice x.a x.n x.c) ∧ x.Ok W := by
      intro i hi
      obtain ⟨cs', h1, h2⟩ := hx i hi
      rw [Tryd.cellsPs] at h1
      obtain ⟨_, hlen, hcell⟩ := World.cells?_some h1
      obtain ⟨x, e, hx⟩ := pieces_at h2
      subst e
      have hc0 := hcell 0 (by omega)
      rw [Deep.add_add] at hc0
      exact ⟨x, by simpa using hc0, hx⟩
    obtain ⟨q, hq⟩ := Deep.choose_lt each
    obtain ⟨b, off, spot⟩ := a
    have hsp : 0 < n0 → spot = none := fun h0 => by
      have := (hq 0 (by omega)).1
      simpa [Addr.add] using World.cell?_spot this
    refine ⟨_, _, _, fun i => (q i).a, fun i => (q i).n, fun i => (q i).c, fun i => (q i).G, b, off, fun i => (q i).b, fun i => (q i).off, rfl, fun h0 => ?_, fun i hi => ?_, fun i hi => (hq i (by omega)).2.1, fun i hi => (hq i (by omega)).2.2⟩
    · obtain rfl := hsp h0
      have hc := (hq 0 (by omega)).1
      rw [pc_add] at hc
      exact ⟨rfl, lt_of_cell hc⟩
    · obtain rfl := hsp (by omega)
      have hc := (hq i (by omega)).1
      rw [pc_add] at hc
      exact hc
set_option maxRecDepth 100000 in
theorem row_open {H : Type} {enc : TypeId × Value → H} {W : World} {r : Reach} {base : Nat} {v : Value} {d : DataW H} {p : List MemPlace} (hv : Value.okWide Tryd.prog W r base 23 v) (h : DataW.Trod enc Tryd.prog W 0 (fun _ => true) true 23 v d p) :
    ∃ a n c b off, ∃ R : Nat → Int, v = .slice a n c ∧ (0 < n → a = some ⟨b, off, none⟩ ∧ b < W.heap.size) ∧ ∀ j, j < n → W.cell? ⟨b, off + j, none⟩ = some (.int .i64 (R j)) := by
  obtain ⟨a0, n0, c0, rfl⟩ := okWide_slice Tryd.underlying23 hv
  obtain ⟨fuel, hf⟩ := h
  rcases open_ints Tryd.underlying23 Tryd.underlying3 Tryd.cellsPI hf with ⟨hcs, _⟩ | ⟨a, len, cap, zs, hcs, _, hl, hm, hz, _, hcell, hwz⟩
  · simp [Value.cells] at hcs
    obtain ⟨rfl, rfl, rfl⟩ := hcs
    exact ⟨none, 0, 0, 0, 0, fun _ => 0, rfl, fun h => absurd h (by simp), fun j h => absurd h (by simp)⟩
  · simp [Value.cells] at hcs
    obtain ⟨rfl, rfl, rfl⟩ := hcs
    simp only [if_true] at hz
    obtain ⟨b, off, spot⟩ := a
    refine ⟨_, _, _, b, off, fun j => zs.getD j 0, rfl, fun h0 => ?_, fun j hj => ?_⟩
    · have hp : 0 < zs.length := by omega
      have hc := hcell 0 hp
      have hspot : spot = none := by simpa [Addr.add] using World.cell?_spot hc
      subst hspot
      rw [add_plain] at hc
      exact ⟨rfl, lt_of_cell hc⟩
    · have hj' : j < zs.length := by omega
      have hspot : spot = none := by simpa [Addr.add] using World.cell?_spot (hcell 0 (by omega))
      subst hspot
      have hc := hcell j hj'
      rw [add_plain] at hc
      rw [hc]
end Go.Proofs.YtgillafjccgkdaaDoor
