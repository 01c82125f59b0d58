/-
  A row of steps of seven ints and a bool that was handed in, laid open.
-/
import Derived.Test.YtooneobnfepncaaGreatOpn
import Derived.Deep.Slices
import Derived.ChangeSame
import Derived.ChangeArms
namespace Go.Proofs.YtooneobnfepncaaGreat
open Go.ChangeShapes Go.WideShapes Go.ChangeAt Go.RowKit Go.Joins

/-- A row of steps. -/
def S8 (W : World) (a : Option Addr) (n c : Nat) (q : Nat → (Nat → Int) × Bool) : Prop :=
  n ≤ c ∧ ∃ b off, (0 < n → a = some ⟨b, off, none⟩ ∧ b < W.heap.size) ∧ ∀ i, i < n → (∀ k, k < 7 → W.cell? ⟨b, off + (i * 8 + k), none⟩ = some (.int .i64 ((q i).1 k))) ∧ W.cell? ⟨b, off + (i * 8 + 7), none⟩ = some (.bool (q i).2)
theorem Tryz.cellsStep8 : Tryz.prog.cellsOf 60 = 8 := by kernel_rfl
theorem Tryz.cellsI8 : Tryz.prog.cellsOf 3 = 1 := by kernel_rfl
theorem Tryz.cellsB8 : Tryz.prog.cellsOf 4 = 1 := by kernel_rfl
theorem eight_add (b off q : Nat) : (⟨b, off, none⟩ : Addr).add q = ⟨b, off + q, none⟩ := by
  unfold Addr.add
  split <;> simp_all
set_option maxRecDepth 100000 in
theorem steps8_open {H : Type} {enc : TypeId × Value → H} {W : World} {r : Reach} {base : Nat} {v : Value} {d : DataW H} {p : List MemPlace} (hv : Value.okWide Tryz.prog W r base 22 v) (h : DataW.Trod enc Tryz.prog W 0 (fun _ => true) true 22 v d p) :
    ∃ a n c q, v = .slice a n c ∧ S8 W a n c q := by
  obtain ⟨a0, n0, c0, rfl⟩ := okWide_slice Tryz.underlying22 hv
  obtain ⟨fuel, hf⟩ := h
  rcases Deep.open_slice Tryz.underlying22 hf with ⟨hcs, _⟩ | ⟨a, len, cap, m, n, D, Pl, hcs, hb, hl, hm, hmm, _, hx⟩
  · simp [Value.cells] at hcs
    obtain ⟨rfl, rfl, rfl⟩ := hcs
    exact ⟨none, 0, 0, fun _ => (fun _ => 0, false), rfl, Nat.le_refl _, 0, 0, fun h => absurd h (by omega), fun i h => absurd h (by omega)⟩
  · simp [Value.cells] at hcs
    obtain ⟨rfl, rfl, rfl⟩ := hcs
    simp only [if_true] at hmm
    have each : ∀ i, i < m → ∃ q : (Nat → Int) × Bool, (∀ k, k < 7 → W.cell? (a.add (i * 8 + k)) = some (.int .i64 (q.1 k))) ∧ W.cell? (a.add (i * 8 + 7)) = some (.bool q.2) := by
      intro i hi
      obtain ⟨cs', h1, h2⟩ := hx i hi
      rw [Tryz.cellsStep8] at h1
      obtain ⟨_, hlen, hcell⟩ := World.cells?_some h1
      obtain ⟨xs, k, hk, hxy, _, hxl, hf⟩ := DataW.trod_struct Tryz.underlying60 h2
      match xs, hxl, cs', hlen with
      | [y0, y1, y2, y3, y4, y5, y6, y7], _, [v0, v1, v2, v3, v4, v5, v6, v7], _ =>
        have g0 := hf 0 _ rfl
        have g1 := hf 1 _ rfl
        have g2 := hf 2 _ rfl
        have g3 := hf 3 _ rfl
        have g4 := hf 4 _ rfl
        have g5 := hf 5 _ rfl
        have g6 := hf 6 _ rfl
        have g7 := hf 7 _ rfl
        simp [Tryz.cellsI8] at g0 g1 g2 g3 g4 g5 g6
        simp [Tryz.cellsB8] at g7
        obtain ⟨z0, e0, _⟩ := DataW.trod_int Tryz.underlying3 g0
        obtain ⟨z1, e1, _⟩ := DataW.trod_int Tryz.underlying3 g1
        obtain ⟨z2, e2, _⟩ := DataW.trod_int Tryz.underlying3 g2
        obtain ⟨z3, e3, _⟩ := DataW.trod_int Tryz.underlying3 g3
        obtain ⟨z4, e4, _⟩ := DataW.trod_int Tryz.underlying3 g4
        obtain ⟨z5, e5, _⟩ := DataW.trod_int Tryz.underlying3 g5
        obtain ⟨z6, e6, _⟩ := DataW.trod_int Tryz.underlying3 g6
        obtain ⟨z7, e7, _⟩ := DataW.trod_bool Tryz.underlying4 g7
        simp only [List.cons.injEq, and_true] at e0 e1 e2 e3 e4 e5 e6 e7
        subst e0 e1 e2 e3 e4 e5 e6 e7
        refine ⟨(fun k => match k with | 0 => z0 | 1 => z1 | 2 => z2 | 3 => z3 | 4 => z4 | 5 => z5 | _ => z6, z7), fun k hk => ?_, ?_⟩
        · have hc := hcell k (by omega)
          rw [Deep.add_add] at hc
          match k, hk with
          | 0, _ => simpa using hc
          | 1, _ => simpa using hc
          | 2, _ => simpa using hc
          | 3, _ => simpa using hc
          | 4, _ => simpa using hc
          | 5, _ => simpa using hc
          | 6, _ => simpa using hc
        · have hc := hcell 7 (by omega)
          rw [Deep.add_add] at hc
          simpa using hc
    obtain ⟨q, hq⟩ := Deep.choose_lt each
    obtain ⟨b, off, spot⟩ := a
    have hsp : 0 < n0 → spot = none := fun h0 => by
      have := (hq 0 (by omega)).1 0 (by omega)
      simpa [Addr.add] using World.cell?_spot this
    refine ⟨_, _, _, q, rfl, hl, b, off, fun h0 => ?_, fun i hi => ⟨fun k hk => ?_, ?_⟩⟩
    · obtain rfl := hsp h0
      have hc := (hq 0 (by omega)).2
      rw [eight_add] at hc
      exact ⟨rfl, lt_of_cell hc⟩
    · obtain rfl := hsp (by omega)
      have hc := (hq i (by omega)).1 k hk
      rw [eight_add] at hc
      exact hc
    · obtain rfl := hsp (by omega)
      have hc := (hq i (by omega)).2
      rw [eight_add] at hc
      exact hc
end Go.Proofs.YtooneobnfepncaaGreat
