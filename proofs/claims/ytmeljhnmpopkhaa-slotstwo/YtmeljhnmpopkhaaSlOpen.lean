/-
  A row of steps of three ints that was handed in, laid open.
-/
import Derived.Test.YtmeljhnmpopkhaaLwOpen
import Derived.Deep.Slices
import Derived.ChangeSame
namespace Go.Proofs.Ytmeljhnmpopkhaa
open Go.ChangeShapes Go.WideShapes Go.ChangeAt Go.RowKit Go.Joins

/-- A row of steps. -/
def S3 (W : World) (a : Option Addr) (n c : Nat) (G : Nat → Nat → Int) : Prop :=
  n ≤ c ∧ ∃ b off, (0 < n → a = some ⟨b, off, none⟩ ∧ b < W.heap.size) ∧ ∀ i, i < n → ∀ k, k < 3 → W.cell? ⟨b, off + (i * 3 + k), none⟩ = some (.int .i64 (G i k))
theorem Try.cellsStep3 : Try.prog.cellsOf 38 = 3 := by kernel_rfl
theorem Try.cellsI3 : Try.prog.cellsOf 3 = 1 := by kernel_rfl
theorem three_add (b off q : Nat) : (⟨b, off, none⟩ : Addr).add q = ⟨b, off + q, none⟩ := by
  unfold Addr.add
  split <;> simp_all
set_option maxRecDepth 100000 in
theorem steps3_open {H : Type} {enc : TypeId × Value → H} {W : World} {r : Reach} {base : Nat} {v : Value} {d : DataW H} {p : List MemPlace} (hv : Value.okWide Try.prog W r base 22 v) (h : DataW.Trod enc Try.prog W 0 (fun _ => true) true 22 v d p) :
    ∃ a n c G, v = .slice a n c ∧ S3 W a n c G := by
  obtain ⟨a0, n0, c0, rfl⟩ := okWide_slice Try.underlying22 hv
  obtain ⟨fuel, hf⟩ := h
  rcases Deep.open_slice Try.underlying22 hf with ⟨hcs, _⟩ | ⟨a, len, cap, m, n, D, Pl, hcs, hb, hl, hm, hmm, _, hx⟩
  · simp [Value.cells] at hcs
    obtain ⟨rfl, rfl, rfl⟩ := hcs
    exact ⟨none, 0, 0, fun _ _ => 0, rfl, Nat.le_refl _, 0, 0, fun h => absurd h (by omega), fun i h => absurd h (by omega)⟩
  · simp [Value.cells] at hcs
    obtain ⟨rfl, rfl, rfl⟩ := hcs
    simp only [if_true] at hmm
    have each : ∀ i, i < m → ∃ q : Nat → Int, ∀ k, k < 3 → W.cell? (a.add (i * 3 + k)) = some (.int .i64 (q k)) := by
      intro i hi
      obtain ⟨cs', h1, h2⟩ := hx i hi
      rw [Try.cellsStep3] at h1
      obtain ⟨_, hlen, hcell⟩ := World.cells?_some h1
      obtain ⟨xs, k, hk, hxy, _, hxl, hf⟩ := DataW.trod_struct Try.underlying38 h2
      match xs, hxl, cs', hlen with
      | [y0, y1, y2], _, [v0, v1, v2], _ =>
        have g0 := hf 0 _ rfl
        have g1 := hf 1 _ rfl
        have g2 := hf 2 _ rfl
        simp [Try.cellsI3] at g0 g1 g2
        obtain ⟨z0, e0, _⟩ := DataW.trod_int Try.underlying3 g0
        obtain ⟨z1, e1, _⟩ := DataW.trod_int Try.underlying3 g1
        obtain ⟨z2, e2, _⟩ := DataW.trod_int Try.underlying3 g2
        simp only [List.cons.injEq, and_true] at e0 e1 e2
        subst e0 e1 e2
        refine ⟨fun k => match k with | 0 => z0 | 1 => z1 | _ => z2, fun k hk => ?_⟩
        have hc := hcell k (by omega)
        rw [Deep.add_add] at hc
        match k, hk with
        | 0, _ => simpa using hc
        | 1, _ => simpa using hc
        | 2, _ => simpa using hc
    obtain ⟨q, hq⟩ := Deep.choose_lt each
    obtain ⟨b, off, spot⟩ := a
    have hsp : 0 < n0 → spot = none := fun h0 => by
      have := hq 0 (by omega) 0 (by omega)
      simpa [Addr.add] using World.cell?_spot this
    refine ⟨_, _, _, q, rfl, hl, b, off, fun h0 => ?_, fun i hi k hk => ?_⟩
    · obtain rfl := hsp h0
      have hc := hq 0 (by omega) 0 (by omega)
      rw [three_add] at hc
      exact ⟨rfl, lt_of_cell hc⟩
    · obtain rfl := hsp (by omega)
      have hc := hq i (by omega) k hk
      rw [three_add] at hc
      exact hc
theorem S3.below {w w' : World} {a : Option Addr} {n c : Nat} {G : Nat → Nat → Int} (h : S3 w a n c G) (hb : Below w.heap.size w w') : S3 w' a n c G := by
  obtain ⟨h1, b, off, h2, h3⟩ := h
  exact ⟨h1, b, off, fun h0 => ⟨(h2 h0).1, Nat.lt_of_lt_of_le (h2 h0).2 hb.size⟩, fun i hi k hk => (hb.cell (p := ⟨b, off + (i * 3 + k), none⟩) (h2 (by omega)).2).trans (h3 i hi k hk)⟩
end Go.Proofs.Ytmeljhnmpopkhaa
