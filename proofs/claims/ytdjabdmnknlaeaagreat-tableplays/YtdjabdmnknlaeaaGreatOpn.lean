/-
  Short facts of the program that the lifting asks.
  A list of ints that was handed in.
  A list of ints that was handed in as data, laid open.
  A row of steps of five ints that was handed in, laid open.
-/
import Derived.ProofKit
import Derived.OpenShut
import Derived.ShutString
import Derived.ChangeOld
import Derived.Below
import Derived.Lib.SmallJoins
import Derived.Test.YtdjabdmnknlaeaaGreatRows
import Derived.Test.YtdjabdmnknlaeaaGreatCeBut
import Derived.Deep.Slices
import Derived.ChangeSame
namespace Go.Proofs.YtdjabdmnknlaeaaGreat
open Go.ChangeShapes Go.WideShapes Go.ChangeAt Go.RowKit Go.Joins

theorem Tryz.own : ownKnob Tryz.prog.godebug = none := by kernel_rfl
theorem Tryz.laidOut : laidOutB Tryz.prog = true := by kernel_rfl
end Go.Proofs.YtdjabdmnknlaeaaGreat
namespace Go.Proofs.YtdjabdmnknlaeaaGreat
open Go.RowKit Go.WideShapes

/-- Ints in a row, at block b from off on. -/
def SegI (w : World) (b off : Nat) (l : List Int) : Prop := ∀ j, j < l.length → w.cell? ⟨b, off + j, none⟩ = some (.int .i64 (l[j]?.getD 0))
def SlI (w : World) (a : Option Addr) (n cap : Nat) (l : List Int) : Prop := n = l.length ∧ l.length ≤ cap ∧ ∃ b off, (0 < l.length → a = some ⟨b, off, none⟩ ∧ b < w.heap.size) ∧ SegI w b off l
theorem SlI.below {w w' : World} {a : Option Addr} {n cap : Nat} {l : List Int} (h : SlI w a n cap l) (hb : Below w.heap.size w w') : SlI w' a n cap l := by
  obtain ⟨h1, h2, b, off, h3, h4⟩ := h
  refine ⟨h1, h2, b, off, fun h0 => ⟨(h3 h0).1, Nat.lt_of_lt_of_le (h3 h0).2 hb.size⟩, fun j hj => ?_⟩
  exact (hb.cell (p := ⟨b, off + j, none⟩) (h3 (by omega)).2).trans (h4 j hj)
/-- The ints of a list, laid open. -/
theorem SlI.open {w : World} {a : Option Addr} {n cap : Nat} {l : List Int} (h : SlI w a n cap l) : ∃ b off, (0 < n → a = some ⟨b, off, none⟩ ∧ b < w.heap.size) ∧ n = l.length ∧ n ≤ cap ∧ ∀ j, j < n → w.cell? ⟨b, off + j, none⟩ = some (.int .i64 (l[j]?.getD 0)) := by
  obtain ⟨h1, h2, b, off, h3, h4⟩ := h
  exact ⟨b, off, by rw [h1]; exact h3, h1, by omega, fun j hj => h4 j (by omega)⟩
end Go.Proofs.YtdjabdmnknlaeaaGreat
namespace Go.Proofs.YtdjabdmnknlaeaaGreat
open Go.ChangeShapes Go.WideShapes Go.ChangeAt Go.RowKit Go.Joins

theorem Tryz.cellsI : Tryz.prog.cellsOf 3 = 1 := by kernel_rfl
set_option maxRecDepth 100000 in
theorem ints_open {H : Type} {enc : TypeId × Value → H} {W : World} {r : Reach} {base : Nat} {v : Value} {d : DataW H} {p : List MemPlace} (hv : Value.okWide Tryz.prog W r base 33 v) (h : DataW.Trod enc Tryz.prog W 0 (fun _ => true) true 33 v d p) :
    ∃ a n c l, v = .slice a n c ∧ SlI W a n c l ∧ ∀ x ∈ l, -9223372036854775808 ≤ x ∧ x ≤ 9223372036854775807 := by
  obtain ⟨a0, n0, c0, rfl⟩ := okWide_slice Tryz.underlying33 hv
  have h' := h
  obtain ⟨fuel, hf⟩ := h
  rcases open_ints Tryz.underlying33 Tryz.underlying3 Tryz.cellsI hf with ⟨hcs, _⟩ | ⟨a, len, cap, zs, hcs, _, hl, hm, hz, _, hcell, hwz⟩
  · simp [Value.cells] at hcs
    obtain ⟨rfl, rfl, rfl⟩ := hcs
    exact ⟨none, 0, 0, [], rfl, ⟨rfl, Nat.le_refl _, 0, 0, fun h => absurd h (by simp), fun j h => absurd h (by simp)⟩, fun x hx => by cases hx⟩
  · simp [Value.cells] at hcs
    obtain ⟨rfl, rfl, rfl⟩ := hcs
    simp only [if_true] at hz
    have hlen : (zs.take n0).length = n0 := by simp; omega
    obtain ⟨b, off, spot⟩ := a
    refine ⟨_, _, _, zs.take n0, rfl, ⟨hlen.symm, by omega, b, off, fun h0 => ?_, fun j hj => ?_⟩, fun x hx => ?_⟩
    · have hp : 0 < zs.length := by omega
      have hc := hcell 0 hp
      have hspot : spot = none := by simpa [Addr.add] using World.cell?_spot hc
      subst hspot
      rw [add_plain] at hc
      exact ⟨rfl, lt_of_cell hc⟩
    · rw [hlen] at hj
      have hj' : j < zs.length := by omega
      have hspot : spot = none := by simpa [Addr.add] using World.cell?_spot (hcell 0 (by omega))
      subst hspot
      have hc := hcell j hj'
      rw [add_plain] at hc
      rw [hc]
      simp [hj, hj', List.getD]
    · have := bounds_i64 (hwz x (List.mem_of_mem_take hx))
      omega
end Go.Proofs.YtdjabdmnknlaeaaGreat
namespace Go.Proofs.YtdjabdmnknlaeaaGreat
open Go.ChangeShapes Go.WideShapes Go.ChangeAt Go.RowKit Go.Joins

/-- A row of steps. -/
def S5 (W : World) (a : Option Addr) (n c : Nat) (G : Nat → Nat → Int) : Prop :=
  n ≤ c ∧ ∃ b off, (0 < n → a = some ⟨b, off, none⟩ ∧ b < W.heap.size) ∧ ∀ i, i < n → ∀ k, k < 5 → W.cell? ⟨b, off + (i * 5 + k), none⟩ = some (.int .i64 (G i k))
theorem Tryz.cellsStep5 : Tryz.prog.cellsOf 51 = 5 := by kernel_rfl
theorem Tryz.cellsI5 : Tryz.prog.cellsOf 3 = 1 := by kernel_rfl
theorem five_add (b off q : Nat) : (⟨b, off, none⟩ : Addr).add q = ⟨b, off + q, none⟩ := by
  unfold Addr.add
  split <;> simp_all
set_option maxRecDepth 100000 in
theorem steps5_open {H : Type} {enc : TypeId × Value → H} {W : World} {r : Reach} {base : Nat} {v : Value} {d : DataW H} {p : List MemPlace} (hv : Value.okWide Tryz.prog W r base 22 v) (h : DataW.Trod enc Tryz.prog W 0 (fun _ => true) true 22 v d p) :
    ∃ a n c G, v = .slice a n c ∧ S5 W a n c G := by
  obtain ⟨a0, n0, c0, rfl⟩ := okWide_slice Tryz.underlying22 hv
  obtain ⟨fuel, hf⟩ := h
  rcases Deep.open_slice Tryz.underlying22 hf with ⟨hcs, _⟩ | ⟨a, len, cap, m, n, D, Pl, hcs, hb, hl, hm, hmm, _, hx⟩
  · simp [Value.cells] at hcs
    obtain ⟨rfl, rfl, rfl⟩ := hcs
    exact ⟨none, 0, 0, fun _ _ => 0, rfl, Nat.le_refl _, 0, 0, fun h => absurd h (by omega), fun i h => absurd h (by omega)⟩
  · simp [Value.cells] at hcs
    obtain ⟨rfl, rfl, rfl⟩ := hcs
    simp only [if_true] at hmm
    have each : ∀ i, i < m → ∃ q : Nat → Int, ∀ k, k < 5 → W.cell? (a.add (i * 5 + k)) = some (.int .i64 (q k)) := by
      intro i hi
      obtain ⟨cs', h1, h2⟩ := hx i hi
      rw [Tryz.cellsStep5] at h1
      obtain ⟨_, hlen, hcell⟩ := World.cells?_some h1
      obtain ⟨xs, k, hk, hxy, _, hxl, hf⟩ := DataW.trod_struct Tryz.underlying51 h2
      match xs, hxl, cs', hlen with
      | [y0, y1, y2, y3, y4], _, [v0, v1, v2, v3, v4], _ =>
        have g0 := hf 0 _ rfl
        have g1 := hf 1 _ rfl
        have g2 := hf 2 _ rfl
        have g3 := hf 3 _ rfl
        have g4 := hf 4 _ rfl
        simp [Tryz.cellsI5] at g0 g1 g2 g3 g4
        obtain ⟨z0, e0, _⟩ := DataW.trod_int Tryz.underlying3 g0
        obtain ⟨z1, e1, _⟩ := DataW.trod_int Tryz.underlying3 g1
        obtain ⟨z2, e2, _⟩ := DataW.trod_int Tryz.underlying3 g2
        obtain ⟨z3, e3, _⟩ := DataW.trod_int Tryz.underlying3 g3
        obtain ⟨z4, e4, _⟩ := DataW.trod_int Tryz.underlying3 g4
        simp only [List.cons.injEq, and_true] at e0 e1 e2 e3 e4
        subst e0 e1 e2 e3 e4
        refine ⟨fun k => match k with | 0 => z0 | 1 => z1 | 2 => z2 | 3 => z3 | _ => z4, fun k hk => ?_⟩
        have hc := hcell k (by omega)
        rw [Deep.add_add] at hc
        match k, hk with
        | 0, _ => simpa using hc
        | 1, _ => simpa using hc
        | 2, _ => simpa using hc
        | 3, _ => simpa using hc
        | 4, _ => simpa using hc
    obtain ⟨q, hq⟩ := Deep.choose_lt each
    obtain ⟨b, off, spot⟩ := a
    have hsp : 0 < n0 → spot = none := fun h0 => by
      have := hq 0 (by omega) 0 (by omega)
      simpa [Addr.add] using World.cell?_spot this
    refine ⟨_, _, _, q, rfl, hl, b, off, fun h0 => ?_, fun i hi k hk => ?_⟩
    · obtain rfl := hsp h0
      have hc := hq 0 (by omega) 0 (by omega)
      rw [five_add] at hc
      exact ⟨rfl, lt_of_cell hc⟩
    · obtain rfl := hsp (by omega)
      have hc := hq i (by omega) k hk
      rw [five_add] at hc
      exact hc
end Go.Proofs.YtdjabdmnknlaeaaGreat
