/-
  A row of stage 10's steps that was handed in, laid open; much.
-/
import Derived.Test.YtpigbnlapcndgaaGreatSaw
import Derived.Test.YtpigbnlapcndgaaGreatTrOpen
import Derived.ChangeArms
import Derived.Deep.Slices
import Derived.ChangeSame
namespace Go.Proofs.YtpigbnlapcndgaaGreat
open Go.ChangeShapes Go.WideShapes Go.ChangeAt Go.RowKit Go.Joins

/-- A step: its kind, its namespace, its name, its value. -/
structure Stp where
  kind : Int
  s : Int
  name : ByteArray
  value : Int
  deriving Inhabited
/-- A row of steps. -/
def S4 (W : World) (a : Option Addr) (n c : Nat) (G : Nat → Stp) : Prop :=
  n ≤ c ∧ ∃ b off, (0 < n → a = some ⟨b, off, none⟩ ∧ b < W.heap.size) ∧ ∀ i, i < n → W.cell? ⟨b, off + (i * 4 + 0), none⟩ = some (.int .i64 (G i).kind) ∧ W.cell? ⟨b, off + (i * 4 + 1), none⟩ = some (.int .i64 (G i).s) ∧ W.cell? ⟨b, off + (i * 4 + 2), none⟩ = some (.string (G i).name) ∧ W.cell? ⟨b, off + (i * 4 + 3), none⟩ = some (.int .i64 (G i).value)
theorem Tryz.cellsStep4 : Tryz.prog.cellsOf 35 = 4 := by kernel_rfl
theorem Tryz.cellsI4 : Tryz.prog.cellsOf 3 = 1 := by kernel_rfl
theorem Tryz.cellsS4 : Tryz.prog.cellsOf 9 = 1 := by kernel_rfl
theorem four_add (b off q : Nat) : (⟨b, off, none⟩ : Addr).add q = ⟨b, off + q, none⟩ := by
  unfold Addr.add
  split <;> simp_all
set_option maxRecDepth 100000 in
theorem steps4_open {H : Type} {enc : TypeId × Value → H} {W : World} {r : Reach} {base : Nat} {v : Value} {d : DataW H} {p : List MemPlace} (hv : Value.okWide Tryz.prog W r base 22 v) (h : DataW.Trod enc Tryz.prog W 0 (fun _ => true) true 22 v d p) :
    ∃ a n c G, v = .slice a n c ∧ S4 W a n c G := by
  obtain ⟨a0, n0, c0, rfl⟩ := okWide_slice Tryz.underlying22 hv
  obtain ⟨fuel, hf⟩ := h
  rcases Deep.open_slice Tryz.underlying22 hf with ⟨hcs, _⟩ | ⟨a, len, cap, m, n, D, Pl, hcs, hb, hl, hm, hmm, _, hx⟩
  · simp [Value.cells] at hcs
    obtain ⟨rfl, rfl, rfl⟩ := hcs
    exact ⟨none, 0, 0, fun _ => ⟨0, 0, ByteArray.empty, 0⟩, rfl, Nat.le_refl _, 0, 0, fun h => absurd h (by omega), fun i h => absurd h (by omega)⟩
  · simp [Value.cells] at hcs
    obtain ⟨rfl, rfl, rfl⟩ := hcs
    simp only [if_true] at hmm
    have each : ∀ i, i < m → ∃ q : Stp, W.cell? (a.add (i * 4 + 0)) = some (.int .i64 q.kind) ∧ W.cell? (a.add (i * 4 + 1)) = some (.int .i64 q.s) ∧ W.cell? (a.add (i * 4 + 2)) = some (.string q.name) ∧ W.cell? (a.add (i * 4 + 3)) = some (.int .i64 q.value) := by
      intro i hi
      obtain ⟨cs', h1, h2⟩ := hx i hi
      rw [Tryz.cellsStep4] at h1
      obtain ⟨_, hlen, hcell⟩ := World.cells?_some h1
      obtain ⟨xs, k, hk, hxy, _, hxl, hf⟩ := DataW.trod_struct Tryz.underlying35 h2
      match xs, hxl, cs', hlen with
      | [y0, y1, y2, y3], _, [v0, v1, v2, v3], _ =>
        have g0 := hf 0 _ rfl
        have g1 := hf 1 _ rfl
        have g2 := hf 2 _ rfl
        have g3 := hf 3 _ rfl
        simp [Tryz.cellsI4, Tryz.cellsS4] at g0 g1 g2 g3
        obtain ⟨z0, e0, _⟩ := DataW.trod_int Tryz.underlying3 g0
        obtain ⟨z1, e1, _⟩ := DataW.trod_int Tryz.underlying3 g1
        obtain ⟨z2, e2, _⟩ := DataW.trod_string Tryz.underlying9 g2
        obtain ⟨z3, e3, _⟩ := DataW.trod_int Tryz.underlying3 g3
        simp only [List.cons.injEq, and_true] at e0 e1 e2 e3
        subst e0 e1 e2 e3
        have hc0 := hcell 0 (by omega)
        have hc1 := hcell 1 (by omega)
        have hc2 := hcell 2 (by omega)
        have hc3 := hcell 3 (by omega)
        rw [Deep.add_add] at hc0 hc1 hc2 hc3
        exact ⟨⟨z0, z1, z2, z3⟩, by simpa using hc0, by simpa using hc1, by simpa using hc2, by simpa using hc3⟩
    obtain ⟨q, hq⟩ := Deep.choose_lt each
    obtain ⟨b, off, spot⟩ := a
    have hsp : 0 < n0 → spot = none := fun h0 => by
      have := (hq 0 (by omega)).1
      simpa [Addr.add] using World.cell?_spot this
    refine ⟨_, _, _, q, rfl, hl, b, off, fun h0 => ?_, fun i hi => ?_⟩
    · obtain rfl := hsp h0
      have hc := (hq 0 (by omega)).1
      rw [four_add] at hc
      exact ⟨rfl, lt_of_cell hc⟩
    · obtain rfl := hsp (by omega)
      have hc := hq i (by omega)
      simp only [four_add] at hc
      exact hc
/-- What much tells. -/
def MuR (n : Nat) (G : Nat → Stp) (e : Ending) (w w' : World) : Prop := ∃ b : Bool, e = .returned (.bool b) ∧ w' = w ∧ (b = false → n ≤ 300 ∧ ∀ i, i < n → (G i).name.size ≤ 200)
set_option maxRecDepth 100000 in
set_option maxHeartbeats 1600000 in
theorem much_any {w : World} {a : Option Addr} {n c : Nat} {G : Nat → Stp} (hS : S4 w a n c G) :
    Calls Tryz.prog 4 #[.slice a n c] w fun e w' => MuR n G e w w' := by
  obtain ⟨hcap, b, off, hab, hG⟩ := hS
  by_cases hn : n ≤ 300
  · have tn : ¬ 300 < (n : Int) := by omega
    have HG := Lib.hid hG
    have HAB := Lib.hid hab
    clear hG hab
    go_enter Tryz.func4, Tryz.ntmps4
    go_wp2_with fail
    go_loopw [3] (fun iv wr => ∃ k : Nat, k ≤ n ∧ iv = .int .i64 (k : Int) ∧ wr = w ∧ ∀ i, i < k → (G i).name.size ≤ 200) (fun iv _ => n - (intOf iv).toNat)
    case atStart => exact ⟨0, Nat.zero_le _, rfl, rfl, fun i hi => absurd hi (Nat.not_lt_zero _)⟩
    case round =>
      obtain ⟨k, hk, rfl, rfl, hall⟩ := hrel
      have HA := Lib.hid hall
      clear hall
      by_cases hlt : k < n
      · obtain ⟨rfl, hbl⟩ := HAB.out (by omega)
        have tk : (k : Int) < (n : Int) := by omega
        have c2 : wr.cell? ⟨b, off + k * 4 + 2, none⟩ = some (.string (G k).name) := (HG.out k hlt).2.2.1
        have e5 : IntKind.i64.wrap ((k : Int) + 1) = ((k + 1 : Nat) : Int) := by rw [i64_small (by omega) (by omega)]; omega
        by_cases hs : (G k).name.size ≤ 200
        · have ts : ¬ 200 < (((G k).name.size : Nat) : Int) := by omega
          have HS := Lib.hid hs
          clear hs
          generalize (G k).name = x at c2 ts
          go_wp2_with fail
          go_roundw
          case rel => exact ⟨k + 1, by omega, by first | rfl | trivial, by first | rfl | trivial, fun i hi => by
            rcases Nat.lt_or_ge i k with y | y
            · exact HA.out i y
            · obtain rfl : i = k := by omega
              exact HS.out⟩
          case measure => simp [intOf]; omega
        · have ts : 200 < (((G k).name.size : Nat) : Int) := by omega
          clear hs
          generalize (G k).name = x at c2 ts
          go_wp2
          go_ret
          exact ⟨true, rfl, rfl, fun h => by cases h⟩
      · have tk : ¬ (k : Int) < (n : Int) := by omega
        have hkn : k = n := by omega
        go_wp2
        go_ret
        exact ⟨false, rfl, rfl, fun _ => ⟨hn, fun i hi => HA.out i (by omega)⟩⟩
  · have tn : 300 < (n : Int) := by omega
    go_enter Tryz.func4, Tryz.ntmps4
    go_wp2
    go_ret
    exact ⟨true, rfl, rfl, fun h => by cases h⟩
end Go.Proofs.YtpigbnlapcndgaaGreat
