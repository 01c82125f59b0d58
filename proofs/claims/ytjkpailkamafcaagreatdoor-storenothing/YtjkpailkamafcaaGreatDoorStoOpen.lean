/-
  A row of terms that was handed in, laid open; large.
-/
import Derived.Test.YtjkpailkamafcaaGreatDoorStoMem
import Derived.RegionTactic
import Derived.Test.YtjkpailkamafcaaGreatDoorTrOpen
import Derived.ChangeArms
import Derived.Deep.Slices
import Derived.ChangeSame
import Derived.Lib.SmallJoins
namespace Go.Proofs.YtjkpailkamafcaaGreatDoor
open Go.ChangeShapes Go.WideShapes Go.ChangeAt Go.RowKit Go.Joins

namespace Sto
/-- A term: what a call looks at. -/
structure Tm where
  kind : Int
  yes : Bool
  neg : Bool
  ma : Option Addr
  mn : Nat
  mc : Nat
  text : ByteArray
  ka : Option Addr
  kn : Nat
  kc : Nat
  hash : Bool
  same : Bool
  deriving Inhabited
/-- A row of terms. -/
def Ts (W : World) (a : Option Addr) (n c : Nat) (G : Nat → Tm) : Prop :=
  n ≤ c ∧ ∃ b off, (0 < n → a = some ⟨b, off, none⟩ ∧ b < W.heap.size) ∧ ∀ i, i < n → W.cell? ⟨b, off + (i * 8 + 0), none⟩ = some (.int .i64 (G i).kind) ∧ W.cell? ⟨b, off + (i * 8 + 1), none⟩ = some (.bool (G i).yes) ∧ W.cell? ⟨b, off + (i * 8 + 2), none⟩ = some (.bool (G i).neg) ∧ W.cell? ⟨b, off + (i * 8 + 3), none⟩ = some (.slice (G i).ma (G i).mn (G i).mc)
    ∧ W.cell? ⟨b, off + (i * 8 + 4), none⟩ = some (.string (G i).text) ∧ W.cell? ⟨b, off + (i * 8 + 5), none⟩ = some (.slice (G i).ka (G i).kn (G i).kc) ∧ W.cell? ⟨b, off + (i * 8 + 6), none⟩ = some (.bool (G i).hash) ∧ W.cell? ⟨b, off + (i * 8 + 7), none⟩ = some (.bool (G i).same)
theorem cellsTm : Tryz.prog.cellsOf 69 = 8 := by kernel_rfl
theorem cellsIn : Tryz.prog.cellsOf 3 = 1 := by kernel_rfl
theorem cellsBo : Tryz.prog.cellsOf 4 = 1 := by kernel_rfl
theorem cellsNm : Tryz.prog.cellsOf 67 = 2 := by kernel_rfl
theorem cellsSt : Tryz.prog.cellsOf 9 = 1 := by kernel_rfl
theorem cellsMs : Tryz.prog.cellsOf 65 = 1 := by kernel_rfl
theorem cellsKs : Tryz.prog.cellsOf 23 = 1 := by kernel_rfl
theorem cellsU : Tryz.prog.cellsOf 48 = 1 := by kernel_rfl
theorem tm_add (b off q : Nat) : (⟨b, off, none⟩ : Addr).add q = ⟨b, off + q, none⟩ := by
  unfold Addr.add
  split <;> simp_all
set_option maxRecDepth 100000 in
set_option maxHeartbeats 2000000 in
theorem terms_open {H : Type} {enc : TypeId × Value → H} {W : World} {r : Reach} {base : Nat} {v : Value} {d : DataW H} {p : List MemPlace} (hv : Value.okWide Tryz.prog W r base 22 v) (h : DataW.Trod enc Tryz.prog W 0 (fun _ => true) true 22 v d p) :
    ∃ a n c G, v = .slice a n c ∧ Ts W a n c G := by
  obtain ⟨a0, n0, c0, rfl⟩ := okWide_slice Tryz.underlying22 hv
  obtain ⟨fuel, hf⟩ := h
  rcases Deep.open_slice Tryz.underlying22 hf with ⟨hcs, _⟩ | ⟨a, len, cap, m, n, D, Pl, hcs, hb, hl, hm, hmm, _, hx⟩
  · simp [Value.cells] at hcs
    obtain ⟨rfl, rfl, rfl⟩ := hcs
    exact ⟨none, 0, 0, fun _ => default, rfl, Nat.le_refl _, 0, 0, fun h => absurd h (by omega), fun i h => absurd h (by omega)⟩
  · simp [Value.cells] at hcs
    obtain ⟨rfl, rfl, rfl⟩ := hcs
    simp only [if_true] at hmm
    have each : ∀ i, i < m → ∃ q : Tm, W.cell? (a.add (i * 8 + 0)) = some (.int .i64 q.kind) ∧ W.cell? (a.add (i * 8 + 1)) = some (.bool q.yes) ∧ W.cell? (a.add (i * 8 + 2)) = some (.bool q.neg) ∧ W.cell? (a.add (i * 8 + 3)) = some (.slice q.ma q.mn q.mc)
        ∧ W.cell? (a.add (i * 8 + 4)) = some (.string q.text) ∧ W.cell? (a.add (i * 8 + 5)) = some (.slice q.ka q.kn q.kc) ∧ W.cell? (a.add (i * 8 + 6)) = some (.bool q.hash) ∧ W.cell? (a.add (i * 8 + 7)) = some (.bool q.same) := by
      intro i hi
      obtain ⟨cs', h1, h2⟩ := hx i hi
      rw [cellsTm] at h1
      obtain ⟨_, hlen, hcell⟩ := World.cells?_some h1
      obtain ⟨xs, k, hk, hxy, _, hxl, hf⟩ := DataW.trod_struct Tryz.underlying69 h2
      match xs, hxl, cs', hlen with
      | [y0, y1, y2, y3, y4, y5, y6], _, [v0, v1, v2, v3, v4, v5, v6, v7], _ =>
        have g0 := hf 0 _ rfl
        have g1 := hf 1 _ rfl
        have g2 := hf 2 _ rfl
        have g3 := hf 3 _ rfl
        have g4 := hf 4 _ rfl
        have g5 := hf 5 _ rfl
        have g6 := hf 6 _ rfl
        simp [cellsIn, cellsBo, cellsNm, cellsSt, cellsKs] at g0 g1 g2 g3 g4 g5 g6
        obtain ⟨z0, e0, _⟩ := DataW.trod_int Tryz.underlying3 g0
        obtain ⟨z1, e1, _⟩ := DataW.trod_bool Tryz.underlying4 g1
        obtain ⟨us, k3, hk3, hu0, _, hul, hfu⟩ := DataW.trod_struct Tryz.underlying67 g2
        match us, hul with
        | [w0, w1], _ =>
          have f0 := hfu 0 _ rfl
          have f1 := hfu 1 _ rfl
          simp [cellsBo, cellsMs] at f0 f1
          obtain ⟨z2, e2, _⟩ := DataW.trod_bool Tryz.underlying4 f0
          obtain ⟨ma, mn, mc, e3⟩ : ∃ ma mn mc, [v3] = [Value.slice ma mn mc] := by
            rcases open_ints Tryz.underlying65 Tryz.underlying48 cellsU f1 with ⟨h, _⟩ | ⟨_, _, _, _, h, _⟩
            · exact ⟨_, _, _, h⟩
            · exact ⟨_, _, _, h⟩
          obtain ⟨z4, e4, _⟩ := DataW.trod_string Tryz.underlying9 g3
          obtain ⟨ka, kn, kc, e5⟩ : ∃ ma mn mc, [v5] = [Value.slice ma mn mc] := by
            rcases open_ints Tryz.underlying23 Tryz.underlying3 cellsIn g4 with ⟨h, _⟩ | ⟨_, _, _, _, h, _⟩
            · exact ⟨_, _, _, h⟩
            · exact ⟨_, _, _, h⟩
          obtain ⟨z6, e6, _⟩ := DataW.trod_bool Tryz.underlying4 g5
          obtain ⟨z7, e7, _⟩ := DataW.trod_bool Tryz.underlying4 g6
          simp only [List.cons.injEq, and_true] at e0 e1 e2 e3 e4 e5 e6 e7
          subst e0 e1 e2 e3 e4 e5 e6 e7
          have hc0 := hcell 0 (by omega)
          have hc1 := hcell 1 (by omega)
          have hc2 := hcell 2 (by omega)
          have hc3 := hcell 3 (by omega)
          have hc4 := hcell 4 (by omega)
          have hc5 := hcell 5 (by omega)
          have hc6 := hcell 6 (by omega)
          have hc7 := hcell 7 (by omega)
          rw [Deep.add_add] at hc0 hc1 hc2 hc3 hc4 hc5 hc6 hc7
          exact ⟨⟨z0, z1, z2, ma, mn, mc, z4, ka, kn, kc, z6, z7⟩, by simpa using hc0, by simpa using hc1, by simpa using hc2, by simpa using hc3, by simpa using hc4, by simpa using hc5, by simpa using hc6, by simpa using hc7⟩
    obtain ⟨q, hq⟩ := Deep.choose_lt each
    obtain ⟨b, off, spot⟩ := a
    have hsp : 0 < n0 → spot = none := fun h0 => by
      have := (hq 0 (by omega)).1
      simpa [Addr.add] using World.cell?_spot this
    refine ⟨_, _, _, q, rfl, hl, b, off, fun h0 => ?_, fun i hi => ?_⟩
    · obtain rfl := hsp h0
      have hc := (hq 0 (by omega)).1
      rw [tm_add] at hc
      exact ⟨rfl, lt_of_cell hc⟩
    · obtain rfl := hsp (by omega)
      have hc := hq i (by omega)
      simp only [tm_add] at hc
      exact hc
theorem Ts.below {w w' : World} {a : Option Addr} {n c : Nat} {G : Nat → Tm} (h : Ts w a n c G) (hb : Below w.heap.size w w') : Ts w' a n c G := by
  obtain ⟨h1, b, off, h2, h3⟩ := h
  have hk : ∀ i k, i < n → w'.cell? ⟨b, off + (i * 8 + k), none⟩ = w.cell? ⟨b, off + (i * 8 + k), none⟩ := fun i k hi => hb.cell (p := ⟨b, off + (i * 8 + k), none⟩) (h2 (by omega)).2
  refine ⟨h1, b, off, fun h0 => ⟨(h2 h0).1, Nat.lt_of_lt_of_le (h2 h0).2 hb.size⟩, fun i hi => ?_⟩
  rw [hk i 0 hi, hk i 1 hi, hk i 2 hi, hk i 3 hi, hk i 4 hi, hk i 5 hi, hk i 6 hi, hk i 7 hi]
  exact h3 i hi
/-- What large tells. -/
def LbP (w : World) (e : Ending) (w' : World) : Prop := ∃ b : Bool, e = .returned (.bool b) ∧ Below w.heap.size w w'
set_option maxRecDepth 100000 in
set_option maxHeartbeats 1600000 in
theorem large_any {w : World} {a : Option Addr} {n c : Nat} {G : Nat → Tm} (hS : Ts w a n c G) :
    Calls Tryz.prog 4 #[.slice a n c] w (LbP w) := by
  obtain ⟨hcap, b, off, hab, hG⟩ := hS
  by_cases hn : 120 < (n : Int)
  · go_enter Tryz.func4, Tryz.ntmps4
    go_wp2
    go_ret
    exact ⟨true, rfl, Below.refl _ _⟩
  · have HG := Lib.hid hG
    have HAB := Lib.hid hab
    clear hG hab
    go_enter Tryz.func4, Tryz.ntmps4
    go_wp2_with fail
    go_loopg [3, 4] n (fun gk v3 v4 wr => ∃ (j : Nat) (z : Int), j + gk = n ∧ v3 = .int .i64 z ∧ v4 = .int .i64 (j : Int) ∧ Below w.heap.size w wr)
    case atStart => exact ⟨0, 0, by omega, rfl, rfl, Below.refl _ _⟩
    case round =>
      obtain ⟨j, z, hj, rfl, rfl, hb⟩ := hrel
      have HB := Lib.hid hb
      by_cases hjl : j < n
      · have tj : (j : Int) < (n : Int) := by omega
        have tj0 : (0 : Int) ≤ (j : Int) := by omega
        have ej : IntKind.i64.wrap ((j : Int) + 1) = ((j + 1 : Nat) : Int) := by rw [i64_small (by omega) (by omega)]; omega
        obtain ⟨rfl, hbl⟩ := HAB.out (by omega)
        by_cases hz : z ≤ 3000
        · have hc := HG.out j hjl
          have c3 : wr.cell? ⟨b, off + j * 8 + 3, none⟩ = some (.slice (G j).ma (G j).mn (G j).mc) := (hb.cell (p := ⟨b, off + j * 8 + 3, none⟩) hbl).trans hc.2.2.2.1
          have c4 : wr.cell? ⟨b, off + j * 8 + 4, none⟩ = some (.string (G j).text) := (hb.cell (p := ⟨b, off + j * 8 + 4, none⟩) hbl).trans hc.2.2.2.2.1
          have c5 : wr.cell? ⟨b, off + j * 8 + 5, none⟩ = some (.slice (G j).ka (G j).kn (G j).kc) := (hb.cell (p := ⟨b, off + j * 8 + 5, none⟩) hbl).trans hc.2.2.2.2.2.1
          clear hb hc
          generalize (G j).ma = ma at *
          generalize (G j).mn = mn at *
          generalize (G j).mc = mc at *
          generalize (G j).ka = ka at *
          generalize (G j).kn = kn at *
          generalize (G j).kc = kc at *
          generalize (G j).text = tx at *
          go_wp2_with fail
          go_region
          go_wp2_with fail
          go_roundg (gk - 1)
          case measure => omega
          case rel => exact ⟨j + 1, _, by omega, rfl, by first | rfl | trivial, HB.out.drew⟩
        · clear hb
          go_wp2_with fail
          go_ret
          first | exact ⟨true, rfl, HB.out⟩ | exact ⟨decide (3000 < z), rfl, HB.out⟩
      · obtain rfl : j = n := by omega
        have tj : ((j : Int) < (j : Int)) = False := by simp
        clear hb
        go_wp2_with fail
        go_ret
        first | exact ⟨true, rfl, HB.out⟩ | exact ⟨decide (3000 < z), rfl, HB.out⟩
end Sto
end Go.Proofs.YtjkpailkamafcaaGreatDoor
