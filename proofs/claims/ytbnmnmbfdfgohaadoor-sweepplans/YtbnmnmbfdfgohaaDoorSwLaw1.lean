/-
  Lists that were handed in; large, same.
-/
import Derived.Test.YtbnmnmbfdfgohaaDoorSwRef
import Derived.Test.YtbnmnmbfdfgohaaDoorTrOpen
import Derived.Deep.Slices
import Derived.ChangeSame
namespace Go.Proofs.YtbnmnmbfdfgohaaDoor
open Go.ChangeShapes Go.WideShapes Go.ChangeAt Go.RowKit Go.Joins

instance : Inhabited Sh := ⟨Sh.nil⟩
/-- Lists in a row. -/
def LLs (W : World) (a : Option Addr) (n c : Nat) (G : Nat → Sh) : Prop :=
  n ≤ c ∧ ∃ b off, (0 < n → a = some ⟨b, off, none⟩ ∧ b < W.heap.size) ∧ ∀ i, i < n → W.cell? ⟨b, off + i, none⟩ = some (.slice (G i).a (G i).n (G i).c) ∧ Lz W W.heap.size (G i).a (G i).n (G i).c (G i).l ∧ ((G i).a = none → (G i).c = 0)
theorem Tryd.cellsI : Tryd.prog.cellsOf 3 = 1 := by kernel_rfl
theorem Tryd.cellsL : Tryd.prog.cellsOf 23 = 1 := by kernel_rfl
theorem pl_add (b off q : Nat) : (⟨b, off, none⟩ : Addr).add q = ⟨b, off + q, none⟩ := by
  unfold Addr.add
  split <;> simp_all
set_option maxRecDepth 100000 in
theorem ints_at {H : Type} {enc : TypeId × Value → H} {W : World} {fuel : Nat} {cs : List Value} {d : DataW H} {p : List MemPlace} (hf : DataW.trod enc Tryd.prog W 0 (fun _ => true) true fuel 23 cs = some (d, p)) :
    ∃ x : Sh, cs = [.slice x.a x.n x.c] ∧ Lz W W.heap.size x.a x.n x.c x.l ∧ (x.a = none → x.c = 0) := by
  rcases open_ints Tryd.underlying23 Tryd.underlying3 Tryd.cellsI hf with ⟨hcs, _⟩ | ⟨a, len, cap, zs, hcs, _, hl, hm, hz, _, hcell, hwz⟩
  · exact ⟨Sh.nil, hcs, Lz.nil _ _ _ _, fun _ => rfl⟩
  · simp only [if_true] at hz
    have hlen : (zs.take len).length = len := by simp; omega
    obtain ⟨b, off, spot⟩ := a
    refine ⟨⟨some ⟨b, off, spot⟩, len, cap, zs.take len⟩, hcs, ⟨hlen.symm, by omega, fun x hx => ?_, b, off, fun h0 => ?_, fun j hj => ?_⟩, (fun e => by cases e)⟩
    · have := bounds_i64 (hwz x (List.mem_of_mem_take hx))
      omega
    · have hp : 0 < zs.length := by simp only at h0; omega
      have hc := hcell 0 hp
      have hspot : spot = none := by simpa [Addr.add] using World.cell?_spot hc
      subst hspot
      rw [add_plain] at hc
      exact ⟨rfl, lt_of_cell hc⟩
    · simp only at hj
      have hj' : j < zs.length := by omega
      have hspot : spot = none := by simpa [Addr.add] using World.cell?_spot (hcell 0 (by omega))
      subst hspot
      have hc := hcell j hj'
      rw [add_plain] at hc
      rw [hc]
      simp [hj, hj', List.getD]
set_option maxRecDepth 100000 in
theorem lists_open {H : Type} {enc : TypeId × Value → H} {W : World} {r : Reach} {base : Nat} {v : Value} {d : DataW H} {p : List MemPlace} (hv : Value.okWide Tryd.prog W r base 22 v) (h : DataW.Trod enc Tryd.prog W 0 (fun _ => true) true 22 v d p) :
    ∃ a n c G, v = .slice a n c ∧ LLs W a n c G := by
  obtain ⟨a0, n0, c0, rfl⟩ := okWide_slice Tryd.underlying22 hv
  obtain ⟨fuel, hf⟩ := h
  rcases Deep.open_slice Tryd.underlying22 hf with ⟨hcs, _⟩ | ⟨a, len, cap, m, n, D, Pl, hcs, hb, hl, hm, hmm, _, hx⟩
  · simp [Value.cells] at hcs
    obtain ⟨rfl, rfl, rfl⟩ := hcs
    exact ⟨none, 0, 0, fun _ => Sh.nil, rfl, Nat.le_refl _, 0, 0, fun h => absurd h (by omega), fun i h => absurd h (by omega)⟩
  · simp [Value.cells] at hcs
    obtain ⟨rfl, rfl, rfl⟩ := hcs
    simp only [if_true] at hmm
    have each : ∀ i, i < m → ∃ x : Sh, W.cell? (a.add i) = some (.slice x.a x.n x.c) ∧ Lz W W.heap.size x.a x.n x.c x.l ∧ (x.a = none → x.c = 0) := by
      intro i hi
      obtain ⟨cs', h1, h2⟩ := hx i hi
      rw [Tryd.cellsL] at h1
      obtain ⟨_, hlen, hcell⟩ := World.cells?_some h1
      obtain ⟨x, e, hx⟩ := ints_at h2
      subst e
      have hc0 := hcell 0 (by omega)
      rw [Deep.add_add] at hc0
      exact ⟨x, by simpa using hc0, hx⟩
    obtain ⟨q, hq⟩ := Deep.choose_lt each
    obtain ⟨b, off, spot⟩ := a
    have hsp : 0 < n0 → spot = none := fun h0 => by
      have := (hq 0 (by omega)).1
      simpa [Addr.add] using World.cell?_spot this
    refine ⟨_, _, _, q, rfl, hl, b, off, fun h0 => ?_, fun i hi => ?_⟩
    · obtain rfl := hsp h0
      have hc := (hq 0 (by omega)).1
      rw [pl_add] at hc
      exact ⟨rfl, lt_of_cell hc⟩
    · obtain rfl := hsp (by omega)
      have hc := hq i (by omega)
      rw [pl_add] at hc
      exact hc
set_option maxRecDepth 100000 in
theorem ints_open2 {H : Type} {enc : TypeId × Value → H} {W : World} {r : Reach} {base : Nat} {v : Value} {d : DataW H} {p : List MemPlace} (hv : Value.okWide Tryd.prog W r base 23 v) (h : DataW.Trod enc Tryd.prog W 0 (fun _ => true) true 23 v d p) :
    ∃ a n c l, v = .slice a n c ∧ Lz W W.heap.size a n c l ∧ (a = none → c = 0) := by
  obtain ⟨a0, n0, c0, rfl⟩ := okWide_slice Tryd.underlying23 hv
  obtain ⟨fuel, hf⟩ := h
  obtain ⟨x, e, hx⟩ := ints_at hf
  simp [Value.cells] at e
  obtain ⟨rfl, rfl, rfl⟩ := e
  exact ⟨_, _, _, _, rfl, hx⟩
theorem LLs.below {w w' : World} {a : Option Addr} {n c : Nat} {G : Nat → Sh} (h : LLs w a n c G) (hb : Below w.heap.size w w') : LLs w' a n c G := by
  obtain ⟨h1, b, off, h2, h3⟩ := h
  refine ⟨h1, b, off, fun h0 => ⟨(h2 h0).1, Nat.lt_of_lt_of_le (h2 h0).2 hb.size⟩, fun i hi => ⟨(hb.cell (p := ⟨b, off + i, none⟩) (h2 (by omega)).2).trans (h3 i hi).1, ((h3 i hi).2.1.below hb).mono hb.size, (h3 i hi).2.2⟩⟩
/-- What large tells. -/
def LaR (b : Bool) (n rn : Nat) (G : Nat → Sh) : Prop := b = false → n ≤ 200 ∧ rn ≤ 200 ∧ ∀ i, i < n → (G i).n ≤ 60
def LaP (n rn : Nat) (G : Nat → Sh) (w : World) (e : Ending) (w' : World) : Prop := ∃ v, e = .returned (.bool v) ∧ LaR v n rn G ∧ w' = w
set_option maxRecDepth 100000 in
theorem large_any {w : World} {a : Option Addr} {n c : Nat} {G : Nat → Sh} (h : LLs w a n c G) (ra : Option Addr) (rn rc : Nat) : Calls Tryd.prog 8 #[.slice a n c, .slice ra rn rc] w (LaP n rn G w) := by
  by_cases h1 : (200 : Int) < (n : Int)
  · go_enter Tryd.func8, Tryd.ntmps8
    go_wp2
    go_ret
    exact ⟨true, rfl, (fun e => by cases e), rfl⟩
  · by_cases h2 : (200 : Int) < (rn : Int)
    · go_enter Tryd.func8, Tryd.ntmps8
      go_wp2
      go_ret
      exact ⟨true, rfl, (fun e => by cases e), rfl⟩
    · obtain ⟨hc, b, off, ha, hcell⟩ := h
      have HA := Lib.hid ha
      have HC := Lib.hid hcell
      clear ha hcell
      go_enter Tryd.func8, Tryd.ntmps8
      go_wp2_with fail
      go_loopw [5] (fun v5 wr => ∃ j : Nat, j ≤ n ∧ v5 = .int .i64 (j : Int) ∧ (∀ i, i < j → (G i).n ≤ 60) ∧ w = wr) (fun v5 _ => n - (intOf v5).toNat)
      case atStart => exact ⟨0, Nat.zero_le _, rfl, fun i h => absurd h (by omega), rfl⟩
      case round =>
        obtain ⟨j, hj, rfl, hG, rfl⟩ := hrel
        have HG := Lib.hid hG
        clear hG
        by_cases hjl : j < n
        · have tj : (j : Int) < (n : Int) := by omega
          have tj0 : (0 : Int) ≤ (j : Int) := by omega
          have ej : IntKind.i64.wrap ((j : Int) + 1) = ((j + 1 : Nat) : Int) := by rw [i64_small (by omega) (by omega)]; omega
          obtain ⟨rfl, _⟩ := HA.out (by omega)
          have cj := (HC.out j hjl).1
          by_cases h60 : (60 : Int) < ((G j).n : Int)
          · go_wp2
            go_ret
            exact ⟨true, rfl, (fun e => by cases e), rfl⟩
          · go_wp2_with fail
            go_roundw
            case rel =>
              refine ⟨j + 1, by omega, rfl, fun i hi => ?_, by first | trivial | rfl⟩
              by_cases e : i < j
              · exact HG.out i e
              · obtain rfl : i = j := by omega
                omega
            case measure => simp [intOf]; omega
        · obtain rfl : j = n := by omega
          have tj : ((j : Int) < (j : Int)) = False := by simp
          go_wp2
          go_ret
          exact ⟨false, rfl, fun _ => ⟨by omega, by omega, HG.out⟩, rfl⟩
/-- A list that can be read. -/
def Rdl (w : World) (a : Option Addr) (n : Nat) (l : List Int) : Prop := n = l.length ∧ ∃ b off, (0 < n → a = some ⟨b, off, none⟩) ∧ ∀ j, j < n → w.cell? ⟨b, off + j, none⟩ = some (.int .i64 (l[j]?.getD 0))
theorem Lz.rdl {w : World} {B : Nat} {a : Option Addr} {n c : Nat} {l : List Int} (h : Lz w B a n c l) : Rdl w a n l := by
  obtain ⟨h1, _, _, b, off, h2, h3⟩ := h
  exact ⟨h1, b, off, fun h => (h2 h).1, h3⟩
theorem IntsR.rdl {B : Nat} {w : World} {v : Value} {l : List Int} (h : IntsR B w v l) : ∃ a c, v = .slice a l.length c ∧ Rdl w a l.length l := by
  obtain ⟨a, cap, g, hv, _, ho⟩ := h.open
  refine ⟨a, cap, hv, rfl, g, 0, fun h0 => (ho h0).1, fun j hj => ?_⟩
  have := (ho (by omega)).2.2.2.c j hj
  rw [Nat.zero_add]
  exact this
theorem Rdl.below {w w' : World} {a : Option Addr} {n : Nat} {l : List Int} (h : Rdl w a n l) (hb : Below w.heap.size w w') : Rdl w' a n l := by
  obtain ⟨h1, b, off, h2, h3⟩ := h
  exact ⟨h1, b, off, h2, fun j hj => (hb.cell (p := ⟨b, off + j, none⟩) (lt_of_cell (h3 j hj))).trans (h3 j hj)⟩
set_option maxRecDepth 100000 in
theorem same_eq {w : World} {a1 a2 : Option Addr} {n c1 c2 : Nat} {l : List Int} (h1 : Rdl w a1 n l) (h2 : Rdl w a2 n l) (hl : n ≤ 100000) :
    Calls Tryd.prog 13 #[.slice a1 n c1, .slice a2 n c2] w fun e w' => e = .returned (.bool true) ∧ Below w.heap.size w w' := by
  obtain ⟨hn, b1, o1, ha1, hc1⟩ := h1
  obtain ⟨-, b2, o2, ha2, hc2⟩ := h2
  have HC1 := Lib.hid hc1
  have HC2 := Lib.hid hc2
  have HA1 := Lib.hid ha1
  have HA2 := Lib.hid ha2
  clear hc1 hc2 ha1 ha2 hn
  go_enter Tryd.func13, Tryd.ntmps13
  go_wp2_with fail
  go_loopw [5] (fun v5 wr => ∃ j : Nat, j ≤ n ∧ v5 = .int .i64 (j : Int) ∧ Below w.heap.size w wr) (fun v5 _ => n - (intOf v5).toNat)
  case atStart => exact ⟨0, Nat.zero_le _, rfl, Below.refl _ _⟩
  case round =>
    obtain ⟨j, hj, rfl, hB⟩ := hrel
    by_cases hjl : j < n
    · have tj : (j : Int) < (n : Int) := by omega
      have tj0 : (0 : Int) ≤ (j : Int) := by omega
      have ej : IntKind.i64.wrap ((j : Int) + 1) = ((j + 1 : Nat) : Int) := by rw [i64_small (by omega) (by omega)]; omega
      have e1 := HA1.out (by omega)
      have e2 := HA2.out (by omega)
      subst e1
      subst e2
      have p1 := (hB.cell (p := ⟨b1, o1 + j, none⟩) (lt_of_cell (HC1.out j hjl))).trans (HC1.out j hjl)
      have p2 := (hB.cell (p := ⟨b2, o2 + j, none⟩) (lt_of_cell (HC2.out j hjl))).trans (HC2.out j hjl)
      generalize l[j]?.getD 0 = x at *
      go_wp2_with fail
      go_region
      go_wp2_with fail
      go_roundw
      case rel => exact ⟨j + 1, by omega, rfl, hB.drew⟩
      case measure => simp [intOf]; omega
    · obtain rfl : j = n := by omega
      have tj : ((j : Int) < (j : Int)) = False := by simp
      go_wp2
      go_ret
      exact ⟨rfl, hB⟩
end Go.Proofs.YtbnmnmbfdfgohaaDoor
