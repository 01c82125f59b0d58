/-
  The closures of TrailStops.
-/
import Derived.Deep.CutRange
import Derived.Test.YtddgkdjpklegnaaTrCells
namespace Go.Proofs.Ytddgkdjpklegnaa
open Go.RowKit Go.WideShapes Go.Proofs.Ytddgkdjpklegnaa.Tr

/-- What lies about a turn of TrailStops, below block N: where to stop, the list that is wanted, the trail. -/
structure Ctx (W0 : World) (N : Nat) (h : Int) (L S T b off cap bS bW bH bL bI : Nat) : Prop where
  lt : bS < N ∧ bW < N ∧ bH < N ∧ bL < N ∧ bI < N ∧ b < N
  s : W0.cell? ⟨bS, 0, none⟩ = some (.int .i64 (T : Int))
  w : W0.cell? ⟨bW, 0, none⟩ = some (.slice (some ⟨b, off, none⟩) (S + 13) cap)
  g : ∀ j, j < S + 13 → W0.cell? ⟨b, off + j, none⟩ = some (.int .i64 ((trl (uw h) L j : Nat) : Int))
  l : W0.cell? ⟨bL, 0, none⟩ = some (.int .i64 (L : Int))
  h : W0.cell? ⟨bH, 0, none⟩ = some (.int .i64 h)
  i : W0.cell? ⟨bI, 0, none⟩ = some (.func (.func 22) #[] #[.pointer (some ⟨bL, 0, none⟩), .pointer (some ⟨bH, 0, none⟩)])
  c : S + 13 ≤ cap
  sz : S ≤ 1048576
/-- What a turn keeps, from block N on: the count, whether all was right, whether it is over. -/
structure Tst (W0 : World) (N i : Nat) (ov : Bool) (W : World) : Prop where
  b : Below N W0 W
  n : W.cell? ⟨N, 0, none⟩ = some (.int .i64 (i : Int))
  o : W.cell? ⟨N + 1, 0, none⟩ = some (.bool true)
  v : W.cell? ⟨N + 2, 0, none⟩ = some (.bool ov)
  fn : W.frozen? ⟨N, 0, none⟩ = false
  fo : W.frozen? ⟨N + 1, 0, none⟩ = false
  fv : W.frozen? ⟨N + 2, 0, none⟩ = false
/-- The blocks behind a turn's own, up to n, are as they were. -/
def Kp (N n : Nat) (V W : World) : Prop := ∀ k, N + 3 ≤ k → k < n → W.heap[k]? = V.heap[k]?
theorem Kp.trans {N n : Nat} {A B C : World} (h : Kp N n A B) (k : Kp N n B C) : Kp N n A C := fun j h1 h2 => (k j h1 h2).trans (h j h1 h2)
theorem kp_put {N n : Nat} (W : World) (j : Nat) (u : Value) (hj : j < N + 3 ∨ n ≤ j) : Kp N n W (W.setCell ⟨j, 0, none⟩ u) := fun k h1 h2 => Below.heap_setCell _ _ _ _ (by show k ≠ j; omega)
theorem kp_below {N n B : Nat} {V W : World} (h : Below B V W) (hn : n ≤ B) : Kp N n V W := fun k _ h2 => h.block k (by omega)
theorem Tst.below {W0 W W' : World} {N i : Nat} {ov : Bool} (h : Tst W0 N i ov W) {B : Nat} (hB : Below B W W') (hn : N + 3 ≤ B) : Tst W0 N i ov W' := by
  have fr : ∀ j, j < B → W'.frozen? ⟨j, 0, none⟩ = W.frozen? ⟨j, 0, none⟩ := fun j hj => World.frozen?_of_block (a := ⟨j, 0, none⟩) (hB.block j hj)
  exact ⟨h.b.trans (hB.mono (by omega)), (hB.cell (p := ⟨N, 0, none⟩) (by show N < B; omega)).trans h.n, (hB.cell (p := ⟨N + 1, 0, none⟩) (by show N + 1 < B; omega)).trans h.o, (hB.cell (p := ⟨N + 2, 0, none⟩) (by show N + 2 < B; omega)).trans h.v, (fr N (by omega)).trans h.fn, (fr (N + 1) (by omega)).trans h.fo, (fr (N + 2) (by omega)).trans h.fv⟩
/-- And the count of the trail within; what lay before it is as it was in V. -/
structure Kst (V W0 : World) (N i : Nat) (ov : Bool) (g k : Nat) (W : World) : Prop where
  t : Tst W0 N i ov W
  k : W.cell? ⟨g, 0, none⟩ = some (.int .i64 (k : Int))
  f : W.frozen? ⟨g, 0, none⟩ = false
  p : Kp N g V W
theorem Kst.below {V W0 W W' : World} {N i g k : Nat} {ov : Bool} (h : Kst V W0 N i ov g k W) {B : Nat} (hB : Below B W W') (hg : N + 3 ≤ g) (hn : g < B) : Kst V W0 N i ov g k W' :=
  ⟨h.t.below hB (by omega), (hB.cell (p := ⟨g, 0, none⟩) hn).trans h.k, (World.frozen?_of_block (a := ⟨g, 0, none⟩) (hB.block g hn)).trans h.f, h.p.trans (kp_below hB (by omega))⟩
theorem addr_ne {i j : Nat} (h : i ≠ j) : (⟨i, 0, none⟩ : Addr) ≠ ⟨j, 0, none⟩ := fun e => by injection e with e1; exact h e1
theorem cell_put_ne {W : World} {i j : Nat} {u v : Value} (h : W.cell? ⟨i, 0, none⟩ = some u) (hn : j ≠ i) : (W.setCell ⟨j, 0, none⟩ v).cell? ⟨i, 0, none⟩ = some u := by
  rw [World.cell?_setCell_other _ _ _ _ (addr_ne (by first | exact hn | exact fun e => hn e.symm))]; exact h
theorem cell_put_same {W : World} {i : Nat} {u v : Value} (h : W.cell? ⟨i, 0, none⟩ = some u) : (W.setCell ⟨i, 0, none⟩ v).cell? ⟨i, 0, none⟩ = some v :=
  World.cell?_setCell_same' _ _ _ (by rw [h]; rfl)
theorem fr_put {W : World} {p q : Addr} {v : Value} (h : W.frozen? q = false) : (W.setCell p v).frozen? q = false := by rw [World.frozen?_setCell]; exact h
theorem Tst.putOk {W0 W : World} {N i : Nat} {ov : Bool} (h : Tst W0 N i ov W) : Tst W0 N i ov (W.setCell ⟨N + 1, 0, none⟩ (.bool true)) :=
  ⟨h.b.setCell (p := ⟨N + 1, 0, none⟩) (by show N ≤ N + 1; omega) _, cell_put_ne h.n (by omega), cell_put_same h.o, cell_put_ne h.v (by omega), fr_put h.fn, fr_put h.fo, fr_put h.fv⟩
theorem Tst.putN {W0 W : World} {N i : Nat} {ov : Bool} (h : Tst W0 N i ov W) : Tst W0 N (i + 1) ov (W.setCell ⟨N, 0, none⟩ (.int .i64 ((i : Int) + 1))) :=
  ⟨h.b.setCell (p := ⟨N, 0, none⟩) (Nat.le_refl _) _, by rw [show ((i + 1 : Nat) : Int) = (i : Int) + 1 by omega]; exact cell_put_same h.n, cell_put_ne h.o (by omega), cell_put_ne h.v (by omega), fr_put h.fn, fr_put h.fo, fr_put h.fv⟩
theorem Tst.putV {W0 W : World} {N i : Nat} {ov : Bool} (h : Tst W0 N i ov W) (c : Bool) : Tst W0 N i c (W.setCell ⟨N + 2, 0, none⟩ (.bool c)) :=
  ⟨h.b.setCell (p := ⟨N + 2, 0, none⟩) (by show N ≤ N + 2; omega) _, cell_put_ne h.n (by omega), cell_put_ne h.o (by omega), cell_put_same h.v, fr_put h.fn, fr_put h.fo, fr_put h.fv⟩
theorem Tst.putK {W0 W : World} {N i g : Nat} {ov : Bool} (h : Tst W0 N i ov W) (hg : N + 3 ≤ g) (u : Value) : Tst W0 N i ov (W.setCell ⟨g, 0, none⟩ u) :=
  ⟨h.b.setCell (p := ⟨g, 0, none⟩) (by show N ≤ g; omega) _, cell_put_ne h.n (by omega), cell_put_ne h.o (by omega), cell_put_ne h.v (by omega), fr_put h.fn, fr_put h.fo, fr_put h.fv⟩
theorem Kst.putOk {V W0 W : World} {N i g k : Nat} {ov : Bool} (h : Kst V W0 N i ov g k W) (hg : N + 3 ≤ g) : Kst V W0 N i ov g k (W.setCell ⟨N + 1, 0, none⟩ (.bool true)) :=
  ⟨h.t.putOk, cell_put_ne h.k (by omega), fr_put h.f, h.p.trans (kp_put _ _ _ (by omega))⟩
theorem Kst.putK {V W0 W : World} {N i g k : Nat} {ov : Bool} (h : Kst V W0 N i ov g k W) (hg : N + 3 ≤ g) : Kst V W0 N i ov g (k + 1) (W.setCell ⟨g, 0, none⟩ (.int .i64 ((k : Int) + 1))) :=
  ⟨h.t.putK hg _, by rw [show ((k + 1 : Nat) : Int) = (k : Int) + 1 by omega]; exact cell_put_same h.k, fr_put h.f, h.p.trans (kp_put _ _ _ (by omega))⟩

set_option maxRecDepth 100000 in
set_option maxHeartbeats 4000000 in
theorem stops11_any {V W0 W : World} {N : Nat} {h : Int} {L S T b off cap bS bW bH bL bI : Nat} (hC : Ctx W0 N h L S T b off cap bS bW bH bL bI) {i g k : Nat} {ov : Bool} (hK : Kst V W0 N i ov g k W) (hg : N + 3 ≤ g) (hk : k < S + 13) (hk3 : k < 3) (bi : Nat) (hbi : g + 1 ≤ bi) :
    Calls Try.prog 17 #[.int .i64 ((trl (uw h) L k : Nat) : Int), .pointer (some ⟨N + 1, 0, none⟩), .pointer (some ⟨g, 0, none⟩), .pointer (some ⟨bW, 0, none⟩)] W fun e W' =>
      e = .returned (.bool (decide (k + 1 < 3))) ∧ Kst V W0 N i ov g (k + 1) W' ∧ W'.heap[bi]? = W.heap[bi]? := by
  have c1 := hK.t.o
  have c2 := hK.k
  have c3 : W.cell? ⟨bW, 0, none⟩ = some (.slice (some ⟨b, off, none⟩) (S + 13) cap) := (hK.t.b.cell (p := ⟨bW, 0, none⟩) hC.lt.2.1).trans hC.w
  have c4 : W.cell? ⟨b, off + k, none⟩ = some (.int .i64 ((trl (uw h) L k : Nat) : Int)) := (hK.t.b.cell (p := ⟨b, off + k, none⟩) hC.lt.2.2.2.2.2).trans (hC.g k hk)
  have f1 := hK.t.fo
  have f2 := hK.f
  have i1 : (k : Int) < (S : Int) + 13 := by omega
  have i2 : (S : Int) + 13 ≤ 1048589 := by have := hC.sz; omega
  have HK2 := Lib.hid ((hK.putOk hg).putK hg)
  have HBI : Hid (((W.setCell ⟨N + 1, 0, none⟩ (.bool true)).setCell ⟨g, 0, none⟩ (.int .i64 ((k : Int) + 1))).heap[bi]? = W.heap[bi]?) := (Below.heap_setCell _ _ _ _ (by show bi ≠ g; omega)).trans (Below.heap_setCell _ _ _ _ (by show bi ≠ N + 1; omega))
  clear hbi
  have hgN : N + 1 ≠ g := by omega
  have hgN2 : g ≠ N + 1 := by omega
  clear hC hK
  generalize trl (uw h) L k = y at c4 ⊢
  have e1 : ((y : Int) == (y : Int)) = true := by simp
  go_enter Try.func17, Try.ntmps17
  go_wp2_with fail
  go_ret
  refine ⟨?_, HK2.out, HBI.out⟩
  show Ending.returned (Value.bool (decide ((k : Int) + 1 < 3))) = _
  rw [decide_eq_decide.2 (show (k : Int) + 1 < 3 ↔ k + 1 < 3 by omega)]

/-- The trail within the trail: three cells, and all is as before. -/
theorem within_any {V W0 W : World} {N : Nat} {h : Int} {L S T b off cap bS bW bH bL bI : Nat} (hS : Sz L S) (hC : Ctx W0 N h L S T b off cap bS bW bH bL bI) {i g : Nat} {ov : Bool} (hK : Kst V W0 N i ov g 0 W) (hg : N + 3 ≤ g) :
    Calls Try.prog 22 #[.func (.func 17) #[] #[.pointer (some ⟨N + 1, 0, none⟩), .pointer (some ⟨g, 0, none⟩), .pointer (some ⟨bW, 0, none⟩)], .pointer (some ⟨bL, 0, none⟩), .pointer (some ⟨bH, 0, none⟩)] W fun e W' =>
      e = .returned (.tuple #[]) ∧ Tst W0 N i ov W' ∧ Kp N g V W' := by
  have hgw : g < W.heap.size := lt_of_cell hK.k
  refine (seq_any hS h 17 #[.pointer (some ⟨N + 1, 0, none⟩), .pointer (some ⟨g, 0, none⟩), .pointer (some ⟨bW, 0, none⟩)] bL bH W (fun bi k W => k < 3 ∧ g + 1 ≤ bi ∧ Kst V W0 N i ov g k W) (fun W => Tst W0 N i ov W ∧ Kp N g V W)
    Try.call17 ((hK.t.b.cell (p := ⟨bL, 0, none⟩) hC.lt.2.2.2.1).trans hC.l) ((hK.t.b.cell (p := ⟨bH, 0, none⟩) hC.lt.2.2.1).trans hC.h)
    (fun bi W' hb _ hB => ⟨by omega, by omega, hK.below hB hg hgw⟩)
    (fun bi k W' c p _ _ hJ => ⟨hJ.1, hJ.2.1, hJ.2.2.below (stepW_below (B := bi) W' bi 0 c p (Nat.le_refl _)) hg (by have := hJ.2.1; omega)⟩) ?_).mono ?_
  · intro bi k W' _ _ hk hJ
    refine (stops11_any hC hJ.2.2 hg hk hJ.1 bi hJ.2.1).mono ?_
    rintro e W2 ⟨rfl, h2, h4⟩
    by_cases h3 : k + 1 < 3
    · rw [decide_eq_true h3]
      exact .inl ⟨rfl, ⟨h3, hJ.2.1, h2⟩, h4⟩
    · rw [decide_eq_false h3]
      exact .inr ⟨rfl, h2.t, h2.p⟩
  · rintro e W' ⟨rfl, ⟨_, _, hJ⟩ | hQ⟩
    · exact ⟨rfl, hJ.2.2.t, hJ.2.2.p⟩
    · exact ⟨rfl, hQ⟩

set_option maxRecDepth 100000 in
set_option maxHeartbeats 4000000 in
theorem stops1_any {W0 W : World} {N : Nat} {h : Int} {L S T b off cap bS bW bH bL bI : Nat} (hS : Sz L S) (hC : Ctx W0 N h L S T b off cap bS bW bH bL bI) {i : Nat} (hT : Tst W0 N i false W) (hi : i < S + 13) :
    Calls Try.prog 16 #[.int .i64 ((trl (uw h) L i : Nat) : Int), .pointer (some ⟨N + 1, 0, none⟩), .pointer (some ⟨N + 2, 0, none⟩), .pointer (some ⟨N, 0, none⟩), .pointer (some ⟨bW, 0, none⟩), .pointer (some ⟨bI, 0, none⟩), .pointer (some ⟨bS, 0, none⟩)] W fun e W' =>
      e = .returned (.bool (!decide (i + 1 = T))) ∧ Tst W0 N (i + 1) (decide (i + 1 = T)) W' ∧ Kp N W.heap.size W W' := by
  have hN : N + 3 ≤ W.heap.size := lt_of_cell hT.v
  have c1 := hT.o
  have c2 := hT.n
  have c0 := hT.v
  have c3 : W.cell? ⟨bW, 0, none⟩ = some (.slice (some ⟨b, off, none⟩) (S + 13) cap) := (hT.b.cell (p := ⟨bW, 0, none⟩) hC.lt.2.1).trans hC.w
  have c4 : W.cell? ⟨b, off + i, none⟩ = some (.int .i64 ((trl (uw h) L i : Nat) : Int)) := (hT.b.cell (p := ⟨b, off + i, none⟩) hC.lt.2.2.2.2.2).trans (hC.g i hi)
  have f1 := hT.fo
  have f2 := hT.fn
  have i1 : (i : Int) < (S : Int) + 13 := by omega
  have i2 : (S : Int) + 13 ≤ 1048589 := by have := hC.sz; omega
  have HT1 : Hid (Tst W0 N i false (W.setCell ⟨N + 1, 0, none⟩ (.bool true))) := hT.putOk
  have HP1 : Hid (Kp N W.heap.size W (W.setCell ⟨N + 1, 0, none⟩ (.bool true)) ∧ W.heap.size ≤ (W.setCell ⟨N + 1, 0, none⟩ (.bool true)).heap.size) := ⟨kp_put _ _ _ (by omega), by simp⟩
  have HN1 : Hid (N + 3 ≤ (W.setCell ⟨N + 1, 0, none⟩ (.bool true)).heap.size) := by show _ ≤ _; simp; omega
  have tail : Hid (∀ W1, Tst W0 N i false W1 → W1.cell? ⟨N, 0, none⟩ = some (.int .i64 (i : Int)) ∧ W1.cell? ⟨N + 1, 0, none⟩ = some (.bool true) ∧ W1.cell? ⟨N + 2, 0, none⟩ = some (.bool false) ∧ W1.frozen? ⟨N, 0, none⟩ = false ∧ W1.frozen? ⟨N + 2, 0, none⟩ = false ∧ W1.cell? ⟨bS, 0, none⟩ = some (.int .i64 (T : Int)) ∧ bS < N ∧ W1.cell? ⟨bI, 0, none⟩ = some (.func (.func 22) #[] #[.pointer (some ⟨bL, 0, none⟩), .pointer (some ⟨bH, 0, none⟩)])) := fun W1 h1 =>
    ⟨h1.n, h1.o, h1.v, h1.fn, h1.fv, (h1.b.cell (p := ⟨bS, 0, none⟩) hC.lt.1).trans hC.s, hC.lt.1, (h1.b.cell (p := ⟨bI, 0, none⟩) hC.lt.2.2.2.2.1).trans hC.i⟩
  have wit : Hid (∀ W1, Tst W0 N i false W1 → N + 3 ≤ W1.heap.size → Calls Try.prog 22 #[.func (.func 17) #[] #[.pointer (some ⟨N + 1, 0, none⟩), .pointer (some ⟨W1.heap.size, 0, none⟩), .pointer (some ⟨bW, 0, none⟩)], .pointer (some ⟨bL, 0, none⟩), .pointer (some ⟨bH, 0, none⟩)] (W1.alloc (.cells #[.int .i64 0] 3)) fun e W' => e = .returned (.tuple #[]) ∧ Tst W0 N i false W' ∧ Kp N W1.heap.size W1 W') := fun W1 h1 hn => by
    have hb : Below W1.heap.size W1 (W1.alloc (.cells #[.int .i64 0] 3)) := (Below.refl _ W1).alloc (Nat.le_refl _) _
    have hh : (W1.alloc (.cells #[.int .i64 0] 3)).heap[W1.heap.size]? = some (.cells #[.int .i64 0] 3 (0, 0)) := heap_alloc_new W1 _
    have fr : ∀ j, j < W1.heap.size → (W1.alloc (.cells #[.int .i64 0] 3)).frozen? ⟨j, 0, none⟩ = W1.frozen? ⟨j, 0, none⟩ := fun j hj => World.frozen?_of_block (a := ⟨j, 0, none⟩) (hb.block j hj)
    refine within_any (V := W1) hS hC (g := W1.heap.size) ⟨⟨h1.b.trans (hb.mono (by omega)), (hb.cell (p := ⟨N, 0, none⟩) (by show N < _; omega)).trans h1.n, (hb.cell (p := ⟨N + 1, 0, none⟩) (by show N + 1 < _; omega)).trans h1.o, (hb.cell (p := ⟨N + 2, 0, none⟩) (by show N + 2 < _; omega)).trans h1.v, (fr N (by omega)).trans h1.fn, (fr (N + 1) (by omega)).trans h1.fo, (fr (N + 2) (by omega)).trans h1.fv⟩, by rw [World.cell?_alloc_at _ _ _ _ rfl]; rfl, frozen_new hh 0, kp_below hb (Nat.le_refl _)⟩ hn
  obtain ⟨n0, hn0⟩ : ∃ n0, W.heap.size = n0 := ⟨_, rfl⟩
  rw [hn0] at HP1 hN
  obtain ⟨V, hV⟩ : ∃ V, W = V := ⟨_, rfl⟩
  have FIN : Hid (∀ W1 c, Tst W0 N i false W1 → Kp N n0 V W1 → Tst W0 N (i + 1) c ((W1.setCell ⟨N, 0, none⟩ (.int .i64 ((i : Int) + 1))).setCell ⟨N + 2, 0, none⟩ (.bool c)) ∧ Kp N n0 V ((W1.setCell ⟨N, 0, none⟩ (.int .i64 ((i : Int) + 1))).setCell ⟨N + 2, 0, none⟩ (.bool c))) := fun W1 c h1 h2 => ⟨h1.putN.putV c, h2.trans ((kp_put _ _ _ (by omega)).trans (kp_put _ _ _ (by omega)))⟩
  have HP1' : Hid (Kp N n0 V (W.setCell ⟨N + 1, 0, none⟩ (.bool true)) ∧ n0 ≤ (W.setCell ⟨N + 1, 0, none⟩ (.bool true)).heap.size) := by rw [← hV]; exact HP1
  have hmf : ∀ (fn : Fn) (first cap : Array Value) (w : World), (Instr.makeFunc fn first cap).run Try.prog w = .ok (.func fn first cap) w := fun _ _ _ _ => rfl
  obtain ⟨c, hc⟩ : ∃ c, decide (i + 1 = T) = c := ⟨_, rfl⟩
  have e2 : ((i : Int) + 1 == (T : Int)) = c := by
    rw [← hc]
    by_cases h : i + 1 = T
    · rw [decide_eq_true h]; simp; omega
    · rw [decide_eq_false h]; simp; omega
  rw [hc, hn0]
  rw [show Kp N n0 W = Kp N n0 V by rw [hV]]
  clear hC hT hc hS HP1 hV hn0
  generalize trl (uw h) L i = y at c4 ⊢
  have e1 : ((y : Int) == (y : Int)) = true := by simp
  go_enter Try.func16, Try.ntmps16
  go_upto_region 2 with fail
  have hT1 := HT1.out
  have hN1 := HN1.out
  clear HT1 HN1
  generalize World.setCell _ _ _ = W1 at hT1 hN1 HP1' ⊢
  obtain ⟨d0, d1, d2, g0, g2, d3, hbs, d4⟩ := tail.out W1 hT1
  clear c0 c1 c2 c3 c4 f1 f2 hN
  by_cases h1 : i = 1
  · have w1 := wit.out W1 hT1 hN1
    subst h1
    replace d0 : W1.cell? ⟨N, 0, none⟩ = some (.int .i64 1) := d0
    replace e2 : ((2 : Int) == (T : Int)) = c := e2
    have FIN2 : Hid (∀ W1 c, Tst W0 N 1 false W1 → Kp N n0 V W1 → Tst W0 N (1 + 1) c ((W1.setCell ⟨N, 0, none⟩ (.int .i64 2)).setCell ⟨N + 2, 0, none⟩ (.bool c)) ∧ Kp N n0 V ((W1.setCell ⟨N, 0, none⟩ (.int .i64 2)).setCell ⟨N + 2, 0, none⟩ (.bool c))) := FIN
    have HD : Hid (∀ W1, Tst W0 N 1 false W1 → W1.cell? ⟨N, 0, none⟩ = some (.int .i64 1)) := fun W1 h => h.n
    clear FIN i1
    have d5 : (W1.alloc (.cells #[.int .i64 0] 3)).cell? ⟨bI, 0, none⟩ = _ := (((Below.refl _ W1).alloc (Nat.le_refl _) _).cell (p := ⟨bI, 0, none⟩) (lt_of_cell d4)).trans d4
    go_upto_region 4 with fail
    clear d0 d1 d2 g0 g2 d3 d4 hT1 hN1
    generalize W1.alloc (.cells #[.int .i64 0] 3) = W3 at w1 d5 ⊢
    go_wp2_with fail
    refine w1.mono ?_
    rintro e W2 ⟨rfl, hT2, hP2⟩
    have HP2 : Hid (Kp N n0 V W2) := fun k h1 h2 => (hP2 k h1 (Nat.lt_of_lt_of_le h2 HP1'.out.2)).trans (HP1'.out.1 k h1 h2)
    clear hP2 HP1'
    obtain ⟨_, k1, k2, l0, l2, k3, _, _⟩ := tail.out W2 hT2
    have k0 := HD.out W2 hT2
    clear w1 d5
    go_wp2
    go_ret
    exact ⟨rfl, FIN2.out W2 c hT2 HP2.out⟩
  · have e3 : ((i : Int) == 1) = false := by simp; omega
    clear h1
    go_wp2
    go_ret
    exact ⟨rfl, FIN.out W1 c hT1 HP1'.out.1⟩
end Go.Proofs.Ytddgkdjpklegnaa
