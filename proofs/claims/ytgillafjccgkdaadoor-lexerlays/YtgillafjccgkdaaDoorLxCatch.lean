/-
  What a reader gives up with is caught.
-/
import Derived.Test.YtgillafjccgkdaaDoorLxSet
import Derived.Laws.ResultCell
namespace Go.Proofs.YtgillafjccgkdaaDoor
open Go.RowKit Go.WideShapes
namespace Lx

theorem ta_no (w : World) : (Instr.typeAssert .nilIface 20 48 true).run Tryd.prog w = .ok (.tuple #[.agg #[.int .i64 0, .int .i64 0], .bool false]) w := by kernel_rfl
theorem ta_yes (c a : Int) (w : World) : (Instr.typeAssert (.iface 48 (.agg #[.int .i64 c, .int .i64 a])) 20 48 true).run Tryd.prog w = .ok (.tuple #[.agg #[.int .i64 c, .int .i64 a], .bool true]) w := by kernel_rfl
set_option maxRecDepth 100000 in
theorem catch_idle (p q : Nat) (w : World) :
    CallsD Tryd.prog 15 #[.pointer (some ⟨p, 0, none⟩), .pointer (some ⟨q, 0, none⟩)] .returning w fun e u' w' => e = .returned (.tuple #[]) ∧ u' = .returning ∧ Below w.heap.size w w' := by
  have h1 := ta_no
  refine callsD_of_wpS Tryd.func15 rfl fun c₀ cs hu => ?_
  apply wpS_seq
  apply wpS_region
  simp [wpOpsS, go_sem, recoverD, hu, Tryd.ntmps15, Exit.thenS, h1]
  change Code.wpS Tryd.prog _ _ { tmps := #[.pointer (some ⟨p, 0, none⟩), .pointer (some ⟨q, 0, none⟩), .pointer (some ⟨w.heap.size, 0, none⟩), .bool false, .tuple #[.agg #[.int .i64 0, .int .i64 0], .bool false], .nilIface, .tuple #[.agg #[.int .i64 0, .int .i64 0], .bool false], .agg #[.int .i64 0, .int .i64 0], .bool false, undef, undef], defers := [] } _ _
  refine wpS_of_wp ?_
  go_wp2_with fail
  refine ⟨rfl, .returning, ?_, _, results_none rfl _ _ _, rfl, rfl, (Below.refl _ w).alloc (Nat.le_refl _) _⟩
  cases c₀
  simp_all
/-- What was caught lies in the results' cells. -/
structure Ca (w w' : World) (p q : Nat) (c a : Int) : Prop where
  os : w'.os = w.os
  tape : w'.tape = w.tape
  output : w'.output = w.output
  size : w.heap.size ≤ w'.heap.size
  block : ∀ k, k < w.heap.size → k ≠ p → k ≠ q → w'.heap[k]? = w.heap[k]?
  p : w'.cell? ⟨p, 0, none⟩ = some (.slice none 0 0)
  q0 : w'.cell? ⟨q, 0, none⟩ = some (.int .i64 c)
  q1 : w'.cell? ⟨q, 1, none⟩ = some (.int .i64 a)
theorem ca_of (p q : Nat) (w : World) (c a : Int) (hpq : p ≠ q) (v : Value) (v0 v1 : Value) (hp : w.cell? ⟨p, 0, none⟩ = some v) (h0 : w.cell? ⟨q, 0, none⟩ = some v0) (h1 : w.cell? ⟨q, 1, none⟩ = some v1) (o : Obj) :
    Ca w ((((w.alloc o).drew.setCell ⟨p, 0, none⟩ (.slice none 0 0)).setCell ⟨q, 0, none⟩ (.int .i64 c)).setCell ⟨q, 1, none⟩ (.int .i64 a)) p q c a := by
  have lp := lt_of_cell hp
  have lq := lt_of_cell h0
  have hp' : (w.alloc o).drew.cell? ⟨p, 0, none⟩ = some v := (World.cell?_of_block (a := ⟨p, 0, none⟩) (Below.heap_alloc w o p lp)).trans hp
  have h0' : (w.alloc o).drew.cell? ⟨q, 0, none⟩ = some v0 := (World.cell?_of_block (a := ⟨q, 0, none⟩) (Below.heap_alloc w o q lq)).trans h0
  have h1' : (w.alloc o).drew.cell? ⟨q, 1, none⟩ = some v1 := (World.cell?_of_block (a := ⟨q, 1, none⟩) (Below.heap_alloc w o q lq)).trans h1
  refine ⟨rfl, rfl, rfl, ?_, fun k hk n1 n2 => ?_, ?_, ?_, ?_⟩
  · simp [World.setCell]
  · rw [setCell_blk n2, setCell_blk n2, setCell_blk n1]
    exact Below.heap_alloc w o k hk
  · rw [World.cell?_setCell_other _ _ _ _ (by intro e; injection e with e1 e2; cases e2), World.cell?_setCell_other _ _ _ _ (by intro e; injection e with e1 e2; exact hpq e1.symm)]
    exact World.cell?_setCell_same' _ _ _ (by rw [hp']; rfl)
  · rw [World.cell?_setCell_other _ _ _ _ (by intro e; injection e with e1 e2; cases e2)]
    refine World.cell?_setCell_same' _ _ _ ?_
    rw [World.cell?_setCell_other _ _ _ _ (by intro e; injection e with e1 e2; exact hpq e1), h0']
    rfl
  · refine World.cell?_setCell_same' _ _ _ ?_
    rw [World.cell?_setCell_other _ _ _ _ (by intro e; injection e with e1 e2; cases e2), World.cell?_setCell_other _ _ _ _ (by intro e; injection e with e1 e2; exact hpq e1), h1']
    rfl
theorem ca_of2 (p q : Nat) (w : World) (c a : Int) (hpq : p ≠ q) (v : Value) (v0 v1 : Value) (hp : w.cell? ⟨p, 0, none⟩ = some v) (h0 : w.cell? ⟨q, 0, none⟩ = some v0) (h1 : w.cell? ⟨q, 1, none⟩ = some v1) (o : Obj) :
    Ca w ((((w.alloc o).drew.setCell ⟨q, 0, none⟩ (.int .i64 c)).setCell ⟨q, 1, none⟩ (.int .i64 a)).setCell ⟨p, 0, none⟩ (.slice none 0 0)) p q c a := by
  have lp := lt_of_cell hp
  have lq := lt_of_cell h0
  have hp' : (w.alloc o).drew.cell? ⟨p, 0, none⟩ = some v := (World.cell?_of_block (a := ⟨p, 0, none⟩) (Below.heap_alloc w o p lp)).trans hp
  have h0' : (w.alloc o).drew.cell? ⟨q, 0, none⟩ = some v0 := (World.cell?_of_block (a := ⟨q, 0, none⟩) (Below.heap_alloc w o q lq)).trans h0
  have h1' : (w.alloc o).drew.cell? ⟨q, 1, none⟩ = some v1 := (World.cell?_of_block (a := ⟨q, 1, none⟩) (Below.heap_alloc w o q lq)).trans h1
  refine ⟨rfl, rfl, rfl, ?_, fun k hk n1 n2 => ?_, ?_, ?_, ?_⟩
  · simp [World.setCell]
  · rw [setCell_blk n1, setCell_blk n2, setCell_blk n2]
    exact Below.heap_alloc w o k hk
  · refine World.cell?_setCell_same' _ _ _ ?_
    rw [World.cell?_setCell_other _ _ _ _ (by intro e; injection e with e1 e2; exact hpq e1.symm), World.cell?_setCell_other _ _ _ _ (by intro e; injection e with e1 e2; exact hpq e1.symm), hp']
    rfl
  · rw [World.cell?_setCell_other _ _ _ _ (by intro e; injection e with e1 e2; exact hpq e1), World.cell?_setCell_other _ _ _ _ (by intro e; injection e with e1 e2; cases e2)]
    refine World.cell?_setCell_same' _ _ _ ?_
    rw [h0']
    rfl
  · rw [World.cell?_setCell_other _ _ _ _ (by intro e; injection e with e1 e2; exact hpq e1)]
    refine World.cell?_setCell_same' _ _ _ ?_
    rw [World.cell?_setCell_other _ _ _ _ (by intro e; injection e with e1 e2; cases e2), h1']
    rfl
set_option maxRecDepth 100000 in
set_option maxHeartbeats 400000 in
theorem catch_panic (p q : Nat) (w : World) (c a : Int) (hpq : p ≠ q) (v v0 v1 : Value) (hp : w.cell? ⟨p, 0, none⟩ = some v) (h0 : w.cell? ⟨q, 0, none⟩ = some v0) (h1 : w.cell? ⟨q, 1, none⟩ = some v1) (zp : w.frozen? ⟨p, 0, none⟩ = false) (z0 : w.frozen? ⟨q, 0, none⟩ = false) (z1 : w.frozen? ⟨q, 1, none⟩ = false) :
    CallsD Tryd.prog 15 #[.pointer (some ⟨p, 0, none⟩), .pointer (some ⟨q, 0, none⟩)] (.panicking [{ v := .iface 48 (.agg #[.int .i64 c, .int .i64 a]), recovered := false }]) w fun e u' w' => e = .returned (.tuple #[]) ∧ u' = .panicking [{ v := .iface 48 (.agg #[.int .i64 c, .int .i64 a]), recovered := true }] ∧ Ca w w' p q c a := by
  have t1 := ta_yes c a
  have lp := lt_of_cell hp
  have lq := lt_of_cell h0
  have ap : ∀ o, (w.alloc o).cell? ⟨p, 0, none⟩ = some v := fun o => (World.cell?_of_block (a := ⟨p, 0, none⟩) (Below.heap_alloc w o p lp)).trans hp
  have a0 : ∀ o, (w.alloc o).cell? ⟨q, 0, none⟩ = some v0 := fun o => (World.cell?_of_block (a := ⟨q, 0, none⟩) (Below.heap_alloc w o q lq)).trans h0
  have a1 : ∀ o, (w.alloc o).cell? ⟨q, 1, none⟩ = some v1 := fun o => (World.cell?_of_block (a := ⟨q, 1, none⟩) (Below.heap_alloc w o q lq)).trans h1
  have fp : ∀ o, (w.alloc o).frozen? ⟨p, 0, none⟩ = false := fun o => (World.frozen?_of_block (a := ⟨p, 0, none⟩) (Below.heap_alloc w o p lp)).trans zp
  have f0 : ∀ o, (w.alloc o).frozen? ⟨q, 0, none⟩ = false := fun o => (World.frozen?_of_block (a := ⟨q, 0, none⟩) (Below.heap_alloc w o q lq)).trans z0
  have f1 : ∀ o, (w.alloc o).frozen? ⟨q, 1, none⟩ = false := fun o => (World.frozen?_of_block (a := ⟨q, 1, none⟩) (Below.heap_alloc w o q lq)).trans z1
  refine callsD_of_wpS Tryd.func15 rfl fun c₀ cs hu => ?_
  apply wpS_seq
  apply wpS_region
  simp [wpOpsS, go_sem, recoverD, hu, Tryd.ntmps15, Exit.thenS, t1]
  simp only [Array.replicate, List.replicate, List.setIfInBounds_toArray, List.set, List.append_toArray, List.cons_append, List.nil_append]
  refine wpS_of_wp ?_
  have HC := Lib.hid (ca_of p q w c a hpq v v0 v1 hp h0 h1 (.cells #[.int .i64 c, .int .i64 a] 48))
  have HC2 := Lib.hid (ca_of2 p q w c a hpq v v0 v1 hp h0 h1 (.cells #[.int .i64 c, .int .i64 a] 48))
  have n1 : ¬ p = w.heap.size := by omega
  have n2 : ¬ q = w.heap.size := by omega
  have n3 : ¬ w.heap.size = p := by omega
  have n4 : ¬ w.heap.size = q := by omega
  have n5 : ¬ q = p := fun e => hpq e.symm
  clear lp lq hp h0 h1 zp z0 z1 t1
  go_wp2_with fail
  go_region
  all_goals
    first
    | exact ⟨rfl, _, rfl, _, results_none rfl _ _ _, rfl, rfl, HC.out⟩
    | exact ⟨rfl, _, rfl, _, results_none rfl _ _ _, rfl, rfl, HC2.out⟩
end Lx
end Go.Proofs.YtgillafjccgkdaaDoor
