/-
  What lexiconlaw4.counts, awake and does do.
-/
import Derived.Test.YtljonofedefdbaaMtRead
import Derived.Deep.RegionHeld3
import Derived.Deep.Cut
namespace Go.Proofs.Ytljonofedefdbaa
open Go.RowKit
open Go.RwLone

/-- Does an n count? -/
def ctb (n : Int) : Bool := decide (1 ≤ n ∧ n ≤ 2147483647)
set_option maxHeartbeats 800000 in
theorem counts_any (n : Int) (w : World) : Calls Try.prog 12 #[.int .i64 n] w fun e w' => e = .returned (.bool (ctb n)) ∧ w' = w := by
  by_cases h1 : 1 ≤ n
  · by_cases h2 : n ≤ 2147483647
    · have hc : ctb n = true := decide_eq_true ⟨h1, h2⟩
      rw [hc]
      clear hc
      go_enter Try.func12, Try.ntmps12
      go_wp2
      go_ret
      exact ⟨rfl, rfl⟩
    · have hc : ctb n = false := decide_eq_false (fun h => h2 h.2)
      rw [hc]
      clear hc
      go_enter Try.func12, Try.ntmps12
      go_wp2
      go_ret
      exact ⟨rfl, rfl⟩
  · have hc : ctb n = false := decide_eq_false (fun h => h1 h.1)
    rw [hc]
    clear hc
    go_enter Try.func12, Try.ntmps12
    go_wp2
    go_ret
    exact ⟨rfl, rfl⟩
theorem Mt.newB (w : World) (ty : TypeId) : Mt (w.alloc (.cells #[.int .i32 0, .int .u32 0, .int .u32 0, .int .u32 0, .int .i32 0, .int .i32 0, .int .i64 0, .int .i64 0, .int .i64 0, .int .i64 0] ty)) w.heap.size 0 0 0 0 := Mt.new w ty
theorem more1 : more 0 1 = 1 := by kernel_rfl
theorem more3 : more 0 3 = 3 := by kernel_rfl
set_option maxRecDepth 100000 in
set_option maxHeartbeats 800000 in
theorem awake_any (w : World) : Calls Try.prog 6 #[] w fun e w' => e = .returned (.bool true) ∧ Below w.heap.size w w' := by
  go_enter Try.func6, Try.ntmps6
  go_wp2_with fail
  have M := Mt.new w 42
  have B := (Below.refl w.heap.size w).alloc (Nat.le_refl _) (.cells #[.int .i32 0, .int .u32 0, .int .u32 0, .int .u32 0, .int .i32 0, .int .i32 0, .int .i64 0, .int .i64 0, .int .i64 0, .int .i64 0] 42)
  generalize w.alloc (.cells #[.int .i32 0, .int .u32 0, .int .u32 0, .int .u32 0, .int .i32 0, .int .i32 0, .int .i64 0, .int .i64 0, .int .i64 0, .int .i64 0] 42) = w1 at M B ⊢
  refine (table_any _ 0 0 0 0 _ M).mono ?_
  rintro e w2 ⟨rfl, b2, M2⟩
  replace B := B.trans (b2.below (Nat.le_refl _) B.size)
  rw [more1] at M2
  clear b2 M
  go_wp2_with fail
  refine (visit_any _ 3 1 0 0 0 _ M2).mono ?_
  rintro e w3 ⟨rfl, b2, M3⟩
  replace B := B.trans (b2.below (Nat.le_refl _) B.size)
  rw [more3] at M3
  clear b2 M2
  go_wp2_with fail
  refine (read_any _ 1 3 0 0 _ M3).mono ?_
  rintro e w4 ⟨rfl, b2, M4⟩
  replace B := B.trans (b2.below (Nat.le_refl _) B.size)
  clear b2 M3
  unfold agg4
  go_wp2
  go_ret
  exact ⟨rfl, B⟩
/-- Two numbers in a box. -/
structure Duo (w : World) (N : Nat) (a b : Int) : Prop where
  c0 : w.cell? ⟨N, 0, none⟩ = some (.int .i64 a)
  c1 : w.cell? ⟨N, 1, none⟩ = some (.int .i64 b)
theorem Duo.lt {w : World} {N : Nat} {a b : Int} (h : Duo w N a b) : N < w.heap.size := lt_of_cell h.c0
theorem Duo.same {w w' : World} {N : Nat} {a b : Int} (h : Duo w N a b) (e : w'.heap[N]? = w.heap[N]?) : Duo w' N a b :=
  have k : ∀ o, w'.cell? ⟨N, o, none⟩ = w.cell? ⟨N, o, none⟩ := fun _ => World.cell?_of_block (w := w) e
  ⟨(k _).trans h.c0, (k _).trans h.c1⟩
theorem Duo.but {w w' : World} {N g : Nat} {a b : Int} (h : Duo w N a b) (hb : But g w w') (hg : N ≠ g) : Duo w' N a b := h.same (hb.block N h.lt hg)
theorem Duo.alloc {w : World} {N : Nat} {a b : Int} (h : Duo w N a b) (o : Obj) : Duo (w.alloc o) N a b := h.same (Below.heap_alloc _ _ _ h.lt)
theorem Duo.new (w : World) (a b : Int) (ty : TypeId) : Duo (w.alloc (.cells #[.int .i64 a, .int .i64 b] ty)) w.heap.size a b := by
  constructor <;> (rw [World.cell?_alloc_at _ _ _ _ rfl]; rfl)
/-- What does lays down first. -/
theorem does_boxes (w : World) (t c v s K n : Int) (t1 t2 t3 : TypeId) :
    let W := ((w.alloc (.cells #[.int .i64 t, .int .i64 c, .int .i64 v, .int .i64 s] t1)).alloc (.cells #[.int .i64 K, .int .i64 n] t2)).alloc (.cells #[.int .i64 0, .int .i64 0, .int .i64 0, .int .i64 0] t3)
    Four W w.heap.size t c v s ∧ Duo W (w.heap.size + 1) K n ∧ Four W (w.heap.size + 1 + 1) 0 0 0 0 ∧ Below w.heap.size w W := by
  intro W
  refine ⟨((Four.new w t c v s t1).alloc _).alloc _, ?_, ?_, (((Below.refl w.heap.size w).alloc (Nat.le_refl _) _).alloc (by simp) _).alloc (by simp; omega) _⟩
  · have h := (Duo.new (w.alloc (.cells #[.int .i64 t, .int .i64 c, .int .i64 v, .int .i64 s] t1)) K n t2).alloc (.cells #[.int .i64 0, .int .i64 0, .int .i64 0, .int .i64 0] t3)
    simpa using h
  · have h := Four.new ((w.alloc (.cells #[.int .i64 t, .int .i64 c, .int .i64 v, .int .i64 s] t1)).alloc (.cells #[.int .i64 K, .int .i64 n] t2)) 0 0 0 0 t3
    simpa using h
/-- Four stores into a box. -/
def put4 (w : World) (N : Nat) (a b c d : Int) : World := (((w.setCell ⟨N, 0, none⟩ (.int .i64 a)).setCell ⟨N, 1, none⟩ (.int .i64 b)).setCell ⟨N, 2, none⟩ (.int .i64 c)).setCell ⟨N, 3, none⟩ (.int .i64 d)
theorem put4_block (w : World) (N : Nat) (a b c d : Int) (k : Nat) (h : k ≠ N) : (put4 w N a b c d).heap[k]? = w.heap[k]? := by
  unfold put4
  rw [Below.heap_setCell _ _ _ _ h, Below.heap_setCell _ _ _ _ h, Below.heap_setCell _ _ _ _ h, Below.heap_setCell _ _ _ _ h]
theorem But.put4 {g : Nat} {a w : World} (h : But g a w) {N : Nat} (hN : a.heap.size ≤ N) (x y z u : Int) : But g a (put4 w N x y z u) :=
  ⟨h.os, h.tape, h.output, by have := h.size; unfold Proofs.Ytljonofedefdbaa.put4; simpa [World.setCell] using this, fun k hk hg => (put4_block _ _ _ _ _ _ _ (by omega)).trans (h.block k hk hg)⟩
theorem more_one (x : Int) : more x 1 = wrap64 (x + 1) := if_pos (by omega)
theorem more_in {x n : Int} (h : ctb n = true) : more x n = wrap64 (x + n) := if_pos (of_decide_eq_true h)
theorem more_out {x n : Int} (h : ctb n = false) : more x n = x := if_neg (of_decide_eq_false h)
/-- What the held cells are. -/
def P4 (N : Nat) (a b c d : Int) (W : World) : Prop := W.cell? ⟨N, 0, none⟩ = some (.int .i64 a) ∧ W.cell? ⟨N, 1, none⟩ = some (.int .i64 b) ∧ W.cell? ⟨N, 2, none⟩ = some (.int .i64 c) ∧ W.cell? ⟨N, 3, none⟩ = some (.int .i64 d)
theorem P4.lt {N : Nat} {a b c d : Int} {W : World} (h : P4 N a b c d W) : N < W.heap.size := lt_of_cell h.1
theorem P4.same {N : Nat} {a b c d : Int} {w w' : World} (h : P4 N a b c d w) (e : w'.heap[N]? = w.heap[N]?) : P4 N a b c d w' :=
  have k : ∀ o, w'.cell? ⟨N, o, none⟩ = w.cell? ⟨N, o, none⟩ := fun _ => World.cell?_of_block (w := w) e
  ⟨(k _).trans h.1, (k _).trans h.2.1, (k _).trans h.2.2.1, (k _).trans h.2.2.2⟩
theorem P4.but {N g : Nat} {a b c d : Int} {w w' : World} (h : P4 N a b c d w) (hb : But g w w') (hg : N ≠ g) : P4 N a b c d w' := h.same (hb.block N h.lt hg)
theorem P4.below {N : Nat} {a b c d : Int} {w w' : World} (h : P4 N a b c d w) (hb : Below w.heap.size w w') : P4 N a b c d w' := h.same (hb.block N h.lt)
theorem P4.put {N M : Nat} {a b c d : Int} {w : World} (h : P4 N a b c d w) (hM : N ≠ M) (x y z u : Int) : P4 N a b c d (put4 w M x y z u) := h.same (put4_block _ _ _ _ _ _ _ hM)
end Go.Proofs.Ytljonofedefdbaa
