/-
  What Read and Take do.
-/
import Derived.Test.YthaijfjodfgbnaaGreatMet
namespace Go.Proofs.YthaijfjodfgbnaaGreat.Me
open Go.RowKit
open Go.RwLone

/-- A meter whose lock is held by one who tells. -/
structure Lk (w : World) (g : Nat) (t c v s : Int) : Prop where
  c0 : w.cell? ⟨g, 0, none⟩ = some (.int .i32 1)
  c2 : w.cell? ⟨g, 2, none⟩ = some (.int .u32 0)
  c3 : w.cell? ⟨g, 3, none⟩ = some (.int .u32 0)
  c4 : w.cell? ⟨g, 4, none⟩ = some (.int .i32 (-1073741824))
  c6 : w.cell? ⟨g, 6, none⟩ = some (.int .i64 t)
  c7 : w.cell? ⟨g, 7, none⟩ = some (.int .i64 c)
  c8 : w.cell? ⟨g, 8, none⟩ = some (.int .i64 v)
  c9 : w.cell? ⟨g, 9, none⟩ = some (.int .i64 s)
  fr : ∀ j, w.frozen? ⟨g, j, none⟩ = false
theorem Lk.lt {w : World} {g : Nat} {t c v s : Int} (h : Lk w g t c v s) : g < w.heap.size := lt_of_cell h.c0
theorem Lk.same {w w' : World} {g : Nat} {t c v s : Int} (h : Lk w g t c v s) (e : w'.heap[g]? = w.heap[g]?) : Lk w' g t c v s :=
  have k : ∀ o, w'.cell? ⟨g, o, none⟩ = w.cell? ⟨g, o, none⟩ := fun _ => World.cell?_of_block (w := w) e
  ⟨(k _).trans h.c0, (k _).trans h.c2, (k _).trans h.c3, (k _).trans h.c4, (k _).trans h.c6, (k _).trans h.c7, (k _).trans h.c8, (k _).trans h.c9, fun j => (World.frozen?_of_block (w := w) (a := ⟨g, j, none⟩) e).trans (h.fr j)⟩
theorem Lk.below {w w' : World} {g : Nat} {t c v s : Int} (h : Lk w g t c v s) (hb : Below w.heap.size w w') : Lk w' g t c v s := h.same (hb.block g h.lt)
theorem Lk.alloc {w : World} {g : Nat} {t c v s : Int} (h : Lk w g t c v s) (o : Obj) : Lk (w.alloc o) g t c v s := h.same (Below.heap_alloc _ _ _ h.lt)
theorem Lk.other {w : World} {g : Nat} {t c v s : Int} (h : Lk w g t c v s) {p : Addr} (hp : p.block ≠ g) (u : Value) : Lk (w.setCell p u) g t c v s := h.same (Below.heap_setCell _ _ _ _ (fun e => hp e.symm))
theorem Lk.otherAt {w : World} {g : Nat} {t c v s : Int} (h : Lk w g t c v s) {b : Nat} (hp : b ≠ g) (o : Nat) (u : Value) : Lk (w.setCell ⟨b, o, none⟩ u) g t c v s := h.other hp u
theorem Four.otherAt {w : World} {N : Nat} {a b c d : Int} (h : Four w N a b c d) {g : Nat} (hp : g ≠ N) (o : Nat) (u : Value) : Four (w.setCell ⟨g, o, none⟩ u) N a b c d := h.other hp u
/-- Two cells of a block are other cells. -/
theorem cell_other (w : World) (g q p : Nat) (x : Value) (h : q ≠ p) : (w.setCell ⟨g, q, none⟩ x).cell? ⟨g, p, none⟩ = w.cell? ⟨g, p, none⟩ :=
  World.cell?_setCell_other _ _ _ _ (by intro e; injection e with _ e; omega)
theorem Mt.lock {w : World} {g : Nat} {t c v s : Int} (h : Mt w g t c v s) : Lk ((w.setCell ⟨g, 0, none⟩ (.int .i32 1)).setCell ⟨g, 4, none⟩ (.int .i32 (-1073741824))) g t c v s := by
  have o : ∀ q, 4 ≠ q → 0 ≠ q → ((w.setCell ⟨g, 0, none⟩ (.int .i32 1)).setCell ⟨g, 4, none⟩ (.int .i32 (-1073741824))).cell? ⟨g, q, none⟩ = w.cell? ⟨g, q, none⟩ := fun q h4 h6 => by
    rw [cell_other _ _ _ _ _ h4, cell_other _ _ _ _ _ h6]
  refine ⟨?_, (o 2 (by omega) (by omega)).trans h.c2, (o 3 (by omega) (by omega)).trans h.c3, ?_, (o 6 (by omega) (by omega)).trans h.c6, (o 7 (by omega) (by omega)).trans h.c7, (o 8 (by omega) (by omega)).trans h.c8, (o 9 (by omega) (by omega)).trans h.c9, fun k => ?_⟩
  · rw [cell_other _ _ _ _ _ (by omega)]; exact World.cell?_setCell_same _ _ _ h.c0
  · exact World.cell?_setCell_same _ _ _ ((cell_other _ _ _ _ _ (by omega)).trans h.c4)
  · rw [World.frozen?_setCell, World.frozen?_setCell]; exact h.fr k
theorem Lk.unlock {w : World} {g : Nat} {t c v s : Int} (h : Lk w g t c v s) : Mt ((w.setCell ⟨g, 4, none⟩ (.int .i32 0)).setCell ⟨g, 0, none⟩ (.int .i32 0)) g t c v s := by
  have o : ∀ q, 4 ≠ q → 0 ≠ q → ((w.setCell ⟨g, 4, none⟩ (.int .i32 0)).setCell ⟨g, 0, none⟩ (.int .i32 0)).cell? ⟨g, q, none⟩ = w.cell? ⟨g, q, none⟩ := fun q h4 h6 => by
    rw [cell_other _ _ _ _ _ h6, cell_other _ _ _ _ _ h4]
  refine ⟨?_, (o 2 (by omega) (by omega)).trans h.c2, (o 3 (by omega) (by omega)).trans h.c3, ?_, (o 6 (by omega) (by omega)).trans h.c6, (o 7 (by omega) (by omega)).trans h.c7, (o 8 (by omega) (by omega)).trans h.c8, (o 9 (by omega) (by omega)).trans h.c9, fun k => ?_⟩
  · exact World.cell?_setCell_same _ _ _ ((cell_other _ _ _ _ _ (by omega)).trans h.c0)
  · rw [cell_other _ _ _ _ _ (by omega)]; exact World.cell?_setCell_same _ _ _ h.c4
  · rw [World.frozen?_setCell, World.frozen?_setCell]; exact h.fr k
theorem Lk.put (j : Nat) {w : World} {g : Nat} {t c v s : Int} (h : Lk w g t c v s) (y t' c' v' s' : Int) (e0 : t' = if j = 0 then y else t) (e1 : c' = if j = 1 then y else c) (e2 : v' = if j = 2 then y else v) (e3 : s' = if j = 3 then y else s) :
    Lk (w.setCell ⟨g, 6 + j, none⟩ (.int .i64 y)) g t' c' v' s' := by
  have a0 : ∀ (q : Nat) (x : Int), w.cell? ⟨g, 6 + q, none⟩ = some (.int .i64 x) → (w.setCell ⟨g, 6 + j, none⟩ (.int .i64 y)).cell? ⟨g, 6 + q, none⟩ = some (.int .i64 (if j = q then y else x)) := fun q x hx => by
    by_cases hjq : j = q
    · subst hjq
      rw [if_pos rfl]
      exact World.cell?_setCell_same _ _ _ hx
    · rw [cell_other _ _ _ _ _ (by omega), if_neg hjq]; exact hx
  refine ⟨(cell_other _ _ _ _ _ (by omega)).trans h.c0, (cell_other _ _ _ _ _ (by omega)).trans h.c2, (cell_other _ _ _ _ _ (by omega)).trans h.c3, (cell_other _ _ _ _ _ (by omega)).trans h.c4, ?_, ?_, ?_, ?_, fun k => ?_⟩
  · rw [e0]; exact a0 0 t h.c6
  · rw [e1]; exact a0 1 c h.c7
  · rw [e2]; exact a0 2 v h.c8
  · rw [e3]; exact a0 3 s h.c9
  · rw [World.frozen?_setCell]; exact h.fr k

set_option maxRecDepth 100000 in
set_option maxHeartbeats 1600000 in
theorem read_nil (w : World) : Calls Tryz.prog 10 #[.pointer none] w fun e w' => e = .returned (agg4 0 0 0 0) ∧ Below w.heap.size w w' := by
  go_enter_defers Tryz.func10, Tryz.ntmps10
  go_wp2_with fail
  refine ⟨agg4 0 0 0 0, ?_, rfl, (Below.refl _ w).alloc (Nat.le_refl _) _⟩
  simp [results, Tryz.results10, go_sem, agg4]
set_option maxRecDepth 100000 in
set_option maxHeartbeats 3200000 in
theorem read_any (g : Nat) (t c v s : Int) (w : World) (h : Mt w g t c v s) :
    Calls Tryz.prog 10 #[.pointer (some ⟨g, 0, none⟩)] w fun e w' => e = .returned (agg4 t c v s) ∧ But g w w' ∧ Mt w' g t c v s := by
  have hlt := h.lt
  go_enter_defers Tryz.func10, Tryz.ntmps10
  go_wp2_with fail
  have R0 := Four.new w 0 0 0 0 49
  have M0 := h.alloc (.cells #[.int .i64 0, .int .i64 0, .int .i64 0, .int .i64 0] 49)
  have B0 := (But.refl g w).alloc (.cells #[.int .i64 0, .int .i64 0, .int .i64 0, .int .i64 0] 49)
  obtain ⟨w1, hw1⟩ : ∃ W, w.alloc (.cells #[.int .i64 0, .int .i64 0, .int .i64 0, .int .i64 0] 49) = W := ⟨_, rfl⟩
  rw [hw1] at R0 M0 B0 ⊢
  clear hw1 h
  refine (wlock_free rwWLib g 0 _ _ _ M0.c0 M0.c2 M0.c3 M0.c4 (M0.fr 0) (M0.fr 4)).mono ?_
  rintro e w' ⟨rfl, rfl⟩
  have M1 := M0.lock
  have R1 := (R0.otherAt (g := g) (by omega) 0 (.int .i32 1)).otherAt (g := g) (by omega) 4 (.int .i32 (-1073741824))
  have B1 := (B0.setCell 0 (.int .i32 1)).setCell 4 (.int .i32 (-1073741824))
  obtain ⟨w2, hw2⟩ : ∃ W, (w1.setCell ⟨g, 0, none⟩ (.int .i32 1)).setCell ⟨g, 4, none⟩ (.int .i32 (-1073741824)) = W := ⟨_, rfl⟩
  rw [Nat.zero_add, hw2]
  rw [hw2] at R1 M1 B1
  clear hw2 R0 M0 B0
  have t1 := R1.lt
  have t2 := M1.lt
  go_wp2_with fail
  have Q := Four.new w2 0 0 0 0 99
  have M := M1.alloc (.cells #[.int .i64 0, .int .i64 0, .int .i64 0, .int .i64 0] 99)
  have R := R1.alloc (.cells #[.int .i64 0, .int .i64 0, .int .i64 0, .int .i64 0] 99)
  have B := B1.alloc (.cells #[.int .i64 0, .int .i64 0, .int .i64 0, .int .i64 0] 99)
  obtain ⟨W0, hw3⟩ : ∃ W, w2.alloc (.cells #[.int .i64 0, .int .i64 0, .int .i64 0, .int .i64 0] 99) = W := ⟨_, rfl⟩
  rw [hw3] at R M B Q ⊢
  clear hw3 R1 M1 B1
  obtain ⟨T, hT⟩ : ∃ T, w2.heap.size = T := ⟨_, rfl⟩
  obtain ⟨N, hN⟩ : ∃ N, w.heap.size = N := ⟨_, rfl⟩
  have hN1 : w.heap.size ≤ N := by omega
  have hT1 : w.heap.size ≤ T := by omega
  rw [hT] at Q t1 t2 ⊢
  rw [hN] at R t1 hlt ⊢
  clear hT hN
  refine wp_loop_rounds 5 ?_
  rw [rounds_succ]
  have d0 := Q.c0
  have d1 := Q.fr 0
  go_wp2_with (go_at_call 33; refine (i64load_any ⟨g, 6, none⟩ t _ M.c6).mono ?_; rintro e w' ⟨rfl, rfl⟩)
  clear d0 d1
  replace Q := Q.put 0 t t 0 0 0 rfl rfl rfl rfl
  replace M := M.otherAt (b := T) (by omega) 0 (.int .i64 t)
  replace R := R.otherAt (g := T) (by omega) 0 (.int .i64 t)
  replace B := B.setNew (p := ⟨T, 0, none⟩) hT1 (.int .i64 t)
  generalize hW0 : World.setCell _ ⟨T, 0, none⟩ (.int .i64 t) = W1 at Q M R B ⊢
  clear hW0
  rw [rounds_succ]
  have d0 := Q.c1
  have d1 := Q.fr 1
  go_wp2_with (go_at_call 33; refine (i64load_any ⟨g, 7, none⟩ c _ M.c7).mono ?_; rintro e w' ⟨rfl, rfl⟩)
  clear d0 d1
  replace Q := Q.put 1 c t c 0 0 rfl rfl rfl rfl
  replace M := M.otherAt (b := T) (by omega) 1 (.int .i64 c)
  replace R := R.otherAt (g := T) (by omega) 1 (.int .i64 c)
  replace B := B.setNew (p := ⟨T, 1, none⟩) hT1 (.int .i64 c)
  generalize hW1 : World.setCell _ ⟨T, 1, none⟩ (.int .i64 c) = W2 at Q M R B ⊢
  clear hW1
  rw [rounds_succ]
  have d0 := Q.c2
  have d1 := Q.fr 2
  go_wp2_with (go_at_call 33; refine (i64load_any ⟨g, 8, none⟩ v _ M.c8).mono ?_; rintro e w' ⟨rfl, rfl⟩)
  clear d0 d1
  replace Q := Q.put 2 v t c v 0 rfl rfl rfl rfl
  replace M := M.otherAt (b := T) (by omega) 2 (.int .i64 v)
  replace R := R.otherAt (g := T) (by omega) 2 (.int .i64 v)
  replace B := B.setNew (p := ⟨T, 2, none⟩) hT1 (.int .i64 v)
  generalize hW2 : World.setCell _ ⟨T, 2, none⟩ (.int .i64 v) = W3 at Q M R B ⊢
  clear hW2
  rw [rounds_succ]
  have d0 := Q.c3
  have d1 := Q.fr 3
  go_wp2_with (go_at_call 33; refine (i64load_any ⟨g, 9, none⟩ s _ M.c9).mono ?_; rintro e w' ⟨rfl, rfl⟩)
  clear d0 d1
  replace Q := Q.put 3 s t c v s rfl rfl rfl rfl
  replace M := M.otherAt (b := T) (by omega) 3 (.int .i64 s)
  replace R := R.otherAt (g := T) (by omega) 3 (.int .i64 s)
  replace B := B.setNew (p := ⟨T, 3, none⟩) hT1 (.int .i64 s)
  generalize hW3 : World.setCell _ ⟨T, 3, none⟩ (.int .i64 s) = W4 at Q M R B ⊢
  clear hW3
  rw [rounds_succ]
  have d0 := Q.c0
  have d1 := Q.c1
  have d2 := Q.c2
  have d3 := Q.c3
  go_wp2_with fail
  clear d0 d1 d2 d3
  refine (named_any t c v s _).mono ?_
  rintro e W5 ⟨rfl, hb⟩
  replace M := M.below hb
  replace R := R.below hb
  replace B := B.trans (but_of hb g)
  clear hb Q
  unfold agg4
  have d0 := R.c0
  have d1 := R.c1
  have d2 := R.c2
  have d3 := R.c3
  have e0 := R.fr 0
  have e1 := R.fr 1
  have e2 := R.fr 2
  have e3 := R.fr 3
  go_wp2_with fail
  clear d0 d1 d2 d3 e0 e1 e2 e3
  replace R := R.all t c v s
  replace M := (((M.otherAt (b := N) (by omega) 0 (.int .i64 t)).otherAt (b := N) (by omega) 1 (.int .i64 c)).otherAt (b := N) (by omega) 2 (.int .i64 v)).otherAt (b := N) (by omega) 3 (.int .i64 s)
  replace B := (((B.setNew (p := ⟨N, 0, none⟩) hN1 (.int .i64 t)).setNew (p := ⟨N, 1, none⟩) hN1 (.int .i64 c)).setNew (p := ⟨N, 2, none⟩) hN1 (.int .i64 v)).setNew (p := ⟨N, 3, none⟩) hN1 (.int .i64 s)
  generalize hW6 : World.setCell (World.setCell (World.setCell (World.setCell _ ⟨N, 0, none⟩ (.int .i64 t)) ⟨N, 1, none⟩ (.int .i64 c)) ⟨N, 2, none⟩ (.int .i64 v)) ⟨N, 3, none⟩ (.int .i64 s) = W6 at R M B ⊢
  clear hW6
  refine leaves_cons (f := 32) (args := #[.pointer (some ⟨g, 0, none⟩)]) (by simp) (by simp [go_sem]) ?_
  refine (wunlock_deferred rwWLib g 0 _ _ .returning _ M.c0 M.c2 M.c3 M.c4 (M.fr 0) (M.fr 4)).mono ?_
  rintro e u' w'' ⟨rfl, rfl, rfl⟩
  have M7 := M.unlock
  have R7 := (R.otherAt (g := g) (by omega) 4 (.int .i32 0)).otherAt (g := g) (by omega) 0 (.int .i32 0)
  have B7 := (B.setCell 4 (.int .i32 0)).setCell 0 (.int .i32 0)
  refine ⟨agg4 t c v s, ?_, rfl, B7, M7⟩
  have d0 := R7.c0
  have d1 := R7.c1
  have d2 := R7.c2
  have d3 := R7.c3
  rw [Nat.zero_add]
  generalize World.setCell (World.setCell _ ⟨g, 4, none⟩ (.int .i32 0)) ⟨g, 0, none⟩ (.int .i32 0) = W8 at d0 d1 d2 d3 ⊢
  simp [results, Tryz.results10, go_sem, agg4, d0, d1, d2, d3]
end Go.Proofs.YthaijfjodfgbnaaGreat.Me
