/-
  What lexiconlaw4.does does, of a meter and of none.
-/
import Derived.Test.YtljonofedefdbaaMtDoes
namespace Go.Proofs.Ytljonofedefdbaa
open Go.RowKit
open Go.RwLone

set_option maxRecDepth 100000 in
set_option maxHeartbeats 3200000 in
theorem does1 (g : Nat) (t c v s n : Int) (w : World) (h : Mt w g t c v s) :
    Calls Try.prog 7 #[.pointer (some ⟨g, 0, none⟩), agg4 t c v s, .agg #[.int .i64 1, .int .i64 n]] w fun e w' => ∃ t' c' v' s', e = .returned (.tuple #[agg4 t' c' v' s', .bool true]) ∧ But g w w' ∧ Mt w' g t' c' v' s' := by
  have hlt := h.lt
  unfold agg4
  go_enter Try.func7, Try.ntmps7
  go_upto_region 1 with fail
  have hbs := does_boxes w t c v s 1 n 44 48 44
  generalize hW0 : World.alloc (World.alloc (World.alloc w _) _) _ = W0
  simp only [hW0] at hbs
  obtain ⟨A, X, Z, B⟩ := hbs
  have M := h.below B
  replace B := but_of B g
  clear hW0 h
  generalize hN : w.heap.size = N at A X Z hlt ⊢
  have hN1 : w.heap.size ≤ N := by omega
  clear hN
  have x0 := X.c0
  have x1 := X.c1
  go_wp2_with fail
  clear x0 x1 X
  refine (table_any g t c v s _ M).mono ?_
  rintro e W1 ⟨rfl, b1, M1⟩
  rw [more_one] at M1
  replace A := A.but b1 (by omega)
  replace Z := Z.but b1 (by omega)
  replace B := B.trans b1
  clear b1 M
  have a0 := A.c0
  have f0 := A.fr 0
  go_upto_region 20 with fail
  clear a0 f0
  generalize hY : (wrap64 (t + 1) : Int) = Y at M1 ⊢
  replace A := A.put 0 Y Y c v s rfl rfl rfl rfl
  replace Z := Z.otherAt (g := N) (by omega) 0 (.int .i64 Y)
  have M := M1.other (p := ⟨N, 0, none⟩) (by simp; omega) (.int .i64 Y)
  replace B := B.setNew (p := ⟨N, 0, none⟩) hN1 (.int .i64 Y)
  clear hY M1
  generalize World.setCell _ ⟨N, 0, none⟩ (.int .i64 Y) = W2 at A Z B M ⊢
  have a0 := A.c0
  have z0 := Z.c0
  have f0 := Z.fr 0
  have a1 := A.c1
  have z1 := Z.c1
  have f1 := Z.fr 1
  have a2 := A.c2
  have z2 := Z.c2
  have f2 := Z.fr 2
  have a3 := A.c3
  have z3 := Z.c3
  have f3 := Z.fr 3
  go_wp2
  clear a0 z0 f0 a1 z1 f1 a2 z2 f2 a3 z3 f3
  replace Z := Z.all Y c v s
  replace M := M.same (put4_block _ (N + 1 + 1) Y c v s g (by omega))
  replace B := B.put4 (N := N + 1 + 1) (by omega) Y c v s
  unfold put4 at M B
  generalize World.setCell (World.setCell (World.setCell (World.setCell _ ⟨N + 1 + 1, 0, none⟩ (.int .i64 Y)) ⟨N + 1 + 1, 1, none⟩ (.int .i64 c)) ⟨N + 1 + 1, 2, none⟩ (.int .i64 v)) ⟨N + 1 + 1, 3, none⟩ (.int .i64 s) = W9 at Z M B ⊢
  have d0 := Z.c0
  have d1 := Z.c1
  have d2 := Z.c2
  have d3 := Z.c3
  refine bodyPost_ret (v := .tuple #[.agg #[.int .i64 Y, .int .i64 c, .int .i64 v, .int .i64 s], .bool true]) ?_ rfl ⟨Y, c, v, s, rfl, B, M⟩
  simp [results, Try.results7, go_sem, d0, d1, d2, d3]
set_option maxRecDepth 100000 in
set_option maxHeartbeats 3200000 in
theorem does1n (n : Int) (w : World) :
    Calls Try.prog 7 #[.pointer none, agg4 0 0 0 0, .agg #[.int .i64 1, .int .i64 n]] w fun e w' => ∃ x, e = .returned x ∧ Below w.heap.size w w' := by
  unfold agg4
  go_enter Try.func7, Try.ntmps7
  go_upto_region 1 with fail
  have hbs := does_boxes w 0 0 0 0 1 n 44 48 44
  generalize hW0 : World.alloc (World.alloc (World.alloc w _) _) _ = W0
  simp only [hW0] at hbs
  obtain ⟨A, X, Z, B⟩ := hbs
  clear hW0
  have hN2 : w.heap.size ≤ W0.heap.size := B.size
  generalize hN : w.heap.size = N at A X Z ⊢
  have hN1 : w.heap.size ≤ N := by omega
  clear hN
  have x0 := X.c0
  have x1 := X.c1
  go_wp2_with fail
  clear x0 x1 X
  refine (table_nil _).mono ?_
  rintro e W1 ⟨rfl, rfl⟩
  have a0 := A.c0
  have f0 := A.fr 0
  go_upto_region 20 with fail
  clear a0 f0
  have eY : (.int .i64 1 : Value) = .int .i64 1 := rfl
  clear eY
  replace A := A.put 0 1 1 0 0 0 rfl rfl rfl rfl
  replace Z := Z.otherAt (g := N) (by omega) 0 (.int .i64 1)
  replace B := B.setCell (p := ⟨N, 0, none⟩) hN1 (.int .i64 1)
  generalize World.setCell _ ⟨N, 0, none⟩ (.int .i64 1) = W2 at A Z B ⊢
  have a0 := A.c0
  have z0 := Z.c0
  have f0 := Z.fr 0
  have a1 := A.c1
  have z1 := Z.c1
  have f1 := Z.fr 1
  have a2 := A.c2
  have z2 := Z.c2
  have f2 := Z.fr 2
  have a3 := A.c3
  have z3 := Z.c3
  have f3 := Z.fr 3
  go_wp2
  clear a0 z0 f0 a1 z1 f1 a2 z2 f2 a3 z3 f3
  replace Z := Z.all 1 0 0 0
  replace B := (((B.setCell (p := ⟨N + 1 + 1, 0, none⟩) (by simp; omega) (.int .i64 1)).setCell (p := ⟨N + 1 + 1, 1, none⟩) (by simp; omega) (.int .i64 0)).setCell (p := ⟨N + 1 + 1, 2, none⟩) (by simp; omega) (.int .i64 0)).setCell (p := ⟨N + 1 + 1, 3, none⟩) (by simp; omega) (.int .i64 0)
  generalize World.setCell (World.setCell (World.setCell (World.setCell _ ⟨N + 1 + 1, 0, none⟩ (.int .i64 1)) ⟨N + 1 + 1, 1, none⟩ (.int .i64 0)) ⟨N + 1 + 1, 2, none⟩ (.int .i64 0)) ⟨N + 1 + 1, 3, none⟩ (.int .i64 0) = W9 at Z B ⊢
  have d0 := Z.c0
  have d1 := Z.c1
  have d2 := Z.c2
  have d3 := Z.c3
  refine bodyPost_ret (v := .tuple #[.agg #[.int .i64 1, .int .i64 0, .int .i64 0, .int .i64 0], .bool true]) ?_ rfl ⟨_, rfl, B⟩
  simp [results, Try.results7, go_sem, d0, d1, d2, d3]
set_option maxRecDepth 100000 in
set_option maxHeartbeats 3200000 in
theorem does4 (g : Nat) (t c v s n : Int) (w : World) (h : Mt w g t c v s) :
    Calls Try.prog 7 #[.pointer (some ⟨g, 0, none⟩), agg4 t c v s, .agg #[.int .i64 4, .int .i64 n]] w fun e w' => ∃ t' c' v' s', e = .returned (.tuple #[agg4 t' c' v' s', .bool true]) ∧ But g w w' ∧ Mt w' g t' c' v' s' := by
  have hlt := h.lt
  unfold agg4
  go_enter Try.func7, Try.ntmps7
  go_upto_region 1 with fail
  have hbs := does_boxes w t c v s 4 n 44 48 44
  generalize hW0 : World.alloc (World.alloc (World.alloc w _) _) _ = W0
  simp only [hW0] at hbs
  obtain ⟨A, X, Z, B⟩ := hbs
  have M := h.below B
  replace B := but_of B g
  clear hW0 h
  generalize hN : w.heap.size = N at A X Z hlt ⊢
  have hN1 : w.heap.size ≤ N := by omega
  clear hN
  have x0 := X.c0
  have x1 := X.c1
  go_wp2_with fail
  clear x0 x1 X
  refine (turn_any g t c v s _ M).mono ?_
  rintro e W1 ⟨rfl, b1, M1⟩
  rw [more_one] at M1
  replace A := A.but b1 (by omega)
  replace Z := Z.but b1 (by omega)
  replace B := B.trans b1
  clear b1 M
  have a0 := A.c3
  have f0 := A.fr 3
  go_upto_region 20 with fail
  clear a0 f0
  generalize hY : (wrap64 (s + 1) : Int) = Y at M1 ⊢
  replace A := A.put 3 Y t c v Y rfl rfl rfl rfl
  replace Z := Z.otherAt (g := N) (by omega) 3 (.int .i64 Y)
  have M := M1.other (p := ⟨N, 3, none⟩) (by simp; omega) (.int .i64 Y)
  replace B := B.setNew (p := ⟨N, 3, none⟩) hN1 (.int .i64 Y)
  clear hY M1
  generalize World.setCell _ ⟨N, 3, none⟩ (.int .i64 Y) = W2 at A Z B M ⊢
  have a0 := A.c0
  have z0 := Z.c0
  have f0 := Z.fr 0
  have a1 := A.c1
  have z1 := Z.c1
  have f1 := Z.fr 1
  have a2 := A.c2
  have z2 := Z.c2
  have f2 := Z.fr 2
  have a3 := A.c3
  have z3 := Z.c3
  have f3 := Z.fr 3
  go_wp2
  clear a0 z0 f0 a1 z1 f1 a2 z2 f2 a3 z3 f3
  replace Z := Z.all t c v Y
  replace M := M.same (put4_block _ (N + 1 + 1) t c v Y g (by omega))
  replace B := B.put4 (N := N + 1 + 1) (by omega) t c v Y
  unfold put4 at M B
  generalize World.setCell (World.setCell (World.setCell (World.setCell _ ⟨N + 1 + 1, 0, none⟩ (.int .i64 t)) ⟨N + 1 + 1, 1, none⟩ (.int .i64 c)) ⟨N + 1 + 1, 2, none⟩ (.int .i64 v)) ⟨N + 1 + 1, 3, none⟩ (.int .i64 Y) = W9 at Z M B ⊢
  have d0 := Z.c0
  have d1 := Z.c1
  have d2 := Z.c2
  have d3 := Z.c3
  refine bodyPost_ret (v := .tuple #[.agg #[.int .i64 t, .int .i64 c, .int .i64 v, .int .i64 Y], .bool true]) ?_ rfl ⟨t, c, v, Y, rfl, B, M⟩
  simp [results, Try.results7, go_sem, d0, d1, d2, d3]
set_option maxRecDepth 100000 in
set_option maxHeartbeats 3200000 in
theorem does4n (n : Int) (w : World) :
    Calls Try.prog 7 #[.pointer none, agg4 0 0 0 0, .agg #[.int .i64 4, .int .i64 n]] w fun e w' => ∃ x, e = .returned x ∧ Below w.heap.size w w' := by
  unfold agg4
  go_enter Try.func7, Try.ntmps7
  go_upto_region 1 with fail
  have hbs := does_boxes w 0 0 0 0 4 n 44 48 44
  generalize hW0 : World.alloc (World.alloc (World.alloc w _) _) _ = W0
  simp only [hW0] at hbs
  obtain ⟨A, X, Z, B⟩ := hbs
  clear hW0
  have hN2 : w.heap.size ≤ W0.heap.size := B.size
  generalize hN : w.heap.size = N at A X Z ⊢
  have hN1 : w.heap.size ≤ N := by omega
  clear hN
  have x0 := X.c0
  have x1 := X.c1
  go_wp2_with fail
  clear x0 x1 X
  refine (turn_nil _).mono ?_
  rintro e W1 ⟨rfl, rfl⟩
  have a0 := A.c3
  have f0 := A.fr 3
  go_upto_region 20 with fail
  clear a0 f0
  have eY : (.int .i64 1 : Value) = .int .i64 1 := rfl
  clear eY
  replace A := A.put 3 1 0 0 0 1 rfl rfl rfl rfl
  replace Z := Z.otherAt (g := N) (by omega) 3 (.int .i64 1)
  replace B := B.setCell (p := ⟨N, 3, none⟩) hN1 (.int .i64 1)
  generalize World.setCell _ ⟨N, 3, none⟩ (.int .i64 1) = W2 at A Z B ⊢
  have a0 := A.c0
  have z0 := Z.c0
  have f0 := Z.fr 0
  have a1 := A.c1
  have z1 := Z.c1
  have f1 := Z.fr 1
  have a2 := A.c2
  have z2 := Z.c2
  have f2 := Z.fr 2
  have a3 := A.c3
  have z3 := Z.c3
  have f3 := Z.fr 3
  go_wp2
  clear a0 z0 f0 a1 z1 f1 a2 z2 f2 a3 z3 f3
  replace Z := Z.all 0 0 0 1
  replace B := (((B.setCell (p := ⟨N + 1 + 1, 0, none⟩) (by simp; omega) (.int .i64 0)).setCell (p := ⟨N + 1 + 1, 1, none⟩) (by simp; omega) (.int .i64 0)).setCell (p := ⟨N + 1 + 1, 2, none⟩) (by simp; omega) (.int .i64 0)).setCell (p := ⟨N + 1 + 1, 3, none⟩) (by simp; omega) (.int .i64 1)
  generalize World.setCell (World.setCell (World.setCell (World.setCell _ ⟨N + 1 + 1, 0, none⟩ (.int .i64 0)) ⟨N + 1 + 1, 1, none⟩ (.int .i64 0)) ⟨N + 1 + 1, 2, none⟩ (.int .i64 0)) ⟨N + 1 + 1, 3, none⟩ (.int .i64 1) = W9 at Z B ⊢
  have d0 := Z.c0
  have d1 := Z.c1
  have d2 := Z.c2
  have d3 := Z.c3
  refine bodyPost_ret (v := .tuple #[.agg #[.int .i64 0, .int .i64 0, .int .i64 0, .int .i64 1], .bool true]) ?_ rfl ⟨_, rfl, B⟩
  simp [results, Try.results7, go_sem, d0, d1, d2, d3]
set_option maxRecDepth 100000 in
set_option maxHeartbeats 3200000 in
theorem does2i (g : Nat) (t c v s n : Int) (hc : ctb n = true) (w : World) (h : Mt w g t c v s) :
    Calls Try.prog 7 #[.pointer (some ⟨g, 0, none⟩), agg4 t c v s, .agg #[.int .i64 2, .int .i64 n]] w fun e w' => ∃ t' c' v' s', e = .returned (.tuple #[agg4 t' c' v' s', .bool true]) ∧ But g w w' ∧ Mt w' g t' c' v' s' := by
  have hlt := h.lt
  unfold agg4
  go_enter Try.func7, Try.ntmps7
  go_upto_region 1 with fail
  have hbs := does_boxes w t c v s 2 n 44 48 44
  generalize hW0 : World.alloc (World.alloc (World.alloc w _) _) _ = W0
  simp only [hW0] at hbs
  obtain ⟨A, X, Z, B⟩ := hbs
  have M := h.below B
  replace B := but_of B g
  clear hW0 h
  generalize hN : w.heap.size = N at A X Z hlt ⊢
  have hN1 : w.heap.size ≤ N := by omega
  clear hN
  have x0 := X.c0
  have x1 := X.c1
  go_wp2_with fail
  clear x0 x1
  refine (visit_any g n t c v s _ M).mono ?_
  rintro e W1 ⟨rfl, b1, M1⟩
  rw [more_in hc] at M1
  replace A := A.but b1 (by omega)
  replace Z := Z.but b1 (by omega)
  replace X := X.but b1 (by omega)
  replace B := B.trans b1
  clear b1 M
  have x1 := X.c1
  go_wp2_with fail
  refine (counts_any n _).mono ?_
  rintro e W2 ⟨rfl, rfl⟩
  rw [hc]
  have a0 := A.c1
  have f0 := A.fr 1
  go_upto_region 20 with fail
  clear a0 f0 x1 X
  generalize hY : (wrap64 (c + n) : Int) = Y at M1 ⊢
  replace A := A.put 1 Y t Y v s rfl rfl rfl rfl
  replace Z := Z.otherAt (g := N) (by omega) 1 (.int .i64 Y)
  have M := M1.other (p := ⟨N, 1, none⟩) (by simp; omega) (.int .i64 Y)
  replace B := B.setNew (p := ⟨N, 1, none⟩) hN1 (.int .i64 Y)
  clear hY M1
  generalize World.setCell _ ⟨N, 1, none⟩ (.int .i64 Y) = W3 at A Z B M ⊢
  have a0 := A.c0
  have z0 := Z.c0
  have f0 := Z.fr 0
  have a1 := A.c1
  have z1 := Z.c1
  have f1 := Z.fr 1
  have a2 := A.c2
  have z2 := Z.c2
  have f2 := Z.fr 2
  have a3 := A.c3
  have z3 := Z.c3
  have f3 := Z.fr 3
  go_wp2
  clear a0 z0 f0 a1 z1 f1 a2 z2 f2 a3 z3 f3
  replace Z := Z.all t Y v s
  replace M := M.same (put4_block _ (N + 1 + 1) t Y v s g (by omega))
  replace B := B.put4 (N := N + 1 + 1) (by omega) t Y v s
  unfold put4 at M B
  generalize World.setCell (World.setCell (World.setCell (World.setCell _ ⟨N + 1 + 1, 0, none⟩ (.int .i64 t)) ⟨N + 1 + 1, 1, none⟩ (.int .i64 Y)) ⟨N + 1 + 1, 2, none⟩ (.int .i64 v)) ⟨N + 1 + 1, 3, none⟩ (.int .i64 s) = W9 at Z M B ⊢
  have d0 := Z.c0
  have d1 := Z.c1
  have d2 := Z.c2
  have d3 := Z.c3
  refine bodyPost_ret (v := .tuple #[.agg #[.int .i64 t, .int .i64 Y, .int .i64 v, .int .i64 s], .bool true]) ?_ rfl ⟨t, Y, v, s, rfl, B, M⟩
  simp [results, Try.results7, go_sem, d0, d1, d2, d3]
set_option maxRecDepth 100000 in
set_option maxHeartbeats 3200000 in
theorem does2o (g : Nat) (t c v s n : Int) (hc : ctb n = false) (w : World) (h : Mt w g t c v s) :
    Calls Try.prog 7 #[.pointer (some ⟨g, 0, none⟩), agg4 t c v s, .agg #[.int .i64 2, .int .i64 n]] w fun e w' => ∃ t' c' v' s', e = .returned (.tuple #[agg4 t' c' v' s', .bool true]) ∧ But g w w' ∧ Mt w' g t' c' v' s' := by
  have hlt := h.lt
  unfold agg4
  go_enter Try.func7, Try.ntmps7
  go_upto_region 1 with fail
  have hbs := does_boxes w t c v s 2 n 44 48 44
  generalize hW0 : World.alloc (World.alloc (World.alloc w _) _) _ = W0
  simp only [hW0] at hbs
  obtain ⟨A, X, Z, B⟩ := hbs
  have M := h.below B
  replace B := but_of B g
  clear hW0 h
  generalize hN : w.heap.size = N at A X Z hlt ⊢
  have hN1 : w.heap.size ≤ N := by omega
  clear hN
  have x0 := X.c0
  have x1 := X.c1
  go_wp2_with fail
  clear x0 x1
  refine (visit_any g n t c v s _ M).mono ?_
  rintro e W1 ⟨rfl, b1, M1⟩
  rw [more_out hc] at M1
  replace A := A.but b1 (by omega)
  replace Z := Z.but b1 (by omega)
  replace X := X.but b1 (by omega)
  replace B := B.trans b1
  clear b1 M
  have x1 := X.c1
  go_wp2_with fail
  refine (counts_any n _).mono ?_
  rintro e W2 ⟨rfl, rfl⟩
  rw [hc]
  clear x1 X
  have M := M1
  clear M1
  have a0 := A.c0
  have z0 := Z.c0
  have f0 := Z.fr 0
  have a1 := A.c1
  have z1 := Z.c1
  have f1 := Z.fr 1
  have a2 := A.c2
  have z2 := Z.c2
  have f2 := Z.fr 2
  have a3 := A.c3
  have z3 := Z.c3
  have f3 := Z.fr 3
  go_wp2
  clear a0 z0 f0 a1 z1 f1 a2 z2 f2 a3 z3 f3
  replace Z := Z.all t c v s
  replace M := M.same (put4_block _ (N + 1 + 1) t c v s g (by omega))
  replace B := B.put4 (N := N + 1 + 1) (by omega) t c v s
  unfold put4 at M B
  generalize World.setCell (World.setCell (World.setCell (World.setCell _ ⟨N + 1 + 1, 0, none⟩ (.int .i64 t)) ⟨N + 1 + 1, 1, none⟩ (.int .i64 c)) ⟨N + 1 + 1, 2, none⟩ (.int .i64 v)) ⟨N + 1 + 1, 3, none⟩ (.int .i64 s) = W9 at Z M B ⊢
  have d0 := Z.c0
  have d1 := Z.c1
  have d2 := Z.c2
  have d3 := Z.c3
  refine bodyPost_ret (v := .tuple #[.agg #[.int .i64 t, .int .i64 c, .int .i64 v, .int .i64 s], .bool true]) ?_ rfl ⟨t, c, v, s, rfl, B, M⟩
  simp [results, Try.results7, go_sem, d0, d1, d2, d3]
set_option maxRecDepth 100000 in
set_option maxHeartbeats 3200000 in
theorem does2ni (t c v s n : Int) (hc : ctb n = true) (w : World) :
    Calls Try.prog 7 #[.pointer none, agg4 t c v s, .agg #[.int .i64 2, .int .i64 n]] w fun e w' => ∃ x, e = .returned x ∧ Below w.heap.size w w' := by
  unfold agg4
  go_enter Try.func7, Try.ntmps7
  go_upto_region 1 with fail
  have hbs := does_boxes w t c v s 2 n 44 48 44
  generalize hW0 : World.alloc (World.alloc (World.alloc w _) _) _ = W0
  simp only [hW0] at hbs
  obtain ⟨A, X, Z, B⟩ := hbs
  clear hW0
  have hN2 : w.heap.size ≤ W0.heap.size := B.size
  generalize hN : w.heap.size = N at A X Z ⊢
  have hN1 : w.heap.size ≤ N := by omega
  clear hN
  have x0 := X.c0
  have x1 := X.c1
  go_wp2_with fail
  clear x0 x1
  refine (visit_nil n _).mono ?_
  rintro e W1 ⟨rfl, rfl⟩
  have x1 := X.c1
  go_wp2_with fail
  refine (counts_any n _).mono ?_
  rintro e W2 ⟨rfl, rfl⟩
  rw [hc]
  have a0 := A.c1
  have f0 := A.fr 1
  go_upto_region 20 with fail
  clear a0 f0 x1 X
  generalize hY : (wrap64 (c + n) : Int) = Y
  replace A := A.put 1 Y t Y v s rfl rfl rfl rfl
  replace Z := Z.otherAt (g := N) (by omega) 1 (.int .i64 Y)
  replace B := B.setCell (p := ⟨N, 1, none⟩) hN1 (.int .i64 Y)
  clear hY
  generalize World.setCell _ ⟨N, 1, none⟩ (.int .i64 Y) = W3 at A Z B ⊢
  have a0 := A.c0
  have z0 := Z.c0
  have f0 := Z.fr 0
  have a1 := A.c1
  have z1 := Z.c1
  have f1 := Z.fr 1
  have a2 := A.c2
  have z2 := Z.c2
  have f2 := Z.fr 2
  have a3 := A.c3
  have z3 := Z.c3
  have f3 := Z.fr 3
  go_wp2
  clear a0 z0 f0 a1 z1 f1 a2 z2 f2 a3 z3 f3
  replace Z := Z.all t Y v s
  replace B := (((B.setCell (p := ⟨N + 1 + 1, 0, none⟩) (by simp; omega) (.int .i64 t)).setCell (p := ⟨N + 1 + 1, 1, none⟩) (by simp; omega) (.int .i64 Y)).setCell (p := ⟨N + 1 + 1, 2, none⟩) (by simp; omega) (.int .i64 v)).setCell (p := ⟨N + 1 + 1, 3, none⟩) (by simp; omega) (.int .i64 s)
  generalize World.setCell (World.setCell (World.setCell (World.setCell _ ⟨N + 1 + 1, 0, none⟩ (.int .i64 t)) ⟨N + 1 + 1, 1, none⟩ (.int .i64 Y)) ⟨N + 1 + 1, 2, none⟩ (.int .i64 v)) ⟨N + 1 + 1, 3, none⟩ (.int .i64 s) = W9 at Z B ⊢
  have d0 := Z.c0
  have d1 := Z.c1
  have d2 := Z.c2
  have d3 := Z.c3
  refine bodyPost_ret (v := .tuple #[.agg #[.int .i64 t, .int .i64 Y, .int .i64 v, .int .i64 s], .bool true]) ?_ rfl ⟨_, rfl, B⟩
  simp [results, Try.results7, go_sem, d0, d1, d2, d3]
set_option maxRecDepth 100000 in
set_option maxHeartbeats 3200000 in
theorem does2no (t c v s n : Int) (hc : ctb n = false) (w : World) :
    Calls Try.prog 7 #[.pointer none, agg4 t c v s, .agg #[.int .i64 2, .int .i64 n]] w fun e w' => ∃ x, e = .returned x ∧ Below w.heap.size w w' := by
  unfold agg4
  go_enter Try.func7, Try.ntmps7
  go_upto_region 1 with fail
  have hbs := does_boxes w t c v s 2 n 44 48 44
  generalize hW0 : World.alloc (World.alloc (World.alloc w _) _) _ = W0
  simp only [hW0] at hbs
  obtain ⟨A, X, Z, B⟩ := hbs
  clear hW0
  have hN2 : w.heap.size ≤ W0.heap.size := B.size
  generalize hN : w.heap.size = N at A X Z ⊢
  have hN1 : w.heap.size ≤ N := by omega
  clear hN
  have x0 := X.c0
  have x1 := X.c1
  go_wp2_with fail
  clear x0 x1
  refine (visit_nil n _).mono ?_
  rintro e W1 ⟨rfl, rfl⟩
  have x1 := X.c1
  go_wp2_with fail
  refine (counts_any n _).mono ?_
  rintro e W2 ⟨rfl, rfl⟩
  rw [hc]
  clear x1 X
  have a0 := A.c0
  have z0 := Z.c0
  have f0 := Z.fr 0
  have a1 := A.c1
  have z1 := Z.c1
  have f1 := Z.fr 1
  have a2 := A.c2
  have z2 := Z.c2
  have f2 := Z.fr 2
  have a3 := A.c3
  have z3 := Z.c3
  have f3 := Z.fr 3
  go_wp2
  clear a0 z0 f0 a1 z1 f1 a2 z2 f2 a3 z3 f3
  replace Z := Z.all t c v s
  replace B := (((B.setCell (p := ⟨N + 1 + 1, 0, none⟩) (by simp; omega) (.int .i64 t)).setCell (p := ⟨N + 1 + 1, 1, none⟩) (by simp; omega) (.int .i64 c)).setCell (p := ⟨N + 1 + 1, 2, none⟩) (by simp; omega) (.int .i64 v)).setCell (p := ⟨N + 1 + 1, 3, none⟩) (by simp; omega) (.int .i64 s)
  generalize World.setCell (World.setCell (World.setCell (World.setCell _ ⟨N + 1 + 1, 0, none⟩ (.int .i64 t)) ⟨N + 1 + 1, 1, none⟩ (.int .i64 c)) ⟨N + 1 + 1, 2, none⟩ (.int .i64 v)) ⟨N + 1 + 1, 3, none⟩ (.int .i64 s) = W9 at Z B ⊢
  have d0 := Z.c0
  have d1 := Z.c1
  have d2 := Z.c2
  have d3 := Z.c3
  refine bodyPost_ret (v := .tuple #[.agg #[.int .i64 t, .int .i64 c, .int .i64 v, .int .i64 s], .bool true]) ?_ rfl ⟨_, rfl, B⟩
  simp [results, Try.results7, go_sem, d0, d1, d2, d3]
set_option maxRecDepth 100000 in
set_option maxHeartbeats 3200000 in
theorem does3i (g : Nat) (t c v s n : Int) (hc : ctb n = true) (w : World) (h : Mt w g t c v s) :
    Calls Try.prog 7 #[.pointer (some ⟨g, 0, none⟩), agg4 t c v s, .agg #[.int .i64 3, .int .i64 n]] w fun e w' => ∃ t' c' v' s', e = .returned (.tuple #[agg4 t' c' v' s', .bool true]) ∧ But g w w' ∧ Mt w' g t' c' v' s' := by
  have hlt := h.lt
  unfold agg4
  go_enter Try.func7, Try.ntmps7
  go_upto_region 1 with fail
  have hbs := does_boxes w t c v s 3 n 44 48 44
  generalize hW0 : World.alloc (World.alloc (World.alloc w _) _) _ = W0
  simp only [hW0] at hbs
  obtain ⟨A, X, Z, B⟩ := hbs
  have M := h.below B
  replace B := but_of B g
  clear hW0 h
  generalize hN : w.heap.size = N at A X Z hlt ⊢
  have hN1 : w.heap.size ≤ N := by omega
  clear hN
  have x0 := X.c0
  have x1 := X.c1
  go_wp2_with fail
  clear x0 x1
  refine (charge_any g n t c v s _ M).mono ?_
  rintro e W1 ⟨rfl, b1, M1⟩
  rw [more_in hc] at M1
  replace A := A.but b1 (by omega)
  replace Z := Z.but b1 (by omega)
  replace X := X.but b1 (by omega)
  replace B := B.trans b1
  clear b1 M
  have x1 := X.c1
  go_wp2_with fail
  refine (counts_any n _).mono ?_
  rintro e W2 ⟨rfl, rfl⟩
  rw [hc]
  have a0 := A.c2
  have f0 := A.fr 2
  go_upto_region 20 with fail
  clear a0 f0 x1 X
  generalize hY : (wrap64 (v + n) : Int) = Y at M1 ⊢
  replace A := A.put 2 Y t c Y s rfl rfl rfl rfl
  replace Z := Z.otherAt (g := N) (by omega) 2 (.int .i64 Y)
  have M := M1.other (p := ⟨N, 2, none⟩) (by simp; omega) (.int .i64 Y)
  replace B := B.setNew (p := ⟨N, 2, none⟩) hN1 (.int .i64 Y)
  clear hY M1
  generalize World.setCell _ ⟨N, 2, none⟩ (.int .i64 Y) = W3 at A Z B M ⊢
  have a0 := A.c0
  have z0 := Z.c0
  have f0 := Z.fr 0
  have a1 := A.c1
  have z1 := Z.c1
  have f1 := Z.fr 1
  have a2 := A.c2
  have z2 := Z.c2
  have f2 := Z.fr 2
  have a3 := A.c3
  have z3 := Z.c3
  have f3 := Z.fr 3
  go_wp2
  clear a0 z0 f0 a1 z1 f1 a2 z2 f2 a3 z3 f3
  replace Z := Z.all t c Y s
  replace M := M.same (put4_block _ (N + 1 + 1) t c Y s g (by omega))
  replace B := B.put4 (N := N + 1 + 1) (by omega) t c Y s
  unfold put4 at M B
  generalize World.setCell (World.setCell (World.setCell (World.setCell _ ⟨N + 1 + 1, 0, none⟩ (.int .i64 t)) ⟨N + 1 + 1, 1, none⟩ (.int .i64 c)) ⟨N + 1 + 1, 2, none⟩ (.int .i64 Y)) ⟨N + 1 + 1, 3, none⟩ (.int .i64 s) = W9 at Z M B ⊢
  have d0 := Z.c0
  have d1 := Z.c1
  have d2 := Z.c2
  have d3 := Z.c3
  refine bodyPost_ret (v := .tuple #[.agg #[.int .i64 t, .int .i64 c, .int .i64 Y, .int .i64 s], .bool true]) ?_ rfl ⟨t, c, Y, s, rfl, B, M⟩
  simp [results, Try.results7, go_sem, d0, d1, d2, d3]
set_option maxRecDepth 100000 in
set_option maxHeartbeats 3200000 in
theorem does3o (g : Nat) (t c v s n : Int) (hc : ctb n = false) (w : World) (h : Mt w g t c v s) :
    Calls Try.prog 7 #[.pointer (some ⟨g, 0, none⟩), agg4 t c v s, .agg #[.int .i64 3, .int .i64 n]] w fun e w' => ∃ t' c' v' s', e = .returned (.tuple #[agg4 t' c' v' s', .bool true]) ∧ But g w w' ∧ Mt w' g t' c' v' s' := by
  have hlt := h.lt
  unfold agg4
  go_enter Try.func7, Try.ntmps7
  go_upto_region 1 with fail
  have hbs := does_boxes w t c v s 3 n 44 48 44
  generalize hW0 : World.alloc (World.alloc (World.alloc w _) _) _ = W0
  simp only [hW0] at hbs
  obtain ⟨A, X, Z, B⟩ := hbs
  have M := h.below B
  replace B := but_of B g
  clear hW0 h
  generalize hN : w.heap.size = N at A X Z hlt ⊢
  have hN1 : w.heap.size ≤ N := by omega
  clear hN
  have x0 := X.c0
  have x1 := X.c1
  go_wp2_with fail
  clear x0 x1
  refine (charge_any g n t c v s _ M).mono ?_
  rintro e W1 ⟨rfl, b1, M1⟩
  rw [more_out hc] at M1
  replace A := A.but b1 (by omega)
  replace Z := Z.but b1 (by omega)
  replace X := X.but b1 (by omega)
  replace B := B.trans b1
  clear b1 M
  have x1 := X.c1
  go_wp2_with fail
  refine (counts_any n _).mono ?_
  rintro e W2 ⟨rfl, rfl⟩
  rw [hc]
  clear x1 X
  have M := M1
  clear M1
  have a0 := A.c0
  have z0 := Z.c0
  have f0 := Z.fr 0
  have a1 := A.c1
  have z1 := Z.c1
  have f1 := Z.fr 1
  have a2 := A.c2
  have z2 := Z.c2
  have f2 := Z.fr 2
  have a3 := A.c3
  have z3 := Z.c3
  have f3 := Z.fr 3
  go_wp2
  clear a0 z0 f0 a1 z1 f1 a2 z2 f2 a3 z3 f3
  replace Z := Z.all t c v s
  replace M := M.same (put4_block _ (N + 1 + 1) t c v s g (by omega))
  replace B := B.put4 (N := N + 1 + 1) (by omega) t c v s
  unfold put4 at M B
  generalize World.setCell (World.setCell (World.setCell (World.setCell _ ⟨N + 1 + 1, 0, none⟩ (.int .i64 t)) ⟨N + 1 + 1, 1, none⟩ (.int .i64 c)) ⟨N + 1 + 1, 2, none⟩ (.int .i64 v)) ⟨N + 1 + 1, 3, none⟩ (.int .i64 s) = W9 at Z M B ⊢
  have d0 := Z.c0
  have d1 := Z.c1
  have d2 := Z.c2
  have d3 := Z.c3
  refine bodyPost_ret (v := .tuple #[.agg #[.int .i64 t, .int .i64 c, .int .i64 v, .int .i64 s], .bool true]) ?_ rfl ⟨t, c, v, s, rfl, B, M⟩
  simp [results, Try.results7, go_sem, d0, d1, d2, d3]
set_option maxRecDepth 100000 in
set_option maxHeartbeats 3200000 in
theorem does3ni (t c v s n : Int) (hc : ctb n = true) (w : World) :
    Calls Try.prog 7 #[.pointer none, agg4 t c v s, .agg #[.int .i64 3, .int .i64 n]] w fun e w' => ∃ x, e = .returned x ∧ Below w.heap.size w w' := by
  unfold agg4
  go_enter Try.func7, Try.ntmps7
  go_upto_region 1 with fail
  have hbs := does_boxes w t c v s 3 n 44 48 44
  generalize hW0 : World.alloc (World.alloc (World.alloc w _) _) _ = W0
  simp only [hW0] at hbs
  obtain ⟨A, X, Z, B⟩ := hbs
  clear hW0
  have hN2 : w.heap.size ≤ W0.heap.size := B.size
  generalize hN : w.heap.size = N at A X Z ⊢
  have hN1 : w.heap.size ≤ N := by omega
  clear hN
  have x0 := X.c0
  have x1 := X.c1
  go_wp2_with fail
  clear x0 x1
  refine (charge_nil n _).mono ?_
  rintro e W1 ⟨rfl, rfl⟩
  have x1 := X.c1
  go_wp2_with fail
  refine (counts_any n _).mono ?_
  rintro e W2 ⟨rfl, rfl⟩
  rw [hc]
  have a0 := A.c2
  have f0 := A.fr 2
  go_upto_region 20 with fail
  clear a0 f0 x1 X
  generalize hY : (wrap64 (v + n) : Int) = Y
  replace A := A.put 2 Y t c Y s rfl rfl rfl rfl
  replace Z := Z.otherAt (g := N) (by omega) 2 (.int .i64 Y)
  replace B := B.setCell (p := ⟨N, 2, none⟩) hN1 (.int .i64 Y)
  clear hY
  generalize World.setCell _ ⟨N, 2, none⟩ (.int .i64 Y) = W3 at A Z B ⊢
  have a0 := A.c0
  have z0 := Z.c0
  have f0 := Z.fr 0
  have a1 := A.c1
  have z1 := Z.c1
  have f1 := Z.fr 1
  have a2 := A.c2
  have z2 := Z.c2
  have f2 := Z.fr 2
  have a3 := A.c3
  have z3 := Z.c3
  have f3 := Z.fr 3
  go_wp2
  clear a0 z0 f0 a1 z1 f1 a2 z2 f2 a3 z3 f3
  replace Z := Z.all t c Y s
  replace B := (((B.setCell (p := ⟨N + 1 + 1, 0, none⟩) (by simp; omega) (.int .i64 t)).setCell (p := ⟨N + 1 + 1, 1, none⟩) (by simp; omega) (.int .i64 c)).setCell (p := ⟨N + 1 + 1, 2, none⟩) (by simp; omega) (.int .i64 Y)).setCell (p := ⟨N + 1 + 1, 3, none⟩) (by simp; omega) (.int .i64 s)
  generalize World.setCell (World.setCell (World.setCell (World.setCell _ ⟨N + 1 + 1, 0, none⟩ (.int .i64 t)) ⟨N + 1 + 1, 1, none⟩ (.int .i64 c)) ⟨N + 1 + 1, 2, none⟩ (.int .i64 Y)) ⟨N + 1 + 1, 3, none⟩ (.int .i64 s) = W9 at Z B ⊢
  have d0 := Z.c0
  have d1 := Z.c1
  have d2 := Z.c2
  have d3 := Z.c3
  refine bodyPost_ret (v := .tuple #[.agg #[.int .i64 t, .int .i64 c, .int .i64 Y, .int .i64 s], .bool true]) ?_ rfl ⟨_, rfl, B⟩
  simp [results, Try.results7, go_sem, d0, d1, d2, d3]
set_option maxRecDepth 100000 in
set_option maxHeartbeats 3200000 in
theorem does3no (t c v s n : Int) (hc : ctb n = false) (w : World) :
    Calls Try.prog 7 #[.pointer none, agg4 t c v s, .agg #[.int .i64 3, .int .i64 n]] w fun e w' => ∃ x, e = .returned x ∧ Below w.heap.size w w' := by
  unfold agg4
  go_enter Try.func7, Try.ntmps7
  go_upto_region 1 with fail
  have hbs := does_boxes w t c v s 3 n 44 48 44
  generalize hW0 : World.alloc (World.alloc (World.alloc w _) _) _ = W0
  simp only [hW0] at hbs
  obtain ⟨A, X, Z, B⟩ := hbs
  clear hW0
  have hN2 : w.heap.size ≤ W0.heap.size := B.size
  generalize hN : w.heap.size = N at A X Z ⊢
  have hN1 : w.heap.size ≤ N := by omega
  clear hN
  have x0 := X.c0
  have x1 := X.c1
  go_wp2_with fail
  clear x0 x1
  refine (charge_nil n _).mono ?_
  rintro e W1 ⟨rfl, rfl⟩
  have x1 := X.c1
  go_wp2_with fail
  refine (counts_any n _).mono ?_
  rintro e W2 ⟨rfl, rfl⟩
  rw [hc]
  clear x1 X
  have a0 := A.c0
  have z0 := Z.c0
  have f0 := Z.fr 0
  have a1 := A.c1
  have z1 := Z.c1
  have f1 := Z.fr 1
  have a2 := A.c2
  have z2 := Z.c2
  have f2 := Z.fr 2
  have a3 := A.c3
  have z3 := Z.c3
  have f3 := Z.fr 3
  go_wp2
  clear a0 z0 f0 a1 z1 f1 a2 z2 f2 a3 z3 f3
  replace Z := Z.all t c v s
  replace B := (((B.setCell (p := ⟨N + 1 + 1, 0, none⟩) (by simp; omega) (.int .i64 t)).setCell (p := ⟨N + 1 + 1, 1, none⟩) (by simp; omega) (.int .i64 c)).setCell (p := ⟨N + 1 + 1, 2, none⟩) (by simp; omega) (.int .i64 v)).setCell (p := ⟨N + 1 + 1, 3, none⟩) (by simp; omega) (.int .i64 s)
  generalize World.setCell (World.setCell (World.setCell (World.setCell _ ⟨N + 1 + 1, 0, none⟩ (.int .i64 t)) ⟨N + 1 + 1, 1, none⟩ (.int .i64 c)) ⟨N + 1 + 1, 2, none⟩ (.int .i64 v)) ⟨N + 1 + 1, 3, none⟩ (.int .i64 s) = W9 at Z B ⊢
  have d0 := Z.c0
  have d1 := Z.c1
  have d2 := Z.c2
  have d3 := Z.c3
  refine bodyPost_ret (v := .tuple #[.agg #[.int .i64 t, .int .i64 c, .int .i64 v, .int .i64 s], .bool true]) ?_ rfl ⟨_, rfl, B⟩
  simp [results, Try.results7, go_sem, d0, d1, d2, d3]
set_option maxRecDepth 100000 in
set_option maxHeartbeats 3200000 in
theorem does5 (g : Nat) (t c v s n : Int) (w : World) (h : Mt w g t c v s) :
    Calls Try.prog 7 #[.pointer (some ⟨g, 0, none⟩), agg4 t c v s, .agg #[.int .i64 5, .int .i64 n]] w fun e w' => ∃ t' c' v' s', e = .returned (.tuple #[agg4 t' c' v' s', .bool true]) ∧ But g w w' ∧ Mt w' g t' c' v' s' := by
  have hlt := h.lt
  unfold agg4
  go_enter Try.func7, Try.ntmps7
  go_upto_region 1 with fail
  have hbs := does_boxes w t c v s 5 n 44 48 44
  generalize hW0 : World.alloc (World.alloc (World.alloc w _) _) _ = W0
  simp only [hW0] at hbs
  obtain ⟨A, X, Z, B⟩ := hbs
  have M := h.below B
  replace B := but_of B g
  clear hW0 h
  generalize hN : w.heap.size = N at A X Z hlt ⊢
  have hN1 : w.heap.size ≤ N := by omega
  clear hN
  have x0 := X.c0
  have x1 := X.c1
  go_upto_region 17 with fail
  clear x0 x1 X
  have p0 : P4 N t c v s W0 := ⟨A.c0, A.c1, A.c2, A.c3⟩
  go_region_held3 (fun W => W.cell? ⟨N, 0, none⟩ = some (.int .i64 t) ∧ W.cell? ⟨N, 1, none⟩ = some (.int .i64 c) ∧ W.cell? ⟨N, 2, none⟩ = some (.int .i64 v) ∧ W.cell? ⟨N, 3, none⟩ = some (.int .i64 s))
    (first | exact p0 | exact P4.but (by assumption) b1 (by omega) | exact P4.put (M := N + 1 + 1) (by assumption) (by omega) t c v s | assumption | fail)
    (first | (go_at_call 9; refine (read_any g t c v s _ M.drew).mono ?_; rintro e W1 ⟨rfl, b1, M1⟩; unfold agg4; replace Z := Z.drew.but b1 (by omega); replace B := B.drew.trans b1; have z0 := Z.c0; have f0 := Z.fr 0; have z1 := Z.c1; have f1 := Z.fr 1; have z2 := Z.c2; have f2 := Z.fr 2; have z3 := Z.c3; have f3 := Z.fr 3) | fail)
  clear z0 f0 z1 f1 z2 f2 z3 f3
  have M := M1
  clear M1
  go_wp2
  replace Z := Z.all t c v s
  replace M := M.same (put4_block _ (N + 1 + 1) t c v s g (by omega))
  replace B := B.put4 (N := N + 1 + 1) (by omega) t c v s
  unfold put4 at M B
  generalize World.setCell (World.setCell (World.setCell (World.setCell _ ⟨N + 1 + 1, 0, none⟩ (.int .i64 t)) ⟨N + 1 + 1, 1, none⟩ (.int .i64 c)) ⟨N + 1 + 1, 2, none⟩ (.int .i64 v)) ⟨N + 1 + 1, 3, none⟩ (.int .i64 s) = W9 at Z M B ⊢
  have d0 := Z.c0
  have d1 := Z.c1
  have d2 := Z.c2
  have d3 := Z.c3
  refine bodyPost_ret (v := .tuple #[.agg #[.int .i64 t, .int .i64 c, .int .i64 v, .int .i64 s], .bool true]) ?_ rfl ⟨t, c, v, s, rfl, B, M⟩
  simp [results, Try.results7, go_sem, d0, d1, d2, d3]
set_option maxRecDepth 100000 in
set_option maxHeartbeats 3200000 in
theorem does5n (n : Int) (w : World) :
    Calls Try.prog 7 #[.pointer none, agg4 0 0 0 0, .agg #[.int .i64 5, .int .i64 n]] w fun e w' => ∃ x, e = .returned x ∧ Below w.heap.size w w' := by
  unfold agg4
  go_enter Try.func7, Try.ntmps7
  go_upto_region 1 with fail
  have hbs := does_boxes w 0 0 0 0 5 n 44 48 44
  generalize hW0 : World.alloc (World.alloc (World.alloc w _) _) _ = W0
  simp only [hW0] at hbs
  obtain ⟨A, X, Z, B⟩ := hbs
  clear hW0
  have hN2 : w.heap.size ≤ W0.heap.size := B.size
  generalize hN : w.heap.size = N at A X Z ⊢
  have hN1 : w.heap.size ≤ N := by omega
  clear hN
  have x0 := X.c0
  have x1 := X.c1
  go_upto_region 17 with fail
  clear x0 x1 X
  have p0 : P4 N 0 0 0 0 W0 := ⟨A.c0, A.c1, A.c2, A.c3⟩
  go_region_held3 (fun W => W.cell? ⟨N, 0, none⟩ = some (.int .i64 0) ∧ W.cell? ⟨N, 1, none⟩ = some (.int .i64 0) ∧ W.cell? ⟨N, 2, none⟩ = some (.int .i64 0) ∧ W.cell? ⟨N, 3, none⟩ = some (.int .i64 0))
    (first | exact p0 | exact P4.below (by assumption) b1 | exact P4.put (M := N + 1 + 1) (by assumption) (by omega) 0 0 0 0 | assumption | fail)
    (first | (go_at_call 9; refine (read_nil _).mono ?_; rintro e W1 ⟨rfl, b1⟩; unfold agg4; replace Z := Z.drew.below b1; replace B := B.drew.trans (b1.mono hN2); have z0 := Z.c0; have f0 := Z.fr 0; have z1 := Z.c1; have f1 := Z.fr 1; have z2 := Z.c2; have f2 := Z.fr 2; have z3 := Z.c3; have f3 := Z.fr 3) | fail)
  clear z0 f0 z1 f1 z2 f2 z3 f3
  go_wp2
  replace Z := Z.all 0 0 0 0
  replace B := (((B.setCell (p := ⟨N + 1 + 1, 0, none⟩) (by simp; omega) (.int .i64 0)).setCell (p := ⟨N + 1 + 1, 1, none⟩) (by simp; omega) (.int .i64 0)).setCell (p := ⟨N + 1 + 1, 2, none⟩) (by simp; omega) (.int .i64 0)).setCell (p := ⟨N + 1 + 1, 3, none⟩) (by simp; omega) (.int .i64 0)
  generalize World.setCell (World.setCell (World.setCell (World.setCell _ ⟨N + 1 + 1, 0, none⟩ (.int .i64 0)) ⟨N + 1 + 1, 1, none⟩ (.int .i64 0)) ⟨N + 1 + 1, 2, none⟩ (.int .i64 0)) ⟨N + 1 + 1, 3, none⟩ (.int .i64 0) = W9 at Z B ⊢
  have d0 := Z.c0
  have d1 := Z.c1
  have d2 := Z.c2
  have d3 := Z.c3
  refine bodyPost_ret (v := .tuple #[.agg #[.int .i64 0, .int .i64 0, .int .i64 0, .int .i64 0], .bool true]) ?_ rfl ⟨_, rfl, B⟩
  simp [results, Try.results7, go_sem, d0, d1, d2, d3]
set_option maxRecDepth 100000 in
set_option maxHeartbeats 3200000 in
theorem does6 (g : Nat) (t c v s n : Int) (w : World) (h : Mt w g t c v s) :
    Calls Try.prog 7 #[.pointer (some ⟨g, 0, none⟩), agg4 t c v s, .agg #[.int .i64 6, .int .i64 n]] w fun e w' => ∃ t' c' v' s', e = .returned (.tuple #[agg4 t' c' v' s', .bool true]) ∧ But g w w' ∧ Mt w' g t' c' v' s' := by
  have hlt := h.lt
  unfold agg4
  go_enter Try.func7, Try.ntmps7
  go_upto_region 1 with fail
  have hbs := does_boxes w t c v s 6 n 44 48 44
  generalize hW0 : World.alloc (World.alloc (World.alloc w _) _) _ = W0
  simp only [hW0] at hbs
  obtain ⟨A, X, Z, B⟩ := hbs
  have M := h.below B
  replace B := but_of B g
  clear hW0 h
  generalize hN : w.heap.size = N at A X Z hlt ⊢
  have hN1 : w.heap.size ≤ N := by omega
  clear hN
  have x0 := X.c0
  have x1 := X.c1
  go_upto_region 19 with fail
  clear x0 x1 X
  have p0 : P4 N t c v s W0 := ⟨A.c0, A.c1, A.c2, A.c3⟩
  go_region_held3 (fun W => W.cell? ⟨N, 0, none⟩ = some (.int .i64 t) ∧ W.cell? ⟨N, 1, none⟩ = some (.int .i64 c) ∧ W.cell? ⟨N, 2, none⟩ = some (.int .i64 v) ∧ W.cell? ⟨N, 3, none⟩ = some (.int .i64 s))
    (first | exact p0 | exact P4.but (by assumption) b1 (by omega) | exact P4.put (M := N + 1 + 1) (by assumption) (by omega) 0 0 0 0 | assumption | fail)
    (first | (go_at_call 8; refine (take_any g t c v s _ M.drew).mono ?_; rintro e W1 ⟨rfl, b1, M1⟩; unfold agg4; replace Z := Z.drew.but b1 (by omega); replace B := B.drew.trans b1; have z0 := Z.c0; have f0 := Z.fr 0; have z1 := Z.c1; have f1 := Z.fr 1; have z2 := Z.c2; have f2 := Z.fr 2; have z3 := Z.c3; have f3 := Z.fr 3) | fail)
  clear z0 f0 z1 f1 z2 f2 z3 f3
  have M := M1
  clear M1
  go_wp2
  replace Z := Z.all 0 0 0 0
  replace M := M.same (put4_block _ (N + 1 + 1) 0 0 0 0 g (by omega))
  replace B := B.put4 (N := N + 1 + 1) (by omega) 0 0 0 0
  unfold put4 at M B
  generalize World.setCell (World.setCell (World.setCell (World.setCell _ ⟨N + 1 + 1, 0, none⟩ (.int .i64 0)) ⟨N + 1 + 1, 1, none⟩ (.int .i64 0)) ⟨N + 1 + 1, 2, none⟩ (.int .i64 0)) ⟨N + 1 + 1, 3, none⟩ (.int .i64 0) = W9 at Z M B ⊢
  have d0 := Z.c0
  have d1 := Z.c1
  have d2 := Z.c2
  have d3 := Z.c3
  refine bodyPost_ret (v := .tuple #[.agg #[.int .i64 0, .int .i64 0, .int .i64 0, .int .i64 0], .bool true]) ?_ rfl ⟨0, 0, 0, 0, rfl, B, M⟩
  simp [results, Try.results7, go_sem, d0, d1, d2, d3]
set_option maxRecDepth 100000 in
set_option maxHeartbeats 3200000 in
theorem does6n (n : Int) (w : World) :
    Calls Try.prog 7 #[.pointer none, agg4 0 0 0 0, .agg #[.int .i64 6, .int .i64 n]] w fun e w' => ∃ x, e = .returned x ∧ Below w.heap.size w w' := by
  unfold agg4
  go_enter Try.func7, Try.ntmps7
  go_upto_region 1 with fail
  have hbs := does_boxes w 0 0 0 0 6 n 44 48 44
  generalize hW0 : World.alloc (World.alloc (World.alloc w _) _) _ = W0
  simp only [hW0] at hbs
  obtain ⟨A, X, Z, B⟩ := hbs
  clear hW0
  have hN2 : w.heap.size ≤ W0.heap.size := B.size
  generalize hN : w.heap.size = N at A X Z ⊢
  have hN1 : w.heap.size ≤ N := by omega
  clear hN
  have x0 := X.c0
  have x1 := X.c1
  go_upto_region 19 with fail
  clear x0 x1 X
  have p0 : P4 N 0 0 0 0 W0 := ⟨A.c0, A.c1, A.c2, A.c3⟩
  go_region_held3 (fun W => W.cell? ⟨N, 0, none⟩ = some (.int .i64 0) ∧ W.cell? ⟨N, 1, none⟩ = some (.int .i64 0) ∧ W.cell? ⟨N, 2, none⟩ = some (.int .i64 0) ∧ W.cell? ⟨N, 3, none⟩ = some (.int .i64 0))
    (first | exact p0 | exact P4.below (by assumption) b1 | exact P4.put (M := N + 1 + 1) (by assumption) (by omega) 0 0 0 0 | assumption | fail)
    (first | (go_at_call 8; refine (take_nil _).mono ?_; rintro e W1 ⟨rfl, b1⟩; unfold agg4; replace Z := Z.drew.below b1; replace B := B.drew.trans (b1.mono hN2); have z0 := Z.c0; have f0 := Z.fr 0; have z1 := Z.c1; have f1 := Z.fr 1; have z2 := Z.c2; have f2 := Z.fr 2; have z3 := Z.c3; have f3 := Z.fr 3) | fail)
  clear z0 f0 z1 f1 z2 f2 z3 f3
  go_wp2
  replace Z := Z.all 0 0 0 0
  replace B := (((B.setCell (p := ⟨N + 1 + 1, 0, none⟩) (by simp; omega) (.int .i64 0)).setCell (p := ⟨N + 1 + 1, 1, none⟩) (by simp; omega) (.int .i64 0)).setCell (p := ⟨N + 1 + 1, 2, none⟩) (by simp; omega) (.int .i64 0)).setCell (p := ⟨N + 1 + 1, 3, none⟩) (by simp; omega) (.int .i64 0)
  generalize World.setCell (World.setCell (World.setCell (World.setCell _ ⟨N + 1 + 1, 0, none⟩ (.int .i64 0)) ⟨N + 1 + 1, 1, none⟩ (.int .i64 0)) ⟨N + 1 + 1, 2, none⟩ (.int .i64 0)) ⟨N + 1 + 1, 3, none⟩ (.int .i64 0) = W9 at Z B ⊢
  have d0 := Z.c0
  have d1 := Z.c1
  have d2 := Z.c2
  have d3 := Z.c3
  refine bodyPost_ret (v := .tuple #[.agg #[.int .i64 0, .int .i64 0, .int .i64 0, .int .i64 0], .bool true]) ?_ rfl ⟨_, rfl, B⟩
  simp [results, Try.results7, go_sem, d0, d1, d2, d3]
end Go.Proofs.Ytljonofedefdbaa
