/-
  lexiconlaw4.does, whatever the kind.
-/
import Derived.Test.YtljonofedefdbaaMtDoes2
namespace Go.Proofs.Ytljonofedefdbaa
open Go.RowKit

set_option maxRecDepth 100000 in
set_option maxHeartbeats 3200000 in
theorem does0 (g : Nat) (t c v s n K : Int) (k1 : (K == 1) = false) (k2 : (K == 2) = false) (k3 : (K == 3) = false) (k4 : (K == 4) = false) (k5 : (K == 5) = false) (k6 : (K == 6) = false) (w : World) (h : Mt w g t c v s) :
    Calls Try.prog 7 #[.pointer (some ⟨g, 0, none⟩), agg4 t c v s, .agg #[.int .i64 K, .int .i64 n]] w fun e w' => ∃ t' c' v' s', e = .returned (.tuple #[agg4 t' c' v' s', .bool true]) ∧ But g w w' ∧ Mt w' g t' c' v' s' := by
  have hlt := h.lt
  unfold agg4
  go_enter Try.func7, Try.ntmps7
  go_upto_region 1 with fail
  have hbs := does_boxes w t c v s K n 44 48 44
  generalize hW0 : World.alloc (World.alloc (World.alloc w _) _) _ = W0
  simp only [hW0] at hbs
  obtain ⟨A, X, Z, B⟩ := hbs
  have M := h.below B
  replace B := but_of B g
  clear hW0 h
  generalize hN : w.heap.size = N at A X Z hlt ⊢
  have hN1 : w.heap.size ≤ N := by omega
  clear hN
  have x0 := X.c0
  have x1 := X.c1
  go_upto_region 20 with fail
  clear x0 x1 X
  have a0 := A.c0
  have z0 := Z.c0
  have f0 := Z.fr 0
  have a1 := A.c1
  have z1 := Z.c1
  have f1 := Z.fr 1
  have a2 := A.c2
  have z2 := Z.c2
  have f2 := Z.fr 2
  have a3 := A.c3
  have z3 := Z.c3
  have f3 := Z.fr 3
  go_wp2
  clear a0 z0 f0 a1 z1 f1 a2 z2 f2 a3 z3 f3
  replace Z := Z.all t c v s
  replace M := M.same (put4_block _ (N + 1 + 1) t c v s g (by omega))
  replace B := B.put4 (N := N + 1 + 1) (by omega) t c v s
  unfold put4 at M B
  generalize World.setCell (World.setCell (World.setCell (World.setCell _ ⟨N + 1 + 1, 0, none⟩ (.int .i64 t)) ⟨N + 1 + 1, 1, none⟩ (.int .i64 c)) ⟨N + 1 + 1, 2, none⟩ (.int .i64 v)) ⟨N + 1 + 1, 3, none⟩ (.int .i64 s) = W9 at Z M B ⊢
  have d0 := Z.c0
  have d1 := Z.c1
  have d2 := Z.c2
  have d3 := Z.c3
  refine bodyPost_ret (v := .tuple #[.agg #[.int .i64 t, .int .i64 c, .int .i64 v, .int .i64 s], .bool true]) ?_ rfl ⟨t, c, v, s, rfl, B, M⟩
  simp [results, Try.results7, go_sem, d0, d1, d2, d3]
set_option maxRecDepth 100000 in
set_option maxHeartbeats 3200000 in
theorem does0n (n K : Int) (k1 : (K == 1) = false) (k2 : (K == 2) = false) (k3 : (K == 3) = false) (k4 : (K == 4) = false) (k5 : (K == 5) = false) (k6 : (K == 6) = false) (w : World) :
    Calls Try.prog 7 #[.pointer none, agg4 0 0 0 0, .agg #[.int .i64 K, .int .i64 n]] w fun e w' => ∃ x, e = .returned x ∧ Below w.heap.size w w' := by
  unfold agg4
  go_enter Try.func7, Try.ntmps7
  go_upto_region 1 with fail
  have hbs := does_boxes w 0 0 0 0 K n 44 48 44
  generalize hW0 : World.alloc (World.alloc (World.alloc w _) _) _ = W0
  simp only [hW0] at hbs
  obtain ⟨A, X, Z, B⟩ := hbs
  clear hW0
  have hN2 : w.heap.size ≤ W0.heap.size := B.size
  generalize hN : w.heap.size = N at A X Z ⊢
  have hN1 : w.heap.size ≤ N := by omega
  clear hN
  have x0 := X.c0
  have x1 := X.c1
  go_upto_region 20 with fail
  clear x0 x1 X
  have a0 := A.c0
  have z0 := Z.c0
  have f0 := Z.fr 0
  have a1 := A.c1
  have z1 := Z.c1
  have f1 := Z.fr 1
  have a2 := A.c2
  have z2 := Z.c2
  have f2 := Z.fr 2
  have a3 := A.c3
  have z3 := Z.c3
  have f3 := Z.fr 3
  go_wp2
  clear a0 z0 f0 a1 z1 f1 a2 z2 f2 a3 z3 f3
  replace Z := Z.all 0 0 0 0
  replace B := (((B.setCell (p := ⟨N + 1 + 1, 0, none⟩) (by simp; omega) (.int .i64 0)).setCell (p := ⟨N + 1 + 1, 1, none⟩) (by simp; omega) (.int .i64 0)).setCell (p := ⟨N + 1 + 1, 2, none⟩) (by simp; omega) (.int .i64 0)).setCell (p := ⟨N + 1 + 1, 3, none⟩) (by simp; omega) (.int .i64 0)
  generalize World.setCell (World.setCell (World.setCell (World.setCell _ ⟨N + 1 + 1, 0, none⟩ (.int .i64 0)) ⟨N + 1 + 1, 1, none⟩ (.int .i64 0)) ⟨N + 1 + 1, 2, none⟩ (.int .i64 0)) ⟨N + 1 + 1, 3, none⟩ (.int .i64 0) = W9 at Z B ⊢
  have d0 := Z.c0
  have d1 := Z.c1
  have d2 := Z.c2
  have d3 := Z.c3
  refine bodyPost_ret (v := .tuple #[.agg #[.int .i64 0, .int .i64 0, .int .i64 0, .int .i64 0], .bool true]) ?_ rfl ⟨_, rfl, B⟩
  simp [results, Try.results7, go_sem, d0, d1, d2, d3]
theorem does_any (g : Nat) (t c v s K n : Int) (w : World) (h : Mt w g t c v s) :
    Calls Try.prog 7 #[.pointer (some ⟨g, 0, none⟩), agg4 t c v s, .agg #[.int .i64 K, .int .i64 n]] w fun e w' => ∃ t' c' v' s', e = .returned (.tuple #[agg4 t' c' v' s', .bool true]) ∧ But g w w' ∧ Mt w' g t' c' v' s' := by
  by_cases h1 : K = 1
  · rw [h1]; exact does1 g t c v s n w h
  by_cases h2 : K = 2
  · rw [h2]
    cases hc : ctb n
    · exact does2o g t c v s n hc w h
    · exact does2i g t c v s n hc w h
  by_cases h3 : K = 3
  · rw [h3]
    cases hc : ctb n
    · exact does3o g t c v s n hc w h
    · exact does3i g t c v s n hc w h
  by_cases h4 : K = 4
  · rw [h4]; exact does4 g t c v s n w h
  by_cases h5 : K = 5
  · rw [h5]; exact does5 g t c v s n w h
  by_cases h6 : K = 6
  · rw [h6]; exact does6 g t c v s n w h
  · exact does0 g t c v s n K (beq_false_of_ne h1) (beq_false_of_ne h2) (beq_false_of_ne h3) (beq_false_of_ne h4) (beq_false_of_ne h5) (beq_false_of_ne h6) w h
theorem does_nil (K n : Int) (w : World) :
    Calls Try.prog 7 #[.pointer none, agg4 0 0 0 0, .agg #[.int .i64 K, .int .i64 n]] w fun e w' => ∃ x, e = .returned x ∧ Below w.heap.size w w' := by
  by_cases h1 : K = 1
  · rw [h1]; exact does1n n w
  by_cases h2 : K = 2
  · rw [h2]
    cases hc : ctb n
    · exact does2no 0 0 0 0 n hc w
    · exact does2ni 0 0 0 0 n hc w
  by_cases h3 : K = 3
  · rw [h3]
    cases hc : ctb n
    · exact does3no 0 0 0 0 n hc w
    · exact does3ni 0 0 0 0 n hc w
  by_cases h4 : K = 4
  · rw [h4]; exact does4n n w
  by_cases h5 : K = 5
  · rw [h5]; exact does5n n w
  by_cases h6 : K = 6
  · rw [h6]; exact does6n n w
  · exact does0n n K (beq_false_of_ne h1) (beq_false_of_ne h2) (beq_false_of_ne h3) (beq_false_of_ne h4) (beq_false_of_ne h5) (beq_false_of_ne h6) w
end Go.Proofs.Ytljonofedefdbaa
