/-
  What Table, Visit, Charge, Turn do; named; four numbers in a box.
-/
import Derived.Test.YtljonofedefdbaaMtCount
namespace Go.Proofs.Ytljonofedefdbaa
open Go.RowKit
open Go.RwLone

set_option maxHeartbeats 800000 in
theorem table_any (g : Nat) (t c v s : Int) (w : World) (h : Mt w g t c v s) :
    Calls Try.prog 10 #[.pointer (some ⟨g, 0, none⟩)] w fun e w' => e = .returned (.tuple #[]) ∧ But g w w' ∧ Mt w' g (more t 1) c v s := by
  go_enter Try.func10, Try.ntmps10
  go_wp2_with fail
  refine (count_any g 0 (by omega) 1 t c v s w h).mono ?_
  rintro e w' ⟨rfl, hb, hm⟩
  go_wp2
  go_end0
  exact ⟨rfl, hb, hm⟩
set_option maxHeartbeats 800000 in
theorem visit_any (g : Nat) (n : Int) (t c v s : Int) (w : World) (h : Mt w g t c v s) :
    Calls Try.prog 11 #[.pointer (some ⟨g, 0, none⟩), .int .i64 n] w fun e w' => e = .returned (.tuple #[]) ∧ But g w w' ∧ Mt w' g t (more c n) v s := by
  go_enter Try.func11, Try.ntmps11
  go_wp2_with fail
  refine (count_any g 1 (by omega) n t c v s w h).mono ?_
  rintro e w' ⟨rfl, hb, hm⟩
  go_wp2
  go_end0
  exact ⟨rfl, hb, hm⟩
set_option maxHeartbeats 800000 in
theorem charge_any (g : Nat) (n : Int) (t c v s : Int) (w : World) (h : Mt w g t c v s) :
    Calls Try.prog 13 #[.pointer (some ⟨g, 0, none⟩), .int .i64 n] w fun e w' => e = .returned (.tuple #[]) ∧ But g w w' ∧ Mt w' g t c (more v n) s := by
  go_enter Try.func13, Try.ntmps13
  go_wp2_with fail
  refine (count_any g 2 (by omega) n t c v s w h).mono ?_
  rintro e w' ⟨rfl, hb, hm⟩
  go_wp2
  go_end0
  exact ⟨rfl, hb, hm⟩
set_option maxHeartbeats 800000 in
theorem turn_any (g : Nat) (t c v s : Int) (w : World) (h : Mt w g t c v s) :
    Calls Try.prog 14 #[.pointer (some ⟨g, 0, none⟩)] w fun e w' => e = .returned (.tuple #[]) ∧ But g w w' ∧ Mt w' g t c v (more s 1) := by
  go_enter Try.func14, Try.ntmps14
  go_wp2_with fail
  refine (count_any g 3 (by omega) 1 t c v s w h).mono ?_
  rintro e w' ⟨rfl, hb, hm⟩
  go_wp2
  go_end0
  exact ⟨rfl, hb, hm⟩
set_option maxHeartbeats 800000 in
theorem table_nil (w : World) : Calls Try.prog 10 #[.pointer none] w fun e w' => e = .returned (.tuple #[]) ∧ w' = w := by
  go_enter Try.func10, Try.ntmps10
  go_wp2_with fail
  refine (count_nil 0 1 w).mono ?_
  rintro e w' ⟨rfl, rfl⟩
  go_wp2
  go_end0
  exact ⟨rfl, rfl⟩
set_option maxHeartbeats 800000 in
theorem visit_nil (n : Int) (w : World) : Calls Try.prog 11 #[.pointer none, .int .i64 n] w fun e w' => e = .returned (.tuple #[]) ∧ w' = w := by
  go_enter Try.func11, Try.ntmps11
  go_wp2_with fail
  refine (count_nil 1 n w).mono ?_
  rintro e w' ⟨rfl, rfl⟩
  go_wp2
  go_end0
  exact ⟨rfl, rfl⟩
set_option maxHeartbeats 800000 in
theorem charge_nil (n : Int) (w : World) : Calls Try.prog 13 #[.pointer none, .int .i64 n] w fun e w' => e = .returned (.tuple #[]) ∧ w' = w := by
  go_enter Try.func13, Try.ntmps13
  go_wp2_with fail
  refine (count_nil 2 n w).mono ?_
  rintro e w' ⟨rfl, rfl⟩
  go_wp2
  go_end0
  exact ⟨rfl, rfl⟩
set_option maxHeartbeats 800000 in
theorem turn_nil (w : World) : Calls Try.prog 14 #[.pointer none] w fun e w' => e = .returned (.tuple #[]) ∧ w' = w := by
  go_enter Try.func14, Try.ntmps14
  go_wp2_with fail
  refine (count_nil 3 1 w).mono ?_
  rintro e w' ⟨rfl, rfl⟩
  go_wp2
  go_end0
  exact ⟨rfl, rfl⟩

/-- Four numbers. -/
def agg4 (a b c d : Int) : Value := .agg #[.int .i64 a, .int .i64 b, .int .i64 c, .int .i64 d]
/-- Four numbers in a box. -/
structure Four (w : World) (N : Nat) (a b c d : Int) : Prop where
  c0 : w.cell? ⟨N, 0, none⟩ = some (.int .i64 a)
  c1 : w.cell? ⟨N, 1, none⟩ = some (.int .i64 b)
  c2 : w.cell? ⟨N, 2, none⟩ = some (.int .i64 c)
  c3 : w.cell? ⟨N, 3, none⟩ = some (.int .i64 d)
  fr : ∀ j, w.frozen? ⟨N, j, none⟩ = false
theorem Four.lt {w : World} {N : Nat} {a b c d : Int} (h : Four w N a b c d) : N < w.heap.size := lt_of_cell h.c0
theorem Four.same {w w' : World} {N : Nat} {a b c d : Int} (h : Four w N a b c d) (e : w'.heap[N]? = w.heap[N]?) : Four w' N a b c d :=
  have k : ∀ o, w'.cell? ⟨N, o, none⟩ = w.cell? ⟨N, o, none⟩ := fun _ => World.cell?_of_block (w := w) e
  ⟨(k _).trans h.c0, (k _).trans h.c1, (k _).trans h.c2, (k _).trans h.c3, fun j => (World.frozen?_of_block (w := w) (a := ⟨N, j, none⟩) e).trans (h.fr j)⟩
theorem Four.but {w w' : World} {N g : Nat} {a b c d : Int} (h : Four w N a b c d) (hb : But g w w') (hg : N ≠ g) : Four w' N a b c d := h.same (hb.block N h.lt hg)
theorem Four.below {w w' : World} {N : Nat} {a b c d : Int} (h : Four w N a b c d) (hb : Below w.heap.size w w') : Four w' N a b c d := h.same (hb.block N h.lt)
theorem Four.drew {w : World} {N : Nat} {a b c d : Int} (h : Four w N a b c d) : Four w.drew N a b c d := h.same rfl
theorem Four.alloc {w : World} {N : Nat} {a b c d : Int} (h : Four w N a b c d) (o : Obj) : Four (w.alloc o) N a b c d := h.same (Below.heap_alloc _ _ _ h.lt)
theorem Four.other {w : World} {N : Nat} {a b c d : Int} (h : Four w N a b c d) {p : Addr} (hp : p.block ≠ N) (u : Value) : Four (w.setCell p u) N a b c d := h.same (Below.heap_setCell _ _ _ _ (fun e => hp e.symm))
theorem Four.new (w : World) (a b c d : Int) (ty : TypeId) : Four (w.alloc (.cells #[.int .i64 a, .int .i64 b, .int .i64 c, .int .i64 d] ty)) w.heap.size a b c d := by
  constructor <;> first | exact fun j => World.frozen?_alloc_at _ _ _ _ rfl | (rw [World.cell?_alloc_at _ _ _ _ rfl]; rfl)
theorem Four.put (j : Nat) {w : World} {N : Nat} {a b c d : Int} (h : Four w N a b c d) (y a' b' c' d' : Int) (e0 : a' = if j = 0 then y else a) (e1 : b' = if j = 1 then y else b) (e2 : c' = if j = 2 then y else c) (e3 : d' = if j = 3 then y else d) :
    Four (w.setCell ⟨N, j, none⟩ (.int .i64 y)) N a' b' c' d' := by
  have a0 : ∀ (q : Nat) (x : Int), w.cell? ⟨N, q, none⟩ = some (.int .i64 x) → (w.setCell ⟨N, j, none⟩ (.int .i64 y)).cell? ⟨N, q, none⟩ = some (.int .i64 (if j = q then y else x)) := fun q x hx => by
    by_cases hjq : j = q
    · subst hjq
      rw [if_pos rfl]
      exact World.cell?_setCell_same _ _ _ hx
    · rw [World.cell?_setCell_other _ _ _ _ (by intro e; injection e with _ e; omega), if_neg hjq]; exact hx
  refine ⟨?_, ?_, ?_, ?_, fun k => ?_⟩
  · rw [e0]; exact a0 0 a h.c0
  · rw [e1]; exact a0 1 b h.c1
  · rw [e2]; exact a0 2 c h.c2
  · rw [e3]; exact a0 3 d h.c3
  · rw [World.frozen?_setCell]; exact h.fr k
/-- All four are stored. -/
theorem Four.all {w : World} {N : Nat} {a b c d : Int} (h : Four w N a b c d) (a' b' c' d' : Int) :
    Four ((((w.setCell ⟨N, 0, none⟩ (.int .i64 a')).setCell ⟨N, 1, none⟩ (.int .i64 b')).setCell ⟨N, 2, none⟩ (.int .i64 c')).setCell ⟨N, 3, none⟩ (.int .i64 d')) N a' b' c' d' :=
  ((((h.put 0 a' a' b c d rfl rfl rfl rfl).put 1 b' a' b' c d rfl rfl rfl rfl).put 2 c' a' b' c' d rfl rfl rfl rfl).put 3 d' a' b' c' d' rfl rfl rfl rfl)

set_option maxRecDepth 100000 in
set_option maxHeartbeats 1600000 in
theorem named_any (a b c d : Int) (w : World) :
    Calls Try.prog 18 #[agg4 a b c d] w fun e w' => e = .returned (agg4 a b c d) ∧ Below w.heap.size w w' := by
  unfold agg4
  go_enter Try.func18, Try.ntmps18
  go_wp2
  refine bodyPost_ret (v := .agg #[.int .i64 a, .int .i64 b, .int .i64 c, .int .i64 d]) ?_ rfl ⟨rfl, ((Below.refl _ w).alloc (Nat.le_refl _) _).alloc (by simp) _⟩
  simp [results, Try.results18, go_sem]
end Go.Proofs.Ytljonofedefdbaa
