/-
  The iterators of a nil table.
-/
import Derived.Test.YtjkggidcheagpaaGreatDtNil
import Derived.Test.YtjkggidcheagpaaGreatRgBox
import Derived.OwnWalkIn
import Derived.TacticsInMore
import Derived.LoopNIn
import Derived.LoopIn
namespace Go.Proofs.YtjkggidcheagpaaGreat
open Go.RowKit Go.WideShapes
attribute [local go_sem] Oper.semAt_some

/-- The iterator of no entries. -/
theorem all1_nil (y : Value) (b : Nat) (w : World) (hc : w.cell? ⟨b, 0, none⟩ = some (.slice none 0 0)) : Calls Tryz.prog 19 #[y, .pointer (some ⟨b, 0, none⟩)] w fun e w' => e = .returned (.tuple #[]) ∧ Below w.heap.size w w' := by
  go_enter Tryz.func19, Tryz.ntmps19
  go_wp2_with fail
  go_loopw [7] (fun iv wr => iv = .int .i64 0 ∧ wr = w) (fun _ _ => 0)
  case atStart => exact ⟨rfl, rfl⟩
  case round =>
    obtain ⟨rfl, rfl⟩ := hrel
    go_wp2
    go_end0
    exact ⟨rfl, Below.refl _ _⟩
theorem backward_new (w : World) : Calls Tryz.prog 21 #[.slice none 0 0] w fun e w' => e = .returned (.func (.func 53) #[] #[.pointer (some ⟨w.heap.size, 0, none⟩)]) ∧ w' = w.alloc (.cells #[.slice none 0 0] 37) := by
  have hmf : ∀ (fn : Fn) (first cap : Array Value) (w : World), (Instr.makeFunc fn first cap).run Tryz.prog w = .ok (.func fn first cap) w := fun _ _ _ _ => rfl
  go_enter Tryz.func21, Tryz.ntmps21
  go_wp2
  go_ret
  exact ⟨by simp, rfl⟩
theorem backward_seq (bl : Nat) (w : World) (hb : bl < w.heap.size) (hl : w.cell? ⟨bl, 0, none⟩ = some (.slice none 0 0)) :
    SeqIx Tryz.prog 53 #[.pointer (some ⟨bl, 0, none⟩)] (fun _ => #[.nilFunc, .nilFunc]) 0 w := by
  intro l J Jx W hB _ _ _ _ J0
  have hl' := (hB.cell (p := ⟨bl, 0, none⟩) hb).trans hl
  clear hl
  refine callsIn_of_wp Tryz.func53 rfl trivial ?_ rfl
  simp only [Tryz.ntmps53, List.size_toArray, List.length_cons, List.length_nil, Nat.reduceAdd, Nat.reduceSub, Array.replicate_succ, Array.replicate_zero, List.push_toArray, List.append_toArray, List.nil_append, List.cons_append]
  gi_wp2_with fail
  gi_loopw [3] (fun iv wr => iv = .int .i64 (-1) ∧ wr = W) (fun _ _ => 0)
  case atStart => exact ⟨rfl, rfl⟩
  case round =>
    obtain ⟨rfl, rfl⟩ := hrel
    gi_wp2
    go_end0
    exact ⟨⟨_, rfl⟩, .inl J0⟩
theorem back1_nil (fy : Fn) (y1 y2 : Array Value) (b : Nat) (w : World) (hc : w.cell? ⟨b, 0, none⟩ = some (.slice none 0 0)) : Calls Tryz.prog 20 #[.func fy y1 y2, .pointer (some ⟨b, 0, none⟩)] w fun e w' => e = .returned (.tuple #[]) ∧ Below w.heap.size w w' := by
  refine callsIn_wide.1 (callsIn_of_wp_marks (n := 0) Tryz.func20 rfl trivial ?_ rfl)
  simp only [Tryz.ntmps20, List.size_toArray, List.length_cons, List.length_nil, Nat.reduceAdd, Nat.reduceSub, Array.replicate_succ, Array.replicate_zero, List.push_toArray, List.append_toArray, List.nil_append, List.cons_append]
  have hlb := lt_of_cell hc
  obtain ⟨w1, hw1⟩ : ∃ x, w.alloc (.cells #[.func fy y1 y2] 64) = x := ⟨_, rfl⟩
  have CB := backward_new w1
  have hB1 : Below w.heap.size w w1 := by rw [← hw1]; exact (Below.refl _ w).alloc (Nat.le_refl _) _
  have hc1 := (hB1.cell (p := ⟨b, 0, none⟩) hlb).trans hc
  have HW1 := Lib.hid hw1
  clear hw1
  gi_wp2_with fail
  rw [HW1.out]
  refine ⟨trivial, rfl, (callsIn_wide.2 CB).mono ?_⟩
  rintro e w2 ⟨rfl, hw2⟩
  clear CB
  have hB2 : Below w1.heap.size w1 w2 := by rw [hw2]; exact (Below.refl _ w1).alloc (Nat.le_refl _) _
  have hc2 : w2.cell? ⟨w1.heap.size, 0, none⟩ = some (.slice none 0 0) := by rw [hw2, World.cell?_alloc_at _ _ _ _ rfl]; rfl
  have HB := Lib.hid (hB1.trans (hB2.mono hB1.size))
  have hlt2 := lt_of_cell hc2
  clear hw2
  gi_wp2_with fail
  refine wpIn_range_box (fun l => { target := .fn (.func 53) #[.pointer (some ⟨w1.heap.size, 0, none⟩)], args := #[.func (.yield l) #[] #[]] }) (fun l W => by simp [resolve, Deferred.ofValue, go_sem, Act.eval]) (fun l W => by simp [invoke, go_sem, Tryz.call53])
    (backward_seq w1.heap.size w2 hlt2 hc2) (fun _ => rfl) (fun _ W => Below w.heap.size w W) (fun _ _ _ => False) ?hI (fun _ _ _ _ h _ => h) (fun _ _ _ => trivial) HB.out (fun _ _ _ => False) (fun _ _ _ _ h => h) (fun _ i _ _ _ hi => absurd hi (Nat.not_lt_zero _)) (fun _ i _ _ hi => absurd hi (Nat.not_lt_zero _)) ?done (fun _ i _ hi => absurd hi (Nat.not_lt_zero _))
  case hI =>
    intro k A A' x1 hb
    exact x1.trans (hb.mono HB.out.size)
  case done =>
    intro W x1 hK
    gi_wp2
    refine ⟨by simp, .inl ⟨_, _, rfl, run_takeDeferred hK, ?_⟩⟩
    exact ⟨_, results_none rfl _ _ _, rfl, x1.trans (below_put (by have := HB.out.size; omega))⟩
end Go.Proofs.YtjkggidcheagpaaGreat
