/-
  New.
-/
import Derived.Test.YtanlclegjlfmbaaGreatStHas
namespace Go.Proofs.YtanlclegjlfmbaaGreat
open Go.RowKit Go.WideShapes

theorem neSr (s : Nat) (w : World) : (binOp .neq 40 (.pointer (some ⟨s, 0, none⟩)) (.pointer none)).run Tryz.prog w = .ok (.bool true) w := by kernel_rfl
theorem lt5 {j : Nat} (h : j < 5) : j = 0 ∨ j = 1 ∨ j = 2 ∨ j = 3 ∨ j = 4 := by omega
/-- New, of no dictionary. -/
theorem snew_nil (back : Bool) (w : World) :
    Calls Tryz.prog 11 #[.pointer none, .bool back] w fun e w' => ∃ s, e = .returned (.pointer (some ⟨s, 0, none⟩)) ∧ w.heap.size ≤ s ∧ Blk w' s 5 (soF false) ∧ Below w.heap.size w w' := by
  obtain ⟨w1, hw1⟩ : ∃ y, w.alloc (.cells #[.pointer none] 24) = y := ⟨_, rfl⟩
  have hB1 : Below w.heap.size w w1 := by rw [← hw1]; exact (Below.refl _ w).alloc (Nat.le_refl _) _
  have q1 : w1.cell? ⟨w.heap.size, 0, none⟩ = some (.pointer none) := by rw [← hw1]; exact cell_alloc_new _ _ _ _ rfl
  have hs1 : w1.heap.size = w.heap.size + 1 := by rw [← hw1]; simp
  have h1 := eqDn
  have HW := Lib.hid hw1
  clear hw1
  obtain ⟨w2, hw2⟩ : ∃ y, w1.alloc (.cells #[.pointer none, .bool false, .int .i64 0, .int .i64 0, .nilFunc] 43) = y := ⟨_, rfl⟩
  have hB2 : Below w.heap.size w w2 := by rw [← hw2]; exact hB1.alloc (by omega) _
  have hX2 : Blk w2 w1.heap.size 5 (soF false) := by
    rw [← hw2]
    refine (Blk.new w1 _ _).congr fun j hj => ?_
    rcases lt5 hj with rfl | rfl | rfl | rfl | rfl <;> rfl
  have HW2 := Lib.hid hw2
  clear hw2
  go_enter Tryz.func11, Tryz.ntmps11
  go_upto_region 1 with fail
  rw [HW.out]
  go_wp2
  rw [HW2.out]
  go_ret
  rw [hs1] at hX2
  exact ⟨_, rfl, by omega, hX2, hB2⟩
set_option maxRecDepth 100000 in
set_option maxHeartbeats 4000000 in
/-- New, of a dictionary. -/
theorem snew_any {w : World} {d g gi r h : Nat} {ev : Value} {t : Tb} {mv : Value} {most : Int} {v : Nat} (hC : Dc w d g gi r h ev t mv most v) (back : Bool) :
    Calls Tryz.prog 11 #[.pointer (some ⟨d, 0, none⟩), .bool back] w fun e w' => ∃ s b, e = .returned (.pointer (some ⟨s, 0, none⟩)) ∧ w.heap.size ≤ s ∧ w.heap.size ≤ b ∧ Sr w' s d back (t.live : Int) (if back = true then 9223372036854775807 else -1) b ∧ Below w.heap.size w w' := by
  obtain ⟨w1, hw1⟩ : ∃ y, w.alloc (.cells #[.pointer (some ⟨d, 0, none⟩)] 24) = y := ⟨_, rfl⟩
  have hB1 : Below w.heap.size w w1 := by rw [← hw1]; exact (Below.refl _ w).alloc (Nat.le_refl _) _
  have q1 : w1.cell? ⟨w.heap.size, 0, none⟩ = some (.pointer (some ⟨d, 0, none⟩)) := by rw [← hw1]; exact cell_alloc_new _ _ _ _ rfl
  have hs1 : w1.heap.size = w.heap.size + 1 := by rw [← hw1]; simp
  have h1 := eqD d
  have hC1 := hC.below hB1.drew
  have C1 : Calls Tryz.prog 27 #[.pointer (some ⟨d, 0, none⟩)] w1.drew fun e w' => e = .returned (.int .i64 (t.live : Int)) ∧ w' = w1.drew := plen_any (hC1.hd.c 0 (by omega)) (hC1.dt.hd.c 3 (by omega))
  have d1 : w1.drew.cell? ⟨w.heap.size, 0, none⟩ = some (.pointer (some ⟨d, 0, none⟩)) := q1
  have HW := Lib.hid hw1
  clear hw1 hC hC1
  generalize (t.live : Int) = tl at *
  obtain ⟨w2, hw2⟩ : ∃ y, (w1.alloc (.cells #[.pointer (some ⟨d, 0, none⟩), .bool false, .int .i64 tl, .int .i64 0, .nilFunc] 43)).drew = y := ⟨_, rfl⟩
  have hB2 : Below w.heap.size w w2 := by rw [← hw2]; exact (hB1.alloc (by omega) _).drew
  have hX2 : Blk w2 w1.heap.size 5 (fun j => #[Value.pointer (some ⟨d, 0, none⟩), .bool false, .int .i64 tl, .int .i64 0, .nilFunc].getD j .nilFunc) := by
    rw [← hw2]
    exact Blk.same (Blk.new w1 #[.pointer (some ⟨d, 0, none⟩), .bool false, .int .i64 tl, .int .i64 0, .nilFunc] 43) rfl
  have p1 : (w1.alloc (.cells #[.pointer (some ⟨d, 0, none⟩), .bool false, .int .i64 tl, .int .i64 0, .nilFunc] 43)).drew.cell? ⟨w.heap.size, 0, none⟩ = some (.pointer (some ⟨d, 0, none⟩)) := (cell_alloc_old w1 _ _ _ (by show w.heap.size < w1.heap.size; omega)).trans q1
  have q2 : w2.cell? ⟨w.heap.size, 0, none⟩ = some (.pointer (some ⟨d, 0, none⟩)) := by rw [← hw2]; exact p1
  have HW2 := Lib.hid hw2
  clear hw2
  have a3 := hX2.c 3 (by omega)
  have a4 := hX2.c 4 (by omega)
  have z3 := hX2.z 3
  have z4 := hX2.z 4
  have HF : Hid (∀ told : Int, Sr ((w2.setCell ⟨w1.heap.size, 3, none⟩ (.int .i64 told)).setCell ⟨w1.heap.size, 4, none⟩ (.func (.func (fdF back)) #[] #[.pointer (some ⟨w.heap.size, 0, none⟩)])) w1.heap.size d back tl told w.heap.size ∧ Below w.heap.size w ((w2.setCell ⟨w1.heap.size, 3, none⟩ (.int .i64 told)).setCell ⟨w1.heap.size, 4, none⟩ (.func (.func (fdF back)) #[] #[.pointer (some ⟨w.heap.size, 0, none⟩)]))) := fun told => by
    refine ⟨⟨((hX2.put 3 _).put 4 _).congr fun j hj => ?_, ?_, by omega⟩, (hB2.setCell (p := ⟨w1.heap.size, 3, none⟩) (by show w.heap.size ≤ w1.heap.size; omega) _).setCell (p := ⟨w1.heap.size, 4, none⟩) (by show w.heap.size ≤ w1.heap.size; omega) _⟩
    · rcases lt5 hj with rfl | rfl | rfl | rfl | rfl <;> rfl
    · rw [World.cell?_setCell_other _ _ _ _ (by intro he; injection he with a b; omega), World.cell?_setCell_other _ _ _ _ (by intro he; injection he with a b; omega)]
      exact q2
  have hle : w.heap.size ≤ w1.heap.size := by omega
  clear hX2 hB2 hB1 hs1
  go_enter Tryz.func11, Tryz.ntmps11
  go_upto_region 1 with fail
  rw [HW.out]
  go_wp2_with fail
  go_region_held3 (fun V => V.cell? ⟨w.heap.size, 0, none⟩ = some (.pointer (some ⟨d, 0, none⟩)))
    (first | with_reducible exact d1 | with_reducible exact q1 | with_reducible exact p1 | with_reducible exact q2 | fail)
    (first | (go_at_call 27; refine C1.mono ?_; rintro e w9 ⟨rfl, rfl⟩) | fail)
  rw [HW2.out]
  cases back with
  | true =>
    have HF1 := Lib.hid (HF.out 9223372036854775807)
    unfold fdF at HF1
    simp only [if_true] at HF1
    go_wp2
    go_ret
    exact ⟨_, rfl, hle, _, Nat.le_refl _, HF1.out⟩
  | false =>
    have HF1 := Lib.hid (HF.out (-1))
    unfold fdF at HF1
    simp only [Bool.false_eq_true, if_false] at HF1
    go_wp2
    go_ret
    exact ⟨_, rfl, hle, _, Nat.le_refl _, HF1.out⟩
end Go.Proofs.YtanlclegjlfmbaaGreat
