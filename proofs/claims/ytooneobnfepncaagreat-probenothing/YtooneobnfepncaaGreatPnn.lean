/-
  A dictionary that is none.
  A dictionary that is none: First, Last, Sight, Pairs.
  A dictionary that is none: Pairs.
-/
import Derived.Test.YtooneobnfepncaaGreatPrNil
import Derived.Test.YtooneobnfepncaaGreatDtNil2
import Derived.Test.YtooneobnfepncaaGreatPrPairs
namespace Go.Proofs.YtooneobnfepncaaGreat
open Go.RowKit Go.WideShapes

theorem plen_nil (w : World) : Calls Tryz.prog 16 #[.pointer none] w fun e w' => e = .returned (.int .i64 0) ∧ Below w.heap.size w w' := by
  have C1 := kept_nil w
  have C2 := len_nil w
  go_enter Tryz.func16, Tryz.ntmps16
  go_wp2_with fail
  refine C1.mono ?_
  rintro e w1 ⟨rfl, rfl⟩
  clear C1
  go_wp2_with fail
  refine C2.mono ?_
  rintro e w2 ⟨rfl, hb⟩
  clear C2
  go_wp2
  go_ret
  exact ⟨rfl, hb⟩
theorem first_nil7 (w : World) : Calls Tryz.prog 41 #[.pointer none] w fun e w' => e = .returned (.int .i64 (-1)) ∧ w' = w := by
  go_enter Tryz.func41, Tryz.ntmps41
  go_wp2
  go_ret
  exact ⟨rfl, rfl⟩
theorem last_nil7 (w : World) : Calls Tryz.prog 42 #[.pointer none] w fun e w' => e = .returned (.int .i64 (-1)) ∧ w' = w := by
  go_enter Tryz.func42, Tryz.ntmps42
  go_wp2
  go_ret
  exact ⟨rfl, rfl⟩
set_option maxRecDepth 100000 in
theorem begin_nil (goal u k x : Int) (w : World) : Calls Tryz.prog 14 #[.pointer none, .int .i64 goal, .int .i64 u, .int .i64 k, .int .i64 x] w fun e w' => e = .returned (.pointer none) ∧ Below w.heap.size w w' := by
  have h1 := eqDn
  by_cases hg : 1 ≤ goal ∧ goal ≤ 4
  · obtain ⟨gl, rfl⟩ : ∃ gl : Nat, goal = (gl : Int) := ⟨goal.toNat, by omega⟩
    have C1 := rowOf_yes gl (by omega) (by omega) w
    obtain ⟨fh, hfh⟩ : ∃ y, hitV gl = Value.func (.func y) #[] #[] := ⟨_, rfl⟩
    obtain ⟨fm, hfm⟩ : ∃ y, missV gl = Value.func (.func y) #[] #[] := ⟨_, rfl⟩
    rw [hfh, hfm] at C1
    clear hfh hfm hg
    go_enter Tryz.func14, Tryz.ntmps14
    go_wp2_with fail
    refine C1.mono ?_
    rintro e w1 ⟨rfl, hb1⟩
    clear C1
    have HB := Lib.hid (hb1.alloc hb1.size (.cells #[.int .i64 (gl : Int), .func (.func fh) #[] #[], .func (.func fm) #[] #[]] 116))
    clear hb1
    go_wp2
    go_ret
    exact ⟨rfl, HB.out⟩
  · have C1 := rowOf_no goal hg w
    clear hg
    go_enter Tryz.func14, Tryz.ntmps14
    go_wp2_with fail
    refine C1.mono ?_
    rintro e w1 ⟨rfl, hb1⟩
    clear C1
    have HB := Lib.hid (hb1.alloc hb1.size (.cells #[.int .i64 0, .nilFunc, .nilFunc] 116))
    clear hb1
    go_wp2
    go_ret
    exact ⟨rfl, HB.out⟩
set_option maxRecDepth 100000 in
theorem begin_bad (d : Nat) (goal u k x : Int) (hg : ¬ (1 ≤ goal ∧ goal ≤ 4)) (w : World) : Calls Tryz.prog 14 #[.pointer (some ⟨d, 0, none⟩), .int .i64 goal, .int .i64 u, .int .i64 k, .int .i64 x] w fun e w' => e = .returned (.pointer none) ∧ Below w.heap.size w w' := by
  have h1 := eqD d
  have C1 := rowOf_no goal hg w
  clear hg
  go_enter Tryz.func14, Tryz.ntmps14
  go_wp2_with fail
  refine C1.mono ?_
  rintro e w1 ⟨rfl, hb1⟩
  clear C1
  have HB := Lib.hid (hb1.alloc hb1.size (.cells #[.int .i64 0, .nilFunc, .nilFunc] 116))
  clear hb1
  go_wp2
  go_ret
  exact ⟨rfl, HB.out⟩
theorem entries8_none (w : World) : Calls Tryz.prog 47 #[.slice none 0 0, .slice none 0 0] w fun e w' => e = .returned (.bool true) ∧ w' = w := by
  go_enter Tryz.func47, Tryz.ntmps47
  go_wp2_with fail
  go_loopw [5] (fun iv wr => iv = .int .i64 0 ∧ wr = w) (fun _ _ => 0)
  case atStart => exact ⟨rfl, rfl⟩
  case round =>
    obtain ⟨rfl, rfl⟩ := hrel
    go_wp2
    go_ret
    exact ⟨rfl, rfl⟩
set_option maxRecDepth 100000 in
set_option maxHeartbeats 4000000 in
theorem sight8_none (w : World) : Calls Tryz.prog 19 #[siV 0 0 none 0 0 none 0 0 0 0 0, siV 0 0 none 0 0 none 0 0 0 0 0] w fun e w' => e = .returned (.bool true) ∧ Below w.heap.size w w' := by
  obtain ⟨w1, hw1⟩ : ∃ w1, w.alloc (.cells #[.int .i64 0, .int .i64 0, .slice none 0 0, .slice none 0 0, .int .i64 0, .int .i64 0, .int .i64 0] 74) = w1 := ⟨_, rfl⟩
  have hB1 : Blk w1 w.heap.size 7 (fun j => #[Value.int .i64 0, .int .i64 0, .slice none 0 0, .slice none 0 0, .int .i64 0, .int .i64 0, .int .i64 0].getD j .nilFunc) := by rw [← hw1]; exact Blk.new w _ _
  have hb1 : Below w.heap.size w w1 := by rw [← hw1]; exact (Below.refl _ w).alloc (Nat.le_refl _) _
  have hs1 : w1.heap.size = w.heap.size + 1 := by rw [← hw1]; simp
  obtain ⟨w2, hw2⟩ : ∃ w2, w1.alloc (.cells #[.int .i64 0, .int .i64 0, .slice none 0 0, .slice none 0 0, .int .i64 0, .int .i64 0, .int .i64 0] 74) = w2 := ⟨_, rfl⟩
  have hB2 : Blk w2 w1.heap.size 7 (fun j => #[Value.int .i64 0, .int .i64 0, .slice none 0 0, .slice none 0 0, .int .i64 0, .int .i64 0, .int .i64 0].getD j .nilFunc) := by rw [← hw2]; exact Blk.new w1 _ _
  have hb2 : Below w1.heap.size w1 w2 := by rw [← hw2]; exact (Below.refl _ w1).alloc (Nat.le_refl _) _
  have hB1' := hB1.of hb2 (by omega)
  rw [hs1] at hB2
  have HBW := Lib.hid (hb1.trans (hb2.mono hb1.size))
  have b0 : w2.cell? ⟨w.heap.size, 0, none⟩ = some (.int .i64 0) := hB1'.c 0 (by omega)
  have b1 : w2.cell? ⟨w.heap.size, 1, none⟩ = some (.int .i64 0) := hB1'.c 1 (by omega)
  have b2 : w2.cell? ⟨w.heap.size, 2, none⟩ = some (.slice none 0 0) := hB1'.c 2 (by omega)
  have b3 : w2.cell? ⟨w.heap.size, 3, none⟩ = some (.slice none 0 0) := hB1'.c 3 (by omega)
  have b4 : w2.cell? ⟨w.heap.size, 4, none⟩ = some (.int .i64 0) := hB1'.c 4 (by omega)
  have b5 : w2.cell? ⟨w.heap.size, 5, none⟩ = some (.int .i64 0) := hB1'.c 5 (by omega)
  have b6 : w2.cell? ⟨w.heap.size, 6, none⟩ = some (.int .i64 0) := hB1'.c 6 (by omega)
  have d0 : w2.cell? ⟨w.heap.size + 1, 0, none⟩ = some (.int .i64 0) := hB2.c 0 (by omega)
  have d1 : w2.cell? ⟨w.heap.size + 1, 1, none⟩ = some (.int .i64 0) := hB2.c 1 (by omega)
  have d2 : w2.cell? ⟨w.heap.size + 1, 2, none⟩ = some (.slice none 0 0) := hB2.c 2 (by omega)
  have d3 : w2.cell? ⟨w.heap.size + 1, 3, none⟩ = some (.slice none 0 0) := hB2.c 3 (by omega)
  have d4 : w2.cell? ⟨w.heap.size + 1, 4, none⟩ = some (.int .i64 0) := hB2.c 4 (by omega)
  have d5 : w2.cell? ⟨w.heap.size + 1, 5, none⟩ = some (.int .i64 0) := hB2.c 5 (by omega)
  have d6 : w2.cell? ⟨w.heap.size + 1, 6, none⟩ = some (.int .i64 0) := hB2.c 6 (by omega)
  have HW1 := Lib.hid hw1
  have HW2 := Lib.hid hw2
  clear hw1 hw2 hB1 hb1 hB2 hb2 hB1'
  unfold siV
  go_enter Tryz.func19, Tryz.ntmps19
  go_upto_region 1 with fail
  rw [HW1.out, HW2.out]
  try rw [hs1]
  clear HW1 HW2
  go_wp2_with fail
  go_loopw [5] (fun iv wr => iv = .int .i64 0 ∧ wr = w2) (fun _ _ => 0)
  case atStart => exact ⟨rfl, rfl⟩
  case round =>
    obtain ⟨rfl, rfl⟩ := hrel
    go_wp2_with fail
    refine (entries8_none wr).mono ?_
    rintro e wz ⟨rfl, rfl⟩
    go_wp2
    go_ret
    exact ⟨rfl, HBW.out⟩
end Go.Proofs.YtooneobnfepncaaGreat
namespace Go.Proofs.YtooneobnfepncaaGreat
open Go.RowKit Go.WideShapes

def eZ : Nat → Value := fun j => #[Value.bool false, .int .i64 0, .int .i64 0, .int .i64 0, .int .i64 0].getD j .nilFunc
def eZv : Value := .agg #[.bool false, .int .i64 0, .int .i64 0, .int .i64 0, .int .i64 0]
theorem eZ_new (w : World) (t : TypeId) : Blk (w.alloc (.cells #[.bool false, .int .i64 0, .int .i64 0, .int .i64 0, .int .i64 0] t)) w.heap.size 5 eZ := Blk.new w _ _
theorem eZ_put {w : World} {R : Nat} {F : Nat → Value} (h : Blk w R 5 F) : Blk (put5 w R (.bool false) (.int .i64 0) (.int .i64 0) (.int .i64 0) (.int .i64 0)) R 5 eZ := (put5_blk h _ _ _ _ _).congr fun j hj => by
  have : j = 0 ∨ j = 1 ∨ j = 2 ∨ j = 3 ∨ j = 4 := by omega
  rcases this with rfl | rfl | rfl | rfl | rfl <;> rfl
set_option maxRecDepth 100000 in
theorem take_nil (n : Int) (w : World) : Calls Tryz.prog 40 #[.pointer none, .int .i64 n] w fun e w' => e = .returned (.tuple #[eZv, .int .i64 1]) ∧ Below w.heap.size w w' := by
  obtain ⟨w1, hw1⟩ : ∃ y, w.alloc (.cells #[.bool false, .int .i64 0, .int .i64 0, .int .i64 0, .int .i64 0] 62) = y := ⟨_, rfl⟩
  have hX1 : Blk w1 w.heap.size 5 eZ := by rw [← hw1]; exact eZ_new w _
  have hB1 : Below w.heap.size w w1 := by rw [← hw1]; exact (Below.refl _ w).alloc (Nat.le_refl _) _
  have C1 := kept_nil w1
  have C2 := at_nil n w1
  have HX1 := Lib.hid hX1
  have HB1 := Lib.hid hB1
  have HW1 := Lib.hid hw1
  clear hw1 hX1 hB1
  unfold eZv
  go_enter Tryz.func40, Tryz.ntmps40
  go_upto_region 1 with fail
  rw [HW1.out]
  go_wp2_with fail
  refine C1.mono ?_
  rintro e w2 ⟨rfl, rfl⟩
  clear C1
  go_wp2_with fail
  refine C2.mono ?_
  rintro e w3 ⟨rfl, hb3⟩
  clear C2
  obtain ⟨w4, hw4⟩ : ∃ y, w3.alloc (.cells #[.bool false, .int .i64 0, .int .i64 0, .int .i64 0, .int .i64 0] 62) = y := ⟨_, rfl⟩
  have hb4 : Below w3.heap.size w3 w4 := by rw [← hw4]; exact (Below.refl _ w3).alloc (Nat.le_refl _) _
  have hX4 : Blk w4 w.heap.size 5 eZ := (HX1.out.of hb3 (by omega)).of hb4 (by omega)
  have q0 : w4.cell? ⟨w.heap.size, 0, none⟩ = some (.bool false) := hX4.c 0 (by omega)
  have q1 : w4.cell? ⟨w.heap.size, 1, none⟩ = some (.int .i64 0) := hX4.c 1 (by omega)
  have q2 : w4.cell? ⟨w.heap.size, 2, none⟩ = some (.int .i64 0) := hX4.c 2 (by omega)
  have q3 : w4.cell? ⟨w.heap.size, 3, none⟩ = some (.int .i64 0) := hX4.c 3 (by omega)
  have q4 : w4.cell? ⟨w.heap.size, 4, none⟩ = some (.int .i64 0) := hX4.c 4 (by omega)
  have z0 := hX4.z 0
  have z1 := hX4.z 1
  have z2 := hX4.z 2
  have z3 := hX4.z 3
  have z4 := hX4.z 4
  have HR9 := Lib.hid (eZ_put hX4)
  have HF9 : Hid (Below w.heap.size w (put5 w4 w.heap.size (.bool false) (.int .i64 0) (.int .i64 0) (.int .i64 0) (.int .i64 0))) := ((HB1.out.trans (hb3.mono HB1.out.size)).trans (hb4.mono (Nat.le_trans HB1.out.size hb3.size))).trans (put5_below _ (Nat.le_refl _) _ _ _ _ _)
  have HW4 := Lib.hid hw4
  clear hX4 hb3 hb4 hw4
  unfold put5 at HR9 HF9
  go_upto_region 2 with fail
  rw [HW4.out]
  go_wp2_with fail
  generalize World.setCell (World.setCell (World.setCell (World.setCell (World.setCell w4 _ _) _ _) _ _) _ _) _ _ = wZ at *
  have o0 : wZ.cell? ⟨w.heap.size, 0, none⟩ = some (.bool false) := HR9.out.c 0 (by omega)
  have o1 : wZ.cell? ⟨w.heap.size, 1, none⟩ = some (.int .i64 0) := HR9.out.c 1 (by omega)
  have o2 : wZ.cell? ⟨w.heap.size, 2, none⟩ = some (.int .i64 0) := HR9.out.c 2 (by omega)
  have o3 : wZ.cell? ⟨w.heap.size, 3, none⟩ = some (.int .i64 0) := HR9.out.c 3 (by omega)
  have o4 : wZ.cell? ⟨w.heap.size, 4, none⟩ = some (.int .i64 0) := HR9.out.c 4 (by omega)
  refine bodyPost_ret (v := .tuple #[.agg #[.bool false, .int .i64 0, .int .i64 0, .int .i64 0, .int .i64 0], .int .i64 1]) ?_ rfl ⟨rfl, HF9.out⟩
  simp [results, Tryz.results40, go_sem, o0, o1, o2, o3, o4]
set_option maxRecDepth 100000 in
theorem first_nil (w : World) : Calls Tryz.prog 12 #[.pointer none] w fun e w' => e = .returned (.tuple #[eZv, .int .i64 1]) ∧ Below w.heap.size w w' := by
  obtain ⟨w1, hw1⟩ : ∃ y, w.alloc (.cells #[.bool false, .int .i64 0, .int .i64 0, .int .i64 0, .int .i64 0] 62) = y := ⟨_, rfl⟩
  have hX1 : Blk w1 w.heap.size 5 eZ := by rw [← hw1]; exact eZ_new w _
  have hB1 : Below w.heap.size w w1 := by rw [← hw1]; exact (Below.refl _ w).alloc (Nat.le_refl _) _
  have C1 := kept_nil w1
  have C2 := first_nil7 w1
  have C3 := take_nil (-1) w1
  have HX1 := Lib.hid hX1
  have HB1 := Lib.hid hB1
  have HW1 := Lib.hid hw1
  clear hw1 hX1 hB1
  unfold eZv at C3 ⊢
  go_enter Tryz.func12, Tryz.ntmps12
  go_upto_region 1 with fail
  rw [HW1.out]
  go_wp2_with fail
  refine C1.mono ?_
  rintro e w2 ⟨rfl, rfl⟩
  clear C1
  go_wp2_with fail
  refine C2.mono ?_
  rintro e w3 ⟨rfl, rfl⟩
  clear C2
  go_wp2_with fail
  refine C3.mono ?_
  rintro e w4 ⟨rfl, hb4⟩
  clear C3
  have hX4 : Blk w4 w.heap.size 5 eZ := HX1.out.of hb4 (by omega)
  have q0 : w4.cell? ⟨w.heap.size, 0, none⟩ = some (.bool false) := hX4.c 0 (by omega)
  have q1 : w4.cell? ⟨w.heap.size, 1, none⟩ = some (.int .i64 0) := hX4.c 1 (by omega)
  have q2 : w4.cell? ⟨w.heap.size, 2, none⟩ = some (.int .i64 0) := hX4.c 2 (by omega)
  have q3 : w4.cell? ⟨w.heap.size, 3, none⟩ = some (.int .i64 0) := hX4.c 3 (by omega)
  have q4 : w4.cell? ⟨w.heap.size, 4, none⟩ = some (.int .i64 0) := hX4.c 4 (by omega)
  have z0 := hX4.z 0
  have z1 := hX4.z 1
  have z2 := hX4.z 2
  have z3 := hX4.z 3
  have z4 := hX4.z 4
  have HR9 := Lib.hid (eZ_put hX4)
  have HF9 : Hid (Below w.heap.size w (put5 w4 w.heap.size (.bool false) (.int .i64 0) (.int .i64 0) (.int .i64 0) (.int .i64 0))) := (HB1.out.trans (hb4.mono HB1.out.size)).trans (put5_below _ (Nat.le_refl _) _ _ _ _ _)
  clear hX4 hb4
  unfold put5 at HR9 HF9
  go_wp2_with fail
  generalize World.setCell (World.setCell (World.setCell (World.setCell (World.setCell w4 _ _) _ _) _ _) _ _) _ _ = wZ at *
  have o0 : wZ.cell? ⟨w.heap.size, 0, none⟩ = some (.bool false) := HR9.out.c 0 (by omega)
  have o1 : wZ.cell? ⟨w.heap.size, 1, none⟩ = some (.int .i64 0) := HR9.out.c 1 (by omega)
  have o2 : wZ.cell? ⟨w.heap.size, 2, none⟩ = some (.int .i64 0) := HR9.out.c 2 (by omega)
  have o3 : wZ.cell? ⟨w.heap.size, 3, none⟩ = some (.int .i64 0) := HR9.out.c 3 (by omega)
  have o4 : wZ.cell? ⟨w.heap.size, 4, none⟩ = some (.int .i64 0) := HR9.out.c 4 (by omega)
  refine bodyPost_ret (v := .tuple #[.agg #[.bool false, .int .i64 0, .int .i64 0, .int .i64 0, .int .i64 0], .int .i64 1]) ?_ rfl ⟨rfl, HF9.out⟩
  simp [results, Tryz.results12, go_sem, o0, o1, o2, o3, o4]
set_option maxRecDepth 100000 in
theorem last_nil (w : World) : Calls Tryz.prog 13 #[.pointer none] w fun e w' => e = .returned (.tuple #[eZv, .int .i64 1]) ∧ Below w.heap.size w w' := by
  obtain ⟨w1, hw1⟩ : ∃ y, w.alloc (.cells #[.bool false, .int .i64 0, .int .i64 0, .int .i64 0, .int .i64 0] 62) = y := ⟨_, rfl⟩
  have hX1 : Blk w1 w.heap.size 5 eZ := by rw [← hw1]; exact eZ_new w _
  have hB1 : Below w.heap.size w w1 := by rw [← hw1]; exact (Below.refl _ w).alloc (Nat.le_refl _) _
  have C1 := kept_nil w1
  have C2 := last_nil7 w1
  have C3 := take_nil (-1) w1
  have HX1 := Lib.hid hX1
  have HB1 := Lib.hid hB1
  have HW1 := Lib.hid hw1
  clear hw1 hX1 hB1
  unfold eZv at C3 ⊢
  go_enter Tryz.func13, Tryz.ntmps13
  go_upto_region 1 with fail
  rw [HW1.out]
  go_wp2_with fail
  refine C1.mono ?_
  rintro e w2 ⟨rfl, rfl⟩
  clear C1
  go_wp2_with fail
  refine C2.mono ?_
  rintro e w3 ⟨rfl, rfl⟩
  clear C2
  go_wp2_with fail
  refine C3.mono ?_
  rintro e w4 ⟨rfl, hb4⟩
  clear C3
  have hX4 : Blk w4 w.heap.size 5 eZ := HX1.out.of hb4 (by omega)
  have q0 : w4.cell? ⟨w.heap.size, 0, none⟩ = some (.bool false) := hX4.c 0 (by omega)
  have q1 : w4.cell? ⟨w.heap.size, 1, none⟩ = some (.int .i64 0) := hX4.c 1 (by omega)
  have q2 : w4.cell? ⟨w.heap.size, 2, none⟩ = some (.int .i64 0) := hX4.c 2 (by omega)
  have q3 : w4.cell? ⟨w.heap.size, 3, none⟩ = some (.int .i64 0) := hX4.c 3 (by omega)
  have q4 : w4.cell? ⟨w.heap.size, 4, none⟩ = some (.int .i64 0) := hX4.c 4 (by omega)
  have z0 := hX4.z 0
  have z1 := hX4.z 1
  have z2 := hX4.z 2
  have z3 := hX4.z 3
  have z4 := hX4.z 4
  have HR9 := Lib.hid (eZ_put hX4)
  have HF9 : Hid (Below w.heap.size w (put5 w4 w.heap.size (.bool false) (.int .i64 0) (.int .i64 0) (.int .i64 0) (.int .i64 0))) := (HB1.out.trans (hb4.mono HB1.out.size)).trans (put5_below _ (Nat.le_refl _) _ _ _ _ _)
  clear hX4 hb4
  unfold put5 at HR9 HF9
  go_wp2_with fail
  generalize World.setCell (World.setCell (World.setCell (World.setCell (World.setCell w4 _ _) _ _) _ _) _ _) _ _ = wZ at *
  have o0 : wZ.cell? ⟨w.heap.size, 0, none⟩ = some (.bool false) := HR9.out.c 0 (by omega)
  have o1 : wZ.cell? ⟨w.heap.size, 1, none⟩ = some (.int .i64 0) := HR9.out.c 1 (by omega)
  have o2 : wZ.cell? ⟨w.heap.size, 2, none⟩ = some (.int .i64 0) := HR9.out.c 2 (by omega)
  have o3 : wZ.cell? ⟨w.heap.size, 3, none⟩ = some (.int .i64 0) := HR9.out.c 3 (by omega)
  have o4 : wZ.cell? ⟨w.heap.size, 4, none⟩ = some (.int .i64 0) := HR9.out.c 4 (by omega)
  refine bodyPost_ret (v := .tuple #[.agg #[.bool false, .int .i64 0, .int .i64 0, .int .i64 0, .int .i64 0], .int .i64 1]) ?_ rfl ⟨rfl, HF9.out⟩
  simp [results, Tryz.results13, go_sem, o0, o1, o2, o3, o4]
set_option maxRecDepth 100000 in
theorem psight_nil (w : World) : Calls Tryz.prog 20 #[.pointer none] w fun e w' => e = .returned (siV 0 0 none 0 0 none 0 0 0 0 0) ∧ Below w.heap.size w w' := by
  obtain ⟨w1, hw1⟩ : ∃ y, w.alloc (.cells #[.int .i64 0, .int .i64 0, .slice none 0 0, .slice none 0 0, .int .i64 0, .int .i64 0, .int .i64 0] 74) = y := ⟨_, rfl⟩
  have hX1 : Blk w1 w.heap.size 7 zS := by
    rw [← hw1]
    refine (Blk.new w _ _).congr fun j hj => ?_
    have : j = 0 ∨ j = 1 ∨ j = 2 ∨ j = 3 ∨ j = 4 ∨ j = 5 ∨ j = 6 := by simp at hj; omega
    rcases this with rfl | rfl | rfl | rfl | rfl | rfl | rfl <;> rfl
  have hB1 : Below w.heap.size w w1 := by rw [← hw1]; exact (Below.refl _ w).alloc (Nat.le_refl _) _
  have C1 := kept_nil w1
  have C2 := sight_nil w1
  have HX1 := Lib.hid hX1
  have HB1 := Lib.hid hB1
  have HW1 := Lib.hid hw1
  clear hw1 hX1 hB1
  unfold siV at C2 ⊢
  go_enter Tryz.func20, Tryz.ntmps20
  go_upto_region 1 with fail
  rw [HW1.out]
  go_wp2_with fail
  refine C1.mono ?_
  rintro e w2 ⟨rfl, rfl⟩
  clear C1
  go_wp2_with fail
  refine C2.mono ?_
  rintro e w4 ⟨rfl, hb4⟩
  clear C2
  have hX4 : Blk w4 w.heap.size 7 zS := HX1.out.of hb4 (by omega)
  have q0 : w4.cell? ⟨w.heap.size, 0, none⟩ = some (.int .i64 0) := hX4.c 0 (by omega)
  have q1 : w4.cell? ⟨w.heap.size, 1, none⟩ = some (.int .i64 0) := hX4.c 1 (by omega)
  have q2 : w4.cell? ⟨w.heap.size, 2, none⟩ = some (.slice none 0 0) := hX4.c 2 (by omega)
  have q3 : w4.cell? ⟨w.heap.size, 3, none⟩ = some (.slice none 0 0) := hX4.c 3 (by omega)
  have q4 : w4.cell? ⟨w.heap.size, 4, none⟩ = some (.int .i64 0) := hX4.c 4 (by omega)
  have q5 : w4.cell? ⟨w.heap.size, 5, none⟩ = some (.int .i64 0) := hX4.c 5 (by omega)
  have q6 : w4.cell? ⟨w.heap.size, 6, none⟩ = some (.int .i64 0) := hX4.c 6 (by omega)
  have z0 := hX4.z 0
  have z1 := hX4.z 1
  have z2 := hX4.z 2
  have z3 := hX4.z 3
  have z4 := hX4.z 4
  have z5 := hX4.z 5
  have z6 := hX4.z 6
  have HR9 := Lib.hid (put7_blk hX4 (.int .i64 0) (.int .i64 0) (.slice none 0 0) (.slice none 0 0) (.int .i64 0) (.int .i64 0) (.int .i64 0))
  have HF9 : Hid (Below w.heap.size w (put7 w4 w.heap.size (.int .i64 0) (.int .i64 0) (.slice none 0 0) (.slice none 0 0) (.int .i64 0) (.int .i64 0) (.int .i64 0))) := put7_below (HB1.out.trans (hb4.mono HB1.out.size)) _ (Nat.le_refl _) _ _ _ _ _ _ _
  clear hX4 hb4
  unfold put7 at HR9 HF9
  go_wp2_with fail
  generalize World.setCell (World.setCell (World.setCell (World.setCell (World.setCell (World.setCell (World.setCell w4 _ _) _ _) _ _) _ _) _ _) _ _) _ _ = wZ at *
  have o0 : wZ.cell? ⟨w.heap.size, 0, none⟩ = some (.int .i64 0) := HR9.out.c 0 (by omega)
  have o1 : wZ.cell? ⟨w.heap.size, 1, none⟩ = some (.int .i64 0) := HR9.out.c 1 (by omega)
  have o2 : wZ.cell? ⟨w.heap.size, 2, none⟩ = some (.slice none 0 0) := HR9.out.c 2 (by omega)
  have o3 : wZ.cell? ⟨w.heap.size, 3, none⟩ = some (.slice none 0 0) := HR9.out.c 3 (by omega)
  have o4 : wZ.cell? ⟨w.heap.size, 4, none⟩ = some (.int .i64 0) := HR9.out.c 4 (by omega)
  have o5 : wZ.cell? ⟨w.heap.size, 5, none⟩ = some (.int .i64 0) := HR9.out.c 5 (by omega)
  have o6 : wZ.cell? ⟨w.heap.size, 6, none⟩ = some (.int .i64 0) := HR9.out.c 6 (by omega)
  refine bodyPost_ret (v := .agg #[.int .i64 0, .int .i64 0, .slice none 0 0, .slice none 0 0, .int .i64 0, .int .i64 0, .int .i64 0]) ?_ rfl ⟨rfl, HF9.out⟩
  simp [results, Tryz.results20, go_sem, o0, o1, o2, o3, o4, o5, o6]
end Go.Proofs.YtooneobnfepncaaGreat
namespace Go.Proofs.YtooneobnfepncaaGreat
open Go.RowKit Go.WideShapes
attribute [local go_sem] Oper.semAt_some

theorem len_nil' (w : World) : Calls Tryz.prog 45 #[.pointer none] w fun e w' => e = .returned (.int .i64 0) ∧ w' = w := by
  go_enter Tryz.func45, Tryz.ntmps45
  go_wp2
  go_ret
  exact ⟨rfl, rfl⟩
theorem plen_nil' (w : World) : Calls Tryz.prog 16 #[.pointer none] w fun e w' => e = .returned (.int .i64 0) ∧ w' = w := by
  have C1 := kept_nil w
  have C2 := len_nil' w
  go_enter Tryz.func16, Tryz.ntmps16
  go_wp2_with fail
  refine C1.mono ?_
  rintro e w1 ⟨rfl, rfl⟩
  clear C1
  go_wp2_with fail
  refine C2.mono ?_
  rintro e w2 ⟨rfl, rfl⟩
  clear C2
  go_wp2
  go_ret
  exact ⟨rfl, rfl⟩
set_option maxRecDepth 100000 in
set_option maxHeartbeats 4000000 in
theorem pairs_nil0 (w : World) (es0 : List En) (hes0 : es0 = []) :
    Calls Tryz.prog 18 #[.pointer none] w fun e w' => ∃ v, e = .returned v ∧ EsB w.heap.size w' v (liveL es0) ∧ Below w.heap.size w w' := by
  obtain ⟨i0, hi, hz0, hz1, hz2⟩ := info_parts Tryz.infoEn
  have hlen : es0.length ≤ 100000 := by rw [hes0]; simp
  have hll : (liveL es0).length ≤ es0.length := by have := liveL_len es0; omega
  obtain ⟨px, hpx, hpl⟩ := places es0
  refine callsIn_wide.1 (callsIn_of_wp_marks (n := 0) Tryz.func18 rfl trivial ?_ rfl)
  simp only [Tryz.ntmps18, List.size_toArray, List.length_cons, List.length_nil, Nat.reduceAdd, Nat.reduceSub, Array.replicate_succ, Array.replicate_zero, List.push_toArray, List.append_toArray, List.nil_append, List.cons_append]
  have CL' : Calls Tryz.prog 16 #[.pointer none] w fun e w' => e = .returned (.int .i64 ((liveL es0).length : Int)) ∧ w' = w := by rw [hes0]; exact plen_nil' w
  generalize hLL : (liveL es0).length = N at *
  gi_wp2_with fail
  refine ⟨trivial, rfl, (callsIn_wide.2 CL').mono ?_⟩
  rintro e w0 ⟨rfl, rfl⟩
  clear CL'
  gi_wp2_with (gi_at_make; refine wpListIn_make_own _ rfl _ _ 69 rfl w0.heap.size 62 i0 (.agg #[.bool false, .int .i64 0, .int .i64 0, .int .i64 0, .int .i64 0]) 5 Tryz.underlying69 hi hz0 hz1 .i64 .i64 _ N rfl rfl rfl (by rw [hz2]; omega) (by unfold maxLen; omega) (Nat.le_refl _) ?_; intro w1 hown1 hgrow1)
  obtain ⟨w2, hw2⟩ : ∃ y, w1.alloc (.cells #[.slice (some ⟨w0.heap.size, 0, none⟩) 0 N] 69) = y := ⟨_, rfl⟩
  have hb1 : Below w0.heap.size w0 w1 := (Below.refl _ w0).grown hgrow1 (Nat.le_refl _) (fun k e => by cases e)
  have hG1 : w0.heap.size < w1.heap.size := (hown1.lt w0.heap.size rfl).2
  have hb2 : Below w0.heap.size w0 w2 := by rw [← hw2]; exact hb1.alloc (by omega) _
  have hX2 : Blk w2 w1.heap.size 1 (fun j => #[Value.slice (some ⟨w0.heap.size, 0, none⟩) 0 N].getD j .nilFunc) := by rw [← hw2]; exact Blk.new w1 _ _
  have hs2 : w2.heap.size = w1.heap.size + 1 := by rw [← hw2]; simp
  have hown2 : w2.ownsRow w0.heap.size 62 5 (.slice (some ⟨w0.heap.size, 0, none⟩) 0 N) 0 [] := by rw [← hw2]; exact World.ownsRow.alloc hown1 _
  have CK := kept_nil w2
  have CA := all_nil w2
  have HW2 := Lib.hid hw2
  clear hw2 hown1 hgrow1
  rw [HW2.out]
  refine ⟨trivial, rfl, (callsIn_wide.2 CK).mono ?_⟩
  rintro e w2' ⟨rfl, h2'⟩
  rw [h2']
  clear CK h2'
  gi_wp2_with fail
  refine ⟨trivial, rfl, (callsIn_wide.2 CA).mono ?_⟩
  rintro e w3 ⟨b, rfl, hbl, hbc, hB3⟩
  obtain ⟨v0, hv0⟩ : ∃ y, Value.slice none 0 0 = y := ⟨_, rfl⟩
  rw [hv0] at hbc
  have hE3 : EsB w2.heap.size w3 v0 es0 := by rw [← hv0, hes0]; exact ⟨rfl, Or.inl ⟨rfl, rfl⟩⟩
  have HV0 := Lib.hid hv0
  have HES := Lib.hid hes0
  clear hv0 hes0
  clear CA
  have hs3 := hB3.size
  have hI0 : PaI w0 es0 N w0.heap.size w1.heap.size b v0 w3.heap.size 0 w3 := by
    refine ⟨hb2.trans (hB3.mono hb2.size), (hB3.cell (p := ⟨w1.heap.size, 0, none⟩) (by show w1.heap.size < _; omega)).trans (hX2.c 0 (by omega)), (World.frozen?_of_block (a := ⟨w1.heap.size, 0, none⟩) (hB3.block w1.heap.size (by omega))).trans (hX2.z 0), ?_, hE3.es, hbc, Nat.le_refl _⟩
    refine ⟨hown2.1, ?_⟩
    rcases hown2.2 with h0 | ⟨g, cap, cur, e, h1, h2, h3⟩
    · exact .inl h0
    · refine .inr ⟨g, cap, cur, e, h1, (hB3.block g ?_).trans h2, h3⟩
      cases e
      omega
  have hlv := hE3.es.lt
  have hvg := hE3.ge
  have hvw : ∀ j, v0.ownBlock = some j → w2.heap.size ≤ j := hvg
  have hcn : cntL es0 es0.length = N := by rw [cntL_all, hLL]
  have HSQ := Lib.hid (all1_seq (es := es0) (v := v0) b w3 hlen px hpx)
  have HPL := Lib.hid hpl
  have HI0 := Lib.hid hI0
  have HLL := Lib.hid hLL
  clear hI0 hE3 hown2 hX2 hB3 hb1 hb2 hpx hpl hLL hvg
  rw [hcn] at HSQ
  clear hcn
  gi_wp2_with fail
  refine wpIn_range_box (fun l => { target := .fn (.func 94) #[.pointer (some ⟨b, 0, none⟩)], args := #[.func (.yield l) #[] #[]] }) (fun l W => by simp [resolve, Deferred.ofValue, go_sem, Act.eval]) (fun l W => by simp [invoke, go_sem, Tryz.call94])
    HSQ.out (fun _ => rfl) (fun k W => PaI w0 es0 N w0.heap.size w1.heap.size b v0 w3.heap.size k W) (fun _ _ _ => False) ?hI (fun _ _ _ _ h _ => h) (fun k W h => ⟨h.es, h.ib⟩) HI0.out
    (fun k a' W => ∃ bx, w3.heap.size + 2 ≤ bx ∧ PaI w0 es0 N w0.heap.size w1.heap.size b v0 w3.heap.size k W ∧ Blk W bx 5 (fun j => #[Value.bool (nth es0 (px k)).live, .int .i64 (nth es0 (px k)).hash, .int .i64 (nth es0 (px k)).key, .int .i64 (nth es0 (px k)).value, .int .i64 (nth es0 (px k)).birth].getD j .nilFunc) ∧ a' = { tmps := #[.pointer none, undef, .slice none 0 0, .pointer (some ⟨w1.heap.size, 0, none⟩), undef, .pointer (some ⟨bx, 0, none⟩), .pointer none, .int .i64 (N : Int), .slice (some ⟨w0.heap.size, 0, none⟩) 0 N, .pointer none, .pointer none, .func (.func 94) #[] #[.pointer (some ⟨b, 0, none⟩)], .int .i64 (px k : Int), eV (nth es0 (px k)), undef, undef, undef, undef, undef], defers := [] }) ?hA ?assign ?body ?done (fun _ _ _ _ h _ => h.elim)
  case hI =>
    intro k A A' x1 hb
    exact x1.below hb (by omega) (by omega) (by omega) hlv (by omega)
  case hA =>
    rintro k a' W o ⟨bx, hbx, hI, hX, ha⟩
    exact ⟨bx, hbx, hI.below (below_put (by omega)) (by omega) (by omega) (by omega) hlv (by omega), hX.same (World.putObj_heap_other (by omega)), ha⟩
  case assign =>
    intro l k W K hsz hk hI hK
    unfold eV at hK ⊢
    have HI := Lib.hid hI
    obtain ⟨W1, hW1⟩ : ∃ y, W.alloc (.cells #[.bool (nth es0 (px k)).live, .int .i64 (nth es0 (px k)).hash, .int .i64 (nth es0 (px k)).key, .int .i64 (nth es0 (px k)).value, .int .i64 (nth es0 (px k)).birth] 62) = y := ⟨_, rfl⟩
    have hB1 : Below W.heap.size W W1 := by rw [← hW1]; exact (Below.refl _ W).alloc (Nat.le_refl _) _
    have hX1 : Blk W1 W.heap.size 5 (fun j => #[Value.bool (nth es0 (px k)).live, .int .i64 (nth es0 (px k)).hash, .int .i64 (nth es0 (px k)).key, .int .i64 (nth es0 (px k)).value, .int .i64 (nth es0 (px k)).birth].getD j .nilFunc) := by rw [← hW1]; exact Blk.new W _ _
    have hKK := hK _ W1 ⟨W.heap.size, hsz, HI.out.below (hB1.mono HI.out.sz) (by omega) (by omega) (by omega) hlv (by omega), hX1, rfl⟩ hB1
    have HKK := Lib.hid hKK
    have HW1 := Lib.hid hW1
    clear hI hK hKK hB1 hX1 hW1
    gi_wp2_with fail
    rw [HW1.out]
    exact HKK.out
  case body =>
    intro l k a' W hk _
    have hN : N = 0 := by rw [← HLL.out, HES.out]; rfl
    omega
  case done =>
    intro W hI hK
    have cb := hI.bx
    have HI := Lib.hid hI
    have hsW := hI.bl.size
    have HOW : Hid (EsB w0.heap.size W (.slice (some ⟨w0.heap.size, 0, none⟩) N N) (liveL es0)) := by
      have h1 := hI.ow
      rw [List.take_of_length_le (by rw [HLL.out]; exact Nat.le_refl _)] at h1
      show W.ownsRow w0.heap.size 62 5 _ (liveL es0).length (enl (liveL es0))
      rw [HLL.out]
      exact h1
    clear hI
    gi_wp2_with fail
    gi_wp2
    refine ⟨by simp, .inl ⟨_, _, rfl, run_takeDeferred hK, ?_⟩⟩
    refine ⟨_, results_tmp rfl _ _ _, _, rfl, ?_, HI.out.bl.trans (below_put (by omega))⟩
    refine ⟨HOW.out.1, ?_⟩
    rcases HOW.out.2 with h0 | ⟨g', cap', cur', e', q1, q2, q3⟩
    · exact .inl h0
    · refine .inr ⟨g', cap', cur', e', q1, (World.putObj_heap_other ?_).trans q2, q3⟩
      cases e'
      omega
theorem pairs_nil (w : World) : Calls Tryz.prog 18 #[.pointer none] w fun e w' => ∃ a c, e = .returned (.slice a 0 c) ∧ Below w.heap.size w w' := by
  refine (pairs_nil0 w [] rfl).mono ?_
  rintro e w' ⟨v, rfl, hE, hb⟩
  obtain ⟨a, c, rfl⟩ := ownsRow_shape hE
  exact ⟨a, c, rfl, hb⟩
end Go.Proofs.YtooneobnfepncaaGreat
