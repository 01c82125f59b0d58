/-
  Calls of a nil dictionary and of a nil machine.
-/
import Derived.Test.YtooneobnfepncaaGreatPrStep2
import Derived.Laws.EntriesVeiled
namespace Go.Proofs.YtooneobnfepncaaGreat
open Go.RowKit Go.WideShapes

theorem eqDn (w : World) : (binOp .eql 53 (.pointer none) (.pointer none)).run Tryz.prog w = .ok (.bool true) w := by kernel_rfl
theorem eqMn (w : World) : (binOp .eql 54 (.pointer none) (.pointer none)).run Tryz.prog w = .ok (.bool true) w := by kernel_rfl
theorem kept_nil (w : World) : Calls Tryz.prog 37 #[.pointer none] w fun e w' => e = .returned (.pointer none) ∧ w' = w := by
  have h1 := eqDn
  go_enter Tryz.func37, Tryz.ntmps37
  go_wp2
  go_ret
  exact ⟨rfl, rfl⟩
theorem maNone_nil (w : World) : Calls Tryz.prog 49 #[.pointer none] w fun e w' => e = .returned (.bool true) ∧ w' = w := by
  have h1 := eqMn
  go_enter Tryz.func49, Tryz.ntmps49
  go_wp2
  go_ret
  exact ⟨rfl, rfl⟩
theorem scans_nil (w : World) : Calls Tryz.prog 24 #[.pointer none] w fun e w' => e = .returned (.int .i64 0) ∧ w' = w := by
  have h1 := eqMn
  go_enter Tryz.func24, Tryz.ntmps24
  go_wp2
  go_ret
  exact ⟨rfl, rfl⟩
theorem scan_nil (w : World) : Calls Tryz.prog 23 #[.pointer none] w fun e w' => e = .returned (.int .i64 0) ∧ w' = w := by
  have h1 := eqMn
  go_enter Tryz.func23, Tryz.ntmps23
  go_wp2
  go_ret
  exact ⟨rfl, rfl⟩
theorem tell_nil (c : Bool) (w : World) : Calls Tryz.prog 22 #[.pointer none, .bool c] w fun e w' => e = .returned (.int .i64 1) ∧ w' = w := by
  have C1 := maNone_nil w
  go_enter Tryz.func22, Tryz.ntmps22
  go_wp2_with fail
  refine C1.mono ?_
  rintro e w1 ⟨rfl, h⟩
  rw [h]
  go_wp2
  go_ret
  exact ⟨rfl, rfl⟩
theorem pclear_nil (w : World) : Calls Tryz.prog 11 #[.pointer none] w fun e w' => e = .returned (.tuple #[]) ∧ w' = w := by
  have h1 := eqDn
  go_enter Tryz.func11, Tryz.ntmps11
  go_wp2
  refine bodyPost_ret (v := .tuple #[]) (by simp [results, Tryz.results11, go_sem]) rfl ?_
  exact ⟨rfl, rfl⟩
theorem pcopy_nil (w : World) : Calls Tryz.prog 15 #[.pointer none] w fun e w' => e = .returned (.pointer none) ∧ w' = w := by
  have h1 := eqDn
  go_enter Tryz.func15, Tryz.ntmps15
  go_wp2
  go_ret
  exact ⟨rfl, rfl⟩
theorem version_nil (w : World) : Calls Tryz.prog 17 #[.pointer none] w fun e w' => e = .returned (.int .i64 0) ∧ w' = w := by
  have h1 := eqDn
  go_enter Tryz.func17, Tryz.ntmps17
  go_wp2
  go_ret
  exact ⟨rfl, rfl⟩
theorem version_any {w : World} {d : Nat} {v : Nat} (hv : v ≤ 1000000000) (k2 : w.cell? ⟨d, 2, none⟩ = some (.int .u64 (v : Int))) : Calls Tryz.prog 17 #[.pointer (some ⟨d, 0, none⟩)] w fun e w' => e = .returned (.int .i64 (v : Int)) ∧ w' = w := by
  have h1 := eqD d
  have e1 : IntKind.i64.wrap (v : Int) = (v : Int) := i64_small (by omega) (by omega)
  go_enter Tryz.func17, Tryz.ntmps17
  go_wp2
  go_ret
  exact ⟨rfl, rfl⟩
set_option maxRecDepth 100000 in
theorem step_nil (w : World) : Calls Tryz.prog 21 #[.pointer none] w fun e w' => e = .returned (tuV Tu.zero) ∧ Below w.heap.size w w' := by
  have C1 := maNone_nil
  unfold tuV Tu.zero
  obtain ⟨w1, hw1⟩ : ∃ y, w.alloc (.cells #[.int .i64 0, .int .i64 0, .bool false, .int .i64 0, .int .i64 0] 77) = y := ⟨_, rfl⟩
  obtain ⟨hX1, hB1, hs1⟩ := tu_zero_blk w hw1
  have q0 : w1.cell? ⟨w.heap.size, 0, none⟩ = some (.int .i64 0) := hX1.c 0 (by omega)
  have q1 : w1.cell? ⟨w.heap.size, 1, none⟩ = some (.int .i64 0) := hX1.c 1 (by omega)
  have q2 : w1.cell? ⟨w.heap.size, 2, none⟩ = some (.bool false) := hX1.c 2 (by omega)
  have q3 : w1.cell? ⟨w.heap.size, 3, none⟩ = some (.int .i64 0) := hX1.c 3 (by omega)
  have q4 : w1.cell? ⟨w.heap.size, 4, none⟩ = some (.int .i64 0) := hX1.c 4 (by omega)
  have z0 := hX1.z 0
  have z1 := hX1.z 1
  have z2 := hX1.z 2
  have z3 := hX1.z 3
  have z4 := hX1.z 4
  have HW1 := Lib.hid hw1
  have HR9 : Hid (Blk (putU w1 w.heap.size Tu.zero) w.heap.size 5 _) := put5_blk hX1 _ _ _ _ _
  have HF9 : Hid (Below w.heap.size w (putU w1 w.heap.size Tu.zero)) := hB1.trans (putU_below _ (Nat.le_refl _) _)
  clear hX1 hB1 hs1 hw1
  unfold putU put5 Tu.zero at HR9 HF9
  go_enter Tryz.func21, Tryz.ntmps21
  go_upto_region 1 with fail
  rw [HW1.out]
  go_wp2_with fail
  refine (C1 w1).mono ?_
  rintro e w2 ⟨rfl, h⟩
  rw [h]
  clear C1 h
  go_wp2_with fail
  generalize World.setCell (World.setCell (World.setCell (World.setCell (World.setCell w1 _ _) _ _) _ _) _ _) _ _ = wZ at *
  have o0 : wZ.cell? ⟨w.heap.size, 0, none⟩ = some (.int .i64 0) := HR9.out.c 0 (by omega)
  have o1 : wZ.cell? ⟨w.heap.size, 1, none⟩ = some (.int .i64 0) := HR9.out.c 1 (by omega)
  have o2 : wZ.cell? ⟨w.heap.size, 2, none⟩ = some (.bool false) := HR9.out.c 2 (by omega)
  have o3 : wZ.cell? ⟨w.heap.size, 3, none⟩ = some (.int .i64 0) := HR9.out.c 3 (by omega)
  have o4 : wZ.cell? ⟨w.heap.size, 4, none⟩ = some (.int .i64 0) := HR9.out.c 4 (by omega)
  refine bodyPost_ret (v := .agg #[.int .i64 0, .int .i64 0, .bool false, .int .i64 0, .int .i64 0]) ?_ rfl ⟨rfl, HF9.out⟩
  simp [results, Tryz.results21, go_sem, o0, o1, o2, o3, o4]
set_option maxRecDepth 100000 in
set_option maxHeartbeats 4000000 in
theorem rowOf_no (goal : Int) (hg : ¬ (1 ≤ goal ∧ goal ≤ 4)) (w : World) :
    Calls Tryz.prog 43 #[.int .i64 goal] w fun e w' => e = .returned (.tuple #[.agg #[.int .i64 0, .nilFunc, .nilFunc], .bool false]) ∧ Below w.heap.size w w' := by
  obtain ⟨w2, hw2⟩ : ∃ y, (w.alloc (.cells #[.int .i64 0, .nilFunc, .nilFunc] 116)).alloc (.cells #[.int .i64 1, hitV 1, missV 1, .int .i64 2, hitV 2, missV 2, .int .i64 3, hitV 3, missV 3, .int .i64 4, hitV 4, missV 4] 116) = y := ⟨_, rfl⟩
  obtain ⟨hR, hB, hb2⟩ := rows_new w hw2
  have lR := hR.lt (by omega)
  have lB := hB.lt (by omega)
  have HR := Lib.hid hR
  have HB := Lib.hid hB
  have HB2 := Lib.hid hb2
  have HW2 : Hid ((w.alloc (.cells #[.int .i64 0, .nilFunc, .nilFunc] 116)).alloc (.cells #[.int .i64 1, .func (.func 86) #[] #[], .func (.func 87) #[] #[], .int .i64 2, .func (.func 88) #[] #[], .func (.func 89) #[] #[], .int .i64 3, .func (.func 90) #[] #[], .func (.func 87) #[] #[], .int .i64 4, .func (.func 86) #[] #[], .func (.func 89) #[] #[]] 116) = w2) := hw2
  clear hR hB hb2 hw2
  go_enter Tryz.func43, Tryz.ntmps43
  go_wp2_with fail
  rw [HW2.out]
  go_loopw [14, 6] (fun iv _ wr => ∃ k : Nat, k ≤ 4 ∧ iv = .int .i64 (k : Int) ∧ Below w2.heap.size w2 wr) (fun iv _ _ => 4 - (intOf iv).toNat)
  case atStart => exact ⟨0, by omega, rfl, Below.refl _ _⟩
  case round =>
    obtain ⟨k, hk, rfl, hbk⟩ := hrel
    by_cases hk4 : k < 4
    · have t1 : (k : Int) < 4 := by omega
      obtain ⟨e0, e1, e2⟩ := rowsF_at k hk4
      have hBk := HB.out.of hbk (by omega)
      have c0 : wr.cell? ⟨w.heap.size + 1, k * 3, none⟩ = some (.int .i64 ((k : Int) + 1)) := by rw [hBk.c _ (by omega), e0]
      have c1 : wr.cell? ⟨w.heap.size + 1, k * 3 + 1, none⟩ = some (hitV (k + 1)) := by rw [hBk.c _ (by omega), e1]
      have c2 : wr.cell? ⟨w.heap.size + 1, k * 3 + 2, none⟩ = some (missV (k + 1)) := by rw [hBk.c _ (by omega), e2]
      clear e0 e1 e2 hBk
      obtain ⟨fh, hfh⟩ : ∃ x, hitV (k + 1) = Value.func (.func x) #[] #[] := ⟨_, rfl⟩
      obtain ⟨fm, hfm⟩ : ∃ x, missV (k + 1) = Value.func (.func x) #[] #[] := ⟨_, rfl⟩
      rw [hfh] at c1
      rw [hfm] at c2
      have tq : ((k : Int) + 1 == goal) = false := by rw [beq_eq_false_iff_ne]; omega
      have HBN : Hid (∀ o, Below w2.heap.size w2 (wr.alloc o)) := fun o => hbk.alloc hbk.size o
      clear hbk hg
      go_wp2_with fail
      go_roundw
      case rel => exact ⟨k + 1, by omega, by go_num, HBN.out _⟩
      case measure => simp [intOf]; omega
    · obtain rfl : k = 4 := by omega
      have hR3 := HR.out.of hbk (by omega)
      have q0 : wr.cell? ⟨w.heap.size, 0, none⟩ = some (.int .i64 0) := hR3.c 0 (by omega)
      have q1 : wr.cell? ⟨w.heap.size, 1, none⟩ = some .nilFunc := hR3.c 1 (by omega)
      have q2 : wr.cell? ⟨w.heap.size, 2, none⟩ = some .nilFunc := hR3.c 2 (by omega)
      have z0 := hR3.z 0
      have z1 := hR3.z 1
      have z2 := hR3.z 2
      have HF := Lib.hid (((hR3.put 0 (.int .i64 0)).put 1 .nilFunc).put 2 .nilFunc)
      have HBB : Hid (Below w.heap.size w (((wr.setCell ⟨w.heap.size, 0, none⟩ (.int .i64 0)).setCell ⟨w.heap.size, 1, none⟩ .nilFunc).setCell ⟨w.heap.size, 2, none⟩ .nilFunc)) := by
        have h1 := HB2.out.trans (hbk.mono HB2.out.size)
        exact ((h1.setCell (p := ⟨w.heap.size, 0, none⟩) (Nat.le_refl _) _).setCell (p := ⟨w.heap.size, 1, none⟩) (Nat.le_refl _) _).setCell (p := ⟨w.heap.size, 2, none⟩) (Nat.le_refl _) _
      clear hR3 hbk
      go_wp2_with fail
      generalize World.setCell (World.setCell (World.setCell wr _ _) _ _) _ _ = w4 at *
      have o0 : w4.cell? ⟨w.heap.size, 0, none⟩ = some (.int .i64 0) := HF.out.c 0 (by omega)
      have o1 : w4.cell? ⟨w.heap.size, 1, none⟩ = some .nilFunc := HF.out.c 1 (by omega)
      have o2 : w4.cell? ⟨w.heap.size, 2, none⟩ = some .nilFunc := HF.out.c 2 (by omega)
      refine bodyPost_ret (v := .tuple #[.agg #[.int .i64 0, .nilFunc, .nilFunc], .bool false]) ?_ rfl ⟨rfl, HBB.out⟩
      simp [results, Tryz.results43, go_sem, o0, o1, o2]
end Go.Proofs.YtooneobnfepncaaGreat
