/-
  The document's Next.
-/
import Derived.Test.YtejfmajbggmghaaGreatGs
namespace Go.Proofs.YtejfmajbggmghaaGreat
open Go.RowKit Go.WideShapes

set_option maxRecDepth 100000 in
set_option maxHeartbeats 4000000 in
theorem rnext9_over {w : World} {k : Nat} {F : Nat → Value} {o : Int} (hK : Blk w k 6 F) (hF : F 5 = .int .i64 o) (ho : o ≠ 0) :
    Calls Tryz.prog 18 #[.pointer (some ⟨k, 0, none⟩)] w fun e w' => e = .returned (.tuple #[eV En.zero, .int .i64 o]) ∧ Below w.heap.size w w' := by
  obtain ⟨w1, hw1⟩ : ∃ y, w.alloc (.cells #[.bool false, .int .i64 0, .int .i64 0, .int .i64 0, .int .i64 0] 48) = y := ⟨_, rfl⟩
  obtain ⟨hX1, hB1, hs1⟩ := en_new w hw1
  have hK1 := hK.of hB1 (by omega)
  have k5 : w1.cell? ⟨k, 5, none⟩ = some (.int .i64 o) := by rw [← hF]; exact hK1.c 5 (by omega)
  have t0 : (o != 0) = true := by rw [bne_iff_ne]; exact ho
  have lk := hK.lt (by omega)
  have hXd : Blk w1 w.heap.size 5 eZ := hX1
  have d5 : w1.drew.cell? ⟨k, 5, none⟩ = some (.int .i64 o) := k5
  obtain ⟨w5, hw5⟩ : ∃ y, (put5 w1 w.heap.size (.bool false) (.int .i64 0) (.int .i64 0) (.int .i64 0) (.int .i64 0)).drew = y := ⟨_, rfl⟩
  have HR : Hid (Blk w5 w.heap.size 5 (fun j => [Value.bool false, .int .i64 0, .int .i64 0, .int .i64 0, .int .i64 0].getD j .nilFunc)) := by rw [← hw5]; exact (put5_blk hXd _ _ _ _ _).same rfl
  have HBB : Hid (Below w.heap.size w w5) := by rw [← hw5]; exact (hB1.trans (put5_below (B := w.heap.size) (w := w1) w.heap.size (Nat.le_refl _) _ _ _ _ _)).drew
  have HP : Hid (∀ v0 v1 v2 v3 v4, ((((((w1.setCell ⟨w.heap.size, 0, none⟩ v0).setCell ⟨w.heap.size, 1, none⟩ v1).setCell ⟨w.heap.size, 2, none⟩ v2).setCell ⟨w.heap.size, 3, none⟩ v3).setCell ⟨w.heap.size, 4, none⟩ v4).drew).cell? ⟨k, 5, none⟩ = some (.int .i64 o)) := fun v0 v1 v2 v3 v4 => by
    have hq := (World.cell?_of_block (a := ⟨k, 5, none⟩) (put5_other w1 w.heap.size v0 v1 v2 v3 v4 k (by omega))).trans k5
    unfold put5 at hq
    rw [World.cell?_drew]
    exact hq
  have a0 := hXd.c 0 (by omega)
  have a1 := hXd.c 1 (by omega)
  have a2 := hXd.c 2 (by omega)
  have a3 := hXd.c 3 (by omega)
  have a4 := hXd.c 4 (by omega)
  have z0 := hXd.z 0
  have z1 := hXd.z 1
  have z2 := hXd.z 2
  have z3 := hXd.z 3
  have z4 := hXd.z 4
  unfold put5 at hw5
  have HW5 := Lib.hid hw5
  have HW := Lib.hid hw1
  clear hw1 hw5 hX1 hXd hB1 hK1 hK hs1
  go_enter Tryz.func18, Tryz.ntmps18
  go_upto_region 1 with fail
  rw [HW.out]
  go_upto_region 2 with fail
  clear k5
  go_region_held3 (fun V => V.cell? ⟨k, 5, none⟩ = some (.int .i64 o)) (first | with_reducible exact d5 | with_reducible exact HP.out _ _ _ _ _ | fail) (fail)
  rw [HW5.out]
  have o0 : w5.cell? ⟨w.heap.size, 0, none⟩ = some (.bool false) := HR.out.c 0 (by omega)
  have o1 : w5.cell? ⟨w.heap.size, 1, none⟩ = some (.int .i64 0) := HR.out.c 1 (by omega)
  have o2 : w5.cell? ⟨w.heap.size, 2, none⟩ = some (.int .i64 0) := HR.out.c 2 (by omega)
  have o3 : w5.cell? ⟨w.heap.size, 3, none⟩ = some (.int .i64 0) := HR.out.c 3 (by omega)
  have o4 : w5.cell? ⟨w.heap.size, 4, none⟩ = some (.int .i64 0) := HR.out.c 4 (by omega)
  go_wp2_with fail
  refine bodyPost_ret (v := .tuple #[.agg #[.bool false, .int .i64 0, .int .i64 0, .int .i64 0, .int .i64 0], .int .i64 o]) ?_ rfl ⟨rfl, HBB.out⟩
  simp [results, Tryz.results18, go_sem, o0, o1, o2, o3, o4]
set_option maxRecDepth 100000 in
set_option maxHeartbeats 4000000 in
theorem rnext9_size {w : World} {d g q : Nat} {ev : Value} {t : Tb} {mv : Value} {most : Int} {v : Nat} (hR : Rdc w d g q ev t mv most v) {k : Nat} {back begun : Bool} {last size : Int} (hK : Blk w k 6 (rsF d size back last begun 0)) (hne : (t.live : Int) ≠ size) :
    Calls Tryz.prog 18 #[.pointer (some ⟨k, 0, none⟩)] w fun e w' => e = .returned (.tuple #[eV En.zero, .int .i64 9]) ∧ Blk w' k 6 (rsF d size back last begun 9) ∧ Ex (fun i => i = k) w w' := by
  obtain ⟨w1, hw1⟩ : ∃ y, w.alloc (.cells #[.bool false, .int .i64 0, .int .i64 0, .int .i64 0, .int .i64 0] 48) = y := ⟨_, rfl⟩
  obtain ⟨hX1, hB1, hs1⟩ := en_new w hw1
  have lk := hK.lt (by omega)
  have hK1 := hK.of hB1 (by omega)
  have k5 : w1.cell? ⟨k, 5, none⟩ = some (.int .i64 0) := hK1.c 5 (by omega)
  have k0 : w1.drew.cell? ⟨k, 0, none⟩ = some (.pointer (some ⟨d, 0, none⟩)) := hK1.c 0 (by omega)
  have k1 : w1.drew.cell? ⟨k, 1, none⟩ = some (.int .i64 size) := hK1.c 1 (by omega)
  have C2 := rplen_any (hR.below hB1.drew)
  have t2 : ((t.live : Int) != size) = true := by simp [hne]
  have hXd : Blk w1.drew w.heap.size 5 eZ := Blk.same hX1 rfl
  have hKd : Blk w1.drew k 6 (rsF d size back last begun 0) := Blk.same hK1 rfl
  have b5 := hKd.c 5 (by omega)
  have y5 := hKd.z 5
  obtain ⟨w2, hw2⟩ : ∃ y, w1.drew.setCell ⟨k, 5, none⟩ (.int .i64 9) = y := ⟨_, rfl⟩
  have hX2 : Blk w2 w.heap.size 5 eZ := hXd.same (by rw [← hw2]; exact Below.heap_setCell _ _ _ _ (by show w.heap.size ≠ k; omega))
  have hK2 : Blk w2 k 6 (rsF d size back last begun 9) := by
    rw [← hw2]
    exact (hKd.put 5 _).congr fun j hj => by rcases lt6 hj with rfl | rfl | rfl | rfl | rfl | rfl <;> rfl
  have hE2 : Ex (fun i => i = k) w w2 := by
    have e0 : Ex (fun i => i = k) w w1.drew := ex_of hB1.drew
    rw [← hw2]
    exact e0.setCell (p := ⟨k, 5, none⟩) (fun _ => rfl) _
  have HW2 := Lib.hid hw2
  have a0 := hX2.c 0 (by omega)
  have a1 := hX2.c 1 (by omega)
  have a2 := hX2.c 2 (by omega)
  have a3 := hX2.c 3 (by omega)
  have a4 := hX2.c 4 (by omega)
  have z0 := hX2.z 0
  have z1 := hX2.z 1
  have z2 := hX2.z 2
  have z3 := hX2.z 3
  have z4 := hX2.z 4
  have HR := Lib.hid (put5_blk hX2 (.bool false) (.int .i64 0) (.int .i64 0) (.int .i64 0) (.int .i64 0))
  have HKF := Lib.hid (hK2.same (put5_other w2 w.heap.size (.bool false) (.int .i64 0) (.int .i64 0) (.int .i64 0) (.int .i64 0) k (by omega)))
  have HE5 : Hid (Ex (fun i => i = k) w (put5 w2 w.heap.size (.bool false) (.int .i64 0) (.int .i64 0) (.int .i64 0) (.int .i64 0))) := put5_ex hE2 _ (fun h => absurd h (Nat.lt_irrefl _)) _ _ _ _ _
  unfold put5 at HR HKF HE5
  have HW := Lib.hid hw1
  clear hw1 hw2 hX1 hB1 hX2 hK2 hE2 hR hXd hKd hK1 hK hs1 hne
  generalize (t.live : Int) = tl at *
  go_enter Tryz.func18, Tryz.ntmps18
  go_upto_region 1 with fail
  rw [HW.out]
  go_wp2_with fail
  go_region_held3 (fun V => V.cell? ⟨k, 0, none⟩ = some (.pointer (some ⟨d, 0, none⟩)) ∧ V.cell? ⟨k, 1, none⟩ = some (.int .i64 size))
    (first | with_reducible exact ⟨k0, k1⟩ | fail)
    (first | (go_at_call 40; refine C2.mono ?_; rintro e w8 ⟨rfl, rfl⟩) | fail)
  clear k0 k1 k5 C2
  generalize w1.drew = wd at *
  go_upto_region 5 with fail
  rw [HW2.out]
  go_wp2_with fail
  generalize World.setCell (World.setCell (World.setCell (World.setCell (World.setCell w2 _ _) _ _) _ _) _ _) _ _ = w5 at *
  have o0 : w5.cell? ⟨w.heap.size, 0, none⟩ = some (.bool false) := HR.out.c 0 (by omega)
  have o1 : w5.cell? ⟨w.heap.size, 1, none⟩ = some (.int .i64 0) := HR.out.c 1 (by omega)
  have o2 : w5.cell? ⟨w.heap.size, 2, none⟩ = some (.int .i64 0) := HR.out.c 2 (by omega)
  have o3 : w5.cell? ⟨w.heap.size, 3, none⟩ = some (.int .i64 0) := HR.out.c 3 (by omega)
  have o4 : w5.cell? ⟨w.heap.size, 4, none⟩ = some (.int .i64 0) := HR.out.c 4 (by omega)
  refine bodyPost_ret (v := .tuple #[.agg #[.bool false, .int .i64 0, .int .i64 0, .int .i64 0, .int .i64 0], .int .i64 9]) ?_ rfl ⟨rfl, HKF.out, HE5.out⟩
  simp [results, Tryz.results18, go_sem, o0, o1, o2, o3, o4]
set_option maxRecDepth 100000 in
set_option maxHeartbeats 4000000 in
/-- Next of a walk that has broken. -/
theorem next_broken {w : World} {s : Nat} (hS : Blk w s 5 (soF true)) :
    Calls Tryz.prog 11 #[.pointer (some ⟨s, 0, none⟩)] w fun e w' => e = .returned (.tuple #[eV En.zero, .int .i64 9]) ∧ Blk w' s 5 (soF true) ∧ Ex (fun k => k = s) w w' := by
  obtain ⟨w1, hw1⟩ : ∃ y, w.alloc (.cells #[.bool false, .int .i64 0, .int .i64 0, .int .i64 0, .int .i64 0] 48) = y := ⟨_, rfl⟩
  obtain ⟨hX1, hB1, hs1⟩ := en_new w hw1
  have hS1 := hS.of hB1 (by omega)
  have C1 := srEnded_over (br := true) (hS1.c 0 (by omega)) (hS1.c 1 (by omega))
  have k1 : w1.cell? ⟨s, 1, none⟩ = some (.bool true) := hS1.c 1 (by omega)
  have ls := hS.lt (by omega)
  have hsw : s ≠ w.heap.size := by omega
  have HP : Hid (∀ wd : World, wd.heap = w1.heap → Below w.heap.size w wd → Blk wd w.heap.size 5 eZ ∧ Blk wd s 5 (soF true)) := fun wd e hb => ⟨Blk.same hX1 (by rw [e]), hS1.same (by rw [e])⟩
  have HB1 := Lib.hid hB1
  have HW := Lib.hid hw1
  clear hw1 hX1 hB1 hS hS1 hs1
  go_enter Tryz.func11, Tryz.ntmps11
  go_upto_region 1 with fail
  rw [HW.out]
  go_wp2_with fail
  refine C1.mono ?_
  rintro e w9 ⟨rfl, h9⟩
  rw [h9]
  clear C1 h9
  go_upto_region 3 with fail
  go_quiet (fail)
  obtain ⟨wd, hwd⟩ : ∃ y, w1.drewN nq = y := ⟨_, rfl⟩
  have hbd : Below w.heap.size w wd := by rw [← hwd]; exact ⟨HB1.out.os, HB1.out.tape, HB1.out.output, HB1.out.size, HB1.out.block⟩
  have hXS := HP.out wd (by rw [← hwd]; rfl) hbd
  obtain ⟨hXd, hSd⟩ := hXS
  rw [hwd]
  obtain ⟨w2, hw2⟩ : ∃ y, put5 wd s (.pointer none) (.bool true) (.int .i64 0) (.int .i64 0) .nilFunc = y := ⟨_, rfl⟩
  have hX2 : Blk w2 w.heap.size 5 eZ := hXd.same (by rw [← hw2]; exact put5_other _ _ _ _ _ _ _ _ (fun e => hsw e.symm))
  have hS2 : Blk w2 s 5 (soF true) := by rw [← hw2]; exact put_so hSd true
  have hE2 : Ex (fun k => k = s) w w2 := by rw [← hw2]; exact put5_ex (X := fun k => k = s) (ex_of hbd) s (fun _ => rfl) _ _ _ _ _
  have HW2 := Lib.hid hw2
  have a0 := hX2.c 0 (by omega)
  have a1 := hX2.c 1 (by omega)
  have a2 := hX2.c 2 (by omega)
  have a3 := hX2.c 3 (by omega)
  have a4 := hX2.c 4 (by omega)
  have z0 := hX2.z 0
  have z1 := hX2.z 1
  have z2 := hX2.z 2
  have z3 := hX2.z 3
  have z4 := hX2.z 4
  have b0 := hSd.c 0 (by omega)
  have b1 := hSd.c 1 (by omega)
  have b2 := hSd.c 2 (by omega)
  have b3 := hSd.c 3 (by omega)
  have b4 := hSd.c 4 (by omega)
  have y0 := hSd.z 0
  have y1 := hSd.z 1
  have y2 := hSd.z 2
  have y3 := hSd.z 3
  have y4 := hSd.z 4
  have HR := Lib.hid (put5_blk hX2 (.bool false) (.int .i64 0) (.int .i64 0) (.int .i64 0) (.int .i64 0))
  have HSF := Lib.hid (hS2.same (put5_other w2 w.heap.size (.bool false) (.int .i64 0) (.int .i64 0) (.int .i64 0) (.int .i64 0) s hsw))
  have HE5 : Hid (Ex (fun k => k = s) w (put5 w2 w.heap.size (.bool false) (.int .i64 0) (.int .i64 0) (.int .i64 0) (.int .i64 0))) := put5_ex hE2 _ (fun h => absurd h (Nat.lt_irrefl _)) _ _ _ _ _
  unfold put5 at HR HSF HE5 HW2
  clear hw2 hX2 hS2 hE2 hXd hSd hwd hbd
  go_upto_region 5 with fail
  rw [HW2.out]
  go_wp2_with fail
  generalize World.setCell (World.setCell (World.setCell (World.setCell (World.setCell w2 _ _) _ _) _ _) _ _) _ _ = w5 at *
  have o0 : w5.cell? ⟨w.heap.size, 0, none⟩ = some (.bool false) := HR.out.c 0 (by omega)
  have o1 : w5.cell? ⟨w.heap.size, 1, none⟩ = some (.int .i64 0) := HR.out.c 1 (by omega)
  have o2 : w5.cell? ⟨w.heap.size, 2, none⟩ = some (.int .i64 0) := HR.out.c 2 (by omega)
  have o3 : w5.cell? ⟨w.heap.size, 3, none⟩ = some (.int .i64 0) := HR.out.c 3 (by omega)
  have o4 : w5.cell? ⟨w.heap.size, 4, none⟩ = some (.int .i64 0) := HR.out.c 4 (by omega)
  refine bodyPost_ret (v := .tuple #[.agg #[.bool false, .int .i64 0, .int .i64 0, .int .i64 0, .int .i64 0], .int .i64 9]) ?_ rfl ⟨rfl, HSF.out, HE5.out⟩
  simp [results, Tryz.results11, go_sem, o0, o1, o2, o3, o4]
end Go.Proofs.YtejfmajbggmghaaGreat
