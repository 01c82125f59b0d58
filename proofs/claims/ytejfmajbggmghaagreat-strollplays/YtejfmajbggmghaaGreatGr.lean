/-
  New.
  Next.
-/
import Derived.Test.YtejfmajbggmghaaGreatGq
namespace Go.Proofs.YtejfmajbggmghaaGreat
open Go.RowKit Go.WideShapes

theorem neSr (s : Nat) (w : World) : (binOp .neq 42 (.pointer (some ⟨s, 0, none⟩)) (.pointer none)).run Tryz.prog w = .ok (.bool true) w := by kernel_rfl
theorem lt5 {j : Nat} (h : j < 5) : j = 0 ∨ j = 1 ∨ j = 2 ∨ j = 3 ∨ j = 4 := by omega
/-- New, of no dictionary. -/
theorem snew_nil (back : Bool) (w : World) :
    Calls Tryz.prog 9 #[.pointer none, .bool back] w fun e w' => ∃ s, e = .returned (.pointer (some ⟨s, 0, none⟩)) ∧ w.heap.size ≤ s ∧ Blk w' s 5 (soF false) ∧ Below w.heap.size w w' := by
  obtain ⟨w1, hw1⟩ : ∃ y, w.alloc (.cells #[.pointer none] 24) = y := ⟨_, rfl⟩
  have hB1 : Below w.heap.size w w1 := by rw [← hw1]; exact (Below.refl _ w).alloc (Nat.le_refl _) _
  have q1 : w1.cell? ⟨w.heap.size, 0, none⟩ = some (.pointer none) := by rw [← hw1]; exact cell_alloc_new _ _ _ _ rfl
  have hs1 : w1.heap.size = w.heap.size + 1 := by rw [← hw1]; simp
  have h1 := eqDn
  have HW := Lib.hid hw1
  clear hw1
  obtain ⟨w2, hw2⟩ : ∃ y, w1.alloc (.cells #[.pointer none, .bool false, .int .i64 0, .int .i64 0, .nilFunc] 78) = y := ⟨_, rfl⟩
  have hB2 : Below w.heap.size w w2 := by rw [← hw2]; exact hB1.alloc (by omega) _
  have hX2 : Blk w2 w1.heap.size 5 (soF false) := by
    rw [← hw2]
    refine (Blk.new w1 _ _).congr fun j hj => ?_
    rcases lt5 hj with rfl | rfl | rfl | rfl | rfl <;> rfl
  have HW2 := Lib.hid hw2
  clear hw2
  go_enter Tryz.func9, Tryz.ntmps9
  go_upto_region 1 with fail
  rw [HW.out]
  go_wp2
  rw [HW2.out]
  go_ret
  rw [hs1] at hX2
  exact ⟨_, rfl, by omega, hX2, hB2⟩
set_option maxRecDepth 100000 in
set_option maxHeartbeats 4000000 in
/-- New, of a dictionary. -/
theorem snew_any {w : World} {d g gi r h : Nat} {ev : Value} {t : Tb} {mv : Value} {most : Int} {v : Nat} (hC : Dc w d g gi r h ev t mv most v) (back : Bool) :
    Calls Tryz.prog 9 #[.pointer (some ⟨d, 0, none⟩), .bool back] w fun e w' => ∃ s b, e = .returned (.pointer (some ⟨s, 0, none⟩)) ∧ w.heap.size ≤ s ∧ w.heap.size ≤ b ∧ Sr w' s d back (t.live : Int) (if back = true then 9223372036854775807 else -1) b ∧ Below w.heap.size w w' := by
  obtain ⟨w1, hw1⟩ : ∃ y, w.alloc (.cells #[.pointer (some ⟨d, 0, none⟩)] 24) = y := ⟨_, rfl⟩
  have hB1 : Below w.heap.size w w1 := by rw [← hw1]; exact (Below.refl _ w).alloc (Nat.le_refl _) _
  have q1 : w1.cell? ⟨w.heap.size, 0, none⟩ = some (.pointer (some ⟨d, 0, none⟩)) := by rw [← hw1]; exact cell_alloc_new _ _ _ _ rfl
  have hs1 : w1.heap.size = w.heap.size + 1 := by rw [← hw1]; simp
  have h1 := eqD d
  have hC1 := hC.below hB1.drew
  have C1 : Calls Tryz.prog 22 #[.pointer (some ⟨d, 0, none⟩)] w1.drew fun e w' => e = .returned (.int .i64 (t.live : Int)) ∧ w' = w1.drew := plen_any (hC1.hd.c 0 (by omega)) (hC1.dt.hd.c 3 (by omega))
  have d1 : w1.drew.cell? ⟨w.heap.size, 0, none⟩ = some (.pointer (some ⟨d, 0, none⟩)) := q1
  have HW := Lib.hid hw1
  clear hw1 hC hC1
  generalize (t.live : Int) = tl at *
  obtain ⟨w2, hw2⟩ : ∃ y, (w1.alloc (.cells #[.pointer (some ⟨d, 0, none⟩), .bool false, .int .i64 tl, .int .i64 0, .nilFunc] 78)).drew = y := ⟨_, rfl⟩
  have hB2 : Below w.heap.size w w2 := by rw [← hw2]; exact (hB1.alloc (by omega) _).drew
  have hX2 : Blk w2 w1.heap.size 5 (fun j => #[Value.pointer (some ⟨d, 0, none⟩), .bool false, .int .i64 tl, .int .i64 0, .nilFunc].getD j .nilFunc) := by
    rw [← hw2]
    exact Blk.same (Blk.new w1 #[.pointer (some ⟨d, 0, none⟩), .bool false, .int .i64 tl, .int .i64 0, .nilFunc] 78) rfl
  have p1 : (w1.alloc (.cells #[.pointer (some ⟨d, 0, none⟩), .bool false, .int .i64 tl, .int .i64 0, .nilFunc] 78)).drew.cell? ⟨w.heap.size, 0, none⟩ = some (.pointer (some ⟨d, 0, none⟩)) := (cell_alloc_old w1 _ _ _ (by show w.heap.size < w1.heap.size; omega)).trans q1
  have q2 : w2.cell? ⟨w.heap.size, 0, none⟩ = some (.pointer (some ⟨d, 0, none⟩)) := by rw [← hw2]; exact p1
  have HW2 := Lib.hid hw2
  clear hw2
  have a3 := hX2.c 3 (by omega)
  have a4 := hX2.c 4 (by omega)
  have z3 := hX2.z 3
  have z4 := hX2.z 4
  have HF : Hid (∀ told : Int, Sr ((w2.setCell ⟨w1.heap.size, 3, none⟩ (.int .i64 told)).setCell ⟨w1.heap.size, 4, none⟩ (.func (.func (fdF back)) #[] #[.pointer (some ⟨w.heap.size, 0, none⟩)])) w1.heap.size d back tl told w.heap.size ∧ Below w.heap.size w ((w2.setCell ⟨w1.heap.size, 3, none⟩ (.int .i64 told)).setCell ⟨w1.heap.size, 4, none⟩ (.func (.func (fdF back)) #[] #[.pointer (some ⟨w.heap.size, 0, none⟩)]))) := fun told => by
    refine ⟨⟨((hX2.put 3 _).put 4 _).congr fun j hj => ?_, ?_, by omega⟩, (hB2.setCell (p := ⟨w1.heap.size, 3, none⟩) (by show w.heap.size ≤ w1.heap.size; omega) _).setCell (p := ⟨w1.heap.size, 4, none⟩) (by show w.heap.size ≤ w1.heap.size; omega) _⟩
    · rcases lt5 hj with rfl | rfl | rfl | rfl | rfl <;> rfl
    · rw [World.cell?_setCell_other _ _ _ _ (by intro he; injection he with a b; omega), World.cell?_setCell_other _ _ _ _ (by intro he; injection he with a b; omega)]
      exact q2
  have hle : w.heap.size ≤ w1.heap.size := by omega
  clear hX2 hB2 hB1 hs1
  go_enter Tryz.func9, Tryz.ntmps9
  go_upto_region 1 with fail
  rw [HW.out]
  go_wp2_with fail
  go_region_held3 (fun V => V.cell? ⟨w.heap.size, 0, none⟩ = some (.pointer (some ⟨d, 0, none⟩)))
    (first | with_reducible exact d1 | with_reducible exact q1 | with_reducible exact p1 | with_reducible exact q2 | fail)
    (first | (go_at_call 22; refine C1.mono ?_; rintro e w9 ⟨rfl, rfl⟩) | fail)
  rw [HW2.out]
  cases back with
  | true =>
    have HF1 := Lib.hid (HF.out 9223372036854775807)
    unfold fdF at HF1
    simp only [if_true] at HF1
    go_wp2
    go_ret
    exact ⟨_, rfl, hle, _, Nat.le_refl _, HF1.out⟩
  | false =>
    have HF1 := Lib.hid (HF.out (-1))
    unfold fdF at HF1
    simp only [Bool.false_eq_true, if_false] at HF1
    go_wp2
    go_ret
    exact ⟨_, rfl, hle, _, Nat.le_refl _, HF1.out⟩
end Go.Proofs.YtejfmajbggmghaaGreat
namespace Go.Proofs.YtejfmajbggmghaaGreat
open Go.RowKit Go.WideShapes

/-- Next of a walk that has broken, or whose dictionary has another size: it has broken. -/
theorem put_so {w : World} {s : Nat} {F : Nat → Value} (h : Blk w s 5 F) (br : Bool) : Blk (put5 w s (.pointer none) (.bool br) (.int .i64 0) (.int .i64 0) .nilFunc) s 5 (soF br) :=
  (put5_blk h (.pointer none) (.bool br) (.int .i64 0) (.int .i64 0) .nilFunc).congr fun j hj => by rcases lt5 hj with rfl | rfl | rfl | rfl | rfl <;> rfl
theorem put5_ex {X : Nat → Prop} {a w : World} (x : Ex X a w) (R : Nat) (h : R < a.heap.size → X R) (v0 v1 v2 v3 v4 : Value) : Ex X a (put5 w R v0 v1 v2 v3 v4) := by
  unfold put5
  exact ((((x.setCell (p := ⟨R, 0, none⟩) h _).setCell (p := ⟨R, 1, none⟩) h _).setCell (p := ⟨R, 2, none⟩) h _).setCell (p := ⟨R, 3, none⟩) h _).setCell (p := ⟨R, 4, none⟩) h _
theorem fdF_call (back : Bool) : ∀ args w, (callFunc (fdF back) args).run Tryz.prog w = .ok (.enter (fdF back) args) w := by
  cases back with
  | true => exact Tryz.call23
  | false => exact Tryz.call26
/-- What the function of a walk tells. -/
def FdR (back : Bool) (es : List En) (told : Int) (e : Ending) : Prop := if back = true then FbR es told e else FfR es told e
theorem fd_any {w : World} {d g gi r h : Nat} {ev : Value} {t : Tb} {mv : Value} {most : Int} {v : Nat} (hC : Dc w d g gi r h ev t mv most v) (hb : t.Born) (back : Bool) (bx : Nat) (k0 : w.cell? ⟨bx, 0, none⟩ = some (.pointer (some ⟨d, 0, none⟩))) (told : Int) (ht : -1 ≤ told) (ht2 : back = false → told < 9223372036854775807) :
    Calls Tryz.prog (fdF back) #[.int .i64 told, .pointer (some ⟨bx, 0, none⟩)] w fun e w' => FdR back t.es told e ∧ Below w.heap.size w w' := by
  cases back with
  | true => exact find_back hC hb bx k0 told
  | false => exact find_on hC hb bx k0 told ht (ht2 rfl)
set_option maxRecDepth 100000 in
set_option maxHeartbeats 4000000 in
theorem next_size {w : World} {d g gi r h : Nat} {ev : Value} {t : Tb} {mv : Value} {most : Int} {v : Nat} (hC : Dc w d g gi r h ev t mv most v) {s b : Nat} {back : Bool} {size told : Int} (hS : Sr w s d back size told b) (hne : (t.live : Int) ≠ size) :
    Calls Tryz.prog 11 #[.pointer (some ⟨s, 0, none⟩)] w fun e w' => e = .returned (.tuple #[eV En.zero, .int .i64 9]) ∧ Blk w' s 5 (soF true) ∧ Ex (fun k => k = s) w w' := by
  obtain ⟨w1, hw1⟩ : ∃ y, w.alloc (.cells #[.bool false, .int .i64 0, .int .i64 0, .int .i64 0, .int .i64 0] 48) = y := ⟨_, rfl⟩
  obtain ⟨hX1, hB1, hs1⟩ := en_new w hw1
  have hS1 := hS.below hB1
  have k0 : w1.cell? ⟨s, 0, none⟩ = some (.pointer (some ⟨d, 0, none⟩)) := hS1.hd.c 0 (by omega)
  have k1 : w1.cell? ⟨s, 1, none⟩ = some (.bool false) := hS1.hd.c 1 (by omega)
  have k2 : w1.cell? ⟨s, 2, none⟩ = some (.int .i64 size) := hS1.hd.c 2 (by omega)
  have d0 : w1.drew.cell? ⟨s, 0, none⟩ = some (.pointer (some ⟨d, 0, none⟩)) := k0
  have d1 : w1.drew.cell? ⟨s, 1, none⟩ = some (.bool false) := k1
  have d2 : w1.drew.cell? ⟨s, 2, none⟩ = some (.int .i64 size) := k2
  have C1 := srEnded_no k0
  have hC1 := hC.below hB1.drew
  have C2 : Calls Tryz.prog 22 #[.pointer (some ⟨d, 0, none⟩)] w1.drew fun e w' => e = .returned (.int .i64 (t.live : Int)) ∧ w' = w1.drew := plen_any (hC1.hd.c 0 (by omega)) (hC1.dt.hd.c 3 (by omega))
  have t1 : ((t.live : Int) = size) = False := by simp [hne]
  have t2 : ((t.live : Int) != size) = true := by simp [hne]
  have ls := hS.lt.1
  have hsw : s ≠ w.heap.size := by omega
  have hXd : Blk w1.drew w.heap.size 5 eZ := Blk.same hX1 rfl
  have hSd : Blk w1.drew s 5 (srF d back size told b) := hS1.hd.same rfl
  obtain ⟨w2, hw2⟩ : ∃ y, put5 w1.drew s (.pointer none) (.bool true) (.int .i64 0) (.int .i64 0) .nilFunc = y := ⟨_, rfl⟩
  have hX2 : Blk w2 w.heap.size 5 eZ := hXd.same (by rw [← hw2]; exact put5_other _ _ _ _ _ _ _ _ (fun e => hsw e.symm))
  have hS2 : Blk w2 s 5 (soF true) := by rw [← hw2]; exact put_so hSd true
  have hE2 : Ex (fun k => k = s) w w2 := by rw [← hw2]; exact put5_ex (X := fun k => k = s) (ex_of hB1.drew) s (fun _ => rfl) _ _ _ _ _
  have HW2 := Lib.hid hw2
  have a0 := hX2.c 0 (by omega)
  have a1 := hX2.c 1 (by omega)
  have a2 := hX2.c 2 (by omega)
  have a3 := hX2.c 3 (by omega)
  have a4 := hX2.c 4 (by omega)
  have z0 := hX2.z 0
  have z1 := hX2.z 1
  have z2 := hX2.z 2
  have z3 := hX2.z 3
  have z4 := hX2.z 4
  have b3 := hSd.c 3 (by omega)
  have b4 := hSd.c 4 (by omega)
  have y0 := hSd.z 0
  have y1 := hSd.z 1
  have y2 := hSd.z 2
  have y3 := hSd.z 3
  have y4 := hSd.z 4
  have HR := Lib.hid (put5_blk hX2 (.bool false) (.int .i64 0) (.int .i64 0) (.int .i64 0) (.int .i64 0))
  have HSF := Lib.hid (hS2.same (put5_other w2 w.heap.size (.bool false) (.int .i64 0) (.int .i64 0) (.int .i64 0) (.int .i64 0) s hsw))
  have HE5 : Hid (Ex (fun k => k = s) w (put5 w2 w.heap.size (.bool false) (.int .i64 0) (.int .i64 0) (.int .i64 0) (.int .i64 0))) := put5_ex hE2 _ (fun h => absurd h (Nat.lt_irrefl _)) _ _ _ _ _
  unfold put5 at HR HSF HE5 HW2
  have HW := Lib.hid hw1
  clear hw1 hw2 hX1 hB1 hX2 hS2 hE2 hC hC1 hXd hSd hS hS1 hs1
  go_enter Tryz.func11, Tryz.ntmps11
  go_upto_region 1 with fail
  rw [HW.out]
  go_wp2_with fail
  refine C1.mono ?_
  rintro e w9 ⟨rfl, h9⟩
  rw [h9]
  clear C1 h9
  go_wp2_with fail
  go_region_held3 (fun V => V.cell? ⟨s, 0, none⟩ = some (.pointer (some ⟨d, 0, none⟩)) ∧ V.cell? ⟨s, 1, none⟩ = some (.bool false) ∧ V.cell? ⟨s, 2, none⟩ = some (.int .i64 size))
    (first | with_reducible exact ⟨d0, d1, d2⟩ | with_reducible exact ⟨k0, k1, k2⟩ | fail)
    (first | (go_at_call 22; refine C2.mono ?_; rintro e w8 ⟨rfl, rfl⟩) | fail)
  clear k0 k1 k2
  generalize w1.drew = wd at *
  go_upto_region 5 with fail
  rw [HW2.out]
  go_wp2_with fail
  generalize World.setCell (World.setCell (World.setCell (World.setCell (World.setCell w2 _ _) _ _) _ _) _ _) _ _ = w5 at *
  have o0 : w5.cell? ⟨w.heap.size, 0, none⟩ = some (.bool false) := HR.out.c 0 (by omega)
  have o1 : w5.cell? ⟨w.heap.size, 1, none⟩ = some (.int .i64 0) := HR.out.c 1 (by omega)
  have o2 : w5.cell? ⟨w.heap.size, 2, none⟩ = some (.int .i64 0) := HR.out.c 2 (by omega)
  have o3 : w5.cell? ⟨w.heap.size, 3, none⟩ = some (.int .i64 0) := HR.out.c 3 (by omega)
  have o4 : w5.cell? ⟨w.heap.size, 4, none⟩ = some (.int .i64 0) := HR.out.c 4 (by omega)
  refine bodyPost_ret (v := .tuple #[.agg #[.bool false, .int .i64 0, .int .i64 0, .int .i64 0, .int .i64 0], .int .i64 9]) ?_ rfl ⟨rfl, HSF.out, HE5.out⟩
  simp [results, Tryz.results11, go_sem, o0, o1, o2, o3, o4]
end Go.Proofs.YtejfmajbggmghaaGreat
