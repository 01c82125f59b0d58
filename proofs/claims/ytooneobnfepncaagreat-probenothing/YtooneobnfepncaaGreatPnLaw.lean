/-
  ProbeNothing: its walk.
-/
import Derived.Test.YtooneobnfepncaaGreatPnLaw0
import Derived.Test.YtooneobnfepncaaGreatPnOpen
namespace Go.Proofs.YtooneobnfepncaaGreat
open Go.RowKit Go.WideShapes

theorem eqMs (x : Nat) (w : World) : (binOp .eql 54 (.pointer (some ⟨x, 0, none⟩)) (.pointer none)).run Tryz.prog w = .ok (.bool false) w := by kernel_rfl
set_option maxRecDepth 100000 in
set_option maxHeartbeats 4000000 in
theorem pnothing_walk (a0 : Option Addr) (n0 c0 : Nat) (qq : Nat → (Nat → Int) × Bool) (w : World) (h0 : S8 w a0 n0 c0 qq) :
    Calls Tryz.prog 5 #[.slice a0 n0 c0] w fun e w' => e = .returned (.bool true) ∧ Below w.heap.size w w' := by
  by_cases hb : n0 ≤ 300
  · have t0 : (n0 : Int) ≤ 300 := by omega
    obtain ⟨hc, b, off, hp, hcell⟩ := h0
    have HP := Lib.hid hp
    have HC := Lib.hid hcell
    obtain ⟨wz, hwz⟩ : ∃ y, w.alloc (.cells #[.pointer none, .int .i64 0, .int .u64 0] 58) = y := ⟨_, rfl⟩
    have hZ0 : ZI w wz w.heap.size := by
      rw [← hwz]
      refine ⟨(Below.refl _ w).alloc (Nat.le_refl _) _, Nat.le_refl _, by simp, .inl ((Blk.new w _ _).congr fun j hj => ?_)⟩
      have : j = 0 ∨ j = 1 ∨ j = 2 := by simp at hj; omega
      rcases this with rfl | rfl | rfl <;> rfl
    have HZ0 := Lib.hid hZ0
    have HWZ := Lib.hid hwz
    clear hp hcell hZ0 hwz
    go_enter Tryz.func5, Tryz.ntmps5
    go_upto_region 6 with fail
    rw [HWZ.out]
    clear HWZ
    go_wp2_with fail
    go_loopw [6, 7, 8, 9, 10, 11, 12, 13] (fun v6 _ _ _ _ _ _ _ wr => ∃ i : Nat, i ≤ n0 ∧ v6 = .int .i64 (i : Int) ∧ ZI w wr w.heap.size) (fun v6 _ _ _ _ _ _ _ _ => n0 - (intOf v6).toNat)
    case atStart => exact ⟨0, Nat.zero_le _, rfl, HZ0.out⟩
    case round =>
      clear HZ0
      obtain ⟨i, hi, rfl, hZ⟩ := hrel
      by_cases hin : i < n0
      · have ti : (i : Int) < (n0 : Int) := by omega
        have ti0 : (0 : Int) ≤ (i : Int) := by omega
        have ei : IntKind.i64.wrap ((i : Int) + 1) = ((i + 1 : Nat) : Int) := by rw [i64_small (by omega) (by omega)]; omega
        obtain ⟨rfl, hbl⟩ := HP.out (by omega)
        have hB0 := hZ.1
        have q : ∀ k, k < 7 → wr.cell? ⟨b, off + i * 8 + k, none⟩ = some (.int .i64 ((qq i).1 k)) := fun k hk => by
          rw [Nat.add_assoc]
          exact (hB0.cell (p := ⟨b, off + (i * 8 + k), none⟩) hbl).trans ((HC.out i hin).1 k hk)
        have q0 := q 0 (by omega)
        have q1 := q 1 (by omega)
        have q2 := q 2 (by omega)
        have q3 := q 3 (by omega)
        have q4 := q 4 (by omega)
        have q5 := q 5 (by omega)
        have q6 := q 6 (by omega)
        have q7 : wr.cell? ⟨b, off + i * 8 + 7, none⟩ = some (.bool (qq i).2) := by
          rw [Nat.add_assoc]
          exact (hB0.cell (p := ⟨b, off + (i * 8 + 7), none⟩) hbl).trans (HC.out i hin).2
        rw [Nat.add_zero] at q0
        generalize (qq i).1 0 = g0 at *
        generalize (qq i).1 1 = g1 at *
        generalize (qq i).1 2 = g2 at *
        generalize (qq i).1 3 = g3 at *
        generalize (qq i).1 4 = g4 at *
        generalize (qq i).1 5 = g5 at *
        generalize (qq i).1 6 = g6 at *
        generalize (qq i).2 = g7 at *
        obtain ⟨w1, hw1⟩ : ∃ y, wr.alloc (.cells #[.int .i64 g0, .int .i64 g1, .int .i64 g2, .int .i64 g3, .int .i64 g4, .int .i64 g5, .int .i64 g6, .bool g7] 60) = y := ⟨_, rfl⟩
        have hb1 : Below wr.heap.size wr w1 := by rw [← hw1]; exact (Below.refl _ wr).alloc (Nat.le_refl _) _
        have hs1 : w1.heap.size = wr.heap.size + 1 := by rw [← hw1]; simp
        have HA : Hid (∀ V : World, V.heap[wr.heap.size]? = w1.heap[wr.heap.size]? → V.cell? ⟨wr.heap.size, 1, none⟩ = some (.int .i64 g1) ∧ V.cell? ⟨wr.heap.size, 2, none⟩ = some (.int .i64 g2) ∧ V.cell? ⟨wr.heap.size, 3, none⟩ = some (.int .i64 g3) ∧ V.cell? ⟨wr.heap.size, 4, none⟩ = some (.int .i64 g4) ∧ V.cell? ⟨wr.heap.size, 7, none⟩ = some (.bool g7)) := fun V hV => by
          have h : ∀ k, w1.cell? ⟨wr.heap.size, k, none⟩ = (#[Value.int .i64 g0, .int .i64 g1, .int .i64 g2, .int .i64 g3, .int .i64 g4, .int .i64 g5, .int .i64 g6, .bool g7])[k]? := fun k => by rw [← hw1, World.cell?_alloc_at _ _ _ _ rfl]
          exact ⟨(World.cell?_of_block (a := ⟨wr.heap.size, 1, none⟩) hV).trans (h 1), (World.cell?_of_block (a := ⟨wr.heap.size, 2, none⟩) hV).trans (h 2), (World.cell?_of_block (a := ⟨wr.heap.size, 3, none⟩) hV).trans (h 3), (World.cell?_of_block (a := ⟨wr.heap.size, 4, none⟩) hV).trans (h 4), (World.cell?_of_block (a := ⟨wr.heap.size, 7, none⟩) hV).trans (h 7)⟩
        have HB1 := Lib.hid hb1
        have HW1 := Lib.hid hw1
        have HZ := Lib.hid hZ
        clear hw1 hb1 hZ hB0 q
        go_upto_region 10 with fail
        rw [HW1.out]
        clear q0 q1 q2 q3 q4 q5 q6 q7 HW1
        have C1 := pclear_nil w1
        go_wp2_with fail
        refine C1.mono ?_
        rintro e y1 ⟨rfl, h⟩
        rw [h]
        clear C1 h

        have C2 := first_nil w1
        unfold eZv at C2
        go_wp2_with fail
        refine C2.mono ?_
        rintro e z2 ⟨rfl, hb2⟩
        clear C2
        obtain ⟨w3, hw3⟩ : ∃ y, z2.alloc (.cells #[.bool false, .int .i64 0, .int .i64 0, .int .i64 0, .int .i64 0] 62) = y := ⟨_, rfl⟩
        have hb3 : Below z2.heap.size z2 w3 := by rw [← hw3]; exact (Below.refl _ z2).alloc (Nat.le_refl _) _
        have hX3 : Blk w3 z2.heap.size 5 eZ := by rw [← hw3]; exact eZ_new z2 _
        have HB3 : Hid (Below w1.heap.size w1 w3) := hb2.trans (hb3.mono hb2.size)
        have HX3 := Lib.hid hX3
        have HW3 := Lib.hid hw3
        clear hw3 hb3 hX3 hb2
        go_upto_region 12 with fail
        rw [HW3.out]
        clear HW3
        have C2 := last_nil w3
        unfold eZv at C2
        go_wp2_with fail
        refine C2.mono ?_
        rintro e z4 ⟨rfl, hb4⟩
        clear C2
        obtain ⟨w5, hw5⟩ : ∃ y, z4.alloc (.cells #[.bool false, .int .i64 0, .int .i64 0, .int .i64 0, .int .i64 0] 62) = y := ⟨_, rfl⟩
        have hb5 : Below z4.heap.size z4 w5 := by rw [← hw5]; exact (Below.refl _ z4).alloc (Nat.le_refl _) _
        have hX5 : Blk w5 z4.heap.size 5 eZ := by rw [← hw5]; exact eZ_new z4 _
        have hb35 : Below w3.heap.size w3 w5 := hb4.trans (hb5.mono hb4.size)
        have HB5 : Hid (Below w1.heap.size w1 w5) := HB3.out.trans (hb35.mono HB3.out.size)
        have HX35 : Hid (Blk w5 z2.heap.size 5 eZ) := HX3.out.of hb35 (by omega)
        have HX5 := Lib.hid hX5
        have HW5 := Lib.hid hw5
        clear hw5 hb5 hX5 hb4 hb35 HX3 HB3
        go_upto_region 13 with fail
        rw [HW5.out]
        clear HW5
        obtain ⟨k1, k2, k3, k4, k7⟩ := HA.out w5 (HB5.out.block _ (by omega))
        have C2 := begin_nil g1 g2 g3 g4 w5
        have h1 := neqE
        have h2 := neqT
        go_wp2_with fail
        refine C2.mono ?_
        rintro e z6 ⟨rfl, hb6⟩
        clear C2 k1 k2 k3 k4 k7
        have HB6 : Hid (Below w1.heap.size w1 z6) := HB5.out.trans (hb6.mono HB5.out.size)
        have hE : Blk z6 z2.heap.size 5 eZ := HX35.out.of hb6 (by omega)
        have hF : Blk z6 z4.heap.size 5 eZ := HX5.out.of hb6 (by omega)
        have e0 : z6.cell? ⟨z2.heap.size, 0, none⟩ = some (.bool false) := hE.c 0 (by omega)
        have e1 : z6.cell? ⟨z2.heap.size, 1, none⟩ = some (.int .i64 0) := hE.c 1 (by omega)
        have e2 : z6.cell? ⟨z2.heap.size, 2, none⟩ = some (.int .i64 0) := hE.c 2 (by omega)
        have e3 : z6.cell? ⟨z2.heap.size, 3, none⟩ = some (.int .i64 0) := hE.c 3 (by omega)
        have e4 : z6.cell? ⟨z2.heap.size, 4, none⟩ = some (.int .i64 0) := hE.c 4 (by omega)
        have f0 : z6.cell? ⟨z4.heap.size, 0, none⟩ = some (.bool false) := hF.c 0 (by omega)
        have f1 : z6.cell? ⟨z4.heap.size, 1, none⟩ = some (.int .i64 0) := hF.c 1 (by omega)
        have f2 : z6.cell? ⟨z4.heap.size, 2, none⟩ = some (.int .i64 0) := hF.c 2 (by omega)
        have f3 : z6.cell? ⟨z4.heap.size, 3, none⟩ = some (.int .i64 0) := hF.c 3 (by omega)
        have f4 : z6.cell? ⟨z4.heap.size, 4, none⟩ = some (.int .i64 0) := hF.c 4 (by omega)
        clear hE hF HX35 HX5 hb6 HB5
        have C2 := pcopy_nil z6
        go_wp2_with fail
        refine C2.mono ?_
        rintro e y2 ⟨rfl, h⟩
        rw [h]
        clear C2 h

        have C2 := plen_nil' z6
        go_wp2_with fail
        refine C2.mono ?_
        rintro e y3 ⟨rfl, h⟩
        rw [h]
        clear C2 h

        have C2 := version_nil z6
        go_wp2_with fail
        refine C2.mono ?_
        rintro e y4 ⟨rfl, h⟩
        rw [h]
        clear C2 h

        have C2 := pairs_nil z6
        go_wp2_with fail
        refine C2.mono ?_
        rintro e z7 ⟨pa, pc, rfl, hb7⟩
        clear C2 e0 e1 e2 e3 e4 f0 f1 f2 f3 f4
        have HB7 : Hid (Below w1.heap.size w1 z7) := HB6.out.trans (hb7.mono HB6.out.size)
        clear hb7 HB6
        have C2 := psight_nil z7
        unfold siV at C2
        go_wp2_with fail
        refine C2.mono ?_
        rintro e z8 ⟨rfl, hb8⟩
        clear C2
        have HB8 : Hid (Below w1.heap.size w1 z8) := HB7.out.trans (hb8.mono HB7.out.size)
        clear hb8 HB7
        have C2 := sight8_none z8
        unfold siV at C2
        go_wp2_with fail
        refine C2.mono ?_
        rintro e z9 ⟨rfl, hb9⟩
        clear C2
        have HB9 : Hid (Below w1.heap.size w1 z9) := HB8.out.trans (hb9.mono HB8.out.size)
        clear hb9 HB8
        have C2 := step_nil z9
        unfold tuV Tu.zero at C2
        go_wp2_with fail
        refine C2.mono ?_
        rintro e z10 ⟨rfl, hb10⟩
        clear C2
        have HB10 : Hid (Below w1.heap.size w1 z10) := HB9.out.trans (hb10.mono HB9.out.size)
        clear hb10 HB9
        obtain ⟨k1, k2, k3, k4, k7⟩ := HA.out z10 (HB10.out.block _ (by omega))
        have C2 := tell_nil g7 z10
        go_wp2_with fail
        refine C2.mono ?_
        rintro e y5 ⟨rfl, h⟩
        rw [h]
        clear C2 h

        have C2 := scan_nil z10
        go_wp2_with fail
        refine C2.mono ?_
        rintro e y6 ⟨rfl, h⟩
        rw [h]
        clear C2 h

        have C2 := scans_nil z10
        go_wp2_with fail
        refine C2.mono ?_
        rintro e y7 ⟨rfl, h⟩
        rw [h]
        clear C2 h

        have hZ10 : ZI w z10 w.heap.size := (HZ.out.below HB1.out).below HB10.out
        by_cases hg : 1 ≤ g1 ∧ g1 ≤ 4
        · obtain ⟨gl, rfl⟩ : ∃ gl : Nat, g1 = (gl : Int) := ⟨g1.toNat, by omega⟩
          have C3 := begin_yes w.heap.size gl (by omega) (by omega) g2 g3 g4 z10
          go_wp2_with fail
          refine C3.mono ?_
          rintro e z11 ⟨bx, rfl, hbx, hMc, hb11⟩
          clear C3 k1 k2 k3 k4 k7
          have h3 := eqMs bx
          have hrw : wr.heap.size ≤ w1.heap.size := by omega
          have hs10 := HB10.out.size
          have hb1_11 : Below w1.heap.size w1 z11 := HB10.out.trans (hb11.mono HB10.out.size)
          have hbr : Below wr.heap.size wr z11 := HB1.out.trans (hb1_11.mono hrw)
          have C4 := zstep_any HZ.out hbr hMc (by omega)
          have hl11 := hb11.size
          have HB11 := Lib.hid hb1_11
          clear hMc hb11 hbr hb1_11 hZ10
          have hgl : gl = 1 ∨ gl = 2 ∨ gl = 3 ∨ gl = 4 := by omega
          unfold tuV at C4
          rcases hgl with rfl | rfl | rfl | rfl
          all_goals
            simp only [noU] at C4
            go_wp2_with fail
            refine C4.mono ?_
            rintro e z12 ⟨rfl, hZ12, ⟨gt, hd0, hg3⟩, hkeep⟩
            clear C4
            have hk12 := hkeep wr.heap.size (Nat.le_refl _) (by omega) (by omega)
            obtain ⟨k1, k2, k3, k4, k7⟩ := HA.out z12 (hk12.trans (HB11.out.block _ (by omega)))
            have hA12 : wr.heap.size < z12.heap.size := lt_of_cell k1
            have hD12 : w.heap.size < z12.heap.size := hZ12.2.2.1
            have hG12 : gt < z12.heap.size := lt_of_cell hg3
            have HZ12 := Lib.hid hZ12
            have k1' : ∀ o, (z12.alloc o).cell? ⟨wr.heap.size, 1, none⟩ = some (.int .i64 _) := fun o => (World.cell?_of_block (Below.heap_alloc _ _ _ hA12)).trans k1
            have HC5 : Hid (∀ o, Calls Tryz.prog 16 #[.pointer (some ⟨w.heap.size, 0, none⟩)] (z12.alloc o) fun e w' => e = .returned (.int .i64 0) ∧ w' = z12.alloc o) := fun o => plen_any ((World.cell?_of_block (Below.heap_alloc _ _ _ hD12)).trans hd0) ((World.cell?_of_block (Below.heap_alloc _ _ _ hG12)).trans hg3)
            have HZ13 : Hid (∀ o, ZI w (z12.alloc o) w.heap.size) := fun o => HZ12.out.below ((Below.refl _ z12).alloc (Nat.le_refl _) _)
            clear hZ12 hkeep hk12 k1 k2 k3 k4 k7 hd0 hg3 HZ12
            go_wp2_with fail
            refine (HC5.out _).mono ?_
            rintro e z13 ⟨rfl, h⟩
            rw [h]
            clear h HC5
            go_wp2_with fail
            go_roundw
            case rel => exact ⟨i + 1, by omega, rfl, HZ13.out _⟩
            case measure =>
              simp [intOf]
              omega
        · have C3 := begin_bad w.heap.size g1 g2 g3 g4 hg z10
          have h3 := eqMn
          go_wp2_with fail
          refine C3.mono ?_
          rintro e z11 ⟨rfl, hb11⟩
          clear C3 k1 k2 k3 k4 k7
          obtain ⟨k1, k2, k3, k4, k7⟩ := HA.out z11 ((hb11.block _ (by have := HB10.out.size; omega)).trans (HB10.out.block _ (by omega)))
          have HZ11 := Lib.hid (hZ10.below hb11)
          clear hZ10 hb11 HZ HB10 HB1 HA
          by_cases hg1 : 1 ≤ g1
          · have t1 : (g1 ≤ 4) = False := by simp; omega
            go_wp2_with fail
            go_roundw
            case rel => exact ⟨i + 1, by omega, rfl, HZ11.out⟩
            case measure =>
              simp [intOf]
              omega
          · have t1 : (1 ≤ g1) = False := by simp; omega
            go_wp2_with fail
            go_roundw
            case rel => exact ⟨i + 1, by omega, rfl, HZ11.out⟩
            case measure =>
              simp [intOf]
              omega
      · obtain rfl : i = n0 := by omega
        have tj : ((i : Int) < (i : Int)) = False := by simp
        have CA := awake8_any wr
        have HB := Lib.hid hZ.1
        clear hZ HP HC
        go_wp2_with fail
        refine CA.mono ?_
        rintro e w9 ⟨rfl, hb9⟩
        clear CA
        go_wp2
        go_ret
        exact ⟨rfl, HB.out.trans (hb9.mono HB.out.size)⟩
  · have t0 : (300 : Int) < (n0 : Int) := by omega
    have CA := awake8_any w
    clear h0
    go_enter Tryz.func5, Tryz.ntmps5
    go_wp2_with fail
    refine CA.mono ?_
    rintro e w9 ⟨rfl, hb9⟩
    clear CA
    go_wp2
    go_ret
    exact ⟨rfl, hb9⟩
end Go.Proofs.YtooneobnfepncaaGreat
