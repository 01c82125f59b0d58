/-
  liveFrom, backwards.
-/
import Derived.Test.YtbdpecpmdglalaaGreatStFind
namespace Go.Proofs.YtbdpecpmdglalaaGreat
open Go.RowKit Go.WideShapes

set_option maxRecDepth 100000 in
set_option maxHeartbeats 4000000 in
theorem liveFrom_back {w : World} {d g gi r h : Nat} {ev : Value} {t : Tb} {mv : Value} {most : Int} {v : Nat} (hC : Dc w d g gi r h ev t mv most v) (s : Nat) (hs : s ≤ t.es.length) :
    Calls Tryz.prog 27 #[.pointer (some ⟨d, 0, none⟩), .int .i64 ((s : Int) - 1), .int .i64 (-1)] w fun e w' => LbR t.es s e ∧ Below w.heap.size w w' := by
  have hlen : t.es.length ≤ 100000 := Nat.le_trans hC.ok.few hC.ok.all
  obtain ⟨w1, hw1⟩ : ∃ y, w.alloc (.cells #[.bool false, .int .i64 0, .int .i64 0, .int .i64 0, .int .i64 0] 53) = y := ⟨_, rfl⟩
  obtain ⟨hX1, hB1, hs1⟩ := en_new w hw1
  have CP : Hid (∀ V, Below w.heap.size w V → Calls Tryz.prog 51 #[.pointer (some ⟨d, 0, none⟩)] V fun e w' => e = .returned (.int .i64 (t.es.length : Int)) ∧ w' = V) := fun V hV => dplaces_any (hC.below hV)
  have CA : Hid (∀ V n, Below w.heap.size w V → n < t.es.length → Calls Tryz.prog 52 #[.pointer (some ⟨d, 0, none⟩), .int .i64 (n : Int)] V fun e w' => e = .returned (eV (nth t.es n)) ∧ Below V.heap.size V w') := fun V n hV hn => dplace_any (hC.below hV) n hn
  have HW := Lib.hid hw1
  have HX1 : Hid (Blk w1 w.heap.size 5 eZ) := hX1
  have HB1 := Lib.hid hB1
  clear hw1 hX1 hB1 hC
  go_enter Tryz.func27, Tryz.ntmps27
  go_upto_region 1 with fail
  rw [HW.out]
  go_loopw [1, 8] (fun iv _ wr => ∃ k : Nat, k ≤ s ∧ iv = .int .i64 ((k : Int) - 1) ∧ Hid (∀ q, k ≤ q → q < s → (nth t.es q).live = false) ∧ Below w.heap.size w wr ∧ Hid (Blk wr w.heap.size 5 eZ)) (fun iv _ _ => (intOf iv + 1).toNat)
  case atStart => exact ⟨s, Nat.le_refl _, rfl, (fun q h1 h2 => by omega), HB1.out, HX1⟩
  case round =>
    obtain ⟨k', hsk', rfl, HD, hB, HX⟩ := hrel
    have C1 := CP.out wr hB
    by_cases hk0 : k' ≠ 0
    · obtain ⟨k, rfl⟩ : ∃ k, k' = k + 1 := ⟨k' - 1, by omega⟩
      have ek : (((k + 1 : Nat) : Int) - 1) = (k : Int) := by omega
      rw [ek]
      clear ek hk0
      have hsk : k < s := by omega
      have hlt : k < t.es.length := by omega
      have t0 : (0 : Int) ≤ (k : Int) := by omega
      have t1 : (k : Int) < (t.es.length : Int) := by omega
      have C2 := CA.out wr k hB hlt
      have e1 : IntKind.i64.wrap ((k : Int) + -1) = (k : Int) - 1 := by rw [i64_small (by omega) (by omega)]; omega
      obtain ⟨en, hen⟩ : ∃ en, nth t.es k = en := ⟨_, rfl⟩
      rw [hen] at C2
      have HEN := Lib.hid hen
      clear hen
      obtain ⟨x0, x1, x2, x3, x4⟩ := en
      unfold eV at C2
      simp only at C2
      go_wp2_with fail
      refine C1.mono ?_
      rintro e w2 ⟨rfl, rfl⟩
      clear C1
      go_wp2_with fail
      refine C2.mono ?_
      rintro e w3 ⟨rfl, hB3⟩
      clear C2
      obtain ⟨w4, hw4⟩ : ∃ y, w3.alloc (.cells #[.bool x0, .int .i64 x1, .int .i64 x2, .int .i64 x3, .int .i64 x4] 53) = y := ⟨_, rfl⟩
      have hB4 : Below w3.heap.size w3 w4 := by rw [← hw4]; exact (Below.refl _ w3).alloc (Nat.le_refl _) _
      have hX4 : Blk w4 w3.heap.size 5 (fun j => #[Value.bool x0, .int .i64 x1, .int .i64 x2, .int .i64 x3, .int .i64 x4].getD j .nilFunc) := by rw [← hw4]; exact Blk.new w3 _ _
      have hB34 := hB3.trans (hB4.mono hB3.size)
      have hBB := hB.trans (hB34.mono hB.size)
      have hXX := HX.out.of hB34 (by omega)
      have HW4 := Lib.hid hw4
      have p0 : w4.cell? ⟨w3.heap.size, 0, none⟩ = some (.bool x0) := hX4.c 0 (by omega)
      have p1 : w4.cell? ⟨w3.heap.size, 1, none⟩ = some (.int .i64 x1) := hX4.c 1 (by omega)
      have p2 : w4.cell? ⟨w3.heap.size, 2, none⟩ = some (.int .i64 x2) := hX4.c 2 (by omega)
      have p3 : w4.cell? ⟨w3.heap.size, 3, none⟩ = some (.int .i64 x3) := hX4.c 3 (by omega)
      have p4 : w4.cell? ⟨w3.heap.size, 4, none⟩ = some (.int .i64 x4) := hX4.c 4 (by omega)
      clear hw4 hX4 hB4
      cases x0 with
      | false =>
        have HN : Hid (∀ q, k ≤ q → q < s → (nth t.es q).live = false) := fun q h1 h2 => by
          rcases Nat.lt_or_ge k q with x | x
          · exact HD.out q x h2
          · rw [show q = k by omega, HEN.out]
        go_upto_region 4 with fail
        rw [HW4.out]
        go_wp2_with fail
        go_roundw
        case rel => exact ⟨k, by omega, rfl, HN, hBB, hXX⟩
        case measure => first | (simp [intOf]; done) | (simp [intOf]; omega)
      | true =>
        have HR := Lib.hid (put5_blk hXX (.bool true) (.int .i64 x1) (.int .i64 x2) (.int .i64 x3) (.int .i64 x4))
        have HBB := Lib.hid (hBB.trans (put5_below (B := w.heap.size) (w := w4) w.heap.size (Nat.le_refl _) (.bool true) (.int .i64 x1) (.int .i64 x2) (.int .i64 x3) (.int .i64 x4)))
        have a0 := hXX.c 0 (by omega)
        have a1 := hXX.c 1 (by omega)
        have a2 := hXX.c 2 (by omega)
        have a3 := hXX.c 3 (by omega)
        have a4 := hXX.c 4 (by omega)
        have z0 := hXX.z 0
        have z1 := hXX.z 1
        have z2 := hXX.z 2
        have z3 := hXX.z 3
        have z4 := hXX.z 4
        unfold put5 at HR HBB
        have HF : Hid (LbR t.es s (.returned (.tuple #[.agg #[.bool true, .int .i64 x1, .int .i64 x2, .int .i64 x3, .int .i64 x4], .bool true]))) := .inl ⟨k, hsk, by rw [HEN.out], (fun q h1 h2 => HD.out q h1 h2), by rw [HEN.out]; rfl⟩
        clear hXX hBB
        go_upto_region 4 with fail
        rw [HW4.out]
        go_wp2_with fail
        generalize World.setCell (World.setCell (World.setCell (World.setCell (World.setCell w4 _ _) _ _) _ _) _ _) _ _ = w5 at *
        have o0 : w5.cell? ⟨w.heap.size, 0, none⟩ = some (.bool true) := HR.out.c 0 (by omega)
        have o1 : w5.cell? ⟨w.heap.size, 1, none⟩ = some (.int .i64 x1) := HR.out.c 1 (by omega)
        have o2 : w5.cell? ⟨w.heap.size, 2, none⟩ = some (.int .i64 x2) := HR.out.c 2 (by omega)
        have o3 : w5.cell? ⟨w.heap.size, 3, none⟩ = some (.int .i64 x3) := HR.out.c 3 (by omega)
        have o4 : w5.cell? ⟨w.heap.size, 4, none⟩ = some (.int .i64 x4) := HR.out.c 4 (by omega)
        refine bodyPost_ret (v := .tuple #[.agg #[.bool true, .int .i64 x1, .int .i64 x2, .int .i64 x3, .int .i64 x4], .bool true]) ?_ rfl ⟨HF.out, HBB.out⟩
        simp [results, Tryz.results27, go_sem, o0, o1, o2, o3, o4]
    · obtain rfl : k' = 0 := by omega
      have ek : (((0 : Nat) : Int) - 1) = -1 := by omega
      rw [ek]
      have hXX := HX.out
      have HR := Lib.hid (put5_blk hXX (.bool false) (.int .i64 0) (.int .i64 0) (.int .i64 0) (.int .i64 0))
      have HBB := Lib.hid (hB.trans (put5_below (B := w.heap.size) (w := wr) w.heap.size (Nat.le_refl _) (.bool false) (.int .i64 0) (.int .i64 0) (.int .i64 0) (.int .i64 0)))
      have a0 := hXX.c 0 (by omega)
      have a1 := hXX.c 1 (by omega)
      have a2 := hXX.c 2 (by omega)
      have a3 := hXX.c 3 (by omega)
      have a4 := hXX.c 4 (by omega)
      have z0 := hXX.z 0
      have z1 := hXX.z 1
      have z2 := hXX.z 2
      have z3 := hXX.z 3
      have z4 := hXX.z 4
      unfold put5 at HR HBB
      have HF : Hid (LbR t.es s (.returned (.tuple #[.agg #[.bool false, .int .i64 0, .int .i64 0, .int .i64 0, .int .i64 0], .bool false]))) := .inr ⟨fun q h => HD.out q (Nat.zero_le _) h, rfl⟩
      clear hXX HX
      go_wp2_with fail
      generalize World.setCell (World.setCell (World.setCell (World.setCell (World.setCell wr _ _) _ _) _ _) _ _) _ _ = w5 at *
      have o0 : w5.cell? ⟨w.heap.size, 0, none⟩ = some (.bool false) := HR.out.c 0 (by omega)
      have o1 : w5.cell? ⟨w.heap.size, 1, none⟩ = some (.int .i64 0) := HR.out.c 1 (by omega)
      have o2 : w5.cell? ⟨w.heap.size, 2, none⟩ = some (.int .i64 0) := HR.out.c 2 (by omega)
      have o3 : w5.cell? ⟨w.heap.size, 3, none⟩ = some (.int .i64 0) := HR.out.c 3 (by omega)
      have o4 : w5.cell? ⟨w.heap.size, 4, none⟩ = some (.int .i64 0) := HR.out.c 4 (by omega)
      refine bodyPost_ret (v := .tuple #[.agg #[.bool false, .int .i64 0, .int .i64 0, .int .i64 0, .int .i64 0], .bool false]) ?_ rfl ⟨HF.out, HBB.out⟩
      simp [results, Tryz.results27, go_sem, o0, o1, o2, o3, o4]
end Go.Proofs.YtbdpecpmdglalaaGreat
