/-
  What the reference's hex and Quote do.
-/
import Derived.Test.YtgillafjccgkdaaDoorLeQuoteW
import Derived.Test.YtgillafjccgkdaaDoorLeRefAll
namespace Go.Proofs.YtgillafjccgkdaaDoor
open Go.RowKit Go.Lib

theorem make2 (w : World) : (Instr.makeSlice 25 (.int .i64 2) (.int .i64 2)).run Tryd.prog w = .ok (.slice (some ⟨w.heap.size, 0, none⟩) 2 2) (w.alloc (.cells #[.int .u8 0, .int .u8 0] 5)) := by kernel_rfl
theorem make4 (w : World) : (Instr.makeSlice 25 (.int .i64 4) (.int .i64 4)).run Tryd.prog w = .ok (.slice (some ⟨w.heap.size, 0, none⟩) 4 4) (w.alloc (.cells #[.int .u8 0, .int .u8 0, .int .u8 0, .int .u8 0] 5)) := by kernel_rfl
/-- A new row of bytes is the call's own. -/
theorem own_made (w : World) (bs : List UInt8) (h : bs.length ≤ 1000) : OwnB w.heap.size (w.alloc (.cells (Lib.byteCells bs).toArray 5)) (.slice (some ⟨w.heap.size, 0, none⟩) bs.length bs.length) bs := by
  refine ⟨by rw [Lib.byteCells_length]; omega, .inr ⟨w.heap.size, bs.length, (Lib.byteCells bs).toArray, rfl, Nat.le_refl _, heap_alloc_new w _, Nat.le_refl _, by unfold maxLen; omega, by simp [Lib.byteCells], ?_⟩⟩
  rw [List.toList_toArray, List.take_of_length_le (by rw [Lib.byteCells_length]; omega)]

set_option maxHeartbeats 8000000 in
set_option maxRecDepth 100000 in
theorem refHex2 (r : Nat) (w : World) (hr : r < 256) :
    Calls Tryd.prog 14 #[.int .i64 (r : Int), .int .i64 2] w fun e w' => e = .returned (.string ⟨(hxs 2 r).toArray⟩) ∧ Below w.heap.size w w' := by
  rw [hxs2]
  have g0 := dig_run .i64 (r % 16) (by omega)
  have g1 := dig_run .i64 (r / 16 % 16) (by omega)
  have a0 : (r : Int) % 16 = ((r % 16 : Nat) : Int) := by omega
  obtain ⟨v1, hv1⟩ : ∃ v1, r / 16 = v1 := ⟨_, rfl⟩
  have q1 : (r : Int) / 16 = (v1 : Int) := by omega
  rw [hv1] at g1 ⊢
  have a1 : (v1 : Int) % 16 = ((v1 % 16 : Nat) : Int) := by omega
  have i0 : (r : Int) ≤ 255 := by omega
  have i1 : (v1 : Int) ≤ 255 := by omega
  clear hv1
  generalize r % 16 = d0 at *
  generalize v1 % 16 = d1 at *
  have hcv := conv_bytes (own_made w [hexDig d1, hexDig d0] (by simp))
  have hcv2 : (convert 25 9 (.slice (some ⟨w.heap.size, 0, none⟩) 2 2)).run Tryd.prog (w.alloc (.cells #[.int .u8 (((hexDig d1).toNat : Nat) : Int), .int .u8 (((hexDig d0).toNat : Nat) : Int)] 5)) = .ok (.string ⟨[hexDig d1, hexDig d0].toArray⟩) (w.alloc (.cells #[.int .u8 (((hexDig d1).toNat : Nat) : Int), .int .u8 (((hexDig d0).toNat : Nat) : Int)] 5)) := hcv
  have hmk := make2
  clear hcv
  go_enter Tryd.func14, Tryd.ntmps14
  go_wp2
  refine wp_loop_rounds 3 ?_
  rw [rounds_succ]
  go_wp2
  rw [rounds_succ]
  go_wp2
  rw [rounds_succ]
  go_wp2
  go_ret
  exact ⟨rfl, (Below.refl _ _).alloc (Nat.le_refl _) _⟩

set_option maxHeartbeats 8000000 in
set_option maxRecDepth 100000 in
theorem refHex4 (r : Nat) (w : World) (hr : r < 65536) :
    Calls Tryd.prog 14 #[.int .i64 (r : Int), .int .i64 4] w fun e w' => e = .returned (.string ⟨(hxs 4 r).toArray⟩) ∧ Below w.heap.size w w' := by
  rw [hxs4]
  have g0 := dig_run .i64 (r % 16) (by omega)
  have g1 := dig_run .i64 (r / 16 % 16) (by omega)
  have g2 := dig_run .i64 (r / 16 / 16 % 16) (by omega)
  have g3 := dig_run .i64 (r / 16 / 16 / 16 % 16) (by omega)
  have a0 : (r : Int) % 16 = ((r % 16 : Nat) : Int) := by omega
  obtain ⟨v1, hv1⟩ : ∃ v1, r / 16 = v1 := ⟨_, rfl⟩
  have q1 : (r : Int) / 16 = (v1 : Int) := by omega
  rw [hv1] at g1 g2 g3 ⊢
  obtain ⟨v2, hv2⟩ : ∃ v2, v1 / 16 = v2 := ⟨_, rfl⟩
  have q2 : (v1 : Int) / 16 = (v2 : Int) := by omega
  rw [hv2] at g2 g3 ⊢
  obtain ⟨v3, hv3⟩ : ∃ v3, v2 / 16 = v3 := ⟨_, rfl⟩
  have q3 : (v2 : Int) / 16 = (v3 : Int) := by omega
  rw [hv3] at g3 ⊢
  have a1 : (v1 : Int) % 16 = ((v1 % 16 : Nat) : Int) := by omega
  have a2 : (v2 : Int) % 16 = ((v2 % 16 : Nat) : Int) := by omega
  have a3 : (v3 : Int) % 16 = ((v3 % 16 : Nat) : Int) := by omega
  have i0 : (r : Int) ≤ 65535 := by omega
  have i1 : (v1 : Int) ≤ 65535 := by omega
  have i2 : (v2 : Int) ≤ 65535 := by omega
  have i3 : (v3 : Int) ≤ 65535 := by omega
  clear hv1 hv2 hv3
  generalize r % 16 = d0 at *
  generalize v1 % 16 = d1 at *
  generalize v2 % 16 = d2 at *
  generalize v3 % 16 = d3 at *
  have hcv := conv_bytes (own_made w [hexDig d3, hexDig d2, hexDig d1, hexDig d0] (by simp))
  have hcv2 : (convert 25 9 (.slice (some ⟨w.heap.size, 0, none⟩) 4 4)).run Tryd.prog (w.alloc (.cells #[.int .u8 (((hexDig d3).toNat : Nat) : Int), .int .u8 (((hexDig d2).toNat : Nat) : Int), .int .u8 (((hexDig d1).toNat : Nat) : Int), .int .u8 (((hexDig d0).toNat : Nat) : Int)] 5)) = .ok (.string ⟨[hexDig d3, hexDig d2, hexDig d1, hexDig d0].toArray⟩) (w.alloc (.cells #[.int .u8 (((hexDig d3).toNat : Nat) : Int), .int .u8 (((hexDig d2).toNat : Nat) : Int), .int .u8 (((hexDig d1).toNat : Nat) : Int), .int .u8 (((hexDig d0).toNat : Nat) : Int)] 5)) := hcv
  have hmk := make4
  clear hcv
  go_enter Tryd.func14, Tryd.ntmps14
  go_wp2
  refine wp_loop_rounds 5 ?_
  rw [rounds_succ]
  go_wp2
  rw [rounds_succ]
  go_wp2
  rw [rounds_succ]
  go_wp2
  rw [rounds_succ]
  go_wp2
  rw [rounds_succ]
  go_wp2
  go_ret
  exact ⟨rfl, (Below.refl _ _).alloc (Nat.le_refl _) _⟩
end Go.Proofs.YtgillafjccgkdaaDoor
