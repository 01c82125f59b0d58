/-
  A new Store; Len of what is below 0.
-/
import Derived.Test.YtjkpailkamafcaaGreatDoorStoLow
import Derived.Test.YtjkpailkamafcaaGreatDoorSlMem
import Derived.Deep.Cut
namespace Go.Proofs.YtjkpailkamafcaaGreatDoor
open Go.RowKit Go.WideShapes

namespace Sto
set_option maxRecDepth 100000 in
theorem len_low (w : World) (b : Nat) {v : Int} (h : v < 0) : Calls Tryz.prog 7 #[.pointer (some ⟨b, 0, none⟩), .int .i64 v] w fun e w' => e = .returned (.tuple #[.int .i64 0, .int .i64 12]) ∧ w' = w := by
  have C1 := get_low w b h
  have a_Str := ta_Str
  have a_Tuple := ta_Tuple
  have a_List := ta_List
  have a_Dict := ta_Dict
  have a_Set := ta_Set
  have a_View := ta_View
  go_enter Tryz.func7, Tryz.ntmps7
  go_wp2_with fail
  refine C1.mono ?_
  rintro e w' ⟨rfl, rfl⟩
  clear C1
  go_wp2_with fail
  go_ret2
  exact ⟨rfl, rfl⟩
theorem within (w : World) {n m : Int} (h0 : 0 ≤ n) (h1 : n ≤ m) : Calls Tryz.prog 33 #[.int .i64 n, .int .i64 m] w fun e w' => e = .returned (.bool true) ∧ w' = w := by
  go_enter Tryz.func33, Tryz.ntmps33
  go_wp2
  go_ret
  exact ⟨rfl, rfl⟩
theorem new_any (w : World) (p h : Int) (pm : Option Addr) (hp : 0 ≤ p ∧ p ≤ 65536) (hh : 0 ≤ h ∧ h ≤ 256) : Calls Tryz.prog 17 #[.agg #[.int .i64 0, .int .i64 p, .int .i64 h, .slice none 0 0, .slice none 0 0], .pointer pm] w fun e w' => e = .returned (.tuple #[.pointer (some ⟨w.heap.size + 1, 0, none⟩), .int .i64 0]) ∧ w' = (w.alloc (.cells #[.int .i64 0, .int .i64 p, .int .i64 h, .slice none 0 0, .slice none 0 0] 43)).alloc (.cells #[.slice none 0 0, .slice none 0 0, .map none, .int .i64 0, .slice none 0 0, .int .i64 p, .int .i64 h, .pointer pm] 77) := by
  obtain ⟨w1, hw1⟩ : ∃ V, w.alloc (.cells #[.int .i64 0, .int .i64 p, .int .i64 h, .slice none 0 0, .slice none 0 0] 43) = V := ⟨_, rfl⟩
  have hs1 : w1.heap.size = w.heap.size + 1 := by rw [← hw1]; simp
  have hB1 : Blk w1 w.heap.size 5 (fun j => #[Value.int .i64 0, .int .i64 p, .int .i64 h, .slice none 0 0, .slice none 0 0].getD j .nilFunc) := by rw [← hw1]; exact Blk.new w _ _
  have x0 : w1.cell? ⟨w.heap.size, 0, none⟩ = some (.int .i64 0) := hB1.c 0 (by omega)
  have x1 : w1.cell? ⟨w.heap.size, 1, none⟩ = some (.int .i64 p) := hB1.c 1 (by omega)
  have x2 : w1.cell? ⟨w.heap.size, 2, none⟩ = some (.int .i64 h) := hB1.c 2 (by omega)
  have C1 := within w1 (n := 0) (m := 100000) (by decide) (by decide)
  have C2 := within w1 hp.1 hp.2
  have C3 := within w1 hh.1 hh.2
  have HW1 := Lib.hid hw1
  have HS1 := Lib.hid hs1
  clear hB1 hw1 hs1
  go_enter Tryz.func17, Tryz.ntmps17
  go_upto_region 1 with fail
  rw [HW1.out]
  go_wp2_with fail
  refine C1.mono ?_
  rintro e v9 ⟨rfl, rfl⟩
  clear C1
  go_wp2_with fail
  refine C2.mono ?_
  rintro e v9 ⟨rfl, rfl⟩
  clear C2
  go_wp2_with fail
  refine C3.mono ?_
  rintro e v9 ⟨rfl, rfl⟩
  clear C3
  go_wp2_with fail
  go_ret2
  exact ⟨by rw [HS1.out]; rfl, by rw [HW1.out]⟩
end Sto
end Go.Proofs.YtjkpailkamafcaaGreatDoor
