/-
  The calls on what is below 0, of any Store.
-/
import Derived.Test.YtjkpailkamafcaaGreatDoorStoNil
namespace Go.Proofs.YtjkpailkamafcaaGreatDoor
open Go.RowKit Go.WideShapes

namespace Sto
theorem taken_low (w : World) (b : Nat) {v : Int} (h : v < 0) : Calls Tryz.prog 75 #[.pointer (some ⟨b, 0, none⟩), .int .i64 v] w fun e w' => e = .returned (.bool false) ∧ w' = w := by
  have t0 : ¬ (0 : Int) ≤ v := by omega
  go_enter Tryz.func75, Tryz.ntmps75
  go_wp2
  go_ret
  exact ⟨rfl, rfl⟩
theorem sget_low (w : World) (b : Nat) {v : Int} (h : v < 0) : Calls Tryz.prog 38 #[.pointer (some ⟨b, 0, none⟩), .int .i64 v] w fun e w' => e = .returned (.tuple #[.nilIface, .bool false]) ∧ w' = w := by
  have C1 := taken_low w b h
  go_enter Tryz.func38, Tryz.ntmps38
  go_wp2_with fail
  refine C1.mono ?_
  rintro e w' ⟨rfl, rfl⟩
  clear C1
  go_wp2
  go_ret2
  exact ⟨rfl, rfl⟩
theorem get_low (w : World) (b : Nat) {v : Int} (h : v < 0) : Calls Tryz.prog 21 #[.pointer (some ⟨b, 0, none⟩), .int .i64 v] w fun e w' => e = .returned .nilIface ∧ w' = w := by
  have C1 := sget_low w b h
  go_enter Tryz.func21, Tryz.ntmps21
  go_wp2_with fail
  refine C1.mono ?_
  rintro e w' ⟨rfl, rfl⟩
  clear C1
  go_wp2
  go_ret
  exact ⟨rfl, rfl⟩
theorem kind_low (w : World) (b : Nat) {v : Int} (h : v < 0) : Calls Tryz.prog 8 #[.pointer (some ⟨b, 0, none⟩), .int .i64 v] w fun e w' => e = .returned (.int .i64 0) ∧ w' = w := by
  have C1 := get_low w b h
  have C2 := kindOf_nil w
  go_enter Tryz.func8, Tryz.ntmps8
  go_wp2_with fail
  refine C1.mono ?_
  rintro e w' ⟨rfl, rfl⟩
  clear C1
  go_wp2_with fail
  refine C2.mono ?_
  rintro e w' ⟨rfl, rfl⟩
  clear C2
  go_wp2
  go_ret
  exact ⟨rfl, rfl⟩
theorem tag_low (w : World) (b : Nat) {v : Int} (h : v < 0) : Calls Tryz.prog 10 #[.pointer (some ⟨b, 0, none⟩), .int .i64 v] w fun e w' => e = .returned (.string ⟨#[]⟩) ∧ w' = w := by
  have C1 := get_low w b h
  go_enter Tryz.func10, Tryz.ntmps10
  go_wp2_with fail
  refine C1.mono ?_
  rintro e w' ⟨rfl, rfl⟩
  clear C1
  go_wp2
  go_ret
  exact ⟨rfl, rfl⟩
set_option maxRecDepth 100000 in
theorem truth_low (w : World) (b : Nat) {v : Int} (h : v < 0) : Calls Tryz.prog 11 #[.pointer (some ⟨b, 0, none⟩), .int .i64 v] w fun e w' => e = .returned (.bool false) ∧ w' = w := by
  have C1 := get_low w b h
  have a_None := ta_None
  go_enter Tryz.func11, Tryz.ntmps11
  go_wp2_with fail
  refine C1.mono ?_
  rintro e w' ⟨rfl, rfl⟩
  clear C1
  go_wp2_with fail
  go_ret
  exact ⟨rfl, rfl⟩
theorem alike_low (w : World) (b : Nat) {v : Int} (c : Int) (h : v < 0) : Calls Tryz.prog 12 #[.pointer (some ⟨b, 0, none⟩), .int .i64 v, .int .i64 c] w fun e w' => e = .returned (.bool false) ∧ w' = w := by
  have C1 := get_low w b h
  go_enter Tryz.func12, Tryz.ntmps12
  go_wp2_with fail
  refine C1.mono ?_
  rintro e w' ⟨rfl, rfl⟩
  clear C1
  go_wp2
  go_ret
  exact ⟨rfl, rfl⟩
theorem is_low (w : World) (b : Nat) {v : Int} (c : Int) (h : v < 0) : Calls Tryz.prog 13 #[.pointer (some ⟨b, 0, none⟩), .int .i64 v, .int .i64 c] w fun e w' => e = .returned (.bool false) ∧ w' = w := by
  have C1 := alike_low w b c h
  go_enter Tryz.func13, Tryz.ntmps13
  go_wp2_with fail
  refine C1.mono ?_
  rintro e w' ⟨rfl, rfl⟩
  clear C1
  go_wp2
  go_ret
  exact ⟨rfl, rfl⟩
theorem parts_low (w : World) (b : Nat) {v : Int} (h : v < 0) : Calls Tryz.prog 14 #[.pointer (some ⟨b, 0, none⟩), .int .i64 v] w fun e w' => e = .returned (.slice none 0 0) ∧ w' = w := by
  have C1 := get_low w b h
  go_enter Tryz.func14, Tryz.ntmps14
  go_wp2_with fail
  refine C1.mono ?_
  rintro e w' ⟨rfl, rfl⟩
  clear C1
  go_wp2
  go_ret
  exact ⟨rfl, rfl⟩
end Sto
end Go.Proofs.YtjkpailkamafcaaGreatDoor
