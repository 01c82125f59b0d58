/-
  The calls on a Store that is none.
-/
import Derived.Test.YtjkpailkamafcaaGreatDoorCeMem
namespace Go.Proofs.YtjkpailkamafcaaGreatDoor
open Go.RowKit Go.WideShapes

namespace Sto
theorem get_nil (w : World) (v : Int) : Calls Tryz.prog 21 #[.pointer none, .int .i64 v] w fun e w' => e = .returned .nilIface ∧ w' = w := by
  go_enter Tryz.func21, Tryz.ntmps21
  go_wp2
  go_ret
  exact ⟨rfl, rfl⟩
theorem ta_None (w : World) : (Instr.typeAssert .nilIface 82 109 true).run Tryz.prog w = .ok (.tuple #[.pointer none, .bool false]) w := by kernel_rfl
theorem ta_Bool (w : World) : (Instr.typeAssert .nilIface 82 110 true).run Tryz.prog w = .ok (.tuple #[.pointer none, .bool false]) w := by kernel_rfl
theorem ta_Int (w : World) : (Instr.typeAssert .nilIface 82 113 true).run Tryz.prog w = .ok (.tuple #[.pointer none, .bool false]) w := by kernel_rfl
theorem ta_Str (w : World) : (Instr.typeAssert .nilIface 82 84 true).run Tryz.prog w = .ok (.tuple #[.pointer none, .bool false]) w := by kernel_rfl
theorem ta_Tuple (w : World) : (Instr.typeAssert .nilIface 82 89 true).run Tryz.prog w = .ok (.tuple #[.pointer none, .bool false]) w := by kernel_rfl
theorem ta_List (w : World) : (Instr.typeAssert .nilIface 82 94 true).run Tryz.prog w = .ok (.tuple #[.pointer none, .bool false]) w := by kernel_rfl
theorem ta_Dict (w : World) : (Instr.typeAssert .nilIface 82 96 true).run Tryz.prog w = .ok (.tuple #[.pointer none, .bool false]) w := by kernel_rfl
theorem ta_Set (w : World) : (Instr.typeAssert .nilIface 82 102 true).run Tryz.prog w = .ok (.tuple #[.pointer none, .bool false]) w := by kernel_rfl
theorem ta_Func (w : World) : (Instr.typeAssert .nilIface 82 145 true).run Tryz.prog w = .ok (.tuple #[.pointer none, .bool false]) w := by kernel_rfl
theorem ta_Native (w : World) : (Instr.typeAssert .nilIface 82 118 true).run Tryz.prog w = .ok (.tuple #[.pointer none, .bool false]) w := by kernel_rfl
theorem ta_Bound (w : World) : (Instr.typeAssert .nilIface 82 146 true).run Tryz.prog w = .ok (.tuple #[.pointer none, .bool false]) w := by kernel_rfl
theorem ta_Class (w : World) : (Instr.typeAssert .nilIface 82 137 true).run Tryz.prog w = .ok (.tuple #[.pointer none, .bool false]) w := by kernel_rfl
theorem ta_Instance (w : World) : (Instr.typeAssert .nilIface 82 141 true).run Tryz.prog w = .ok (.tuple #[.pointer none, .bool false]) w := by kernel_rfl
theorem ta_View (w : World) : (Instr.typeAssert .nilIface 82 105 true).run Tryz.prog w = .ok (.tuple #[.pointer none, .bool false]) w := by kernel_rfl
theorem ta_Iter (w : World) : (Instr.typeAssert .nilIface 82 147 true).run Tryz.prog w = .ok (.tuple #[.pointer none, .bool false]) w := by kernel_rfl
theorem ta_Cell (w : World) : (Instr.typeAssert .nilIface 82 148 true).run Tryz.prog w = .ok (.tuple #[.pointer none, .bool false]) w := by kernel_rfl
set_option maxRecDepth 100000 in
theorem kindOf_nil (w : World) : Calls Tryz.prog 25 #[.nilIface] w fun e w' => e = .returned (.int .i64 0) ∧ w' = w := by
  have a_None := ta_None
  have a_Bool := ta_Bool
  have a_Int := ta_Int
  have a_Str := ta_Str
  have a_Tuple := ta_Tuple
  have a_List := ta_List
  have a_Dict := ta_Dict
  have a_Set := ta_Set
  have a_Func := ta_Func
  have a_Native := ta_Native
  have a_Bound := ta_Bound
  have a_Class := ta_Class
  have a_Instance := ta_Instance
  have a_View := ta_View
  have a_Iter := ta_Iter
  have a_Cell := ta_Cell
  go_enter Tryz.func25, Tryz.ntmps25
  go_wp2_with fail
  go_ret
  exact ⟨rfl, rfl⟩
theorem kind_nil (w : World) (v : Int) : Calls Tryz.prog 8 #[.pointer none, .int .i64 v] w fun e w' => e = .returned (.int .i64 0) ∧ w' = w := by
  have C1 := get_nil w v
  have C2 := kindOf_nil w
  go_enter Tryz.func8, Tryz.ntmps8
  go_wp2_with fail
  refine C1.mono ?_
  rintro e w' ⟨rfl, rfl⟩
  clear C1
  go_wp2_with fail
  refine C2.mono ?_
  rintro e w' ⟨rfl, rfl⟩
  clear C2
  go_wp2
  go_ret
  exact ⟨rfl, rfl⟩
theorem number_nil (w : World) (v : Int) : Calls Tryz.prog 9 #[.pointer none, .int .i64 v] w fun e w' => e = .returned (.int .i64 0) ∧ w' = w := by
  go_enter Tryz.func9, Tryz.ntmps9
  go_wp2
  go_ret
  exact ⟨rfl, rfl⟩
theorem tag_nil (w : World) (v : Int) : Calls Tryz.prog 10 #[.pointer none, .int .i64 v] w fun e w' => e = .returned (.string ⟨#[]⟩) ∧ w' = w := by
  have C1 := get_nil w v
  go_enter Tryz.func10, Tryz.ntmps10
  go_wp2_with fail
  refine C1.mono ?_
  rintro e w' ⟨rfl, rfl⟩
  clear C1
  go_wp2
  go_ret
  exact ⟨rfl, rfl⟩
set_option maxRecDepth 100000 in
theorem truth_nil (w : World) (v : Int) : Calls Tryz.prog 11 #[.pointer none, .int .i64 v] w fun e w' => e = .returned (.bool false) ∧ w' = w := by
  have C1 := get_nil w v
  have a_None := ta_None
  go_enter Tryz.func11, Tryz.ntmps11
  go_wp2_with fail
  refine C1.mono ?_
  rintro e w' ⟨rfl, rfl⟩
  clear C1
  go_wp2_with fail
  go_ret
  exact ⟨rfl, rfl⟩
theorem len_nil (w : World) (v : Int) : Calls Tryz.prog 7 #[.pointer none, .int .i64 v] w fun e w' => e = .returned (.tuple #[.int .i64 0, .int .i64 0]) ∧ w' = w := by
  go_enter Tryz.func7, Tryz.ntmps7
  go_wp2
  go_ret2
  exact ⟨rfl, rfl⟩
theorem alike_nil (w : World) (a b : Int) : Calls Tryz.prog 12 #[.pointer none, .int .i64 a, .int .i64 b] w fun e w' => e = .returned (.bool false) ∧ w' = w := by
  have C1 := get_nil w a
  go_enter Tryz.func12, Tryz.ntmps12
  go_wp2_with fail
  refine C1.mono ?_
  rintro e w' ⟨rfl, rfl⟩
  clear C1
  go_wp2
  go_ret
  exact ⟨rfl, rfl⟩
theorem is_nil (w : World) (a b : Int) : Calls Tryz.prog 13 #[.pointer none, .int .i64 a, .int .i64 b] w fun e w' => e = .returned (.bool false) ∧ w' = w := by
  have C1 := alike_nil w a b
  go_enter Tryz.func13, Tryz.ntmps13
  go_wp2_with fail
  refine C1.mono ?_
  rintro e w' ⟨rfl, rfl⟩
  clear C1
  go_wp2
  go_ret
  exact ⟨rfl, rfl⟩
theorem parts_nil (w : World) (v : Int) : Calls Tryz.prog 14 #[.pointer none, .int .i64 v] w fun e w' => e = .returned (.slice none 0 0) ∧ w' = w := by
  have C1 := get_nil w v
  go_enter Tryz.func14, Tryz.ntmps14
  go_wp2_with fail
  refine C1.mono ?_
  rintro e w' ⟨rfl, rfl⟩
  clear C1
  go_wp2
  go_ret
  exact ⟨rfl, rfl⟩
theorem live_nil (w : World) : Calls Tryz.prog 15 #[.pointer none] w fun e w' => e = .returned (.int .i64 0) ∧ w' = w := by
  go_enter Tryz.func15, Tryz.ntmps15
  go_wp2
  go_ret
  exact ⟨rfl, rfl⟩
theorem sweep_nil (w : World) (a : Option Addr) (n c : Nat) : Calls Tryz.prog 16 #[.pointer none, .slice a n c] w fun e w' => e = .returned (.int .i64 0) ∧ w' = w := by
  go_enter Tryz.func16, Tryz.ntmps16
  go_wp2
  go_ret
  exact ⟨rfl, rfl⟩
theorem build_nil (w : World) (a : Option Addr) (n c : Nat) : Calls Tryz.prog 6 #[.pointer none, .slice a n c] w fun e w' => e = .returned (.tuple #[.slice none 0 0, .int .i64 1]) ∧ w' = w := by
  go_enter Tryz.func6, Tryz.ntmps6
  go_wp2
  go_ret2
  exact ⟨rfl, rfl⟩
end Sto
end Go.Proofs.YtjkpailkamafcaaGreatDoor
