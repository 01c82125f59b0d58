/-
  Namespaces and families that are none.
-/
import Derived.Test.YtpigbnlapcndgaaGreatSaw
import Derived.Test.YtpigbnlapcndgaaGreatDtNil
namespace Go.Proofs.YtpigbnlapcndgaaGreat
open Go.RowKit Go.WideShapes

/-- It is none. -/
abbrev NoS (w : World) (pv : Option Addr) : Prop := Calls Tryz.prog 21 #[.pointer pv] w fun e w' => e = .returned (.bool true) ∧ w' = w
theorem get_not {w : World} {pv : Option Addr} (C : NoS w pv) (nm : ByteArray) : Calls Tryz.prog 17 #[.pointer pv, .string nm] w fun e w' => e = .returned (.tuple #[.int .i64 0, .bool false]) ∧ w' = w := by
  go_enter Tryz.func17, Tryz.ntmps17
  go_wp2_with fail
  refine C.mono ?_
  rintro e w1 ⟨rfl, rfl⟩
  go_wp2
  exact bodyPost_ret (v := .tuple #[.int .i64 0, .bool false]) (by simp [results, Tryz.results17, go_sem]) rfl ⟨rfl, rfl⟩
theorem set_not {w : World} {pv : Option Addr} (C : NoS w pv) (nm : ByteArray) (v : Int) : Calls Tryz.prog 10 #[.pointer pv, .string nm, .int .i64 v] w fun e w' => e = .returned (.int .i64 1) ∧ w' = w := by
  go_enter Tryz.func10, Tryz.ntmps10
  go_wp2_with fail
  refine C.mono ?_
  rintro e w1 ⟨rfl, rfl⟩
  go_wp2
  go_ret
  exact ⟨rfl, rfl⟩
theorem del_not {w : World} {pv : Option Addr} (C : NoS w pv) (nm : ByteArray) : Calls Tryz.prog 12 #[.pointer pv, .string nm] w fun e w' => e = .returned (.int .i64 1) ∧ w' = w := by
  go_enter Tryz.func12, Tryz.ntmps12
  go_wp2_with fail
  refine C.mono ?_
  rintro e w1 ⟨rfl, rfl⟩
  go_wp2
  go_ret
  exact ⟨rfl, rfl⟩
theorem len_not {w : World} {pv : Option Addr} (C : NoS w pv) : Calls Tryz.prog 15 #[.pointer pv] w fun e w' => e = .returned (.int .i64 0) ∧ w' = w := by
  go_enter Tryz.func15, Tryz.ntmps15
  go_wp2_with fail
  refine C.mono ?_
  rintro e w1 ⟨rfl, rfl⟩
  go_wp2
  go_ret
  exact ⟨rfl, rfl⟩
theorem pairs_not {w : World} {pv : Option Addr} (C : NoS w pv) : Calls Tryz.prog 14 #[.pointer pv] w fun e w' => e = .returned (.slice none 0 0) ∧ w' = w := by
  go_enter Tryz.func14, Tryz.ntmps14
  go_wp2_with fail
  refine C.mono ?_
  rintro e w1 ⟨rfl, rfl⟩
  go_wp2
  go_ret
  exact ⟨rfl, rfl⟩
theorem shared_not {w : World} {pv : Option Addr} (C : NoS w pv) : Calls Tryz.prog 8 #[.pointer pv] w fun e w' => e = .returned (.bool false) ∧ w' = w := by
  go_enter Tryz.func8, Tryz.ntmps8
  go_wp2_with fail
  refine C.mono ?_
  rintro e w1 ⟨rfl, rfl⟩
  go_wp2
  go_ret
  exact ⟨rfl, rfl⟩
theorem version_nil (w : World) : Calls Tryz.prog 16 #[.pointer none] w fun e w' => e = .returned (.int .i64 0) ∧ w' = w := by
  have h1 : ∀ w, (binOp .eql 32 (.pointer none) (.pointer none)).run Tryz.prog w = .ok (.bool true) w := fun w => by kernel_rfl
  go_enter Tryz.func16, Tryz.ntmps16
  go_wp2
  go_ret
  exact ⟨rfl, rfl⟩
theorem version_zero {w : World} {s : Nat} (x2 : w.cell? ⟨s, 2, none⟩ = some (.int .u64 0)) : Calls Tryz.prog 16 #[.pointer (some ⟨s, 0, none⟩)] w fun e w' => e = .returned (.int .i64 0) ∧ w' = w := by
  have h1 := eqSp s
  go_enter Tryz.func16, Tryz.ntmps16
  go_wp2
  go_ret
  exact ⟨rfl, rfl⟩
end Go.Proofs.YtpigbnlapcndgaaGreat
