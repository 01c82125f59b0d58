/-
  Namespaces and families that are none.
-/
import Derived.Test.YtjbgbijpihpkmaaGreatSaw
import Derived.Test.YtjbgbijpihpkmaaGreatDtNil
namespace Go.Proofs.YtjbgbijpihpkmaaGreat
open Go.RowKit Go.WideShapes

/-- It is none. -/
abbrev NoS (w : World) (pv : Option Addr) : Prop := Calls Tryz.prog 27 #[.pointer pv] w fun e w' => e = .returned (.bool true) ∧ w' = w
theorem get_not {w : World} {pv : Option Addr} (C : NoS w pv) (nm : ByteArray) : Calls Tryz.prog 20 #[.pointer pv, .string nm] w fun e w' => e = .returned (.tuple #[.int .i64 0, .bool false]) ∧ w' = w := by
  go_enter Tryz.func20, Tryz.ntmps20
  go_wp2_with fail
  refine C.mono ?_
  rintro e w1 ⟨rfl, rfl⟩
  go_wp2
  exact bodyPost_ret (v := .tuple #[.int .i64 0, .bool false]) (by simp [results, Tryz.results20, go_sem]) rfl ⟨rfl, rfl⟩
theorem set_not {w : World} {pv : Option Addr} (C : NoS w pv) (nm : ByteArray) (v : Int) : Calls Tryz.prog 13 #[.pointer pv, .string nm, .int .i64 v] w fun e w' => e = .returned (.int .i64 1) ∧ w' = w := by
  go_enter Tryz.func13, Tryz.ntmps13
  go_wp2_with fail
  refine C.mono ?_
  rintro e w1 ⟨rfl, rfl⟩
  go_wp2
  go_ret
  exact ⟨rfl, rfl⟩
theorem del_not {w : World} {pv : Option Addr} (C : NoS w pv) (nm : ByteArray) : Calls Tryz.prog 15 #[.pointer pv, .string nm] w fun e w' => e = .returned (.int .i64 1) ∧ w' = w := by
  go_enter Tryz.func15, Tryz.ntmps15
  go_wp2_with fail
  refine C.mono ?_
  rintro e w1 ⟨rfl, rfl⟩
  go_wp2
  go_ret
  exact ⟨rfl, rfl⟩
theorem len_not {w : World} {pv : Option Addr} (C : NoS w pv) : Calls Tryz.prog 18 #[.pointer pv] w fun e w' => e = .returned (.int .i64 0) ∧ w' = w := by
  go_enter Tryz.func18, Tryz.ntmps18
  go_wp2_with fail
  refine C.mono ?_
  rintro e w1 ⟨rfl, rfl⟩
  go_wp2
  go_ret
  exact ⟨rfl, rfl⟩
theorem pairs_not {w : World} {pv : Option Addr} (C : NoS w pv) : Calls Tryz.prog 17 #[.pointer pv] w fun e w' => e = .returned (.slice none 0 0) ∧ w' = w := by
  go_enter Tryz.func17, Tryz.ntmps17
  go_wp2_with fail
  refine C.mono ?_
  rintro e w1 ⟨rfl, rfl⟩
  go_wp2
  go_ret
  exact ⟨rfl, rfl⟩
theorem shared_not {w : World} {pv : Option Addr} (C : NoS w pv) : Calls Tryz.prog 11 #[.pointer pv] w fun e w' => e = .returned (.bool false) ∧ w' = w := by
  go_enter Tryz.func11, Tryz.ntmps11
  go_wp2_with fail
  refine C.mono ?_
  rintro e w1 ⟨rfl, rfl⟩
  go_wp2
  go_ret
  exact ⟨rfl, rfl⟩
theorem version_nil (w : World) : Calls Tryz.prog 19 #[.pointer none] w fun e w' => e = .returned (.int .i64 0) ∧ w' = w := by
  have h1 : ∀ w, (binOp .eql 32 (.pointer none) (.pointer none)).run Tryz.prog w = .ok (.bool true) w := fun w => by kernel_rfl
  go_enter Tryz.func19, Tryz.ntmps19
  go_wp2
  go_ret
  exact ⟨rfl, rfl⟩
theorem version_zero {w : World} {s : Nat} (x2 : w.cell? ⟨s, 2, none⟩ = some (.int .u64 0)) : Calls Tryz.prog 19 #[.pointer (some ⟨s, 0, none⟩)] w fun e w' => e = .returned (.int .i64 0) ∧ w' = w := by
  have h1 := eqSp s
  go_enter Tryz.func19, Tryz.ntmps19
  go_wp2
  go_ret
  exact ⟨rfl, rfl⟩
theorem ssight_not {w : World} {pv : Option Addr} (C : ∀ W, Below w.heap.size w W → NoS W pv) : Calls Tryz.prog 71 #[.pointer pv] w fun e w' => e = .returned (siV 0 0 none 0 0 none 0 0 0 0 0) ∧ Below w.heap.size w w' := by
  have HC : Hid (∀ o, NoS (w.alloc o) pv) := fun o => C _ ((Below.refl _ w).alloc (Nat.le_refl _) _)
  clear C
  go_enter Tryz.func71, Tryz.ntmps71
  go_wp2_with fail
  refine (HC.out _).mono ?_
  rintro e w2 ⟨rfl, rfl⟩
  clear HC
  go_wp2
  refine bodyPost_ret (v := siV 0 0 none 0 0 none 0 0 0 0 0) (by simp [results, Tryz.results71, go_sem, siV]) rfl ?_
  exact ⟨rfl, by first | exact (Below.refl _ w).alloc (Nat.le_refl _) _ | exact ⟨rfl, rfl, rfl, Nat.le_refl _, fun _ _ => rfl⟩⟩
end Go.Proofs.YtjbgbijpihpkmaaGreat
