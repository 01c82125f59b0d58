/-
  Words that become hashes: rotations, what stands for -1, and Number, of the code and of the reference.
-/
import Derived.Test.YtfcnljdededdjaaRSmall
namespace Go.Proofs.Ytfcnljdededdjaa
open Go.RowKit Go.Shelf

/-- A word as an int, and what stands for -1. -/
def hashed (x o : Int) : Int := if wrap64 x = -1 then o else wrap64 x

theorem rot31_any (x : Int) (w : World) :
    Calls Try.prog 35 #[.int .u64 x, .int .i64 31] w fun e w' => e = .returned (.int .u64 (bits BinOp.or IntKind.u64 (IntKind.u64.wrap (x * 2147483648)) (x / 8589934592))) ∧ w' = w := by
  have e : bits BinOp.and IntKind.u64 31 63 = 31 := by decide
  go_enter Try.func35, Try.ntmps35
  go_wp2
  go_ret
  exact ⟨rfl, rfl⟩

theorem rot60_any (x : Int) (w : World) :
    Calls Try.prog 35 #[.int .u64 x, .int .i64 (-4)] w fun e w' => e = .returned (.int .u64 (bits BinOp.or IntKind.u64 (IntKind.u64.wrap (x * 1152921504606846976)) (x / 16))) ∧ w' = w := by
  have e0 : IntKind.u64.wrap (-4) = 18446744073709551612 := by decide
  have e : bits BinOp.and IntKind.u64 18446744073709551612 63 = 60 := by decide
  have e2 : bits BinOp.and IntKind.u64 (IntKind.u64.wrap (-4)) 63 = 60 := by decide
  go_enter Try.func35, Try.ntmps35
  go_wp2
  go_ret
  exact ⟨rfl, rfl⟩

theorem plain_any (w : World) : Calls Try.prog 26 #[] w fun e w' => e = .returned (.int .i64 (-2)) ∧ w' = w := by
  go_enter Try.func26, Try.ntmps26
  go_wp2
  go_ret
  exact ⟨rfl, rfl⟩
theorem ofTuple_any (w : World) : Calls Try.prog 32 #[] w fun e w' => e = .returned (.int .i64 1546275796) ∧ w' = w := by
  go_enter Try.func32, Try.ntmps32
  go_wp2
  go_ret
  exact ⟨rfl, rfl⟩
theorem ofFrozen_any (w : World) : Calls Try.prog 34 #[] w fun e w' => e = .returned (.int .i64 590923713) ∧ w' = w := by
  go_enter Try.func34, Try.ntmps34
  go_wp2
  go_ret
  exact ⟨rfl, rfl⟩

theorem sealed_plain (x : Int) (w : World) :
    Calls Try.prog 25 #[.int .u64 x, .func (.func 26) #[] #[]] w fun e w' => e = .returned (.int .i64 (hashed x (-2))) ∧ w' = w := by
  unfold hashed
  by_cases h : wrap64 x = -1
  · rw [if_pos h]
    have h2 : (wrap64 x == -1) = true := by simpa using h
    go_enter Try.func25, Try.ntmps25
    go_wp2_with (go_at_call 26; refine (plain_any _).mono ?_; rintro e w' ⟨rfl, rfl⟩)
    go_ret
    exact ⟨rfl, rfl⟩
  · rw [if_neg h]
    have h2 : (wrap64 x == -1) = false := by simpa using h
    go_enter Try.func25, Try.ntmps25
    go_wp2_with (go_at_call 26; refine (plain_any _).mono ?_; rintro e w' ⟨rfl, rfl⟩)
    go_ret
    exact ⟨rfl, rfl⟩

theorem sealed_tuple (x : Int) (w : World) :
    Calls Try.prog 25 #[.int .u64 x, .func (.func 32) #[] #[]] w fun e w' => e = .returned (.int .i64 (hashed x 1546275796)) ∧ w' = w := by
  unfold hashed
  by_cases h : wrap64 x = -1
  · rw [if_pos h]
    have h2 : (wrap64 x == -1) = true := by simpa using h
    go_enter Try.func25, Try.ntmps25
    go_wp2_with (go_at_call 32; refine (ofTuple_any _).mono ?_; rintro e w' ⟨rfl, rfl⟩)
    go_ret
    exact ⟨rfl, rfl⟩
  · rw [if_neg h]
    have h2 : (wrap64 x == -1) = false := by simpa using h
    go_enter Try.func25, Try.ntmps25
    go_wp2_with (go_at_call 32; refine (ofTuple_any _).mono ?_; rintro e w' ⟨rfl, rfl⟩)
    go_ret
    exact ⟨rfl, rfl⟩

theorem sealed_frozen (x : Int) (w : World) :
    Calls Try.prog 25 #[.int .u64 x, .func (.func 34) #[] #[]] w fun e w' => e = .returned (.int .i64 (hashed x 590923713)) ∧ w' = w := by
  unfold hashed
  by_cases h : wrap64 x = -1
  · rw [if_pos h]
    have h2 : (wrap64 x == -1) = true := by simpa using h
    go_enter Try.func25, Try.ntmps25
    go_wp2_with (go_at_call 34; refine (ofFrozen_any _).mono ?_; rintro e w' ⟨rfl, rfl⟩)
    go_ret
    exact ⟨rfl, rfl⟩
  · rw [if_neg h]
    have h2 : (wrap64 x == -1) = false := by simpa using h
    go_enter Try.func25, Try.ntmps25
    go_wp2_with (go_at_call 34; refine (ofFrozen_any _).mono ?_; rintro e w' ⟨rfl, rfl⟩)
    go_ret
    exact ⟨rfl, rfl⟩

theorem instead_any (x o : Int) (w : World) :
    Calls Try.prog 29 #[.int .u64 x, .int .i64 o] w fun e w' => e = .returned (.int .i64 (hashed x o)) ∧ w' = w := by
  unfold hashed
  by_cases h : wrap64 x = -1
  · rw [if_pos h]
    have h2 : (wrap64 x == -1) = true := by simpa using h
    go_enter Try.func29, Try.ntmps29
    go_wp2
    go_ret
    exact ⟨rfl, rfl⟩
  · rw [if_neg h]
    have h2 : (wrap64 x == -1) = false := by simpa using h
    go_enter Try.func29, Try.ntmps29
    go_wp2
    go_ret
    exact ⟨rfl, rfl⟩
end Go.Proofs.Ytfcnljdededdjaa
