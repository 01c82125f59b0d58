/-
  The functions of package trail and of its reference that reckon alone.
-/
import Derived.Test.YthaijfjodfgbnaaRows
import Derived.Test.YthaijfjodfgbnaaTrMath
import Derived.WalkKit
import Derived.Below
namespace Go.Proofs.Ythaijfjodfgbnaa.Tr
open Go.RowKit

/-- A table of S = 2 ^ L cells. -/
structure Sz (L S : Nat) : Prop where
  eq : 2 ^ L = S
  le : L ≤ 20
theorem Sz.pos {L S : Nat} (h : Sz L S) : 1 ≤ S := by rw [← h.eq]; exact pow2_pos L
theorem Sz.most {L S : Nat} (h : Sz L S) : S ≤ 1048576 := by
  rw [← h.eq]
  exact Nat.le_trans (Nat.pow_le_pow_right (by decide) h.le) (by decide)
theorem Sz.int {L S : Nat} (h : Sz L S) : (2 : Int) ^ L = (S : Int) := by rw [← h.eq]; push_cast; rfl
theorem Sz.u64 {L S : Nat} (h : Sz L S) : IntKind.u64.wrap ((2 : Int) ^ L) = (S : Int) := by
  have h1 := h.most
  rw [h.int, IntKind.wrap_u64]
  omega
theorem Sz.i64 {L S : Nat} (h : Sz L S) : IntKind.i64.wrap ((2 : Int) ^ L) = (S : Int) := by
  have h1 := h.most
  rw [h.int, IntKind.wrap_i64]
  omega
theorem Sz.mask {L S : Nat} (h : Sz L S) (x : Int) (h0 : 0 ≤ x) (h1 : x < 18446744073709551616) : bits BinOp.and IntKind.u64 x ((S : Int) - 1) = x % (S : Int) := by
  have h2 := bits_mask .u64 64 (by decide) (fun n h0 h1 => by rw [show (2 : Int) ^ 64 = 18446744073709551616 from rfl] at h1; rw [IntKind.wrap_u64]; omega) L (by have := h.le; omega) x h0 (by rw [show (2 : Int) ^ 64 = 18446744073709551616 from rfl]; exact h1)
  rwa [h.int] at h2
theorem isLog_any (l : Int) (w : World) : Calls Try.prog 45 #[.int .i64 l] w fun e w' => e = .returned (.bool (decide (0 ≤ l ∧ l ≤ 20))) ∧ w' = w := by
  go_enter Try.func45, Try.ntmps45
  by_cases h1 : 0 ≤ l
  · by_cases h2 : l ≤ 20
    · rw [decide_eq_true (p := 0 ≤ l ∧ l ≤ 20) ⟨h1, h2⟩]
      go_wp2
      go_ret
      exact ⟨rfl, rfl⟩
    · rw [decide_eq_false (p := 0 ≤ l ∧ l ≤ 20) (fun h => h2 h.2)]
      go_wp2
      go_ret
      exact ⟨rfl, rfl⟩
  · rw [decide_eq_false (p := 0 ≤ l ∧ l ≤ 20) (fun h => h1 h.1)]
    go_wp2
    go_ret
    exact ⟨rfl, rfl⟩
theorem isLog_yes (L : Nat) (hL : L ≤ 20) (w : World) : Calls Try.prog 45 #[.int .i64 (L : Int)] w fun e w' => e = .returned (.bool true) ∧ w' = w := by
  have := isLog_any L w
  rwa [decide_eq_true (p := 0 ≤ (L : Int) ∧ (L : Int) ≤ 20) (by omega)] at this
theorem isLog_no (l : Int) (h : ¬ (0 ≤ l ∧ l ≤ 20)) (w : World) : Calls Try.prog 45 #[.int .i64 l] w fun e w' => e = .returned (.bool false) ∧ w' = w := by
  have := isLog_any l w
  rwa [decide_eq_false h] at this
/-- The first cell of a hash. -/
def firstZ (h l : Int) : Int := if 0 ≤ l ∧ l ≤ 20 then ((uw h % 2 ^ l.toNat : Nat) : Int) else 0
theorem firstZ_yes (h : Int) {L S : Nat} (hS : Sz L S) : firstZ h (L : Int) = ((uw h % S : Nat) : Int) := by
  have := hS.le
  unfold firstZ
  rw [if_pos (by omega), Int.toNat_natCast, hS.eq]
theorem log_cases (l : Int) : (∃ L S : Nat, l = (L : Int) ∧ Sz L S) ∨ ¬ (0 ≤ l ∧ l ≤ 20) := by
  by_cases h : 0 ≤ l ∧ l ≤ 20
  · exact .inl ⟨l.toNat, 2 ^ l.toNat, by omega, rfl, by omega⟩
  · exact .inr h
theorem i64_small {x : Int} (h0 : 0 ≤ x) (h1 : x < 9223372036854775808) : IntKind.i64.wrap x = x := by rw [IntKind.wrap_i64]; omega
end Go.Proofs.Ythaijfjodfgbnaa.Tr
