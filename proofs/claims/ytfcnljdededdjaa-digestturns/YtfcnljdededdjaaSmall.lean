/-
  The reference: Of; and Small, both of them.
-/
import Derived.Test.YtfcnljdededdjaaRMade
namespace Go.Proofs.Ytfcnljdededdjaa
open Go.RowKit

/-- An Int as an int, if it is one. -/
def smallOk (z : Int) : Bool := decide (-9223372036854775808 ≤ z ∧ z ≤ 9223372036854775807)
def smallZ (z : Int) : Int := if -9223372036854775808 ≤ z ∧ z ≤ 9223372036854775807 then z else 0
theorem or_low (L A s : Nat) (hA : A % 2 ^ s = 0) (hA1 : A < 18446744073709551616) (hL : L < 2 ^ s) (hL1 : L < 18446744073709551616) : bits BinOp.or IntKind.u64 (L : Int) (A : Int) = ((A + L : Nat) : Int) := by
  have hc : bits BinOp.or IntKind.u64 (L : Int) (A : Int) = bits BinOp.or IntKind.u64 (A : Int) (L : Int) := by simp only [bits, BitVec.or_comm]
  rw [hc]
  exact or_shift A L s hA hA1 hL hL1
theorem val_bound {xs : List Nat} (o : okw xs) (t : Tr xs) : xs.length ≤ 2 ↔ val xs < 18446744073709551616 := by
  have h := len_le_iff t o 2
  rw [show pw 2 = 18446744073709551616 from rfl] at h
  exact h
theorem take_val {ys : List Nat} (o : okw ys) (k : Nat) (hk : k < ys.length) (h2 : ys.length ≤ 2) : val (ys.take (k + 1)) = ys[k]?.getD 0 * 2 ^ (32 * k) + val (ys.take k) ∧ val (ys.take k) < 2 ^ (32 * k) ∧ ys[k]?.getD 0 * 2 ^ (32 * k) < 18446744073709551616 ∧ ys[k]?.getD 0 * 2 ^ (32 * k) % 2 ^ (32 * k) = 0 := by
  have h1 := val_take_succ ys k hk
  have h3 := val_lt (okw_take o k)
  rw [List.length_take, Nat.min_eq_left (by omega), pw_two] at h3
  rw [pw_two, Nat.mul_comm] at h1
  have h4 := okw_get o k
  refine ⟨by omega, h3, ?_, Nat.mul_mod_left _ _⟩
  rcases (show k = 0 ∨ k = 1 by omega) with rfl | rfl
  · simp; omega
  · simp; omega

end Go.Proofs.Ytfcnljdededdjaa
