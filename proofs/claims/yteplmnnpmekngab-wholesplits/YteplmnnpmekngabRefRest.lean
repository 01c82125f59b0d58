/-
  What Rest of the reference does.
-/
import Derived.Test.YteplmnnpmekngabRest
namespace Go.Proofs.Yteplmnnpmekngab
open Go.RowKit Go.Shelf

theorem pw_two (k : Nat) : pw k = 2 ^ (32 * k) := by
  induction k with
  | zero => rfl
  | succ k ih => rw [show 32 * (k + 1) = 32 + 32 * k by omega, Nat.pow_add, ← ih, show k + 1 = 1 + k by omega, pw_add]; rfl
theorem val_drop_get (xs : List Nat) (p : Nat) (h : p < xs.length) : val (xs.drop p) = xs[p]?.getD 0 + 4294967296 * val (xs.drop (p + 1)) := by
  rw [List.drop_eq_getElem_cons h, List.getElem?_eq_getElem h]; rfl
/-- A number's bit is its word's. -/
theorem val_bit {xs : List Nat} (ox : okw xs) (p s : Nat) (h : p < xs.length) (hs : s < 32) : val xs / 2 ^ (32 * p + s) % 2 = xs[p]?.getD 0 / 2 ^ s % 2 := by
  have h1 := val_split xs p (by omega)
  have h2 := val_lt (okw_take ox p)
  rw [List.length_take, Nat.min_eq_left (by omega)] at h2
  have e : val xs / 2 ^ (32 * p + s) = val (xs.drop p) / 2 ^ s := by
    rw [Nat.pow_add, ← Nat.div_div_eq_div_mul, ← pw_two, h1, Nat.add_mul_div_left _ _ (pw_pos p), Nat.div_eq_of_lt h2, Nat.zero_add]
  rw [e, val_drop_get xs p h]
  have e2 : (4294967296 : Nat) = 2 ^ s * 2 ^ (32 - s) := by rw [← Nat.pow_add, show s + (32 - s) = 32 by omega]
  rw [e2, Nat.mul_assoc, Nat.add_mul_div_left _ _ (Nat.two_pow_pos s)]
  have e3 : (2 : Nat) ^ (32 - s) = 2 * 2 ^ (31 - s) := by rw [show 32 - s = 1 + (31 - s) by omega, Nat.pow_add]
  rw [e3, Nat.mul_assoc, Nat.add_mul_mod_self_left]
theorem half_step (V i : Nat) : V / 2 ^ i = 2 * (V / 2 ^ (i + 1)) + V / 2 ^ i % 2 := by
  rw [Nat.pow_succ, ← Nat.div_div_eq_div_mul]; omega
theorem rest_step {V i m r b : Nat} (hr : r < m) (e : V / 2 ^ (i + 1) % m = r) (hb : V / 2 ^ i % 2 = b) : V / 2 ^ i % m = if m ≤ 2 * r + b then 2 * r + b - m else 2 * r + b := by
  have h := half_step V i
  rw [hb] at h
  have hb2 : b < 2 := by rw [← hb]; exact Nat.mod_lt _ (by decide)
  have e2 : (2 * (V / 2 ^ (i + 1)) + b) % m = (2 * r + b) % m := by
    rw [← e, Nat.add_mod (2 * (V / 2 ^ (i + 1) % m)), Nat.mul_mod 2 (V / 2 ^ (i + 1) % m), Nat.mod_mod, ← Nat.mul_mod, ← Nat.add_mod]
  rw [h, e2]
  split
  · rw [Nat.mod_eq_sub_mod (by omega), Nat.mod_eq_of_lt (by omega)]
  · exact Nat.mod_eq_of_lt (by omega)

theorem and_one_u32 (x : Int) (h0 : 0 ≤ x) (h1 : x < 4294967296) : bits BinOp.and IntKind.u32 x 1 = x % 2 := by
  have h := bits_mask .u32 32 (by decide) (fun n h0 h1 => by rw [IntKind.wrap_u32]; omega) 1 (by decide) x h0 (by omega)
  simpa using h

end Go.Proofs.Yteplmnnpmekngab
