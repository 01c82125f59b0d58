/-
  Division that rounds down, of whole numbers in signs and sizes. No program, no world.
-/
import Derived.Test.YteplmnnpmekngabRBy
namespace Go.Proofs.Yteplmnnpmekngab
open Go.RowKit

/-- q is how often y goes into x, rounded down, and r what is left. -/
def IsDiv (x y q r : Int) : Prop := x = q * y + r ∧ ((0 ≤ r ∧ r < y) ∨ (y < r ∧ r ≤ 0))
theorem IsDiv.unique {x y q r q' r' : Int} (h : IsDiv x y q r) (k : IsDiv x y q' r') : q = q' ∧ r = r' := by
  obtain ⟨h1, h2⟩ := h
  obtain ⟨k1, k2⟩ := k
  have e : (q - q') * y = r' - r := by rw [Int.sub_mul]; omega
  have hq : q - q' = 0 := by
    rcases Int.lt_trichotomy (q - q') 0 with h | h | h
    · exfalso
      rcases Int.lt_or_le 0 y with hy | hy
      · have : (q - q') * y ≤ -1 * y := Int.mul_le_mul_of_nonneg_right (by omega) (by omega)
        omega
      · have : (q - q') * y ≥ -1 * y := Int.mul_le_mul_of_nonpos_right (by omega) hy
        omega
    · exact h
    · exfalso
      rcases Int.lt_or_le 0 y with hy | hy
      · have : 1 * y ≤ (q - q') * y := Int.mul_le_mul_of_nonneg_right (by omega) (by omega)
        omega
      · have : 1 * y ≥ (q - q') * y := Int.mul_le_mul_of_nonpos_right (by omega) hy
        omega
  rw [hq, Int.zero_mul] at e
  omega
theorem parts_eq {X Y Q R : Nat} (hQ : Q = X / Y) (hR : R = X % Y) : (X : Int) = (Q : Int) * Y + R := by
  have h := Nat.div_add_mod X Y
  rw [← hQ, ← hR, Nat.mul_comm] at h
  exact_mod_cast h.symm
/-- Signs that agree, or nothing left: as it comes. -/
theorem isDiv_plain {na nb : Bool} {X Y Q R : Nat} (hQ : Q = X / Y) (hR : R = X % Y) (hY : 0 < Y) (h : R = 0 ∨ na = nb) : IsDiv (zv na X) (zv nb Y) (zv (na != nb) Q) (zv na R) := by
  have e := parts_eq hQ hR
  have hlt : R < Y := by rw [hR]; exact Nat.mod_lt _ hY
  cases na <;> cases nb <;> simp only [zv, IsDiv, bne_self_eq_false, Bool.true_bne, Bool.false_bne, Bool.not_false, if_true, if_false, Bool.false_eq_true] at * <;> refine ⟨?_, ?_⟩ <;> (try simp only [Int.neg_mul, Int.mul_neg, Int.neg_neg]) <;> (try omega) <;> rcases h with h | h <;> first | omega | cases h
/-- .. and where the signs differ and something is left. -/
theorem isDiv_down {na nb : Bool} {X Y Q R : Nat} (hQ : Q = X / Y) (hR : R = X % Y) (hY : 0 < Y) (h0 : R ≠ 0) (h : na ≠ nb) : IsDiv (zv na X) (zv nb Y) (zv (na != nb) Q + -1) (zv na R + zv nb Y) := by
  have e := parts_eq hQ hR
  have hlt : R < Y := by rw [hR]; exact Nat.mod_lt _ hY
  cases na <;> cases nb <;> simp only [zv, IsDiv, bne_self_eq_false, Bool.true_bne, Bool.false_bne, Bool.not_false, if_true, if_false, Bool.false_eq_true] at * <;> first | exact absurd rfl h | (refine ⟨?_, ?_⟩ <;> (try simp only [Int.add_mul, Int.neg_mul, Int.mul_neg, Int.one_mul]) <;> omega)
theorem quot_le {X Y : Nat} (h : X % Y ≠ 0) : X / Y + 1 ≤ X := by
  rcases Nat.lt_or_ge Y 2 with h1 | h1
  · rcases Nat.le_one_iff_eq_zero_or_eq_one.1 (Nat.le_of_lt_succ h1) with rfl | rfl
    · rw [Nat.mod_zero] at h
      simp
      omega
    · simp [Nat.mod_one] at h
  · have h2 : X / Y ≤ X / 2 := Nat.div_le_div_left h1 (by omega)
    have h3 : X ≠ 0 := fun e => h (by rw [e, Nat.zero_mod])
    omega
end Go.Proofs.Yteplmnnpmekngab
