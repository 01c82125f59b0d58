/-
  Long division: what a shifted divisor is, what one digit leaves, and the whole.
-/
import Derived.Test.YteplmnnpmekngabShDn
import Derived.Test.YteplmnnpmekngabGuess
import Derived.Test.YteplmnnpmekngabTake
import Derived.Test.YteplmnnpmekngabDivArith
namespace Go.Proofs.Yteplmnnpmekngab
open Go.RowKit

theorem val_concat (xs : List Nat) (x : Nat) : val (xs ++ [x]) = val xs + pw xs.length * x := by
  rw [val_append]; simp [val]
theorem pw_one : pw 1 = 4294967296 := rfl
theorem pw_succ (n : Nat) : pw (n + 1) = 4294967296 * pw n := by rw [Nat.add_comm, pw_add, pw_one]
/-- A number's two highest words. -/
theorem val_top2 (xs : List Nat) (m : Nat) (h : xs.length = m + 2) : val xs = (xs[m + 1]?.getD 0 * 4294967296 + xs[m]?.getD 0) * pw m + val (xs.take m) := by
  have e1 := val_take_succ xs (m + 1) (by omega)
  have e2 := val_take_succ xs m (by omega)
  rw [List.take_of_length_le (show xs.length ≤ m + 1 + 1 by omega)] at e1
  rw [e1, e2, pw_succ]
  generalize xs[m + 1]?.getD 0 = a
  generalize xs[m]?.getD 0 = b
  generalize pw m = M
  generalize val (xs.take m) = t
  rw [Nat.add_mul, show 4294967296 * M * a = a * 4294967296 * M by rw [Nat.mul_comm _ a, ← Nat.mul_assoc], Nat.mul_comm M b]
  omega
theorem val_top3 (xs : List Nat) (m : Nat) (h : xs.length = m + 3) : val xs = ((xs[m + 2]?.getD 0 * 4294967296 + xs[m + 1]?.getD 0) * 4294967296 + xs[m]?.getD 0) * pw m + val (xs.take m) := by
  have e1 := val_take_succ xs (m + 2) (by omega)
  rw [List.take_of_length_le (show xs.length ≤ m + 2 + 1 by omega)] at e1
  have e2 := val_top2 (xs.take (m + 2)) m (by simp; omega)
  rw [List.getElem?_take_of_lt (by omega), List.getElem?_take_of_lt (by omega), List.take_take, Nat.min_eq_left (by omega)] at e2
  rw [e1, e2, pw_succ, pw_succ]
  generalize xs[m + 2]?.getD 0 = a
  generalize xs[m + 1]?.getD 0 = b
  generalize xs[m]?.getD 0 = c
  generalize pw m = M
  generalize val (xs.take m) = t
  rw [Nat.add_mul ((a * 4294967296 + b) * 4294967296), Nat.add_mul (a * 4294967296), Nat.add_mul (a * 4294967296 * 4294967296), Nat.add_mul (b * 4294967296)]
  rw [show 4294967296 * (4294967296 * M) * a = a * 4294967296 * 4294967296 * M by rw [Nat.mul_comm _ a, ← Nat.mul_assoc, ← Nat.mul_assoc]]
  omega

/-- The divisor, shifted until its highest bit is set. -/
theorem shifted_norm {ys Q : List Nat} {n s : Nat} (hn : ys.length = n + 1) (oy : okw ys) (hs : s ≤ 31) (h1 : 2147483648 ≤ ys[n]?.getD 0 * 2 ^ s) (h2 : ys[n]?.getD 0 * 2 ^ s < 4294967296) (hQ : Q.length = n + 2) (oQ : okw Q) (hv : val Q = val ys * 2 ^ s) :
    val (Q.take (n + 1)) = val ys * 2 ^ s ∧ 2147483648 ≤ Q[n]?.getD 0 := by
  have hp : 0 < 2 ^ s := Nat.two_pow_pos s
  have e : (4294967296 : Nat) = 2 ^ s * 2 ^ (32 - s) := by rw [← Nat.pow_add, show s + (32 - s) = 32 by omega]
  have ey := val_take_succ ys n (by omega)
  rw [List.take_of_length_le (show ys.length ≤ n + 1 by omega)] at ey
  have hl := val_lt (okw_take oy n)
  rw [List.length_take, Nat.min_eq_left (by omega)] at hl
  obtain ⟨t, ht⟩ : ∃ t, ys[n]?.getD 0 = t := ⟨_, rfl⟩
  rw [ht] at h1 h2 ey
  have h3 : (t + 1) * 2 ^ s ≤ 4294967296 := by
    rw [e] at h2 ⊢
    have : t < 2 ^ (32 - s) := by
      rw [Nat.mul_comm] at h2
      exact (Nat.mul_lt_mul_left hp).1 h2
    rw [Nat.mul_comm]
    exact Nat.mul_le_mul_left _ this
  have hup : val ys < pw n * (t + 1) := by rw [ey, Nat.mul_add]; omega
  have hlt : val ys * 2 ^ s < pw (n + 1) := by
    rw [pw_succ, Nat.mul_comm 4294967296]
    refine Nat.lt_of_lt_of_le ((Nat.mul_lt_mul_right hp).2 hup) ?_
    rw [Nat.mul_assoc]
    exact Nat.mul_le_mul_left _ h3
  have hlo : pw n * 2147483648 ≤ val ys * 2 ^ s := by
    rw [ey, Nat.add_mul, Nat.mul_assoc]
    exact Nat.le_trans (Nat.mul_le_mul_left _ h1) (Nat.le_add_left _ _)
  have eQ := val_take_succ Q (n + 1) (by omega)
  rw [List.take_of_length_le (show Q.length ≤ n + 1 + 1 by omega), hv] at eQ
  have hz : Q[n + 1]?.getD 0 = 0 := by
    rcases Nat.eq_zero_or_pos (Q[n + 1]?.getD 0) with h | h
    · exact h
    · have : pw (n + 1) * 1 ≤ pw (n + 1) * (Q[n + 1]?.getD 0) := Nat.mul_le_mul_left _ h
      omega
  rw [hz, Nat.mul_zero, Nat.add_zero] at eQ
  refine ⟨eQ.symm, ?_⟩
  have eV := val_take_succ Q n (by omega)
  have hlV := val_lt (okw_take oQ n)
  rw [List.length_take, Nat.min_eq_left (by omega)] at hlV
  rw [← eQ] at eV
  refine Nat.le_of_not_lt fun h => ?_
  have h4 : pw n * (Q[n]?.getD 0 + 1) ≤ pw n * 2147483648 := Nat.mul_le_mul_left _ h
  rw [Nat.mul_add] at h4
  omega

/-- One digit, as it was guessed and taken. -/
theorem digit_taken {P V g b R K : Nat} (hR : R < K) (h : R + g * V = P + K * b) (hb : b ≤ 1) (hg : (g * V ≤ P ∧ P < (g + 1) * V) ∨ (0 < g ∧ P < g * V ∧ (g - 1) * V ≤ P)) :
    (b = 0 ∧ R + g * V = P ∧ R < V) ∨ (b = 1 ∧ 0 < g ∧ R + g * V = P + K ∧ P < g * V ∧ g * V ≤ P + V) := by
  rcases hg with ⟨h1, h2⟩ | ⟨h0, h1, h2⟩
  · obtain ⟨e1, e2⟩ := took_right h hR h1 hb
    refine .inl ⟨e1, by omega, ?_⟩
    rw [Nat.add_mul, Nat.one_mul] at h2
    omega
  · obtain ⟨e1, e2⟩ := took_over h h1 hb
    refine .inr ⟨e1, h0, e2, h1, ?_⟩
    have : g * V = (g - 1) * V + V := by
      conv => lhs; rw [show g = (g - 1) + 1 by omega, Nat.add_mul, Nat.one_mul]
    omega

/-- What is left after a digit, in its place. -/
theorem long_step {X V k n q P P' : Nat} {U qs part part' : List Nat} (hk : k + n ≤ U.length) (hpart : part = (U.drop k).take n) (hl : part'.length = n) (hX : X = val qs * pw (k + 1) * V + val U) (oU : okw U) (hP : val part = P) (hP' : val part' = P') (hq : P' + q * V = P) (hR : P' < V) (hn : 0 < n) (h0 : ∀ j, k + n ≤ j → U[j]?.getD 0 = 0) :
    X = val (q :: qs) * pw k * V + val (U.take k ++ part' ++ U.drop (k + n)) ∧ val (U.take k ++ part' ++ U.drop (k + n)) < pw k * V := by
  have hz : val (U.drop (k + n)) = 0 := by
    have : U.drop (k + n) = List.replicate (U.length - (k + n)) 0 := by
      refine ext_get (by simp) fun j hj => ?_
      rw [List.getElem?_drop, h0 _ (by omega), List.getElem?_replicate]
      split <;> rfl
    rw [this, val_replicate]
  have eU : val U = val (U.take k) + pw k * P := by
    rw [val_split U k (by omega), val_split (U.drop k) n (by simp; omega), ← hpart, hP, List.drop_drop, hz]
    simp
  have lk : (U.take k).length = k := by simp; omega
  have eU' : val (U.take k ++ part' ++ U.drop (k + n)) = val (U.take k) + pw k * P' := by
    rw [val_append, val_append, hz, lk, hP']
    simp
  have hlow := val_lt (okw_take oU k)
  rw [lk] at hlow
  rw [eU']
  constructor
  · rw [hX, eU, ← hq, pw_succ]
    show val qs * (4294967296 * pw k) * V + _ = (q + 4294967296 * val qs) * pw k * V + _
    rw [Nat.mul_add (pw k), Nat.add_mul q, Nat.add_mul (q * pw k), ← Nat.mul_assoc (pw k) q, Nat.mul_comm (pw k) q, ← Nat.mul_assoc (val qs), Nat.mul_comm (val qs) 4294967296]
    omega
  · have : pw k * (P' + 1) ≤ pw k * V := Nat.mul_le_mul_left _ hR
    rw [Nat.mul_add] at this
    omega
/-- The whole: quotient and remainder. -/
theorem long_end {x y s Q R : Nat} (h : x * 2 ^ s = Q * (y * 2 ^ s) + R) (hR : R < y * 2 ^ s) (hy : 0 < y) : Q = x / y ∧ R / 2 ^ s = x % y := by
  have hp : 0 < 2 ^ s := Nat.two_pow_pos s
  obtain ⟨r, hr⟩ : ∃ r, R = r * 2 ^ s := by
    have hd : 2 ^ s ∣ R := by
      have h1 : 2 ^ s ∣ Q * (y * 2 ^ s) + R := by rw [← h]; exact Nat.dvd_mul_left _ _
      have h2 : 2 ^ s ∣ Q * (y * 2 ^ s) := by rw [← Nat.mul_assoc]; exact Nat.dvd_mul_left _ _
      exact (Nat.dvd_add_iff_right h2).2 h1
    obtain ⟨r, hr⟩ := hd
    exact ⟨r, by rw [hr, Nat.mul_comm]⟩
  subst hr
  have hr1 : r < y := Nat.lt_of_mul_lt_mul_right hR
  have e : x = Q * y + r := by
    rw [← Nat.mul_assoc, ← Nat.add_mul] at h
    exact Nat.eq_of_mul_eq_mul_right hp h
  rw [Nat.mul_div_cancel _ hp, e]
  refine ⟨?_, ?_⟩
  · rw [Nat.mul_comm, Nat.mul_add_div hy, Nat.div_eq_of_lt hr1]; rfl
  · rw [Nat.mul_comm, Nat.mul_add_mod, Nat.mod_eq_of_lt hr1]
/-- Words above what a number fills are 0. -/
theorem high_zero {U : List Nat} {m : Nat} (h : val U < pw m) (j : Nat) (hj : m ≤ j) : U[j]?.getD 0 = 0 := by
  rcases Nat.lt_or_ge j U.length with h1 | h1
  · have e1 := val_split U j (by omega)
    have e2 := val_drop_get U j h1
    rcases Nat.eq_zero_or_pos (U[j]?.getD 0) with h2 | h2
    · exact h2
    · have h3 : pw j * 1 ≤ pw j * val (U.drop j) := Nat.mul_le_mul_left _ (by omega)
      have := pw_mono hj
      omega
  · rw [List.getElem?_eq_none h1]; rfl
/-- What a part may be. -/
theorem part_lt {U : List Nat} {k n V : Nat} (hU : val U < pw (k + 1) * V) (hk : k + n ≤ U.length) : val ((U.drop k).take n) < 4294967296 * V := by
  have e1 := val_split U k (by omega)
  have e2 := val_split (U.drop k) n (by simp; omega)
  have h1 : pw k * val ((U.drop k).take n) ≤ val U := by
    rw [e1, e2, Nat.mul_add]; omega
  rw [pw_succ, Nat.mul_comm 4294967296, Nat.mul_assoc] at hU
  exact Nat.lt_of_mul_lt_mul_left (Nat.lt_of_le_of_lt h1 hU)
theorem first_lt {x m L V s : Nat} (hx : x < pw m) (hs : s ≤ 31) (hV : ∃ n, n + L = m ∧ pw n * 2147483648 ≤ V) : x * 2 ^ s < pw L * V := by
  obtain ⟨n, rfl, h⟩ := hV
  have h1 : 2 ^ s ≤ 2147483648 := by
    have := Nat.pow_le_pow_right (n := 2) (by omega) hs
    omega
  have hp : 0 < 2 ^ s := Nat.two_pow_pos s
  have h2 : x * 2 ^ s < pw (n + L) * 2 ^ s := (Nat.mul_lt_mul_right hp).2 hx
  have h3 : pw (n + L) * 2 ^ s ≤ pw (n + L) * 2147483648 := Nat.mul_le_mul_left _ h1
  have h4 : pw L * (pw n * 2147483648) ≤ pw L * V := Nat.mul_le_mul_left _ h
  rw [← Nat.mul_assoc, ← pw_add, Nat.add_comm] at h4
  omega
end Go.Proofs.Yteplmnnpmekngab
