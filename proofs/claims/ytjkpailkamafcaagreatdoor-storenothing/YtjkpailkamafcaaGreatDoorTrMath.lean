/-
  The trail of a hash in 2 ^ L cells, as arithmetic: from the last shift on all cells in a row are different; equal low digits, equal first cells. No program.
-/
import Derived.WalkKit
namespace Go.Proofs.YtjkpailkamafcaaGreatDoor

/-- Cell number i of the trail of h in 2 ^ L cells. -/
def trl (h L : Nat) : Nat → Nat
  | 0 => h % 2 ^ L
  | i + 1 => (trl h L i * 5 + h / 32 ^ (i + 1) + 1) % 2 ^ L
theorem pow2_pos (L : Nat) : 0 < 2 ^ L := Nat.pow_pos (by decide)
theorem trl_lt (h L i : Nat) : trl h L i < 2 ^ L := by
  cases i with
  | zero => exact Nat.mod_lt _ (pow2_pos L)
  | succ i => exact Nat.mod_lt _ (pow2_pos L)
/-- 1 + 5 + .. + 5 ^ (d - 1). -/
def geo : Nat → Nat
  | 0 => 0
  | d + 1 => geo d * 5 + 1
theorem geo_pow (d : Nat) : 4 * geo d + 1 = 5 ^ d := by
  induction d with
  | zero => rfl
  | succ d ih => rw [geo, Nat.pow_succ, ← ih]; omega
theorem geo_add (a b : Nat) : geo (a + b) = geo a * 5 ^ b + geo b := by
  induction b with
  | zero => simp [geo]
  | succ b ih => rw [← Nat.add_assoc, geo, ih, geo, Nat.pow_succ, Nat.add_mul, Nat.mul_assoc]; omega
theorem geo_odd (d : Nat) : geo d % 2 = d % 2 := by
  induction d with
  | zero => rfl
  | succ d ih => rw [geo]; omega
theorem pow5_mod (e : Nat) : 5 ^ e % 4 = 1 := by
  induction e with
  | zero => rfl
  | succ e ih => rw [Nat.pow_succ, Nat.mul_mod, ih]
/-- An odd factor goes. -/
theorem odd_factor (L : Nat) : ∀ (a m : Nat), m % 2 = 1 → 2 ^ L ∣ a * m → 2 ^ L ∣ a := by
  induction L with
  | zero => intro a m _ _; exact Nat.one_dvd _
  | succ L ih =>
    intro a m hm h
    have h2 : 2 ∣ a * m := Nat.dvd_trans ⟨2 ^ L, by rw [Nat.pow_succ, Nat.mul_comm]⟩ h
    have ha : a % 2 = 0 := by
      have h3 := Nat.mod_eq_zero_of_dvd h2
      rw [Nat.mul_mod, hm] at h3
      omega
    obtain ⟨b, rfl⟩ : ∃ b, a = b * 2 := ⟨a / 2, by omega⟩
    have h4 : 2 ^ L * 2 ∣ (b * m) * 2 := by rw [Nat.pow_succ] at h; rwa [Nat.mul_right_comm]
    have h5 := ih b m hm (Nat.dvd_of_mul_dvd_mul_right (by decide) h4)
    rw [Nat.pow_succ]
    exact Nat.mul_dvd_mul h5 (Nat.dvd_refl 2)
theorem geo_dvd (L : Nat) : ∀ d, 2 ^ L ∣ geo d → 2 ^ L ∣ d := by
  induction L with
  | zero => intro d _; exact Nat.one_dvd _
  | succ L ih =>
    intro d h
    have h2 : 2 ∣ geo d := Nat.dvd_trans ⟨2 ^ L, by rw [Nat.pow_succ, Nat.mul_comm]⟩ h
    have h3 := Nat.mod_eq_zero_of_dvd h2
    rw [geo_odd] at h3
    obtain ⟨e, rfl⟩ : ∃ e, d = e + e := ⟨d / 2, by omega⟩
    obtain ⟨q, hq⟩ : ∃ q, 5 ^ e + 1 = (2 * q + 1) * 2 := by
      have h9 := pow5_mod e
      generalize 5 ^ e = z at h9 ⊢
      exact ⟨z / 4, by omega⟩
    have h4 : geo (e + e) = geo e * (2 * q + 1) * 2 := by
      rw [geo_add, Nat.mul_assoc, ← hq, Nat.mul_add, Nat.mul_one]
    rw [h4, Nat.pow_succ] at h
    have h5 := ih e (odd_factor L _ _ (by omega) (Nat.dvd_of_mul_dvd_mul_right (by decide) h))
    rw [Nat.pow_succ, ← Nat.mul_two]
    exact Nat.mul_dvd_mul h5 (Nat.dvd_refl 2)
/-- Where nothing is left of the hash: d cells on. -/
theorem trl_far (h L s : Nat) (hs : h / 32 ^ s = 0) (i : Nat) (hi : s ≤ i) : ∀ d, trl h L (i + d) % 2 ^ L = (trl h L i * 5 ^ d + geo d) % 2 ^ L := by
  intro d
  induction d with
  | zero => simp [geo]
  | succ d ih =>
    have hz : h / 32 ^ (i + d + 1) = 0 := by
      have h1 : h < 32 ^ s := (Nat.div_eq_zero_iff_lt (Nat.pow_pos (by decide))).1 hs
      exact Nat.div_eq_of_lt (Nat.lt_of_lt_of_le h1 (Nat.pow_le_pow_right (by decide) (by omega)))
    rw [← Nat.add_assoc, trl, hz, Nat.mod_mod, geo, Nat.pow_succ]
    have h2 : (trl h L (i + d) * 5 + 0 + 1) % 2 ^ L = ((trl h L i * 5 ^ d + geo d) * 5 + 1) % 2 ^ L := by
      rw [Nat.add_zero, Nat.add_mod, Nat.mul_mod, ih, ← Nat.mul_mod, ← Nat.add_mod]
    rw [h2, Nat.add_mul, Nat.mul_assoc, Nat.add_assoc]
/-- From the last shift on, 2 ^ L cells in a row are different. -/
theorem trl_apart (h L s : Nat) (hs : h / 32 ^ s = 0) (i j : Nat) (hi : s ≤ i) (hij : i < j) (hj : j < i + 2 ^ L) : trl h L i ≠ trl h L j := by
  intro e
  obtain ⟨d, rfl⟩ : ∃ d, j = i + d := ⟨j - i, by omega⟩
  have h1 := trl_far h L s hs i hi d
  rw [← e] at h1
  generalize trl h L i = x at h1 e
  have h2 : (x * 5 ^ d + geo d) = geo d * (4 * x + 1) + x := by
    rw [← geo_pow d, Nat.mul_add, Nat.mul_add, Nat.mul_one, Nat.mul_one, Nat.mul_left_comm x 4, Nat.mul_left_comm (geo d) 4, Nat.mul_comm x]
    omega
  rw [h2] at h1
  have h3 : 2 ^ L ∣ geo d * (4 * x + 1) := by
    have h4 := Nat.sub_mod_eq_zero_of_mod_eq h1.symm
    rw [Nat.add_sub_cancel] at h4
    exact Nat.dvd_of_mod_eq_zero h4
  have h5 := geo_dvd L d (odd_factor L _ _ (by omega) h3)
  have h6 := Nat.le_of_dvd (by omega) h5
  omega
/-- Equal low digits: equal first cells. -/
theorem trl_alike (h h' L k : Nat) (e : h % 2 ^ (L + 5 * k) = h' % 2 ^ (L + 5 * k)) : ∀ i, i ≤ k → trl h L i = trl h' L i := by
  have low : ∀ i, i ≤ k → h / 32 ^ i % 2 ^ L = h' / 32 ^ i % 2 ^ L := by
    intro i hi
    have h32 : 32 ^ i = 2 ^ (5 * i) := by rw [Nat.pow_mul]
    have step : ∀ x : Nat, x / 32 ^ i % 2 ^ L = x % 2 ^ (L + 5 * k) / 32 ^ i % 2 ^ L := fun x => by
      have h1 : 2 ^ (L + 5 * k) = 32 ^ i * (2 ^ L * 2 ^ (5 * (k - i))) := by
        rw [h32, ← Nat.pow_add, ← Nat.pow_add]
        congr 1
        omega
      rw [h1, Nat.mod_mul_right_div_self, Nat.mod_mul_right_mod]
    rw [step h, step h', e]
  intro i
  induction i with
  | zero => intro _; have := low 0 (by omega); simpa [trl] using this
  | succ i ih =>
    intro hi
    rw [trl, trl, ih (by omega), Nat.add_right_comm, Nat.add_mod, low (i + 1) hi, ← Nat.add_mod, Nat.add_right_comm]
theorem gone (h : Nat) (hh : h < 18446744073709551616) : h / 32 ^ 13 = 0 := Nat.div_eq_of_lt (Nat.lt_of_lt_of_le hh (by decide))
/-- How often a word is shifted by 5 till nothing is left. -/
def shn (h : Nat) : Nat := if h = 0 then 0 else shn (h / 32) + 1
termination_by h
decreasing_by omega
theorem shn_zero : shn 0 = 0 := by rw [shn, if_pos rfl]
theorem shn_step (h : Nat) (h0 : h ≠ 0) : shn h = shn (h / 32) + 1 := by rw [shn, if_neg h0]
/-- It is the first number of shifts that leaves nothing. -/
theorem shn_least (n : Nat) : ∀ h, shn h ≤ n ↔ h / 32 ^ n = 0 := by
  induction n with
  | zero =>
    intro h
    by_cases h0 : h = 0
    · subst h0; simp [shn_zero]
    · rw [shn_step h h0]; simp [h0]
  | succ n ih =>
    intro h
    by_cases h0 : h = 0
    · subst h0; simp [shn_zero]
    · rw [shn_step h h0, Nat.pow_succ, Nat.mul_comm, ← Nat.div_div_eq_div_mul, ← ih]
      omega
theorem shn_gone (h : Nat) : h / 32 ^ shn h = 0 := (shn_least _ h).1 (Nat.le_refl _)
theorem shn_le (h : Nat) (hh : h < 18446744073709551616) : shn h ≤ 13 := (shn_least 13 h).2 (gone h hh)
/-- What is left behind one shift more. -/
theorem left_step (h i : Nat) : h / 32 ^ i / 32 = h / 32 ^ (i + 1) := by rw [Nat.div_div_eq_div_mul, Nat.pow_succ]
/-- The sum that gives the next cell fits into a word. -/
theorem sum_fits (c h i L : Nat) (hL : L ≤ 20) (hc : c < 2 ^ L) (hh : h < 18446744073709551616) : c * 5 + h / 32 ^ (i + 1) + 1 < 18446744073709551616 := by
  have h1 : 2 ^ L ≤ 2 ^ 20 := Nat.pow_le_pow_right (by decide) hL
  have h2 : h / 32 ^ (i + 1) ≤ h / 32 := by
    rw [Nat.pow_succ, Nat.mul_comm, ← Nat.div_div_eq_div_mul]
    exact Nat.div_le_self _ _
  have h3 : (2 : Nat) ^ 20 = 1048576 := by decide
  omega
/-- A hash as an unsigned word. -/
def uw (h : Int) : Nat := (IntKind.u64.wrap h).toNat
theorem uw_int (h : Int) : IntKind.u64.wrap h = ((uw h : Nat) : Int) := by
  have := wrap_u64_nonneg h
  unfold uw
  omega
theorem uw_lt (h : Int) : uw h < 18446744073709551616 := by
  unfold uw
  rw [IntKind.wrap_u64]
  omega
/-- The low digits of one word and the high ones of another. -/
theorem twin_low (a K c : Nat) (hc : c % 2 ^ K = 0) : ((a % 2 ^ K) + c) % 2 ^ K = a % 2 ^ K := by
  rw [Nat.add_mod, hc, Nat.add_zero, Nat.mod_mod, Nat.mod_mod]
end Go.Proofs.YtjkpailkamafcaaGreatDoor
