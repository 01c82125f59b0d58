/-
  A guessed digit is right, or one too great. No program, no world.
-/
import Derived.Test.YteplmnnpmekngabGuess
namespace Go.Proofs.Yteplmnnpmekngab
open Go.RowKit

theorem top_le {P V Y Vl Pl u d M : Nat} (hV : V = Y * M + Vl) (hVl : Vl < M) (hP : P = (u * 4294967296 + d) * M + Pl) (hq : P < 4294967296 * V) : u ≤ Y := by
  refine Nat.le_of_lt_succ (Nat.lt_of_not_le fun h => ?_)
  have h1 : (Y + 1) * (4294967296 * M) ≤ u * (4294967296 * M) := Nat.mul_le_mul_right _ h
  have e1 : (u * 4294967296 + d) * M = u * (4294967296 * M) + d * M := by rw [Nat.add_mul, Nat.mul_assoc]
  have e2 : 4294967296 * V = Y * (4294967296 * M) + 4294967296 * Vl := by rw [hV, Nat.mul_add, Nat.mul_left_comm]
  have e3 : (Y + 1) * (4294967296 * M) = Y * (4294967296 * M) + 4294967296 * M := by rw [Nat.add_mul, Nat.one_mul]
  have h2 : 4294967296 * Vl ≤ 4294967296 * M := Nat.mul_le_mul_left _ (Nat.le_of_lt hVl)
  rw [e1] at hP
  rw [e2] at hq
  rw [e3] at h1
  generalize Y * (4294967296 * M) = A at *
  generalize u * (4294967296 * M) = B at *
  generalize d * M = C at *
  omega
theorem guess_two {P V Y Vl Pl u d g M : Nat} (hV : V = Y * M + Vl) (hVl : Vl < M) (hP : P = (u * 4294967296 + d) * M + Pl) (hPl : Pl < M) (hY : 4294967296 ≤ Y) (hq : P < 4294967296 * V) (hg : Most Y u d g) : (g * V ≤ P ∧ P < (g + 1) * V) ∨ (0 < g ∧ P < g * V ∧ (g - 1) * V ≤ P) := by
  obtain ⟨g1, g2, g3⟩ := hg
  obtain ⟨T, hT⟩ : ∃ T, u * 4294967296 + d = T := ⟨_, rfl⟩
  rw [hT] at hP g2 g3
  have up : P < (g + 1) * V := by
    rcases Nat.lt_or_ge (g + 1) 4294967296 with h | h
    · have h1 : (T + 1) * M ≤ (g + 1) * Y * M := Nat.mul_le_mul_right _ (g3 h)
      have e1 : (T + 1) * M = T * M + M := by rw [Nat.add_mul, Nat.one_mul]
      have e2 : (g + 1) * V = (g + 1) * Y * M + (g + 1) * Vl := by rw [hV, Nat.mul_add, Nat.mul_assoc]
      rw [e1] at h1
      rw [e2, hP]
      generalize (g + 1) * Y * M = A at *
      generalize T * M = B at *
      omega
    · have e : g + 1 = 4294967296 := Nat.le_antisymm g1 h
      rw [e]
      exact hq
  rcases Nat.lt_or_ge P (g * V) with h | h
  · right
    have hg0 : 0 < g := Nat.pos_of_ne_zero fun e => by rw [e, Nat.zero_mul] at h; exact absurd h (Nat.not_lt_zero _)
    refine ⟨hg0, h, ?_⟩
    obtain ⟨k, rfl⟩ : ∃ k, g = k + 1 := ⟨g - 1, by omega⟩
    rw [Nat.add_sub_cancel]
    have e1 : k * V = k * Y * M + k * Vl := by rw [hV, Nat.mul_add, Nat.mul_assoc]
    have h1 : k * Vl ≤ Y * M := Nat.mul_le_mul (Nat.le_trans (Nat.le_of_lt (Nat.lt_of_succ_lt g1)) hY) (Nat.le_of_lt hVl)
    have h2 : (k + 1) * Y * M ≤ T * M := Nat.mul_le_mul_right _ g2
    have e2 : (k + 1) * Y * M = k * Y * M + Y * M := by rw [Nat.add_mul, Nat.one_mul, Nat.add_mul]
    rw [e2] at h2
    rw [e1, hP]
    generalize k * Y * M = A at *
    generalize T * M = B at *
    generalize Y * M = C at *
    generalize k * Vl = D at *
    omega
  · exact Or.inl ⟨h, up⟩
/-- What takeTimes leaves, where the guess was right. -/
theorem took_right {P G R K b : Nat} (h : R + G = P + K * b) (hR : R < K) (hG : G ≤ P) (hb : b ≤ 1) : b = 0 ∧ R = P - G := by
  rcases Nat.le_one_iff_eq_zero_or_eq_one.1 hb with rfl | rfl
  · rw [Nat.mul_zero] at h
    exact ⟨rfl, by omega⟩
  · rw [Nat.mul_one] at h
    omega
/-- .. and where it was one too great. -/
theorem took_over {P G R K b : Nat} (h : R + G = P + K * b) (hG : P < G) (hb : b ≤ 1) : b = 1 ∧ R + G = P + K := by
  rcases Nat.le_one_iff_eq_zero_or_eq_one.1 hb with rfl | rfl
  · rw [Nat.mul_zero] at h
    omega
  · rw [Nat.mul_one] at h
    exact ⟨rfl, h⟩
/-- v is put back: the carry meets what was borrowed. M: the weight of the highest word, t that word, L what lies below it; L' and c what addInto makes of it. -/
theorem put_back {P G V L L' c t M : Nat} (h : L + M * t + G = P + 4294967296 * M) (hGV : G ≤ P + V) (hV : P + V < G + M) (ha : L + V = L' + M * c) (hL' : L' < M) (hM : 0 < M) : t + c = 4294967296 ∧ L' = P + V - G := by
  have h1 : L' + M * (t + c) = (P + V - G) + M * 4294967296 := by rw [Nat.mul_add, Nat.mul_comm M 4294967296]; omega
  have h2 := congrArg (· / M) h1
  simp only [Nat.add_mul_div_left _ _ hM, Nat.div_eq_of_lt hL', Nat.div_eq_of_lt (show P + V - G < M by omega), Nat.zero_add] at h2
  refine ⟨h2, ?_⟩
  rw [h2] at h1
  omega
end Go.Proofs.Yteplmnnpmekngab
