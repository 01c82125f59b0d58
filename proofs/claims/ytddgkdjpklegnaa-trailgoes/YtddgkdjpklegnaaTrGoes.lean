/-
  TrailGoes, walked.
-/
import Derived.Test.YtddgkdjpklegnaaTrCells
namespace Go.Proofs.Ytddgkdjpklegnaa
open Go.RowKit Go.WideShapes Go.Proofs.Ytddgkdjpklegnaa.Tr

theorem most_cases (m : Int) : (∃ M : Nat, m = (M : Int) ∧ 1 ≤ M ∧ M ≤ 3000) ∨ m < 1 ∨ (¬ m < 1 ∧ 3000 < m) := by
  by_cases h1 : m < 1
  · exact .inr (.inl h1)
  · by_cases h2 : 3000 < m
    · exact .inr (.inr ⟨h1, h2⟩)
    · exact .inl ⟨m.toNat, by omega, by omega, by omega⟩

/-- What cells and the reference's All hold: the same list. -/
theorem both_any (h l : Int) (M : Nat) (hM0 : 1 ≤ M) (hM : M ≤ 3000) : ∃ X : List Int, X.length ≤ 3000 ∧
    Hid (∀ w, Calls Try.prog 7 #[.int .i64 h, .int .i64 l, .int .i64 (M : Int)] w fun e w' => ∃ a cap, e = .returned (.tuple #[.slice a X.length cap, .bool true]) ∧ SlI w' a X.length cap X ∧ Below w.heap.size w w') ∧
    Hid (∀ w, Calls Try.prog 9 #[.int .i64 h, .int .i64 l, .int .i64 (M : Int)] w fun e w' => ∃ a cap, e = .returned (.slice a X.length cap) ∧ SlI w' a X.length cap X ∧ Below w.heap.size w w') := by
  rcases log_cases l with ⟨L, S, rfl, hS⟩ | hl
  · refine ⟨row (uw h) L (min (S + 13) M), by rw [row_len]; omega, fun w => ?_, fun w => ?_⟩
    · rw [row_len]
      exact cells_any hS h M _ hM0 hM rfl w
    · refine (rall_any hS h M _ hM rfl w).mono ?_
      rintro e w2 ⟨v, rfl, hI, hb2⟩
      obtain ⟨a', cap', rfl, hSl'⟩ := hI.sl
      exact ⟨a', cap', rfl, hSl', hb2⟩
  · have nil : ∀ w, SlI w none 0 0 [] := fun w => ⟨rfl, Nat.le_refl _, 0, 0, fun h => absurd h (by simp), fun j h => absurd h (by simp)⟩
    refine ⟨[], by simp, fun w => ?_, fun w => ?_⟩
    · refine (cells_none l hl h M w).mono ?_
      rintro e w2 ⟨rfl, hb⟩
      exact ⟨none, 0, rfl, nil _, hb⟩
    · refine (rall_none h l M hl w).mono ?_
      rintro e w2 ⟨rfl, rfl⟩
      exact ⟨none, 0, rfl, nil _, Below.refl _ _⟩

set_option maxRecDepth 100000 in
set_option maxHeartbeats 4000000 in
theorem goesLaw_walk (h l m : Int) (w : World) :
    Calls Try.prog 3 #[.int .i64 h, .int .i64 l, .int .i64 m] w fun e w' => e = .returned (.bool true) ∧ Below w.heap.size w w' := by
  have CF1 := fun w => first_any h l w
  have CF2 := fun w => rfirst_any h l w
  have CS1 := fun w => shifts_any h w
  have CS2 := fun w => rshifts_any h w
  generalize firstZ h l = F at CF1 CF2
  generalize shn (uw h) = Z at CS1 CS2
  have HF1 := Lib.hid CF1
  have HF2 := Lib.hid CF2
  have HS1 := Lib.hid CS1
  have HS2 := Lib.hid CS2
  clear CF1 CF2 CS1 CS2
  have e1 : (F == F) = true := by simp
  have e2 : ((Z : Int) == (Z : Int)) = true := by simp
  obtain ⟨M, hM0, hM, hm⟩ : ∃ M : Nat, 1 ≤ M ∧ M ≤ 3000 ∧ ((m = (M : Int)) ∨ (M = 3000 ∧ (m < 1 ∨ (¬ m < 1 ∧ 3000 < m)))) := by
    rcases most_cases m with ⟨M, h1, h2, h3⟩ | h1
    · exact ⟨M, h2, h3, .inl h1⟩
    · exact ⟨3000, by omega, by omega, .inr ⟨rfl, h1⟩⟩
  obtain ⟨X, hX, C1, C2⟩ := both_any h l M hM0 hM
  go_enter Try.func3, Try.ntmps3
  rcases hm with rfl | ⟨rfl, hm | ⟨hm, hm'⟩⟩
  case' inl =>
    have i1 : ¬ (M : Int) < 1 := by omega
    have i2 : ¬ 3000 < (M : Int) := by omega
  all_goals
    go_wp2_with fail
    refine (C1.out _).mono ?_
    rintro e w1 ⟨a, cap, rfl, hSl, hb1⟩
    go_wp2_with fail
    refine (C2.out _).mono ?_
    rintro e w2 ⟨a', cap', rfl, hSl', hb2⟩
    have CM := same_any _ _ _ _ _ _ _ w2 (hSl.below hb2) hSl' hX
    replace hb2 := hb1.trans (hb2.mono hb1.size)
    clear C1 C2 hb1 hSl hSl'
    go_wp2_with fail
    refine CM.mono ?_
    rintro e w3 ⟨rfl, hb3⟩
    replace hb3 := hb2.trans (hb3.mono hb2.size)
    clear CM hb2
    go_wp2_with fail
    refine (HF1.out _).mono ?_
    rintro e w4 ⟨rfl, hb4⟩
    replace hb4 := hb3.trans (hb4.mono hb3.size)
    clear hb3
    go_wp2_with fail
    refine (HF2.out _).mono ?_
    rintro e w4 ⟨rfl, rfl⟩
    go_wp2_with fail
    refine (HS1.out _).mono ?_
    rintro e w4 ⟨rfl, rfl⟩
    go_wp2_with fail
    refine (HS2.out _).mono ?_
    rintro e w4 ⟨rfl, rfl⟩
    go_wp2_with fail
    refine (awake_any _).mono ?_
    rintro e w5 ⟨rfl, hb5⟩
    replace hb5 := hb4.trans (hb5.mono hb4.size)
    clear hb4
    go_wp2
    go_ret
    exact ⟨rfl, hb5⟩
end Go.Proofs.Ytddgkdjpklegnaa
