/-
  Digits, letters, words, signs.
-/
import Derived.Test.YtgillafjccgkdaaDoorLxMem
namespace Go.Proofs.YtgillafjccgkdaaDoor
open Go.RowKit Go.WideShapes
namespace Lx

theorem toList_eq (s : ByteArray) : s.toList = s.data.toList := ByteArray.toList_eq s
set_option maxRecDepth 100000 in
theorem isDigit_any (b : UInt8) (w : World) : Calls Tryd.prog 20 #[.int .i64 (b.toNat : Int)] w fun e w' => e = .returned (.bool (isD b)) ∧ w' = w := by
  have hb : isD b = decide ((48 : Int) ≤ (b.toNat : Int) ∧ (b.toNat : Int) ≤ 57) := by unfold isD; congr 1; apply propext; omega
  rw [hb]
  clear hb
  generalize (b.toNat : Int) = c
  by_cases h1 : (48 : Int) ≤ c
  · by_cases h2 : c ≤ 57
    · go_enter Tryd.func20, Tryd.ntmps20
      go_wp2
      go_ret
      exact ⟨by simp [h1, h2], rfl⟩
    · go_enter Tryd.func20, Tryd.ntmps20
      go_wp2
      go_ret
      exact ⟨by simp [h2], rfl⟩
  · go_enter Tryd.func20, Tryd.ntmps20
    go_wp2
    go_ret
    exact ⟨by simp; omega, rfl⟩
set_option maxRecDepth 100000 in
theorem isPart_any (b : UInt8) (w : World) : Calls Tryd.prog 21 #[.int .i64 (b.toNat : Int)] w fun e w' => e = .returned (.bool (isP b)) ∧ w' = w := by
  have hb : isP b = if (97 : Int) ≤ (b.toNat : Int) ∧ (b.toNat : Int) ≤ 122 ∨ (65 : Int) ≤ (b.toNat : Int) ∧ (b.toNat : Int) ≤ 90 ∨ (b.toNat : Int) = 95 then true else isD b := by
    unfold isP
    split
    · rename_i h
      rcases h with h | h | h
      · rw [show decide (97 ≤ b.toNat ∧ b.toNat ≤ 122) = true from decide_eq_true (by omega)]; rfl
      · rw [show decide (65 ≤ b.toNat ∧ b.toNat ≤ 90) = true from decide_eq_true (by omega)]; simp
      · rw [show decide (b.toNat = 95) = true from decide_eq_true (by omega)]; simp
    · rw [show decide (97 ≤ b.toNat ∧ b.toNat ≤ 122) = false from decide_eq_false (by omega), show decide (65 ≤ b.toNat ∧ b.toNat ≤ 90) = false from decide_eq_false (by omega), show decide (b.toNat = 95) = false from decide_eq_false (by omega)]
      rfl
  rw [hb]
  clear hb
  have C := isDigit_any b
  generalize isD b = d at *
  generalize (b.toNat : Int) = c at *
  obtain ⟨R, hR⟩ : ∃ R, R = (if (97 : Int) ≤ c ∧ c ≤ 122 ∨ (65 : Int) ≤ c ∧ c ≤ 90 ∨ c = 95 then true else d) := ⟨_, rfl⟩
  rw [← hR]
  have HR := Lib.hid hR
  clear hR
  by_cases h1 : (97 : Int) ≤ c <;> by_cases h2 : c ≤ 122 <;> by_cases h3 : (65 : Int) ≤ c <;> by_cases h4 : c ≤ 90 <;> by_cases h5 : c = 95
  all_goals first
    | (exfalso; omega)
    | (have h6 : (c == 95) = decide (c = 95) := rfl
       go_enter Tryd.func21, Tryd.ntmps21
       go_wp2_with (go_at_call 20; refine (C _).mono ?_; rintro e w' ⟨rfl, rfl⟩)
       go_ret
       refine ⟨?_, rfl⟩
       rw [HR.out]
       first | (rw [if_pos (by omega)]; rfl) | (rw [if_neg (by omega)]; rfl))
end Lx
end Go.Proofs.YtgillafjccgkdaaDoor
