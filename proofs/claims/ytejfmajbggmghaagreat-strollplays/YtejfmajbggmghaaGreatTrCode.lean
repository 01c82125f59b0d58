/-
  The functions of package trail and of its reference that reckon alone.
-/
import Derived.Test.YtejfmajbggmghaaGreatRows
import Derived.Test.YtejfmajbggmghaaGreatTrMath
import Derived.WalkKit
import Derived.Below
namespace Go.Proofs.YtejfmajbggmghaaGreat.Tr
open Go.RowKit

/-- A table of S = 2 ^ L cells. -/
structure Sz (L S : Nat) : Prop where
  eq : 2 ^ L = S
  le : L ≤ 20
theorem Sz.pos {L S : Nat} (h : Sz L S) : 1 ≤ S := by rw [← h.eq]; exact pow2_pos L
theorem Sz.most {L S : Nat} (h : Sz L S) : S ≤ 1048576 := by
  rw [← h.eq]
  exact Nat.le_trans (Nat.pow_le_pow_right (by decide) h.le) (by decide)
theorem Sz.int {L S : Nat} (h : Sz L S) : (2 : Int) ^ L = (S : Int) := by rw [← h.eq]; push_cast; rfl
theorem Sz.u64 {L S : Nat} (h : Sz L S) : IntKind.u64.wrap ((2 : Int) ^ L) = (S : Int) := by
  have h1 := h.most
  rw [h.int, IntKind.wrap_u64]
  omega
theorem Sz.i64 {L S : Nat} (h : Sz L S) : IntKind.i64.wrap ((2 : Int) ^ L) = (S : Int) := by
  have h1 := h.most
  rw [h.int, IntKind.wrap_i64]
  omega
theorem Sz.mask {L S : Nat} (h : Sz L S) (x : Int) (h0 : 0 ≤ x) (h1 : x < 18446744073709551616) : bits BinOp.and IntKind.u64 x ((S : Int) - 1) = x % (S : Int) := by
  have h2 := bits_mask .u64 64 (by decide) (fun n h0 h1 => by rw [show (2 : Int) ^ 64 = 18446744073709551616 from rfl] at h1; rw [IntKind.wrap_u64]; omega) L (by have := h.le; omega) x h0 (by rw [show (2 : Int) ^ 64 = 18446744073709551616 from rfl]; exact h1)
  rwa [h.int] at h2
theorem isLog_any (l : Int) (w : World) : Calls Tryz.prog 108 #[.int .i64 l] w fun e w' => e = .returned (.bool (decide (0 ≤ l ∧ l ≤ 20))) ∧ w' = w := by
  go_enter Tryz.func108, Tryz.ntmps108
  by_cases h1 : 0 ≤ l
  · by_cases h2 : l ≤ 20
    · rw [decide_eq_true (p := 0 ≤ l ∧ l ≤ 20) ⟨h1, h2⟩]
      go_wp2
      go_ret
      exact ⟨rfl, rfl⟩
    · rw [decide_eq_false (p := 0 ≤ l ∧ l ≤ 20) (fun h => h2 h.2)]
      go_wp2
      go_ret
      exact ⟨rfl, rfl⟩
  · rw [decide_eq_false (p := 0 ≤ l ∧ l ≤ 20) (fun h => h1 h.1)]
    go_wp2
    go_ret
    exact ⟨rfl, rfl⟩
theorem isLog_yes (L : Nat) (hL : L ≤ 20) (w : World) : Calls Tryz.prog 108 #[.int .i64 (L : Int)] w fun e w' => e = .returned (.bool true) ∧ w' = w := by
  have := isLog_any L w
  rwa [decide_eq_true (p := 0 ≤ (L : Int) ∧ (L : Int) ≤ 20) (by omega)] at this
theorem isLog_no (l : Int) (h : ¬ (0 ≤ l ∧ l ≤ 20)) (w : World) : Calls Tryz.prog 108 #[.int .i64 l] w fun e w' => e = .returned (.bool false) ∧ w' = w := by
  have := isLog_any l w
  rwa [decide_eq_false h] at this
/-- The first cell of a hash. -/
def firstZ (h l : Int) : Int := if 0 ≤ l ∧ l ≤ 20 then ((uw h % 2 ^ l.toNat : Nat) : Int) else 0
theorem firstZ_yes (h : Int) {L S : Nat} (hS : Sz L S) : firstZ h (L : Int) = ((uw h % S : Nat) : Int) := by
  have := hS.le
  unfold firstZ
  rw [if_pos (by omega), Int.toNat_natCast, hS.eq]
theorem log_cases (l : Int) : (∃ L S : Nat, l = (L : Int) ∧ Sz L S) ∨ ¬ (0 ≤ l ∧ l ≤ 20) := by
  by_cases h : 0 ≤ l ∧ l ≤ 20
  · exact .inl ⟨l.toNat, 2 ^ l.toNat, by omega, rfl, by omega⟩
  · exact .inr h
theorem i64_small {x : Int} (h0 : 0 ≤ x) (h1 : x < 9223372036854775808) : IntKind.i64.wrap x = x := by rw [IntKind.wrap_i64]; omega
theorem rfirst_any (h l : Int) (w : World) : Calls Tryz.prog 81 #[.int .i64 h, .int .i64 l] w fun e w' => e = .returned (.int .i64 (firstZ h l)) ∧ w' = w := by
  rcases log_cases l with ⟨L, S, rfl, hS⟩ | hl
  · rw [firstZ_yes h hS]
    have h1 := uw_int h
    have h2 := uw_lt h
    have hp := hS.pos
    have hm := hS.most
    have hle := hS.le
    have hu := hS.u64
    have h3 : Int.tmod ((uw h : Nat) : Int) (S : Int) = ((uw h % S : Nat) : Int) := (Int.ofNat_tmod _ _).symm
    have h4 : uw h % S < S := Nat.mod_lt _ hp
    have h5 : IntKind.i64.wrap ((uw h % S : Nat) : Int) = ((uw h % S : Nat) : Int) := i64_small (by omega) (by omega)
    have h6 : IntKind.u64.wrap ((uw h % S : Nat) : Int) = ((uw h % S : Nat) : Int) := by rw [IntKind.wrap_u64]; omega
    have h7 : ¬ (S : Int) = 0 := by omega
    generalize uw h % S = r at h3 h4 h5 h6 ⊢
    generalize uw h = u at h1 h2 h3
    go_enter Tryz.func81, Tryz.ntmps81
    go_wp2
    go_ret
    exact ⟨rfl, rfl⟩
  · rw [show firstZ h l = 0 from if_neg hl]
    go_enter Tryz.func81, Tryz.ntmps81
    by_cases h0 : l < 0
    · go_wp2
      go_ret
      exact ⟨rfl, rfl⟩
    · have h1 : 20 < l := by omega
      clear hl
      go_wp2
      go_ret
      exact ⟨rfl, rfl⟩
/-- The next cell, and what is left of the hash. -/
theorem next_any {L S : Nat} (hS : Sz L S) (c p : Nat) (hc : c < S) (hp : p < 18446744073709551616) (w : World) : Calls Tryz.prog 84 #[.int .i64 (c : Int), .int .u64 (p : Int), .int .i64 (L : Int)] w fun e w' => e = .returned (.tuple #[.int .i64 (((c * 5 + p / 32 + 1) % S : Nat) : Int), .int .u64 ((p / 32 : Nat) : Int)]) ∧ w' = w := by
  have h0 := hS.pos
  have hm := hS.most
  have hle := hS.le
  have hu := hS.u64
  have h1 : IntKind.u64.wrap (c : Int) = (c : Int) := by rw [IntKind.wrap_u64]; omega
  have h2 : IntKind.u64.wrap ((c : Int) * 5) = ((c * 5 : Nat) : Int) := by rw [IntKind.wrap_u64]; omega
  have h3 : (p : Int) / 32 = ((p / 32 : Nat) : Int) := by omega
  have h4 : IntKind.u64.wrap (((c * 5 : Nat) : Int) + ((p / 32 : Nat) : Int)) = ((c * 5 + p / 32 : Nat) : Int) := by rw [IntKind.wrap_u64]; omega
  have h5 : IntKind.u64.wrap (((c * 5 + p / 32 : Nat) : Int) + 1) = ((c * 5 + p / 32 + 1 : Nat) : Int) := by rw [IntKind.wrap_u64]; omega
  have h6 : Int.tmod ((c * 5 + p / 32 + 1 : Nat) : Int) (S : Int) = (((c * 5 + p / 32 + 1) % S : Nat) : Int) := (Int.ofNat_tmod _ _).symm
  have h7 : (c * 5 + p / 32 + 1) % S < S := Nat.mod_lt _ h0
  have h9 : IntKind.u64.wrap (((c * 5 + p / 32 + 1) % S : Nat) : Int) = (((c * 5 + p / 32 + 1) % S : Nat) : Int) := by rw [IntKind.wrap_u64]; omega
  have h8 : IntKind.i64.wrap (((c * 5 + p / 32 + 1) % S : Nat) : Int) = (((c * 5 + p / 32 + 1) % S : Nat) : Int) := i64_small (by omega) (by omega)
  have h10 : ¬ (S : Int) = 0 := by omega
  generalize (c * 5 + p / 32 + 1) % S = r at h6 h7 h8 h9 ⊢
  generalize c * 5 + p / 32 + 1 = x3 at h5 h6
  generalize c * 5 + p / 32 = x2 at h4 h5
  generalize c * 5 = x1 at h2 h4
  generalize p / 32 = q at h3 h4 ⊢
  go_enter Tryz.func84, Tryz.ntmps84
  go_wp2
  go_ret2
  exact ⟨rfl, rfl⟩
end Go.Proofs.YtejfmajbggmghaaGreat.Tr
