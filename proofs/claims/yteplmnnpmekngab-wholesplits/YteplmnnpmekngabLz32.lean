/-
  Len32 and LeadingZeros32.
-/
import Derived.Test.YteplmnnpmekngabBits
namespace Go.Proofs.Yteplmnnpmekngab
open Go.RowKit

set_option maxRecDepth 1000000 in
set_option maxHeartbeats 2000000 in
theorem len32_any (x : Nat) (h0 : 0 < x) (h : x < 4294967296) (w : World) :
    Calls Try.prog 49 #[.int .u32 (x : Int)] w fun e w' => ∃ n : Nat, e = .returned (.int .i64 (n : Int)) ∧ (1 ≤ n ∧ n ≤ 32 ∧ 2 ^ (n - 1) ≤ x ∧ x < 2 ^ n) ∧ w' = w := by
  go_enter Try.func49, Try.ntmps49
  generalize hT : ({ data := ((([0, 1, 2, 2, 3, 3, 3, 3, 4, 4, 4, 4, 4, 4, 4, 4, 5, 5, 5, 5, 5, 5, 5, 5, 5, 5, 5, 5, 5, 5, 5, 5, 6, 6, 6, 6, 6, 6, 6, 6, 6, 6, 6, 6, 6, 6, 6, 6, 6, 6, 6, 6, 6, 6, 6, 6, 6, 6, 6, 6, 6, 6, 6, 6] : List UInt8).append [7, 7, 7, 7, 7, 7, 7, 7, 7, 7, 7, 7, 7, 7, 7, 7, 7, 7, 7, 7, 7, 7, 7, 7, 7, 7, 7, 7, 7, 7, 7, 7, 7, 7, 7, 7, 7, 7, 7, 7, 7, 7, 7, 7, 7, 7, 7, 7, 7, 7, 7, 7, 7, 7, 7, 7, 7, 7, 7, 7, 7, 7, 7, 7]).append (List.append [8, 8, 8, 8, 8, 8, 8, 8, 8, 8, 8, 8, 8, 8, 8, 8, 8, 8, 8, 8, 8, 8, 8, 8, 8, 8, 8, 8, 8, 8, 8, 8, 8, 8, 8, 8, 8, 8, 8, 8, 8, 8, 8, 8, 8, 8, 8, 8, 8, 8, 8, 8, 8, 8, 8, 8, 8, 8, 8, 8, 8, 8, 8, 8] [8, 8, 8, 8, 8, 8, 8, 8, 8, 8, 8, 8, 8, 8, 8, 8, 8, 8, 8, 8, 8, 8, 8, 8, 8, 8, 8, 8, 8, 8, 8, 8, 8, 8, 8, 8, 8, 8, 8, 8, 8, 8, 8, 8, 8, 8, 8, 8, 8, 8, 8, 8, 8, 8, 8, 8, 8, 8, 8, 8, 8, 8, 8, 8])).toArray } : ByteArray) = tab
  have hT' : lenTab = tab := hT
  clear hT
  subst hT'
  by_cases c1 : 65536 ≤ x
  · have t1 : (65536 : Int) ≤ x := by omega
    obtain ⟨y1, hv1⟩ : ∃ y1 : Nat, x / 65536 = y1 := ⟨_, rfl⟩
    have e1 : (x : Int) / 65536 = (y1 : Int) := by omega
    have H : Hid (x / 65536 = y1) := hv1
    have b1 : y1 < 65536 ∧ 0 < y1 := by omega
    clear hv1
    by_cases c2 : 256 ≤ y1
    · have t2 : (256 : Int) ≤ y1 := by omega
      obtain ⟨y2, hv2⟩ : ∃ y2 : Nat, y1 / 256 = y2 := ⟨_, rfl⟩
      have e2 : (y1 : Int) / 256 = (y2 : Int) := by omega
      replace H : Hid (x / 16777216 = y2) := (by have := H.out; show _ = _; omega)
      have b2 : y2 < 256 ∧ 0 < y2 := by omega
      clear hv2
      obtain ⟨n, ⟨n1, n2, n3, n4⟩, hn⟩ := len_key y2 (by omega) (by omega)
      have e5 : (y2 : Int) % 256 = y2 := by omega
      have hw : ((n : Int)) ≤ 8 := by omega
      go_wp2
      go_ret
      refine ⟨n + 24, ?_, ⟨by omega, by omega, ?_⟩, rfl⟩
      · show Ending.returned (.int .i64 _) = _
        congr 2
        omega
      · exact len_shift (k := 24) n1 (by rw [show x / 2 ^ 24 = y2 by have := H.out; omega]; exact ⟨n3, n4⟩)
    · have t2 : ¬ (256 : Int) ≤ y1 := by omega
      obtain ⟨n, ⟨n1, n2, n3, n4⟩, hn⟩ := len_key y1 (by omega) (by omega)
      have e5 : (y1 : Int) % 256 = y1 := by omega
      have hw : ((n : Int)) ≤ 8 := by omega
      go_wp2
      go_ret
      refine ⟨n + 16, ?_, ⟨by omega, by omega, ?_⟩, rfl⟩
      · show Ending.returned (.int .i64 _) = _
        congr 2
        omega
      · exact len_shift (k := 16) n1 (by rw [show x / 2 ^ 16 = y1 by have := H.out; omega]; exact ⟨n3, n4⟩)
  · have t1 : ¬ (65536 : Int) ≤ x := by omega
    by_cases c2 : 256 ≤ x
    · have t2 : (256 : Int) ≤ x := by omega
      obtain ⟨y2, hv2⟩ : ∃ y2 : Nat, x / 256 = y2 := ⟨_, rfl⟩
      have e2 : (x : Int) / 256 = (y2 : Int) := by omega
      have H : Hid (x / 256 = y2) := hv2
      have b2 : y2 < 256 ∧ 0 < y2 := by omega
      clear hv2
      obtain ⟨n, ⟨n1, n2, n3, n4⟩, hn⟩ := len_key y2 (by omega) (by omega)
      have e5 : (y2 : Int) % 256 = y2 := by omega
      have hw : ((n : Int)) ≤ 8 := by omega
      go_wp2
      go_ret
      refine ⟨n + 8, ?_, ⟨by omega, by omega, ?_⟩, rfl⟩
      · show Ending.returned (.int .i64 _) = _
        congr 2
        omega
      · exact len_shift (k := 8) n1 (by rw [show x / 2 ^ 8 = y2 by have := H.out; omega]; exact ⟨n3, n4⟩)
    · have t2 : ¬ (256 : Int) ≤ x := by omega
      obtain ⟨n, ⟨n1, n2, n3, n4⟩, hn⟩ := len_key x (by omega) (by omega)
      have e5 : (x : Int) % 256 = x := by omega
      have hw : ((n : Int)) ≤ 8 := by omega
      go_wp2
      go_ret
      refine ⟨n + 0, ?_, ⟨by omega, by omega, ?_⟩, rfl⟩
      · show Ending.returned (.int .i64 _) = _
        congr 2
      · exact ⟨n3, n4⟩

theorem lz32_any (x : Nat) (h0 : 0 < x) (h : x < 4294967296) (w : World) :
    Calls Try.prog 43 #[.int .u32 (x : Int)] w fun e w' => ∃ s : Nat, e = .returned (.int .i64 (s : Int)) ∧ (s ≤ 31 ∧ 2147483648 ≤ x * 2 ^ s ∧ x * 2 ^ s < 4294967296) ∧ w' = w := by
  go_enter Try.func43, Try.ntmps43
  go_wp2_with fail
  refine (len32_any x h0 h w).mono ?_
  rintro e w' ⟨n, rfl, ⟨n1, n2, n3, n4⟩, rfl⟩
  have a1 : (0 : Int) ≤ 32 - (n : Int) := by omega
  have a2 : 32 - (n : Int) ≤ 31 := by omega
  have H3 : Hid (2 ^ (n - 1) ≤ x) := n3
  have H4 : Hid (x < 2 ^ n) := n4
  clear n3 n4
  go_wp2
  go_ret
  refine ⟨32 - n, ?_, ⟨by omega, ?_, ?_⟩, rfl⟩
  · show Ending.returned (.int .i64 _) = _
    congr 2
    omega
  · have := Nat.mul_le_mul_right (2 ^ (32 - n)) H3.out
    rw [← Nat.pow_add, show n - 1 + (32 - n) = 31 by omega] at this
    exact this
  · have := Nat.mul_lt_mul_of_pos_right H4.out (Nat.two_pow_pos (32 - n))
    rw [← Nat.pow_add, show n + (32 - n) = 32 by omega] at this
    exact this
end Go.Proofs.Yteplmnnpmekngab
