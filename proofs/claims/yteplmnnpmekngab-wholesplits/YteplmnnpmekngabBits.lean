/-
  What math/bits' Len64, LeadingZeros64 do.
-/
import Derived.Test.YteplmnnpmekngabRows
import Derived.Test.YteplmnnpmekngabMem
import Derived.Deep.CutRange
namespace Go.Proofs.Yteplmnnpmekngab
open Go.RowKit

def lenTab : ByteArray := { data := ((([0, 1, 2, 2, 3, 3, 3, 3, 4, 4, 4, 4, 4, 4, 4, 4, 5, 5, 5, 5, 5, 5, 5, 5, 5, 5, 5, 5, 5, 5, 5, 5, 6, 6, 6, 6, 6, 6, 6, 6, 6, 6, 6, 6, 6, 6, 6, 6, 6, 6, 6, 6, 6, 6, 6, 6, 6, 6, 6, 6, 6, 6, 6, 6] : List UInt8).append [7, 7, 7, 7, 7, 7, 7, 7, 7, 7, 7, 7, 7, 7, 7, 7, 7, 7, 7, 7, 7, 7, 7, 7, 7, 7, 7, 7, 7, 7, 7, 7, 7, 7, 7, 7, 7, 7, 7, 7, 7, 7, 7, 7, 7, 7, 7, 7, 7, 7, 7, 7, 7, 7, 7, 7, 7, 7, 7, 7, 7, 7, 7, 7]).append (List.append [8, 8, 8, 8, 8, 8, 8, 8, 8, 8, 8, 8, 8, 8, 8, 8, 8, 8, 8, 8, 8, 8, 8, 8, 8, 8, 8, 8, 8, 8, 8, 8, 8, 8, 8, 8, 8, 8, 8, 8, 8, 8, 8, 8, 8, 8, 8, 8, 8, 8, 8, 8, 8, 8, 8, 8, 8, 8, 8, 8, 8, 8, 8, 8] [8, 8, 8, 8, 8, 8, 8, 8, 8, 8, 8, 8, 8, 8, 8, 8, 8, 8, 8, 8, 8, 8, 8, 8, 8, 8, 8, 8, 8, 8, 8, 8, 8, 8, 8, 8, 8, 8, 8, 8, 8, 8, 8, 8, 8, 8, 8, 8, 8, 8, 8, 8, 8, 8, 8, 8, 8, 8, 8, 8, 8, 8, 8, 8])).toArray }
theorem lenTab_size : lenTab.size = 256 := by decide +kernel

theorem len_tab : ∀ i : Fin 256, 0 < i.val → 1 ≤ (lenTab[i.val]'(by rw [lenTab_size]; exact i.isLt)).toNat ∧ (lenTab[i.val]'(by rw [lenTab_size]; exact i.isLt)).toNat ≤ 8 ∧ 2 ^ ((lenTab[i.val]'(by rw [lenTab_size]; exact i.isLt)).toNat - 1) ≤ i.val ∧ i.val < 2 ^ ((lenTab[i.val]'(by rw [lenTab_size]; exact i.isLt)).toNat) := by
  decide +kernel

theorem len_key (i : Nat) (hi0 : 0 < i) (hi : i < 256) : ∃ n : Nat, (1 ≤ n ∧ n ≤ 8 ∧ 2 ^ (n - 1) ≤ i ∧ i < 2 ^ n) ∧ ∀ w, (Instr.index 9 (.string lenTab) (.int .u8 (i : Int))).run Try.prog w = .ok (.int .u8 (n : Int)) w := by
  refine ⟨_, len_tab ⟨i, hi⟩ hi0, fun w => ?_⟩
  rw [run_index_string w 9 lenTab .u8 (i : Int) (by kernel_rfl), dif_pos ⟨by omega, by rw [lenTab_size]; omega⟩]
  rfl

theorem len_shift {x n k : Nat} (h1 : 1 ≤ n) (h : 2 ^ (n - 1) ≤ x / 2 ^ k ∧ x / 2 ^ k < 2 ^ n) : 2 ^ (n + k - 1) ≤ x ∧ x < 2 ^ (n + k) := by
  have p : 0 < 2 ^ k := Nat.two_pow_pos k
  rw [Nat.le_div_iff_mul_le p, Nat.div_lt_iff_lt_mul p] at h
  rw [show n + k - 1 = (n - 1) + k by omega, Nat.pow_add, Nat.pow_add]
  exact h

set_option maxRecDepth 1000000 in
set_option maxHeartbeats 2000000 in
theorem len64_any (x : Nat) (h0 : 0 < x) (h : x < 18446744073709551616) (w : World) :
    Calls Try.prog 48 #[.int .u64 (x : Int)] w fun e w' => ∃ n : Nat, e = .returned (.int .i64 (n : Int)) ∧ (1 ≤ n ∧ n ≤ 64 ∧ 2 ^ (n - 1) ≤ x ∧ x < 2 ^ n) ∧ w' = w := by
  go_enter Try.func48, Try.ntmps48
  generalize hT : ({ data := ((([0, 1, 2, 2, 3, 3, 3, 3, 4, 4, 4, 4, 4, 4, 4, 4, 5, 5, 5, 5, 5, 5, 5, 5, 5, 5, 5, 5, 5, 5, 5, 5, 6, 6, 6, 6, 6, 6, 6, 6, 6, 6, 6, 6, 6, 6, 6, 6, 6, 6, 6, 6, 6, 6, 6, 6, 6, 6, 6, 6, 6, 6, 6, 6] : List UInt8).append [7, 7, 7, 7, 7, 7, 7, 7, 7, 7, 7, 7, 7, 7, 7, 7, 7, 7, 7, 7, 7, 7, 7, 7, 7, 7, 7, 7, 7, 7, 7, 7, 7, 7, 7, 7, 7, 7, 7, 7, 7, 7, 7, 7, 7, 7, 7, 7, 7, 7, 7, 7, 7, 7, 7, 7, 7, 7, 7, 7, 7, 7, 7, 7]).append (List.append [8, 8, 8, 8, 8, 8, 8, 8, 8, 8, 8, 8, 8, 8, 8, 8, 8, 8, 8, 8, 8, 8, 8, 8, 8, 8, 8, 8, 8, 8, 8, 8, 8, 8, 8, 8, 8, 8, 8, 8, 8, 8, 8, 8, 8, 8, 8, 8, 8, 8, 8, 8, 8, 8, 8, 8, 8, 8, 8, 8, 8, 8, 8, 8] [8, 8, 8, 8, 8, 8, 8, 8, 8, 8, 8, 8, 8, 8, 8, 8, 8, 8, 8, 8, 8, 8, 8, 8, 8, 8, 8, 8, 8, 8, 8, 8, 8, 8, 8, 8, 8, 8, 8, 8, 8, 8, 8, 8, 8, 8, 8, 8, 8, 8, 8, 8, 8, 8, 8, 8, 8, 8, 8, 8, 8, 8, 8, 8])).toArray } : ByteArray) = tab
  have hT' : lenTab = tab := hT
  clear hT
  subst hT'
  by_cases c0 : 4294967296 ≤ x
  · have t0 : (4294967296 : Int) ≤ x := by omega
    obtain ⟨y0, hv0⟩ : ∃ y0 : Nat, x / 4294967296 = y0 := ⟨_, rfl⟩
    have e0 : (x : Int) / 4294967296 = (y0 : Int) := by omega
    have H : Hid (x / 4294967296 = y0) := hv0
    have b0 : y0 < 4294967296 ∧ 0 < y0 := by omega
    clear hv0
    by_cases c1 : 65536 ≤ y0
    · have t1 : (65536 : Int) ≤ y0 := by omega
      obtain ⟨y1, hv1⟩ : ∃ y1 : Nat, y0 / 65536 = y1 := ⟨_, rfl⟩
      have e1 : (y0 : Int) / 65536 = (y1 : Int) := by omega
      replace H : Hid (x / 281474976710656 = y1) := (by have := H.out; show _ = _; omega)
      have b1 : y1 < 65536 ∧ 0 < y1 := by omega
      clear hv1
      by_cases c2 : 256 ≤ y1
      · have t2 : (256 : Int) ≤ y1 := by omega
        obtain ⟨y2, hv2⟩ : ∃ y2 : Nat, y1 / 256 = y2 := ⟨_, rfl⟩
        have e2 : (y1 : Int) / 256 = (y2 : Int) := by omega
        replace H : Hid (x / 72057594037927936 = y2) := (by have := H.out; show _ = _; omega)
        have b2 : y2 < 256 ∧ 0 < y2 := by omega
        clear hv2
        obtain ⟨n, ⟨n1, n2, n3, n4⟩, hn⟩ := len_key y2 (by omega) (by omega)
        have e5 : (y2 : Int) % 256 = y2 := by omega
        have hw : ((n : Int)) ≤ 8 := by omega
        go_wp2
        go_ret
        refine ⟨n + 56, ?_, ⟨by omega, by omega, ?_⟩, rfl⟩
        · show Ending.returned (.int .i64 _) = _
          congr 2
          omega
        · exact len_shift (k := 56) n1 (by rw [show x / 2 ^ 56 = y2 by have := H.out; omega]; exact ⟨n3, n4⟩)
      · have t2 : ¬ (256 : Int) ≤ y1 := by omega
        obtain ⟨n, ⟨n1, n2, n3, n4⟩, hn⟩ := len_key y1 (by omega) (by omega)
        have e5 : (y1 : Int) % 256 = y1 := by omega
        have hw : ((n : Int)) ≤ 8 := by omega
        go_wp2
        go_ret
        refine ⟨n + 48, ?_, ⟨by omega, by omega, ?_⟩, rfl⟩
        · show Ending.returned (.int .i64 _) = _
          congr 2
          omega
        · exact len_shift (k := 48) n1 (by rw [show x / 2 ^ 48 = y1 by have := H.out; omega]; exact ⟨n3, n4⟩)
    · have t1 : ¬ (65536 : Int) ≤ y0 := by omega
      by_cases c2 : 256 ≤ y0
      · have t2 : (256 : Int) ≤ y0 := by omega
        obtain ⟨y2, hv2⟩ : ∃ y2 : Nat, y0 / 256 = y2 := ⟨_, rfl⟩
        have e2 : (y0 : Int) / 256 = (y2 : Int) := by omega
        replace H : Hid (x / 1099511627776 = y2) := (by have := H.out; show _ = _; omega)
        have b2 : y2 < 256 ∧ 0 < y2 := by omega
        clear hv2
        obtain ⟨n, ⟨n1, n2, n3, n4⟩, hn⟩ := len_key y2 (by omega) (by omega)
        have e5 : (y2 : Int) % 256 = y2 := by omega
        have hw : ((n : Int)) ≤ 8 := by omega
        go_wp2
        go_ret
        refine ⟨n + 40, ?_, ⟨by omega, by omega, ?_⟩, rfl⟩
        · show Ending.returned (.int .i64 _) = _
          congr 2
          omega
        · exact len_shift (k := 40) n1 (by rw [show x / 2 ^ 40 = y2 by have := H.out; omega]; exact ⟨n3, n4⟩)
      · have t2 : ¬ (256 : Int) ≤ y0 := by omega
        obtain ⟨n, ⟨n1, n2, n3, n4⟩, hn⟩ := len_key y0 (by omega) (by omega)
        have e5 : (y0 : Int) % 256 = y0 := by omega
        have hw : ((n : Int)) ≤ 8 := by omega
        go_wp2
        go_ret
        refine ⟨n + 32, ?_, ⟨by omega, by omega, ?_⟩, rfl⟩
        · show Ending.returned (.int .i64 _) = _
          congr 2
          omega
        · exact len_shift (k := 32) n1 (by rw [show x / 2 ^ 32 = y0 by have := H.out; omega]; exact ⟨n3, n4⟩)
  · have t0 : ¬ (4294967296 : Int) ≤ x := by omega
    by_cases c1 : 65536 ≤ x
    · have t1 : (65536 : Int) ≤ x := by omega
      obtain ⟨y1, hv1⟩ : ∃ y1 : Nat, x / 65536 = y1 := ⟨_, rfl⟩
      have e1 : (x : Int) / 65536 = (y1 : Int) := by omega
      have H : Hid (x / 65536 = y1) := hv1
      have b1 : y1 < 65536 ∧ 0 < y1 := by omega
      clear hv1
      by_cases c2 : 256 ≤ y1
      · have t2 : (256 : Int) ≤ y1 := by omega
        obtain ⟨y2, hv2⟩ : ∃ y2 : Nat, y1 / 256 = y2 := ⟨_, rfl⟩
        have e2 : (y1 : Int) / 256 = (y2 : Int) := by omega
        replace H : Hid (x / 16777216 = y2) := (by have := H.out; show _ = _; omega)
        have b2 : y2 < 256 ∧ 0 < y2 := by omega
        clear hv2
        obtain ⟨n, ⟨n1, n2, n3, n4⟩, hn⟩ := len_key y2 (by omega) (by omega)
        have e5 : (y2 : Int) % 256 = y2 := by omega
        have hw : ((n : Int)) ≤ 8 := by omega
        go_wp2
        go_ret
        refine ⟨n + 24, ?_, ⟨by omega, by omega, ?_⟩, rfl⟩
        · show Ending.returned (.int .i64 _) = _
          congr 2
          omega
        · exact len_shift (k := 24) n1 (by rw [show x / 2 ^ 24 = y2 by have := H.out; omega]; exact ⟨n3, n4⟩)
      · have t2 : ¬ (256 : Int) ≤ y1 := by omega
        obtain ⟨n, ⟨n1, n2, n3, n4⟩, hn⟩ := len_key y1 (by omega) (by omega)
        have e5 : (y1 : Int) % 256 = y1 := by omega
        have hw : ((n : Int)) ≤ 8 := by omega
        go_wp2
        go_ret
        refine ⟨n + 16, ?_, ⟨by omega, by omega, ?_⟩, rfl⟩
        · show Ending.returned (.int .i64 _) = _
          congr 2
          omega
        · exact len_shift (k := 16) n1 (by rw [show x / 2 ^ 16 = y1 by have := H.out; omega]; exact ⟨n3, n4⟩)
    · have t1 : ¬ (65536 : Int) ≤ x := by omega
      by_cases c2 : 256 ≤ x
      · have t2 : (256 : Int) ≤ x := by omega
        obtain ⟨y2, hv2⟩ : ∃ y2 : Nat, x / 256 = y2 := ⟨_, rfl⟩
        have e2 : (x : Int) / 256 = (y2 : Int) := by omega
        have H : Hid (x / 256 = y2) := hv2
        have b2 : y2 < 256 ∧ 0 < y2 := by omega
        clear hv2
        obtain ⟨n, ⟨n1, n2, n3, n4⟩, hn⟩ := len_key y2 (by omega) (by omega)
        have e5 : (y2 : Int) % 256 = y2 := by omega
        have hw : ((n : Int)) ≤ 8 := by omega
        go_wp2
        go_ret
        refine ⟨n + 8, ?_, ⟨by omega, by omega, ?_⟩, rfl⟩
        · show Ending.returned (.int .i64 _) = _
          congr 2
          omega
        · exact len_shift (k := 8) n1 (by rw [show x / 2 ^ 8 = y2 by have := H.out; omega]; exact ⟨n3, n4⟩)
      · have t2 : ¬ (256 : Int) ≤ x := by omega
        obtain ⟨n, ⟨n1, n2, n3, n4⟩, hn⟩ := len_key x (by omega) (by omega)
        have e5 : (x : Int) % 256 = x := by omega
        have hw : ((n : Int)) ≤ 8 := by omega
        go_wp2
        go_ret
        refine ⟨n + 0, ?_, ⟨by omega, by omega, ?_⟩, rfl⟩
        · show Ending.returned (.int .i64 _) = _
          congr 2
        · exact ⟨n3, n4⟩

/-- The shift that sets the highest bit. -/
theorem lz64_any (x : Nat) (h0 : 0 < x) (h : x < 18446744073709551616) (w : World) :
    Calls Try.prog 41 #[.int .u64 (x : Int)] w fun e w' => ∃ s : Nat, e = .returned (.int .i64 (s : Int)) ∧ (s ≤ 63 ∧ 9223372036854775808 ≤ x * 2 ^ s ∧ x * 2 ^ s < 18446744073709551616) ∧ w' = w := by
  go_enter Try.func41, Try.ntmps41
  go_wp2_with fail
  refine (len64_any x h0 h w).mono ?_
  rintro e w' ⟨n, rfl, ⟨n1, n2, n3, n4⟩, rfl⟩
  have a1 : (0 : Int) ≤ 64 - (n : Int) := by omega
  have a2 : 64 - (n : Int) ≤ 63 := by omega
  have H3 : Hid (2 ^ (n - 1) ≤ x) := n3
  have H4 : Hid (x < 2 ^ n) := n4
  clear n3 n4
  go_wp2
  go_ret
  refine ⟨64 - n, ?_, ⟨by omega, ?_, ?_⟩, rfl⟩
  · show Ending.returned (.int .i64 _) = _
    congr 2
    omega
  · have := Nat.mul_le_mul_right (2 ^ (64 - n)) H3.out
    rw [← Nat.pow_add, show n - 1 + (64 - n) = 63 by omega] at this
    exact this
  · have := Nat.mul_lt_mul_of_pos_right H4.out (Nat.two_pow_pos (64 - n))
    rw [← Nat.pow_add, show n + (64 - n) = 64 by omega] at this
    exact this
end Go.Proofs.Yteplmnnpmekngab
