/-
  TrailAlike, walked.
-/
import Derived.Laws.BitsAllLaws
import Derived.Test.YtddgkdjpklegnaaTrCells
namespace Go.Proofs.Ytddgkdjpklegnaa
open Go.RowKit Go.WideShapes Go.Proofs.Ytddgkdjpklegnaa.Tr

theorem w64 (n : Int) (h0 : 0 ≤ n) (h1 : n < 2 ^ 64) : IntKind.u64.wrap n = n := by
  rw [show (2 : Int) ^ 64 = 18446744073709551616 from rfl] at h1
  rw [IntKind.wrap_u64]
  omega
theorem pow_le63 (e : Nat) (he : e ≤ 63) : 2 ^ e ≤ 9223372036854775808 := Nat.le_trans (Nat.pow_le_pow_right (by decide) he) (by decide)
/-- The low digits of a and the high ones of b. -/
theorem twin_nat (a b e P : Nat) (hP : 2 ^ e = P) (he : e ≤ 63) (ha : a < 18446744073709551616) (hb : b < 18446744073709551616) : ∃ x y T : Nat, T < 18446744073709551616 ∧ T % P = a % P ∧
    bits BinOp.and IntKind.u64 (a : Int) ((P : Int) - 1) = (x : Int) ∧ bits BinOp.andNot IntKind.u64 (b : Int) ((P : Int) - 1) = (y : Int) ∧ bits BinOp.or IntKind.u64 (x : Int) (y : Int) = (T : Int) := by
  have h1 : 1 ≤ P := by rw [← hP]; exact pow2_pos e
  have h2 : P ≤ 9223372036854775808 := by rw [← hP]; exact pow_le63 e he
  have hPi : (2 : Int) ^ e = (P : Int) := by rw [← hP]; push_cast; rfl
  have c64 : (2 : Int) ^ 64 = 18446744073709551616 := rfl
  have m1 := bits_mask .u64 64 (by decide) w64 e (by omega) (a : Int) (by omega) (by rw [c64]; omega)
  rw [hPi, ← Int.natCast_emod] at m1
  have m2 := u64_andNot_nat b (P - 1) hb (by omega)
  rw [show ((P - 1 : Nat) : Int) = (P : Int) - 1 by omega] at m2
  obtain ⟨y, hy⟩ : ∃ y, b &&& (18446744073709551615 - (P - 1)) = y := ⟨_, rfl⟩
  have hy1 : y < 18446744073709551616 := by
    have : y ≤ b := by rw [← hy]; exact Nat.and_le_left
    omega
  have hy2 : y % P = 0 := by
    rw [← hy, ← hP, Nat.and_mod_two_pow]
    have : (18446744073709551615 - (2 ^ e - 1)) % 2 ^ e = 0 := by
      have h64 : (18446744073709551616 : Nat) = 2 ^ e * 2 ^ (64 - e) := by rw [← Nat.pow_add, show e + (64 - e) = 64 by omega]
      rw [show 18446744073709551615 - (2 ^ e - 1) = 18446744073709551616 - 2 ^ e by rw [hP]; omega, h64]
      rw [show 2 ^ e * 2 ^ (64 - e) - 2 ^ e = 2 ^ e * (2 ^ (64 - e) - 1) by rw [Nat.mul_sub, Nat.mul_one]]
      exact Nat.mul_mod_right _ _
    rw [this, Nat.and_zero]
  rw [hy] at m2
  have hx : a % P < P := Nat.mod_lt _ h1
  have hsum : a % P + y < 18446744073709551616 := by
    obtain ⟨q, hq⟩ : ∃ q, y = P * q := ⟨y / P, by have := Nat.div_add_mod y P; omega⟩
    have h64 : (18446744073709551616 : Nat) = P * 2 ^ (64 - e) := by rw [← hP, ← Nat.pow_add, show e + (64 - e) = 64 by omega]
    rw [hq, h64] at hy1
    have h3 : q < 2 ^ (64 - e) := Nat.lt_of_mul_lt_mul_left hy1
    rw [hq, h64]
    have h4 : P * (q + 1) ≤ P * 2 ^ (64 - e) := Nat.mul_le_mul_left P h3
    rw [Nat.mul_add, Nat.mul_one] at h4
    omega
  have m3 := bits_join .u64 64 (by decide) w64 e (y : Int) ((a % P : Nat) : Int) (by omega) (by rw [hPi, ← Int.natCast_emod, hy2]; rfl) (by rw [c64]; omega) (by omega) (by rw [hPi]; omega) (by rw [c64]; omega)
  have m4 : bits BinOp.or IntKind.u64 ((a % P : Nat) : Int) (y : Int) = ((a % P + y : Nat) : Int) := by
    have hc := (bits_nat .u64 64 (by decide) w64 (a % P) y (by omega) (by omega)).2
    have hd := (bits_nat .u64 64 (by decide) w64 y (a % P) (by omega) (by omega)).2
    rw [hc, Nat.or_comm, ← hd, m3]
    omega
  refine ⟨a % P, y, a % P + y, hsum, ?_, m1, m2, m4⟩
  rw [Nat.add_mod, hy2, Nat.add_zero, Nat.mod_mod, Nat.mod_mod]
theorem uw_wrap (T : Nat) (h : T < 18446744073709551616) : uw (IntKind.i64.wrap (T : Int)) = T := by
  unfold uw
  rw [IntKind.wrap_u64, IntKind.wrap_i64]
  omega

set_option maxRecDepth 100000 in
set_option maxHeartbeats 4000000 in
theorem alikeLaw_near (h o : Int) {L S : Nat} (hS : Sz L S) (k : Nat) (hk : k ≤ 11) (hLk : L + 5 * k ≤ 63) (w : World) :
    Calls Try.prog 6 #[.int .i64 h, .int .i64 o, .int .i64 (L : Int), .int .i64 (k : Int)] w fun e w' => e = .returned (.bool true) ∧ Below w.heap.size w w' := by
  have hle := hS.le
  have u1 := uw_int h
  have u2 := uw_int o
  obtain ⟨x, y, T, hT, hTm, b1, b2, b3⟩ := twin_nat (uw h) (uw o) (L + 5 * k) _ rfl hLk (uw_lt h) (uw_lt o)
  obtain ⟨n, hn⟩ : ∃ n, n = min (S + 13) (k + 1) := ⟨_, rfl⟩
  have hrow : row (uw (IntKind.i64.wrap (T : Int))) L n = row (uw h) L n := by
    rw [uw_wrap T hT]
    unfold row
    refine List.map_congr_left fun i hi => ?_
    have hi' : i < n := List.mem_range.1 hi
    rw [trl_alike T (uw h) L k hTm i (by omega)]
  have C1 := Lib.hid (fun w => cells_any hS h (k + 1) n (by omega) (by omega) hn w)
  have C2 := Lib.hid (fun w => cells_any hS (IntKind.i64.wrap (T : Int)) (k + 1) n (by omega) (by omega) hn w)
  rw [hrow] at C2
  have hX := row_len (uw h) L n
  generalize row (uw h) L n = X at C1 C2 hX
  have hX3 : X.length ≤ 3000 := by omega
  subst hX
  have f0 : ((2 ^ (L + 5 * k) : Nat) : Int) = (2 : Int) ^ (L + 5 * k) := by push_cast; rfl
  have hP1 := pow2_pos (L + 5 * k)
  have hP2 := pow_le63 (L + 5 * k) hLk
  obtain ⟨e, he⟩ : ∃ e, L + 5 * k = e := ⟨_, rfl⟩
  have f1 : IntKind.i64.wrap (5 * (k : Int)) = ((5 * k : Nat) : Int) := by rw [IntKind.wrap_i64]; omega
  have f2 : IntKind.i64.wrap ((L : Int) + ((5 * k : Nat) : Int)) = (e : Int) := by rw [IntKind.wrap_i64]; omega
  rw [he] at b1 b2 f0 hP1 hP2 hLk
  have f3 : IntKind.u64.wrap ((2 : Int) ^ e) = ((2 ^ e : Nat) : Int) := by rw [← f0, IntKind.wrap_u64]; omega
  generalize 2 ^ e = P at b1 b2 f3 hP1 hP2
  have f4 : IntKind.u64.wrap ((P : Int) - 1) = (P : Int) - 1 := by rw [IntKind.wrap_u64]; omega
  have f5 : IntKind.i64.wrap ((k : Int) + 1) = ((k + 1 : Nat) : Int) := by rw [IntKind.wrap_i64]; omega
  have i1 : ¬ (L : Int) < 0 := by omega
  have i2 : ¬ 20 < (L : Int) := by omega
  have i3 : ¬ (k : Int) < 0 := by omega
  have i4 : ¬ 11 < (k : Int) := by omega
  have i5 : ¬ 63 < (e : Int) := by omega
  have f7 : wrap64 (T : Int) = IntKind.i64.wrap (T : Int) := by simp only [wrap64, IntKind.wrap_i64]
  generalize IntKind.i64.wrap (T : Int) = t at C2 f7
  rw [show ((k + 1 : Nat) : Int) = (k : Int) + 1 by omega] at C1 C2 f5
  generalize 5 * k = k5 at f1 f2
  clear f0 hn hrow hTm he
  go_enter Try.func6, Try.ntmps6
  go_wp2_with fail
  refine (C1.out _).mono ?_
  rintro e w1 ⟨a, cap, rfl, hSl, hb1⟩
  go_wp2_with fail
  refine (C2.out _).mono ?_
  rintro e w2 ⟨a', cap', rfl, hSl', hb2⟩
  have CM := same_any _ _ _ _ _ _ _ w2 (hSl.below hb2) hSl' hX3
  replace hb2 := hb1.trans (hb2.mono hb1.size)
  clear C1 C2 hb1 hSl hSl'
  go_wp2_with fail
  refine CM.mono ?_
  rintro e w3 ⟨rfl, hb3⟩
  replace hb3 := hb2.trans (hb3.mono hb2.size)
  clear CM hb2
  go_wp2_with fail
  refine (awake_any _).mono ?_
  rintro e w4 ⟨rfl, hb4⟩
  replace hb4 := hb3.trans (hb4.mono hb3.size)
  clear hb3
  go_wp2
  go_ret
  exact ⟨rfl, hb4⟩
set_option maxRecDepth 100000 in
theorem alikeLaw_walk (h o l m : Int) (w : World) :
    Calls Try.prog 6 #[.int .i64 h, .int .i64 o, .int .i64 l, .int .i64 m] w fun e w' => e = .returned (.bool true) ∧ Below w.heap.size w w' := by
  rcases log_cases l with ⟨L, S, rfl, hS⟩ | hl
  · by_cases hm : 0 ≤ m ∧ m ≤ 11
    · obtain ⟨k, rfl⟩ : ∃ k : Nat, m = (k : Int) := ⟨m.toNat, by omega⟩
      by_cases hk : L + 5 * k ≤ 63
      · exact alikeLaw_near h o hS k (by omega) hk w
      · have hle := hS.le
        have f1 : IntKind.i64.wrap (5 * (k : Int)) = ((5 * k : Nat) : Int) := by rw [IntKind.wrap_i64]; omega
        have f2 : IntKind.i64.wrap ((L : Int) + ((5 * k : Nat) : Int)) = ((L + 5 * k : Nat) : Int) := by rw [IntKind.wrap_i64]; omega
        have i1 : ¬ (L : Int) < 0 := by omega
        have i2 : ¬ 20 < (L : Int) := by omega
        have i3 : ¬ (k : Int) < 0 := by omega
        have i4 : ¬ 11 < (k : Int) := by omega
        have i5 : 63 < ((L + 5 * k : Nat) : Int) := by omega
        generalize L + 5 * k = e at f2 i5
        generalize 5 * k = k5 at f1 f2
        clear hk hm hS
        go_enter Try.func6, Try.ntmps6
        go_wp2_with fail
        refine (awake_any _).mono ?_
        rintro e w4 ⟨rfl, hb4⟩
        go_wp2
        go_ret
        exact ⟨rfl, hb4⟩
    · have hle := hS.le
      have i1 : ¬ (L : Int) < 0 := by omega
      have i2 : ¬ 20 < (L : Int) := by omega
      go_enter Try.func6, Try.ntmps6
      by_cases i3 : m < 0
      case' neg => have i4 : 11 < m := by omega
      all_goals
        clear hm hS
        go_wp2_with fail
        refine (awake_any _).mono ?_
        rintro e w4 ⟨rfl, hb4⟩
        go_wp2
        go_ret
        exact ⟨rfl, hb4⟩
  · go_enter Try.func6, Try.ntmps6
    by_cases i3 : l < 0
    case' neg => have i4 : 20 < l := by omega
    all_goals
      clear hl
      go_wp2_with fail
      refine (awake_any _).mono ?_
      rintro e w4 ⟨rfl, hb4⟩
      go_wp2
      go_ret
      exact ⟨rfl, hb4⟩
end Go.Proofs.Ytddgkdjpklegnaa
