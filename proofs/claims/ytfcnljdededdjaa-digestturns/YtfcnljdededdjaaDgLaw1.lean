/-
  What awake answers; DigestNumber and DigestText, walked.
-/
import Derived.Test.YtfcnljdededdjaaDgWhole
namespace Go.Proofs.Ytfcnljdededdjaa
open Go.RowKit Go.Shelf

theorem sl_row1 (V : World) (t : TypeId) : Sl .u32 (V.alloc (.cells #[.int .u32 1] t)) (.slice (some ⟨V.heap.size, 0, none⟩) 1 1) [1] := by
  refine ⟨_, _, rfl, by simp, fun _ => ⟨V.heap.size, 0, rfl, fun j hj => ?_⟩⟩
  obtain rfl : j = 0 := by simpa using hj
  rw [World.cell?_alloc_at _ _ _ _ rfl]
  rfl
theorem hashed_ne (x o : Int) (h : o ≠ -1) : hashed x o ≠ -1 := by
  unfold hashed
  split <;> assumption
def numZ (n : Int) : Int := hashed (bits BinOp.or IntKind.u64 (IntKind.u64.wrap (IntKind.u64.wrap n * 1152921504606846976)) (IntKind.u64.wrap n / 16)) (-2)
theorem numZ_comm (n : Int) : hashed (bits BinOp.or IntKind.u64 (IntKind.u64.wrap n / 16) (IntKind.u64.wrap (IntKind.u64.wrap n * 1152921504606846976))) (-2) = numZ n := by
  unfold numZ
  simp only [bits, BitVec.or_comm]
theorem numZ_eq (n : Int) (h0 : 0 ≤ n) (h1 : n ≤ 2147483647) : numZ n = wrap64 ((n % 16) * 1152921504606846976 + n / 16) := by
  obtain ⟨k, rfl⟩ : ∃ k : Nat, n = (k : Int) := ⟨n.toNat, by omega⟩
  have e1 : IntKind.u64.wrap (k : Int) = (k : Int) := wrap_cast k (by omega)
  have e2 : IntKind.u64.wrap ((k : Int) * 1152921504606846976) = (((k % 16) * 1152921504606846976 : Nat) : Int) := by rw [IntKind.wrap_u64]; omega
  have e3 : (k : Int) / 16 = ((k / 16 : Nat) : Int) := by omega
  unfold numZ
  rw [e1, e2, e3, or_shift _ _ 60 (by omega) (by omega) (by omega) (by omega)]
  unfold hashed
  rw [show (((k % 16 * 1152921504606846976 + k / 16 : Nat)) : Int) = ((k : Int) % 16) * 1152921504606846976 + (k / 16 : Nat) by omega, if_neg]
  unfold wrap64
  omega
theorem numZ_inj (a b : Int) (a0 : 0 ≤ a) (a1 : a ≤ 2147483647) (b0 : 0 ≤ b) (b1 : b ≤ 2147483647) (h : numZ a = numZ b) : a = b := by
  rw [numZ_eq a a0 a1, numZ_eq b b0 b1] at h
  have key : ∀ u v : Int, 0 ≤ u → u < 18446744073709551616 → 0 ≤ v → v < 18446744073709551616 → wrap64 u = wrap64 v → u = v := by
    intro u v _ _ _ _ h
    unfold wrap64 at h
    omega
  have e := key _ _ (by omega) (by omega) (by omega) (by omega) h
  clear h key
  have ha := Int.emod_add_mul_ediv a 16
  have hb := Int.emod_add_mul_ediv b 16
  have hp : a % 16 = b % 16 := by omega
  omega

set_option maxRecDepth 100000 in
theorem awake_any (w : World) : Calls Try.prog 8 #[] w fun e w' => e = .returned (.bool true) ∧ Below w.heap.size w w' := by
  have b0 := below_alloc' w (.cells #[.int .u32 1] 39)
  have s0 := sl_row1 w 39
  have E1 : wh (zv true (val [1])) = -2 := by decide +kernel
  have E2 : hashed (tsum ⟨#[97]⟩ (ByteArray.mk #[97]).size) (-2) = -5808556873153909620 := by decide +kernel
  have E3 : hashed (bits BinOp.or IntKind.u64 (IntKind.u64.wrap (IntKind.u64.wrap 16 * 1152921504606846976)) (IntKind.u64.wrap 16 / 16)) (-2) = 1 := by decide +kernel
  have C1 := whole_any true (some ⟨w.heap.size, 0, none⟩) 1 1 [1] _ s0 (okw_cons.2 ⟨by omega, okw_nil⟩) (by simp)
  have C2 := fun w => text_any ⟨#[97]⟩ w (by decide)
  have C3 := fun w => number_any 16 w
  rw [E1] at C1
  rw [E2] at C2
  rw [E3] at C3
  clear E1 E2 E3 s0
  go_enter Try.func8, Try.ntmps8
  go_wp2_with fail
  refine C1.mono ?_
  rintro e w1 ⟨rfl, hb1⟩
  clear C1
  go_wp2_with fail
  refine (C2 w1).mono ?_
  rintro e w2 ⟨rfl, rfl⟩
  clear C2
  go_wp2_with fail
  refine (C3 _).mono ?_
  rintro e w2 ⟨rfl, rfl⟩
  go_wp2
  go_ret
  exact ⟨rfl, b0.trans (hb1.mono b0.size)⟩

set_option maxRecDepth 100000 in
theorem textLaw_walk (s : ByteArray) (w : World) :
    Calls Try.prog 4 #[.string s] w fun e w' => e = .returned (.bool true) ∧ Below w.heap.size w w' := by
  go_enter Try.func4, Try.ntmps4
  by_cases hl : 3000 < s.size
  · have t1 : (3000 : Int) < s.size := by omega
    go_wp2
    go_ret
    exact ⟨rfl, Below.refl _ _⟩
  · have t1 : ¬ (3000 : Int) < s.size := by omega
    have C1 := fun w => text_any s w (by omega)
    have C2 := fun w => rtext_any s w (by omega)
    have hn := hashed_ne (tsum s s.size) (-2) (by decide)
    obtain ⟨h, hh⟩ : ∃ h, hashed (tsum s s.size) (-2) = h := ⟨_, rfl⟩
    rw [hh] at C1 C2 hn
    have hn2 : (h != -1) = true := by simpa using hn
    clear hh
    go_wp2_with fail
    refine (C1 _).mono ?_
    rintro e w1 ⟨rfl, rfl⟩
    go_wp2_with fail
    refine (C2 _).mono ?_
    rintro e w1 ⟨rfl, rfl⟩
    go_wp2_with fail
    refine (C1 _).mono ?_
    rintro e w1 ⟨rfl, rfl⟩
    go_wp2_with fail
    refine (awake_any _).mono ?_
    rintro e w2 ⟨rfl, hb⟩
    go_wp2
    go_ret
    exact ⟨rfl, hb⟩

set_option maxRecDepth 100000 in
set_option maxHeartbeats 1000000 in
theorem numberLaw_walk (a b : Int) (w : World) :
    Calls Try.prog 7 #[.int .i64 a, .int .i64 b] w fun e w' => e = .returned (.bool true) ∧ Below w.heap.size w w' := by
  have C1 := fun w => number_any a w
  have C2 := fun w => number_any b w
  have C3 := fun w => rnumber_any a w
  rw [numZ_comm] at C3
  rw [show (hashed (bits BinOp.or IntKind.u64 (IntKind.u64.wrap (IntKind.u64.wrap a * 1152921504606846976)) (IntKind.u64.wrap a / 16)) (-2)) = numZ a from rfl] at C1
  rw [show (hashed (bits BinOp.or IntKind.u64 (IntKind.u64.wrap (IntKind.u64.wrap b * 1152921504606846976)) (IntKind.u64.wrap b / 16)) (-2)) = numZ b from rfl] at C2
  have n1 : numZ a ≠ -1 := hashed_ne _ _ (by decide)
  have n2 : numZ b ≠ -1 := hashed_ne _ _ (by decide)
  have HI : Hid (0 ≤ a → a ≤ 2147483647 → 0 ≤ b → b ≤ 2147483647 → numZ a = numZ b → a = b) := numZ_inj a b
  have HE : Hid (a = b → numZ a = numZ b) := fun h => by rw [h]
  obtain ⟨X, hX⟩ : ∃ X, numZ a = X := ⟨_, rfl⟩
  obtain ⟨Y, hY⟩ : ∃ Y, numZ b = Y := ⟨_, rfl⟩
  rw [hX] at C1 C3 n1 HI HE
  rw [hY] at C2 n2 HI HE
  clear hX hY
  have m1 : (X == -1) = false := by simpa using n1
  have m2 : (Y == -1) = false := by simpa using n2
  go_enter Try.func7, Try.ntmps7
  go_wp2_with fail
  refine (C1 _).mono ?_
  rintro e w1 ⟨rfl, rfl⟩
  go_wp2_with fail
  refine (C2 _).mono ?_
  rintro e w1 ⟨rfl, rfl⟩
  go_wp2_with fail
  refine (C3 _).mono ?_
  rintro e w1 ⟨rfl, rfl⟩
  clear C1 C2 C3
  by_cases h1 : 0 ≤ a
  · skip
    by_cases h2 : a ≤ 2147483647
    · skip
      by_cases h3 : 0 ≤ b
      · skip
        by_cases h4 : b ≤ 2147483647
        · skip
          by_cases hab : a = b
          · have hxy := HE.out hab
            subst hab; subst hxy
            go_wp2_with fail
            refine (awake_any _).mono ?_
            rintro e w2 ⟨rfl, hb⟩
            go_wp2
            go_ret
            exact ⟨rfl, hb⟩
          · have hxy : ¬ X = Y := fun h => hab (HI.out h1 h2 h3 h4 h)
            have f1 : (X == Y) = false := by simpa using hxy
            have f2 : (a == b) = false := by simpa using hab
            go_wp2_with fail
            refine (awake_any _).mono ?_
            rintro e w2 ⟨rfl, hb⟩
            go_wp2
            go_ret
            exact ⟨rfl, hb⟩
        · clear HI HE
          go_wp2_with fail
          refine (awake_any _).mono ?_
          rintro e w2 ⟨rfl, hb⟩
          go_wp2
          go_ret
          exact ⟨rfl, hb⟩
      · clear HI HE
        go_wp2_with fail
        refine (awake_any _).mono ?_
        rintro e w2 ⟨rfl, hb⟩
        go_wp2
        go_ret
        exact ⟨rfl, hb⟩
    · clear HI HE
      go_wp2_with fail
      refine (awake_any _).mono ?_
      rintro e w2 ⟨rfl, hb⟩
      go_wp2
      go_ret
      exact ⟨rfl, hb⟩
  · clear HI HE
    go_wp2_with fail
    refine (awake_any _).mono ?_
    rintro e w2 ⟨rfl, hb⟩
    go_wp2
    go_ret
    exact ⟨rfl, hb⟩
end Go.Proofs.Ytfcnljdededdjaa
