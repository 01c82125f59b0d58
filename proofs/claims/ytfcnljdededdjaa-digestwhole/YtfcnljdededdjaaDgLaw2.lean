/-
  DigestWhole, walked.
-/
import Derived.Test.YtfcnljdededdjaaDgLaw1
namespace Go.Proofs.Ytfcnljdededdjaa
open Go.RowKit Go.Shelf

theorem left_neg (z : Int) : left (-z) = -left z := by
  unfold left
  rw [Int.natAbs_neg]
  by_cases h : z < 0
  · rw [if_neg (by omega), if_pos h]; omega
  · by_cases h0 : z = 0
    · subst h0; rfl
    · rw [if_pos (by omega), if_neg h]
/-- A number's hash and the hash of the one of the other sign. -/
theorem wh_two (z : Int) : (wh z = -2 ∧ wh (-z) = 1) ∨ (wh z = 1 ∧ wh (-z) = -2) ∨ wh (-z) = -wh z := by
  rw [wh_eq, wh_eq, left_neg]
  by_cases h1 : left z = -1
  · rw [h1]; simp
  · by_cases h2 : left z = 1
    · rw [h2]; simp
    · rw [if_neg h1, if_neg (by omega)]; simp
theorem wh_bd (z : Int) : -2305843009213693951 < wh z ∧ wh z < 2305843009213693951 ∧ wh z ≠ -1 := by
  have := left_bd z
  rw [wh_eq]
  split <;> omega
theorem wh_small (z : Int) (h1 : -2305843009213693951 < z) (h2 : z < 2305843009213693951) (h3 : z ≠ -1) : wh z = z := by
  have e : left z = z := by
    unfold left
    rw [Nat.mod_eq_of_lt (by omega)]
    split <;> omega
  rw [wh_eq, e, if_neg h3]
/-- What Small says, as the law asks it. -/
theorem small_cases (z : Int) : smallOk z = false ∨ (smallOk z = true ∧ (smallZ z ≤ -2305843009213693951 ∨ (-2305843009213693951 < smallZ z ∧ 2305843009213693951 ≤ smallZ z) ∨ smallZ z = -1 ∨ (-2305843009213693951 < smallZ z ∧ smallZ z < 2305843009213693951 ∧ smallZ z ≠ -1 ∧ wh z = smallZ z))) := by
  by_cases h : -9223372036854775808 ≤ z ∧ z ≤ 9223372036854775807
  · right
    have e : smallZ z = z := by unfold smallZ; rw [if_pos h]
    refine ⟨by unfold smallOk; simpa using h, ?_⟩
    rw [e]
    by_cases h1 : z ≤ -2305843009213693951
    · exact .inl h1
    · by_cases h2 : 2305843009213693951 ≤ z
      · exact .inr (.inl ⟨by omega, h2⟩)
      · by_cases h3 : z = -1
        · exact .inr (.inr (.inl h3))
        · exact .inr (.inr (.inr ⟨by omega, by omega, h3, wh_small z (by omega) (by omega) h3⟩))
  · left
    unfold smallOk
    simpa using h
theorem hashed_of {B : Nat} {w w' : World} {n3 : Bool} {a3 : Option Addr} {l3 c3 : Nat} {z : Int} (hI : IntIs B w (.agg #[.bool n3, .slice a3 l3 c3]) z) (hz : z.natAbs < pw 3000) (hb : Below w.heap.size w w') :
    Calls Try.prog 9 #[.agg #[.bool n3, .slice a3 l3 c3]] w' fun e w'' => e = .returned (.int .i64 (wh z)) ∧ Below w'.heap.size w' w'' := by
  obtain ⟨ys, oY, ho, fm, ez⟩ := hI.open
  have := whole_any n3 a3 l3 c3 ys w' (oY.sl.below hb) ho (by
    have h1 := zv_abs n3 (val ys)
    rw [ez] at h1
    have := Tr_len_le fm.tr 3000 (by rw [← h1]; exact hz)
    omega)
  rw [ez] at this
  exact this

set_option maxRecDepth 100000 in
set_option maxHeartbeats 4000000 in
theorem wholeLaw_walk (neg : Bool) (a : Option Addr) (n cap : Nat) (xs : List Nat) (w : World) (hx : Sl .u32 w (.slice a n cap) xs) (ox : okw xs) :
    Calls Try.prog 3 #[.agg #[.bool neg, .slice a n cap]] w fun e w' => e = .returned (.bool true) ∧ Below w.heap.size w w' := by
  have c0 := Box2.new w neg a n cap 24
  have hb0 : Below w.heap.size w (w.alloc (.cells #[.bool neg, .slice a n cap] 24)) := below_alloc' _ _
  have q0 := c0.c0
  have q1 := c0.c1
  have hlen := hx.len
  go_enter Try.func3, Try.ntmps3
  by_cases hl : 3000 < n
  · have t1 : (3000 : Int) < n := by omega
    clear hlen
    go_wp2_with fail
    refine (awake_any _).mono ?_
    rintro e w2 ⟨rfl, hb2⟩
    go_wp2
    go_ret
    exact ⟨rfl, hb0.trans (hb2.mono hb0.size)⟩
  · have t1 : ¬ (3000 : Int) < n := by omega
    have bx : xs.length ≤ 1000000 := by omega
    have hz : (zv neg (val xs)).natAbs < pw 3000 := by rw [zv_abs]; exact Nat.lt_of_lt_of_le (val_lt ox) (pw_mono (by omega))
    have hz' : (-zv neg (val xs)).natAbs < pw 3000 := by rw [Int.natAbs_neg]; exact hz
    clear hl hlen
    go_wp2_with fail
    obtain ⟨w0, hW⟩ : ∃ w0, w.alloc (.cells #[.bool neg, .slice a n cap] 24) = w0 := ⟨_, rfl⟩
    rw [hW] at c0 hb0 q0 q1 ⊢
    clear hW
    refine (whole_any neg a n cap xs w0 (hx.below hb0) ox bx).mono ?_
    rintro e w1 ⟨rfl, hb1⟩
    replace c0 := c0.below hb1
    replace hb1 : Below w.heap.size w w1 := hb0.trans (hb1.mono hb0.size)
    clear hb0 q0 q1
    have q0 := c0.c0
    have q1 := c0.c1
    go_wp2_with fail
    refine (rform_any neg a n cap xs w1 (hx.below hb1) ox bx).mono ?_
    rintro e w2 ⟨n3, a3, l3, c3, rfl, hI, hb2⟩
    replace c0 := c0.below hb2
    replace hb2 : Below w.heap.size w w2 := hb1.trans (hb2.mono hb1.size)
    clear hb1 q0 q1
    have q0 := c0.c0
    have q1 := c0.c1
    go_wp2_with fail
    refine (hashed_of hI hz (Below.refl _ _)).mono ?_
    rintro e w3 ⟨rfl, hb3⟩
    clear hI
    replace c0 := c0.below hb3
    replace hb3 : Below w.heap.size w w3 := hb2.trans (hb3.mono hb2.size)
    clear hb2 q0 q1
    have q0 := c0.c0
    have q1 := c0.c1
    go_wp2_with fail
    refine (rnegate_any neg a n cap xs w3 (hx.below hb3) ox bx).mono ?_
    rintro e w4 ⟨n4, a4, l4, c4, rfl, hI, hb4⟩
    replace c0 := c0.below hb4
    replace hb4 : Below w.heap.size w w4 := hb3.trans (hb4.mono hb3.size)
    clear hb3 q0 q1
    have q0 := c0.c0
    have q1 := c0.c1
    go_wp2_with fail
    refine (hashed_of hI hz' (Below.refl _ _)).mono ?_
    rintro e w5 ⟨rfl, hb5⟩
    clear hI
    replace c0 := c0.below hb5
    replace hb5 : Below w.heap.size w w5 := hb4.trans (hb5.mono hb4.size)
    clear hb4 q0 q1
    have q0 := c0.c0
    have q1 := c0.c1
    go_wp2_with fail
    refine (rsmall_any neg a n cap xs w5 (hx.below hb5) ox bx).mono ?_
    rintro e w6 ⟨rfl, hb6⟩
    replace c0 := c0.below hb6
    replace hb6 : Below w.heap.size w w6 := hb5.trans (hb6.mono hb5.size)
    clear hb5 q0 q1
    have q0 := c0.c0
    have q1 := c0.c1
    have C := rwhole_any neg a n cap xs w6 (hx.below hb6) ox bx
    obtain ⟨z, hzz⟩ : ∃ z, zv neg (val xs) = z := ⟨_, rfl⟩
    rw [hzz] at C ⊢
    clear hzz hz hz' hx ox
    have hb := wh_bd z
    have h2 := wh_two z
    have h3 := small_cases z
    obtain ⟨H, hH⟩ : ∃ H, wh z = H := ⟨_, rfl⟩
    obtain ⟨N, hN⟩ : ∃ N, wh (-z) = N := ⟨_, rfl⟩
    obtain ⟨s, hs⟩ : ∃ s, smallZ z = s := ⟨_, rfl⟩
    obtain ⟨k, hk⟩ : ∃ k, smallOk z = k := ⟨_, rfl⟩
    rw [hH] at hb h2 h3 C ⊢
    rw [hN] at h2 ⊢
    rw [hs] at h3 ⊢
    rw [hk] at h3 ⊢
    clear hH hN hs hk
    obtain ⟨b1, b2, b3⟩ := hb
    have b4 : (H != -1) = true := by simpa using b3
    rcases h3 with rfl | ⟨rfl, h3 | h3 | rfl | h3⟩
    · skip
      rcases h2 with ⟨rfl, rfl⟩ | ⟨rfl, rfl⟩ | rfl
      · skip
        go_wp2_with fail
        refine C.mono ?_
        rintro e w7 ⟨rfl, hb7⟩
        replace hb7 : Below w.heap.size w w7 := hb6.trans (hb7.mono hb6.size)
        clear hb6 q0 q1 C
        go_wp2_with fail
        refine (awake_any _).mono ?_
        rintro e w8 ⟨rfl, hb8⟩
        go_wp2
        go_ret
        exact ⟨rfl, hb7.trans (hb8.mono hb7.size)⟩
      · skip
        go_wp2_with fail
        refine C.mono ?_
        rintro e w7 ⟨rfl, hb7⟩
        replace hb7 : Below w.heap.size w w7 := hb6.trans (hb7.mono hb6.size)
        clear hb6 q0 q1 C
        go_wp2_with fail
        refine (awake_any _).mono ?_
        rintro e w8 ⟨rfl, hb8⟩
        go_wp2
        go_ret
        exact ⟨rfl, hb7.trans (hb8.mono hb7.size)⟩
      · skip
        go_wp2_with fail
        refine C.mono ?_
        rintro e w7 ⟨rfl, hb7⟩
        replace hb7 : Below w.heap.size w w7 := hb6.trans (hb7.mono hb6.size)
        clear hb6 q0 q1 C
        go_wp2_with fail
        refine (awake_any _).mono ?_
        rintro e w8 ⟨rfl, hb8⟩
        go_wp2
        go_ret
        exact ⟨rfl, hb7.trans (hb8.mono hb7.size)⟩
    · have s1 : ¬ -2305843009213693951 < s := by omega
      rcases h2 with ⟨rfl, rfl⟩ | ⟨rfl, rfl⟩ | rfl
      · skip
        go_wp2_with fail
        refine C.mono ?_
        rintro e w7 ⟨rfl, hb7⟩
        replace hb7 : Below w.heap.size w w7 := hb6.trans (hb7.mono hb6.size)
        clear hb6 q0 q1 C
        go_wp2_with fail
        refine (awake_any _).mono ?_
        rintro e w8 ⟨rfl, hb8⟩
        go_wp2
        go_ret
        exact ⟨rfl, hb7.trans (hb8.mono hb7.size)⟩
      · skip
        go_wp2_with fail
        refine C.mono ?_
        rintro e w7 ⟨rfl, hb7⟩
        replace hb7 : Below w.heap.size w w7 := hb6.trans (hb7.mono hb6.size)
        clear hb6 q0 q1 C
        go_wp2_with fail
        refine (awake_any _).mono ?_
        rintro e w8 ⟨rfl, hb8⟩
        go_wp2
        go_ret
        exact ⟨rfl, hb7.trans (hb8.mono hb7.size)⟩
      · skip
        go_wp2_with fail
        refine C.mono ?_
        rintro e w7 ⟨rfl, hb7⟩
        replace hb7 : Below w.heap.size w w7 := hb6.trans (hb7.mono hb6.size)
        clear hb6 q0 q1 C
        go_wp2_with fail
        refine (awake_any _).mono ?_
        rintro e w8 ⟨rfl, hb8⟩
        go_wp2
        go_ret
        exact ⟨rfl, hb7.trans (hb8.mono hb7.size)⟩
    · obtain ⟨s1, s2⟩ := h3
      have s3 : ¬ s < 2305843009213693951 := by omega
      rcases h2 with ⟨rfl, rfl⟩ | ⟨rfl, rfl⟩ | rfl
      · skip
        go_wp2_with fail
        refine C.mono ?_
        rintro e w7 ⟨rfl, hb7⟩
        replace hb7 : Below w.heap.size w w7 := hb6.trans (hb7.mono hb6.size)
        clear hb6 q0 q1 C
        go_wp2_with fail
        refine (awake_any _).mono ?_
        rintro e w8 ⟨rfl, hb8⟩
        go_wp2
        go_ret
        exact ⟨rfl, hb7.trans (hb8.mono hb7.size)⟩
      · skip
        go_wp2_with fail
        refine C.mono ?_
        rintro e w7 ⟨rfl, hb7⟩
        replace hb7 : Below w.heap.size w w7 := hb6.trans (hb7.mono hb6.size)
        clear hb6 q0 q1 C
        go_wp2_with fail
        refine (awake_any _).mono ?_
        rintro e w8 ⟨rfl, hb8⟩
        go_wp2
        go_ret
        exact ⟨rfl, hb7.trans (hb8.mono hb7.size)⟩
      · skip
        go_wp2_with fail
        refine C.mono ?_
        rintro e w7 ⟨rfl, hb7⟩
        replace hb7 : Below w.heap.size w w7 := hb6.trans (hb7.mono hb6.size)
        clear hb6 q0 q1 C
        go_wp2_with fail
        refine (awake_any _).mono ?_
        rintro e w8 ⟨rfl, hb8⟩
        go_wp2
        go_ret
        exact ⟨rfl, hb7.trans (hb8.mono hb7.size)⟩
    · skip
      rcases h2 with ⟨rfl, rfl⟩ | ⟨rfl, rfl⟩ | rfl
      · skip
        go_wp2_with fail
        refine C.mono ?_
        rintro e w7 ⟨rfl, hb7⟩
        replace hb7 : Below w.heap.size w w7 := hb6.trans (hb7.mono hb6.size)
        clear hb6 q0 q1 C
        go_wp2_with fail
        refine (awake_any _).mono ?_
        rintro e w8 ⟨rfl, hb8⟩
        go_wp2
        go_ret
        exact ⟨rfl, hb7.trans (hb8.mono hb7.size)⟩
      · skip
        go_wp2_with fail
        refine C.mono ?_
        rintro e w7 ⟨rfl, hb7⟩
        replace hb7 : Below w.heap.size w w7 := hb6.trans (hb7.mono hb6.size)
        clear hb6 q0 q1 C
        go_wp2_with fail
        refine (awake_any _).mono ?_
        rintro e w8 ⟨rfl, hb8⟩
        go_wp2
        go_ret
        exact ⟨rfl, hb7.trans (hb8.mono hb7.size)⟩
      · skip
        go_wp2_with fail
        refine C.mono ?_
        rintro e w7 ⟨rfl, hb7⟩
        replace hb7 : Below w.heap.size w w7 := hb6.trans (hb7.mono hb6.size)
        clear hb6 q0 q1 C
        go_wp2_with fail
        refine (awake_any _).mono ?_
        rintro e w8 ⟨rfl, hb8⟩
        go_wp2
        go_ret
        exact ⟨rfl, hb7.trans (hb8.mono hb7.size)⟩
    · obtain ⟨s1, s2, s3, s4⟩ := h3
      subst s4
      rcases h2 with ⟨rfl, rfl⟩ | ⟨rfl, rfl⟩ | rfl
      · skip
        go_wp2_with fail
        refine C.mono ?_
        rintro e w7 ⟨rfl, hb7⟩
        replace hb7 : Below w.heap.size w w7 := hb6.trans (hb7.mono hb6.size)
        clear hb6 q0 q1 C
        go_wp2_with fail
        refine (awake_any _).mono ?_
        rintro e w8 ⟨rfl, hb8⟩
        go_wp2
        go_ret
        exact ⟨rfl, hb7.trans (hb8.mono hb7.size)⟩
      · skip
        go_wp2_with fail
        refine C.mono ?_
        rintro e w7 ⟨rfl, hb7⟩
        replace hb7 : Below w.heap.size w w7 := hb6.trans (hb7.mono hb6.size)
        clear hb6 q0 q1 C
        go_wp2_with fail
        refine (awake_any _).mono ?_
        rintro e w8 ⟨rfl, hb8⟩
        go_wp2
        go_ret
        exact ⟨rfl, hb7.trans (hb8.mono hb7.size)⟩
      · skip
        go_wp2_with fail
        refine C.mono ?_
        rintro e w7 ⟨rfl, hb7⟩
        replace hb7 : Below w.heap.size w w7 := hb6.trans (hb7.mono hb6.size)
        clear hb6 q0 q1 C
        go_wp2_with fail
        refine (awake_any _).mono ?_
        rintro e w8 ⟨rfl, hb8⟩
        go_wp2
        go_ret
        exact ⟨rfl, hb7.trans (hb8.mono hb7.size)⟩
end Go.Proofs.Ytfcnljdededdjaa
