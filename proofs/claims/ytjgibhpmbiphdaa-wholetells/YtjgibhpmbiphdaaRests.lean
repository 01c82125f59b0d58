/-
  WholeRests, walked.
-/
import Derived.Test.YtjgibhpmbiphdaaRefRest
import Derived.Test.YtjgibhpmbiphdaaAwake
namespace Go.Proofs.Ytjgibhpmbiphdaa
open Go.RowKit

theorem large_any (neg : Bool) (a : Option Addr) (n cap : Nat) (w : World) :
    Calls Try.prog 9 #[.agg #[.bool neg, .slice a n cap]] w fun e w' => e = .returned (.bool (decide (600 < n))) ∧ Below w.heap.size w w' := by
  go_enter Try.func9, Try.ntmps9
  go_wp2
  go_ret
  refine ⟨?_, (Below.refl _ _).alloc (Nat.le_refl _) _⟩
  simp
  omega

theorem rests_walk (neg : Bool) (a : Option Addr) (n cap : Nat) (xs : List Nat) (m : Int) (w : World) (hx : Sl .u32 w (.slice a n cap) xs) (ox : okw xs) :
    Calls Try.prog 5 #[.agg #[.bool neg, .slice a n cap], .int .i64 m] w fun e w' => e = .returned (.bool true) ∧ Below w.heap.size w w' := by
  have c0 := Box2.new w neg a n cap 24
  have hb0 : Below w.heap.size w (w.alloc (.cells #[.bool neg, .slice a n cap] 24)) := below_alloc' _ _
  have q0 := c0.c0
  have q1 := c0.c1
  go_enter Try.func5, Try.ntmps5
  go_wp2_with fail
  obtain ⟨w0, hW⟩ : ∃ w0, w.alloc (.cells #[.bool neg, .slice a n cap] 24) = w0 := ⟨_, rfl⟩
  rw [hW] at c0 hb0 q0 q1 ⊢
  clear hW
  refine (large_any neg a n cap _).mono ?_
  rintro e w1 ⟨rfl, hb1⟩
  replace c0 := c0.below hb1
  replace hb1 : Below w.heap.size w w1 := hb0.trans (hb1.mono hb0.size)
  clear hb0 q0 q1
  have q0 := c0.c0
  have q1 := c0.c1
  by_cases hl : 600 < n
  · have e1 : decide (600 < n) = true := by simpa using hl
    rw [e1]
    clear e1
    go_wp2_with fail
    refine (awake_any w1).mono ?_
    rintro e w2 ⟨rfl, hb2⟩
    go_wp2
    go_ret
    exact ⟨rfl, hb1.trans (hb2.mono hb1.size)⟩
  · have e1 : decide (600 < n) = false := by simpa using hl
    rw [e1]
    clear e1
    obtain ⟨r, k, hR⟩ := rest_both neg a n cap xs m ox (by have := hx.len; omega)
    go_wp2_with fail
    refine (hR w1 (hx.below hb1)).1.mono ?_
    rintro e w2 ⟨rfl, hb2⟩
    replace c0 := c0.below hb2
    replace hb2 : Below w.heap.size w w2 := hb1.trans (hb2.mono hb1.size)
    clear hb1 q0 q1
    have q0 := c0.c0
    have q1 := c0.c1
    go_wp2_with fail
    refine (hR w2 (hx.below hb2)).2.mono ?_
    rintro e w3 ⟨rfl, hb3⟩
    replace hb3 : Below w.heap.size w w3 := hb2.trans (hb3.mono hb2.size)
    clear hb2 q0 q1 hR
    go_wp2_with fail
    refine (awake_any w3).mono ?_
    rintro e w4 ⟨rfl, hb4⟩
    go_wp2
    go_ret
    exact ⟨rfl, hb3.trans (hb4.mono hb3.size)⟩
end Go.Proofs.Ytjgibhpmbiphdaa
