/-
  Whole, of the code and of the reference; Number, of both; and what awake answers.
-/
import Derived.Test.YtfcnljdededdjaaDgText
namespace Go.Proofs.Ytfcnljdededdjaa
open Go.RowKit Go.Shelf

/-- What is left of a number's size, with its sign. -/
def left (z : Int) : Int := if z < 0 then -((z.natAbs % 2305843009213693951 : Nat) : Int) else ((z.natAbs % 2305843009213693951 : Nat) : Int)
def wh (z : Int) : Int := hashed (IntKind.u64.wrap (left z)) (-2)
theorem wrap64_u64 (z : Int) : wrap64 (IntKind.u64.wrap z) = wrap64 z := by
  rw [IntKind.wrap_u64]; unfold wrap64; omega
theorem left_bd (z : Int) : -2305843009213693951 < left z ∧ left z < 2305843009213693951 := by
  have : z.natAbs % 2305843009213693951 < 2305843009213693951 := Nat.mod_lt _ (by decide)
  unfold left
  split <;> omega
theorem wh_eq (z : Int) : wh z = if left z = -1 then -2 else left z := by
  have := left_bd z
  unfold wh hashed
  rw [wrap64_u64]
  have e : wrap64 (left z) = left z := by unfold wrap64; omega
  rw [e]

set_option maxRecDepth 100000 in
set_option maxHeartbeats 1000000 in
theorem whole_any (neg : Bool) (a : Option Addr) (n cap : Nat) (xs : List Nat) (w : World) (h : Sl .u32 w (.slice a n cap) xs) (ox : okw xs) (hbig : xs.length ≤ 1000000) :
    Calls Try.prog 9 #[.agg #[.bool neg, .slice a n cap]] w fun e w' => e = .returned (.int .i64 (wh (zv neg (val xs)))) ∧ Below w.heap.size w w' := by
  have c0 := Box2.new w neg a n cap 24
  have hb0 : Below w.heap.size w (w.alloc (.cells #[.bool neg, .slice a n cap] 24)) := below_alloc' _ _
  have q0 := c0.c0
  have q1 := c0.c1
  go_enter Try.func9, Try.ntmps9
  go_wp2_with fail
  obtain ⟨w0, hW⟩ : ∃ w0, w.alloc (.cells #[.bool neg, .slice a n cap] 24) = w0 := ⟨_, rfl⟩
  rw [hW] at c0 hb0 q0 q1 ⊢
  clear hW
  refine (rest_some false a n cap xs 2305843009213693951 w0 (h.below hb0) ox hbig (by omega) (by omega)).mono ?_
  rintro e w1 ⟨rfl, hb1⟩
  replace c0 := c0.below hb1
  replace hb1 : Below w.heap.size w w1 := hb0.trans (hb1.mono hb0.size)
  clear hb0 q0 q1
  have q0 := c0.c0
  have q1 := c0.c1
  have hr : zv false (val xs) % ((2305843009213693951 : Nat) : Int) = ((val xs % 2305843009213693951 : Nat) : Int) := by rw [show zv false (val xs) = (val xs : Int) from rfl]; omega
  rw [hr]
  have hr2 : val xs % 2305843009213693951 < 2305843009213693951 := Nat.mod_lt _ (by decide)
  have hL : Hid (left (zv neg (val xs)) = if zv neg (val xs) < 0 then -((val xs % 2305843009213693951 : Nat) : Int) else ((val xs % 2305843009213693951 : Nat) : Int)) := (by show _ = _; unfold left; rw [zv_abs])
  obtain ⟨r, hR⟩ : ∃ r, val xs % 2305843009213693951 = r := ⟨_, rfl⟩
  rw [hR] at hr2 hL ⊢
  clear hr hR
  go_wp2_with fail
  refine (compare_any neg false a none n cap 0 0 xs [] w1 (h.below hb1) (Sl_nil _ _ _ _) ox okw_nil hbig (by simp)).mono ?_
  rintro e w2 ⟨rfl, hb2⟩
  replace hb2 : Below w.heap.size w w2 := hb1.trans (hb2.mono hb1.size)
  clear hb1 q0 q1 c0
  by_cases hz : zv neg (val xs) < 0
  · have e1 : cmpI (zv neg (val xs)) (zv false (val [])) = -1 := by unfold cmpI; rw [show zv false (val []) = 0 from rfl, if_pos hz]
    rw [e1]
    have HL : Hid (left (zv neg (val xs)) = -(r : Int)) := (by show _ = _; rw [hL.out, if_pos hz])
    clear e1 hL hz
    go_wp2_with fail
    refine (sealed_plain _ _).mono ?_
    rintro e w3 ⟨rfl, rfl⟩
    go_wp2
    go_ret
    exact ⟨by unfold wh; rw [HL.out]; rfl, hb2⟩
  · have e1 : ¬ cmpI (zv neg (val xs)) (zv false (val [])) < 0 := by unfold cmpI; rw [show zv false (val []) = 0 from rfl, if_neg hz]; split <;> omega
    have HL : Hid (left (zv neg (val xs)) = (r : Int)) := (by show _ = _; rw [hL.out, if_neg hz])
    obtain ⟨c, hc⟩ : ∃ c, cmpI (zv neg (val xs)) (zv false (val [])) = c := ⟨_, rfl⟩
    rw [hc] at e1 ⊢
    clear hc hL hz
    have hu : IntKind.u64.wrap (r : Int) = (r : Int) := wrap_cast r (by omega)
    have HU : Hid (IntKind.u64.wrap (r : Int) = (r : Int)) := hu
    go_wp2_with fail
    refine (sealed_plain _ _).mono ?_
    rintro e w3 ⟨rfl, rfl⟩
    go_wp2
    go_ret
    exact ⟨by unfold wh; rw [HL.out, HU.out]; rfl, hb2⟩

set_option maxRecDepth 100000 in
set_option maxHeartbeats 1000000 in
theorem rwhole_any (neg : Bool) (a : Option Addr) (n cap : Nat) (xs : List Nat) (w : World) (h : Sl .u32 w (.slice a n cap) xs) (ox : okw xs) (hbig : xs.length ≤ 1000000) :
    Calls Try.prog 13 #[.agg #[.bool neg, .slice a n cap]] w fun e w' => e = .returned (.int .i64 (wh (zv neg (val xs)))) ∧ Below w.heap.size w w' := by
  have c0 := Box2.new w neg a n cap 24
  have hb0 : Below w.heap.size w (w.alloc (.cells #[.bool neg, .slice a n cap] 24)) := below_alloc' _ _
  have q0 := c0.c0
  have q1 := c0.c1
  go_enter Try.func13, Try.ntmps13
  go_wp2_with fail
  obtain ⟨w0, hW⟩ : ∃ w0, w.alloc (.cells #[.bool neg, .slice a n cap] 24) = w0 := ⟨_, rfl⟩
  rw [hW] at c0 hb0 q0 q1 ⊢
  clear hW
  refine (refRest_some false a n cap xs 2305843009213693951 w0 (h.below hb0) ox hbig (by omega) (by omega)).mono ?_
  rintro e w1 ⟨rfl, hb1⟩
  replace c0 := c0.below hb1
  replace hb1 : Below w.heap.size w w1 := hb0.trans (hb1.mono hb0.size)
  clear hb0 q0 q1
  have q0 := c0.c0
  have q1 := c0.c1
  have hr : zv false (val xs) % ((2305843009213693951 : Nat) : Int) = ((val xs % 2305843009213693951 : Nat) : Int) := by rw [show zv false (val xs) = (val xs : Int) from rfl]; omega
  rw [hr]
  have hr2 : val xs % 2305843009213693951 < 2305843009213693951 := Nat.mod_lt _ (by decide)
  have hL : Hid (left (zv neg (val xs)) = if zv neg (val xs) < 0 then -((val xs % 2305843009213693951 : Nat) : Int) else ((val xs % 2305843009213693951 : Nat) : Int)) := (by show _ = _; unfold left; rw [zv_abs])
  have hL0 : val xs = 0 → val xs % 2305843009213693951 = 0 := fun h => by rw [h]
  obtain ⟨r, hR⟩ : ∃ r, val xs % 2305843009213693951 = r := ⟨_, rfl⟩
  rw [hR] at hr2 hL hL0 ⊢
  clear hr hR
  cases neg with
  | true =>
    have HL : Hid (left (zv true (val xs)) = -(r : Int)) := (by
      show _ = _; rw [hL.out]
      by_cases h0 : val xs = 0
      · rw [hL0 h0, h0]; rfl
      · rw [if_pos (show zv true (val xs) < 0 by rw [show zv true (val xs) = -(val xs : Int) from rfl]; omega)])
    clear hL hL0
    go_wp2_with fail
    refine (instead_any _ _ _).mono ?_
    rintro e w3 ⟨rfl, rfl⟩
    go_wp2
    go_ret
    exact ⟨by unfold wh; rw [HL.out]; rfl, hb1⟩
  | false =>
    have HL : Hid (left (zv false (val xs)) = (r : Int)) := (by
      show _ = _; rw [hL.out]
      rw [if_neg (show ¬ zv false (val xs) < 0 by rw [show zv false (val xs) = (val xs : Int) from rfl]; omega)])
    clear hL hL0
    have hu : IntKind.u64.wrap (r : Int) = (r : Int) := wrap_cast r (by omega)
    have HU : Hid (IntKind.u64.wrap (r : Int) = (r : Int)) := hu
    go_wp2_with fail
    refine (instead_any _ _ _).mono ?_
    rintro e w3 ⟨rfl, rfl⟩
    go_wp2
    go_ret
    exact ⟨by unfold wh; rw [HL.out, HU.out]; rfl, hb1⟩

theorem number_any (n : Int) (w : World) :
    Calls Try.prog 21 #[.int .i64 n] w fun e w' => e = .returned (.int .i64 (hashed (bits BinOp.or IntKind.u64 (IntKind.u64.wrap (IntKind.u64.wrap n * 1152921504606846976)) (IntKind.u64.wrap n / 16)) (-2))) ∧ w' = w := by
  go_enter Try.func21, Try.ntmps21
  go_wp2_with fail
  refine (rot60_any _ _).mono ?_
  rintro e w1 ⟨rfl, rfl⟩
  go_wp2_with fail
  refine (sealed_plain _ _).mono ?_
  rintro e w1 ⟨rfl, rfl⟩
  go_wp2
  go_ret
  exact ⟨rfl, rfl⟩
theorem rnumber_any (n : Int) (w : World) :
    Calls Try.prog 22 #[.int .i64 n] w fun e w' => e = .returned (.int .i64 (hashed (bits BinOp.or IntKind.u64 (IntKind.u64.wrap n / 16) (IntKind.u64.wrap (IntKind.u64.wrap n * 1152921504606846976))) (-2))) ∧ w' = w := by
  go_enter Try.func22, Try.ntmps22
  go_wp2_with fail
  refine (instead_any _ _ _).mono ?_
  rintro e w1 ⟨rfl, rfl⟩
  go_wp2
  go_ret
  exact ⟨rfl, rfl⟩
end Go.Proofs.Ytfcnljdededdjaa
