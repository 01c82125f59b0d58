/-
  The walk of WholeOrders: it answers true, whatever the three Ints.
-/
import Derived.Test.YtpaiaagjlkdfgabAwake
namespace Go.Proofs.Ytpaiaagjlkdfgab
open Go.RowKit

theorem cmpI_swap (a b : Int) : cmpI b a = - cmpI a b := by
  unfold cmpI
  repeat' split
  all_goals omega
theorem cmpI_neg (a b : Int) : cmpI (-a) (-b) = - cmpI a b := by
  unfold cmpI
  repeat' split
  all_goals omega
theorem cmpI_self (a : Int) : cmpI a a = 0 := by simp [cmpI]
theorem cmpI_bd (a b : Int) : -1 ≤ cmpI a b ∧ cmpI a b ≤ 1 := by
  unfold cmpI
  repeat' split
  all_goals omega
theorem cmpI_add (a b c : Int) : cmpI (a + c) (b + c) = cmpI a b := by
  unfold cmpI
  repeat' split
  all_goals omega
theorem cmpI_trans (a b c : Int) (h1 : cmpI a b ≤ 0) (h2 : cmpI b c ≤ 0) : cmpI a c ≤ 0 := by
  unfold cmpI at *
  repeat' split at h1
  all_goals (repeat' split at h2)
  all_goals (repeat' split)
  all_goals omega
theorem S4.keepTwo {W0 W W' W'' : World} {p0 p1 p2 p3 : Addr} {v0 v1 v2 v3 : Value} (h : S4 W0 p0 p1 p2 p3 v0 v1 v2 v3 W) (hb : Below W.heap.size W W') (hc : Below W'.heap.size W' W'') : S4 W0 p0 p1 p2 p3 v0 v1 v2 v3 W'' := (h.keep hb).keep hc

set_option maxRecDepth 100000 in
set_option maxHeartbeats 4000000 in
theorem orders_far (na nb nc : Bool) (a0 a1 a2 : Option Addr) (l0 c0 l1 c1 l2 c2 : Nat) (w : World) (h : ¬ (l0 ≤ 80 ∧ l1 ≤ 80 ∧ l2 ≤ 80)) :
    Calls Try.prog 4 #[.agg #[.bool na, .slice a0 l0 c0], .agg #[.bool nb, .slice a1 l1 c1], .agg #[.bool nc, .slice a2 l2 c2]] w fun e w' => e = .returned (.bool true) ∧ Below w.heap.size w w' := by
  obtain ⟨hA, hB, hC, hB0⟩ := boxes3 w na nb nc a0 a1 a2 l0 c0 l1 c1 l2 c2 24
  go_enter Try.func4, Try.ntmps4
  go_wp2_with fail
  generalize ((w.alloc (.cells #[.bool na, .slice a0 l0 c0] 24)).alloc (.cells #[.bool nb, .slice a1 l1 c1] 24)).alloc (.cells #[.bool nc, .slice a2 l2 c2] 24) = W0 at *
  refine (few_any na a0 l0 c0 W0).mono ?_
  rintro e w1 ⟨rfl, hb1⟩
  have hB1 := hB.below hb1
  have hC1 := hC.below hb1
  have hBw1 : Below w.heap.size w w1 := hB0.trans (hb1.mono hB0.size)
  by_cases g0 : l0 ≤ 80
  · have e0 : decide (l0 ≤ 80) = true := by simpa using g0
    rw [e0]
    have b0 := hB1.c0
    have b1 := hB1.c1
    go_wp2_with fail
    refine (few_any nb a1 l1 c1 w1).mono ?_
    rintro e w2 ⟨rfl, hb2⟩
    have hC2 := hC1.below hb2
    have hBw2 : Below w.heap.size w w2 := hBw1.trans (hb2.mono hBw1.size)
    clear b0 b1
    by_cases g1 : l1 ≤ 80
    · have e1 : decide (l1 ≤ 80) = true := by simpa using g1
      have e2 : decide (l2 ≤ 80) = false := by simp; omega
      rw [e1]
      have b0 := hC2.c0
      have b1 := hC2.c1
      go_wp2_with fail
      refine (few_any nc a2 l2 c2 w2).mono ?_
      rintro e w3 ⟨rfl, hb3⟩
      rw [e2]
      go_wp2_with fail
      refine (awake_any w3).mono ?_
      rintro e w4 ⟨rfl, hb4⟩
      go_wp2
      go_ret
      have hBw3 : Below w.heap.size w w3 := hBw2.trans (hb3.mono hBw2.size)
      exact ⟨rfl, hBw3.trans (hb4.mono hBw3.size)⟩
    · have e1 : decide (l1 ≤ 80) = false := by simpa using g1
      rw [e1]
      go_wp2_with fail
      refine (awake_any w2).mono ?_
      rintro e w4 ⟨rfl, hb4⟩
      go_wp2
      go_ret
      exact ⟨rfl, hBw2.trans (hb4.mono hBw2.size)⟩
  · have e0 : decide (l0 ≤ 80) = false := by simpa using g0
    rw [e0]
    go_wp2_with fail
    refine (awake_any w1).mono ?_
    rintro e w4 ⟨rfl, hb4⟩
    go_wp2
    go_ret
    exact ⟨rfl, hBw1.trans (hb4.mono hBw1.size)⟩

/-- An argument: an Int in whatever form. -/
structure IsArg (w : World) (a : Option Addr) (l c : Nat) (xs : List Nat) : Prop where
  sl : Sl .u32 w (.slice a l c) xs
  ok : okw xs
  le : l ≤ 80
theorem IsArg.len {w : World} {a : Option Addr} {l c : Nat} {xs : List Nat} (h : IsArg w a l c xs) : xs.length ≤ 80 := by have := h.sl.len; have := h.le; omega
theorem IsArg.below {w w' : World} {a : Option Addr} {l c : Nat} {xs : List Nat} (h : IsArg w a l c xs) (hb : Below w.heap.size w w') : IsArg w' a l c xs := ⟨h.sl.below hb, h.ok, h.le⟩
theorem IsArg.val {w : World} {a : Option Addr} {l c : Nat} {xs : List Nat} (h : IsArg w a l c xs) : val xs < pw 80 := Nat.lt_of_lt_of_le (val_lt h.ok) (pw_mono h.len)
theorem pw_80 : pw 80 + pw 80 < pw 256 := by
  have h1 : pw 81 ≤ pw 256 := pw_mono (by omega)
  have h2 := pw_pos 80
  rw [show pw 81 = 4294967296 * pw 80 from rfl] at h1
  omega
theorem zv_bd (neg : Bool) (n : Nat) : (zv neg n).natAbs = n := zv_abs neg n
/-- A sum of two arguments is never refused. -/
theorem SumRes.few {B : Nat} {w : World} {v : Value} {k : Int} {x y : Nat} {na nb : Bool} (h : SumRes B w v k x y (zv na x + zv nb y)) (hx : x < pw 80) (hy : y < pw 80) : k = 0 ∧ IntIs B w v (zv na x + zv nb y) := by
  have h8 := pw_80
  have a1 := zv_abs na x
  have a2 := zv_abs nb y
  rcases h with ⟨h, _⟩ | ⟨_, ⟨_, h1, h2⟩ | ⟨h, _⟩⟩
  · omega
  · exact ⟨h1, h2⟩
  · omega

/-- What is known of an Int that was answered. -/
theorem IntIs.parts {B : Nat} {w : World} {neg : Bool} {a : Option Addr} {n c : Nat} {z : Int} (h : IntIs B w (.agg #[.bool neg, .slice a n c]) z) : ∃ xs, Ow .u32 B w (.slice a n c) xs ∧ okw xs ∧ Tr xs ∧ z = zv neg (val xs) ∧ val xs = z.natAbs := by
  obtain ⟨_, _, _, _, xs, e, ho, ok, t, _, hz⟩ := h
  cases e
  exact ⟨xs, ho, ok, t, hz, by rw [hz, zv_abs]⟩

set_option maxRecDepth 100000 in
set_option maxHeartbeats 8000000 in
theorem orders_near (na nb nc : Bool) (a0 a1 a2 : Option Addr) (l0 c0 l1 c1 l2 c2 : Nat) (xs ys zs : List Nat) (w : World) (hx : IsArg w a0 l0 c0 xs) (hy : IsArg w a1 l1 c1 ys) (hz : IsArg w a2 l2 c2 zs) :
    Calls Try.prog 4 #[.agg #[.bool na, .slice a0 l0 c0], .agg #[.bool nb, .slice a1 l1 c1], .agg #[.bool nc, .slice a2 l2 c2]] w fun e w' => e = .returned (.bool true) ∧ Below w.heap.size w w' := by
  obtain ⟨hA, hB, hC, hB0⟩ := boxes3 w na nb nc a0 a1 a2 l0 c0 l1 c1 l2 c2 24
  have e0 : decide (l0 ≤ 80) = true := by simpa using hx.le
  have e1 : decide (l1 ≤ 80) = true := by simpa using hy.le
  have e2 : decide (l2 ≤ 80) = true := by simpa using hz.le
  go_enter Try.func4, Try.ntmps4
  go_wp2_with fail
  generalize ((w.alloc (.cells #[.bool na, .slice a0 l0 c0] 24)).alloc (.cells #[.bool nb, .slice a1 l1 c1] 24)).alloc (.cells #[.bool nc, .slice a2 l2 c2] 24) = W0 at *
  have hx := hx.below hB0
  have hy := hy.below hB0
  have hz := hz.below hB0
  refine (few_any na a0 l0 c0 W0).mono ?_
  rintro e w1 ⟨rfl, hb1⟩
  rw [e0]
  replace hA := hA.below hb1
  replace hB := hB.below hb1
  replace hC := hC.below hb1
  replace hx := hx.below hb1
  replace hy := hy.below hb1
  replace hz := hz.below hb1
  replace hB0 : Below w.heap.size w w1 := hB0.trans (hb1.mono hB0.size)
  clear hb1
  have q0 := hB.c0
  have q1 := hB.c1
  go_wp2_with fail
  refine (few_any nb a1 l1 c1 w1).mono ?_
  rintro e w2 ⟨rfl, hb1⟩
  rw [e1]
  clear q0 q1
  replace hA := hA.below hb1
  replace hB := hB.below hb1
  replace hC := hC.below hb1
  replace hx := hx.below hb1
  replace hy := hy.below hb1
  replace hz := hz.below hb1
  replace hB0 : Below w.heap.size w w2 := hB0.trans (hb1.mono hB0.size)
  clear hb1
  have q0 := hC.c0
  have q1 := hC.c1
  go_wp2_with fail
  refine (few_any nc a2 l2 c2 w2).mono ?_
  rintro e w3 ⟨rfl, hb1⟩
  rw [e2]
  clear q0 q1 e0 e1 e2
  replace hA := hA.below hb1
  replace hB := hB.below hb1
  replace hC := hC.below hb1
  replace hx := hx.below hb1
  replace hy := hy.below hb1
  replace hz := hz.below hb1
  replace hB0 : Below w.heap.size w w3 := hB0.trans (hb1.mono hB0.size)
  clear hb1
  have q0 := hA.c0
  have q1 := hA.c1
  have q2 := hB.c0
  have q3 := hB.c1
  go_wp2_with fail
  refine (compare_any na nb a0 a1 l0 c0 l1 c1 xs ys w3 hx.sl hy.sl hx.ok hy.ok (by have := hx.len; omega) (by have := hy.len; omega)).mono ?_
  rintro e w4 ⟨rfl, hb1⟩
  clear q0 q1 q2 q3
  replace hA := hA.below hb1
  replace hB := hB.below hb1
  replace hC := hC.below hb1
  replace hx := hx.below hb1
  replace hy := hy.below hb1
  replace hz := hz.below hb1
  replace hB0 : Below w.heap.size w w4 := hB0.trans (hb1.mono hB0.size)
  clear hb1
  have bd := cmpI_bd (zv na (val xs)) (zv nb (val ys))
  obtain ⟨c, hc⟩ : ∃ c, cmpI (zv na (val xs)) (zv nb (val ys)) = c := ⟨_, rfl⟩
  have HC : Hid (cmpI (zv na (val xs)) (zv nb (val ys)) = c) := hc
  have HBA : Hid (cmpI (zv nb (val ys)) (zv na (val xs)) = -c) := by show _ = _; rw [cmpI_swap, hc]
  have HNN : Hid (cmpI (-zv na (val xs)) (-zv nb (val ys)) = -c) := by show _ = _; rw [cmpI_neg, hc]
  rw [hc] at bd ⊢
  clear hc
  have hd1 : decide (c < -1) = false := by simp; omega
  have hd2 : decide (1 < c) = false := by simp; omega
  have hwc : IntKind.i64.wrap (-c) = -c := by rw [IntKind.wrap_i64]; omega
  have q0 := hA.c0
  have q1 := hA.c1
  have q2 := hB.c0
  have q3 := hB.c1
  go_wp2_with fail
  go_region_held3 (fun W => (W.cell? ⟨w.heap.size, 0, none⟩ = some (.bool na) ∧ W.cell? ⟨w.heap.size, 1, none⟩ = some (.slice a0 l0 c0) ∧ W.cell? ⟨w.heap.size + 1, 0, none⟩ = some (.bool nb) ∧ W.cell? ⟨w.heap.size + 1, 1, none⟩ = some (.slice a1 l1 c1)) ∧ Below w4.heap.size w4 W)
    (first | exact S4.start q0 q1 q2 q3 | exact S4.keep (by assumption) (by assumption))
    (first | (go_at_call_of 14 (Value.slice a0 l0 c0); refine (negate_any na a0 l0 c0 xs _ (hx.sl.below (S4.below (by assumption))) hx.ok (by have := hx.len; omega)).mono ?_; rintro e w6 ⟨n6, a6, l6, d6, rfl, hI6, hb6⟩; obtain ⟨xs6, ho6, ok6, t6, z6, v6⟩ := hI6.parts; have Z6 : Hid (-zv na (val xs) = zv n6 (val xs6)) := z6; have k6 : xs6.length ≤ 80 := Tr_len_le t6 80 (by rw [v6, Int.natAbs_neg, zv_abs]; exact hx.val); clear z6 v6 hI6)
           | (go_at_call_of 14 (Value.slice a1 l1 c1); refine (negate_any nb a1 l1 c1 ys _ (hy.sl.below (S4.below (by assumption))) hy.ok (by have := hy.len; omega)).mono ?_; rintro e w7 ⟨n7, a7, l7, d7, rfl, hI7, hb7⟩; obtain ⟨xs7, ho7, ok7, t7, z7, v7⟩ := hI7.parts; have Z7 : Hid (-zv nb (val ys) = zv n7 (val xs7)) := z7; have k7 : xs7.length ≤ 80 := Tr_len_le t7 80 (by rw [v7, Int.natAbs_neg, zv_abs]; exact hy.val); have ho6' := ho6.below hb7; clear z7 v7 hI7)
           | (go_at_call_of 7 (Value.slice a1 l1 c1); refine (compare_any nb na a1 a0 l1 c1 l0 c0 ys xs _ (hy.sl.below (S4.below (by assumption))) (hx.sl.below (S4.below (by assumption))) hy.ok hx.ok (by have := hy.len; omega) (by have := hx.len; omega)).mono ?_; rw [HBA.out]; rintro e w5 ⟨rfl, hb5⟩)
           | (go_at_call_of 7 (Value.slice a6 l6 d6); refine (compare_any n6 n7 a6 a7 l6 d6 l7 d7 xs6 xs7 _ ho6'.sl ho7.sl ok6 ok7 (by omega) (by omega)).mono ?_; rw [← Z6.out, ← Z7.out, HNN.out]; rintro e w8 ⟨rfl, hb8⟩)
           | (go_at_call_of 7 (Value.slice a0 l0 c0); refine (compare_any na na a0 a0 l0 c0 l0 c0 xs xs _ (hx.sl.below (S4.below (by assumption))) (hx.sl.below (S4.below (by assumption))) hx.ok hx.ok (by have := hx.len; omega) (by have := hx.len; omega)).mono ?_; rw [cmpI_self]; rintro e w9 ⟨rfl, hb9⟩))
  have hS : Below w4.heap.size w4 w9 := S4.below (by assumption)
  rename_i hHeld
  clear hHeld q0 q1 q2 q3 ho6 ho6' ho7 hb5 hb6 hb7 hb8 hb9
  replace hA := hA.below hS
  replace hB := hB.below hS
  replace hC := hC.below hS
  replace hx := hx.below hS
  replace hy := hy.below hS
  replace hz := hz.below hS
  replace hB0 : Below w.heap.size w w9 := hB0.trans (hS.mono hB0.size)
  clear hS
  have btr := cmpI_trans (zv na (val xs)) (zv nb (val ys)) (zv nc (val zs))
  rw [HC.out] at btr
  obtain ⟨d, hd⟩ : ∃ d, cmpI (zv nb (val ys)) (zv nc (val zs)) = d := ⟨_, rfl⟩
  obtain ⟨f, hf⟩ : ∃ f, cmpI (zv na (val xs)) (zv nc (val zs)) = f := ⟨_, rfl⟩
  rw [hd, hf] at btr
  have HD : Hid (cmpI (zv nb (val ys)) (zv nc (val zs)) = d) := hd
  have HF : Hid (cmpI (zv na (val xs)) (zv nc (val zs)) = f) := hf
  have HT : Hid (c ≤ 0 → d ≤ 0 → f ≤ 0) := btr
  clear hd hf btr hd1 hd2 hwc
  by_cases hc0 : c ≤ 0
  · have q0 := hB.c0
    have q1 := hB.c1
    have q2 := hC.c0
    have q3 := hC.c1
    go_wp2_with fail
    refine (compare_any nb nc a1 a2 l1 c1 l2 c2 ys zs _ hy.sl hz.sl hy.ok hz.ok (by have := hy.len; omega) (by have := hz.len; omega)).mono ?_
    rw [HD.out]
    rintro e wp ⟨rfl, hb1⟩
    clear q0 q1 q2 q3
    replace hA := hA.below hb1
    replace hB := hB.below hb1
    replace hC := hC.below hb1
    replace hx := hx.below hb1
    replace hy := hy.below hb1
    replace hz := hz.below hb1
    replace hB0 : Below w.heap.size w wp := hB0.trans (hb1.mono hB0.size)
    clear hb1
    by_cases hd0 : d ≤ 0
    · have hf0 := HT.out hc0 hd0
      have q0 := hA.c0
      have q1 := hA.c1
      have q2 := hC.c0
      have q3 := hC.c1
      go_wp2_with fail
      refine (compare_any na nc a0 a2 l0 c0 l2 c2 xs zs _ hx.sl hz.sl hx.ok hz.ok (by have := hx.len; omega) (by have := hz.len; omega)).mono ?_
      rw [HF.out]
      rintro e wq ⟨rfl, hb1⟩
      clear q0 q1 q2 q3
      replace hA := hA.below hb1
      replace hB := hB.below hb1
      replace hC := hC.below hb1
      replace hx := hx.below hb1
      replace hy := hy.below hb1
      replace hz := hz.below hb1
      replace hB0 : Below w.heap.size w wq := hB0.trans (hb1.mono hB0.size)
      clear hb1
      have q0 := hA.c0
      have q1 := hA.c1
      have q2 := hC.c0
      have q3 := hC.c1
      go_wp2_with fail
      refine (lsum_any na nc a0 a2 l0 c0 l2 c2 xs zs _ hx.sl hz.sl hx.ok hz.ok (by have := hx.len; omega) (by have := hz.len; omega)).mono ?_
      rintro e wa ⟨n8, a8, l8, d8, k8, rfl, hs8, hb8⟩
      obtain ⟨_, hI8⟩ := hs8.few hx.val hz.val
      clear q0 q1 q2 q3 hs8
      replace hA := hA.below hb8
      replace hB := hB.below hb8
      replace hC := hC.below hb8
      replace hx := hx.below hb8
      replace hy := hy.below hb8
      replace hz := hz.below hb8
      replace hB0 : Below w.heap.size w wa := hB0.trans (hb8.mono hB0.size)
      clear hb8
      have hba : Below wa.heap.size wa (wa.alloc (.cells #[.bool n8, .slice a8 l8 d8] 24)) := (Below.refl _ _).alloc (Nat.le_refl _) _
      have hX8 := Box2.new wa n8 a8 l8 d8 24
      have q0 := hB.c0
      have q1 := hB.c1
      have q2 := hC.c0
      have q3 := hC.c1
      have qb := hB.lt
      have qc := hC.lt
      go_wp2_with fail
      refine (lsum_any nb nc a1 a2 l1 c1 l2 c2 ys zs _ (hy.sl.below hba) (hz.sl.below hba) hy.ok hz.ok (by have := hy.len; omega) (by have := hz.len; omega)).mono ?_
      rintro e wb ⟨n9, a9, l9, d9, k9, rfl, hs9, hb9⟩
      obtain ⟨_, hI9⟩ := hs9.few hy.val hz.val
      have hX9 := hX8.below hb9
      have hI8' := (hI8.below hba).below hb9
      have hBb : Below w.heap.size w wb := (hB0.trans (hba.mono hB0.size)).trans (hb9.mono (Nat.le_trans hB0.size hba.size))
      clear q0 q1 q2 q3 qb qc hs9 hI8
      have hbc : Below wb.heap.size wb (wb.alloc (.cells #[.bool n9, .slice a9 l9 d9] 24)) := (Below.refl _ _).alloc (Nat.le_refl _) _
      have r0 := hX9.c0
      have r1 := hX9.c1
      have rl := hX9.lt
      obtain ⟨xs8, ho8, ok8, t8, z8, v8⟩ := (hI8'.below hbc).parts
      obtain ⟨xs9, ho9, ok9, t9, z9, v9⟩ := (hI9.below hbc).parts
      have k8' : xs8.length ≤ 256 := Tr_len_le t8 256 (by have h1 := zv_abs na (val xs); have h2 := zv_abs nc (val zs); have h3 := hx.val; have h4 := hz.val; have h5 := pw_80; rw [v8]; omega)
      have k9' : xs9.length ≤ 256 := Tr_len_le t9 256 (by have h1 := zv_abs nb (val ys); have h2 := zv_abs nc (val zs); have h3 := hy.val; have h4 := hz.val; have h5 := pw_80; rw [v9]; omega)
      have HE : Hid (cmpI (zv n8 (val xs8)) (zv n9 (val xs9)) = c) := by show _ = _; rw [← z8, ← z9, cmpI_add]; exact HC.out
      clear v8 v9 z8 z9 hI8' hI9
      go_wp2_with fail
      refine (compare_any n8 n9 a8 a9 l8 d8 l9 d9 xs8 xs9 _ ho8.sl ho9.sl ok8 ok9 (by omega) (by omega)).mono ?_
      rw [HE.out]
      rintro e wc ⟨rfl, hbd⟩
      have hBc : Below w.heap.size w wc := (hBb.trans (hbc.mono hBb.size)).trans (hbd.mono (Nat.le_trans hBb.size hbc.size))
      clear r0 r1 rl
      have hcc : (c == c) = true := by simp
      go_wp2_with fail
      refine (awake_any wc).mono ?_
      rintro e wd ⟨rfl, hbe⟩
      go_wp2
      go_ret
      exact ⟨rfl, hBc.trans (hbe.mono hBc.size)⟩
    · have q0 := hA.c0
      have q1 := hA.c1
      have q2 := hC.c0
      have q3 := hC.c1
      go_wp2_with fail
      refine (lsum_any na nc a0 a2 l0 c0 l2 c2 xs zs _ hx.sl hz.sl hx.ok hz.ok (by have := hx.len; omega) (by have := hz.len; omega)).mono ?_
      rintro e wa ⟨n8, a8, l8, d8, k8, rfl, hs8, hb8⟩
      obtain ⟨_, hI8⟩ := hs8.few hx.val hz.val
      clear q0 q1 q2 q3 hs8
      replace hA := hA.below hb8
      replace hB := hB.below hb8
      replace hC := hC.below hb8
      replace hx := hx.below hb8
      replace hy := hy.below hb8
      replace hz := hz.below hb8
      replace hB0 : Below w.heap.size w wa := hB0.trans (hb8.mono hB0.size)
      clear hb8
      have hba : Below wa.heap.size wa (wa.alloc (.cells #[.bool n8, .slice a8 l8 d8] 24)) := (Below.refl _ _).alloc (Nat.le_refl _) _
      have hX8 := Box2.new wa n8 a8 l8 d8 24
      have q0 := hB.c0
      have q1 := hB.c1
      have q2 := hC.c0
      have q3 := hC.c1
      have qb := hB.lt
      have qc := hC.lt
      go_wp2_with fail
      refine (lsum_any nb nc a1 a2 l1 c1 l2 c2 ys zs _ (hy.sl.below hba) (hz.sl.below hba) hy.ok hz.ok (by have := hy.len; omega) (by have := hz.len; omega)).mono ?_
      rintro e wb ⟨n9, a9, l9, d9, k9, rfl, hs9, hb9⟩
      obtain ⟨_, hI9⟩ := hs9.few hy.val hz.val
      have hX9 := hX8.below hb9
      have hI8' := (hI8.below hba).below hb9
      have hBb : Below w.heap.size w wb := (hB0.trans (hba.mono hB0.size)).trans (hb9.mono (Nat.le_trans hB0.size hba.size))
      clear q0 q1 q2 q3 qb qc hs9 hI8
      have hbc : Below wb.heap.size wb (wb.alloc (.cells #[.bool n9, .slice a9 l9 d9] 24)) := (Below.refl _ _).alloc (Nat.le_refl _) _
      have r0 := hX9.c0
      have r1 := hX9.c1
      have rl := hX9.lt
      obtain ⟨xs8, ho8, ok8, t8, z8, v8⟩ := (hI8'.below hbc).parts
      obtain ⟨xs9, ho9, ok9, t9, z9, v9⟩ := (hI9.below hbc).parts
      have k8' : xs8.length ≤ 256 := Tr_len_le t8 256 (by have h1 := zv_abs na (val xs); have h2 := zv_abs nc (val zs); have h3 := hx.val; have h4 := hz.val; have h5 := pw_80; rw [v8]; omega)
      have k9' : xs9.length ≤ 256 := Tr_len_le t9 256 (by have h1 := zv_abs nb (val ys); have h2 := zv_abs nc (val zs); have h3 := hy.val; have h4 := hz.val; have h5 := pw_80; rw [v9]; omega)
      have HE : Hid (cmpI (zv n8 (val xs8)) (zv n9 (val xs9)) = c) := by show _ = _; rw [← z8, ← z9, cmpI_add]; exact HC.out
      clear v8 v9 z8 z9 hI8' hI9
      go_wp2_with fail
      refine (compare_any n8 n9 a8 a9 l8 d8 l9 d9 xs8 xs9 _ ho8.sl ho9.sl ok8 ok9 (by omega) (by omega)).mono ?_
      rw [HE.out]
      rintro e wc ⟨rfl, hbd⟩
      have hBc : Below w.heap.size w wc := (hBb.trans (hbc.mono hBb.size)).trans (hbd.mono (Nat.le_trans hBb.size hbc.size))
      clear r0 r1 rl
      have hcc : (c == c) = true := by simp
      go_wp2_with fail
      refine (awake_any wc).mono ?_
      rintro e wd ⟨rfl, hbe⟩
      go_wp2
      go_ret
      exact ⟨rfl, hBc.trans (hbe.mono hBc.size)⟩
  · have q0 := hA.c0
    have q1 := hA.c1
    have q2 := hC.c0
    have q3 := hC.c1
    go_wp2_with fail
    refine (lsum_any na nc a0 a2 l0 c0 l2 c2 xs zs _ hx.sl hz.sl hx.ok hz.ok (by have := hx.len; omega) (by have := hz.len; omega)).mono ?_
    rintro e wa ⟨n8, a8, l8, d8, k8, rfl, hs8, hb8⟩
    obtain ⟨_, hI8⟩ := hs8.few hx.val hz.val
    clear q0 q1 q2 q3 hs8
    replace hA := hA.below hb8
    replace hB := hB.below hb8
    replace hC := hC.below hb8
    replace hx := hx.below hb8
    replace hy := hy.below hb8
    replace hz := hz.below hb8
    replace hB0 : Below w.heap.size w wa := hB0.trans (hb8.mono hB0.size)
    clear hb8
    have hba : Below wa.heap.size wa (wa.alloc (.cells #[.bool n8, .slice a8 l8 d8] 24)) := (Below.refl _ _).alloc (Nat.le_refl _) _
    have hX8 := Box2.new wa n8 a8 l8 d8 24
    have q0 := hB.c0
    have q1 := hB.c1
    have q2 := hC.c0
    have q3 := hC.c1
    have qb := hB.lt
    have qc := hC.lt
    go_wp2_with fail
    refine (lsum_any nb nc a1 a2 l1 c1 l2 c2 ys zs _ (hy.sl.below hba) (hz.sl.below hba) hy.ok hz.ok (by have := hy.len; omega) (by have := hz.len; omega)).mono ?_
    rintro e wb ⟨n9, a9, l9, d9, k9, rfl, hs9, hb9⟩
    obtain ⟨_, hI9⟩ := hs9.few hy.val hz.val
    have hX9 := hX8.below hb9
    have hI8' := (hI8.below hba).below hb9
    have hBb : Below w.heap.size w wb := (hB0.trans (hba.mono hB0.size)).trans (hb9.mono (Nat.le_trans hB0.size hba.size))
    clear q0 q1 q2 q3 qb qc hs9 hI8
    have hbc : Below wb.heap.size wb (wb.alloc (.cells #[.bool n9, .slice a9 l9 d9] 24)) := (Below.refl _ _).alloc (Nat.le_refl _) _
    have r0 := hX9.c0
    have r1 := hX9.c1
    have rl := hX9.lt
    obtain ⟨xs8, ho8, ok8, t8, z8, v8⟩ := (hI8'.below hbc).parts
    obtain ⟨xs9, ho9, ok9, t9, z9, v9⟩ := (hI9.below hbc).parts
    have k8' : xs8.length ≤ 256 := Tr_len_le t8 256 (by have h1 := zv_abs na (val xs); have h2 := zv_abs nc (val zs); have h3 := hx.val; have h4 := hz.val; have h5 := pw_80; rw [v8]; omega)
    have k9' : xs9.length ≤ 256 := Tr_len_le t9 256 (by have h1 := zv_abs nb (val ys); have h2 := zv_abs nc (val zs); have h3 := hy.val; have h4 := hz.val; have h5 := pw_80; rw [v9]; omega)
    have HE : Hid (cmpI (zv n8 (val xs8)) (zv n9 (val xs9)) = c) := by show _ = _; rw [← z8, ← z9, cmpI_add]; exact HC.out
    clear v8 v9 z8 z9 hI8' hI9
    go_wp2_with fail
    refine (compare_any n8 n9 a8 a9 l8 d8 l9 d9 xs8 xs9 _ ho8.sl ho9.sl ok8 ok9 (by omega) (by omega)).mono ?_
    rw [HE.out]
    rintro e wc ⟨rfl, hbd⟩
    have hBc : Below w.heap.size w wc := (hBb.trans (hbc.mono hBb.size)).trans (hbd.mono (Nat.le_trans hBb.size hbc.size))
    clear r0 r1 rl
    have hcc : (c == c) = true := by simp
    go_wp2_with fail
    refine (awake_any wc).mono ?_
    rintro e wd ⟨rfl, hbe⟩
    go_wp2
    go_ret
    exact ⟨rfl, hBc.trans (hbe.mono hBc.size)⟩
end Go.Proofs.Ytpaiaagjlkdfgab
