/-
  The reference: Add, Sub.
-/
import Derived.Test.YtjgibhpmbiphdaaRSum
namespace Go.Proofs.Ytjgibhpmbiphdaa
open Go.RowKit

theorem pw_sum {z x y : Int} (hx : x.natAbs < pw 256) (hy : y.natAbs < pw 256) (h : z = x + y) : z.natAbs < pw 257 := by
  have e : pw 257 = pw 1 * pw 256 := pw_add 1 256
  rw [show pw 1 = 4294967296 from rfl] at e
  have := Int.natAbs_add_le x y
  rw [h, e]
  omega

set_option maxRecDepth 100000 in
set_option maxHeartbeats 4000000 in
theorem radd_any (na nb : Bool) (ax ay : Option Addr) (nx cx ny cy : Nat) (xs ys : List Nat) (w : World) (hx : Sl .u32 w (.slice ax nx cx) xs) (hy : Sl .u32 w (.slice ay ny cy) ys) (ox : okw xs) (oy : okw ys)
    (bx : xs.length ≤ 1000000) (by_ : ys.length ≤ 1000000) :
    Calls Try.prog 13 #[.agg #[.bool na, .slice ax nx cx], .agg #[.bool nb, .slice ay ny cy]] w fun e w' => ∃ neg a n cap k, e = .returned (.tuple #[.agg #[.bool neg, .slice a n cap], .int .i64 k]) ∧ SumRes w.heap.size w' (.agg #[.bool neg, .slice a n cap]) k (val xs) (val ys) (zv na (val xs) + zv nb (val ys)) ∧ Below w.heap.size w w' := by
  have hbs := boxes3 w na nb false ax ay none nx cx ny cy 0 0 24
  go_enter Try.func13, Try.ntmps13
  go_wp2_with fail
  obtain ⟨W0, hW0⟩ : ∃ W0, ((w.alloc (.cells #[.bool na, .slice ax nx cx] 24)).alloc (.cells #[.bool nb, .slice ay ny cy] 24)).alloc (.cells #[.bool false, .slice none 0 0] 24) = W0 := ⟨_, rfl⟩
  simp only [hW0] at hbs
  rw [hW0]
  clear hW0
  obtain ⟨hA, hB, hR, hB0⟩ := hbs
  have hX := hx.below hB0
  have hY := hy.below hB0
  have big : ∀ W, Box2 W (w.heap.size + 1 + 1) false none 0 0 → Below w.heap.size w W → (pw 256 ≤ val xs ∨ pw 256 ≤ val ys) → Hid (SumRes w.heap.size (put2 W (w.heap.size + 1 + 1) false (.slice none 0 0)) (.agg #[.bool false, .slice none 0 0]) 3 (val xs) (val ys) (zv na (val xs) + zv nb (val ys)) ∧ Below w.heap.size w (put2 W (w.heap.size + 1 + 1) false (.slice none 0 0))) := fun W _ hb h => ⟨Or.inl ⟨h, rfl, rfl⟩, below_put2 (N := w.heap.size + 1 + 1) hb (by omega) _ _⟩
  refine (rlong_any na ax nx cx xs W0 hX ox bx).mono ?_
  rintro e w1 ⟨rfl, hb1⟩
  replace hX := hX.below hb1
  replace hY := hY.below hb1
  replace hA := hA.below hb1
  replace hB := hB.below hb1
  replace hR := hR.below hb1
  replace hB0 : Below w.heap.size w w1 := hB0.trans (hb1.mono hB0.size)
  clear hb1 hx hy
  clear W0
  have r0 := hR.c0
  have r1 := hR.c1
  have rf0 := hR.f0
  have rf1 := hR.f1
  have b0 := hB.c0
  have b1 := hB.c1
  by_cases h1 : pw 256 ≤ val xs
  · have hd : decide (pw 256 ≤ val xs) = true := by simpa using h1
    rw [hd]
    have HF := big w1 hR hB0 (Or.inl h1)
    have hfin := hR.put false none 0 0
    have hg0 := hfin.c0
    have hg1 := hfin.c1
    unfold put2 at hg0 hg1
    clear big hX hY hA hB
    go_wp2
    refine bodyPost_ret (v := .tuple #[.agg #[.bool false, .slice none 0 0], .int .i64 3]) ?_ rfl ⟨_, _, _, _, _, rfl, HF.out⟩
    simp [results, Try.f13, go_sem, hg0, hg1]
  have hd : decide (pw 256 ≤ val xs) = false := by simpa using h1
  rw [hd]
  clear hd
  go_wp2_with fail
  refine (rlong_any nb ay ny cy ys w1 hY oy by_).mono ?_
  rintro e w2 ⟨rfl, hb1⟩
  replace hX := hX.below hb1
  replace hY := hY.below hb1
  replace hA := hA.below hb1
  replace hB := hB.below hb1
  replace hR := hR.below hb1
  replace hB0 : Below w.heap.size w w2 := hB0.trans (hb1.mono hB0.size)
  clear hb1 r0 r1 rf0 rf1 b0 b1
  clear w1
  have r0 := hR.c0
  have r1 := hR.c1
  have rf0 := hR.f0
  have rf1 := hR.f1
  by_cases h2 : pw 256 ≤ val ys
  · have hd : decide (pw 256 ≤ val ys) = true := by simpa using h2
    rw [hd]
    have HF := big w2 hR hB0 (Or.inr h2)
    have hfin := hR.put false none 0 0
    have hg0 := hfin.c0
    have hg1 := hfin.c1
    unfold put2 at hg0 hg1
    clear big hX hY hA hB
    go_wp2
    refine bodyPost_ret (v := .tuple #[.agg #[.bool false, .slice none 0 0], .int .i64 3]) ?_ rfl ⟨_, _, _, _, _, rfl, HF.out⟩
    simp [results, Try.f13, go_sem, hg0, hg1]
  have hd : decide (pw 256 ≤ val ys) = false := by simpa using h2
  rw [hd]
  have hC := C4.mk hA hB
  clear hd big r0 r1 rf0 rf1
  have a0 := hA.c0
  have a1 := hA.c1
  have b0 := hB.c0
  have b1 := hB.c1
  have x1 : (zv na (val xs)).natAbs < pw 256 := by rw [zv_abs]; omega
  have y1 : (zv nb (val ys)).natAbs < pw 256 := by rw [zv_abs]; omega
  have HZ : Hid (val xs < pw 256 ∧ val ys < pw 256) := ⟨by omega, by omega⟩
  go_wp2_with fail
  go_region_held3 (fun W => W.cell? ⟨w.heap.size, 0, none⟩ = some (.bool na) ∧ W.cell? ⟨w.heap.size, 1, none⟩ = some (.slice ax nx cx) ∧ W.cell? ⟨w.heap.size + 1, 0, none⟩ = some (.bool nb) ∧ W.cell? ⟨w.heap.size + 1, 1, none⟩ = some (.slice ay ny cy))
    (first | exact hC.drew | assumption | exact C4.put hC6 _ _ | exact C4.keep (by assumption) hb3 | exact C4.keep (by assumption) hb4 | exact C4.keep (by assumption) hb5 | exact C4.keep (by assumption) hb6 | fail)
    (first | (go_at_call 35; refine (rform_any na ax nx cx xs _ (hX.below below_drew) ox bx).mono ?_; rintro e w3 ⟨n3, a3, l3, c3, rfl, hI3, hb3⟩; have hR3 := (hR.below below_drew).below hb3; have hC3 := hC.drew.keep hb3; have hY3 := (hY.below below_drew).below hb3)
           | (go_at_call 35; refine (rform_any nb ay ny cy ys _ hY3 oy by_).mono ?_; rintro e w4 ⟨n4, a4, l4, c4, rfl, hI4, hb4⟩; have hR4 := hR3.below hb4; have hC4 := hC3.keep hb4; have hJ3 := hI3.below hb4)
           | (go_at_call 44; obtain ⟨X, oX, kX, fX, eX⟩ := hJ3.open; obtain ⟨Y, oY, kY, fY, eY⟩ := hI4.open; have lX := hJ3.len_le 256 x1; have lY := hI4.len_le 256 y1; refine (rsum_any n3 n4 a3 a4 l3 c3 l4 c4 X Y _ oX.sl oY.sl kX kY fX.tr fY.tr (by rw [← oX.len]; omega) (by rw [← oY.len]; omega)).mono ?_; rw [eX, eY]; rintro e w5 ⟨n5, a5, l5, c5, rfl, hI5, hb5⟩; have hR5 := hR4.below hb5; have hC5 := hC4.keep hb5)
           | (go_at_call 43; refine (rkept_any n5 a5 l5 c5 _ _ _ hI5 (by have := hI5.len_le 257 (pw_sum x1 y1 rfl); omega)).mono ?_; rintro e w6 ⟨n6, a6, l6, c6, k6, rfl, hres, hb6⟩; have hR6 := hR5.below hb6; have hC6 := hC5.keep hb6; have s0 := hR6.c0; have s1 := hR6.c1; have sf0 := hR6.f0; have sf1 := hR6.f1)
           | fail)
  have hBs : w.heap.size ≤ w2.drew.heap.size := hB0.size
  have hs3 := Nat.le_trans hBs hb3.size
  have hs4 := Nat.le_trans hs3 hb4.size
  have hs5 := Nat.le_trans hs4 hb5.size
  have hBw : Below w.heap.size w w6 := (((hB0.drew.trans (hb3.mono hBs)).trans (hb4.mono hs3)).trans (hb5.mono hs4)).trans (hb6.mono hs5)
  have hfin := hR6.put n6 a6 l6 c6
  have hg0 := hfin.c0
  have hg1 := hfin.c1
  unfold put2 at hg0 hg1
  have HF : Hid (SumRes w.heap.size (put2 w6 (w.heap.size + 1 + 1) n6 (.slice a6 l6 c6)) (.agg #[.bool n6, .slice a6 l6 c6]) k6 (val xs) (val ys) (zv na (val xs) + zv nb (val ys))) := Or.inr ⟨HZ.out, (hres.mono hs4).put hR6 n6 (.slice a6 l6 c6)⟩
  go_wp2
  refine bodyPost_ret (v := .tuple #[.agg #[.bool n6, .slice a6 l6 c6], .int .i64 k6]) ?_ rfl ⟨_, _, _, _, _, rfl, HF.out, below_put2 (N := w.heap.size + 1 + 1) hBw (by omega) n6 (.slice a6 l6 c6)⟩
  simp [results, Try.f13, go_sem, hg0, hg1]

set_option maxRecDepth 100000 in
set_option maxHeartbeats 4000000 in
theorem rsub_any (na nb : Bool) (ax ay : Option Addr) (nx cx ny cy : Nat) (xs ys : List Nat) (w : World) (hx : Sl .u32 w (.slice ax nx cx) xs) (hy : Sl .u32 w (.slice ay ny cy) ys) (ox : okw xs) (oy : okw ys)
    (bx : xs.length ≤ 1000000) (by_ : ys.length ≤ 1000000) :
    Calls Try.prog 17 #[.agg #[.bool na, .slice ax nx cx], .agg #[.bool nb, .slice ay ny cy]] w fun e w' => ∃ neg a n cap k, e = .returned (.tuple #[.agg #[.bool neg, .slice a n cap], .int .i64 k]) ∧ SumRes w.heap.size w' (.agg #[.bool neg, .slice a n cap]) k (val xs) (val ys) (zv na (val xs) - zv nb (val ys)) ∧ Below w.heap.size w w' := by
  have hbs := boxes3 w na nb false ax ay none nx cx ny cy 0 0 24
  go_enter Try.func17, Try.ntmps17
  go_wp2_with fail
  obtain ⟨W0, hW0⟩ : ∃ W0, ((w.alloc (.cells #[.bool na, .slice ax nx cx] 24)).alloc (.cells #[.bool nb, .slice ay ny cy] 24)).alloc (.cells #[.bool false, .slice none 0 0] 24) = W0 := ⟨_, rfl⟩
  simp only [hW0] at hbs
  rw [hW0]
  clear hW0
  obtain ⟨hA, hB, hR, hB0⟩ := hbs
  have hX := hx.below hB0
  have hY := hy.below hB0
  have hC := C4.mk hA hB
  have a0 := hA.c0
  have a1 := hA.c1
  have b0 := hB.c0
  have b1 := hB.c1
  have lYs : ys.length ≤ 1000000 := by_
  clear hx hy
  go_region_held3 (fun W => W.cell? ⟨w.heap.size, 0, none⟩ = some (.bool na) ∧ W.cell? ⟨w.heap.size, 1, none⟩ = some (.slice ax nx cx) ∧ W.cell? ⟨w.heap.size + 1, 0, none⟩ = some (.bool nb) ∧ W.cell? ⟨w.heap.size + 1, 1, none⟩ = some (.slice ay ny cy))
    (first | exact hC.drew | assumption | exact C4.put hC4 _ _ | exact C4.keep (by assumption) hb3 | exact C4.keep (by assumption) hb4 | fail)
    (first | (go_at_call 21; refine (rnegate_any nb ay ny cy ys _ (hY.below below_drew) oy by_).mono ?_; rintro e w3 ⟨n3, a3, l3, c3, rfl, hI3, hb3⟩; have hR3 := (hR.below below_drew).below hb3; have hC3 := hC.drew.keep hb3; have hX3 := (hX.below below_drew).below hb3)
           | (go_at_call 13; obtain ⟨Y, oY, kY, fY, eY⟩ := hI3.open; have vY : val Y = val ys := (by have := zv_abs n3 (val Y); rw [eY, Int.natAbs_neg, zv_abs] at this; exact this.symm); have lY : Y.length ≤ 1000000 := (by have h1 := Tr_len_le fY.tr ys.length (by rw [vY]; exact val_lt oy); omega); refine (radd_any na n3 ax a3 nx cx l3 c3 xs Y _ hX3 oY.sl ox kY bx lY).mono ?_; rw [eY, vY, ← Int.sub_eq_add_neg]; rintro e w4 ⟨n6, a6, l6, c6, k6, rfl, hres, hb4⟩; have hR6 := hR3.below hb4; have hC4 := hC3.keep hb4; have s0 := hR6.c0; have s1 := hR6.c1; have sf0 := hR6.f0; have sf1 := hR6.f1)
           | fail)
  have hBs : w.heap.size ≤ W0.drew.heap.size := hB0.size
  have hs3 := Nat.le_trans hBs hb3.size
  have hBw : Below w.heap.size w w4 := (hB0.drew.trans (hb3.mono hBs)).trans (hb4.mono hs3)
  have hfin := hR6.put n6 a6 l6 c6
  have hg0 := hfin.c0
  have hg1 := hfin.c1
  unfold put2 at hg0 hg1
  have HF : Hid (SumRes w.heap.size (put2 w4 (w.heap.size + 1 + 1) n6 (.slice a6 l6 c6)) (.agg #[.bool n6, .slice a6 l6 c6]) k6 (val xs) (val ys) (zv na (val xs) - zv nb (val ys))) := (hres.mono hs3).put hR6 n6 (.slice a6 l6 c6)
  go_wp2
  refine bodyPost_ret (v := .tuple #[.agg #[.bool n6, .slice a6 l6 c6], .int .i64 k6]) ?_ rfl ⟨_, _, _, _, _, rfl, HF.out, below_put2 (N := w.heap.size + 1 + 1) hBw (by omega) n6 (.slice a6 l6 c6)⟩
  simp [results, Try.f17, go_sem, hg0, hg1]
end Go.Proofs.Ytjgibhpmbiphdaa
