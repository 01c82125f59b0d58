/-
  The reference: Mul.
-/
import Derived.Test.YteplmnnpmekngaaRTimes
namespace Go.Proofs.Yteplmnnpmekngaa
open Go.RowKit

theorem Box2.putOther {w : World} {N M : Nat} {neg : Bool} {a : Option Addr} {n cap : Nat} (h : Box2 w N neg a n cap) (hne : N ≠ M) (x : Bool) (s : Value) : Box2 (put2 w M x s) N neg a n cap := by
  have o : ∀ j, (put2 w M x s).cell? ⟨N, j, none⟩ = w.cell? ⟨N, j, none⟩ := fun j => by
    unfold put2
    rw [World.cell?_setCell_other _ _ _ _ (by intro e; injection e with e; omega), World.cell?_setCell_other _ _ _ _ (by intro e; injection e with e; omega)]
  have f : ∀ j, (put2 w M x s).frozen? ⟨N, j, none⟩ = w.frozen? ⟨N, j, none⟩ := fun j => by
    unfold put2
    rw [World.frozen?_setCell, World.frozen?_setCell]
  exact ⟨(o 0).trans h.c0, (o 1).trans h.c1, (f 0).trans h.f0, (f 1).trans h.f1⟩
theorem pw_prod {z x y : Int} (hx : x.natAbs < pw 256) (hy : y.natAbs < pw 256) (h : z = x * y) : z.natAbs < pw 512 := by
  have e : pw 512 = pw 256 * pw 256 := pw_add 256 256
  rw [h, e, Int.natAbs_mul]
  exact Nat.mul_lt_mul'' hx hy

set_option maxRecDepth 100000 in
set_option maxHeartbeats 4000000 in
theorem rmul_any (na nb : Bool) (ax ay : Option Addr) (nx cx ny cy : Nat) (xs ys : List Nat) (w : World) (hx : Sl .u32 w (.slice ax nx cx) xs) (hy : Sl .u32 w (.slice ay ny cy) ys) (ox : okw xs) (oy : okw ys)
    (bx : xs.length ≤ 1000000) (by_ : ys.length ≤ 1000000) :
    Calls Try.prog 19 #[.agg #[.bool na, .slice ax nx cx], .agg #[.bool nb, .slice ay ny cy]] w fun e w' => ∃ neg a n cap k, e = .returned (.tuple #[.agg #[.bool neg, .slice a n cap], .int .i64 k]) ∧ SumRes w.heap.size w' (.agg #[.bool neg, .slice a n cap]) k (val xs) (val ys) (zv na (val xs) * zv nb (val ys)) ∧ Below w.heap.size w w' := by
  have hbs := boxes3 w na nb false ax ay none nx cx ny cy 0 0 24
  go_enter Try.func19, Try.ntmps19
  go_wp2_with fail
  obtain ⟨W0, hW0⟩ : ∃ W0, ((w.alloc (.cells #[.bool na, .slice ax nx cx] 24)).alloc (.cells #[.bool nb, .slice ay ny cy] 24)).alloc (.cells #[.bool false, .slice none 0 0] 24) = W0 := ⟨_, rfl⟩
  simp only [hW0] at hbs
  rw [hW0]
  clear hW0
  obtain ⟨hA, hB, hR, hB0⟩ := hbs
  have hX := hx.below hB0
  have hY := hy.below hB0
  have big : ∀ W, Box2 W (w.heap.size + 1 + 1) false none 0 0 → Below w.heap.size w W → (pw 256 ≤ val xs ∨ pw 256 ≤ val ys) → Hid (SumRes w.heap.size (put2 W (w.heap.size + 1 + 1) false (.slice none 0 0)) (.agg #[.bool false, .slice none 0 0]) 3 (val xs) (val ys) (zv na (val xs) * zv nb (val ys)) ∧ Below w.heap.size w (put2 W (w.heap.size + 1 + 1) false (.slice none 0 0))) := fun W _ hb h => ⟨Or.inl ⟨h, rfl, rfl⟩, below_put2 (N := w.heap.size + 1 + 1) hb (by omega) _ _⟩
  refine (rlong_any na ax nx cx xs W0 hX ox bx).mono ?_
  rintro e w1 ⟨rfl, hb1⟩
  replace hX := hX.below hb1
  replace hY := hY.below hb1
  replace hA := hA.below hb1
  replace hB := hB.below hb1
  replace hR := hR.below hb1
  replace hB0 : Below w.heap.size w w1 := hB0.trans (hb1.mono hB0.size)
  clear hb1 hx hy
  clear W0
  have r0 := hR.c0
  have r1 := hR.c1
  have rf0 := hR.f0
  have rf1 := hR.f1
  have b0 := hB.c0
  have b1 := hB.c1
  by_cases h1 : pw 256 ≤ val xs
  · have hd : decide (pw 256 ≤ val xs) = true := by simpa using h1
    rw [hd]
    have HF := big w1 hR hB0 (Or.inl h1)
    have hfin := hR.put false none 0 0
    have hg0 := hfin.c0
    have hg1 := hfin.c1
    unfold put2 at hg0 hg1
    clear big hX hY hA hB
    go_wp2
    refine bodyPost_ret (v := .tuple #[.agg #[.bool false, .slice none 0 0], .int .i64 3]) ?_ rfl ⟨_, _, _, _, _, rfl, HF.out⟩
    simp [results, Try.f19, go_sem, hg0, hg1]
  have hd : decide (pw 256 ≤ val xs) = false := by simpa using h1
  rw [hd]
  clear hd
  go_wp2_with fail
  refine (rlong_any nb ay ny cy ys w1 hY oy by_).mono ?_
  rintro e w2 ⟨rfl, hb1⟩
  replace hX := hX.below hb1
  replace hY := hY.below hb1
  replace hA := hA.below hb1
  replace hB := hB.below hb1
  replace hR := hR.below hb1
  replace hB0 : Below w.heap.size w w2 := hB0.trans (hb1.mono hB0.size)
  clear hb1 r0 r1 rf0 rf1 b0 b1
  clear w1
  have r0 := hR.c0
  have r1 := hR.c1
  have rf0 := hR.f0
  have rf1 := hR.f1
  by_cases h2 : pw 256 ≤ val ys
  · have hd : decide (pw 256 ≤ val ys) = true := by simpa using h2
    rw [hd]
    have HF := big w2 hR hB0 (Or.inr h2)
    have hfin := hR.put false none 0 0
    have hg0 := hfin.c0
    have hg1 := hfin.c1
    unfold put2 at hg0 hg1
    clear big hX hY hA hB
    go_wp2
    refine bodyPost_ret (v := .tuple #[.agg #[.bool false, .slice none 0 0], .int .i64 3]) ?_ rfl ⟨_, _, _, _, _, rfl, HF.out⟩
    simp [results, Try.f19, go_sem, hg0, hg1]
  have hd : decide (pw 256 ≤ val ys) = false := by simpa using h2
  rw [hd]
  clear hd big
  have x1 : (zv na (val xs)).natAbs < pw 256 := by rw [zv_abs]; omega
  have y1 : (zv nb (val ys)).natAbs < pw 256 := by rw [zv_abs]; omega
  have HZ : Hid (val xs < pw 256 ∧ val ys < pw 256) := ⟨by omega, by omega⟩
  clear h1 h2
  have a0 := hA.c0
  have a1 := hA.c1
  have af0 := hA.f0
  have af1 := hA.f1
  clear r0 r1 rf0 rf1
  go_wp2_with fail
  refine (rform_any na ax nx cx xs w2 hX ox bx).mono ?_
  rintro e w3 ⟨n3, a3, l3, c3, rfl, hI3, hb3⟩
  replace hA := hA.below hb3
  replace hB := hB.below hb3
  replace hR := hR.below hb3
  replace hY := hY.below hb3
  replace hI3 := hI3.mono hB0.size
  replace hB0 : Below w.heap.size w w3 := hB0.trans (hb3.mono hB0.size)
  clear a0 a1 af0 af1 hb3 hX
  have a0 := hA.c0
  have a1 := hA.c1
  have af0 := hA.f0
  have af1 := hA.f1
  have b0 := ((hB.putOther (M := w.heap.size) (by omega) n3 (.slice a3 l3 c3))).c0
  have b1 := ((hB.putOther (M := w.heap.size) (by omega) n3 (.slice a3 l3 c3))).c1
  unfold put2 at b0 b1
  go_wp2_with fail
  clear b0 b1 a0 a1 af0 af1
  have hA4 := hA.put n3 a3 l3 c3
  have hB4 := hB.putOther (M := w.heap.size) (by omega) n3 (.slice a3 l3 c3)
  have hR4 := hR.putOther (M := w.heap.size) (by omega) n3 (.slice a3 l3 c3)
  have hI4 := hI3.put hA n3 (.slice a3 l3 c3)
  have hY4 := hY.put hA n3 (.slice a3 l3 c3)
  have hB04 := below_put2 (N := w.heap.size) hB0 (Nat.le_refl _) n3 (.slice a3 l3 c3)
  clear hA hB hR hI3 hY hB0
  obtain ⟨w4, hw4⟩ : ∃ w4, (w3.setCell ⟨w.heap.size, 0, none⟩ (.bool n3)).setCell ⟨w.heap.size, 1, none⟩ (.slice a3 l3 c3) = w4 := ⟨_, rfl⟩
  have hw5 : put2 w3 w.heap.size n3 (.slice a3 l3 c3) = w4 := hw4
  rw [hw5] at hA4 hB4 hR4 hI4 hY4 hB04
  rw [hw4]
  clear hw4 hw5
  clear w3
  refine (rform_any nb ay ny cy ys w4 hY4 oy by_).mono ?_
  rintro e w5 ⟨n5, a5, l5, c5, rfl, hI5, hb5⟩
  replace hA4 := hA4.below hb5
  replace hB4 := hB4.below hb5
  replace hR4 := hR4.below hb5
  replace hI4 := hI4.below hb5
  replace hI5 := hI5.mono hB04.size
  replace hB04 : Below w.heap.size w w5 := hB04.trans (hb5.mono hB04.size)
  clear hb5 hY4
  clear w4
  have b0 := hB4.c0
  have b1 := hB4.c1
  have bf0 := hB4.f0
  have bf1 := hB4.f1
  go_wp2_with fail
  clear b0 b1 bf0 bf1
  have hA6 := hA4.putOther (M := w.heap.size + 1) (by omega) n5 (.slice a5 l5 c5)
  have hB6 := hB4.put n5 a5 l5 c5
  have hR6 := hR4.putOther (M := w.heap.size + 1) (by omega) n5 (.slice a5 l5 c5)
  have hI6 := hI4.put hB4 n5 (.slice a5 l5 c5)
  have hJ6 := hI5.put hB4 n5 (.slice a5 l5 c5)
  have hB06 := below_put2 (N := w.heap.size + 1) hB04 (by omega) n5 (.slice a5 l5 c5)
  clear hA4 hB4 hR4 hI4 hI5 hB04
  obtain ⟨w6, hw4⟩ : ∃ w4, (w5.setCell ⟨w.heap.size + 1, 0, none⟩ (.bool n5)).setCell ⟨w.heap.size + 1, 1, none⟩ (.slice a5 l5 c5) = w4 := ⟨_, rfl⟩
  have hw5 : put2 w5 (w.heap.size + 1) n5 (.slice a5 l5 c5) = w6 := hw4
  rw [hw5] at hA6 hB6 hR6 hI6 hJ6 hB06
  rw [hw4]
  clear hw4 hw5
  clear w5
  have hC := C4.mk hA6 hB6
  have a0 := hA6.c0
  have a1 := hA6.c1
  have b0 := hB6.c0
  have b1 := hB6.c1
  obtain ⟨X, oX, kX, fX, eX⟩ := hI6.open
  obtain ⟨Y, oY, kY, fY, eY⟩ := hJ6.open
  have lX : X.length ≤ 1000 := by have := hI6.len_le 256 x1; rw [oX.len] at this; omega
  have lY : Y.length ≤ 1000 := by have := hJ6.len_le 256 y1; rw [oY.len] at this; omega
  go_region_held3 (fun W => W.cell? ⟨w.heap.size, 0, none⟩ = some (.bool n3) ∧ W.cell? ⟨w.heap.size, 1, none⟩ = some (.slice a3 l3 c3) ∧ W.cell? ⟨w.heap.size + 1, 0, none⟩ = some (.bool n5) ∧ W.cell? ⟨w.heap.size + 1, 1, none⟩ = some (.slice a5 l5 c5))
    (first | exact hC.drew | assumption | exact C4.put hC9 _ _ | exact C4.keep (by assumption) hb7 | exact C4.keep (by assumption) hb8 | exact C4.keep (by assumption) hb9 | fail)
    (first | (go_at_call 50; refine (rtimes_any a3 a5 l3 c3 l5 c5 X Y _ (oX.sl.below below_drew) (oY.sl.below below_drew) lX lY kX kY).mono ?_; rintro e w7 ⟨a7, m7, c7, P, rfl, l7, oP, kP, vP, hb7⟩; have hR7 := (hR6.below below_drew).below hb7; have hC7 := hC.drew.keep hb7; have HVP : Hid (val P = val X * val Y) := vP; clear vP)
           | (go_at_call 49; refine (rmade_any (n3 != n5) a7 m7 c7 P _ oP.sl kP (by rw [← oP.len]; omega)).mono ?_; rw [HVP.out, zv_mul, eX, eY]; rintro e w8 ⟨n8, a8, l8, c8, rfl, hI8, hb8⟩; have hR8 := hR7.below hb8; have hC8 := hC7.keep hb8)
           | (go_at_call 43; refine (rkept_any n8 a8 l8 c8 _ _ _ hI8 (by have := hI8.len_le 512 (pw_prod x1 y1 rfl); omega)).mono ?_; rintro e w9 ⟨n9, a9, l9, c9, k9, rfl, hres, hb9⟩; have hR9 := hR8.below hb9; have hC9 := hC8.keep hb9; have s0 := hR9.c0; have s1 := hR9.c1; have sf0 := hR9.f0; have sf1 := hR9.f1)
           | fail)
  have hBs : w.heap.size ≤ w6.drew.heap.size := hB06.size
  have hs7 := Nat.le_trans hBs hb7.size
  have hs8 := Nat.le_trans hs7 hb8.size
  have hBw : Below w.heap.size w w9 := ((hB06.drew.trans (hb7.mono hBs)).trans (hb8.mono hs7)).trans (hb9.mono hs8)
  have hfin := hR9.put n9 a9 l9 c9
  have hg0 := hfin.c0
  have hg1 := hfin.c1
  unfold put2 at hg0 hg1
  have HF : Hid (SumRes w.heap.size (put2 w9 (w.heap.size + 1 + 1) n9 (.slice a9 l9 c9)) (.agg #[.bool n9, .slice a9 l9 c9]) k9 (val xs) (val ys) (zv na (val xs) * zv nb (val ys))) := Or.inr ⟨HZ.out, (hres.mono hs7).put hR9 n9 (.slice a9 l9 c9)⟩
  go_wp2
  refine bodyPost_ret (v := .tuple #[.agg #[.bool n9, .slice a9 l9 c9], .int .i64 k9]) ?_ rfl ⟨_, _, _, _, _, rfl, HF.out, below_put2 (N := w.heap.size + 1 + 1) hBw (by omega) n9 (.slice a9 l9 c9)⟩
  simp [results, Try.f19, go_sem, hg0, hg1]
end Go.Proofs.Yteplmnnpmekngaa
