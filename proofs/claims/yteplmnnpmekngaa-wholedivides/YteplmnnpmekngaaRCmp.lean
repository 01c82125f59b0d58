/-
  The reference: Compare.
-/
import Derived.Test.YteplmnnpmekngaaRMul
namespace Go.Proofs.Yteplmnnpmekngaa
open Go.RowKit

theorem Fm.pos {X : List Nat} (f : Fm true X) : 0 < val X := by
  rcases Nat.eq_zero_or_pos (val X) with h | h
  · have := (Tr_zero f.tr).1 h
    have := f.nn (List.eq_nil_of_length_eq_zero this)
    simp at this
  · exact h
theorem cmp_neg {x y : Nat} : cmpI (zv true x) (zv true y) = - cmpN x y := by
  simp only [cmpI, cmpN, zv, if_true]
  repeat' split
  all_goals omega
theorem cmp_pos {x y : Nat} : cmpI (zv false x) (zv false y) = cmpN x y := by
  simp only [cmpI, cmpN, zv, Bool.false_eq_true, if_false]
  repeat' split
  all_goals omega

set_option maxRecDepth 100000 in
set_option maxHeartbeats 4000000 in
theorem rcompare_any (na nb : Bool) (ax ay : Option Addr) (nx cx ny cy : Nat) (xs ys : List Nat) (w : World) (hx : Sl .u32 w (.slice ax nx cx) xs) (hy : Sl .u32 w (.slice ay ny cy) ys) (ox : okw xs) (oy : okw ys)
    (bx : xs.length ≤ 1000000) (by_ : ys.length ≤ 1000000) :
    Calls Try.prog 23 #[.agg #[.bool na, .slice ax nx cx], .agg #[.bool nb, .slice ay ny cy]] w fun e w' => e = .returned (.int .i64 (cmpI (zv na (val xs)) (zv nb (val ys)))) ∧ Below w.heap.size w w' := by
  have hbs := boxes2 w na nb ax ay nx cx ny cy 24
  go_enter Try.func23, Try.ntmps23
  go_upto_region 1 with fail
  obtain ⟨W0, hW0⟩ : ∃ W0, (w.alloc (.cells #[.bool na, .slice ax nx cx] 24)).alloc (.cells #[.bool nb, .slice ay ny cy] 24) = W0 := ⟨_, rfl⟩
  simp only [hW0] at hbs
  rw [hW0]
  clear hW0
  obtain ⟨hA, hB, hB0⟩ := hbs
  have hX := hx.below hB0
  have hY := hy.below hB0
  clear hx hy
  have a0 := hA.c0
  have a1 := hA.c1
  have af0 := hA.f0
  have af1 := hA.f1
  go_wp2_with fail
  refine (rform_any na ax nx cx xs W0 hX ox bx).mono ?_
  rintro e w3 ⟨n3, a3, l3, c3, rfl, hI3, hb3⟩
  replace hA := hA.below hb3
  replace hB := hB.below hb3
  replace hY := hY.below hb3
  replace hI3 := hI3.mono hB0.size
  replace hB0 : Below w.heap.size w w3 := hB0.trans (hb3.mono hB0.size)
  clear a0 a1 af0 af1 hb3 hX
  have a0 := hA.c0
  have a1 := hA.c1
  have af0 := hA.f0
  have af1 := hA.f1
  have b0 := ((hB.putOther (M := w.heap.size) (by omega) n3 (.slice a3 l3 c3))).c0
  have b1 := ((hB.putOther (M := w.heap.size) (by omega) n3 (.slice a3 l3 c3))).c1
  unfold put2 at b0 b1
  go_wp2_with fail
  clear b0 b1 a0 a1 af0 af1
  have hA4 := hA.put n3 a3 l3 c3
  have hB4 := hB.putOther (M := w.heap.size) (by omega) n3 (.slice a3 l3 c3)
  have hI4 := hI3.put hA n3 (.slice a3 l3 c3)
  have hY4 := hY.put hA n3 (.slice a3 l3 c3)
  have hB04 := below_put2 (N := w.heap.size) hB0 (Nat.le_refl _) n3 (.slice a3 l3 c3)
  clear hA hB hI3 hY hB0
  obtain ⟨w4, hw4⟩ : ∃ w4, (w3.setCell ⟨w.heap.size, 0, none⟩ (.bool n3)).setCell ⟨w.heap.size, 1, none⟩ (.slice a3 l3 c3) = w4 := ⟨_, rfl⟩
  have hw5 : put2 w3 w.heap.size n3 (.slice a3 l3 c3) = w4 := hw4
  rw [hw5] at hA4 hB4 hI4 hY4 hB04
  rw [hw4]
  clear hw4 hw5
  clear w3
  refine (rform_any nb ay ny cy ys w4 hY4 oy by_).mono ?_
  rintro e w5 ⟨n5, a5, l5, c5, rfl, hI5, hb5⟩
  replace hA4 := hA4.below hb5
  replace hB4 := hB4.below hb5
  replace hI4 := hI4.below hb5
  replace hI5 := hI5.mono hB04.size
  replace hB04 : Below w.heap.size w w5 := hB04.trans (hb5.mono hB04.size)
  clear hb5 hY4
  clear w4
  have b0 := hB4.c0
  have b1 := hB4.c1
  have bf0 := hB4.f0
  have bf1 := hB4.f1
  go_upto_region 3 with fail
  clear b0 b1 bf0 bf1
  have hA6 := hA4.putOther (M := w.heap.size + 1) (by omega) n5 (.slice a5 l5 c5)
  have hB6 := hB4.put n5 a5 l5 c5
  have hI6 := hI4.put hB4 n5 (.slice a5 l5 c5)
  have hJ6 := hI5.put hB4 n5 (.slice a5 l5 c5)
  have hB06 := below_put2 (N := w.heap.size + 1) hB04 (by omega) n5 (.slice a5 l5 c5)
  clear hA4 hB4 hI4 hI5 hB04
  obtain ⟨w6, hw4⟩ : ∃ w4, (w5.setCell ⟨w.heap.size + 1, 0, none⟩ (.bool n5)).setCell ⟨w.heap.size + 1, 1, none⟩ (.slice a5 l5 c5) = w4 := ⟨_, rfl⟩
  have hw5 : put2 w5 (w.heap.size + 1) n5 (.slice a5 l5 c5) = w6 := hw4
  rw [hw5] at hA6 hB6 hI6 hJ6 hB06
  rw [hw4]
  clear hw4 hw5
  clear w5
  obtain ⟨X, oX, kX, fX, eX⟩ := hI6.open
  obtain ⟨Y, oY, kY, fY, eY⟩ := hJ6.open
  have lX : X.length ≤ 1000000 := by
    have h1 := zv_abs n3 (val X)
    rw [eX, zv_abs] at h1
    have := Tr_len_le fX.tr xs.length (by rw [← h1]; exact val_lt ox)
    omega
  have a0 := hA6.c0
  have a1 := hA6.c1
  have b0 := hB6.c0
  have b1 := hB6.c1
  have HE : Hid (cmpI (zv n3 (val X)) (zv n5 (val Y)) = cmpI (zv na (val xs)) (zv nb (val ys))) := (by rw [eX, eY]; rfl)
  clear eX eY hI6 hJ6
  cases n3 with
  | true =>
    cases n5 with
    | true =>
      obtain ⟨cv, ecv⟩ : ∃ cv, cmpN (val X) (val Y) = cv := ⟨_, rfl⟩
      have HC : Hid (-cv = cmpI (zv na (val xs)) (zv nb (val ys))) := (by rw [← HE.out, cmp_neg, ecv]; rfl)
      have hbd := cmpN_bd (val X) (val Y)
      rw [ecv] at hbd
      obtain ⟨hb1, hb2⟩ := hbd
      go_wp2_with fail
      refine (rsize_any a3 a5 l3 c3 l5 c5 X Y w6 oX.sl oY.sl kX kY fX.tr fY.tr lX).mono ?_
      rw [ecv]
      rintro e w7 ⟨rfl, hb7⟩
      have a0' := cell_below a0 hb7
      clear ecv a0 a1 b0 b1
      go_wp2
      go_ret
      exact ⟨by rw [← HC.out]; rfl, hB06.trans (hb7.mono hB06.size)⟩
    | false =>
      have HC : Hid (-1 = cmpI (zv na (val xs)) (zv nb (val ys))) := (by
        rw [← HE.out]
        have := fX.pos
        show -1 = cmpI (zv true (val X)) (zv false (val Y))
        simp only [cmpI, zv]
        rw [if_pos (by first | omega | (simp; omega) | simp)])
      go_wp2
      go_ret
      exact ⟨by rw [← HC.out]; rfl, hB06⟩
  | false =>
    cases n5 with
    | true =>
      have HC : Hid (1 = cmpI (zv na (val xs)) (zv nb (val ys))) := (by
        rw [← HE.out]
        have := fY.pos
        show 1 = cmpI (zv false (val X)) (zv true (val Y))
        simp only [cmpI, zv]
        rw [if_neg (by first | omega | (simp; omega) | simp), if_pos (by first | omega | (simp; omega) | simp)])
      go_wp2
      go_ret
      exact ⟨by rw [← HC.out]; rfl, hB06⟩
    | false =>
      obtain ⟨cv, ecv⟩ : ∃ cv, cmpN (val X) (val Y) = cv := ⟨_, rfl⟩
      have HC : Hid (cv = cmpI (zv na (val xs)) (zv nb (val ys))) := (by rw [← HE.out, cmp_pos, ecv]; rfl)
      go_wp2_with fail
      refine (rsize_any a3 a5 l3 c3 l5 c5 X Y w6 oX.sl oY.sl kX kY fX.tr fY.tr lX).mono ?_
      rw [ecv]
      rintro e w7 ⟨rfl, hb7⟩
      have a0' := cell_below a0 hb7
      clear ecv a0 a1 b0 b1
      go_wp2
      go_ret
      exact ⟨by rw [← HC.out]; rfl, hB06.trans (hb7.mono hB06.size)⟩
end Go.Proofs.Yteplmnnpmekngaa
