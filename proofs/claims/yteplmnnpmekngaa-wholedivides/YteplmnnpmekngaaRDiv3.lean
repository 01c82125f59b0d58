/-
  The reference: Divide where it comes out plain.
-/
import Derived.Deep.CutBlock
import Derived.Test.YteplmnnpmekngaaMi
namespace Go.Proofs.Yteplmnnpmekngaa
open Go.RowKit

set_option maxRecDepth 100000 in
set_option maxHeartbeats 8000000 in
theorem rdiv_plain (na nb : Bool) (ax ay : Option Addr) (nx cx ny cy : Nat) (xs ys : List Nat) (w : World) (hx : Sl .u32 w (.slice ax nx cx) xs) (hy : Sl .u32 w (.slice ay ny cy) ys) (ox : okw xs) (oy : okw ys) (bx : xs.length ≤ 1000000) (by_ : ys.length ≤ 1000000) (hfx : ¬ pw 256 ≤ val xs) (hfy : ¬ pw 256 ≤ val ys) (h0 : val ys ≠ 0) (hp : val xs % val ys = 0 ∨ na = nb) :
    Calls Try.prog 26 #[.agg #[.bool na, .slice ax nx cx], .agg #[.bool nb, .slice ay ny cy]] w fun e w' => ∃ n1 a1 l1 c1 n2 a2 l2 c2 zq zr, e = .returned (.tuple #[.agg #[.bool n1, .slice a1 l1 c1], .agg #[.bool n2, .slice a2 l2 c2], .int .i64 0]) ∧ IsDiv (zv na (val xs)) (zv nb (val ys)) zq zr ∧ IntIs w.heap.size w' (.agg #[.bool n1, .slice a1 l1 c1]) zq ∧ IntIs w.heap.size w' (.agg #[.bool n2, .slice a2 l2 c2]) zr ∧ Below w.heap.size w w' := by
  have hbs := boxes4 w na nb ax ay nx cx ny cy 24
  go_enter Try.func26, Try.ntmps26
  go_wp2_with fail
  obtain ⟨W0, hW0⟩ : ∃ W0, (((w.alloc (.cells #[.bool na, .slice ax nx cx] 24)).alloc (.cells #[.bool nb, .slice ay ny cy] 24)).alloc (.cells #[.bool false, .slice none 0 0] 24)).alloc (.cells #[.bool false, .slice none 0 0] 24) = W0 := ⟨_, rfl⟩
  simp only [hW0] at hbs
  rw [hW0]
  clear hW0
  obtain ⟨hA, hB, hR, hS, hB0⟩ := hbs
  have hX := hx.below hB0
  have hY := hy.below hB0
  refine (rlong_any na ax nx cx xs W0 hX ox (by omega)).mono ?_
  rintro e w1 ⟨rfl, hb1⟩
  have hd : decide (pw 256 ≤ val xs) = false := by simpa using hfx
  rw [hd]
  replace hX := hX.below hb1
  replace hY := hY.below hb1
  replace hA := hA.below hb1
  replace hB := hB.below hb1
  replace hR := hR.below hb1
  replace hS := hS.below hb1
  replace hB0 : Below w.heap.size w w1 := hB0.trans (hb1.mono hB0.size)
  clear hb1
  clear hx hy hd
  clear W0
  have b0 := hB.c0
  have b1 := hB.c1
  go_wp2_with fail
  refine (rlong_any nb ay ny cy ys w1 hY oy (by omega)).mono ?_
  rintro e w2 ⟨rfl, hb1⟩
  have hd : decide (pw 256 ≤ val ys) = false := by simpa using hfy
  rw [hd]
  replace hX := hX.below hb1
  replace hY := hY.below hb1
  replace hA := hA.below hb1
  replace hB := hB.below hb1
  replace hR := hR.below hb1
  replace hS := hS.below hb1
  replace hB0 : Below w.heap.size w w2 := hB0.trans (hb1.mono hB0.size)
  clear hb1
  clear hd b0 b1
  clear w1
  have b0 := hA.c0
  have b1 := hA.c1
  go_wp2_with fail
  refine (rform_any na ax nx cx xs w2 hX ox (by omega)).mono ?_
  rintro e w3 ⟨n3, a3, l3, c3, rfl, hI3, hb1⟩
  replace hI3 := hI3.mono hB0.size
  replace hY := hY.below hb1
  replace hA := hA.below hb1
  replace hB := hB.below hb1
  replace hR := hR.below hb1
  replace hS := hS.below hb1
  replace hB0 : Below w.heap.size w w3 := hB0.trans (hb1.mono hB0.size)
  clear hb1
  clear b0 b1 hX
  clear w2
  have r0 := hA.c0
  have r1 := hA.c1
  have rf0 := hA.f0
  have rf1 := hA.f1
  have pB := hB.putOther (M := w.heap.size) (by omega) n3 (.slice a3 l3 c3)
  have b0 := pB.c0
  have b1 := pB.c1
  unfold put2 at b0 b1
  go_wp2_with fail
  clear r0 r1 rf0 rf1 b0 b1
  have hA4 := hA.put n3 a3 l3 c3
  have hR4 := hR.putOther (M := w.heap.size) (by omega) n3 (.slice a3 l3 c3)
  have hS4 := hS.putOther (M := w.heap.size) (by omega) n3 (.slice a3 l3 c3)
  have hY4 := hY.put hA n3 (.slice a3 l3 c3)
  have hI4 := hI3.put hA n3 (.slice a3 l3 c3)
  have hB4 := below_put2 (N := w.heap.size) hB0 (Nat.le_refl _) n3 (.slice a3 l3 c3)
  obtain ⟨w4, hw4⟩ : ∃ w4, (w3.setCell ⟨w.heap.size, 0, none⟩ (.bool n3)).setCell ⟨w.heap.size, 1, none⟩ (.slice a3 l3 c3) = w4 := ⟨_, rfl⟩
  have hw5 : put2 w3 w.heap.size n3 (.slice a3 l3 c3) = w4 := hw4
  rw [hw5] at hA4 hR4 hS4 hY4 hI4 hB4 pB
  rw [hw4]
  clear hw4 hw5 hI3 hA hB hR hS hY hB0
  clear w3
  refine (rform_any nb ay ny cy ys w4 hY4 oy (by omega)).mono ?_
  rintro e w5 ⟨n6, a6, l6, c6, rfl, hI6, hb1⟩
  replace hI6 := hI6.mono hB4.size
  replace hA4 := hA4.below hb1
  replace hR4 := hR4.below hb1
  replace hS4 := hS4.below hb1
  replace hI4 := hI4.below hb1
  replace pB := pB.below hb1
  replace hB4 : Below w.heap.size w w5 := hB4.trans (hb1.mono hB4.size)
  clear hb1 hY4
  clear w4
  have r0 := pB.c0
  have r1 := pB.c1
  have rf0 := pB.f0
  have rf1 := pB.f1
  have hA := hA4.putOther (M := w.heap.size + 1) (by omega) n6 (.slice a6 l6 c6)
  have hB := pB.put n6 a6 l6 c6
  have hR := hR4.putOther (M := w.heap.size + 1) (by omega) n6 (.slice a6 l6 c6)
  have hS := hS4.putOther (M := w.heap.size + 1) (by omega) n6 (.slice a6 l6 c6)
  have hI := hI4.put pB n6 (.slice a6 l6 c6)
  have hJ := hI6.put pB n6 (.slice a6 l6 c6)
  have hB0 := below_put2 (N := w.heap.size + 1) hB4 (by omega) n6 (.slice a6 l6 c6)
  go_upto_region 5 with fail
  clear r0 r1 rf0 rf1
  obtain ⟨w6, hw4⟩ : ∃ w4, (w5.setCell ⟨w.heap.size + 1, 0, none⟩ (.bool n6)).setCell ⟨w.heap.size + 1, 1, none⟩ (.slice a6 l6 c6) = w4 := ⟨_, rfl⟩
  have hw5 : put2 w5 (w.heap.size + 1) n6 (.slice a6 l6 c6) = w6 := hw4
  rw [hw5] at hA hB hR hS hI hJ hB0
  rw [hw4]
  clear hw4 hw5 hA4 hR4 hS4 hI4 hI6 hB4 pB
  clear w5
  obtain ⟨X, oX, kX, fX, eX⟩ := hI.open
  obtain ⟨Y, oY, kY, fY, eY⟩ := hJ.open
  obtain ⟨vX, sX⟩ := zv_eq eX
  obtain ⟨vY, sY⟩ := zv_eq eY
  obtain rfl := oX.len
  obtain rfl := oY.len
  have lX : X.length ≤ 256 := len_small fX.tr (by omega)
  have lY : Y.length ≤ 256 := len_small fY.tr (by omega)
  have hYp : 0 < val Y := by omega
  have hYl : Y.length ≠ 0 := fun e => by have := (Tr_zero fY.tr).2 e; omega
  obtain rfl : n6 = nb := sY (by omega)
  have t0 : ((Y.length : Int) == 0) = false := by rw [beq_eq_false_iff_ne]; omega
  have HP : Hid ((val xs % val ys = 0 ∨ na = n6) ∧ val X = val xs ∧ val Y = val ys ∧ (val X ≠ 0 → n3 = na) ∧ zv n3 (val X) = zv na (val xs)) := ⟨hp, vX, vY, sX, eX⟩
  clear hp vX vY sX eX eY hI hJ sY
  have k0 := hA.c0
  have k1 := hA.c1
  have k2 := hB.c0
  have k3 := hB.c1
  go_wp2_with fail
  clear k0 k1 k2 k3
  refine (rby_any a3 a6 X.length c3 Y.length c6 X Y w6 oX.sl oY.sl kX kY fY.tr hYp (by omega) (by omega)).mono ?_
  rintro e w7 ⟨v7, Q, rs, rfl, hQl, oQ, hQv, hrow, hw7, ors, trs, hrv, hb1⟩
  obtain ⟨ra, rc, rfl⟩ := hw7.ow.form
  have hO : Ow .u32 w6.heap.size w7 (.slice (some ⟨w6.heap.size, 0, none⟩) X.length X.length) Q := ⟨_, _, by rw [hQl], by rw [hQl]; exact Nat.le_refl _, fun _ => ⟨_, 0, rfl, Nat.le_refl _, hrow.seg, hrow.free _ _⟩⟩
  have HQ : Hid (val Q = val X / val Y ∧ Q.length = X.length) := ⟨hQv, hQl⟩
  have HR : Hid (val rs = val X % val Y) := hrv
  have lrs : rs.length ≤ 256 := Nat.le_trans (Tr_len_le trs Y.length (by rw [hrv]; exact Nat.lt_trans (Nat.mod_lt _ hYp) (val_lt kY))) lY
  have hSr := hw7.ow.sl
  have lQ : Q.length ≤ 256 := by omega
  replace hA := hA.below hb1
  replace hB := hB.below hb1
  replace hR := hR.below hb1
  replace hS := hS.below hb1
  replace hB0 : Below w.heap.size w w7 := hB0.trans (hb1.mono hB0.size)
  clear hb1
  clear hQv hQl hrv hrow hw7 oX oY t0
  have k0 := hA.c0
  have k2 := hB.c0
  go_wp2_with fail
  clear k0 k2
  refine (rmade_any (n3 != n6) (some ⟨w6.heap.size, 0, none⟩) X.length X.length Q w7 hO.sl oQ (by omega)).mono ?_
  rintro e w8 ⟨n8, a8, l8, c8, rfl, hI8, hb1⟩
  replace hI8 := hI8.mono hB0.size
  replace hSr := hSr.below hb1
  replace hA := hA.below hb1
  replace hB := hB.below hb1
  replace hR := hR.below hb1
  replace hS := hS.below hb1
  replace hB0 : Below w.heap.size w w8 := hB0.trans (hb1.mono hB0.size)
  clear hb1
  clear hO
  have hPQ : w.heap.size + 1 + 1 + 1 < w8.heap.size := hS.lt
  have hb1 := below_alloc w8 (.cells #[.bool n8, .slice a8 l8 c8] 24)
  have bQ := Box2.new w8 n8 a8 l8 c8 24
  replace hI8 := hI8.below hb1
  replace hSr := hSr.below hb1
  replace hA := hA.below hb1
  replace hB := hB.below hb1
  replace hR := hR.below hb1
  replace hS := hS.below hb1
  replace hB0 := hB0.trans (hb1.mono hB0.size)
  clear hb1
  have k0 := hA.c0
  go_wp2_with fail
  clear k0
  obtain ⟨w9, hW⟩ : ∃ w9, w8.alloc (.cells #[.bool n8, .slice a8 l8 c8] 24) = w9 := ⟨_, rfl⟩
  rw [hW] at hI8 hSr hA hB hR hS hB0 bQ ⊢
  clear hW
  obtain ⟨PQ, hW⟩ : ∃ P, w8.heap.size = P := ⟨_, rfl⟩
  rw [hW] at bQ hPQ ⊢
  clear hW
  refine (rmade_any n3 ra rs.length rc rs w9 hSr ors (by omega)).mono ?_
  rintro e w10 ⟨n9, a9, l9, c9, rfl, hI9, hb1⟩
  replace hI9 := hI9.mono hB0.size
  replace hA := hA.below hb1
  replace hB := hB.below hb1
  replace hR := hR.below hb1
  replace hS := hS.below hb1
  replace bQ := bQ.below hb1
  replace hI8 := hI8.below hb1
  replace hB0 : Below w.heap.size w w10 := hB0.trans (hb1.mono hB0.size)
  clear hb1
  have hPR : PQ < w10.heap.size := bQ.lt
  have bR := Box2.new w10 n9 a9 l9 c9 24
  have hb1 := below_alloc w10 (.cells #[.bool n9, .slice a9 l9 c9] 24)
  replace hI9 := hI9.below hb1
  replace hI8 := hI8.below hb1
  replace bQ := bQ.below hb1
  replace hA := hA.below hb1
  replace hB := hB.below hb1
  replace hR := hR.below hb1
  replace hS := hS.below hb1
  replace hB0 := hB0.trans (hb1.mono hB0.size)
  clear hb1 hSr
  obtain ⟨R', oR, kR, fR, eR⟩ := hI9.open
  obtain ⟨vR, sR⟩ := zv_eq eR
  obtain ⟨Q', oQ', kQ, fQ, eQ⟩ := hI8.open
  obtain ⟨vQ, _⟩ := zv_eq eQ
  have hqx : val Q' ≤ val X := by rw [vQ, HQ.out.1]; exact Nat.div_le_self _ _
  have hqf : ¬ pw 256 ≤ val Q' := by have := HP.out.2.1; omega
  have lQ' : Q'.length ≤ 256 := len_small fQ.tr (by omega)
  have HD : Hid (IsDiv (zv na (val xs)) (zv n6 (val ys)) (zv (n3 != n6) (val Q)) (zv n3 (val rs))) := (by
    obtain ⟨h1, h2, h3, h4, h5⟩ := HP.out
    rw [← h5, ← h3]
    refine isDiv_plain HQ.out.1 HR.out hYp ?_
    rw [HR.out]
    rcases h1 with h1 | h1
    · left; rw [h2, h3]; exact h1
    · by_cases hX0 : val X = 0
      · left; rw [hX0, Nat.zero_mod]
      · right; rw [h4 hX0]; exact h1)
  have HN : Hid (val R' = 0 ∨ (n9 = n6 ∧ 0 < l9)) := (by
    by_cases hr : val R' = 0
    · exact Or.inl hr
    · right
      obtain ⟨h1, h2, h3, h4, _⟩ := HP.out
      have hX0 : val X ≠ 0 := fun e => hr (by rw [vR, HR.out, e, Nat.zero_mod])
      have hlen := oR.len
      have hl : R'.length ≠ 0 := fun e => hr ((Tr_zero fR.tr).2 e)
      refine ⟨?_, by omega⟩
      rw [sR hr, h4 hX0]
      rcases h1 with h1 | h1
      · exact absurd (by rw [vR, HR.out, h2, h3]; exact h1) hr
      · exact h1)
  have HL : Hid (val R' = 0 → l9 = 0) := (by
    intro hr
    have := (Tr_zero fR.tr).1 hr
    have := oR.len
    omega)
  obtain rfl := oQ'.len
  have sQ' := oQ'.sl
  clear eR vR sR eQ vQ hqx oR kR fR fQ HP HQ HR
  have q0 := hB.c0
  have q1 := bR.c0
  have q2 := bR.c1
  have q3 := bQ.c0
  have q4 := bQ.c1
  rcases HN.out with hr | ⟨hn, hl⟩
  · obtain rfl : l9 = 0 := HL.out hr
    clear hr
    go_wp2_with fail
    obtain ⟨w11, hW⟩ : ∃ w9, w10.alloc (.cells #[.bool n9, .slice a9 0 c9] 24) = w9 := ⟨_, rfl⟩
    rw [hW] at hI9 hI8 bQ hA hB hR hS hB0 bR sQ' ⊢
    clear q0 q1 q2 q3 q4 hW
    refine (rlong_any n8 a8 Q'.length c8 Q' w11 sQ' kQ (by omega)).mono ?_
    rintro e w12 ⟨rfl, hb1⟩
    have hd : decide (pw 256 ≤ val Q') = false := by simpa using hqf
    rw [hd]
    replace hI9 := hI9.below hb1
    replace hI8 := hI8.below hb1
    replace bQ := bQ.below hb1
    replace bR := bR.below hb1
    replace hR := hR.below hb1
    replace hS := hS.below hb1
    replace hB0 : Below w.heap.size w w12 := hB0.trans (hb1.mono hB0.size)
    clear hb1 hd hA hB sQ'
    go_wp2_with fail
    have q0 := bQ.c0
    have q1 := bQ.c1
    have q2 := bR.c0
    have q3 := bR.c1
    have r0 := hR.c0
    have r1 := hR.c1
    have rf0 := hR.f0
    have rf1 := hR.f1
    have pR := bR.putOther (M := w.heap.size + 1 + 1) (by omega) n8 (.slice a8 Q'.length c8)
    have p0 := hS.putOther (M := w.heap.size + 1 + 1) (by omega) n8 (.slice a8 Q'.length c8)
    have u0 := pR.c0
    have u1 := pR.c1
    have s0 := p0.c0
    have s1 := p0.c1
    have sf0 := p0.f0
    have sf1 := p0.f1
    have f1 := (hR.put n8 a8 Q'.length c8).putOther (M := w.heap.size + 1 + 1 + 1) (by omega) n9 (.slice a9 0 c9)
    have f2 := p0.put n9 a9 0 c9
    unfold put2 at u0 u1 s0 s1 sf0 sf1
    clear hqf pR bQ bR hS
    go_region
    clear q0 q1 q2 q3 r0 r1 rf0 rf1 u0 u1 s0 s1 sf0 sf1
    go_wp2
    have g0 := f1.c0
    have g1 := f1.c1
    have g2 := f2.c0
    have g3 := f2.c1
    have HB := below_put2 (N := w.heap.size + 1 + 1 + 1) (below_put2 (N := w.heap.size + 1 + 1) hB0 (by omega) n8 (.slice a8 Q'.length c8)) (by omega) n9 (.slice a9 0 c9)
    have HI8 := (hI8.put hR n8 (.slice a8 Q'.length c8)).put p0 n9 (.slice a9 0 c9)
    have HI9 := (hI9.put hR n8 (.slice a8 Q'.length c8)).put p0 n9 (.slice a9 0 c9)
    unfold put2 at g0 g1 g2 g3
    refine bodyPost_ret (v := .tuple #[.agg #[.bool n8, .slice a8 Q'.length c8], .agg #[.bool n9, .slice a9 0 c9], .int .i64 0]) ?_ rfl ⟨_, _, _, _, _, _, _, _, _, _, rfl, HD.out, HI8.below below_drew, HI9.below below_drew, HB.drew⟩
    simp [results, Try.f26, go_sem, g0, g1, g2, g3]
  · subst hn
    have t1 : (0 : Int) < (l9 : Int) := by omega
    have t2 : (n9 != n9) = false := by simp
    clear hl
    go_wp2_with fail
    obtain ⟨w11, hW⟩ : ∃ w9, w10.alloc (.cells #[.bool n9, .slice a9 l9 c9] 24) = w9 := ⟨_, rfl⟩
    rw [hW] at hI9 hI8 bQ hA hB hR hS hB0 bR sQ' ⊢
    clear q0 q1 q2 q3 q4 hW
    refine (rlong_any n8 a8 Q'.length c8 Q' w11 sQ' kQ (by omega)).mono ?_
    rintro e w12 ⟨rfl, hb1⟩
    have hd : decide (pw 256 ≤ val Q') = false := by simpa using hqf
    rw [hd]
    replace hI9 := hI9.below hb1
    replace hI8 := hI8.below hb1
    replace bQ := bQ.below hb1
    replace bR := bR.below hb1
    replace hR := hR.below hb1
    replace hS := hS.below hb1
    replace hB0 : Below w.heap.size w w12 := hB0.trans (hb1.mono hB0.size)
    clear hb1 hd hA hB sQ'
    go_wp2_with fail
    have q0 := bQ.c0
    have q1 := bQ.c1
    have q2 := bR.c0
    have q3 := bR.c1
    have r0 := hR.c0
    have r1 := hR.c1
    have rf0 := hR.f0
    have rf1 := hR.f1
    have pR := bR.putOther (M := w.heap.size + 1 + 1) (by omega) n8 (.slice a8 Q'.length c8)
    have p0 := hS.putOther (M := w.heap.size + 1 + 1) (by omega) n8 (.slice a8 Q'.length c8)
    have u0 := pR.c0
    have u1 := pR.c1
    have s0 := p0.c0
    have s1 := p0.c1
    have sf0 := p0.f0
    have sf1 := p0.f1
    have f1 := (hR.put n8 a8 Q'.length c8).putOther (M := w.heap.size + 1 + 1 + 1) (by omega) n9 (.slice a9 l9 c9)
    have f2 := p0.put n9 a9 l9 c9
    unfold put2 at u0 u1 s0 s1 sf0 sf1
    clear hqf pR bQ bR hS
    go_region
    clear q0 q1 q2 q3 r0 r1 rf0 rf1 u0 u1 s0 s1 sf0 sf1
    go_wp2
    have g0 := f1.c0
    have g1 := f1.c1
    have g2 := f2.c0
    have g3 := f2.c1
    have HB := below_put2 (N := w.heap.size + 1 + 1 + 1) (below_put2 (N := w.heap.size + 1 + 1) hB0 (by omega) n8 (.slice a8 Q'.length c8)) (by omega) n9 (.slice a9 l9 c9)
    have HI8 := (hI8.put hR n8 (.slice a8 Q'.length c8)).put p0 n9 (.slice a9 l9 c9)
    have HI9 := (hI9.put hR n8 (.slice a8 Q'.length c8)).put p0 n9 (.slice a9 l9 c9)
    unfold put2 at g0 g1 g2 g3
    refine bodyPost_ret (v := .tuple #[.agg #[.bool n8, .slice a8 Q'.length c8], .agg #[.bool n9, .slice a9 l9 c9], .int .i64 0]) ?_ rfl ⟨_, _, _, _, _, _, _, _, _, _, rfl, HD.out, HI8.below below_drew, HI9.below below_drew, HB.drew⟩
    simp [results, Try.f26, go_sem, g0, g1, g2, g3]

end Go.Proofs.Yteplmnnpmekngaa
