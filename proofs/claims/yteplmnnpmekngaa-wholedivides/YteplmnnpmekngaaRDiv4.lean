/-
  The reference: Divide where it rounds down.
-/
import Derived.Deep.CutBlock
import Derived.Test.YteplmnnpmekngaaRDiv3
import Derived.Test.YteplmnnpmekngaaSmall
namespace Go.Proofs.Yteplmnnpmekngaa
open Go.RowKit

set_option maxRecDepth 100000 in
set_option maxHeartbeats 8000000 in
theorem rdiv_down (na nb : Bool) (ax ay : Option Addr) (nx cx ny cy : Nat) (xs ys : List Nat) (w : World) (hx : Sl .u32 w (.slice ax nx cx) xs) (hy : Sl .u32 w (.slice ay ny cy) ys) (ox : okw xs) (oy : okw ys) (bx : xs.length ≤ 1000000) (by_ : ys.length ≤ 1000000) (hfx : ¬ pw 256 ≤ val xs) (hfy : ¬ pw 256 ≤ val ys) (h0 : val ys ≠ 0) (hp : val xs % val ys ≠ 0 ∧ na ≠ nb) :
    Calls Try.prog 26 #[.agg #[.bool na, .slice ax nx cx], .agg #[.bool nb, .slice ay ny cy]] w fun e w' => ∃ n1 a1 l1 c1 n2 a2 l2 c2 zq zr, e = .returned (.tuple #[.agg #[.bool n1, .slice a1 l1 c1], .agg #[.bool n2, .slice a2 l2 c2], .int .i64 0]) ∧ IsDiv (zv na (val xs)) (zv nb (val ys)) zq zr ∧ IntIs w.heap.size w' (.agg #[.bool n1, .slice a1 l1 c1]) zq ∧ IntIs w.heap.size w' (.agg #[.bool n2, .slice a2 l2 c2]) zr ∧ Below w.heap.size w w' := by
  have hbs := boxes4 w na nb ax ay nx cx ny cy 24
  go_enter Try.func26, Try.ntmps26
  go_wp2_with fail
  obtain ⟨W0, hW0⟩ : ∃ W0, (((w.alloc (.cells #[.bool na, .slice ax nx cx] 24)).alloc (.cells #[.bool nb, .slice ay ny cy] 24)).alloc (.cells #[.bool false, .slice none 0 0] 24)).alloc (.cells #[.bool false, .slice none 0 0] 24) = W0 := ⟨_, rfl⟩
  simp only [hW0] at hbs
  rw [hW0]
  clear hW0
  obtain ⟨hA, hB, hR, hS, hB0⟩ := hbs
  have hX := hx.below hB0
  have hY := hy.below hB0
  refine (rlong_any na ax nx cx xs W0 hX ox (by omega)).mono ?_
  rintro e w1 ⟨rfl, hb1⟩
  have hd : decide (pw 256 ≤ val xs) = false := by simpa using hfx
  rw [hd]
  replace hX := hX.below hb1
  replace hY := hY.below hb1
  replace hA := hA.below hb1
  replace hB := hB.below hb1
  replace hR := hR.below hb1
  replace hS := hS.below hb1
  replace hB0 : Below w.heap.size w w1 := hB0.trans (hb1.mono hB0.size)
  clear hb1
  clear hx hy hd
  clear W0
  have b0 := hB.c0
  have b1 := hB.c1
  go_wp2_with fail
  refine (rlong_any nb ay ny cy ys w1 hY oy (by omega)).mono ?_
  rintro e w2 ⟨rfl, hb1⟩
  have hd : decide (pw 256 ≤ val ys) = false := by simpa using hfy
  rw [hd]
  replace hX := hX.below hb1
  replace hY := hY.below hb1
  replace hA := hA.below hb1
  replace hB := hB.below hb1
  replace hR := hR.below hb1
  replace hS := hS.below hb1
  replace hB0 : Below w.heap.size w w2 := hB0.trans (hb1.mono hB0.size)
  clear hb1
  clear hd b0 b1
  clear w1
  have b0 := hA.c0
  have b1 := hA.c1
  go_wp2_with fail
  refine (rform_any na ax nx cx xs w2 hX ox (by omega)).mono ?_
  rintro e w3 ⟨n3, a3, l3, c3, rfl, hI3, hb1⟩
  replace hI3 := hI3.mono hB0.size
  replace hY := hY.below hb1
  replace hA := hA.below hb1
  replace hB := hB.below hb1
  replace hR := hR.below hb1
  replace hS := hS.below hb1
  replace hB0 : Below w.heap.size w w3 := hB0.trans (hb1.mono hB0.size)
  clear hb1
  clear b0 b1 hX
  clear w2
  have r0 := hA.c0
  have r1 := hA.c1
  have rf0 := hA.f0
  have rf1 := hA.f1
  have pB := hB.putOther (M := w.heap.size) (by omega) n3 (.slice a3 l3 c3)
  have b0 := pB.c0
  have b1 := pB.c1
  unfold put2 at b0 b1
  go_wp2_with fail
  clear r0 r1 rf0 rf1 b0 b1
  have hA4 := hA.put n3 a3 l3 c3
  have hR4 := hR.putOther (M := w.heap.size) (by omega) n3 (.slice a3 l3 c3)
  have hS4 := hS.putOther (M := w.heap.size) (by omega) n3 (.slice a3 l3 c3)
  have hY4 := hY.put hA n3 (.slice a3 l3 c3)
  have hI4 := hI3.put hA n3 (.slice a3 l3 c3)
  have hB4 := below_put2 (N := w.heap.size) hB0 (Nat.le_refl _) n3 (.slice a3 l3 c3)
  obtain ⟨w4, hw4⟩ : ∃ w4, (w3.setCell ⟨w.heap.size, 0, none⟩ (.bool n3)).setCell ⟨w.heap.size, 1, none⟩ (.slice a3 l3 c3) = w4 := ⟨_, rfl⟩
  have hw5 : put2 w3 w.heap.size n3 (.slice a3 l3 c3) = w4 := hw4
  rw [hw5] at hA4 hR4 hS4 hY4 hI4 hB4 pB
  rw [hw4]
  clear hw4 hw5 hI3 hA hB hR hS hY hB0
  clear w3
  refine (rform_any nb ay ny cy ys w4 hY4 oy (by omega)).mono ?_
  rintro e w5 ⟨n6, a6, l6, c6, rfl, hI6, hb1⟩
  replace hI6 := hI6.mono hB4.size
  replace hA4 := hA4.below hb1
  replace hR4 := hR4.below hb1
  replace hS4 := hS4.below hb1
  replace hI4 := hI4.below hb1
  replace pB := pB.below hb1
  replace hB4 : Below w.heap.size w w5 := hB4.trans (hb1.mono hB4.size)
  clear hb1 hY4
  clear w4
  have r0 := pB.c0
  have r1 := pB.c1
  have rf0 := pB.f0
  have rf1 := pB.f1
  have hA := hA4.putOther (M := w.heap.size + 1) (by omega) n6 (.slice a6 l6 c6)
  have hB := pB.put n6 a6 l6 c6
  have hR := hR4.putOther (M := w.heap.size + 1) (by omega) n6 (.slice a6 l6 c6)
  have hS := hS4.putOther (M := w.heap.size + 1) (by omega) n6 (.slice a6 l6 c6)
  have hI := hI4.put pB n6 (.slice a6 l6 c6)
  have hJ := hI6.put pB n6 (.slice a6 l6 c6)
  have hB0 := below_put2 (N := w.heap.size + 1) hB4 (by omega) n6 (.slice a6 l6 c6)
  go_upto_region 5 with fail
  clear r0 r1 rf0 rf1
  obtain ⟨w6, hw4⟩ : ∃ w4, (w5.setCell ⟨w.heap.size + 1, 0, none⟩ (.bool n6)).setCell ⟨w.heap.size + 1, 1, none⟩ (.slice a6 l6 c6) = w4 := ⟨_, rfl⟩
  have hw5 : put2 w5 (w.heap.size + 1) n6 (.slice a6 l6 c6) = w6 := hw4
  rw [hw5] at hA hB hR hS hI hJ hB0
  rw [hw4]
  clear hw4 hw5 hA4 hR4 hS4 hI4 hI6 hB4 pB
  clear w5
  obtain ⟨X, oX, kX, fX, eX⟩ := hI.open
  obtain ⟨Y, oY, kY, fY, eY⟩ := hJ.open
  obtain ⟨vX, sX⟩ := zv_eq eX
  obtain ⟨vY, sY⟩ := zv_eq eY
  obtain rfl := oX.len
  obtain rfl := oY.len
  have lX : X.length ≤ 256 := len_small fX.tr (by omega)
  have lY : Y.length ≤ 256 := len_small fY.tr (by omega)
  have hYp : 0 < val Y := by omega
  have hYl : Y.length ≠ 0 := fun e => by have := (Tr_zero fY.tr).2 e; omega
  obtain rfl : n6 = nb := sY (by omega)
  have t0 : ((Y.length : Int) == 0) = false := by rw [beq_eq_false_iff_ne]; omega
  have HP : Hid ((val xs % val ys ≠ 0 ∧ na ≠ n6) ∧ val X = val xs ∧ val Y = val ys ∧ (val X ≠ 0 → n3 = na) ∧ zv n3 (val X) = zv na (val xs)) := ⟨hp, vX, vY, sX, eX⟩
  clear hp vX vY sX eX eY hI hJ sY
  have k0 := hA.c0
  have k1 := hA.c1
  have k2 := hB.c0
  have k3 := hB.c1
  go_wp2_with fail
  clear k0 k1 k2 k3
  refine (rby_any a3 a6 X.length c3 Y.length c6 X Y w6 oX.sl oY.sl kX kY fY.tr hYp (by omega) (by omega)).mono ?_
  rintro e w7 ⟨v7, Q, rs, rfl, hQl, oQ, hQv, hrow, hw7, ors, trs, hrv, hb1⟩
  obtain ⟨ra, rc, rfl⟩ := hw7.ow.form
  have hO : Ow .u32 w6.heap.size w7 (.slice (some ⟨w6.heap.size, 0, none⟩) X.length X.length) Q := ⟨_, _, by rw [hQl], by rw [hQl]; exact Nat.le_refl _, fun _ => ⟨_, 0, rfl, Nat.le_refl _, hrow.seg, hrow.free _ _⟩⟩
  have HQ : Hid (val Q = val X / val Y ∧ Q.length = X.length) := ⟨hQv, hQl⟩
  have HR : Hid (val rs = val X % val Y) := hrv
  have hSY := oY.sl.below hb1
  have lrs : rs.length ≤ 256 := Nat.le_trans (Tr_len_le trs Y.length (by rw [hrv]; exact Nat.lt_trans (Nat.mod_lt _ hYp) (val_lt kY))) lY
  have hSr := hw7.ow.sl
  have lQ : Q.length ≤ 256 := by omega
  replace hA := hA.below hb1
  replace hB := hB.below hb1
  replace hR := hR.below hb1
  replace hS := hS.below hb1
  replace hB0 : Below w.heap.size w w7 := hB0.trans (hb1.mono hB0.size)
  clear hb1
  clear hQv hQl hrv hrow hw7 oX oY t0
  have k0 := hA.c0
  have k2 := hB.c0
  go_wp2_with fail
  clear k0 k2
  refine (rmade_any (n3 != n6) (some ⟨w6.heap.size, 0, none⟩) X.length X.length Q w7 hO.sl oQ (by omega)).mono ?_
  rintro e w8 ⟨n8, a8, l8, c8, rfl, hI8, hb1⟩
  replace hI8 := hI8.mono hB0.size
  replace hSr := hSr.below hb1
  replace hA := hA.below hb1
  replace hB := hB.below hb1
  replace hR := hR.below hb1
  replace hS := hS.below hb1
  replace hSY := hSY.below hb1
  replace hB0 : Below w.heap.size w w8 := hB0.trans (hb1.mono hB0.size)
  clear hb1
  clear hO
  have hPQ : w.heap.size + 1 + 1 + 1 < w8.heap.size := hS.lt
  have hb1 := below_alloc w8 (.cells #[.bool n8, .slice a8 l8 c8] 24)
  have bQ := Box2.new w8 n8 a8 l8 c8 24
  replace hI8 := hI8.below hb1
  replace hSr := hSr.below hb1
  replace hSY := hSY.below hb1
  replace hA := hA.below hb1
  replace hB := hB.below hb1
  replace hR := hR.below hb1
  replace hS := hS.below hb1
  replace hB0 := hB0.trans (hb1.mono hB0.size)
  clear hb1
  have k0 := hA.c0
  go_wp2_with fail
  clear k0
  obtain ⟨w9, hW⟩ : ∃ w9, w8.alloc (.cells #[.bool n8, .slice a8 l8 c8] 24) = w9 := ⟨_, rfl⟩
  rw [hW] at hI8 hSr hSY hA hB hR hS hB0 bQ ⊢
  clear hW
  obtain ⟨PQ, hW⟩ : ∃ P, w8.heap.size = P := ⟨_, rfl⟩
  rw [hW] at bQ hPQ ⊢
  clear hW
  refine (rmade_any n3 ra rs.length rc rs w9 hSr ors (by omega)).mono ?_
  rintro e w10 ⟨n9, a9, l9, c9, rfl, hI9, hb1⟩
  replace hI9 := hI9.mono hB0.size
  replace hA := hA.below hb1
  replace hB := hB.below hb1
  replace hR := hR.below hb1
  replace hS := hS.below hb1
  replace bQ := bQ.below hb1
  replace hI8 := hI8.below hb1
  replace hSY := hSY.below hb1
  replace hB0 : Below w.heap.size w w10 := hB0.trans (hb1.mono hB0.size)
  clear hb1
  have hPR : PQ < w10.heap.size := bQ.lt
  have bR := Box2.new w10 n9 a9 l9 c9 24
  have hb1 := below_alloc w10 (.cells #[.bool n9, .slice a9 l9 c9] 24)
  replace hI9 := hI9.below hb1
  replace hI8 := hI8.below hb1
  replace hSY := hSY.below hb1
  replace bQ := bQ.below hb1
  replace hA := hA.below hb1
  replace hB := hB.below hb1
  replace hR := hR.below hb1
  replace hS := hS.below hb1
  replace hB0 := hB0.trans (hb1.mono hB0.size)
  clear hb1 hSr
  obtain ⟨R', oR, kR, fR, eR⟩ := hI9.open
  obtain ⟨vR, sR⟩ := zv_eq eR
  obtain ⟨Q', oQ', kQ, fQ, eQ⟩ := hI8.open
  obtain ⟨vQ, _⟩ := zv_eq eQ
  have hqx : val Q' ≤ val X := by rw [vQ, HQ.out.1]; exact Nat.div_le_self _ _
  have hqf : ¬ pw 256 ≤ val Q' := by have := HP.out.2.1; omega
  have lQ' : Q'.length ≤ 256 := len_small fQ.tr (by omega)
  obtain ⟨h1, h2, h3, h4, h5⟩ := HP.out
  have hR0 : val rs ≠ 0 := by rw [HR.out, h2, h3]; exact h1.1
  have hX0 : val X ≠ 0 := fun e => hR0 (by rw [HR.out, e, Nat.zero_mod])
  obtain rfl : n3 = na := h4 hX0
  obtain rfl : n9 = n3 := sR (by omega)
  have HD : Hid (IsDiv (zv n9 (val xs)) (zv n6 (val ys)) (zv (n9 != n6) (val Q) + -1) (zv n9 (val rs) + zv n6 (val ys))) := (by
    rw [← h2, ← h3]
    exact isDiv_down HQ.out.1 HR.out hYp hR0 h1.2)
  obtain rfl := oR.len
  have hlR : R'.length ≠ 0 := fun e => by have := (Tr_zero fR.tr).2 e; omega
  have t1 : (0 : Int) < (R'.length : Int) := by omega
  have t2 : (n9 == n6) = false := by rw [beq_eq_false_iff_ne]; exact h1.2
  have hq1 : val Q + 1 ≤ val X := by rw [HQ.out.1]; exact quot_le (by rw [h2, h3]; exact h1.1)
  obtain rfl := oQ'.len
  have sQ' := oQ'.sl
  have HVR : Hid (val R' = val rs ∧ val Y = val ys) := ⟨vR, h3⟩
  have lR' : R'.length ≤ 256 := len_small fR.tr (by rw [vR, HR.out]; have := Nat.mod_lt (val X) hYp; omega)
  clear eR vR sR hqx
  have q0 := hB.c0
  have q1 := bR.c0
  have q2 := bR.c1
  have q3 := bQ.c0
  have q4 := bQ.c1
  have hsQ : PQ < w10.heap.size + 1 := by omega
  go_wp2_with fail
  obtain ⟨w11, hW⟩ : ∃ w9, w10.alloc (.cells #[.bool n9, .slice a9 R'.length c9] 24) = w9 := ⟨_, rfl⟩
  rw [hW] at hI9 hI8 bQ hA hB hR hS hB0 bR sQ' oQ' oR hSY q0 q1 q2 q3 q4 ⊢
  clear hW
  obtain ⟨PR, hPRe⟩ : ∃ P, w10.heap.size = P := ⟨_, rfl⟩
  rw [hPRe] at bR hPR hsQ q1 q2 ⊢
  clear hPRe
  have hheld : w11.drew.cell? ⟨PQ, 0, none⟩ = some (.bool n8) ∧ w11.drew.cell? ⟨PQ, 1, none⟩ = some (.slice a8 Q'.length c8) := ⟨q3, q4⟩
  go_region_with
    (first | (go_at_call 37; refine (rof_any (-1) _ (by omega) (by omega)).mono ?_; rintro e w20 ⟨n20, a20, l20, c20, rfl, hI20, hb20⟩; have bQ0 := (bQ.below below_drew).below hb20; have z0 := bQ0.c0; have z1 := bQ0.c1)
           | (go_at_call 44; obtain ⟨M1, oM, kM, fM, eM⟩ := hI20.open; have lM := hI20.len_le 1 (by decide); refine (rsum_any n8 n20 a8 a20 Q'.length c8 l20 c20 Q' M1 _ ((oQ'.sl.below below_drew).below hb20) oM.sl kQ kM fQ.tr fM.tr (by omega) (by rw [← oM.len]; omega)).mono ?_; rw [eM, eQ]; rintro e w21 ⟨n21, a21, l21, c21, rfl, hI21, hb21⟩; have bQ1 := ((bQ.below below_drew).below hb20).below hb21; have s0 := bQ1.c0; have s1 := bQ1.c1; have sf0 := bQ1.f0; have sf1 := bQ1.f1)
           | fail)
  all_goals (
    have hBd : Below w.heap.size w w11.drew := hB0.drew
    have hB20 := hBd.trans (hb20.mono hBd.size)
    have hB21 := hB20.trans (hb21.mono hB20.size)
    have bB1 := ((hB.below below_drew).below hb20).below hb21
    have bR1 := ((bR.below below_drew).below hb20).below hb21
    have hR1 := ((hR.below below_drew).below hb20).below hb21
    have hS1 := ((hS.below below_drew).below hb20).below hb21
    have sR1 := ((oR.sl.below below_drew).below hb20).below hb21
    have sY1 := ((hSY.below below_drew).below hb20).below hb21
    have hI22 := (hI21.mono hB20.size).put bQ1 n21 (.slice a21 l21 c21)
    have bQ2 := bQ1.put n21 a21 l21 c21
    have bB2 := bB1.putOther (M := PQ) (by omega) n21 (.slice a21 l21 c21)
    have bR2 := bR1.putOther (M := PQ) (by omega) n21 (.slice a21 l21 c21)
    have hR2 := hR1.putOther (M := PQ) (by omega) n21 (.slice a21 l21 c21)
    have hS2 := hS1.putOther (M := PQ) (by omega) n21 (.slice a21 l21 c21)
    have sR2 := sR1.put bQ1 n21 (.slice a21 l21 c21)
    have sY2 := sY1.put bQ1 n21 (.slice a21 l21 c21)
    have hB22 := below_put2 (N := PQ) hB21 (by omega) n21 (.slice a21 l21 c21)
    obtain ⟨w22, hw4⟩ : ∃ w4, (w21.setCell ⟨PQ, 0, none⟩ (.bool n21)).setCell ⟨PQ, 1, none⟩ (.slice a21 l21 c21) = w4 := ⟨_, rfl⟩
    have hw5 : put2 w21 PQ n21 (.slice a21 l21 c21) = w22 := hw4
    rw [hw5] at hI22 bQ2 bB2 bR2 hR2 hS2 sR2 sY2 hB22
    rw [hw4]
    clear hw4 hw5 hBd hB20 hB21 bB1 bR1 hR1 hS1 sR1 sY1 bQ1 bQ0 hI21 hb21 hb20 hI20 hB hA hR hS hB0 bR bQ oR hSY q0 q1 q2 q3 q4 z0 z1 s0 s1 sf0 sf1 hheld oQ' sQ' hI8 hI9
    have q0 := bR2.c0
    have q1 := bR2.c1
    have q2 := bB2.c0
    have q3 := bB2.c1
    go_wp2_with fail
    clear q0 q1 q2 q3
    refine (rsum_any n9 n6 a9 a6 R'.length c9 Y.length c6 R' Y w22 sR2 sY2 kR kY fR.tr fY.tr (by omega) (by omega)).mono ?_
    rintro e w23 ⟨n23, a23, l23, c23, rfl, hI23, hb23⟩
    rw [HVR.out.1, HVR.out.2] at hI23
    replace hI23 := hI23.mono hB22.size
    replace hI22 := hI22.below hb23
    replace bQ2 := bQ2.below hb23
    replace bR2 := bR2.below hb23
    replace hR2 := hR2.below hb23
    replace hS2 := hS2.below hb23
    replace hB22 : Below w.heap.size w w23 := hB22.trans (hb23.mono hB22.size)
    clear hb23 sR2 sY2 bB2
    have r0 := bR2.c0
    have r1 := bR2.c1
    have rf0 := bR2.f0
    have rf1 := bR2.f1
    go_upto_region 13 with fail
    clear r0 r1 rf0 rf1
    have hI24 := hI23.put bR2 n23 (.slice a23 l23 c23)
    have hI25 := hI22.put bR2 n23 (.slice a23 l23 c23)
    have bR := bR2.put n23 a23 l23 c23
    have bQ := bQ2.putOther (M := PR) (by omega) n23 (.slice a23 l23 c23)
    have hR := hR2.putOther (M := PR) (by omega) n23 (.slice a23 l23 c23)
    have hS := hS2.putOther (M := PR) (by omega) n23 (.slice a23 l23 c23)
    have hB0 := below_put2 (N := PR) hB22 (by omega) n23 (.slice a23 l23 c23)
    obtain ⟨w24, hw4⟩ : ∃ w4, (w23.setCell ⟨PR, 0, none⟩ (.bool n23)).setCell ⟨PR, 1, none⟩ (.slice a23 l23 c23) = w4 := ⟨_, rfl⟩
    have hw5 : put2 w23 PR n23 (.slice a23 l23 c23) = w24 := hw4
    rw [hw5] at hI24 hI25 bR bQ hR hS hB0
    rw [hw4]
    clear hw4 hw5 hI23 hI22 bR2 bQ2 hR2 hS2 hB22
    obtain ⟨Q3, oQ3, kQ3, fQ3, eQ3⟩ := hI25.open
    have vQ3 : val Q3 = val Q + 1 := by
      have e1 := zv_abs n21 (val Q3)
      rw [eQ3] at e1
      have t3 : (n9 != n6) = true := by simp [bne, t2]
      rw [t3] at e1
      have e2 : (zv true (val Q) + -1).natAbs = val Q + 1 := by
        show (-(val Q : Int) + -1).natAbs = _
        omega
      omega
    have hqf3 : ¬ pw 256 ≤ val Q3 := by have := HP.out.2.1; omega
    have lQ3 : Q3.length ≤ 256 := len_small fQ3.tr (by omega)
    obtain rfl := oQ3.len
    have sQ3 := oQ3.sl
    clear oQ3 vQ3 eQ3 fQ3
    have q0 := bQ.c0
    have q1 := bQ.c1
    go_wp2_with fail
    clear q0 q1
    refine (rlong_any n21 a21 Q3.length c21 Q3 w24 sQ3 kQ3 (by omega)).mono ?_
    rintro e w25 ⟨rfl, hb1⟩
    have hd : decide (pw 256 ≤ val Q3) = false := by simpa using hqf3
    rw [hd]
    replace hI24 := hI24.below hb1
    replace hI25 := hI25.below hb1
    replace bQ := bQ.below hb1
    replace bR := bR.below hb1
    replace hR := hR.below hb1
    replace hS := hS.below hb1
    replace hB0 : Below w.heap.size w w25 := hB0.trans (hb1.mono hB0.size)
    clear hb1 hd sQ3
    go_wp2_with fail
    have q0 := bQ.c0
    have q1 := bQ.c1
    have q2 := bR.c0
    have q3 := bR.c1
    have r0 := hR.c0
    have r1 := hR.c1
    have rf0 := hR.f0
    have rf1 := hR.f1
    have pR := bR.putOther (M := w.heap.size + 1 + 1) (by omega) n21 (.slice a21 Q3.length c21)
    have p0 := hS.putOther (M := w.heap.size + 1 + 1) (by omega) n21 (.slice a21 Q3.length c21)
    have u0 := pR.c0
    have u1 := pR.c1
    have s0 := p0.c0
    have s1 := p0.c1
    have sf0 := p0.f0
    have sf1 := p0.f1
    have f1 := (hR.put n21 a21 Q3.length c21).putOther (M := w.heap.size + 1 + 1 + 1) (by omega) n23 (.slice a23 l23 c23)
    have f2 := p0.put n23 a23 l23 c23
    unfold put2 at u0 u1 s0 s1 sf0 sf1
    clear hqf hqf3 pR bQ bR hS
    go_region
    clear q0 q1 q2 q3 r0 r1 rf0 rf1 u0 u1 s0 s1 sf0 sf1
    go_wp2
    have g0 := f1.c0
    have g1 := f1.c1
    have g2 := f2.c0
    have g3 := f2.c1
    have HB := below_put2 (N := w.heap.size + 1 + 1 + 1) (below_put2 (N := w.heap.size + 1 + 1) hB0 (by omega) n21 (.slice a21 Q3.length c21)) (by omega) n23 (.slice a23 l23 c23)
    have HI8 := (hI25.put hR n21 (.slice a21 Q3.length c21)).put p0 n23 (.slice a23 l23 c23)
    have HI9 := (hI24.put hR n21 (.slice a21 Q3.length c21)).put p0 n23 (.slice a23 l23 c23)
    unfold put2 at g0 g1 g2 g3
    refine bodyPost_ret (v := .tuple #[.agg #[.bool n21, .slice a21 Q3.length c21], .agg #[.bool n23, .slice a23 l23 c23], .int .i64 0]) ?_ rfl ⟨_, _, _, _, _, _, _, _, _, _, rfl, HD.out, HI8.below below_drew, HI9.below below_drew, HB.drew⟩
    simp [results, Try.f26, go_sem, g0, g1, g2, g3])
end Go.Proofs.Yteplmnnpmekngaa
