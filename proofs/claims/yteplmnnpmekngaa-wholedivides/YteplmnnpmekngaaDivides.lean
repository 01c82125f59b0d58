/-
  What a division answers, of the code and of the reference, is one; and WholeDivides, walked.
-/
import Derived.Test.YteplmnnpmekngaaWDiv
import Derived.Test.YteplmnnpmekngaaRDiv4
import Derived.Test.YteplmnnpmekngaaSums
namespace Go.Proofs.Yteplmnnpmekngaa
open Go.RowKit

theorem isDiv_abs {x y q r : Int} (h : IsDiv x y q r) : q.natAbs ≤ x.natAbs ∧ r.natAbs ≤ y.natAbs := by
  obtain ⟨e, h⟩ := h
  rcases h with ⟨h1, h2⟩ | ⟨h1, h2⟩
  · refine ⟨?_, by omega⟩
    rcases Int.lt_or_le q 0 with hq | hq
    · have k : (q + 1) * y ≤ (q + 1) * 1 := Int.mul_le_mul_of_nonpos_left (by omega) (by omega)
      have k2 : (q + 1) * y = q * y + y := by rw [Int.add_mul, Int.one_mul]
      omega
    · have k : q * 1 ≤ q * y := Int.mul_le_mul_of_nonneg_left (by omega) hq
      omega
  · refine ⟨?_, by omega⟩
    rcases Int.lt_or_le q 0 with hq | hq
    · have k : (q + 1) * (-1) ≤ (q + 1) * y := Int.mul_le_mul_of_nonpos_left (by omega) (by omega)
      have k2 : (q + 1) * y = q * y + y := by rw [Int.add_mul, Int.one_mul]
      omega
    · have k : q * y ≤ q * (-1) := Int.mul_le_mul_of_nonneg_left (by omega) hq
      omega
theorem IntIs.zero (B : Nat) (w : World) : IntIs B w (.agg #[.bool false, .slice none 0 0]) 0 := ⟨false, none, 0, 0, [], rfl, Ow_nil _ _ _ _ _, okw_nil, Or.inl rfl, fun _ => ⟨rfl, rfl, rfl⟩, rfl⟩
/-- What is answered, as numbers. -/
def DivSays (k x y zq zr : Int) : Prop :=
  ((pw 256 ≤ x.natAbs ∨ pw 256 ≤ y.natAbs) ∧ k = 3 ∧ zq = 0 ∧ zr = 0) ∨
  ((x.natAbs < pw 256 ∧ y.natAbs < pw 256) ∧ y = 0 ∧ k = 2 ∧ zq = 0 ∧ zr = 0) ∨
  ((x.natAbs < pw 256 ∧ y.natAbs < pw 256) ∧ y ≠ 0 ∧ k = 0 ∧ IsDiv x y zq zr)
theorem DivSays.one {k k' x y zq zr zq' zr' : Int} (h : DivSays k x y zq zr) (h' : DivSays k' x y zq' zr') : k' = k ∧ zq' = zq ∧ zr' = zr := by
  rcases h with ⟨a, b, c, d⟩ | ⟨a, e, b, c, d⟩ | ⟨a, e, b, c⟩ <;> rcases h' with ⟨a', b', c', d'⟩ | ⟨a', e', b', c', d'⟩ | ⟨a', e', b', c'⟩
  · exact ⟨by omega, by omega, by omega⟩
  · omega
  · omega
  · omega
  · exact ⟨by omega, by omega, by omega⟩
  · exact absurd e e'
  · omega
  · exact absurd e' e
  · have := IsDiv.unique c' c
    exact ⟨by omega, this.1, this.2⟩
theorem DivSays.small {k x y zq zr : Int} (h : DivSays k x y zq zr) : zq.natAbs < pw 256 ∧ zr.natAbs < pw 256 := by
  have h0 := pw_pos 256
  rcases h with ⟨_, _, rfl, rfl⟩ | ⟨_, _, _, rfl, rfl⟩ | ⟨a, _, _, c⟩
  · exact ⟨h0, h0⟩
  · exact ⟨h0, h0⟩
  · have := isDiv_abs c
    omega
theorem DivRes.says {B : Nat} {w : World} {v1 v2 : Value} {k x y : Int} (h : DivRes B w v1 v2 k x y) : ∃ zq zr, DivSays k x y zq zr ∧ IntIs B w v1 zq ∧ IntIs B w v2 zr := by
  rcases h with ⟨a, b, rfl, rfl⟩ | ⟨a, e, b, rfl, rfl⟩ | ⟨a, e, b, zq, zr, c, h1, h2⟩
  · exact ⟨0, 0, .inl ⟨a, b, rfl, rfl⟩, IntIs.zero _ _, IntIs.zero _ _⟩
  · exact ⟨0, 0, .inr (.inl ⟨a, e, b, rfl, rfl⟩), IntIs.zero _ _, IntIs.zero _ _⟩
  · exact ⟨zq, zr, .inr (.inr ⟨a, e, b, c⟩), h1, h2⟩

/-- The reference's Divide. -/
theorem rdiv_any (na nb : Bool) (ax ay : Option Addr) (nx cx ny cy : Nat) (xs ys : List Nat) (w : World) (hx : Sl .u32 w (.slice ax nx cx) xs) (hy : Sl .u32 w (.slice ay ny cy) ys) (ox : okw xs) (oy : okw ys) (bx : xs.length ≤ 1000000) (by_ : ys.length ≤ 1000000) :
    Calls Try.prog 26 #[.agg #[.bool na, .slice ax nx cx], .agg #[.bool nb, .slice ay ny cy]] w fun e w' => ∃ n1 a1 l1 c1 n2 a2 l2 c2 k, e = .returned (.tuple #[.agg #[.bool n1, .slice a1 l1 c1], .agg #[.bool n2, .slice a2 l2 c2], .int .i64 k]) ∧ DivRes w.heap.size w' (.agg #[.bool n1, .slice a1 l1 c1]) (.agg #[.bool n2, .slice a2 l2 c2]) k (zv na (val xs)) (zv nb (val ys)) ∧ Below w.heap.size w w' := by
  have zx := zv_abs na (val xs)
  have zy := zv_abs nb (val ys)
  by_cases hf : pw 256 ≤ val xs ∨ pw 256 ≤ val ys
  · refine (rdiv_far na nb ax ay nx cx ny cy xs ys w hx hy ox oy bx by_ hf).mono ?_
    rintro e w' ⟨rfl, hb⟩
    exact ⟨_, _, _, _, _, _, _, _, _, rfl, .inl ⟨by rw [zx, zy]; exact hf, rfl, rfl, rfl⟩, hb⟩
  · have hs : (zv na (val xs)).natAbs < pw 256 ∧ (zv nb (val ys)).natAbs < pw 256 := by rw [zx, zy]; omega
    by_cases h0 : val ys = 0
    · refine (rdiv_zero na nb ax ay nx cx ny cy xs ys w hx hy ox oy bx by_ (by omega) (by omega) h0).mono ?_
      rintro e w' ⟨rfl, hb⟩
      exact ⟨_, _, _, _, _, _, _, _, _, rfl, .inr (.inl ⟨hs, by rw [h0]; cases nb <;> rfl, rfl, rfl, rfl⟩), hb⟩
    · have hy0 : zv nb (val ys) ≠ 0 := by omega
      by_cases hp : val xs % val ys = 0 ∨ na = nb
      · refine (rdiv_plain na nb ax ay nx cx ny cy xs ys w hx hy ox oy bx by_ (by omega) (by omega) h0 hp).mono ?_
        rintro e w' ⟨n1, a1, l1, c1, n2, a2, l2, c2, zq, zr, rfl, hd, h1, h2, hb⟩
        exact ⟨_, _, _, _, _, _, _, _, _, rfl, .inr (.inr ⟨hs, hy0, rfl, zq, zr, hd, h1, h2⟩), hb⟩
      · have hp' : val xs % val ys ≠ 0 ∧ na ≠ nb := ⟨fun h => hp (.inl h), fun h => hp (.inr h)⟩
        refine (rdiv_down na nb ax ay nx cx ny cy xs ys w hx hy ox oy bx by_ (by omega) (by omega) h0 hp').mono ?_
        rintro e w' ⟨n1, a1, l1, c1, n2, a2, l2, c2, zq, zr, rfl, hd, h1, h2, hb⟩
        exact ⟨_, _, _, _, _, _, _, _, _, rfl, .inr (.inr ⟨hs, hy0, rfl, zq, zr, hd, h1, h2⟩), hb⟩

/-- same, of two numbers in their form that are one. -/
theorem sameI {B B' : Nat} {w : World} {na nb : Bool} {ax ay : Option Addr} {nx cx ny cy : Nat} {z : Int} (h : IntIs B w (.agg #[.bool na, .slice ax nx cx]) z) (h' : IntIs B' w (.agg #[.bool nb, .slice ay ny cy]) z) (hz : z.natAbs < pw 256) :
    Calls Try.prog 14 #[.agg #[.bool na, .slice ax nx cx], .agg #[.bool nb, .slice ay ny cy]] w fun e w' => e = .returned (.bool true) ∧ Below w.heap.size w w' := by
  obtain ⟨X, oX, kX, fX, eX⟩ := h.open
  obtain ⟨Y, oY, kY, fY, eY⟩ := h'.open
  have lX : X.length ≤ 256 := Tr_len_le fX.tr 256 (by rw [← zv_abs na (val X), eX]; exact hz)
  have := same_any na nb ax ay nx cx ny cy X Y w oX.sl oY.sl (by omega)
  rw [same_true fX fY kX kY (eX.trans eY.symm)] at this
  exact this

theorem dvs_far (na nb : Bool) (a0 a1 : Option Addr) (l0 c0 l1 c1 : Nat) (w : World) (h : 600 < l0 ∨ 600 < l1) :
    Calls Try.prog 4 #[.agg #[.bool na, .slice a0 l0 c0], .agg #[.bool nb, .slice a1 l1 c1]] w fun e w' => e = .returned (.bool true) ∧ Below w.heap.size w w' := by
  have hbs := boxes2 w na nb a0 a1 l0 c0 l1 c1 24
  go_enter Try.func4, Try.ntmps4
  go_wp2_with fail
  obtain ⟨W0, hW0⟩ : ∃ W0, (w.alloc (.cells #[.bool na, .slice a0 l0 c0] 24)).alloc (.cells #[.bool nb, .slice a1 l1 c1] 24) = W0 := ⟨_, rfl⟩
  simp only [hW0] at hbs
  rw [hW0]
  clear hW0
  obtain ⟨hA, hB, hB0⟩ := hbs
  refine (large_any na a0 l0 c0 W0).mono ?_
  rintro e w1 ⟨rfl, hb1⟩
  replace hB := hB.below hb1
  replace hB0 : Below w.heap.size w w1 := hB0.trans (hb1.mono hB0.size)
  clear hb1 hA
  by_cases h1 : 600 < l0
  · have hd : decide (600 < l0) = true := by simpa using h1
    rw [hd]
    clear hd h h1
    go_wp2_with fail
    refine (awake_any w1).mono ?_
    rintro e w2 ⟨rfl, hb2⟩
    go_wp2
    go_ret
    exact ⟨rfl, hB0.trans (hb2.mono hB0.size)⟩
  · have hd : decide (600 < l0) = false := by simpa using h1
    rw [hd]
    clear hd
    have b0 := hB.c0
    have b1 := hB.c1
    go_wp2_with fail
    refine (large_any nb a1 l1 c1 w1).mono ?_
    rintro e w2 ⟨rfl, hb2⟩
    have hd : decide (600 < l1) = true := by simp; omega
    rw [hd]
    replace hB0 : Below w.heap.size w w2 := hB0.trans (hb2.mono hB0.size)
    clear hd b0 b1 hb2 h h1
    go_wp2_with fail
    refine (awake_any w2).mono ?_
    rintro e w3 ⟨rfl, hb3⟩
    go_wp2
    go_ret
    exact ⟨rfl, hB0.trans (hb3.mono hB0.size)⟩

set_option maxRecDepth 100000 in
set_option maxHeartbeats 8000000 in
theorem dvs_near (na nb : Bool) (a0 a1 : Option Addr) (l0 c0 l1 c1 : Nat) (xs ys : List Nat) (w : World) (hx : Sl .u32 w (.slice a0 l0 c0) xs) (hy : Sl .u32 w (.slice a1 l1 c1) ys) (ox : okw xs) (oy : okw ys) (g0 : l0 ≤ 600) (g1 : l1 ≤ 600) :
    Calls Try.prog 4 #[.agg #[.bool na, .slice a0 l0 c0], .agg #[.bool nb, .slice a1 l1 c1]] w fun e w' => e = .returned (.bool true) ∧ Below w.heap.size w w' := by
  have lx : xs.length ≤ 600 := by rw [← hx.len]; exact g0
  have ly : ys.length ≤ 600 := by rw [← hy.len]; exact g1
  have hbs := boxes2 w na nb a0 a1 l0 c0 l1 c1 24
  go_enter Try.func4, Try.ntmps4
  go_wp2_with fail
  obtain ⟨W0, hW0⟩ : ∃ W0, (w.alloc (.cells #[.bool na, .slice a0 l0 c0] 24)).alloc (.cells #[.bool nb, .slice a1 l1 c1] 24) = W0 := ⟨_, rfl⟩
  simp only [hW0] at hbs
  rw [hW0]
  clear hW0
  obtain ⟨hA, hB, hB0⟩ := hbs
  refine (large_any na a0 l0 c0 W0).mono ?_
  rintro e w1 ⟨rfl, hb1⟩
  have hd : decide (600 < l0) = false := by simp; omega
  rw [hd]
  clear hd
  replace hA := hA.below hb1
  replace hB := hB.below hb1
  replace hB0 : Below w.heap.size w w1 := hB0.trans (hb1.mono hB0.size)
  clear hb1
  clear W0
  have b0 := hB.c0
  have b1 := hB.c1
  go_wp2_with fail
  refine (large_any nb a1 l1 c1 w1).mono ?_
  rintro e w2 ⟨rfl, hb1⟩
  have hd : decide (600 < l1) = false := by simp; omega
  rw [hd]
  clear hd
  replace hA := hA.below hb1
  replace hB := hB.below hb1
  replace hB0 : Below w.heap.size w w2 := hB0.trans (hb1.mono hB0.size)
  clear hb1 b0 b1
  clear w1
  have q0 := hA.c0
  have q1 := hA.c1
  go_wp2_with fail
  refine (lent_any na a0 l0 c0 xs w2 (hx.below hB0) (by omega)).mono ?_
  rintro e w3 ⟨g, cp, rfl, hP, hb1⟩
  replace hA := hA.below hb1
  replace hB := hB.below hb1
  replace hP : LentAt w.heap.size w3 g l0 cp xs := ⟨hP.len, hP.room, Nat.le_trans hB0.size hP.ge, hP.seg⟩
  replace hB0 : Below w.heap.size w w3 := hB0.trans (hb1.mono hB0.size)
  clear hb1 q0 q1
  clear w2
  have q0 := (hB.below (below_alloc w3 (.cells #[.bool na, .slice (some ⟨g, 0, none⟩) l0 cp] 24))).c0
  have q1 := (hB.below (below_alloc w3 (.cells #[.bool na, .slice (some ⟨g, 0, none⟩) l0 cp] 24))).c1
  go_wp2_with fail
  have hb1 := below_alloc w3 (.cells #[.bool na, .slice (some ⟨g, 0, none⟩) l0 cp] 24)
  have bP := Box2.new w3 na (some ⟨g, 0, none⟩) l0 cp 24
  clear q0 q1
  obtain ⟨w4, hW4⟩ : ∃ w4, w3.alloc (.cells #[.bool na, .slice (some ⟨g, 0, none⟩) l0 cp] 24) = w4 := ⟨_, rfl⟩
  rw [hW4] at hb1 bP ⊢
  clear hW4
  obtain ⟨P, hPP⟩ : ∃ P, w3.heap.size = P := ⟨_, rfl⟩
  rw [hPP] at bP ⊢
  clear hPP
  replace hA := hA.below hb1
  replace hB := hB.below hb1
  replace hP := hP.below hb1
  replace hB0 : Below w.heap.size w w4 := hB0.trans (hb1.mono hB0.size)
  clear hb1
  clear w3
  refine (lent_any nb a1 l1 c1 ys w4 (hy.below hB0) (by omega)).mono ?_
  rintro e w5 ⟨h, cq, rfl, hQ, hb1⟩
  replace hA := hA.below hb1
  replace hB := hB.below hb1
  replace hP := hP.below hb1
  replace bP := bP.below hb1
  replace hQ : LentAt w.heap.size w5 h l1 cq ys := ⟨hQ.len, hQ.room, Nat.le_trans hB0.size hQ.ge, hQ.seg⟩
  replace hB0 : Below w.heap.size w w5 := hB0.trans (hb1.mono hB0.size)
  clear hb1
  clear w4
  have hb1 := below_alloc w5 (.cells #[.bool nb, .slice (some ⟨h, 0, none⟩) l1 cq] 24)
  have bQ := Box2.new w5 nb (some ⟨h, 0, none⟩) l1 cq 24
  have q0 := (bP.below hb1).c0
  have q1 := (bP.below hb1).c1
  have q2 := bQ.c0
  have q3 := bQ.c1
  go_wp2_with fail
  clear q0 q1 q2 q3
  obtain ⟨w6, hW4⟩ : ∃ w4, w5.alloc (.cells #[.bool nb, .slice (some ⟨h, 0, none⟩) l1 cq] 24) = w4 := ⟨_, rfl⟩
  rw [hW4] at hb1 bQ ⊢
  clear hW4
  obtain ⟨Q, hPP⟩ : ∃ P, w5.heap.size = P := ⟨_, rfl⟩
  rw [hPP] at bQ ⊢
  clear hPP
  replace hA := hA.below hb1
  replace hB := hB.below hb1
  replace hP := hP.below hb1
  replace bP := bP.below hb1
  replace hQ := hQ.below hb1
  replace hB0 : Below w.heap.size w w6 := hB0.trans (hb1.mono hB0.size)
  clear hb1
  clear w5
  refine (div_any na nb _ _ _ _ _ _ xs ys w6 hP.sl hQ.sl ox oy (by omega) (by omega)).mono ?_
  rintro e w7 ⟨n1, x1, y1, z1, n2, x2, y2, z2, k, rfl, DR, hb1⟩
  obtain ⟨zq, zr, DS, I1, I2⟩ := DR.says
  replace I1 := I1.mono hB0.size
  replace I2 := I2.mono hB0.size
  replace hA := hA.below hb1
  replace hB := hB.below hb1
  replace bP := bP.below hb1
  replace bQ := bQ.below hb1
  replace hP := hP.below hb1
  replace hQ := hQ.below hb1
  replace hB0 : Below w.heap.size w w7 := hB0.trans (hb1.mono hB0.size)
  clear hb1
  clear DR
  clear w6
  have hbs := boxes2 w7 n1 n2 x1 x2 y1 z1 y2 z2 24
  obtain ⟨b7, b8, hb1⟩ := hbs
  have q0 := (hA.below hb1).c0
  have q1 := (hA.below hb1).c1
  have q2 := (hB.below hb1).c0
  have q3 := (hB.below hb1).c1
  go_wp2_with fail
  clear q0 q1 q2 q3
  obtain ⟨w8, hW4⟩ : ∃ w4, (w7.alloc (.cells #[.bool n1, .slice x1 y1 z1] 24)).alloc (.cells #[.bool n2, .slice x2 y2 z2] 24) = w4 := ⟨_, rfl⟩
  rw [hW4] at hb1 b7 b8 ⊢
  clear hW4
  obtain ⟨N7, hPP⟩ : ∃ P, w7.heap.size = P := ⟨_, rfl⟩
  rw [hPP] at b7 b8 ⊢
  clear hPP
  replace hA := hA.below hb1
  replace hB := hB.below hb1
  replace bP := bP.below hb1
  replace bQ := bQ.below hb1
  replace hP := hP.below hb1
  replace hQ := hQ.below hb1
  replace I1 := I1.below hb1
  replace I2 := I2.below hb1
  replace hB0 : Below w.heap.size w w8 := hB0.trans (hb1.mono hB0.size)
  clear hb1
  clear w7
  refine (rdiv_any na nb a0 a1 l0 c0 l1 c1 xs ys w8 (hx.below hB0) (hy.below hB0) ox oy (by omega) (by omega)).mono ?_
  rintro e w9 ⟨m1, u1, v1, t1, m2, u2, v2, t2, k', rfl, DR, hb1⟩
  obtain ⟨zq', zr', DS', J1, J2⟩ := DR.says
  obtain ⟨rfl, rfl, rfl⟩ := DS.one DS'
  have hsm := DS.small
  replace J1 := J1.mono hB0.size
  replace J2 := J2.mono hB0.size
  replace hA := hA.below hb1
  replace hB := hB.below hb1
  replace bP := bP.below hb1
  replace bQ := bQ.below hb1
  replace hP := hP.below hb1
  replace hQ := hQ.below hb1
  replace I1 := I1.below hb1
  replace I2 := I2.below hb1
  replace b7 := b7.below hb1
  replace b8 := b8.below hb1
  replace hB0 : Below w.heap.size w w9 := hB0.trans (hb1.mono hB0.size)
  clear hb1
  clear DR DS DS'
  clear w8
  have hbs := boxes2 w9 m1 m2 u1 u2 v1 t1 v2 t2 24
  obtain ⟨b10, b11, hb1⟩ := hbs
  have q0 := (b7.below hb1).c0
  have q1 := (b7.below hb1).c1
  have q2 := b10.c0
  have q3 := b10.c1
  have kk : (k' == k') = true := by simp
  go_wp2_with fail
  clear q0 q1 q2 q3
  obtain ⟨w10, hW4⟩ : ∃ w4, (w9.alloc (.cells #[.bool m1, .slice u1 v1 t1] 24)).alloc (.cells #[.bool m2, .slice u2 v2 t2] 24) = w4 := ⟨_, rfl⟩
  rw [hW4] at hb1 b10 b11 ⊢
  clear hW4
  obtain ⟨N9, hPP⟩ : ∃ P, w9.heap.size = P := ⟨_, rfl⟩
  rw [hPP] at b10 b11 ⊢
  clear hPP
  replace hA := hA.below hb1
  replace hB := hB.below hb1
  replace bP := bP.below hb1
  replace bQ := bQ.below hb1
  replace hP := hP.below hb1
  replace hQ := hQ.below hb1
  replace I1 := I1.below hb1
  replace I2 := I2.below hb1
  replace b7 := b7.below hb1
  replace b8 := b8.below hb1
  replace J1 := J1.below hb1
  replace J2 := J2.below hb1
  replace hB0 : Below w.heap.size w w10 := hB0.trans (hb1.mono hB0.size)
  clear hb1
  clear w9
  refine (sameI I1 J1 hsm.1).mono ?_
  rintro e w11 ⟨rfl, hb1⟩
  replace hA := hA.below hb1
  replace hB := hB.below hb1
  replace bP := bP.below hb1
  replace bQ := bQ.below hb1
  replace hP := hP.below hb1
  replace hQ := hQ.below hb1
  replace I2 := I2.below hb1
  replace b8 := b8.below hb1
  replace b11 := b11.below hb1
  replace J2 := J2.below hb1
  replace hB0 : Below w.heap.size w w11 := hB0.trans (hb1.mono hB0.size)
  clear hb1
  clear I1 J1 b7 b10
  clear w10
  have q0 := b8.c0
  have q1 := b8.c1
  have q2 := b11.c0
  have q3 := b11.c1
  go_wp2_with fail
  clear q0 q1 q2 q3
  refine (sameI I2 J2 hsm.2).mono ?_
  rintro e w12 ⟨rfl, hb1⟩
  replace hA := hA.below hb1
  replace hB := hB.below hb1
  replace bP := bP.below hb1
  replace bQ := bQ.below hb1
  replace hP := hP.below hb1
  replace hQ := hQ.below hb1
  replace hB0 : Below w.heap.size w w12 := hB0.trans (hb1.mono hB0.size)
  clear hb1
  clear I2 J2 b8 b11 hsm
  clear w11
  have q0 := bP.c0
  have q1 := bP.c1
  have q2 := hA.c0
  have q3 := hA.c1
  go_wp2_with fail
  clear q0 q1 q2 q3
  refine (back_is na a0 l0 c0 g cp w.heap.size xs w12 hP (hx.below hB0) (by omega)).mono ?_
  rintro e w13 ⟨rfl, hb1⟩
  replace hB := hB.below hb1
  replace bQ := bQ.below hb1
  replace hQ := hQ.below hb1
  replace hB0 : Below w.heap.size w w13 := hB0.trans (hb1.mono hB0.size)
  clear hb1
  clear hA bP hP
  clear w12
  have q0 := bQ.c0
  have q1 := bQ.c1
  have q2 := hB.c0
  have q3 := hB.c1
  go_wp2_with fail
  clear q0 q1 q2 q3
  refine (back_is nb a1 l1 c1 h cq w.heap.size ys w13 hQ (hy.below hB0) (by omega)).mono ?_
  rintro e w14 ⟨rfl, hb1⟩
  replace hB0 : Below w.heap.size w w14 := hB0.trans (hb1.mono hB0.size)
  clear hb1
  clear hB bQ hQ
  clear w13
  go_wp2_with fail
  refine (awake_any w14).mono ?_
  rintro e w15 ⟨rfl, hb1⟩
  go_wp2
  go_ret
  exact ⟨rfl, hB0.trans (hb1.mono hB0.size)⟩

theorem divides_walk (na nb : Bool) (a0 a1 : Option Addr) (l0 c0 l1 c1 : Nat) (xs ys : List Nat) (w : World) (hx : Sl .u32 w (.slice a0 l0 c0) xs) (hy : Sl .u32 w (.slice a1 l1 c1) ys) (ox : okw xs) (oy : okw ys) :
    Calls Try.prog 4 #[.agg #[.bool na, .slice a0 l0 c0], .agg #[.bool nb, .slice a1 l1 c1]] w fun e w' => e = .returned (.bool true) ∧ Below w.heap.size w w' := by
  by_cases h : 600 < l0 ∨ 600 < l1
  · exact dvs_far na nb a0 a1 l0 c0 l1 c1 w h
  · exact dvs_near na nb a0 a1 l0 c0 l1 c1 xs ys w hx hy ox oy (by omega) (by omega)
end Go.Proofs.Yteplmnnpmekngaa
