/-
  Division that rounds down, of whole numbers in signs and sizes. No program, no world.
  The reference: Divide.
  The reference: Divide by 0, and of numbers that fit.
-/
import Derived.Test.YteplmnnpmekngaaRBy
import Derived.Deep.CutBlock
namespace Go.Proofs.Yteplmnnpmekngaa
open Go.RowKit

/-- q is how often y goes into x, rounded down, and r what is left. -/
def IsDiv (x y q r : Int) : Prop := x = q * y + r ∧ ((0 ≤ r ∧ r < y) ∨ (y < r ∧ r ≤ 0))
theorem IsDiv.unique {x y q r q' r' : Int} (h : IsDiv x y q r) (k : IsDiv x y q' r') : q = q' ∧ r = r' := by
  obtain ⟨h1, h2⟩ := h
  obtain ⟨k1, k2⟩ := k
  have e : (q - q') * y = r' - r := by rw [Int.sub_mul]; omega
  have hq : q - q' = 0 := by
    rcases Int.lt_trichotomy (q - q') 0 with h | h | h
    · exfalso
      rcases Int.lt_or_le 0 y with hy | hy
      · have : (q - q') * y ≤ -1 * y := Int.mul_le_mul_of_nonneg_right (by omega) (by omega)
        omega
      · have : (q - q') * y ≥ -1 * y := Int.mul_le_mul_of_nonpos_right (by omega) hy
        omega
    · exact h
    · exfalso
      rcases Int.lt_or_le 0 y with hy | hy
      · have : 1 * y ≤ (q - q') * y := Int.mul_le_mul_of_nonneg_right (by omega) (by omega)
        omega
      · have : 1 * y ≥ (q - q') * y := Int.mul_le_mul_of_nonpos_right (by omega) hy
        omega
  rw [hq, Int.zero_mul] at e
  omega
theorem parts_eq {X Y Q R : Nat} (hQ : Q = X / Y) (hR : R = X % Y) : (X : Int) = (Q : Int) * Y + R := by
  have h := Nat.div_add_mod X Y
  rw [← hQ, ← hR, Nat.mul_comm] at h
  exact_mod_cast h.symm
/-- Signs that agree, or nothing left: as it comes. -/
theorem isDiv_plain {na nb : Bool} {X Y Q R : Nat} (hQ : Q = X / Y) (hR : R = X % Y) (hY : 0 < Y) (h : R = 0 ∨ na = nb) : IsDiv (zv na X) (zv nb Y) (zv (na != nb) Q) (zv na R) := by
  have e := parts_eq hQ hR
  have hlt : R < Y := by rw [hR]; exact Nat.mod_lt _ hY
  cases na <;> cases nb <;> simp only [zv, IsDiv, bne_self_eq_false, Bool.true_bne, Bool.false_bne, Bool.not_false, if_true, if_false, Bool.false_eq_true] at * <;> refine ⟨?_, ?_⟩ <;> (try simp only [Int.neg_mul, Int.mul_neg, Int.neg_neg]) <;> (try omega) <;> rcases h with h | h <;> first | omega | cases h
/-- .. and where the signs differ and something is left. -/
theorem isDiv_down {na nb : Bool} {X Y Q R : Nat} (hQ : Q = X / Y) (hR : R = X % Y) (hY : 0 < Y) (h0 : R ≠ 0) (h : na ≠ nb) : IsDiv (zv na X) (zv nb Y) (zv (na != nb) Q + -1) (zv na R + zv nb Y) := by
  have e := parts_eq hQ hR
  have hlt : R < Y := by rw [hR]; exact Nat.mod_lt _ hY
  cases na <;> cases nb <;> simp only [zv, IsDiv, bne_self_eq_false, Bool.true_bne, Bool.false_bne, Bool.not_false, if_true, if_false, Bool.false_eq_true] at * <;> first | exact absurd rfl h | (refine ⟨?_, ?_⟩ <;> (try simp only [Int.add_mul, Int.neg_mul, Int.mul_neg, Int.one_mul]) <;> omega)
theorem quot_le {X Y : Nat} (h : X % Y ≠ 0) : X / Y + 1 ≤ X := by
  rcases Nat.lt_or_ge Y 2 with h1 | h1
  · rcases Nat.le_one_iff_eq_zero_or_eq_one.1 (Nat.le_of_lt_succ h1) with rfl | rfl
    · rw [Nat.mod_zero] at h
      simp
      omega
    · simp [Nat.mod_one] at h
  · have h2 : X / Y ≤ X / 2 := Nat.div_le_div_left h1 (by omega)
    have h3 : X ≠ 0 := fun e => h (by rw [e, Nat.zero_mod])
    omega
end Go.Proofs.Yteplmnnpmekngaa
namespace Go.Proofs.Yteplmnnpmekngaa
open Go.RowKit

theorem boxes4 (w : World) (n0 n1 : Bool) (a0 a1 : Option Addr) (l0 c0 l1 c1 : Nat) (t : TypeId) :
    let W := (((w.alloc (.cells #[.bool n0, .slice a0 l0 c0] t)).alloc (.cells #[.bool n1, .slice a1 l1 c1] t)).alloc (.cells #[.bool false, .slice none 0 0] t)).alloc (.cells #[.bool false, .slice none 0 0] t)
    Box2 W w.heap.size n0 a0 l0 c0 ∧ Box2 W (w.heap.size + 1) n1 a1 l1 c1 ∧ Box2 W (w.heap.size + 1 + 1) false none 0 0 ∧ Box2 W (w.heap.size + 1 + 1 + 1) false none 0 0 ∧ Below w.heap.size w W := by
  intro W
  obtain ⟨h0, h1, h2, h3⟩ := boxes3 w n0 n1 false a0 a1 none l0 c0 l1 c1 0 0 t
  have hb := below_alloc (((w.alloc (.cells #[.bool n0, .slice a0 l0 c0] t)).alloc (.cells #[.bool n1, .slice a1 l1 c1] t)).alloc (.cells #[.bool false, .slice none 0 0] t)) (.cells #[.bool false, .slice none 0 0] t)
  refine ⟨h0.below hb, h1.below hb, h2.below hb, ?_, h3.trans (hb.mono h3.size)⟩
  have := Box2.new (((w.alloc (.cells #[.bool n0, .slice a0 l0 c0] t)).alloc (.cells #[.bool n1, .slice a1 l1 c1] t)).alloc (.cells #[.bool false, .slice none 0 0] t)) false none 0 0 t
  simpa using this

set_option maxRecDepth 100000 in
set_option maxHeartbeats 4000000 in
theorem rdiv_far (na nb : Bool) (ax ay : Option Addr) (nx cx ny cy : Nat) (xs ys : List Nat) (w : World) (hx : Sl .u32 w (.slice ax nx cx) xs) (hy : Sl .u32 w (.slice ay ny cy) ys) (ox : okw xs) (oy : okw ys) (bx : xs.length ≤ 1000000) (by_ : ys.length ≤ 1000000) (hf : pw 256 ≤ val xs ∨ pw 256 ≤ val ys) :
    Calls Try.prog 26 #[.agg #[.bool na, .slice ax nx cx], .agg #[.bool nb, .slice ay ny cy]] w fun e w' => e = .returned (.tuple #[.agg #[.bool false, .slice none 0 0], .agg #[.bool false, .slice none 0 0], .int .i64 3]) ∧ Below w.heap.size w w' := by
  have hbs := boxes4 w na nb ax ay nx cx ny cy 24
  go_enter Try.func26, Try.ntmps26
  go_wp2_with fail
  obtain ⟨W0, hW0⟩ : ∃ W0, (((w.alloc (.cells #[.bool na, .slice ax nx cx] 24)).alloc (.cells #[.bool nb, .slice ay ny cy] 24)).alloc (.cells #[.bool false, .slice none 0 0] 24)).alloc (.cells #[.bool false, .slice none 0 0] 24) = W0 := ⟨_, rfl⟩
  simp only [hW0] at hbs
  rw [hW0]
  clear hW0
  obtain ⟨hA, hB, hR, hS, hB0⟩ := hbs
  have hX := hx.below hB0
  have hY := hy.below hB0
  refine (rlong_any na ax nx cx xs W0 hX ox bx).mono ?_
  rintro e w1 ⟨rfl, hb1⟩
  replace hY := hY.below hb1
  replace hB := hB.below hb1
  replace hR := hR.below hb1
  replace hS := hS.below hb1
  replace hB0 : Below w.heap.size w w1 := hB0.trans (hb1.mono hB0.size)
  clear hb1 hx hy hX hA
  clear W0
  by_cases h1 : pw 256 ≤ val xs
  · have hd : decide (pw 256 ≤ val xs) = true := by simpa using h1
    rw [hd]
    have r0 := hR.c0
    have r1 := hR.c1
    have rf0 := hR.f0
    have rf1 := hR.f1
    have p0 := hS.putOther (M := w.heap.size + 1 + 1) (by omega) false (.slice none 0 0)
    have s0 := p0.c0
    have s1 := p0.c1
    have sf0 := p0.f0
    have sf1 := p0.f1
    have f1 := (hR.put false none 0 0).putOther (M := w.heap.size + 1 + 1 + 1) (by omega) false (.slice none 0 0)
    have f2 := p0.put false none 0 0
    have g0 := f1.c0
    have g1 := f1.c1
    have g2 := f2.c0
    have g3 := f2.c1
    have HB := below_put2 (N := w.heap.size + 1 + 1 + 1) (below_put2 (N := w.heap.size + 1 + 1) hB0 (by omega) false (.slice none 0 0)) (by omega) false (.slice none 0 0)
    unfold put2 at s0 s1 sf0 sf1 g0 g1 g2 g3
    clear hd h1 hf hB hY f1 f2 p0
    go_wp2
    refine bodyPost_ret (v := .tuple #[.agg #[.bool false, .slice none 0 0], .agg #[.bool false, .slice none 0 0], .int .i64 3]) ?_ rfl ⟨rfl, HB⟩
    simp [results, Try.f26, go_sem, g0, g1, g2, g3]
  · have hd : decide (pw 256 ≤ val xs) = false := by simpa using h1
    have h2 : pw 256 ≤ val ys := by rcases hf with h | h; exact absurd h h1; exact h
    rw [hd]
    have b0 := hB.c0
    have b1 := hB.c1
    clear hd
    go_wp2_with fail
    refine (rlong_any nb ay ny cy ys w1 hY oy by_).mono ?_
    rintro e w2 ⟨rfl, hb1⟩
    have hd : decide (pw 256 ≤ val ys) = true := by simpa using h2
    rw [hd]
    replace hR := hR.below hb1
    replace hS := hS.below hb1
    replace hB0 : Below w.heap.size w w2 := hB0.trans (hb1.mono hB0.size)
    clear hb1 b0 b1 hB hY
    clear w1
    have r0 := hR.c0
    have r1 := hR.c1
    have rf0 := hR.f0
    have rf1 := hR.f1
    have p0 := hS.putOther (M := w.heap.size + 1 + 1) (by omega) false (.slice none 0 0)
    have s0 := p0.c0
    have s1 := p0.c1
    have sf0 := p0.f0
    have sf1 := p0.f1
    have f1 := (hR.put false none 0 0).putOther (M := w.heap.size + 1 + 1 + 1) (by omega) false (.slice none 0 0)
    have f2 := p0.put false none 0 0
    have g0 := f1.c0
    have g1 := f1.c1
    have g2 := f2.c0
    have g3 := f2.c1
    have HB := below_put2 (N := w.heap.size + 1 + 1 + 1) (below_put2 (N := w.heap.size + 1 + 1) hB0 (by omega) false (.slice none 0 0)) (by omega) false (.slice none 0 0)
    unfold put2 at s0 s1 sf0 sf1 g0 g1 g2 g3
    clear hd h1 h2 hf f1 f2 p0
    go_wp2
    refine bodyPost_ret (v := .tuple #[.agg #[.bool false, .slice none 0 0], .agg #[.bool false, .slice none 0 0], .int .i64 3]) ?_ rfl ⟨rfl, HB⟩
    simp [results, Try.f26, go_sem, g0, g1, g2, g3]
end Go.Proofs.Yteplmnnpmekngaa
namespace Go.Proofs.Yteplmnnpmekngaa
open Go.RowKit

set_option maxRecDepth 100000 in
set_option maxHeartbeats 8000000 in
theorem rdiv_zero (na nb : Bool) (ax ay : Option Addr) (nx cx ny cy : Nat) (xs ys : List Nat) (w : World) (hx : Sl .u32 w (.slice ax nx cx) xs) (hy : Sl .u32 w (.slice ay ny cy) ys) (ox : okw xs) (oy : okw ys) (bx : xs.length ≤ 1000000) (by_ : ys.length ≤ 1000000) (hfx : ¬ pw 256 ≤ val xs) (hfy : ¬ pw 256 ≤ val ys) (h0 : val ys = 0) :
    Calls Try.prog 26 #[.agg #[.bool na, .slice ax nx cx], .agg #[.bool nb, .slice ay ny cy]] w fun e w' => e = .returned (.tuple #[.agg #[.bool false, .slice none 0 0], .agg #[.bool false, .slice none 0 0], .int .i64 2]) ∧ Below w.heap.size w w' := by
  have hbs := boxes4 w na nb ax ay nx cx ny cy 24
  go_enter Try.func26, Try.ntmps26
  go_wp2_with fail
  obtain ⟨W0, hW0⟩ : ∃ W0, (((w.alloc (.cells #[.bool na, .slice ax nx cx] 24)).alloc (.cells #[.bool nb, .slice ay ny cy] 24)).alloc (.cells #[.bool false, .slice none 0 0] 24)).alloc (.cells #[.bool false, .slice none 0 0] 24) = W0 := ⟨_, rfl⟩
  simp only [hW0] at hbs
  rw [hW0]
  clear hW0
  obtain ⟨hA, hB, hR, hS, hB0⟩ := hbs
  have hX := hx.below hB0
  have hY := hy.below hB0
  refine (rlong_any na ax nx cx xs W0 hX ox (by omega)).mono ?_
  rintro e w1 ⟨rfl, hb1⟩
  have hd : decide (pw 256 ≤ val xs) = false := by simpa using hfx
  rw [hd]
  replace hX := hX.below hb1
  replace hY := hY.below hb1
  replace hA := hA.below hb1
  replace hB := hB.below hb1
  replace hR := hR.below hb1
  replace hS := hS.below hb1
  replace hB0 : Below w.heap.size w w1 := hB0.trans (hb1.mono hB0.size)
  clear hb1
  clear hx hy hd
  clear W0
  have b0 := hB.c0
  have b1 := hB.c1
  go_wp2_with fail
  refine (rlong_any nb ay ny cy ys w1 hY oy (by omega)).mono ?_
  rintro e w2 ⟨rfl, hb1⟩
  have hd : decide (pw 256 ≤ val ys) = false := by simpa using hfy
  rw [hd]
  replace hX := hX.below hb1
  replace hY := hY.below hb1
  replace hA := hA.below hb1
  replace hB := hB.below hb1
  replace hR := hR.below hb1
  replace hS := hS.below hb1
  replace hB0 : Below w.heap.size w w2 := hB0.trans (hb1.mono hB0.size)
  clear hb1
  clear hd b0 b1
  clear w1
  have b0 := hA.c0
  have b1 := hA.c1
  go_wp2_with fail
  refine (rform_any na ax nx cx xs w2 hX ox (by omega)).mono ?_
  rintro e w3 ⟨n3, a3, l3, c3, rfl, hI3, hb1⟩
  replace hI3 := hI3.mono hB0.size
  replace hY := hY.below hb1
  replace hA := hA.below hb1
  replace hB := hB.below hb1
  replace hR := hR.below hb1
  replace hS := hS.below hb1
  replace hB0 : Below w.heap.size w w3 := hB0.trans (hb1.mono hB0.size)
  clear hb1
  clear b0 b1 hX
  clear w2
  have r0 := hA.c0
  have r1 := hA.c1
  have rf0 := hA.f0
  have rf1 := hA.f1
  have pB := hB.putOther (M := w.heap.size) (by omega) n3 (.slice a3 l3 c3)
  have b0 := pB.c0
  have b1 := pB.c1
  unfold put2 at b0 b1
  go_wp2_with fail
  clear r0 r1 rf0 rf1 b0 b1
  have hA4 := hA.put n3 a3 l3 c3
  have hR4 := hR.putOther (M := w.heap.size) (by omega) n3 (.slice a3 l3 c3)
  have hS4 := hS.putOther (M := w.heap.size) (by omega) n3 (.slice a3 l3 c3)
  have hY4 := hY.put hA n3 (.slice a3 l3 c3)
  have hI4 := hI3.put hA n3 (.slice a3 l3 c3)
  have hB4 := below_put2 (N := w.heap.size) hB0 (Nat.le_refl _) n3 (.slice a3 l3 c3)
  obtain ⟨w4, hw4⟩ : ∃ w4, (w3.setCell ⟨w.heap.size, 0, none⟩ (.bool n3)).setCell ⟨w.heap.size, 1, none⟩ (.slice a3 l3 c3) = w4 := ⟨_, rfl⟩
  have hw5 : put2 w3 w.heap.size n3 (.slice a3 l3 c3) = w4 := hw4
  rw [hw5] at hA4 hR4 hS4 hY4 hI4 hB4 pB
  rw [hw4]
  clear hw4 hw5 hI3 hA hB hR hS hY hB0
  clear w3
  refine (rform_any nb ay ny cy ys w4 hY4 oy (by omega)).mono ?_
  rintro e w5 ⟨n6, a6, l6, c6, rfl, hI6, hb1⟩
  replace hI6 := hI6.mono hB4.size
  replace hA4 := hA4.below hb1
  replace hR4 := hR4.below hb1
  replace hS4 := hS4.below hb1
  replace hI4 := hI4.below hb1
  replace pB := pB.below hb1
  replace hB4 : Below w.heap.size w w5 := hB4.trans (hb1.mono hB4.size)
  clear hb1 hY4
  clear w4
  have r0 := pB.c0
  have r1 := pB.c1
  have rf0 := pB.f0
  have rf1 := pB.f1
  have hA := hA4.putOther (M := w.heap.size + 1) (by omega) n6 (.slice a6 l6 c6)
  have hB := pB.put n6 a6 l6 c6
  have hR := hR4.putOther (M := w.heap.size + 1) (by omega) n6 (.slice a6 l6 c6)
  have hS := hS4.putOther (M := w.heap.size + 1) (by omega) n6 (.slice a6 l6 c6)
  have hI := hI4.put pB n6 (.slice a6 l6 c6)
  have hJ := hI6.put pB n6 (.slice a6 l6 c6)
  have hB0 := below_put2 (N := w.heap.size + 1) hB4 (by omega) n6 (.slice a6 l6 c6)
  go_upto_region 5 with fail
  clear r0 r1 rf0 rf1
  obtain ⟨w6, hw4⟩ : ∃ w4, (w5.setCell ⟨w.heap.size + 1, 0, none⟩ (.bool n6)).setCell ⟨w.heap.size + 1, 1, none⟩ (.slice a6 l6 c6) = w4 := ⟨_, rfl⟩
  have hw5 : put2 w5 (w.heap.size + 1) n6 (.slice a6 l6 c6) = w6 := hw4
  rw [hw5] at hA hB hR hS hI hJ hB0
  rw [hw4]
  clear hw4 hw5 hA4 hR4 hS4 hI4 hI6 hB4 pB
  clear w5
  obtain ⟨ys', oY, _, fm, ez⟩ := hJ.open
  obtain ⟨hvy, _⟩ := zv_eq ez
  have hl : ys'.length = 0 := (Tr_zero fm.tr).1 (by omega)
  have len := oY.len
  obtain rfl : l6 = 0 := by omega
  clear ez fm len hl hvy oY hI hJ hA
  have k0 := hB.c0
  have k1 := hB.c1
  have r0 := hR.c0
  have r1 := hR.c1
  have rf0 := hR.f0
  have rf1 := hR.f1
  have p0 := hS.putOther (M := w.heap.size + 1 + 1) (by omega) false (.slice none 0 0)
  have s0 := p0.c0
  have s1 := p0.c1
  have sf0 := p0.f0
  have sf1 := p0.f1
  have f1 := (hR.put false none 0 0).putOther (M := w.heap.size + 1 + 1 + 1) (by omega) false (.slice none 0 0)
  have f2 := p0.put false none 0 0
  have g0 := f1.c0
  have g1 := f1.c1
  have g2 := f2.c0
  have g3 := f2.c1
  have HB := below_put2 (N := w.heap.size + 1 + 1 + 1) (below_put2 (N := w.heap.size + 1 + 1) hB0 (by omega) false (.slice none 0 0)) (by omega) false (.slice none 0 0)
  unfold put2 at s0 s1 sf0 sf1 g0 g1 g2 g3
  clear hfx hfy h0 f1 f2 p0
  go_wp2
  refine bodyPost_ret (v := .tuple #[.agg #[.bool false, .slice none 0 0], .agg #[.bool false, .slice none 0 0], .int .i64 2]) ?_ rfl ⟨rfl, HB⟩
  simp [results, Try.f26, go_sem, g0, g1, g2, g3]
end Go.Proofs.Yteplmnnpmekngaa
