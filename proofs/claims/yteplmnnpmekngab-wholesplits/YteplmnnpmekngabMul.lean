/-
  What Mul does.
-/
import Derived.Test.YteplmnnpmekngabMulW
namespace Go.Proofs.Yteplmnnpmekngab
open Go.RowKit

theorem zv_mul (a b : Bool) (x y : Nat) : zv (a != b) (x * y) = zv a x * zv b y := by
  unfold zv; cases a <;> cases b <;> simp [Int.mul_neg, Int.neg_mul]

set_option maxRecDepth 100000 in
set_option maxHeartbeats 2000000 in
theorem mul_any (na nb : Bool) (ax ay : Option Addr) (nx cx ny cy : Nat) (xs ys : List Nat) (w : World) (hx : Sl .u32 w (.slice ax nx cx) xs) (hy : Sl .u32 w (.slice ay ny cy) ys) (ox : okw xs) (oy : okw ys)
    (bx : xs.length ≤ 1000000) (by_ : ys.length ≤ 1000000) :
    Calls Try.prog 26 #[.agg #[.bool na, .slice ax nx cx], .agg #[.bool nb, .slice ay ny cy]] w fun e w' => ∃ neg a n cap k, e = .returned (.tuple #[.agg #[.bool neg, .slice a n cap], .int .i64 k]) ∧ SumRes w.heap.size w' (.agg #[.bool neg, .slice a n cap]) k (val xs) (val ys) (zv na (val xs) * zv nb (val ys)) ∧ Below w.heap.size w w' := by
  go_enter Try.func26, Try.ntmps26
  go_wp2_with fail
  obtain ⟨W0, hW0⟩ : ∃ W0, ((w.alloc (.cells #[.bool na, .slice ax nx cx] 24)).alloc (.cells #[.bool nb, .slice ay ny cy] 24)).alloc (.cells #[.bool false, .slice none 0 0] 24) = W0 := ⟨_, rfl⟩
  have hB0 : Below w.heap.size w W0 := by rw [← hW0]; exact (((Below.refl w.heap.size w).alloc (Nat.le_refl _) _).alloc (by simp) _).alloc (by simp; omega) _
  have hA : Box2 W0 w.heap.size na ax nx cx := by rw [← hW0]; exact ((Box2.new w na ax nx cx _).below ((Below.refl _ _).alloc (Nat.le_refl _) _)).below ((Below.refl _ _).alloc (Nat.le_refl _) _)
  have hB : Box2 W0 (w.heap.size + 1) nb ay ny cy := by
    have := (Box2.new (w.alloc (.cells #[.bool na, .slice ax nx cx] 24)) nb ay ny cy 24).below ((Below.refl _ _).alloc (Nat.le_refl _) (.cells #[.bool false, .slice none 0 0] 24))
    rw [hW0] at this
    simpa using this
  have hR : Box2 W0 (w.heap.size + 1 + 1) false none 0 0 := by
    have := Box2.new ((w.alloc (.cells #[.bool na, .slice ax nx cx] 24)).alloc (.cells #[.bool nb, .slice ay ny cy] 24)) false none 0 0 24
    rw [hW0] at this
    simpa using this
  rw [hW0]
  clear hW0
  have hx0 := hx.below hB0
  have hy0 := hy.below hB0
  have a0 := hA.c0
  have a1 := hA.c1
  have b0 := hB.c0
  have b1 := hB.c1
  go_region_held3 (fun W => (W.cell? ⟨w.heap.size, 0, none⟩ = some (.bool na) ∧ W.cell? ⟨w.heap.size, 1, none⟩ = some (.slice ax nx cx) ∧ W.cell? ⟨w.heap.size + 1, 0, none⟩ = some (.bool nb) ∧ W.cell? ⟨w.heap.size + 1, 1, none⟩ = some (.slice ay ny cy)) ∧ Below W0.heap.size W0 W)
    (first | exact S4.start a0 a1 b0 b1 | exact S4.keep (by assumption) (Below.refl _ _))
    (first | (go_at_call_of 20 (Value.slice ax nx cx); refine (trim_any ax nx cx xs _ (hx0.below (S4.below (by assumption))) bx).mono ?_; rintro e w' ⟨rfl, rfl⟩)
           | (go_at_call_of 20 (Value.slice ay ny cy); refine (trim_any ay ny cy ys _ (hy0.below (S4.below (by assumption))) by_).mono ?_; rintro e w' ⟨rfl, rfl⟩))
  have hS : S4 W0 ⟨w.heap.size, 0, none⟩ ⟨w.heap.size, 1, none⟩ ⟨w.heap.size + 1, 0, none⟩ ⟨w.heap.size + 1, 1, none⟩ (.bool na) (.slice ax nx cx) (.bool nb) (.slice ay ny cy) W0.drew := by assumption
  have hX := (hx0.below below_drew).trimmed
  have hY := (hy0.below below_drew).trimmed
  have hA1 := hA.below below_drew
  have hBb1 := hB.below below_drew
  have hR1 := hR.below below_drew
  have hB1 : Below w.heap.size w W0.drew := hB0.drew
  have oX := okw_trimL ox
  have oY := okw_trimL oy
  have tX := Tr_trimL xs
  have tY := Tr_trimL ys
  have lX := trimL_length xs
  have lY := trimL_length ys
  have vX := val_trimL xs
  have vY := val_trimL ys
  have kX := trimL_le xs
  have kY := trimL_le ys
  obtain ⟨X, eX⟩ : ∃ X, trimL xs = X := ⟨_, rfl⟩
  obtain ⟨Y, eY⟩ : ∃ Y, trimL ys = Y := ⟨_, rfl⟩
  rw [eX] at hX oX tX lX vX kX
  rw [eY] at hY oY tY lY vY kY
  rw [← lX, ← lY] at *
  have HX : Hid (val X = val xs) := vX
  have HY : Hid (val Y = val ys) := vY
  have hlx := len_le_iff tX oX 256
  have hly := len_le_iff tY oY 256
  clear eX eY vX vY lX lY hx hy hx0 hy0 hS hA hB hR a0 a1 b0 b1 hB0 ox oy bx by_
  rename_i hHeld
  clear hHeld
  generalize W0.drew = W1 at *
  clear W0
  have a0 := hA1.c0
  have r0 := hR1.c0
  have r1 := hR1.c1
  have rf0 := hR1.f0
  have rf1 := hR1.f1
  by_cases h1 : 256 < X.length
  · have hd : decide (256 < X.length) = true := by simpa using h1
    have HZ : Hid (pw 256 ≤ val xs ∨ pw 256 ≤ val ys) := Or.inl (by rw [← HX.out]; omega)
    clear hlx hly h1
    have hfin := hR1.put false none 0 0
    have hg0 := hfin.c0
    have hg1 := hfin.c1
    unfold put2 at hg0 hg1
    go_wp2_with (go_at_call 21; refine (isLong_any _ _ _ _).mono ?_; rintro e W1 ⟨rfl, rfl⟩)
    refine bodyPost_ret (v := .tuple #[.agg #[.bool false, .slice none 0 0], .int .i64 3]) ?_ rfl ⟨_, _, _, _, _, rfl, Or.inl ⟨HZ.out, rfl, rfl⟩, below_put2 (N := w.heap.size + 1 + 1) hB1 (by omega) false (.slice none 0 0)⟩
    simp [results, Try.f26, go_sem, hg0, hg1]
  by_cases h2 : 256 < Y.length
  · have hd : decide (256 < Y.length) = true := by simpa using h2
    have hd1 : decide (256 < X.length) = false := by simpa using h1
    have HZ : Hid (pw 256 ≤ val xs ∨ pw 256 ≤ val ys) := Or.inr (by rw [← HY.out]; omega)
    clear hlx hly h1 h2
    have hfin := hR1.put false none 0 0
    have hg0 := hfin.c0
    have hg1 := hfin.c1
    unfold put2 at hg0 hg1
    go_wp2_with (go_at_call 21; refine (isLong_any _ _ _ _).mono ?_; rintro e W1 ⟨rfl, rfl⟩)
    refine bodyPost_ret (v := .tuple #[.agg #[.bool false, .slice none 0 0], .int .i64 3]) ?_ rfl ⟨_, _, _, _, _, rfl, Or.inl ⟨HZ.out, rfl, rfl⟩, below_put2 (N := w.heap.size + 1 + 1) hB1 (by omega) false (.slice none 0 0)⟩
    simp [results, Try.f26, go_sem, hg0, hg1]
  have HZ : Hid (val xs < pw 256 ∧ val ys < pw 256) := ⟨by rw [← HX.out]; omega, by rw [← HY.out]; omega⟩
  have hd1 : decide (256 < X.length) = false := by simpa using h1
  have hd2 : decide (256 < Y.length) = false := by simpa using h2
  clear hlx hly kX kY
  have hb1' := hBb1.c0
  go_wp2_with (go_at_call 21; refine (isLong_any _ _ _ _).mono ?_; rintro e W1 ⟨rfl, rfl⟩)
  go_region_held3 (fun W => W.cell? ⟨w.heap.size, 0, none⟩ = some (.bool na) ∧ W.cell? ⟨w.heap.size + 1, 0, none⟩ = some (.bool nb))
    (first | exact ⟨a0, hb1'⟩ | (have hh : _ ∧ _ := (by assumption); exact ⟨cell_below hh.1 (by assumption), cell_below hh.2 (by assumption)⟩) | (have hh : _ ∧ _ := (by assumption); exact ⟨((World.cell?_setCell_other _ _ _ _ (by intro e; injection e with e; omega)).trans ((World.cell?_setCell_other _ _ _ _ (by intro e; injection e with e; omega)).trans hh.1)), ((World.cell?_setCell_other _ _ _ _ (by intro e; injection e with e; omega)).trans ((World.cell?_setCell_other _ _ _ _ (by intro e; injection e with e; omega)).trans hh.2))⟩))
    (first | (go_at_call 39; refine (mulWords_any ax ay _ cx _ cy X Y _ (hX.below below_drew) (hY.below below_drew) (by omega) (by omega) oX oY).mono ?_; rintro e w2 ⟨a2, m2, c2, rfl, hm2, ⟨Z, hZ, oZ, tZ, vZ⟩, hb2⟩; have HVZ : Hid (val Z = val X * val Y) := vZ; have hlZ : Z.length ≤ 100001 := (by have := hZ.len; omega); have hR2 := (hR1.below below_drew).below hb2; clear vZ)
           | (go_at_call 38; refine (checked_any (na != nb) a2 m2 c2 _ Z _ hZ oZ (by omega)).mono ?_; rintro e w3 ⟨v3, k3, rfl, hres, hb3⟩; obtain ⟨n3, a3, l3, c3, ev3⟩ := hres.form; subst ev3; have hR3 := hR2.below hb3; have s0 := hR3.c0; have s1 := hR3.c1; have sf0 := hR3.f0; have sf1 := hR3.f1))
  have hBs : w.heap.size ≤ W1.drew.heap.size := hB1.size
  have hBw : Below w.heap.size w w2 := hB1.drew.trans (hb2.mono hBs)
  have hfin := hR3.put n3 a3 l3 c3
  have hg0 := hfin.c0
  have hg1 := hfin.c1
  unfold put2 at hg0 hg1
  go_wp2
  refine bodyPost_ret (v := .tuple #[.agg #[.bool n3, .slice a3 l3 c3], .int .i64 k3]) ?_ rfl ⟨_, _, _, _, _, rfl, Or.inr ⟨HZ.out, ?_⟩, below_put2 (N := w.heap.size + 1 + 1) (hBw.trans (hb3.mono hBw.size)) (by omega) n3 (.slice a3 l3 c3)⟩
  · simp [results, Try.f26, go_sem, hg0, hg1]
  · have hr := (hres.mono hBs).put hR3 n3 (.slice a3 l3 c3)
    rw [HVZ.out, zv_mul, HX.out, HY.out] at hr
    exact hr
end Go.Proofs.Yteplmnnpmekngab
