/-
  What sum does: a and b's size together, the latter below 0 if asked.
-/
import Derived.Test.YteplmnnpmekngabSubt
namespace Go.Proofs.Yteplmnnpmekngab
open Go.RowKit

/-- Four cells hold what they held; what W0 had stands. -/
abbrev S4 (W0 : World) (p0 p1 p2 p3 : Addr) (v0 v1 v2 v3 : Value) (W : World) : Prop :=
  (W.cell? p0 = some v0 ∧ W.cell? p1 = some v1 ∧ W.cell? p2 = some v2 ∧ W.cell? p3 = some v3) ∧ Below W0.heap.size W0 W
theorem S4.start {W0 : World} {p0 p1 p2 p3 : Addr} {v0 v1 v2 v3 : Value} (h0 : W0.cell? p0 = some v0) (h1 : W0.cell? p1 = some v1) (h2 : W0.cell? p2 = some v2) (h3 : W0.cell? p3 = some v3) : S4 W0 p0 p1 p2 p3 v0 v1 v2 v3 W0.drew :=
  ⟨⟨h0, h1, h2, h3⟩, (Below.refl _ _).drew⟩
theorem cell_below {W W' : World} {p : Addr} {v : Value} (h : W.cell? p = some v) (hb : Below W.heap.size W W') : W'.cell? p = some v := (hb.cell (World.block_lt_of_cell? _ _ h)).trans h
theorem S4.keep {W0 W W' : World} {p0 p1 p2 p3 : Addr} {v0 v1 v2 v3 : Value} (h : S4 W0 p0 p1 p2 p3 v0 v1 v2 v3 W) (hb : Below W.heap.size W W') : S4 W0 p0 p1 p2 p3 v0 v1 v2 v3 W' :=
  ⟨⟨cell_below h.1.1 hb, cell_below h.1.2.1 hb, cell_below h.1.2.2.1 hb, cell_below h.1.2.2.2 hb⟩, h.2.trans (hb.mono h.2.size)⟩
theorem S4.below {W0 W : World} {p0 p1 p2 p3 : Addr} {v0 v1 v2 v3 : Value} (h : S4 W0 p0 p1 p2 p3 v0 v1 v2 v3 W) : Below W0.heap.size W0 W := h.2

theorem Res.form {B : Nat} {w : World} {v : Value} {k z : Int} (h : Res B w v k z) : ∃ neg a n cap, v = .agg #[.bool neg, .slice a n cap] := by
  rcases h with ⟨_, _, neg, a, n, cap, xs, e, _⟩ | ⟨_, _, e⟩
  · exact ⟨neg, a, n, cap, e⟩
  · exact ⟨false, none, 0, 0, e⟩
theorem Res.put {B : Nat} {w : World} {v : Value} {k z : Int} (h : Res B w v k z) {N : Nat} {neg : Bool} {a : Option Addr} {n cap : Nat} (hb : Box2 w N neg a n cap) (x : Bool) (s : Value) : Res B (put2 w N x s) v k z := by
  rcases h with ⟨h1, h2, h3⟩ | h
  · exact Or.inl ⟨h1, h2, h3.put hb x s⟩
  · exact Or.inr h
theorem Res.mono {B B' : Nat} {w : World} {v : Value} {k z : Int} (h : Res B w v k z) (hB : B' ≤ B) : Res B' w v k z := by
  rcases h with ⟨h1, h2, h3⟩ | h
  · exact Or.inl ⟨h1, h2, h3.mono hB⟩
  · exact Or.inr h
theorem zv_same (a : Bool) (x y : Nat) : zv a (x + y) = zv a x + zv a y := by
  unfold zv; split <;> omega
theorem zv_less (a m : Bool) (x y : Nat) (h : (a == m) = false) (hxy : x < y) : zv m (y - x) = zv a x + zv m y := by
  unfold zv; cases a <;> cases m <;> simp at h ⊢ <;> omega
theorem zv_more (a m : Bool) (x y : Nat) (h : (a == m) = false) (hxy : y ≤ x) : zv a (x - y) = zv a x + zv m y := by
  unfold zv; cases a <;> cases m <;> simp at h ⊢ <;> omega
theorem Tr_len_of_le {xs ys : List Nat} (ty : Tr ys) (ox : okw xs) (h : val ys ≤ val xs) : ys.length ≤ xs.length := by
  refine Nat.le_of_not_lt fun hl => ?_
  have := Tr_len_lt ty ox hl
  omega

set_option maxRecDepth 100000 in
set_option maxHeartbeats 2000000 in
theorem sum_any (na nb m : Bool) (ax ay : Option Addr) (nx cx ny cy : Nat) (xs ys : List Nat) (w : World) (hx : Sl .u32 w (.slice ax nx cx) xs) (hy : Sl .u32 w (.slice ay ny cy) ys) (ox : okw xs) (oy : okw ys)
    (bx : xs.length ≤ 1000000) (by_ : ys.length ≤ 1000000) :
    Calls Try.prog 30 #[.agg #[.bool na, .slice ax nx cx], .agg #[.bool nb, .slice ay ny cy], .bool m] w fun e w' => ∃ v k, e = .returned (.tuple #[v, .int .i64 k]) ∧ ((pw 256 ≤ val xs ∨ pw 256 ≤ val ys) ∧ k = 3 ∧ v = .agg #[.bool false, .slice none 0 0] ∨ (val xs < pw 256 ∧ val ys < pw 256) ∧ Res w.heap.size w' v k (zv na (val xs) + zv m (val ys))) ∧ Below w.heap.size w w' := by
  go_enter Try.func30, Try.ntmps30
  go_wp2_with fail
  obtain ⟨W0, hW0⟩ : ∃ W0, ((w.alloc (.cells #[.bool na, .slice ax nx cx] 24)).alloc (.cells #[.bool nb, .slice ay ny cy] 24)).alloc (.cells #[.bool false, .slice none 0 0] 24) = W0 := ⟨_, rfl⟩
  have hB0 : Below w.heap.size w W0 := by rw [← hW0]; exact (((Below.refl w.heap.size w).alloc (Nat.le_refl _) _).alloc (by simp) _).alloc (by simp; omega) _
  have hA : Box2 W0 w.heap.size na ax nx cx := by rw [← hW0]; exact ((Box2.new w na ax nx cx _).below ((Below.refl _ _).alloc (Nat.le_refl _) _)).below ((Below.refl _ _).alloc (Nat.le_refl _) _)
  have hB : Box2 W0 (w.heap.size + 1) nb ay ny cy := by
    have := (Box2.new (w.alloc (.cells #[.bool na, .slice ax nx cx] 24)) nb ay ny cy 24).below ((Below.refl _ _).alloc (Nat.le_refl _) (.cells #[.bool false, .slice none 0 0] 24))
    rw [hW0] at this
    simpa using this
  have hR : Box2 W0 (w.heap.size + 1 + 1) false none 0 0 := by
    have := Box2.new ((w.alloc (.cells #[.bool na, .slice ax nx cx] 24)).alloc (.cells #[.bool nb, .slice ay ny cy] 24)) false none 0 0 24
    rw [hW0] at this
    simpa using this
  rw [hW0]
  clear hW0
  have hx0 := hx.below hB0
  have hy0 := hy.below hB0
  have a0 := hA.c0
  have a1 := hA.c1
  have b0 := hB.c0
  have b1 := hB.c1
  go_region_held3 (fun W => (W.cell? ⟨w.heap.size, 0, none⟩ = some (.bool na) ∧ W.cell? ⟨w.heap.size, 1, none⟩ = some (.slice ax nx cx) ∧ W.cell? ⟨w.heap.size + 1, 0, none⟩ = some (.bool nb) ∧ W.cell? ⟨w.heap.size + 1, 1, none⟩ = some (.slice ay ny cy)) ∧ Below W0.heap.size W0 W)
    (first | exact S4.start a0 a1 b0 b1 | exact S4.keep (by assumption) (Below.refl _ _))
    (first | (go_at_call_of 20 (Value.slice ax nx cx); refine (trim_any ax nx cx xs _ (hx0.below (S4.below (by assumption))) bx).mono ?_; rintro e w' ⟨rfl, rfl⟩)
           | (go_at_call_of 20 (Value.slice ay ny cy); refine (trim_any ay ny cy ys _ (hy0.below (S4.below (by assumption))) by_).mono ?_; rintro e w' ⟨rfl, rfl⟩))
  have hS : S4 W0 ⟨w.heap.size, 0, none⟩ ⟨w.heap.size, 1, none⟩ ⟨w.heap.size + 1, 0, none⟩ ⟨w.heap.size + 1, 1, none⟩ (.bool na) (.slice ax nx cx) (.bool nb) (.slice ay ny cy) W0.drew := by assumption
  have hX := (hx0.below below_drew).trimmed
  have hY := (hy0.below below_drew).trimmed
  have hA1 := hA.below below_drew
  have hR1 := hR.below below_drew
  have hB1 : Below w.heap.size w W0.drew := hB0.drew
  have oX := okw_trimL ox
  have oY := okw_trimL oy
  have tX := Tr_trimL xs
  have tY := Tr_trimL ys
  have lX := trimL_length xs
  have lY := trimL_length ys
  have vX := val_trimL xs
  have vY := val_trimL ys
  have kX := trimL_le xs
  have kY := trimL_le ys
  obtain ⟨X, eX⟩ : ∃ X, trimL xs = X := ⟨_, rfl⟩
  obtain ⟨Y, eY⟩ : ∃ Y, trimL ys = Y := ⟨_, rfl⟩
  rw [eX] at hX oX tX lX vX kX
  rw [eY] at hY oY tY lY vY kY
  rw [← lX, ← lY] at *
  have HX : Hid (val X = val xs) := vX
  have HY : Hid (val Y = val ys) := vY
  have hlx := len_le_iff tX oX 256
  have hly := len_le_iff tY oY 256
  clear eX eY vX vY lX lY hx hy hx0 hy0 hS hA hB hR a0 a1 b0 b1 hB0 ox oy bx by_
  rename_i hHeld
  clear hHeld
  generalize W0.drew = W1 at *
  clear W0
  have a0 := hA1.c0
  have r0 := hR1.c0
  have r1 := hR1.c1
  have rf0 := hR1.f0
  have rf1 := hR1.f1
  by_cases h1 : 256 < X.length
  · have hd : decide (256 < X.length) = true := by simpa using h1
    have HZ : Hid (pw 256 ≤ val xs ∨ pw 256 ≤ val ys) := Or.inl (by rw [← HX.out]; omega)
    clear hlx hly h1
    have hfin := hR1.put false none 0 0
    have hg0 := hfin.c0
    have hg1 := hfin.c1
    unfold put2 at hg0 hg1
    go_wp2_with (go_at_call 21; refine (isLong_any _ _ _ _).mono ?_; rintro e W1 ⟨rfl, rfl⟩)
    refine bodyPost_ret (v := .tuple #[.agg #[.bool false, .slice none 0 0], .int .i64 3]) ?_ rfl ⟨_, _, rfl, Or.inl ⟨HZ.out, rfl, rfl⟩, below_put2 (N := w.heap.size + 1 + 1) hB1 (by omega) false (.slice none 0 0)⟩
    simp [results, Try.f30, go_sem, hg0, hg1]
  by_cases h2 : 256 < Y.length
  · have hd : decide (256 < Y.length) = true := by simpa using h2
    have hd1 : decide (256 < X.length) = false := by simpa using h1
    have HZ : Hid (pw 256 ≤ val xs ∨ pw 256 ≤ val ys) := Or.inr (by rw [← HY.out]; omega)
    clear hlx hly h1 h2
    have hfin := hR1.put false none 0 0
    have hg0 := hfin.c0
    have hg1 := hfin.c1
    unfold put2 at hg0 hg1
    go_wp2_with (go_at_call 21; refine (isLong_any _ _ _ _).mono ?_; rintro e W1 ⟨rfl, rfl⟩)
    refine bodyPost_ret (v := .tuple #[.agg #[.bool false, .slice none 0 0], .int .i64 3]) ?_ rfl ⟨_, _, rfl, Or.inl ⟨HZ.out, rfl, rfl⟩, below_put2 (N := w.heap.size + 1 + 1) hB1 (by omega) false (.slice none 0 0)⟩
    simp [results, Try.f30, go_sem, hg0, hg1]
  have HZ : Hid (val xs < pw 256 ∧ val ys < pw 256) := ⟨by rw [← HX.out]; omega, by rw [← HY.out]; omega⟩
  have hd1 : decide (256 < X.length) = false := by simpa using h1
  have hd2 : decide (256 < Y.length) = false := by simpa using h2
  clear hlx hly kX kY
  by_cases hnm : (na == m) = true
  · obtain rfl : na = m := by simpa using hnm
    go_wp2_with (go_at_call 21; refine (isLong_any _ _ _ _).mono ?_; rintro e W1 ⟨rfl, rfl⟩)
    go_region_held3 (fun W => W.cell? ⟨w.heap.size, 0, none⟩ = some (.bool na))
      (first | exact a0 | exact cell_below (by assumption) (by assumption) | exact ((World.cell?_setCell_other _ _ _ _ (by intro e; injection e with e; omega)).trans ((World.cell?_setCell_other _ _ _ _ (by intro e; injection e with e; omega)).trans (by assumption))))
      (first | (go_at_call 24; refine (addWords_any ax ay _ cx _ cy X Y _ (hX.below below_drew) (hY.below below_drew) (by omega) (by omega) oX oY).mono ?_; rintro e w2 ⟨a2, m2, c2, rfl, hm2, ⟨Z, hZ, oZ, tZ, vZ⟩, hb2⟩; have HVZ : Hid (val Z = val X + val Y) := vZ; have hlZ : Z.length ≤ 100001 := (by have := hZ.len; omega); have hR2 := (hR1.below below_drew).below hb2; clear vZ)
             | (go_at_call 38; refine (checked_any na a2 m2 c2 _ Z _ hZ oZ (by omega)).mono ?_; rintro e w3 ⟨v3, k3, rfl, hres, hb3⟩; obtain ⟨n3, a3, l3, c3, ev3⟩ := hres.form; subst ev3; have hR3 := hR2.below hb3; have s0 := hR3.c0; have s1 := hR3.c1; have sf0 := hR3.f0; have sf1 := hR3.f1))
    have hBs : w.heap.size ≤ W1.drew.heap.size := hB1.size
    have hBw : Below w.heap.size w w2 := hB1.drew.trans (hb2.mono hBs)
    have hfin := hR3.put n3 a3 l3 c3
    have hg0 := hfin.c0
    have hg1 := hfin.c1
    unfold put2 at hg0 hg1
    go_wp2
    refine bodyPost_ret (v := .tuple #[.agg #[.bool n3, .slice a3 l3 c3], .int .i64 k3]) ?_ rfl ⟨_, _, rfl, Or.inr ⟨HZ.out, ?_⟩, below_put2 (N := w.heap.size + 1 + 1) (hBw.trans (hb3.mono hBw.size)) (by omega) n3 (.slice a3 l3 c3)⟩
    · simp [results, Try.f30, go_sem, hg0, hg1]
    · have hr := (hres.mono hBs).put hR3 n3 (.slice a3 l3 c3)
      rw [HVZ.out, zv_same, HX.out, HY.out] at hr
      exact hr
  · have hnm' : (na == m) = false := by simpa using hnm
    clear hnm
    by_cases hlt : val X < val Y
    · have hcv : cmpN (val X) (val Y) = -1 := by simp [cmpN, hlt]
      have HC : Hid (cmpN (val X) (val Y) = -1) := hcv
      clear hcv
      go_wp2_with (first
        | (go_at_call 21; refine (isLong_any _ _ _ _).mono ?_; rintro e W1 ⟨rfl, rfl⟩)
        | (go_at_call 19; refine (cmpw_any ax ay X.length cx Y.length cy X Y _ hX hY oX oY tX tY (by omega)).mono ?_; rw [HC.out]; rintro e w1 ⟨rfl, hb1⟩; have hX1 := hX.below hb1; have hY1 := hY.below hb1; have hBa : Below w.heap.size w w1 := hB1.trans (hb1.mono hB1.size); have hRa := hR1.below hb1)
        | (go_at_call 25; refine (subWords_any ay ax _ cy _ cx Y X _ hY1 hX1 (by omega) (Tr_len_of_le tX oY (by omega)) (by omega) oY oX).mono ?_; rintro e w2 ⟨a2, m2, c2, rfl, hm2, ⟨Z, hZ, oZ, tZ, vZ⟩, hb2⟩; have HVZ : Hid (val Z = val Y - val X) := vZ; have hlZ : Z.length ≤ 100001 := (by have := hZ.len; omega); have hR2 := hRa.below hb2; clear vZ)
        | (go_at_call 38; refine (checked_any m a2 m2 c2 _ Z _ hZ oZ (by omega)).mono ?_; rintro e w3 ⟨v3, k3, rfl, hres, hb3⟩; obtain ⟨n3, a3, l3, c3, ev3⟩ := hres.form; subst ev3; have hR3 := hR2.below hb3; have s0 := hR3.c0; have s1 := hR3.c1; have sf0 := hR3.f0; have sf1 := hR3.f1))
      have hBs : w.heap.size ≤ w1.heap.size := hBa.size
      have hBw : Below w.heap.size w w2 := hBa.trans (hb2.mono hBs)
      have hfin := hR3.put n3 a3 l3 c3
      have hg0 := hfin.c0
      have hg1 := hfin.c1
      unfold put2 at hg0 hg1
      refine bodyPost_ret (v := .tuple #[.agg #[.bool n3, .slice a3 l3 c3], .int .i64 k3]) ?_ rfl ⟨_, _, rfl, Or.inr ⟨HZ.out, ?_⟩, below_put2 (N := w.heap.size + 1 + 1) (hBw.trans (hb3.mono hBw.size)) (by omega) n3 (.slice a3 l3 c3)⟩
      · simp [results, Try.f30, go_sem, hg0, hg1]
      · have hr := (hres.mono hBs).put hR3 n3 (.slice a3 l3 c3)
        rw [HVZ.out, zv_less na m _ _ hnm' hlt, HX.out, HY.out] at hr
        exact hr
    · have hge : val Y ≤ val X := by omega
      have hcv : decide (cmpN (val X) (val Y) < 0) = false := by
        have : ¬ cmpN (val X) (val Y) < 0 := by unfold cmpN; rw [if_neg hlt]; split <;> omega
        simpa using this
      obtain ⟨cv, ecv⟩ : ∃ cv, cmpN (val X) (val Y) = cv := ⟨_, rfl⟩
      rw [ecv] at hcv
      have HC : Hid (cmpN (val X) (val Y) = cv) := ecv
      clear ecv
      go_wp2_with (first
        | (go_at_call 21; refine (isLong_any _ _ _ _).mono ?_; rintro e W1 ⟨rfl, rfl⟩)
        | (go_at_call 19; refine (cmpw_any ax ay X.length cx Y.length cy X Y _ hX hY oX oY tX tY (by omega)).mono ?_; rw [HC.out]; rintro e w1 ⟨rfl, hb1⟩; have hX1 := hX.below hb1; have hY1 := hY.below hb1; have hBa : Below w.heap.size w w1 := hB1.trans (hb1.mono hB1.size); have hRa := hR1.below hb1; have a0' := cell_below a0 hb1))
      go_region_held3 (fun W => W.cell? ⟨w.heap.size, 0, none⟩ = some (.bool na))
        (first | exact a0' | exact cell_below (by assumption) (by assumption) | exact ((World.cell?_setCell_other _ _ _ _ (by intro e; injection e with e; omega)).trans ((World.cell?_setCell_other _ _ _ _ (by intro e; injection e with e; omega)).trans (by assumption))))
        (first | (go_at_call 25; refine (subWords_any ax ay _ cx _ cy X Y _ (hX1.below below_drew) (hY1.below below_drew) (by omega) (Tr_len_of_le tY oX hge) hge oX oY).mono ?_; rintro e w2 ⟨a2, m2, c2, rfl, hm2, ⟨Z, hZ, oZ, tZ, vZ⟩, hb2⟩; have HVZ : Hid (val Z = val X - val Y) := vZ; have hlZ : Z.length ≤ 100001 := (by have := hZ.len; omega); have hR2 := (hRa.below below_drew).below hb2; clear vZ)
               | (go_at_call 38; refine (checked_any na a2 m2 c2 _ Z _ hZ oZ (by omega)).mono ?_; rintro e w3 ⟨v3, k3, rfl, hres, hb3⟩; obtain ⟨n3, a3, l3, c3, ev3⟩ := hres.form; subst ev3; have hR3 := hR2.below hb3; have s0 := hR3.c0; have s1 := hR3.c1; have sf0 := hR3.f0; have sf1 := hR3.f1))
      have hBs : w.heap.size ≤ w1.drew.heap.size := hBa.size
      have hBw : Below w.heap.size w w2 := hBa.drew.trans (hb2.mono hBs)
      have hfin := hR3.put n3 a3 l3 c3
      have hg0 := hfin.c0
      have hg1 := hfin.c1
      unfold put2 at hg0 hg1
      go_wp2
      refine bodyPost_ret (v := .tuple #[.agg #[.bool n3, .slice a3 l3 c3], .int .i64 k3]) ?_ rfl ⟨_, _, rfl, Or.inr ⟨HZ.out, ?_⟩, below_put2 (N := w.heap.size + 1 + 1) (hBw.trans (hb3.mono hBw.size)) (by omega) n3 (.slice a3 l3 c3)⟩
      · simp [results, Try.f30, go_sem, hg0, hg1]
      · have hr := (hres.mono hBs).put hR3 n3 (.slice a3 l3 c3)
        rw [HVZ.out, zv_more na m _ _ hnm' hge, HX.out, HY.out] at hr
        exact hr
end Go.Proofs.Yteplmnnpmekngab
