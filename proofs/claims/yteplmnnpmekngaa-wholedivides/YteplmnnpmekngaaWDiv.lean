/-
  What Divide of package whole does.
-/
import Derived.Test.YteplmnnpmekngaaDivW
import Derived.Test.YteplmnnpmekngaaMi
namespace Go.Proofs.Yteplmnnpmekngaa
open Go.RowKit

/-- A division's answer: refused, or a quotient that is rounded down and what is left. -/
def DivRes (B : Nat) (w : World) (v1 v2 : Value) (k x y : Int) : Prop :=
  ((pw 256 ≤ x.natAbs ∨ pw 256 ≤ y.natAbs) ∧ k = 3 ∧ v1 = .agg #[.bool false, .slice none 0 0] ∧ v2 = .agg #[.bool false, .slice none 0 0]) ∨
  ((x.natAbs < pw 256 ∧ y.natAbs < pw 256) ∧ y = 0 ∧ k = 2 ∧ v1 = .agg #[.bool false, .slice none 0 0] ∧ v2 = .agg #[.bool false, .slice none 0 0]) ∨
  ((x.natAbs < pw 256 ∧ y.natAbs < pw 256) ∧ y ≠ 0 ∧ k = 0 ∧ ∃ zq zr, IsDiv x y zq zr ∧ IntIs B w v1 zq ∧ IntIs B w v2 zr)
/-- The four boxes of Divide. -/
structure D4 (w W : World) (na nb : Bool) (ax ay : Option Addr) (nx cx ny cy : Nat) (qn : Bool) (qa : Option Addr) (ql qc : Nat) : Prop where
  hA : Box2 W w.heap.size na ax nx cx
  hB : Box2 W (w.heap.size + 1) nb ay ny cy
  hQ : Box2 W (w.heap.size + 2) qn qa ql qc
  hR : Box2 W (w.heap.size + 3) false none 0 0
  be : Below w.heap.size w W
theorem Box2.other {w : World} {N M : Nat} {neg : Bool} {a : Option Addr} {n cap : Nat} (h : Box2 w N neg a n cap) (hne : M ≠ N) (x : Bool) (s : Value) : Box2 (put2 w M x s) N neg a n cap :=
  (h.setOther (p := ⟨M, 0, none⟩) hne _).setOther (p := ⟨M, 1, none⟩) hne _
theorem D4.below {w W W' : World} {na nb : Bool} {ax ay : Option Addr} {nx cx ny cy : Nat} {qn : Bool} {qa : Option Addr} {ql qc : Nat} (h : D4 w W na nb ax ay nx cx ny cy qn qa ql qc) (hb : Below W.heap.size W W') : D4 w W' na nb ax ay nx cx ny cy qn qa ql qc :=
  ⟨h.hA.below hb, h.hB.below hb, h.hQ.below hb, h.hR.below hb, h.be.trans (hb.mono h.be.size)⟩
theorem D4.putQ {w W : World} {na nb : Bool} {ax ay : Option Addr} {nx cx ny cy : Nat} {qn : Bool} {qa : Option Addr} {ql qc : Nat} (h : D4 w W na nb ax ay nx cx ny cy qn qa ql qc) (n : Bool) (a : Option Addr) (l c : Nat) : D4 w (put2 W (w.heap.size + 2) n (.slice a l c)) na nb ax ay nx cx ny cy n a l c :=
  ⟨h.hA.other (by omega) _ _, h.hB.other (by omega) _ _, h.hQ.put n a l c, h.hR.other (by omega) _ _, below_put2 h.be (by omega) _ _⟩
theorem D4.new (w : World) (na nb : Bool) (ax ay : Option Addr) (nx cx ny cy : Nat) (t : TypeId) : D4 w ((((w.alloc (.cells #[.bool na, .slice ax nx cx] t)).alloc (.cells #[.bool nb, .slice ay ny cy] t)).alloc (.cells #[.bool false, .slice none 0 0] t)).alloc (.cells #[.bool false, .slice none 0 0] t)) na nb ax ay nx cx ny cy false none 0 0 := by
  have h1 := boxes2 w na nb ax ay nx cx ny cy t
  have h2 := boxes2 ((w.alloc (.cells #[.bool na, .slice ax nx cx] t)).alloc (.cells #[.bool nb, .slice ay ny cy] t)) false false none none 0 0 0 0 t
  have e : ((w.alloc (.cells #[.bool na, .slice ax nx cx] t)).alloc (.cells #[.bool nb, .slice ay ny cy] t)).heap.size = w.heap.size + 2 := by simp
  obtain ⟨a1, a2, a3⟩ := h1
  obtain ⟨b1, b2, b3⟩ := h2
  rw [e] at b1 b2
  exact ⟨a1.below b3, a2.below b3, b1, b2, a3.trans (b3.mono a3.size)⟩
theorem NumIs.put {B : Nat} {w : World} {v : Value} {n : Nat} (h : NumIs B w v n) {N : Nat} {neg : Bool} {a : Option Addr} {l cap : Nat} (hb : Box2 w N neg a l cap) (x : Bool) (s : Value) : NumIs B (put2 w N x s) v n := by
  obtain ⟨xs, h1, h2⟩ := h
  exact ⟨xs, h1.put hb x s, h2⟩
theorem zv_down (Q : Nat) : zv true (Q + 1) = zv true Q + -1 := by
  show -((Q + 1 : Nat) : Int) = -(Q : Int) + -1
  omega
theorem zv_left {na nb : Bool} (h : na ≠ nb) {R Y : Nat} (hR : R ≤ Y) : zv nb (Y - R) = zv na R + zv nb Y := by
  cases na <;> cases nb <;> simp [zv] at h ⊢ <;> omega

set_option maxRecDepth 100000 in
set_option maxHeartbeats 4000000 in
theorem div_any (na nb : Bool) (ax ay : Option Addr) (nx cx ny cy : Nat) (xs ys : List Nat) (w : World) (hx : Sl .u32 w (.slice ax nx cx) xs) (hy : Sl .u32 w (.slice ay ny cy) ys) (ox : okw xs) (oy : okw ys) (bx : xs.length ≤ 1000000) (by_ : ys.length ≤ 1000000) :
    Calls Try.prog 25 #[.agg #[.bool na, .slice ax nx cx], .agg #[.bool nb, .slice ay ny cy]] w fun e w' => ∃ n1 a1 l1 c1 n2 a2 l2 c2 k, e = .returned (.tuple #[.agg #[.bool n1, .slice a1 l1 c1], .agg #[.bool n2, .slice a2 l2 c2], .int .i64 k]) ∧ DivRes w.heap.size w' (.agg #[.bool n1, .slice a1 l1 c1]) (.agg #[.bool n2, .slice a2 l2 c2]) k (zv na (val xs)) (zv nb (val ys)) ∧ Below w.heap.size w w' := by
  have hd4 := D4.new w na nb ax ay nx cx ny cy 24
  go_enter Try.func25, Try.ntmps25
  go_wp2_with fail
  obtain ⟨W0, hW0⟩ : ∃ W0, (((w.alloc (.cells #[.bool na, .slice ax nx cx] 24)).alloc (.cells #[.bool nb, .slice ay ny cy] 24)).alloc (.cells #[.bool false, .slice none 0 0] 24)).alloc (.cells #[.bool false, .slice none 0 0] 24) = W0 := ⟨_, rfl⟩
  rw [hW0] at hd4 ⊢
  clear hW0
  have hx0 := hx.below hd4.be
  have hy0 := hy.below hd4.be
  have a0 := hd4.hA.c0
  have a1 := hd4.hA.c1
  have b0 := hd4.hB.c0
  have b1 := hd4.hB.c1
  go_region_held3 (fun W => (W.cell? ⟨w.heap.size, 0, none⟩ = some (.bool na) ∧ W.cell? ⟨w.heap.size, 1, none⟩ = some (.slice ax nx cx) ∧ W.cell? ⟨w.heap.size + 1, 0, none⟩ = some (.bool nb) ∧ W.cell? ⟨w.heap.size + 1, 1, none⟩ = some (.slice ay ny cy)) ∧ Below W0.heap.size W0 W)
    (first | exact S4.start a0 a1 b0 b1 | exact S4.keep (by assumption) (Below.refl _ _))
    (first | (go_at_call_of 45 (Value.slice ax nx cx); refine (trim_any ax nx cx xs _ (hx0.below (S4.below (by assumption))) bx).mono ?_; rintro e w' ⟨rfl, rfl⟩)
           | (go_at_call_of 45 (Value.slice ay ny cy); refine (trim_any ay ny cy ys _ (hy0.below (S4.below (by assumption))) by_).mono ?_; rintro e w' ⟨rfl, rfl⟩))
  have hX := (hx0.below below_drew).trimmed
  have hY := (hy0.below below_drew).trimmed
  have h4 : D4 w W0.drew na nb ax ay nx cx ny cy false none 0 0 := hd4.below below_drew
  have lx := long_iff ox
  have ly := long_iff oy
  have zx : (zv na (val xs)).natAbs = val xs := zv_abs _ _
  have zy : (zv nb (val ys)).natAbs = val ys := zv_abs _ _
  have vX := val_trimL xs
  have vY := val_trimL ys
  have lX := trimL_length xs
  have lY := trimL_length ys
  have oX := okw_trimL ox
  have oY := okw_trimL oy
  have tX := Tr_trimL xs
  have tY := Tr_trimL ys
  clear hd4 hx0 hy0 a0 a1 b0 b1
  obtain ⟨W1, hW1⟩ : ∃ W1, W0.drew = W1 := ⟨_, rfl⟩
  rename_i hHeld
  clear hHeld
  rw [hW1] at hX hY h4 ⊢
  clear hW1
  obtain ⟨X, eX⟩ : ∃ X, trimL xs = X := ⟨_, rfl⟩
  obtain ⟨Y, eY⟩ : ∃ Y, trimL ys = Y := ⟨_, rfl⟩
  obtain ⟨mx, eMx⟩ : ∃ m, tl xs xs.length = m := ⟨_, rfl⟩
  obtain ⟨my, eMy⟩ : ∃ m, tl ys ys.length = m := ⟨_, rfl⟩
  rw [eX] at hX vX lX oX tX
  rw [eY] at hY vY lY oY tY
  rw [eMx] at hX lX lx ⊢
  rw [eMy] at hY lY ly ⊢
  clear eX eY eMx eMy
  have H : Hid (X.length = mx ∧ Y.length = my ∧ val X = val xs ∧ val Y = val ys) := ⟨lX, lY, vX, vY⟩
  have r0 := h4.hQ.c0
  have r1 := h4.hQ.c1
  have s0 := h4.hR.c0
  have s1 := h4.hR.c1
  by_cases hfx : 256 < mx
  · have d1 : decide (256 < mx) = true := by simpa using hfx
    have hbig : pw 256 ≤ val xs := by rw [d1] at lx; simpa using lx.symm
    have HR : Hid (DivRes w.heap.size W1 (.agg #[.bool false, .slice none 0 0]) (.agg #[.bool false, .slice none 0 0]) 3 (zv na (val xs)) (zv nb (val ys))) := Or.inl ⟨.inl (by rw [zx]; exact hbig), rfl, rfl, rfl⟩
    have hbe := h4.be
    clear lx ly zx zy vX vY lX lY hbig hfx h4 hX hY
    go_wp2_with (go_at_call 46; refine (isLong_any _ _ _ _).mono ?_; rintro e w' ⟨rfl, rfl⟩)
    refine bodyPost_ret (v := .tuple #[.agg #[.bool false, .slice none 0 0], .agg #[.bool false, .slice none 0 0], .int .i64 3]) ?_ rfl ⟨_, _, _, _, _, _, _, _, _, rfl, HR.out, hbe⟩
    simp [results, Try.f25, go_sem, r0, r1, s0, s1]
  · have d1 : decide (256 < mx) = false := by simpa using hfx
    have hsx : val xs < pw 256 := by rw [d1] at lx; have := lx.symm; simp at this; omega
    by_cases hfy : 256 < my
    · have d2 : decide (256 < my) = true := by simpa using hfy
      have hbig : pw 256 ≤ val ys := by rw [d2] at ly; simpa using ly.symm
      have HR : Hid (DivRes w.heap.size W1 (.agg #[.bool false, .slice none 0 0]) (.agg #[.bool false, .slice none 0 0]) 3 (zv na (val xs)) (zv nb (val ys))) := Or.inl ⟨.inr (by rw [zy]; exact hbig), rfl, rfl, rfl⟩
      have hbe := h4.be
      clear lx ly zx zy vX vY lX lY hbig hfx hfy hsx h4 hX hY
      go_wp2_with (go_at_call 46; refine (isLong_any _ _ _ _).mono ?_; rintro e w' ⟨rfl, rfl⟩)
      refine bodyPost_ret (v := .tuple #[.agg #[.bool false, .slice none 0 0], .agg #[.bool false, .slice none 0 0], .int .i64 3]) ?_ rfl ⟨_, _, _, _, _, _, _, _, _, rfl, HR.out, hbe⟩
      simp [results, Try.f25, go_sem, r0, r1, s0, s1]
    · have d2 : decide (256 < my) = false := by simpa using hfy
      have hsy : val ys < pw 256 := by rw [d2] at ly; have := ly.symm; simp at this; omega
      have HSm : Hid ((zv na (val xs)).natAbs < pw 256 ∧ (zv nb (val ys)).natAbs < pw 256) := ⟨by rw [zx]; exact hsx, by rw [zy]; exact hsy⟩
      have hmx : mx ≤ 256 := by omega
      have hmy : my ≤ 256 := by omega
      clear lx ly zx zy vX vY lX lY hfx hfy hsx hsy
      by_cases hy0 : my = 0
      · subst hy0
        have v0 : val ys = 0 := by rw [← H.out.2.2.2]; exact (Tr_zero tY).2 H.out.2.1
        have HR : Hid (DivRes w.heap.size W1 (.agg #[.bool false, .slice none 0 0]) (.agg #[.bool false, .slice none 0 0]) 2 (zv na (val xs)) (zv nb (val ys))) := Or.inr (Or.inl ⟨HSm.out, by rw [v0]; cases nb <;> rfl, rfl, rfl, rfl⟩)
        have hbe := h4.be
        clear v0 h4 hX hY
        go_wp2_with (go_at_call 46; refine (isLong_any _ _ _ _).mono ?_; rintro e w' ⟨rfl, rfl⟩)
        refine bodyPost_ret (v := .tuple #[.agg #[.bool false, .slice none 0 0], .agg #[.bool false, .slice none 0 0], .int .i64 2]) ?_ rfl ⟨_, _, _, _, _, _, _, _, _, rfl, HR.out, hbe⟩
        simp [results, Try.f25, go_sem, r0, r1, s0, s1]
      · have hYn : 0 < val Y := by
          rcases Nat.eq_zero_or_pos (val Y) with h | h
          · have := (Tr_zero tY).1 h; have := H.out.2.1; omega
          · exact h
        have n1 : ¬ (my : Int) = 0 := by omega
        have n2 : ((my : Int) == 0) = false := by simpa using n1
        have DW := divideWords_any _ _ _ _ _ _ X Y W1 hX hY oX oY tX tY (by have := H.out.1; omega) (by have := H.out.2.1; omega) hYn
        have HYz : Hid (zv nb (val ys) ≠ 0) := (by
          intro e
          have h1 := zv_abs nb (val ys)
          rw [e] at h1
          have h2 := H.out.2.2.2
          simp at h1
          omega)
        clear r0 r1 s0 s1
        go_wp2_with (go_at_call 46; refine (isLong_any _ _ _ _).mono ?_; rintro e w' ⟨rfl, rfl⟩)
        refine DW.mono ?_
        rintro e W2 ⟨a1, l1, c1, a2, l2, c2, rfl, NQ, NR, hb2⟩
        have hY2 := hY.below hb2
        have h5 := h4.below hb2
        have hsz := h4.be.size
        rw [H.out.2.2.1, H.out.2.2.2] at NQ NR
        have hRl : val xs % val ys < val ys := Nat.mod_lt _ (by rw [← H.out.2.2.2]; exact hYn)
        obtain ⟨Q, oQ, kQ, tQ, vQ⟩ := NQ
        obtain ⟨R, oR, kR, tR, vR⟩ := NR
        have hl2 : Hid (l2 = R.length ∧ l1 = Q.length) := ⟨oR.len, oQ.len⟩
        have bQ : Q.length ≤ 256 := by
          refine Tr_len_le tQ 256 ?_
          rw [vQ]
          have h1 := HSm.out.1
          rw [zv_abs] at h1
          exact Nat.lt_of_le_of_lt (Nat.div_le_self _ _) h1
        have bR : R.length ≤ 256 := by
          refine Tr_len_le tR 256 ?_
          rw [vR]
          have h1 := HSm.out.2
          rw [zv_abs] at h1
          omega
        replace oQ := oQ.mono hsz
        replace oR := oR.mono hsz
        have q0 := h5.hA.c0
        have q1 := h5.hB.c0
        have r0 := h5.hQ.c0
        have r1 := h5.hQ.c1
        have rf0 := h5.hQ.f0
        have rf1 := h5.hQ.f1
        clear DW hX hY hb2 h4 hYn
        by_cases hn : na = nb
        · subst hn
          have hIs := isDiv_plain (na := na) (nb := na) (X := val xs) (Y := val ys) rfl rfl (by omega) (.inr rfl)
          have hIs2 : IsDiv (zv na (val xs)) (zv na (val ys)) (zv false (val xs / val ys)) (zv na (val xs % val ys)) := by simpa using hIs
          have HI : Hid (IsDiv (zv na (val xs)) (zv na (val ys)) (zv false (val xs / val ys)) (zv na (val xs % val ys))) := hIs2
          clear hIs hIs2
          have nn : (na == na) = true := by simp
          go_wp2_with fail
          refine (formed_any false a1 l1 c1 w.heap.size Q W2 oQ kQ (by omega)).mono ?_
          rintro e W3 ⟨v1, rfl, hI1, hb3⟩
          have h6 := h5.below hb3
          obtain ⟨n1, x1, y1, z1, rfl⟩ := hI1.form
          have oR3 := oR.below hb3
          have hY3 := hY2.below hb3
          have r0 := h6.hQ.c0
          have r1 := h6.hQ.c1
          have rf0 := h6.hQ.f0
          have rf1 := h6.hQ.f1
          have q1 := h6.hB.c0
          clear hb3 oR oQ hY2 h5 q0
          go_upto_region 13 with fail
          clear r0 r1 rf0 rf1 q1
          have h7 := h6.putQ n1 x1 y1 z1
          have hI2 := hI1.put h6.hQ n1 (.slice x1 y1 z1)
          have oR4 := oR3.put h6.hQ n1 (.slice x1 y1 z1)
          obtain ⟨W4, hw4⟩ : ∃ W4, (W3.setCell ⟨w.heap.size + 2, 0, none⟩ (.bool n1)).setCell ⟨w.heap.size + 2, 1, none⟩ (.slice x1 y1 z1) = W4 := ⟨_, rfl⟩
          have hw5 : put2 W3 (w.heap.size + 2) n1 (.slice x1 y1 z1) = W4 := hw4
          rw [hw5] at h7 hI2 oR4
          rw [hw4]
          clear hw4 hw5 h6 hI1 oR3
          have q1 := h7.hB.c0
          have r0 := h7.hQ.c0
          have r1 := h7.hQ.c1
          go_wp2_with fail
          refine (formed_any na a2 l2 c2 w.heap.size R W4 oR4 kR (by omega)).mono ?_
          rintro e W5 ⟨v2, rfl, hI3, hb5⟩
          rw [vR] at hI3
          rw [vQ] at hI2
          have h8 := h7.below hb5
          have hI4 := hI2.below hb5
          obtain ⟨n2, x2, y2, z2, rfl⟩ := hI3.form
          have t0 := h8.hR.c0
          have t1 := h8.hR.c1
          have tf0 := h8.hR.f0
          have tf1 := h8.hR.f1
          have hfinR := h8.hR.put n2 x2 y2 z2
          have hfinQ := h8.hQ.other (M := w.heap.size + 3) (by omega) n2 (.slice x2 y2 z2)
          have g0 := hfinQ.c0
          have g1 := hfinQ.c1
          have g2 := hfinR.c0
          have g3 := hfinR.c1
          unfold put2 at g0 g1 g2 g3
          have HF : Hid (DivRes w.heap.size (put2 W5 (w.heap.size + 3) n2 (.slice x2 y2 z2)) (.agg #[.bool n1, .slice x1 y1 z1]) (.agg #[.bool n2, .slice x2 y2 z2]) 0 (zv na (val xs)) (zv na (val ys)) ∧ Below w.heap.size w (put2 W5 (w.heap.size + 3) n2 (.slice x2 y2 z2))) :=
            ⟨Or.inr (Or.inr ⟨HSm.out, HYz.out, rfl, _, _, HI.out, hI4.put h8.hR _ _, hI3.put h8.hR _ _⟩), below_put2 h8.be (by omega) _ _⟩
          clear hb5 hI3 hI4 hI2 h7 oR4 hfinR hfinQ
          go_wp2
          refine bodyPost_ret (v := .tuple #[.agg #[.bool n1, .slice x1 y1 z1], .agg #[.bool n2, .slice x2 y2 z2], .int .i64 0]) ?_ rfl ⟨_, _, _, _, _, _, _, _, _, rfl, HF.out.1, HF.out.2⟩
          simp [results, Try.f25, go_sem, g0, g1, g2, g3]
        · have nn : (na == nb) = false := by simpa using hn
          by_cases hR0 : val xs % val ys = 0
          · have hIs := isDiv_plain (na := na) (nb := nb) (X := val xs) (Y := val ys) rfl rfl (by omega) (.inl hR0)
            have nt : (na != nb) = true := by simp [bne, nn]
            rw [nt, hR0] at hIs
            have HI : Hid (IsDiv (zv na (val xs)) (zv nb (val ys)) (zv true (val xs / val ys)) (zv nb (val xs % val ys))) := (by
              rw [hR0]
              have e : zv nb 0 = zv na 0 := by cases na <;> cases nb <;> rfl
              rw [e]
              exact hIs)
            clear hIs nt
            have e2 : l2 = 0 := by rw [hl2.out.1]; exact (Tr_zero tR).1 (vR.trans hR0)
            subst e2
            go_wp2_with fail
            refine (formed_any true a1 l1 c1 w.heap.size Q W2 oQ kQ (by omega)).mono ?_
            rintro e W3 ⟨v1, rfl, hI1, hb3⟩
            have h6 := h5.below hb3
            obtain ⟨n1, x1, y1, z1, rfl⟩ := hI1.form
            have oR3 := oR.below hb3
            have hY3 := hY2.below hb3
            have r0 := h6.hQ.c0
            have r1 := h6.hQ.c1
            have rf0 := h6.hQ.f0
            have rf1 := h6.hQ.f1
            have q1 := h6.hB.c0
            clear hb3 oR oQ hY2 h5 q0
            go_upto_region 13 with fail
            clear r0 r1 rf0 rf1 q1
            have h7 := h6.putQ n1 x1 y1 z1
            have hI2 := hI1.put h6.hQ n1 (.slice x1 y1 z1)
            have oR4 := oR3.put h6.hQ n1 (.slice x1 y1 z1)
            obtain ⟨W4, hw4⟩ : ∃ W4, (W3.setCell ⟨w.heap.size + 2, 0, none⟩ (.bool n1)).setCell ⟨w.heap.size + 2, 1, none⟩ (.slice x1 y1 z1) = W4 := ⟨_, rfl⟩
            have hw5 : put2 W3 (w.heap.size + 2) n1 (.slice x1 y1 z1) = W4 := hw4
            rw [hw5] at h7 hI2 oR4
            rw [hw4]
            clear hw4 hw5 h6 hI1 oR3
            have q1 := h7.hB.c0
            have r0 := h7.hQ.c0
            have r1 := h7.hQ.c1
            go_wp2_with fail
            refine (formed_any nb a2 0 c2 w.heap.size R W4 oR4 kR (by omega)).mono ?_
            rintro e W5 ⟨v2, rfl, hI3, hb5⟩
            rw [vR] at hI3
            rw [vQ] at hI2
            have h8 := h7.below hb5
            have hI4 := hI2.below hb5
            obtain ⟨n2, x2, y2, z2, rfl⟩ := hI3.form
            have t0 := h8.hR.c0
            have t1 := h8.hR.c1
            have tf0 := h8.hR.f0
            have tf1 := h8.hR.f1
            have hfinR := h8.hR.put n2 x2 y2 z2
            have hfinQ := h8.hQ.other (M := w.heap.size + 3) (by omega) n2 (.slice x2 y2 z2)
            have g0 := hfinQ.c0
            have g1 := hfinQ.c1
            have g2 := hfinR.c0
            have g3 := hfinR.c1
            unfold put2 at g0 g1 g2 g3
            have HF : Hid (DivRes w.heap.size (put2 W5 (w.heap.size + 3) n2 (.slice x2 y2 z2)) (.agg #[.bool n1, .slice x1 y1 z1]) (.agg #[.bool n2, .slice x2 y2 z2]) 0 (zv na (val xs)) (zv nb (val ys)) ∧ Below w.heap.size w (put2 W5 (w.heap.size + 3) n2 (.slice x2 y2 z2))) :=
              ⟨Or.inr (Or.inr ⟨HSm.out, HYz.out, rfl, _, _, HI.out, hI4.put h8.hR _ _, hI3.put h8.hR _ _⟩), below_put2 h8.be (by omega) _ _⟩
            clear hb5 hI3 hI4 hI2 h7 oR4 hfinR hfinQ
            go_wp2
            refine bodyPost_ret (v := .tuple #[.agg #[.bool n1, .slice x1 y1 z1], .agg #[.bool n2, .slice x2 y2 z2], .int .i64 0]) ?_ rfl ⟨_, _, _, _, _, _, _, _, _, rfl, HF.out.1, HF.out.2⟩
            simp [results, Try.f25, go_sem, g0, g1, g2, g3]
          · have hIs := isDiv_down (na := na) (nb := nb) (X := val xs) (Y := val ys) rfl rfl (by omega) hR0 hn
            have nt : (na != nb) = true := by simp [bne, nn]
            rw [nt, ← zv_down, ← zv_left hn (Nat.le_of_lt hRl)] at hIs
            have HI : Hid (IsDiv (zv na (val xs)) (zv nb (val ys)) (zv true (val xs / val ys + 1)) (zv nb (val ys - val xs % val ys))) := hIs
            clear hIs nt
            have e2 : ¬ (l2 : Int) = 0 := by
              have h1 := hl2.out.1
              intro e
              have : R.length = 0 := by omega
              have h2 := (Tr_zero tR).2 this
              omega
            have e3 : ((l2 : Int) == 0) = false := by simpa using e2
            have s1 : Sl .u32 (W2.alloc (.cells #[.int .u32 1] 55)) (.slice (some ⟨W2.heap.size, 0, none⟩) 1 1) [1] := sl_one W2 1 55
            have ba := below_alloc W2 (.cells #[.int .u32 1] 55)
            have AW := addWords_any a1 _ l1 c1 1 1 Q [1] _ (oQ.sl.below ba) s1 (by omega) (by simp) kQ (okw_one (by omega))
            have oR1 := oR.below ba
            have hY1 := hY2.below ba
            have h5b := h5.below ba
            have hsz2 := h5b.be.size
            have hv1 : val [1] = 1 := rfl
            rw [hv1, vQ] at AW
            clear oQ oR hY2 h5 r0 r1 rf0 rf1 ba s1 hv1
            go_wp2_with fail
            refine AW.mono ?_
            rintro e W3 ⟨a3, m3, c3, rfl, hm3, ⟨P, oP, kP, tP, vP⟩, hb3⟩
            replace oP := oP.mono hsz2
            replace oR1 := oR1.below hb3
            replace hY1 := hY1.below hb3
            replace h5b := h5b.below hb3
            have bP : P.length ≤ 1000000 := by have := oP.len; omega
            clear hb3 AW q0 q1
            go_wp2_with fail
            refine (formed_any true a3 m3 c3 w.heap.size P W3 oP kP bP).mono ?_
            rintro e W3b ⟨v1, rfl, hI1, hb3⟩
            rw [vP] at hI1
            have h6 := h5b.below hb3
            obtain ⟨n1, x1, y1, z1, rfl⟩ := hI1.form
            have oR3 := oR1.below hb3
            have hY3 := hY1.below hb3
            have r0 := h6.hQ.c0
            have r1 := h6.hQ.c1
            have rf0 := h6.hQ.f0
            have rf1 := h6.hQ.f1
            clear hb3 oR1 oP hY1 h5b
            go_upto_region 8 with fail
            clear r0 r1 rf0 rf1
            have h7 := h6.putQ n1 x1 y1 z1
            have hI2 := hI1.put h6.hQ n1 (.slice x1 y1 z1)
            have oR4 := oR3.put h6.hQ n1 (.slice x1 y1 z1)
            have hY4 := hY3.put h6.hQ n1 (.slice x1 y1 z1)
            obtain ⟨W4, hw4⟩ : ∃ W4, (W3b.setCell ⟨w.heap.size + 2, 0, none⟩ (.bool n1)).setCell ⟨w.heap.size + 2, 1, none⟩ (.slice x1 y1 z1) = W4 := ⟨_, rfl⟩
            have hw5 : put2 W3b (w.heap.size + 2) n1 (.slice x1 y1 z1) = W4 := hw4
            rw [hw5] at h7 hI2 oR4 hY4
            rw [hw4]
            clear hw4 hw5 h6 hI1 oR3 hY3
            have hvR : val R ≤ val Y := by rw [vR, H.out.2.2.2]; omega
            have SW := subWords_any _ _ _ _ _ _ Y R W4 hY4 oR4.sl (by have := H.out.2.1; omega) (Tr_len_of_le tR oY hvR) hvR oY kR
            have hsz4 := h7.be.size
            rw [vR, H.out.2.2.2] at SW
            clear oR4 hY4
            go_wp2_with fail
            refine SW.mono ?_
            rintro e W4b ⟨a4, m4, c4, rfl, hm4, ⟨T, oT, kT, tT, vT⟩, hb4⟩
            replace oT := oT.mono hsz4
            replace h7 := h7.below hb4
            replace hI2 := hI2.below hb4
            have bT : T.length ≤ 1000000 := by have := oT.len; have := H.out.2.1; omega
            clear hb4 SW hvR
            have q1 := h7.hB.c0
            have r0 := h7.hQ.c0
            have r1 := h7.hQ.c1
            go_wp2_with fail
            refine (formed_any nb a4 m4 c4 w.heap.size T W4b oT kT bT).mono ?_
            rintro e W5 ⟨v2, rfl, hI3, hb5⟩
            rw [vT] at hI3
            have h8 := h7.below hb5
            have hI4 := hI2.below hb5
            obtain ⟨n2, x2, y2, z2, rfl⟩ := hI3.form
            have t0 := h8.hR.c0
            have t1 := h8.hR.c1
            have tf0 := h8.hR.f0
            have tf1 := h8.hR.f1
            have hfinR := h8.hR.put n2 x2 y2 z2
            have hfinQ := h8.hQ.other (M := w.heap.size + 3) (by omega) n2 (.slice x2 y2 z2)
            have g0 := hfinQ.c0
            have g1 := hfinQ.c1
            have g2 := hfinR.c0
            have g3 := hfinR.c1
            unfold put2 at g0 g1 g2 g3
            have HF : Hid (DivRes w.heap.size (put2 W5 (w.heap.size + 3) n2 (.slice x2 y2 z2)) (.agg #[.bool n1, .slice x1 y1 z1]) (.agg #[.bool n2, .slice x2 y2 z2]) 0 (zv na (val xs)) (zv nb (val ys)) ∧ Below w.heap.size w (put2 W5 (w.heap.size + 3) n2 (.slice x2 y2 z2))) :=
              ⟨Or.inr (Or.inr ⟨HSm.out, HYz.out, rfl, _, _, HI.out, hI4.put h8.hR _ _, hI3.put h8.hR _ _⟩), below_put2 h8.be (by omega) _ _⟩
            clear hb5 hI3 hI4 hI2 h7 oT hfinR hfinQ
            go_wp2
            refine bodyPost_ret (v := .tuple #[.agg #[.bool n1, .slice x1 y1 z1], .agg #[.bool n2, .slice x2 y2 z2], .int .i64 0]) ?_ rfl ⟨_, _, _, _, _, _, _, _, _, rfl, HF.out.1, HF.out.2⟩
            simp [results, Try.f25, go_sem, g0, g1, g2, g3]
end Go.Proofs.Yteplmnnpmekngaa
