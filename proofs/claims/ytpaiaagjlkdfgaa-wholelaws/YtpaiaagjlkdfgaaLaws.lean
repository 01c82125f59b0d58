/-
  The walk of WholeLaws: it answers true, whatever the three Ints.
-/
import Derived.Test.YtpaiaagjlkdfgaaHeld
import Derived.Deep.CutRange
namespace Go.Proofs.Ytpaiaagjlkdfgaa
open Go.RowKit

set_option maxRecDepth 100000 in
set_option maxHeartbeats 4000000 in
theorem laws_far (na nb nc : Bool) (a0 a1 a2 : Option Addr) (l0 c0 l1 c1 l2 c2 : Nat) (w : World) (h : ¬ (l0 ≤ 80 ∧ l1 ≤ 80 ∧ l2 ≤ 80)) :
    Calls Try.prog 8 #[.agg #[.bool na, .slice a0 l0 c0], .agg #[.bool nb, .slice a1 l1 c1], .agg #[.bool nc, .slice a2 l2 c2]] w fun e w' => e = .returned (.bool true) ∧ Below w.heap.size w w' := by
  obtain ⟨hA, hB, hC, hB0⟩ := boxes3 w na nb nc a0 a1 a2 l0 c0 l1 c1 l2 c2 24
  go_enter Try.func8, Try.ntmps8
  go_wp2_with fail
  generalize ((w.alloc (.cells #[.bool na, .slice a0 l0 c0] 24)).alloc (.cells #[.bool nb, .slice a1 l1 c1] 24)).alloc (.cells #[.bool nc, .slice a2 l2 c2] 24) = W0 at *
  refine (few_any na a0 l0 c0 W0).mono ?_
  rintro e w1 ⟨rfl, hb1⟩
  have hB1 := hB.below hb1
  have hC1 := hC.below hb1
  have hBw1 : Below w.heap.size w w1 := hB0.trans (hb1.mono hB0.size)
  by_cases g0 : l0 ≤ 80
  · have e0 : decide (l0 ≤ 80) = true := by simpa using g0
    rw [e0]
    have b0 := hB1.c0
    have b1 := hB1.c1
    go_wp2_with fail
    refine (few_any nb a1 l1 c1 w1).mono ?_
    rintro e w2 ⟨rfl, hb2⟩
    have hC2 := hC1.below hb2
    have hBw2 : Below w.heap.size w w2 := hBw1.trans (hb2.mono hBw1.size)
    clear b0 b1
    by_cases g1 : l1 ≤ 80
    · have e1 : decide (l1 ≤ 80) = true := by simpa using g1
      have e2 : decide (l2 ≤ 80) = false := by simp; omega
      rw [e1]
      have b0 := hC2.c0
      have b1 := hC2.c1
      go_wp2_with fail
      refine (few_any nc a2 l2 c2 w2).mono ?_
      rintro e w3 ⟨rfl, hb3⟩
      rw [e2]
      go_wp2_with fail
      refine (awake_any w3).mono ?_
      rintro e w4 ⟨rfl, hb4⟩
      go_wp2
      go_ret
      have hBw3 : Below w.heap.size w w3 := hBw2.trans (hb3.mono hBw2.size)
      exact ⟨rfl, hBw3.trans (hb4.mono hBw3.size)⟩
    · have e1 : decide (l1 ≤ 80) = false := by simpa using g1
      rw [e1]
      go_wp2_with fail
      refine (awake_any w2).mono ?_
      rintro e w4 ⟨rfl, hb4⟩
      go_wp2
      go_ret
      exact ⟨rfl, hBw2.trans (hb4.mono hBw2.size)⟩
  · have e0 : decide (l0 ≤ 80) = false := by simpa using g0
    rw [e0]
    go_wp2_with fail
    refine (awake_any w1).mono ?_
    rintro e w4 ⟨rfl, hb4⟩
    go_wp2
    go_ret
    exact ⟨rfl, hBw1.trans (hb4.mono hBw1.size)⟩

theorem bd_sum {P Q : Nat} {x y : Int} (h : 4 * P ≤ Q) (hx : x.natAbs < 2 * P) (hy : y.natAbs < 2 * P) : (x + y).natAbs < Q := by omega
theorem bd_mul {P : Nat} {x y : Int} (hx : x.natAbs < 2 * P) (hy : y.natAbs < P) : (x * y).natAbs < 2 * (P * P) := by
  rw [Int.natAbs_mul]
  have h1 : x.natAbs * y.natAbs ≤ (2 * P) * y.natAbs := Nat.mul_le_mul_right _ (by omega)
  have h2 : (2 * P) * y.natAbs < (2 * P) * P := Nat.mul_lt_mul_of_pos_left hy (by omega)
  have h3 : 2 * P * P = 2 * (P * P) := by rw [Nat.mul_assoc]
  omega
theorem pw_few : 4 * pw 80 ≤ pw 256 ∧ 4 * (pw 80 * pw 80) ≤ pw 256 := by
  have h1 : pw 81 ≤ pw 256 := pw_mono (by omega)
  have h2 : pw 161 ≤ pw 256 := pw_mono (by omega)
  have h3 := pw_add 80 80
  rw [show pw 81 = 4294967296 * pw 80 from rfl] at h1
  have h4 := pw_add 160 1
  have h5 : pw 1 = 4294967296 := rfl
  have h6 : pw (80 + 80) = pw 160 := rfl
  have h7 : pw (160 + 1) = pw 161 := rfl
  rw [h6] at h3
  rw [h7, h5, h3] at h4
  omega
/-- The sizes of all that is summed and multiplied. -/
structure Sizes (x y z : Int) : Prop where
  bx : x.natAbs < pw 256
  by' : y.natAbs < pw 256
  bz : z.natAbs < pw 256
  xy : (x + y).natAbs < pw 256
  yx : (y + x).natAbs < pw 256
  xyz : (x + y + z).natAbs < pw 256
  yz : (y + z).natAbs < pw 256
  xyz' : (x + (y + z)).natAbs < pw 256
  mxy : (x * y).natAbs < pw 256
  myx : (y * x).natAbs < pw 256
  msz : ((x + y) * z).natAbs < pw 256
  mxz : (x * z).natAbs < pw 256
  mzy : (z * y).natAbs < pw 256
  ms : (x * z + z * y).natAbs < pw 256
  sxy : (x + y - y).natAbs < pw 256
theorem zero_few : (0 : Int).natAbs < pw 256 := pw_big (by decide)
theorem Out.none {w : World} {neg : Bool} {a : Option Addr} {l c : Nat} {xs : List Nat} {z : Int} (h : Out w neg a l c xs z) (hz : z = 0) : neg = false ∧ l = 0 := by
  have h1 := h.abs
  rw [hz] at h1
  have h2 : xs.length = 0 := (Tr_zero h.fm.tr).1 h1
  have h3 : xs = [] := List.length_eq_zero_iff.1 h2
  exact ⟨h.fm.nn h3, by rw [h.sl.len, h2]⟩
theorem Hd.zeroIs {w : World} {N : Nat} {neg : Bool} {a : Option Addr} {l c : Nat} {xs : List Nat} {z : Int} (h : Hd w N neg a l c xs z) (f : Fm neg xs) (hz : z = 0) : neg = false ∧ l = 0 := by
  have h1 := h.abs
  rw [hz] at h1
  have h2 : xs.length = 0 := (Tr_zero f.tr).1 h1
  have h3 : xs = [] := List.length_eq_zero_iff.1 h2
  exact ⟨f.nn h3, by rw [h.sl.len, h2]⟩
theorem one_lo : -9223372036854775808 ≤ (1 : Int) := by decide
theorem one_hi : (1 : Int) ≤ 9223372036854775807 := by decide
theorem one_few : (1 : Int).natAbs < pw 256 := pw_big (by decide)
/-- Two cells hold what they held; what W0 had stands. -/
abbrev P2 (W0 : World) (p0 p1 : Addr) (v0 v1 : Value) (W : World) : Prop :=
  (W.cell? p0 = some v0 ∧ W.cell? p1 = some v1) ∧ Below W0.heap.size W0 W
theorem P2.start {W0 : World} {p0 p1 : Addr} {v0 v1 : Value} (h0 : W0.cell? p0 = some v0) (h1 : W0.cell? p1 = some v1) : P2 W0 p0 p1 v0 v1 W0.drew :=
  ⟨⟨h0, h1⟩, (Below.refl _ _).drew⟩
theorem P2.keep {W0 W W' : World} {p0 p1 : Addr} {v0 v1 : Value} (h : P2 W0 p0 p1 v0 v1 W) (hb : Below W.heap.size W W') : P2 W0 p0 p1 v0 v1 W' :=
  ⟨⟨cell_below h.1.1 hb, cell_below h.1.2 hb⟩, h.2.trans (hb.mono h.2.size)⟩
theorem P2.below {W0 W : World} {p0 p1 : Addr} {v0 v1 : Value} (h : P2 W0 p0 p1 v0 v1 W) : Below W0.heap.size W0 W := h.2
theorem P2.put2 {W0 W : World} {B N o0 o1 : Nat} {v0 v1 : Value} (h : P2 W0 ⟨B, o0, none⟩ ⟨B, o1, none⟩ v0 v1 W) (hB : B < N) (hN : W0.heap.size ≤ N) (u v : Value) : P2 W0 ⟨B, o0, none⟩ ⟨B, o1, none⟩ v0 v1 ((W.setCell ⟨N, 0, none⟩ u).setCell ⟨N, 1, none⟩ v) := by
  refine ⟨⟨?_, ?_⟩, (h.2.setCell (p := ⟨N, 0, none⟩) hN u).setCell (p := ⟨N, 1, none⟩) hN v⟩
  · rw [World.cell?_setCell_other _ _ _ _ (by intro e; injection e with e _; omega), World.cell?_setCell_other _ _ _ _ (by intro e; injection e with e _; omega)]; exact h.1.1
  · rw [World.cell?_setCell_other _ _ _ _ (by intro e; injection e with e _; omega), World.cell?_setCell_other _ _ _ _ (by intro e; injection e with e _; omega)]; exact h.1.2
theorem Hd.putNew {w : World} {N : Nat} {neg : Bool} {a : Option Addr} {l c : Nat} {xs : List Nat} {z : Int} (h : Out w neg a l c xs z) (hX : Box2 w N false none 0 0) : Hd ((w.setCell ⟨N, 0, none⟩ (.bool neg)).setCell ⟨N, 1, none⟩ (.slice a l c)) N neg a l c xs z :=
  ⟨hX.put neg a l c, h.sl.put hX _ _, h.ok, h.le, h.num⟩
theorem ad {x y : Int} {p q r : Nat} (hx : x.natAbs < p) (hy : y.natAbs < q) (h : p + q ≤ r) : (x + y).natAbs < r := by omega
theorem nums_few {P Q R : Nat} (h1 : 4 * P ≤ R) (h2 : 4 * Q ≤ R) : P ≤ R ∧ P + P ≤ R ∧ P + P + P ≤ R ∧ P + (P + P) ≤ R ∧ 2 * Q ≤ R ∧ 2 * Q + 2 * Q ≤ R := by omega
theorem twice {n P : Nat} (h : n < P) : n < 2 * P := by omega
theorem twice' {n P : Nat} (h : n < P + P) : n < 2 * P := by omega
theorem sizes {x y z : Int} (hx : x.natAbs < pw 80) (hy : y.natAbs < pw 80) (hz : z.natAbs < pw 80) : Sizes x y z := by
  obtain ⟨h1, h2⟩ := pw_few
  obtain ⟨k1, k2, k3, k4, k5, k6⟩ := nums_few h1 h2
  have m1 := bd_mul (twice hx) hy
  have m2 := bd_mul (twice hy) hx
  have m3 := bd_mul (twice' (ad hx hy (Nat.le_refl _))) hz
  have m4 := bd_mul (twice hx) hz
  have m5 := bd_mul (twice hz) hy
  have lt : ∀ {n p : Nat}, n < p → p ≤ pw 256 → n < pw 256 := fun h h' => Nat.lt_of_lt_of_le h h'
  exact ⟨lt hx k1, lt hy k1, lt hz k1, ad hx hy k2, ad hy hx k2, ad (ad hx hy (Nat.le_refl _)) hz k3, ad hy hz k2, ad hx (ad hy hz (Nat.le_refl _)) k4, lt m1 k5, lt m2 k5, lt m3 k5, lt m4 k5, lt m5 k5, ad m4 m5 k6, by rw [Int.add_sub_cancel]; exact lt hx k1⟩

set_option maxRecDepth 100000 in
set_option maxHeartbeats 8000000 in
theorem laws_near (na nb nc : Bool) (a0 a1 a2 : Option Addr) (l0 c0 l1 c1 l2 c2 : Nat) (xs ys zs : List Nat) (w : World) (hx : Sl .u32 w (.slice a0 l0 c0) xs) (hy : Sl .u32 w (.slice a1 l1 c1) ys) (hz : Sl .u32 w (.slice a2 l2 c2) zs) (ox : okw xs) (oy : okw ys) (oz : okw zs) (g0 : l0 ≤ 80) (g1 : l1 ≤ 80) (g2 : l2 ≤ 80) :
    Calls Try.prog 8 #[.agg #[.bool na, .slice a0 l0 c0], .agg #[.bool nb, .slice a1 l1 c1], .agg #[.bool nc, .slice a2 l2 c2]] w fun e w' => e = .returned (.bool true) ∧ Below w.heap.size w w' := by
  obtain ⟨hA, hB, hC, hB0⟩ := boxes3 w na nb nc a0 a1 a2 l0 c0 l1 c1 l2 c2 24
  have e0 : decide (l0 ≤ 80) = true := by simpa using g0
  have e1 : decide (l1 ≤ 80) = true := by simpa using g1
  have e2 : decide (l2 ≤ 80) = true := by simpa using g2
  go_enter Try.func8, Try.ntmps8
  go_wp2_with fail
  generalize ((w.alloc (.cells #[.bool na, .slice a0 l0 c0] 24)).alloc (.cells #[.bool nb, .slice a1 l1 c1] 24)).alloc (.cells #[.bool nc, .slice a2 l2 c2] 24) = W0 at *
  have k0 := hx.len
  have k1 := hy.len
  have k2 := hz.len
  obtain ⟨x, HX⟩ : ∃ x, zv na (val xs) = x := ⟨_, rfl⟩
  obtain ⟨y, HY⟩ : ∃ y, zv nb (val ys) = y := ⟨_, rfl⟩
  obtain ⟨z, HZ⟩ : ∃ z, zv nc (val zs) = z := ⟨_, rfl⟩
  have sz : Sizes x y z := by
    apply sizes
    · rw [← HX, zv_abs]; exact Nat.lt_of_lt_of_le (val_lt ox) (pw_mono (by omega))
    · rw [← HY, zv_abs]; exact Nat.lt_of_lt_of_le (val_lt oy) (pw_mono (by omega))
    · rw [← HZ, zv_abs]; exact Nat.lt_of_lt_of_le (val_lt oz) (pw_mono (by omega))
  replace hA : Hd W0 _ na a0 l0 c0 xs x := ⟨hA, hx.below hB0, ox, by omega, HX⟩
  replace hB : Hd W0 _ nb a1 l1 c1 ys y := ⟨hB, hy.below hB0, oy, by omega, HY⟩
  replace hC : Hd W0 _ nc a2 l2 c2 zs z := ⟨hC, hz.below hB0, oz, by omega, HZ⟩
  clear HX HY HZ hx hy hz k0 k1 k2 g0 g1 g2
  refine (few_any na a0 l0 c0 _).mono ?_
  rintro e w1 ⟨rfl, hb⟩
  rw [e0]
  replace hA := hA.below hb
  replace hB := hB.below hb
  replace hC := hC.below hb
  replace hB0 : Below w.heap.size w w1 := hB0.trans (hb.mono hB0.size)
  clear hb
  have q0 := hB.box.c0
  have q1 := hB.box.c1
  have q2 := hB.box.lt
  go_wp2_with fail
  refine (few_any nb a1 l1 c1 _).mono ?_
  rintro e w2 ⟨rfl, hb⟩
  rw [e1]
  clear q0 q1 q2
  replace hA := hA.below hb
  replace hB := hB.below hb
  replace hC := hC.below hb
  replace hB0 : Below w.heap.size w w2 := hB0.trans (hb.mono hB0.size)
  clear hb
  have q0 := hC.box.c0
  have q1 := hC.box.c1
  have q2 := hC.box.lt
  go_wp2_with fail
  refine (few_any nc a2 l2 c2 _).mono ?_
  rintro e w3 ⟨rfl, hb⟩
  rw [e2]
  clear q0 q1 q2
  replace hA := hA.below hb
  replace hB := hB.below hb
  replace hC := hC.below hb
  replace hB0 : Below w.heap.size w w3 := hB0.trans (hb.mono hB0.size)
  clear hb
  clear e0 e1 e2
  have q0 := hA.box.c0
  have q1 := hA.box.c1
  have q2 := hA.box.lt
  have q3 := hB.box.c0
  have q4 := hB.box.c1
  have q5 := hB.box.lt
  go_wp2_with fail
  refine (lsumH hA hB sz.bx sz.by' sz.xy).mono ?_
  rintro e w4 ⟨n4, p4, m4, d4, ws4, rfl, o4, hb⟩
  clear q0 q1 q2 q3 q4 q5
  replace hA := hA.below hb
  replace hB := hB.below hb
  replace hC := hC.below hb
  replace hB0 : Below w.heap.size w w4 := hB0.trans (hb.mono hB0.size)
  clear hb
  have q0 := hB.box.c0
  have q1 := hB.box.c1
  have q2 := hB.box.lt
  have q3 := hA.box.c0
  have q4 := hA.box.c1
  have q5 := hA.box.lt
  go_wp2_with fail
  refine (lsumH (hB.alloc _) (hA.alloc _) sz.by' sz.bx sz.yx).mono ?_
  rintro e w5 ⟨n5, p5, m5, d5, ws5, rfl, o5, hb⟩
  clear q0 q1 q2 q3 q4 q5
  replace hA := (hA.alloc _).below hb
  replace hB := (hB.alloc _).below hb
  replace hC := (hC.alloc _).below hb
  have hab := (Hd.new o4 24).below hb
  have fhab := o4.fm
  replace hB0 : Below w.heap.size w w5 := (hB0.trans ((below_alloc w4 _).mono hB0.size)).trans (hb.mono (Nat.le_trans hB0.size (below_alloc w4 _).size))
  clear o4
  clear hb
  have q0 := hab.box.c0
  have q1 := hab.box.c1
  have q2 := hab.box.lt
  have q3 := hC.box.c0
  have q4 := hC.box.c1
  have q5 := hC.box.lt
  go_wp2_with fail
  refine (lsumH (hab.alloc _) (hC.alloc _) sz.xy sz.bz sz.xyz).mono ?_
  rintro e w6 ⟨n6, p6, m6, d6, ws6, rfl, o6, hb⟩
  clear q0 q1 q2 q3 q4 q5
  replace hA := (hA.alloc _).below hb
  replace hB := (hB.alloc _).below hb
  replace hC := (hC.alloc _).below hb
  replace hab := (hab.alloc _).below hb
  have hba := (Hd.new o5 24).below hb
  have fhba := o5.fm
  replace hB0 : Below w.heap.size w w6 := (hB0.trans ((below_alloc w5 _).mono hB0.size)).trans (hb.mono (Nat.le_trans hB0.size (below_alloc w5 _).size))
  clear o5
  clear hb
  have q0 := hB.box.c0
  have q1 := hB.box.c1
  have q2 := hB.box.lt
  have q3 := hC.box.c0
  have q4 := hC.box.c1
  have q5 := hC.box.lt
  go_wp2_with fail
  refine (lsumH (hB.alloc _) (hC.alloc _) sz.by' sz.bz sz.yz).mono ?_
  rintro e w7 ⟨n7, p7, m7, d7, ws7, rfl, o7, hb⟩
  clear q0 q1 q2 q3 q4 q5
  replace hA := (hA.alloc _).below hb
  replace hB := (hB.alloc _).below hb
  replace hC := (hC.alloc _).below hb
  replace hab := (hab.alloc _).below hb
  replace hba := (hba.alloc _).below hb
  have hxx := (Hd.new o6 24).below hb
  have fhxx := o6.fm
  replace hB0 : Below w.heap.size w w7 := (hB0.trans ((below_alloc w6 _).mono hB0.size)).trans (hb.mono (Nat.le_trans hB0.size (below_alloc w6 _).size))
  clear o6
  clear hb
  have q0 := hA.box.c0
  have q1 := hA.box.c1
  have q2 := hA.box.lt
  go_wp2_with fail
  refine (lsumH (hA.alloc _) (Hd.new o7 24) sz.bx sz.yz sz.xyz').mono ?_
  rintro e w8 ⟨n8, p8, m8, d8, ws8, rfl, o8, hb⟩
  clear q0 q1 q2
  replace hA := (hA.alloc _).below hb
  replace hB := (hB.alloc _).below hb
  replace hC := (hC.alloc _).below hb
  replace hab := (hab.alloc _).below hb
  replace hba := (hba.alloc _).below hb
  replace hxx := (hxx.alloc _).below hb
  have hbc := (Hd.new o7 24).below hb
  have fhbc := o7.fm
  replace hB0 : Below w.heap.size w w8 := (hB0.trans ((below_alloc w7 _).mono hB0.size)).trans (hb.mono (Nat.le_trans hB0.size (below_alloc w7 _).size))
  clear o7
  clear hb
  have q0 := hab.box.c0
  have q1 := hab.box.c1
  have q2 := hab.box.lt
  have q3 := hba.box.c0
  have q4 := hba.box.c1
  have q5 := hba.box.lt
  go_wp2_with fail
  refine (sameH (hab.alloc _) (hba.alloc _) fhab fhba (Int.add_comm _ _)).mono ?_
  rintro e w9 ⟨rfl, hb⟩
  clear q0 q1 q2 q3 q4 q5
  replace hA := (hA.alloc _).below hb
  replace hB := (hB.alloc _).below hb
  replace hC := (hC.alloc _).below hb
  replace hab := (hab.alloc _).below hb
  replace hba := (hba.alloc _).below hb
  replace hxx := (hxx.alloc _).below hb
  replace hbc := (hbc.alloc _).below hb
  have hyy := (Hd.new o8 24).below hb
  have fhyy := o8.fm
  replace hB0 : Below w.heap.size w w9 := (hB0.trans ((below_alloc w8 _).mono hB0.size)).trans (hb.mono (Nat.le_trans hB0.size (below_alloc w8 _).size))
  clear o8
  clear hb
  clear hba fhba
  have q0 := hxx.box.c0
  have q1 := hxx.box.c1
  have q2 := hxx.box.lt
  have q3 := hyy.box.c0
  have q4 := hyy.box.c1
  have q5 := hyy.box.lt
  go_wp2_with fail
  refine (sameH hxx hyy fhxx fhyy (Int.add_assoc _ _ _)).mono ?_
  rintro e w10 ⟨rfl, hb⟩
  clear q0 q1 q2 q3 q4 q5
  clear hbc fhbc
  replace hA := hA.below hb
  replace hB := hB.below hb
  replace hC := hC.below hb
  replace hab := hab.below hb
  replace hxx := hxx.below hb
  replace hyy := hyy.below hb
  replace hB0 : Below w.heap.size w w10 := hB0.trans (hb.mono hB0.size)
  clear hb
  clear hxx hyy fhxx fhyy
  have q0 := hA.box.c0
  have q1 := hA.box.c1
  have q2 := hA.box.lt
  have q3 := hB.box.c0
  have q4 := hB.box.c1
  have q5 := hB.box.lt
  go_wp2_with fail
  refine (ltimesH hA hB sz.bx sz.by' sz.mxy).mono ?_
  rintro e w11 ⟨n11, p11, m11, d11, ws11, rfl, o11, hb⟩
  clear q0 q1 q2 q3 q4 q5
  replace hA := hA.below hb
  replace hB := hB.below hb
  replace hC := hC.below hb
  replace hab := hab.below hb
  replace hB0 : Below w.heap.size w w11 := hB0.trans (hb.mono hB0.size)
  clear hb
  have q0 := hB.box.c0
  have q1 := hB.box.c1
  have q2 := hB.box.lt
  have q3 := hA.box.c0
  have q4 := hA.box.c1
  have q5 := hA.box.lt
  go_wp2_with fail
  refine (ltimesH (hB.alloc _) (hA.alloc _) sz.by' sz.bx sz.myx).mono ?_
  rintro e w12 ⟨n12, p12, m12, d12, ws12, rfl, o12, hb⟩
  clear q0 q1 q2 q3 q4 q5
  replace hA := (hA.alloc _).below hb
  replace hB := (hB.alloc _).below hb
  replace hC := (hC.alloc _).below hb
  replace hab := (hab.alloc _).below hb
  have hm := (Hd.new o11 24).below hb
  have fhm := o11.fm
  replace hB0 : Below w.heap.size w w12 := (hB0.trans ((below_alloc w11 _).mono hB0.size)).trans (hb.mono (Nat.le_trans hB0.size (below_alloc w11 _).size))
  clear o11
  clear hb
  have q0 := hab.box.c0
  have q1 := hab.box.c1
  have q2 := hab.box.lt
  have q3 := hC.box.c0
  have q4 := hC.box.c1
  have q5 := hC.box.lt
  go_wp2_with fail
  refine (ltimesH (hab.alloc _) (hC.alloc _) sz.xy sz.bz sz.msz).mono ?_
  rintro e w13 ⟨n13, p13, m13, d13, ws13, rfl, o13, hb⟩
  clear q0 q1 q2 q3 q4 q5
  replace hA := (hA.alloc _).below hb
  replace hB := (hB.alloc _).below hb
  replace hC := (hC.alloc _).below hb
  replace hab := (hab.alloc _).below hb
  replace hm := (hm.alloc _).below hb
  have hn := (Hd.new o12 24).below hb
  have fhn := o12.fm
  replace hB0 : Below w.heap.size w w13 := (hB0.trans ((below_alloc w12 _).mono hB0.size)).trans (hb.mono (Nat.le_trans hB0.size (below_alloc w12 _).size))
  clear o12
  clear hb
  have q0 := hA.box.c0
  have q1 := hA.box.c1
  have q2 := hA.box.lt
  have q3 := hC.box.c0
  have q4 := hC.box.c1
  have q5 := hC.box.lt
  go_wp2_with fail
  refine (ltimesH (hA.alloc _) (hC.alloc _) sz.bx sz.bz sz.mxz).mono ?_
  rintro e w14 ⟨n14, p14, m14, d14, ws14, rfl, o14, hb⟩
  clear q0 q1 q2 q3 q4 q5
  replace hA := (hA.alloc _).below hb
  replace hB := (hB.alloc _).below hb
  replace hC := (hC.alloc _).below hb
  replace hab := (hab.alloc _).below hb
  replace hm := (hm.alloc _).below hb
  replace hn := (hn.alloc _).below hb
  have hl := (Hd.new o13 24).below hb
  have fhl := o13.fm
  replace hB0 : Below w.heap.size w w14 := (hB0.trans ((below_alloc w13 _).mono hB0.size)).trans (hb.mono (Nat.le_trans hB0.size (below_alloc w13 _).size))
  clear o13
  clear hb
  have q0 := hC.box.c0
  have q1 := hC.box.c1
  have q2 := hC.box.lt
  have q3 := hB.box.c0
  have q4 := hB.box.c1
  have q5 := hB.box.lt
  go_wp2_with fail
  refine (ltimesH (hC.alloc _) (hB.alloc _) sz.bz sz.by' sz.mzy).mono ?_
  rintro e w15 ⟨n15, p15, m15, d15, ws15, rfl, o15, hb⟩
  clear q0 q1 q2 q3 q4 q5
  replace hA := (hA.alloc _).below hb
  replace hB := (hB.alloc _).below hb
  replace hC := (hC.alloc _).below hb
  replace hab := (hab.alloc _).below hb
  replace hm := (hm.alloc _).below hb
  replace hn := (hn.alloc _).below hb
  replace hl := (hl.alloc _).below hb
  have hac := (Hd.new o14 24).below hb
  have fhac := o14.fm
  replace hB0 : Below w.heap.size w w15 := (hB0.trans ((below_alloc w14 _).mono hB0.size)).trans (hb.mono (Nat.le_trans hB0.size (below_alloc w14 _).size))
  clear o14
  clear hb
  have q0 := hac.box.c0
  have q1 := hac.box.c1
  have q2 := hac.box.lt
  go_wp2_with fail
  refine (lsumH (hac.alloc _) (Hd.new o15 24) sz.mxz sz.mzy sz.ms).mono ?_
  rintro e w16 ⟨n16, p16, m16, d16, ws16, rfl, o16, hb⟩
  clear q0 q1 q2
  replace hA := (hA.alloc _).below hb
  replace hB := (hB.alloc _).below hb
  replace hC := (hC.alloc _).below hb
  replace hab := (hab.alloc _).below hb
  replace hm := (hm.alloc _).below hb
  replace hn := (hn.alloc _).below hb
  replace hl := (hl.alloc _).below hb
  replace hac := (hac.alloc _).below hb
  have hcb := (Hd.new o15 24).below hb
  have fhcb := o15.fm
  replace hB0 : Below w.heap.size w w16 := (hB0.trans ((below_alloc w15 _).mono hB0.size)).trans (hb.mono (Nat.le_trans hB0.size (below_alloc w15 _).size))
  clear o15
  clear hb
  have q0 := hm.box.c0
  have q1 := hm.box.c1
  have q2 := hm.box.lt
  have q3 := hn.box.c0
  have q4 := hn.box.c1
  have q5 := hn.box.lt
  go_wp2_with fail
  refine (sameH (hm.alloc _) (hn.alloc _) fhm fhn (Int.mul_comm _ _)).mono ?_
  rintro e w17 ⟨rfl, hb⟩
  clear q0 q1 q2 q3 q4 q5
  replace hA := (hA.alloc _).below hb
  replace hB := (hB.alloc _).below hb
  replace hC := (hC.alloc _).below hb
  replace hab := (hab.alloc _).below hb
  replace hm := (hm.alloc _).below hb
  replace hn := (hn.alloc _).below hb
  replace hl := (hl.alloc _).below hb
  replace hac := (hac.alloc _).below hb
  replace hcb := (hcb.alloc _).below hb
  have hzz := (Hd.new o16 24).below hb
  have fhzz := o16.fm
  replace hB0 : Below w.heap.size w w17 := (hB0.trans ((below_alloc w16 _).mono hB0.size)).trans (hb.mono (Nat.le_trans hB0.size (below_alloc w16 _).size))
  clear o16
  clear hb
  clear hm hn fhm fhn hac hcb fhac fhcb
  have q0 := hl.box.c0
  have q1 := hl.box.c1
  have q2 := hl.box.lt
  have q3 := hzz.box.c0
  have q4 := hzz.box.c1
  have q5 := hzz.box.lt
  go_wp2_with fail
  refine (sameH hl hzz fhl fhzz (by rw [Int.add_mul, Int.mul_comm y z])).mono ?_
  rintro e w18 ⟨rfl, hb⟩
  clear q0 q1 q2 q3 q4 q5
  replace hA := hA.below hb
  replace hB := hB.below hb
  replace hC := hC.below hb
  replace hab := hab.below hb
  replace hl := hl.below hb
  replace hzz := hzz.below hb
  replace hB0 : Below w.heap.size w w18 := hB0.trans (hb.mono hB0.size)
  clear hb
  clear hl hzz fhl fhzz hC
  have q0 := hab.box.c0
  have q1 := hab.box.c1
  have q2 := hab.box.lt
  have q3 := hB.box.c0
  have q4 := hB.box.c1
  have q5 := hB.box.lt
  go_wp2_with fail
  refine (subH hab hB sz.xy sz.by' sz.sxy).mono ?_
  rintro e w19 ⟨n19, p19, m19, d19, ws19, rfl, o19, hb⟩
  clear q0 q1 q2 q3 q4 q5
  replace hA := hA.below hb
  replace hB := hB.below hb
  replace hab := hab.below hb
  replace hB0 : Below w.heap.size w w19 := hB0.trans (hb.mono hB0.size)
  clear hb
  clear fhab
  have q0 := hA.box.c0
  have q1 := hA.box.c1
  have q2 := hA.box.lt
  go_wp2_with fail
  clear q0 q1 q2
  have hD := Hd.new o19 24
  replace hA := hA.alloc (.cells #[.bool n19, .slice p19 m19 d19] 24)
  replace hB0 : Below w.heap.size w (w19.alloc (.cells #[.bool n19, .slice p19 m19 d19] 24)) := hB0.trans ((below_alloc w19 _).mono hB0.size)
  clear o19 hB hab
  obtain ⟨W1, hW1⟩ : ∃ W1, w19.alloc (.cells #[.bool n19, .slice p19 m19 d19] 24) = W1 := ⟨_, rfl⟩
  rw [hW1] at hD hA hB0 ⊢
  clear hW1
  have BM : (x * 1).natAbs < pw 256 := by rw [Int.mul_one]; exact sz.bx
  go_cut [26, 27] from 180 to 185 (fun s26 s27 W => ∃ N n p m d ws, s26 = .pointer (some ⟨N, 0, none⟩) ∧ s27 = .int .i64 0 ∧ Hd W N n p m d ws (x * 1) ∧ Fm n ws ∧ Hd W w.heap.size na a0 l0 c0 xs x ∧ Hd W w19.heap.size n19 p19 m19 d19 ws19 (x + y - y) ∧ Below w.heap.size w W)
  case first =>
    rename_i J K hJ hK
    have q0 := hA.box.c0
    have q1 := hA.box.c1
    have q2 : w.heap.size < W1.heap.size := hA.box.lt
    go_region_held3 (fun W => (W.cell? ⟨w.heap.size, 0, none⟩ = some (.bool na) ∧ W.cell? ⟨w.heap.size, 1, none⟩ = some (.slice a0 l0 c0)) ∧ Below W1.heap.size W1 W)
      (first | exact P2.start q0 q1 | assumption | exact P2.put2 hK21 (by first | exact hm20 | exact q2) (by first | exact hl20 | exact Nat.le_refl _) _ _ | exact P2.keep (by assumption) hb20 | exact P2.keep hP hb21 | exact P2.keep (by assumption) (below_alloc _ _) | exact P2.keep hK21 (below_alloc _ _) | fail)
      (first | (go_at_call 36; refine (ofH 1 _ one_few one_lo one_hi).mono ?_; rintro e w20 ⟨n20, p20, m20, d20, ws20, rfl, o20, hb20⟩; (first | (have hX20 : Box2 w20 W1.heap.size false none 0 0 := (Box2.new W1.drew false none 0 0 24).below hb20; have r0 := hX20.c0; have r1 := hX20.c1; have r2 := hX20.f0; have r3 := hX20.f1) | (have hl20 : W1.heap.size ≤ w20.heap.size := hb20.size; have hm20 : w.heap.size < w20.heap.size := Nat.lt_of_lt_of_le q2 hl20)))
             | (go_at_call 18; have hP : P2 W1 ⟨w.heap.size, 0, none⟩ ⟨w.heap.size, 1, none⟩ (.bool na) (.slice a0 l0 c0) w20 := (by assumption); refine (mulH (sx := hA.sl.below (P2.below hP)) (sy := o20.sl) (ox := hA.ok) (oy := o20.ok) (lx := hA.le) (ly := o20.le) hA.num o20.num sz.bx one_few BM).mono ?_; rintro e w21 ⟨n21, p21, m21, d21, ws21, rfl, o21, hb21⟩; have hK21 := P2.keep hP hb21; (first | (have hX21 := hX20.below hb21; clear r0 r1 r2 r3; have r0 := hX21.c0; have r1 := hX21.c1; have r2 := hX21.f0; have r3 := hX21.f1) | skip))
             | (go_at_call 18; have hP : P2 W1 ⟨w.heap.size, 0, none⟩ ⟨w.heap.size, 1, none⟩ (.bool na) (.slice a0 l0 c0) (w20.alloc (.cells #[.bool false, .slice none 0 0] 24)) := (by assumption); refine (mulH (sx := hA.sl.below (P2.below hP)) (sy := o20.sl.below (below_alloc _ _)) (ox := hA.ok) (oy := o20.ok) (lx := hA.le) (ly := o20.le) hA.num o20.num sz.bx one_few BM).mono ?_; rintro e w21 ⟨n21, p21, m21, d21, ws21, rfl, o21, hb21⟩; have hK21 := P2.keep hP hb21; have hX21 := (Box2.new w20 false none 0 0 24).below hb21; have r0 := hX21.c0; have r1 := hX21.c1; have r2 := hX21.f0; have r3 := hX21.f1)
             | fail)
    all_goals (refine hK _ _ (Met.intro (hJ _ _ ?_)); (repeat apply Exists.intro); refine ⟨?_, rfl⟩; rename_i hHeld)
    · exact ⟨_, _, _, _, _, _, rfl, rfl, Hd.new o21 _, o21.fm, hA.below (P2.below hHeld), hD.below (P2.below hHeld), hB0.trans ((P2.below hHeld).mono hB0.size)⟩
    · exact ⟨_, _, _, _, _, _, rfl, rfl, Hd.putNew o21 hX21, o21.fm, hA.below (P2.below hHeld), hD.below (P2.below hHeld), hB0.trans ((P2.below hHeld).mono hB0.size)⟩
    · exact ⟨_, _, _, _, _, _, rfl, rfl, Hd.putNew o21 hX21, o21.fm, hA.below (P2.below hHeld), hD.below (P2.below hHeld), hB0.trans ((P2.below hHeld).mono hB0.size)⟩
  case rest =>
    obtain ⟨O, n21, p21, m21, d21, ws21, rfl, rfl, hO, _, hA, hD, hB0⟩ := hcut
    have BN : (-x).natAbs < pw 256 := by rw [Int.natAbs_neg]; exact sz.bx
    have BZ : (x + -x).natAbs < pw 256 := by rw [Int.add_right_neg]; exact zero_few
    obtain ⟨W2, hW2⟩ : ∃ W2, wc = W2 := ⟨_, rfl⟩
    subst hW2
    clear BM
    go_wp2_with fail
    go_cut [28, 29] from 186 to 192 (fun s28 s29 W => ∃ N n p m d ws, s28 = .pointer (some ⟨N, 0, none⟩) ∧ s29 = .int .i64 0 ∧ Hd W N n p m d ws (x + -x) ∧ Fm n ws ∧ Hd W w.heap.size na a0 l0 c0 xs x ∧ Hd W w19.heap.size n19 p19 m19 d19 ws19 (x + y - y) ∧ Hd W O n21 p21 m21 d21 ws21 (x * 1) ∧ Below w.heap.size w W)
    case first =>
      rename_i J K hJ hK
      have q0 := hA.box.c0
      have q1 := hA.box.c1
      have q2 : w.heap.size < wc.heap.size := hA.box.lt
      go_region_held3 (fun W => (W.cell? ⟨w.heap.size, 0, none⟩ = some (.bool na) ∧ W.cell? ⟨w.heap.size, 1, none⟩ = some (.slice a0 l0 c0)) ∧ Below wc.heap.size wc W)
        (first | exact P2.start q0 q1 | assumption | exact P2.put2 hK23 (by first | exact hm22 | exact q2) (by first | exact hl22 | exact Nat.le_refl _) _ _ | exact P2.keep (by assumption) hb22 | exact P2.keep hP hb23 | exact P2.keep (by assumption) (below_alloc _ _) | exact P2.keep hK23 (below_alloc _ _) | fail)
        (first | (go_at_call 20; refine (negH (hA.sl.below (P2.below (by assumption))) hA.ok hA.le hA.num sz.bx).mono ?_; rintro e w22 ⟨n22, p22, m22, d22, ws22, rfl, o22, hb22⟩; (first | (have hX22 : Box2 w22 wc.heap.size false none 0 0 := (Box2.new wc.drew false none 0 0 24).below hb22; have r0 := hX22.c0; have r1 := hX22.c1; have r2 := hX22.f0; have r3 := hX22.f1) | (have hl22 : wc.heap.size ≤ w22.heap.size := hb22.size; have hm22 : w.heap.size < w22.heap.size := Nat.lt_of_lt_of_le q2 hl22)))
               | (go_at_call 12; have hP : P2 wc ⟨w.heap.size, 0, none⟩ ⟨w.heap.size, 1, none⟩ (.bool na) (.slice a0 l0 c0) w22 := (by assumption); refine (addH (sx := hA.sl.below (P2.below hP)) (sy := o22.sl) (ox := hA.ok) (oy := o22.ok) (lx := hA.le) (ly := o22.le) hA.num o22.num sz.bx BN BZ).mono ?_; rintro e w23 ⟨n23, p23, m23, d23, ws23, rfl, o23, hb23⟩; have hK23 := P2.keep hP hb23; (first | (have hX23 := hX22.below hb23; clear r0 r1 r2 r3; have r0 := hX23.c0; have r1 := hX23.c1; have r2 := hX23.f0; have r3 := hX23.f1) | skip))
               | (go_at_call 12; have hP : P2 wc ⟨w.heap.size, 0, none⟩ ⟨w.heap.size, 1, none⟩ (.bool na) (.slice a0 l0 c0) (w22.alloc (.cells #[.bool false, .slice none 0 0] 24)) := (by assumption); refine (addH (sx := hA.sl.below (P2.below hP)) (sy := o22.sl.below (below_alloc _ _)) (ox := hA.ok) (oy := o22.ok) (lx := hA.le) (ly := o22.le) hA.num o22.num sz.bx BN BZ).mono ?_; rintro e w23 ⟨n23, p23, m23, d23, ws23, rfl, o23, hb23⟩; have hK23 := P2.keep hP hb23; have hX23 := (Box2.new w22 false none 0 0 24).below hb23; have r0 := hX23.c0; have r1 := hX23.c1; have r2 := hX23.f0; have r3 := hX23.f1)
               | fail)
      all_goals (refine hK _ _ (Met.intro (hJ _ _ ?_)); (repeat apply Exists.intro); refine ⟨?_, rfl⟩; rename_i hHeld)
      · exact ⟨_, _, _, _, _, _, rfl, rfl, Hd.new o23 _, o23.fm, hA.below (P2.below hHeld), hD.below (P2.below hHeld), hO.below (P2.below hHeld), hB0.trans ((P2.below hHeld).mono hB0.size)⟩
      · exact ⟨_, _, _, _, _, _, rfl, rfl, Hd.putNew o23 hX23, o23.fm, hA.below (P2.below hHeld), hD.below (P2.below hHeld), hO.below (P2.below hHeld), hB0.trans ((P2.below hHeld).mono hB0.size)⟩
      · exact ⟨_, _, _, _, _, _, rfl, rfl, Hd.putNew o23 hX23, o23.fm, hA.below (P2.below hHeld), hD.below (P2.below hHeld), hO.below (P2.below hHeld), hB0.trans ((P2.below hHeld).mono hB0.size)⟩
    case rest =>
      obtain ⟨Z, n23, p23, m23, d23, ws23, rfl, rfl, hZ, fZ, hA, hD, hO, hB0⟩ := hcut
      obtain ⟨rfl, rfl⟩ := Hd.zeroIs hZ fZ (Int.add_right_neg x)
      have hN := hZ.box
      clear hZ fZ BN BZ
      have q0 := hA.box.c0
      have q1 := hA.box.c1
      have q2 := hD.box.c0
      have q3 := hD.box.c1
      have C1 : cmpI (x + y - y) x = 0 := by rw [Int.add_sub_cancel]; simp [cmpI]
      have C2 : cmpI (x * 1) x = 0 := by rw [Int.mul_one]; simp [cmpI]
      go_wp2_with fail
      refine (cmpH hD hA).mono ?_
      rw [C1]
      rintro e w24 ⟨rfl, hb⟩
      clear q0 q1 q2 q3 C1
      replace hA := hA.below hb
      replace hO := hO.below hb
      replace hN := hN.below hb
      replace hB0 : Below w.heap.size w w24 := hB0.trans (hb.mono hB0.size)
      clear hb hD
      have q0 := hA.box.c0
      have q1 := hA.box.c1
      have q2 := hO.box.c0
      have q3 := hO.box.c1
      go_wp2_with fail
      refine (cmpH hO hA).mono ?_
      rw [C2]
      rintro e w25 ⟨rfl, hb⟩
      clear q0 q1 q2 q3 C2
      replace hN := hN.below hb
      replace hB0 : Below w.heap.size w w25 := hB0.trans (hb.mono hB0.size)
      clear hb hO hA
      have q0 := hN.c0
      have q1 := hN.c1
      go_wp2_with fail
      refine (awake_any w25).mono ?_
      rintro e w26 ⟨rfl, hb⟩
      go_wp2
      go_ret
      exact ⟨rfl, hB0.trans (hb.mono hB0.size)⟩

end Go.Proofs.Ytpaiaagjlkdfgaa
