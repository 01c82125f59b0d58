/-
  WholeSums, walked.
-/
import Derived.Test.YteplmnnpmekngaaLent
import Derived.Test.YteplmnnpmekngaaRCmp
import Derived.Test.YteplmnnpmekngaaMf
namespace Go.Proofs.Yteplmnnpmekngaa
open Go.RowKit

/-- The two numbers in their boxes, and what was lent in its boxes, all below block T. -/
structure St (w : World) (T P Q : Nat) (na : Bool) (a0 : Option Addr) (l0 c0 : Nat) (nb : Bool) (a1 : Option Addr) (l1 c1 g h cp cq : Nat) (xs ys : List Nat) (W : World) : Prop where
  bA : Box2 W w.heap.size na a0 l0 c0
  bB : Box2 W (w.heap.size + 1) nb a1 l1 c1
  bP : Box2 W P na (some ⟨g, 0, none⟩) l0 cp
  bQ : Box2 W Q nb (some ⟨h, 0, none⟩) l1 cq
  lP : LentAt w.heap.size W g l0 cp xs
  lQ : LentAt w.heap.size W h l1 cq ys
  sA : Sl .u32 W (.slice a0 l0 c0) xs
  sB : Sl .u32 W (.slice a1 l1 c1) ys
  bel : Below w.heap.size w W
  t0 : w.heap.size + 1 < T
  tP : P < T
  tQ : Q < T
  tg : g < T
  th : h < T
  tW : T ≤ W.heap.size
theorem Box2.lower {w w' : World} {B N : Nat} {neg : Bool} {a : Option Addr} {n cap : Nat} (h : Box2 w N neg a n cap) (hb : Below B w w') (hN : N < B) : Box2 w' N neg a n cap :=
  ⟨(hb.cell (p := ⟨N, 0, none⟩) hN).trans h.c0, (hb.cell (p := ⟨N, 1, none⟩) hN).trans h.c1, (hb.frozen (p := ⟨N, 0, none⟩) hN).trans h.f0, (hb.frozen (p := ⟨N, 1, none⟩) hN).trans h.f1⟩
theorem LentAt.lower {A B : Nat} {w w' : World} {g n cap : Nat} {xs : List Nat} (h : LentAt A w g n cap xs) (hb : Below B w w') (hg : g < B) : LentAt A w' g n cap xs := ⟨h.len, h.room, h.ge, h.seg.below hb hg⟩
section
variable {w W W' : World} {T P Q : Nat} {na : Bool} {a0 : Option Addr} {l0 c0 : Nat} {nb : Bool} {a1 : Option Addr} {l1 c1 g h cp cq : Nat} {xs ys : List Nat}
theorem St.keep {B : Nat} (s : St w T P Q na a0 l0 c0 nb a1 l1 c1 g h cp cq xs ys W) (hb : Below B W W') (hB : T ≤ B) (hx : Sl .u32 w (.slice a0 l0 c0) xs) (hy : Sl .u32 w (.slice a1 l1 c1) ys) : St w T P Q na a0 l0 c0 nb a1 l1 c1 g h cp cq xs ys W' := by
  have t0 := s.t0
  have tP := s.tP
  have tQ := s.tQ
  have tg := s.tg
  have th := s.th
  have bel : Below w.heap.size w W' := s.bel.trans (hb.mono (by omega))
  exact ⟨s.bA.lower hb (by omega), s.bB.lower hb (by omega), s.bP.lower hb (by omega), s.bQ.lower hb (by omega), s.lP.lower hb (by omega), s.lQ.lower hb (by omega), hx.below bel, hy.below bel, bel, t0, tP, tQ, tg, th, Nat.le_trans s.tW hb.size⟩
end
/-- What a sum or product is, or 0 where it is refused; and the error. -/
def refused (x y : Nat) (z : Int) : Bool := decide (pw 256 ≤ x ∨ pw 256 ≤ y ∨ pw 256 ≤ z.natAbs)
def given (x y : Nat) (z : Int) : Int := if refused x y z = true then 0 else z
def errOf (x y : Nat) (z : Int) : Int := if refused x y z = true then 3 else 0
theorem SumRes.ans {B : Nat} {w : World} {n : Bool} {a : Option Addr} {l c : Nat} {k z : Int} {x y : Nat} (h : SumRes B w (.agg #[.bool n, .slice a l c]) k x y z) :
    (∃ zs, Ow .u32 B w (.slice a l c) zs ∧ okw zs ∧ Fm n zs ∧ zs.length ≤ 256 ∧ zv n (val zs) = given x y z) ∧ k = errOf x y z := by
  have nil : ∀ {n : Bool} {a : Option Addr} {l c : Nat}, Value.agg #[.bool n, .slice a l c] = .agg #[.bool false, .slice none 0 0] → refused x y z = true → ∃ zs, Ow .u32 B w (.slice a l c) zs ∧ okw zs ∧ Fm n zs ∧ zs.length ≤ 256 ∧ zv n (val zs) = given x y z := by
    intro n a l c e hr
    cases e
    refine ⟨[], Ow_nil _ _ _ _ _, okw_nil, ⟨Or.inl rfl, fun _ => rfl⟩, by simp, ?_⟩
    unfold given
    rw [if_pos hr]
    simp [zv, val]
  rcases h with ⟨h1, h2, h3⟩ | ⟨⟨hx, hy⟩, ⟨hz, h2, h3⟩ | ⟨hz, h2, h3⟩⟩
  · have hr : refused x y z = true := decide_eq_true (h1.elim Or.inl (fun h => Or.inr (Or.inl h)))
    exact ⟨nil h3 hr, by unfold errOf; rw [if_pos hr]; exact h2⟩
  · have hr : ¬ refused x y z = true := by unfold refused; simp only [decide_eq_true_eq]; omega
    obtain ⟨zs, o, k', f, e⟩ := h3.open
    refine ⟨⟨zs, o, k', f, Tr_len_le f.tr 256 (by rw [← zv_abs n (val zs), e]; exact hz), ?_⟩, ?_⟩
    · unfold given; rw [if_neg hr]; exact e
    · unfold errOf; rw [if_neg hr]; exact h2
  · have hr : refused x y z = true := decide_eq_true (Or.inr (Or.inr hz))
    exact ⟨nil h3 hr, by unfold errOf; rw [if_pos hr]; exact h2⟩
theorem Ow.away_low {B M : Nat} {w : World} {a : Option Addr} {l c : Nat} {zs : List Nat} (h : Ow .u32 B w (.slice a l c) zs) (hM : M < B) : zs ≠ [] → ∀ o, a ≠ some ⟨M, o, none⟩ := fun h0 o e => by
  obtain ⟨b, off, hp, hge, _, _⟩ := h.place
  rw [(hp h0).1] at e
  injection e with e
  injection e with e
  omega
theorem Ow.away_high {B M : Nat} {w : World} {a : Option Addr} {l c : Nat} {zs : List Nat} (h : Ow .u32 B w (.slice a l c) zs) (hM : w.heap.size ≤ M) : zs ≠ [] → ∀ o, a ≠ some ⟨M, o, none⟩ := fun h0 o e => by
  obtain ⟨b, off, hp, hge, _, _⟩ := h.place
  have := (hp h0).2
  rw [(hp h0).1] at e
  injection e with e
  injection e with e
  omega

theorem st_cells {w W : World} {T P Q X : Nat} {na : Bool} {a0 : Option Addr} {l0 c0 : Nat} {nb : Bool} {a1 : Option Addr} {l1 c1 g h cp cq : Nat} {xs ys : List Nat} {n7 : Bool} {a7 : Option Addr} {l7 c7 : Nat} (s : St w T P Q na a0 l0 c0 nb a1 l1 c1 g h cp cq xs ys W) (b : Box2 W X n7 a7 l7 c7) :
    W.cell? ⟨X, 0, none⟩ = some (.bool n7) ∧ W.cell? ⟨X, 1, none⟩ = some (.slice a7 l7 c7) ∧ W.cell? ⟨w.heap.size, 0, none⟩ = some (.bool na) ∧ W.cell? ⟨w.heap.size, 1, none⟩ = some (.slice a0 l0 c0) ∧ W.cell? ⟨w.heap.size + 1, 0, none⟩ = some (.bool nb) ∧ W.cell? ⟨w.heap.size + 1, 1, none⟩ = some (.slice a1 l1 c1) ∧ W.cell? ⟨P, 0, none⟩ = some (.bool na) ∧ W.cell? ⟨P, 1, none⟩ = some (.slice (some ⟨g, 0, none⟩) l0 cp) ∧ W.cell? ⟨Q, 0, none⟩ = some (.bool nb) ∧ W.cell? ⟨Q, 1, none⟩ = some (.slice (some ⟨h, 0, none⟩) l1 cq) :=
  ⟨b.c0, b.c1, s.bA.c0, s.bA.c1, s.bB.c0, s.bB.c1, s.bP.c0, s.bP.c1, s.bQ.c0, s.bQ.c1⟩

theorem sums_far (na nb : Bool) (a0 a1 : Option Addr) (l0 c0 l1 c1 : Nat) (w : World) (h : 600 < l0 ∨ 600 < l1) :
    Calls Try.prog 3 #[.agg #[.bool na, .slice a0 l0 c0], .agg #[.bool nb, .slice a1 l1 c1]] w fun e w' => e = .returned (.bool true) ∧ Below w.heap.size w w' := by
  have hbs := boxes2 w na nb a0 a1 l0 c0 l1 c1 24
  go_enter Try.func3, Try.ntmps3
  go_wp2_with fail
  obtain ⟨W0, hW0⟩ : ∃ W0, (w.alloc (.cells #[.bool na, .slice a0 l0 c0] 24)).alloc (.cells #[.bool nb, .slice a1 l1 c1] 24) = W0 := ⟨_, rfl⟩
  simp only [hW0] at hbs
  rw [hW0]
  clear hW0
  obtain ⟨hA, hB, hB0⟩ := hbs
  refine (large_any na a0 l0 c0 W0).mono ?_
  rintro e w1 ⟨rfl, hb1⟩
  replace hB := hB.below hb1
  replace hB0 : Below w.heap.size w w1 := hB0.trans (hb1.mono hB0.size)
  clear hb1 hA
  by_cases h1 : 600 < l0
  · have hd : decide (600 < l0) = true := by simpa using h1
    rw [hd]
    clear hd h h1
    go_wp2_with fail
    refine (awake_any w1).mono ?_
    rintro e w2 ⟨rfl, hb2⟩
    go_wp2
    go_ret
    exact ⟨rfl, hB0.trans (hb2.mono hB0.size)⟩
  · have hd : decide (600 < l0) = false := by simpa using h1
    rw [hd]
    clear hd
    have b0 := hB.c0
    have b1 := hB.c1
    go_wp2_with fail
    refine (large_any nb a1 l1 c1 w1).mono ?_
    rintro e w2 ⟨rfl, hb2⟩
    have hd : decide (600 < l1) = true := by simp; omega
    rw [hd]
    replace hB0 : Below w.heap.size w w2 := hB0.trans (hb2.mono hB0.size)
    clear hd b0 b1 hb2 h h1
    go_wp2_with fail
    refine (awake_any w2).mono ?_
    rintro e w3 ⟨rfl, hb3⟩
    go_wp2
    go_ret
    exact ⟨rfl, hB0.trans (hb3.mono hB0.size)⟩

set_option maxRecDepth 100000 in
set_option maxHeartbeats 8000000 in
theorem sums_near (na nb : Bool) (a0 a1 : Option Addr) (l0 c0 l1 c1 : Nat) (xs ys : List Nat) (w : World) (hx : Sl .u32 w (.slice a0 l0 c0) xs) (hy : Sl .u32 w (.slice a1 l1 c1) ys) (ox : okw xs) (oy : okw ys) (g0 : l0 ≤ 600) (g1 : l1 ≤ 600) :
    Calls Try.prog 3 #[.agg #[.bool na, .slice a0 l0 c0], .agg #[.bool nb, .slice a1 l1 c1]] w fun e w' => e = .returned (.bool true) ∧ Below w.heap.size w w' := by
  have lx : xs.length ≤ 600 := by rw [← hx.len]; exact g0
  have ly : ys.length ≤ 600 := by rw [← hy.len]; exact g1
  have hbs := boxes2 w na nb a0 a1 l0 c0 l1 c1 24
  go_enter Try.func3, Try.ntmps3
  go_wp2_with fail
  obtain ⟨W0, hW0⟩ : ∃ W0, (w.alloc (.cells #[.bool na, .slice a0 l0 c0] 24)).alloc (.cells #[.bool nb, .slice a1 l1 c1] 24) = W0 := ⟨_, rfl⟩
  simp only [hW0] at hbs
  rw [hW0]
  clear hW0
  obtain ⟨hA, hB, hB0⟩ := hbs
  refine (large_any na a0 l0 c0 W0).mono ?_
  rintro e w1 ⟨rfl, hb1⟩
  have hd : decide (600 < l0) = false := by simp; omega
  rw [hd]
  clear hd
  replace hA := hA.below hb1
  replace hB := hB.below hb1
  replace hB0 : Below w.heap.size w w1 := hB0.trans (hb1.mono hB0.size)
  clear hb1
  clear W0
  have b0 := hB.c0
  have b1 := hB.c1
  go_wp2_with fail
  refine (large_any nb a1 l1 c1 w1).mono ?_
  rintro e w2 ⟨rfl, hb1⟩
  have hd : decide (600 < l1) = false := by simp; omega
  rw [hd]
  clear hd
  replace hA := hA.below hb1
  replace hB := hB.below hb1
  replace hB0 : Below w.heap.size w w2 := hB0.trans (hb1.mono hB0.size)
  clear hb1 b0 b1
  clear w1
  have q0 := hA.c0
  have q1 := hA.c1
  go_wp2_with fail
  refine (lent_any na a0 l0 c0 xs w2 (hx.below hB0) (by omega)).mono ?_
  rintro e w3 ⟨g, cp, rfl, hP, hb1⟩
  replace hA := hA.below hb1
  replace hB := hB.below hb1
  replace hP : LentAt w.heap.size w3 g l0 cp xs := ⟨hP.len, hP.room, Nat.le_trans hB0.size hP.ge, hP.seg⟩
  replace hB0 : Below w.heap.size w w3 := hB0.trans (hb1.mono hB0.size)
  clear hb1 q0 q1
  clear w2
  have q0 := (hB.below (below_alloc w3 (.cells #[.bool na, .slice (some ⟨g, 0, none⟩) l0 cp] 24))).c0
  have q1 := (hB.below (below_alloc w3 (.cells #[.bool na, .slice (some ⟨g, 0, none⟩) l0 cp] 24))).c1
  go_wp2_with fail
  have hb1 := below_alloc w3 (.cells #[.bool na, .slice (some ⟨g, 0, none⟩) l0 cp] 24)
  have bP := Box2.new w3 na (some ⟨g, 0, none⟩) l0 cp 24
  clear q0 q1
  obtain ⟨w4, hW4⟩ : ∃ w4, w3.alloc (.cells #[.bool na, .slice (some ⟨g, 0, none⟩) l0 cp] 24) = w4 := ⟨_, rfl⟩
  rw [hW4] at hb1 bP ⊢
  clear hW4
  obtain ⟨P, hPP⟩ : ∃ P, w3.heap.size = P := ⟨_, rfl⟩
  rw [hPP] at bP ⊢
  clear hPP
  replace hA := hA.below hb1
  replace hB := hB.below hb1
  replace hP := hP.below hb1
  replace hB0 : Below w.heap.size w w4 := hB0.trans (hb1.mono hB0.size)
  clear hb1
  clear w3
  refine (lent_any nb a1 l1 c1 ys w4 (hy.below hB0) (by omega)).mono ?_
  rintro e w5 ⟨h, cq, rfl, hQ, hb1⟩
  replace hA := hA.below hb1
  replace hB := hB.below hb1
  replace hP := hP.below hb1
  replace bP := bP.below hb1
  replace hQ : LentAt w.heap.size w5 h l1 cq ys := ⟨hQ.len, hQ.room, Nat.le_trans hB0.size hQ.ge, hQ.seg⟩
  replace hB0 : Below w.heap.size w w5 := hB0.trans (hb1.mono hB0.size)
  clear hb1
  clear w4
  have hb1 := below_alloc w5 (.cells #[.bool nb, .slice (some ⟨h, 0, none⟩) l1 cq] 24)
  have bQ := Box2.new w5 nb (some ⟨h, 0, none⟩) l1 cq 24
  have q0 := (bP.below hb1).c0
  have q1 := (bP.below hb1).c1
  go_wp2_with fail
  clear q0 q1
  obtain ⟨w6, hW4⟩ : ∃ w4, w5.alloc (.cells #[.bool nb, .slice (some ⟨h, 0, none⟩) l1 cq] 24) = w4 := ⟨_, rfl⟩
  rw [hW4] at hb1 bQ ⊢
  clear hW4
  obtain ⟨Q, hPP⟩ : ∃ P, w5.heap.size = P := ⟨_, rfl⟩
  rw [hPP] at bQ ⊢
  clear hPP
  replace hA := hA.below hb1
  replace hB := hB.below hb1
  replace hP := hP.below hb1
  replace hQ := hQ.below hb1
  replace bP := bP.below hb1
  replace hB0 : Below w.heap.size w w6 := hB0.trans (hb1.mono hB0.size)
  clear hb1
  clear w5
  have st : St w w6.heap.size P Q na a0 l0 c0 nb a1 l1 c1 g h cp cq xs ys w6 := ⟨hA, hB, bP, bQ, hP, hQ, hx.below hB0, hy.below hB0, hB0, hB.lt, bP.lt, bQ.lt, hP.seg.lt (by simp), hQ.seg.lt (by simp), Nat.le_refl _⟩
  obtain ⟨T, hT⟩ : ∃ T, w6.heap.size = T := ⟨_, rfl⟩
  rw [hT] at st
  clear hT hA hB bP bQ hP hQ hB0
  refine (add_any na nb (some ⟨g, 0, none⟩) (some ⟨h, 0, none⟩) l0 cp l1 cq xs ys w6 st.lP.sl st.lQ.sl ox oy (by omega) (by omega)).mono ?_
  rintro e w7 ⟨n7, a7, l7, c7, k7, rfl, hr7, hb7⟩
  obtain ⟨⟨zs, oz, kz, fz, lz, ez⟩, ek⟩ := hr7.ans
  have HK : Hid (k7 = errOf (val xs) (val ys) (zv na (val xs) + zv nb (val ys))) := ek
  have HE : Hid (zv n7 (val zs) = given (val xs) (val ys) (zv na (val xs) + zv nb (val ys))) := ez
  clear hr7 ek ez
  have sT := st.tW
  replace oz := oz.mono sT
  replace st := st.keep hb7 sT hx hy
  clear hb7 sT
  clear w6
  have hb1 := below_alloc w7 (.cells #[.bool n7, .slice a7 l7 c7] 24)
  have bX := Box2.new w7 n7 a7 l7 c7 24
  have st1 := st.keep hb1 st.tW hx hy
  have q0 := st1.bA.c0
  have q1 := st1.bA.c1
  have q2 := st1.bB.c0
  have q3 := st1.bB.c1
  go_wp2_with fail
  clear q0 q1 q2 q3
  obtain ⟨w8, hW⟩ : ∃ w8, w7.alloc (.cells #[.bool n7, .slice a7 l7 c7] 24) = w8 := ⟨_, rfl⟩
  rw [hW] at hb1 bX st1 ⊢
  clear hW
  have awX := oz.away_high (Nat.le_refl w7.heap.size)
  have tX := st.tW
  obtain ⟨X, hX⟩ : ∃ X, w7.heap.size = X := ⟨_, rfl⟩
  replace oz := oz.below hb1
  rw [hX] at bX awX tX ⊢
  clear hX st hb1
  clear w7
  refine (radd_any na nb a0 a1 l0 c0 l1 c1 xs ys w8 st1.sA st1.sB ox oy (by omega) (by omega)).mono ?_
  rintro e w9 ⟨n9, a9, l9, c9, k9, rfl, hr9, hb9⟩
  obtain ⟨⟨vs, ov, kv, fv, lv, ev⟩, el⟩ := hr9.ans
  obtain rfl : k9 = k7 := el.trans HK.out.symm
  replace ov := ov.mono st1.tW
  have HS := same_true fz fv kz kv (HE.out.trans ev.symm)
  clear hr9 el HK HE ev fz fv kz kv
  have st := st1.keep hb9 st1.tW hx hy
  replace bX := bX.below hb9
  replace oz := oz.below hb9
  clear hb9 st1
  clear w8
  have hb1 := below_alloc w9 (.cells #[.bool n9, .slice a9 l9 c9] 24)
  have bY := Box2.new w9 n9 a9 l9 c9 24
  have awY := oz.away_high (Nat.le_refl w9.heap.size)
  have tY := st.tW
  have hXY := bX.lt
  replace st := st.keep hb1 st.tW hx hy
  replace bX := bX.below hb1
  replace oz := oz.below hb1
  replace ov := ov.below hb1
  have q0 := bX.c0
  have q1 := bX.c1
  have q2 := bY.c0
  have q3 := bY.c1
  have q4 : (k9 == k9) = true := by simp
  go_wp2_with fail
  clear q0 q1 q2 q3 hb1
  obtain ⟨w10, hW⟩ : ∃ w8, w9.alloc (.cells #[.bool n9, .slice a9 l9 c9] 24) = w8 := ⟨_, rfl⟩
  rw [hW] at bX bY st oz ov ⊢
  clear hW
  obtain ⟨Y, hY⟩ : ∃ X, w9.heap.size = X := ⟨_, rfl⟩
  rw [hY] at bY awY tY hXY ⊢
  clear hY
  clear w9
  refine (same_any n7 n9 a7 a9 l7 c7 l9 c9 zs vs w10 oz.sl ov.sl (by omega)).mono ?_
  rw [HS]
  rintro e w11 ⟨rfl, hb1⟩
  replace st := st.keep hb1 st.tW hx hy
  replace bX := bX.below hb1
  replace bY := bY.below hb1
  replace oz := oz.below hb1
  clear hb1 ov HS
  clear w10
  have q0 := bX.c0
  have q1 := bX.c1
  go_wp2_with fail
  clear q0 q1 q4
  refine (spoil_any n7 a7 l7 c7 T zs w11 oz (by omega) st.tW).mono ?_
  rintro e w6 ⟨⟨v, rfl⟩, hb1, hbox⟩
  replace st := st.keep hb1 (Nat.le_refl T) hx hy
  replace bX := hbox X _ _ _ _ awX bX
  replace bY := hbox Y _ _ _ _ awY bY
  clear hb1 hbox oz lz lv awX awY
  clear w11
  have q0 := st.bP.c0
  have q1 := st.bP.c1
  have q2 := st.bQ.c0
  have q3 := st.bQ.c1
  go_wp2_with fail
  clear q0 q1 q2 q3
  refine (sub_any na nb (some ⟨g, 0, none⟩) (some ⟨h, 0, none⟩) l0 cp l1 cq xs ys w6 st.lP.sl st.lQ.sl ox oy (by omega) (by omega)).mono ?_
  rintro e w7 ⟨n7', a7', l7', c7', k7, rfl, hr7, hb7⟩
  obtain ⟨⟨zs', oz, kz, fz, lz, ez⟩, ek⟩ := hr7.ans
  have HK : Hid (k7 = errOf (val xs) (val ys) (zv na (val xs) - zv nb (val ys))) := ek
  have HE : Hid (zv n7' (val zs') = given (val xs) (val ys) (zv na (val xs) - zv nb (val ys))) := ez
  have awX := oz.away_low bX.lt
  have awY := oz.away_low bY.lt
  have sT := st.tW
  replace oz := oz.mono sT
  replace st := st.keep hb7 sT hx hy
  replace bX := bX.below hb7
  replace bY := bY.below hb7
  clear hr7 ek ez hb7 sT
  clear w6
  have st2 := st.keep (below_put2 (N := X) (Below.refl X w7) (Nat.le_refl _) n7' (.slice a7' l7' c7')) tX hx hy
  have q0 := st2.bA.c0
  have q1 := st2.bA.c1
  have q2 := st2.bB.c0
  have q3 := st2.bB.c1
  have r0 := bX.c0
  have r1 := bX.c1
  have r2 := bX.f0
  have r3 := bX.f1
  unfold put2 at q0 q1 q2 q3
  go_wp2_with fail
  clear q0 q1 q2 q3 r0 r1 r2 r3
  replace oz := oz.put bX n7' (.slice a7' l7' c7')
  replace bY := bY.putOther (M := X) (by omega) n7' (.slice a7' l7' c7')
  replace bX := bX.put n7' a7' l7' c7'
  obtain ⟨w8, hW⟩ : ∃ w8, (w7.setCell ⟨X, 0, none⟩ (.bool n7')).setCell ⟨X, 1, none⟩ (.slice a7' l7' c7') = w8 := ⟨_, rfl⟩
  have hW' : put2 w7 X n7' (.slice a7' l7' c7') = w8 := hW
  rw [hW'] at oz bX bY st2
  rw [hW]
  clear hW hW' st
  clear w7
  refine (rsub_any na nb a0 a1 l0 c0 l1 c1 xs ys w8 st2.sA st2.sB ox oy (by omega) (by omega)).mono ?_
  rintro e w9 ⟨n9', a9', l9', c9', k9, rfl, hr9, hb9⟩
  obtain ⟨⟨vs', ov, kv, fv, lv, ev⟩, el⟩ := hr9.ans
  obtain rfl : k9 = k7 := el.trans HK.out.symm
  replace ov := ov.mono st2.tW
  have HS := same_true fz fv kz kv (HE.out.trans ev.symm)
  have st := st2.keep hb9 st2.tW hx hy
  replace bX := bX.below hb9
  replace bY := bY.below hb9
  replace oz := oz.below hb9
  clear hr9 el HK HE ev fz fv kz kv hb9 st2
  clear w8
  have st2 := st.keep (below_put2 (N := Y) (Below.refl Y w9) (Nat.le_refl _) n9' (.slice a9' l9' c9')) tY hx hy
  have r0 := bY.c0
  have r1 := bY.c1
  have r2 := bY.f0
  have r3 := bY.f1
  replace oz := oz.put bY n9' (.slice a9' l9' c9')
  replace ov := ov.put bY n9' (.slice a9' l9' c9')
  replace bX := bX.putOther (M := Y) (by omega) n9' (.slice a9' l9' c9')
  replace bY := bY.put n9' a9' l9' c9'
  have q0 := bX.c0
  have q1 := bX.c1
  have q2 := bY.c0
  have q3 := bY.c1
  have q4 : (k9 == k9) = true := by simp
  unfold put2 at q0 q1 q2 q3
  go_wp2_with fail
  clear q0 q1 q2 q3 r0 r1 r2 r3
  obtain ⟨w10, hW⟩ : ∃ w8, (w9.setCell ⟨Y, 0, none⟩ (.bool n9')).setCell ⟨Y, 1, none⟩ (.slice a9' l9' c9') = w8 := ⟨_, rfl⟩
  have hW' : put2 w9 Y n9' (.slice a9' l9' c9') = w10 := hW
  rw [hW'] at oz ov bX bY st2
  rw [hW]
  clear hW hW' st
  clear w9
  have st := st2
  clear st2
  refine (same_any n7' n9' a7' a9' l7' c7' l9' c9' zs' vs' w10 oz.sl ov.sl (by omega)).mono ?_
  rw [HS]
  rintro e w11 ⟨rfl, hb1⟩
  replace st := st.keep hb1 st.tW hx hy
  replace bX := bX.below hb1
  replace bY := bY.below hb1
  replace oz := oz.below hb1
  clear hb1 ov HS
  clear w10
  have q0 := bX.c0
  have q1 := bX.c1
  go_wp2_with fail
  clear q0 q1 q4
  refine (spoil_any n7' a7' l7' c7' T zs' w11 oz (by omega) st.tW).mono ?_
  rintro e w6 ⟨⟨v, rfl⟩, hb1, hbox⟩
  replace st := st.keep hb1 (Nat.le_refl T) hx hy
  replace bX := hbox X _ _ _ _ awX bX
  replace bY := hbox Y _ _ _ _ awY bY
  clear hb1 hbox oz lz lv awX awY
  clear w11
  have q0 := st.bP.c0
  have q1 := st.bP.c1
  have q2 := st.bQ.c0
  have q3 := st.bQ.c1
  go_wp2_with fail
  clear q0 q1 q2 q3
  refine (mul_any na nb (some ⟨g, 0, none⟩) (some ⟨h, 0, none⟩) l0 cp l1 cq xs ys w6 st.lP.sl st.lQ.sl ox oy (by omega) (by omega)).mono ?_
  rintro e w7 ⟨n7', a7', l7', c7', k7, rfl, hr7, hb7⟩
  obtain ⟨⟨zs', oz, kz, fz, lz, ez⟩, ek⟩ := hr7.ans
  have HK : Hid (k7 = errOf (val xs) (val ys) (zv na (val xs) * zv nb (val ys))) := ek
  have HE : Hid (zv n7' (val zs') = given (val xs) (val ys) (zv na (val xs) * zv nb (val ys))) := ez
  have awX := oz.away_low bX.lt
  have awY := oz.away_low bY.lt
  have sT := st.tW
  replace oz := oz.mono sT
  replace st := st.keep hb7 sT hx hy
  replace bX := bX.below hb7
  replace bY := bY.below hb7
  clear hr7 ek ez hb7 sT
  clear w6
  have st2 := st.keep (below_put2 (N := X) (Below.refl X w7) (Nat.le_refl _) n7' (.slice a7' l7' c7')) tX hx hy
  have q0 := st2.bA.c0
  have q1 := st2.bA.c1
  have q2 := st2.bB.c0
  have q3 := st2.bB.c1
  have r0 := bX.c0
  have r1 := bX.c1
  have r2 := bX.f0
  have r3 := bX.f1
  unfold put2 at q0 q1 q2 q3
  go_wp2_with fail
  clear q0 q1 q2 q3 r0 r1 r2 r3
  replace oz := oz.put bX n7' (.slice a7' l7' c7')
  replace bY := bY.putOther (M := X) (by omega) n7' (.slice a7' l7' c7')
  replace bX := bX.put n7' a7' l7' c7'
  obtain ⟨w8, hW⟩ : ∃ w8, (w7.setCell ⟨X, 0, none⟩ (.bool n7')).setCell ⟨X, 1, none⟩ (.slice a7' l7' c7') = w8 := ⟨_, rfl⟩
  have hW' : put2 w7 X n7' (.slice a7' l7' c7') = w8 := hW
  rw [hW'] at oz bX bY st2
  rw [hW]
  clear hW hW' st
  clear w7
  refine (rmul_any na nb a0 a1 l0 c0 l1 c1 xs ys w8 st2.sA st2.sB ox oy (by omega) (by omega)).mono ?_
  rintro e w9 ⟨n9', a9', l9', c9', k9, rfl, hr9, hb9⟩
  obtain ⟨⟨vs', ov, kv, fv, lv, ev⟩, el⟩ := hr9.ans
  obtain rfl : k9 = k7 := el.trans HK.out.symm
  replace ov := ov.mono st2.tW
  have HS := same_true fz fv kz kv (HE.out.trans ev.symm)
  have st := st2.keep hb9 st2.tW hx hy
  replace bX := bX.below hb9
  replace bY := bY.below hb9
  replace oz := oz.below hb9
  clear hr9 el HK HE ev fz fv kz kv hb9 st2
  clear w8
  have st2 := st.keep (below_put2 (N := Y) (Below.refl Y w9) (Nat.le_refl _) n9' (.slice a9' l9' c9')) tY hx hy
  have r0 := bY.c0
  have r1 := bY.c1
  have r2 := bY.f0
  have r3 := bY.f1
  replace oz := oz.put bY n9' (.slice a9' l9' c9')
  replace ov := ov.put bY n9' (.slice a9' l9' c9')
  replace bX := bX.putOther (M := Y) (by omega) n9' (.slice a9' l9' c9')
  replace bY := bY.put n9' a9' l9' c9'
  have q0 := bX.c0
  have q1 := bX.c1
  have q2 := bY.c0
  have q3 := bY.c1
  have q4 : (k9 == k9) = true := by simp
  unfold put2 at q0 q1 q2 q3
  go_wp2_with fail
  clear q0 q1 q2 q3 r0 r1 r2 r3
  obtain ⟨w10, hW⟩ : ∃ w8, (w9.setCell ⟨Y, 0, none⟩ (.bool n9')).setCell ⟨Y, 1, none⟩ (.slice a9' l9' c9') = w8 := ⟨_, rfl⟩
  have hW' : put2 w9 Y n9' (.slice a9' l9' c9') = w10 := hW
  rw [hW'] at oz ov bX bY st2
  rw [hW]
  clear hW hW' st
  clear w9
  have st := st2
  clear st2
  refine (same_any n7' n9' a7' a9' l7' c7' l9' c9' zs' vs' w10 oz.sl ov.sl (by omega)).mono ?_
  rw [HS]
  rintro e w11 ⟨rfl, hb1⟩
  replace st := st.keep hb1 st.tW hx hy
  replace bX := bX.below hb1
  replace bY := bY.below hb1
  replace oz := oz.below hb1
  clear hb1 ov HS
  clear w10
  have q0 := bX.c0
  have q1 := bX.c1
  go_wp2_with fail
  clear q0 q1 q4
  refine (spoil_any n7' a7' l7' c7' T zs' w11 oz (by omega) st.tW).mono ?_
  rintro e w6 ⟨⟨v, rfl⟩, hb1, hbox⟩
  replace st := st.keep hb1 (Nat.le_refl T) hx hy
  replace bX := hbox X _ _ _ _ awX bX
  replace bY := hbox Y _ _ _ _ awY bY
  clear hb1 hbox oz lz lv awX awY
  clear w11
  have q0 := st.bP.c0
  have q1 := st.bP.c1
  go_wp2_with fail
  clear q0 q1
  refine (negate_any na (some ⟨g, 0, none⟩) l0 cp xs w6 st.lP.sl ox (by omega)).mono ?_
  rintro e w7 ⟨n7', a7', l7', c7', rfl, hI, hb7⟩
  obtain ⟨zs', oz, kz, fz, ez⟩ := hI.open
  have lz : zs'.length ≤ 600 := by
    have h1 := zv_abs n7' (val zs')
    rw [ez, Int.natAbs_neg, zv_abs] at h1
    have := Tr_len_le fz.tr xs.length (by rw [← h1]; exact val_lt ox)
    omega
  have HE : Hid (zv n7' (val zs') = - zv na (val xs)) := ez
  have awX := oz.away_low bX.lt
  have sT := st.tW
  replace oz := oz.mono sT
  replace st := st.keep hb7 sT hx hy
  replace bX := bX.below hb7
  clear hI ez hb7 sT bY
  clear w6
  have st2 := st.keep (below_put2 (N := X) (Below.refl X w7) (Nat.le_refl _) n7' (.slice a7' l7' c7')) tX hx hy
  have r0 := bX.c0
  have r1 := bX.c1
  have r2 := bX.f0
  have r3 := bX.f1
  go_upto_region 18 with fail
  clear r0 r1 r2 r3
  replace oz := oz.put bX n7' (.slice a7' l7' c7')
  replace bX := bX.put n7' a7' l7' c7'
  obtain ⟨w8, hW⟩ : ∃ w8, (w7.setCell ⟨X, 0, none⟩ (.bool n7')).setCell ⟨X, 1, none⟩ (.slice a7' l7' c7') = w8 := ⟨_, rfl⟩
  have hW' : put2 w7 X n7' (.slice a7' l7' c7') = w8 := hW
  rw [hW'] at oz bX st2
  rw [hW]
  clear hW hW' st
  clear w7
  have st := st2
  clear st2
  have d8 := st.keep below_drew st.tW hx hy
  have bX8 := bX.below below_drew
  have oz8 := oz.below below_drew
  obtain ⟨cv, ecv⟩ : ∃ cv, cmpI (zv na (val xs)) (zv nb (val ys)) = cv := ⟨_, rfl⟩
  have HC : Hid (cmpI (zv na (val xs)) (zv nb (val ys)) = cv) := ecv
  have q4 : (cv == cv) = true := by simp
  clear ecv
  have q0 := bX.c0
  have q1 := bX.c1
  have q2 := st.bA.c0
  have q3 := st.bA.c1
  have q5 := st.bB.c0
  have q6 := st.bB.c1
  have q7 := st.bP.c0
  have q8 := st.bP.c1
  have q9 := st.bQ.c0
  have q10 := st.bQ.c1
  go_region_held3 (fun W => W.cell? ⟨X, 0, none⟩ = some (.bool n7') ∧ W.cell? ⟨X, 1, none⟩ = some (.slice a7' l7' c7') ∧ W.cell? ⟨w.heap.size, 0, none⟩ = some (.bool na) ∧ W.cell? ⟨w.heap.size, 1, none⟩ = some (.slice a0 l0 c0) ∧ W.cell? ⟨w.heap.size + 1, 0, none⟩ = some (.bool nb) ∧ W.cell? ⟨w.heap.size + 1, 1, none⟩ = some (.slice a1 l1 c1) ∧ W.cell? ⟨P, 0, none⟩ = some (.bool na) ∧ W.cell? ⟨P, 1, none⟩ = some (.slice (some ⟨g, 0, none⟩) l0 cp) ∧ W.cell? ⟨Q, 0, none⟩ = some (.bool nb) ∧ W.cell? ⟨Q, 1, none⟩ = some (.slice (some ⟨h, 0, none⟩) l1 cq))
    (first | exact st_cells d8 bX8 | assumption | exact st_cells st12 bX12 | exact st_cells st11 bX11 | exact st_cells st10 bX10 | exact st_cells st9 bX9 | fail)
    (first | (go_at_call 21; refine (rnegate_any na a0 l0 c0 xs _ d8.sA ox (by omega)).mono ?_; rintro e w9 ⟨n9', a9', l9', c9', rfl, hJ, hb9⟩; have st9 := d8.keep hb9 d8.tW hx hy; have bX9 := bX8.below hb9; have oz9 := oz8.below hb9)
           | (go_at_call 14; obtain ⟨vs', ov, kv, fv, ev⟩ := hJ.open; refine (same_any n7' n9' a7' a9' l7' c7' l9' c9' zs' vs' _ oz9.sl ov.sl (by omega)).mono ?_; rw [same_true fz fv kz kv (HE.out.trans ev.symm)]; rintro e w10 ⟨rfl, hb10⟩; have st10 := st9.keep hb10 st9.tW hx hy; have bX10 := bX9.below hb10; have oz10 := oz9.below hb10)
           | (go_at_call 22; refine (compare_any na nb (some ⟨g, 0, none⟩) (some ⟨h, 0, none⟩) l0 cp l1 cq xs ys _ st10.lP.sl st10.lQ.sl ox oy (by omega) (by omega)).mono ?_; rw [HC.out]; rintro e w11 ⟨rfl, hb11⟩; have st11 := st10.keep hb11 st10.tW hx hy; have bX11 := bX10.below hb11; have oz11 := oz10.below hb11)
           | (go_at_call 23; refine (rcompare_any na nb a0 a1 l0 c0 l1 c1 xs ys _ st11.sA st11.sB ox oy (by omega) (by omega)).mono ?_; rw [HC.out]; rintro e w12 ⟨rfl, hb12⟩; have st12 := st11.keep hb12 st11.tW hx hy; have bX12 := bX11.below hb12; have oz12 := oz11.below hb12)
           | fail)
  clear q0 q1 q2 q3 q5 q6 q7 q8 q9 q10 st9 st10 st11 bX9 bX10 bX11 oz9 oz10 oz11 d8 bX8 oz8 st bX oz
  have q0 := bX12.c0
  have q1 := bX12.c1
  go_wp2_with fail
  refine (spoil_any n7' a7' l7' c7' T zs' w12 oz12 (by omega) st12.tW).mono ?_
  rintro e w13 ⟨⟨v, rfl⟩, hb1, hbox⟩
  have st := st12.keep hb1 (Nat.le_refl T) hx hy
  clear q0 q1 hbox hb1 st12 bX12 oz12
  have q0 := st.bP.c0
  have q1 := st.bP.c1
  have q2 := st.bA.c0
  have q3 := st.bA.c1
  go_wp2_with fail
  clear q0 q1 q2 q3
  refine (back_is na a0 l0 c0 g cp _ xs w13 st.lP st.sA (by omega)).mono ?_
  rintro e w14 ⟨rfl, hb1⟩
  replace st := st.keep hb1 st.tW hx hy
  clear hb1
  have q0 := st.bQ.c0
  have q1 := st.bQ.c1
  have q2 := st.bB.c0
  have q3 := st.bB.c1
  go_wp2_with fail
  clear q0 q1 q2 q3
  refine (back_is nb a1 l1 c1 h cq _ ys w14 st.lQ st.sB (by omega)).mono ?_
  rintro e w15 ⟨rfl, hb1⟩
  replace st := st.keep hb1 st.tW hx hy
  clear hb1
  go_wp2_with fail
  refine (awake_any w15).mono ?_
  rintro e w16 ⟨rfl, hb1⟩
  have hfin := st.bel.trans (hb1.mono st.bel.size)
  clear st hb1
  go_wp2
  go_ret
  exact ⟨rfl, hfin⟩

theorem sums_walk (na nb : Bool) (a0 a1 : Option Addr) (l0 c0 l1 c1 : Nat) (xs ys : List Nat) (w : World) (hx : Sl .u32 w (.slice a0 l0 c0) xs) (hy : Sl .u32 w (.slice a1 l1 c1) ys) (ox : okw xs) (oy : okw ys) :
    Calls Try.prog 3 #[.agg #[.bool na, .slice a0 l0 c0], .agg #[.bool nb, .slice a1 l1 c1]] w fun e w' => e = .returned (.bool true) ∧ Below w.heap.size w w' := by
  by_cases h : 600 < l0 ∨ 600 < l1
  · exact sums_far na nb a0 a1 l0 c0 l1 c1 w h
  · exact sums_near na nb a0 a1 l0 c0 l1 c1 xs ys w hx hy ox oy (by omega) (by omega)
end Go.Proofs.Yteplmnnpmekngaa
