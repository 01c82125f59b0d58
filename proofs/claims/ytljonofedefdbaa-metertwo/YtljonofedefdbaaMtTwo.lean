/-
  MeterTwo, walked.
-/
import Derived.Test.YtljonofedefdbaaMtPlays
namespace Go.Proofs.Ytljonofedefdbaa
open Go.RowKit

/-- Two meters and two boxes. -/
structure Duet (w W : World) (g : Nat) (t c v s t2 c2 v2 s2 : Int) : Prop where
  m : Mt W g t c v s
  m2 : Mt W (g + 1) t2 c2 v2 s2
  a : Four W (g + 1 + 1) t c v s
  a2 : Four W (g + 1 + 1 + 1) t2 c2 v2 s2
  b : Below w.heap.size w W
theorem Duet.drew {w W : World} {g : Nat} {t c v s t2 c2 v2 s2 : Int} (h : Duet w W g t c v s t2 c2 v2 s2) : Duet w W.drew g t c v s t2 c2 v2 s2 := ⟨h.m.drew, h.m2.drew, h.a.drew, h.a2.drew, h.b.drew⟩
theorem Duet.new (w : World) (x y : TypeId) :
    Duet w ((((w.alloc (.cells #[.int .i32 0, .int .u32 0, .int .u32 0, .int .u32 0, .int .i32 0, .int .i32 0, .int .i64 0, .int .i64 0, .int .i64 0, .int .i64 0] x)).alloc (.cells #[.int .i32 0, .int .u32 0, .int .u32 0, .int .u32 0, .int .i32 0, .int .i32 0, .int .i64 0, .int .i64 0, .int .i64 0, .int .i64 0] x)).alloc (.cells #[.int .i64 0, .int .i64 0, .int .i64 0, .int .i64 0] y)).alloc (.cells #[.int .i64 0, .int .i64 0, .int .i64 0, .int .i64 0] y)) w.heap.size 0 0 0 0 0 0 0 0 := by
  refine ⟨(((Mt.new w x).alloc _).alloc _).alloc _, ?_, ?_, ?_, ((((Below.refl w.heap.size w).alloc (Nat.le_refl _) _).alloc (by simp) _).alloc (by simp; omega) _).alloc (by simp; omega) _⟩
  · have h := ((Mt.new (w.alloc (.cells #[.int .i32 0, .int .u32 0, .int .u32 0, .int .u32 0, .int .i32 0, .int .i32 0, .int .i64 0, .int .i64 0, .int .i64 0, .int .i64 0] x)) x).alloc (.cells #[.int .i64 0, .int .i64 0, .int .i64 0, .int .i64 0] y)).alloc (.cells #[.int .i64 0, .int .i64 0, .int .i64 0, .int .i64 0] y)
    simpa using h
  · have h := (Four.new ((w.alloc (.cells #[.int .i32 0, .int .u32 0, .int .u32 0, .int .u32 0, .int .i32 0, .int .i32 0, .int .i64 0, .int .i64 0, .int .i64 0, .int .i64 0] x)).alloc (.cells #[.int .i32 0, .int .u32 0, .int .u32 0, .int .u32 0, .int .i32 0, .int .i32 0, .int .i64 0, .int .i64 0, .int .i64 0, .int .i64 0] x)) 0 0 0 0 y).alloc (.cells #[.int .i64 0, .int .i64 0, .int .i64 0, .int .i64 0] y)
    simpa using h
  · have h := Four.new (((w.alloc (.cells #[.int .i32 0, .int .u32 0, .int .u32 0, .int .u32 0, .int .i32 0, .int .i32 0, .int .i64 0, .int .i64 0, .int .i64 0, .int .i64 0] x)).alloc (.cells #[.int .i32 0, .int .u32 0, .int .u32 0, .int .u32 0, .int .i32 0, .int .i32 0, .int .i64 0, .int .i64 0, .int .i64 0, .int .i64 0] x)).alloc (.cells #[.int .i64 0, .int .i64 0, .int .i64 0, .int .i64 0] y)) 0 0 0 0 y
    simpa using h
/-- A step of the first meter, and what is written down of it. -/
theorem Duet.one {w W W1 : World} {g : Nat} {t c v s t2 c2 v2 s2 t' c' v' s' : Int} (h : Duet w W g t c v s t2 c2 v2 s2) (hg : w.heap.size ≤ g) (b1 : But g W W1) (q : Mt W1 g t' c' v' s') :
    Duet w (put4 W1 (g + 1 + 1) t' c' v' s') g t' c' v' s' t2 c2 v2 s2 :=
  ⟨q.same (put4_block _ _ _ _ _ _ _ (by omega)), (h.m2.but b1 (by omega)).same (put4_block _ _ _ _ _ _ _ (by omega)), (h.a.but b1 (by omega)).put4 _ _ _ _, (h.a2.but b1 (by omega)).same (put4_block _ _ _ _ _ _ _ (by omega)), below_put4 (h.b.trans (b1.below hg h.b.size)) (by omega) _ _ _ _⟩
theorem Duet.two {w W W1 : World} {g : Nat} {t c v s t2 c2 v2 s2 t' c' v' s' : Int} (h : Duet w W g t c v s t2 c2 v2 s2) (hg : w.heap.size ≤ g) (b1 : But (g + 1) W W1) (q : Mt W1 (g + 1) t' c' v' s') :
    Duet w (put4 W1 (g + 1 + 1 + 1) t' c' v' s') g t c v s t' c' v' s' :=
  ⟨(h.m.but b1 (by omega)).same (put4_block _ _ _ _ _ _ _ (by omega)), q.same (put4_block _ _ _ _ _ _ _ (by omega)), (h.a.but b1 (by omega)).same (put4_block _ _ _ _ _ _ _ (by omega)), (h.a2.but b1 (by omega)).put4 _ _ _ _, below_put4 (h.b.trans (b1.below (by omega) h.b.size)) (by omega) _ _ _ _⟩
def P8 (N M : Nat) (a b c d a2 b2 c2 d2 : Int) (W : World) : Prop := P4 N a b c d W ∧ P4 M a2 b2 c2 d2 W

theorem P8.but {N M g : Nat} {a b c d a2 b2 c2 d2 : Int} {w w' : World} (h : P8 N M a b c d a2 b2 c2 d2 w) (hb : But g w w') (h1 : N ≠ g) (h2 : M ≠ g) : P8 N M a b c d a2 b2 c2 d2 w' := ⟨h.1.but hb h1, h.2.but hb h2⟩
theorem P8.below {N M : Nat} {a b c d a2 b2 c2 d2 : Int} {w w' : World} (h : P8 N M a b c d a2 b2 c2 d2 w) (hb : Below w.heap.size w w') : P8 N M a b c d a2 b2 c2 d2 w' := ⟨h.1.below hb, h.2.below hb⟩
set_option maxRecDepth 100000 in
set_option maxHeartbeats 12800000 in
theorem two_walk (a : Option Addr) (n cap b off : Nat) (K M : Nat → Int) (a2 : Option Addr) (n2 cap2 b2 off2 : Nat) (K2 M2 : Nat → Int) (w : World) (h : Ss w a n cap b off K M) (h2 : Ss w a2 n2 cap2 b2 off2 K2 M2) :
    Calls Try.prog 4 #[.slice a n cap, .slice a2 n2 cap2] w fun e w' => e = .returned (.bool true) ∧ Below w.heap.size w w' := by
  go_enter Try.func4, Try.ntmps4
  by_cases hl : 3000 < n
  · have t1 : (3000 : Int) < n := by omega
    go_wp2_with fail
    refine (awake_any _).mono ?_
    rintro e w2 ⟨rfl, hb2⟩
    go_wp2
    go_ret
    exact ⟨rfl, hb2⟩
  by_cases hl2 : 3000 < n2
  · have t1 : ¬ (3000 : Int) < n := by omega
    have t2 : (3000 : Int) < n2 := by omega
    go_wp2_with fail
    refine (awake_any _).mono ?_
    rintro e w2 ⟨rfl, hb2⟩
    go_wp2
    go_ret
    exact ⟨rfl, hb2⟩
  have t1 : ¬ (3000 : Int) < n := by omega
  have t2 : ¬ (3000 : Int) < n2 := by omega
  have hl3 : n ≤ 3000 := by omega
  have hl4 : n2 ≤ 3000 := by omega
  clear hl hl2
  go_wp2_with fail
  have D0 := Duet.new w 42 44
  generalize World.alloc (World.alloc (World.alloc (World.alloc w _) _) _) _ = W0 at D0 ⊢
  obtain ⟨g, hgg⟩ : ∃ g, w.heap.size = g := ⟨_, rfl⟩
  have hg : w.heap.size ≤ g := by omega
  have D1 : Duet w W0 g 0 0 0 0 0 0 0 0 := by rw [← hgg]; exact D0
  clear D0
  rw [hgg]
  clear hgg
  go_loopw [9] (fun iv wr => ∃ (k : Nat) (t c v s x y z u : Int), k ≤ 3000 ∧ iv = .int .i64 (k : Int) ∧ Duet w wr g t c v s x y z u) (fun iv _ => 3000 - (intOf iv).toNat)
  case atStart => exact ⟨0, 0, 0, 0, 0, 0, 0, 0, 0, Nat.zero_le _, rfl, D1⟩
  case round =>
    clear D1
    obtain ⟨k, t, c, v, s, x, y, z, u, hk, rfl, D⟩ := hrel
    by_cases q1 : k < n
    · have t3 : (k : Int) < n := by omega
      obtain ⟨ea, hbb⟩ := h.pl (by omega)
      subst ea
      by_cases q2 : k < n2
      · have t4 : (k : Int) < n2 := by omega
        obtain ⟨ea, hbb2⟩ := h2.pl (by omega)
        subst ea
        go_upto_region 12 with fail
        have hs := h.below D.b
        have e0 := hs.c0 k q1
        have e1 := hs.c1 k q1
        clear hs
        have d0 := D.a.c0
        have d1 := D.a.c1
        have d2 := D.a.c2
        have d3 := D.a.c3
        go_region_with
          (first | (go_at_call 7; refine (does_any (g) t c v s (K k) (M k) _ D.m.drew).mono ?_; rintro e W1 ⟨p1, p2, p3, p4, rfl, b1, Q1⟩; unfold agg4; have A1 := D.a.drew.but b1 (by omega); have z0 := A1.c0; have f0 := A1.fr 0; have z1 := A1.c1; have f1 := A1.fr 1; have z2 := A1.c2; have f2 := A1.fr 2; have z3 := A1.c3; have f3 := A1.fr 3) | fail)
        · clear z0 z1 z2 z3 f0 f1 f2 f3 d0 d1 d2 d3 e0 e1
          replace D := D.drew.one hg b1 Q1
          unfold put4 at D
          generalize World.setCell (World.setCell (World.setCell (World.setCell W1 ⟨g + 1 + 1, 0, none⟩ (.int .i64 p1)) ⟨g + 1 + 1, 1, none⟩ (.int .i64 p2)) ⟨g + 1 + 1, 2, none⟩ (.int .i64 p3)) ⟨g + 1 + 1, 3, none⟩ (.int .i64 p4) = V1 at D ⊢
          clear A1 Q1 b1
          go_upto_region 14 with fail
          have hs := h2.below D.b
          have e0 := hs.c0 k q2
          have e1 := hs.c1 k q2
          clear hs
          have d0 := D.a2.c0
          have d1 := D.a2.c1
          have d2 := D.a2.c2
          have d3 := D.a2.c3
          go_region_with
            (first | (go_at_call 7; refine (does_any (g + 1) x y z u (K2 k) (M2 k) _ D.m2.drew).mono ?_; rintro e W1 ⟨r1, r2, r3, r4, rfl, b1, Q1⟩; unfold agg4; have A1 := D.a2.drew.but b1 (by omega); have z0 := A1.c0; have f0 := A1.fr 0; have z1 := A1.c1; have f1 := A1.fr 1; have z2 := A1.c2; have f2 := A1.fr 2; have z3 := A1.c3; have f3 := A1.fr 3) | fail)
          · clear z0 z1 z2 z3 f0 f1 f2 f3 d0 d1 d2 d3 e0 e1
            replace D := D.drew.two hg b1 Q1
            unfold put4 at D
            generalize World.setCell (World.setCell (World.setCell (World.setCell W1 ⟨g + 1 + 1 + 1, 0, none⟩ (.int .i64 r1)) ⟨g + 1 + 1 + 1, 1, none⟩ (.int .i64 r2)) ⟨g + 1 + 1 + 1, 2, none⟩ (.int .i64 r3)) ⟨g + 1 + 1 + 1, 3, none⟩ (.int .i64 r4) = V2 at D ⊢
            clear A1 Q1 b1
            go_wp2_with fail
            go_roundw
            case rel => exact ⟨k + 1, _, _, _, _, _, _, _, _, by omega, by go_num, D⟩
            case measure => simp [intOf]; omega
          · clear z0 z1 z2 z3 f0 f1 f2 f3 d0 d1 d2 d3 e0 e1
            replace D := D.drew.two hg b1 Q1
            unfold put4 at D
            generalize World.setCell (World.setCell (World.setCell (World.setCell W1 ⟨g + 1 + 1 + 1, 0, none⟩ (.int .i64 r1)) ⟨g + 1 + 1 + 1, 1, none⟩ (.int .i64 r2)) ⟨g + 1 + 1 + 1, 2, none⟩ (.int .i64 r3)) ⟨g + 1 + 1 + 1, 3, none⟩ (.int .i64 r4) = V2 at D ⊢
            clear A1 Q1 b1
            go_wp2_with fail
            go_roundw
            case rel => exact ⟨k + 1, _, _, _, _, _, _, _, _, by omega, by go_num, D⟩
            case measure => simp [intOf]; omega
        · clear z0 z1 z2 z3 f0 f1 f2 f3 d0 d1 d2 d3 e0 e1
          replace D := D.drew.one hg b1 Q1
          unfold put4 at D
          generalize World.setCell (World.setCell (World.setCell (World.setCell W1 ⟨g + 1 + 1, 0, none⟩ (.int .i64 p1)) ⟨g + 1 + 1, 1, none⟩ (.int .i64 p2)) ⟨g + 1 + 1, 2, none⟩ (.int .i64 p3)) ⟨g + 1 + 1, 3, none⟩ (.int .i64 p4) = V1 at D ⊢
          clear A1 Q1 b1
          go_upto_region 14 with fail
          have hs := h2.below D.b
          have e0 := hs.c0 k q2
          have e1 := hs.c1 k q2
          clear hs
          have d0 := D.a2.c0
          have d1 := D.a2.c1
          have d2 := D.a2.c2
          have d3 := D.a2.c3
          go_region_with
            (first | (go_at_call 7; refine (does_any (g + 1) x y z u (K2 k) (M2 k) _ D.m2.drew).mono ?_; rintro e W1 ⟨r1, r2, r3, r4, rfl, b1, Q1⟩; unfold agg4; have A1 := D.a2.drew.but b1 (by omega); have z0 := A1.c0; have f0 := A1.fr 0; have z1 := A1.c1; have f1 := A1.fr 1; have z2 := A1.c2; have f2 := A1.fr 2; have z3 := A1.c3; have f3 := A1.fr 3) | fail)
          · clear z0 z1 z2 z3 f0 f1 f2 f3 d0 d1 d2 d3 e0 e1
            replace D := D.drew.two hg b1 Q1
            unfold put4 at D
            generalize World.setCell (World.setCell (World.setCell (World.setCell W1 ⟨g + 1 + 1 + 1, 0, none⟩ (.int .i64 r1)) ⟨g + 1 + 1 + 1, 1, none⟩ (.int .i64 r2)) ⟨g + 1 + 1 + 1, 2, none⟩ (.int .i64 r3)) ⟨g + 1 + 1 + 1, 3, none⟩ (.int .i64 r4) = V2 at D ⊢
            clear A1 Q1 b1
            go_wp2_with fail
            go_roundw
            case rel => exact ⟨k + 1, _, _, _, _, _, _, _, _, by omega, by go_num, D⟩
            case measure => simp [intOf]; omega
          · clear z0 z1 z2 z3 f0 f1 f2 f3 d0 d1 d2 d3 e0 e1
            replace D := D.drew.two hg b1 Q1
            unfold put4 at D
            generalize World.setCell (World.setCell (World.setCell (World.setCell W1 ⟨g + 1 + 1 + 1, 0, none⟩ (.int .i64 r1)) ⟨g + 1 + 1 + 1, 1, none⟩ (.int .i64 r2)) ⟨g + 1 + 1 + 1, 2, none⟩ (.int .i64 r3)) ⟨g + 1 + 1 + 1, 3, none⟩ (.int .i64 r4) = V2 at D ⊢
            clear A1 Q1 b1
            go_wp2_with fail
            go_roundw
            case rel => exact ⟨k + 1, _, _, _, _, _, _, _, _, by omega, by go_num, D⟩
            case measure => simp [intOf]; omega
      · have t4 : ¬ (k : Int) < n2 := by omega
        go_upto_region 12 with fail
        have hs := h.below D.b
        have e0 := hs.c0 k q1
        have e1 := hs.c1 k q1
        clear hs
        have d0 := D.a.c0
        have d1 := D.a.c1
        have d2 := D.a.c2
        have d3 := D.a.c3
        go_region_with
          (first | (go_at_call 7; refine (does_any (g) t c v s (K k) (M k) _ D.m.drew).mono ?_; rintro e W1 ⟨p1, p2, p3, p4, rfl, b1, Q1⟩; unfold agg4; have A1 := D.a.drew.but b1 (by omega); have z0 := A1.c0; have f0 := A1.fr 0; have z1 := A1.c1; have f1 := A1.fr 1; have z2 := A1.c2; have f2 := A1.fr 2; have z3 := A1.c3; have f3 := A1.fr 3) | fail)
        · clear z0 z1 z2 z3 f0 f1 f2 f3 d0 d1 d2 d3 e0 e1
          replace D := D.drew.one hg b1 Q1
          unfold put4 at D
          generalize World.setCell (World.setCell (World.setCell (World.setCell W1 ⟨g + 1 + 1, 0, none⟩ (.int .i64 p1)) ⟨g + 1 + 1, 1, none⟩ (.int .i64 p2)) ⟨g + 1 + 1, 2, none⟩ (.int .i64 p3)) ⟨g + 1 + 1, 3, none⟩ (.int .i64 p4) = V1 at D ⊢
          clear A1 Q1 b1
          go_wp2_with fail
          go_roundw
          case rel => exact ⟨k + 1, _, _, _, _, _, _, _, _, by omega, by go_num, D⟩
          case measure => simp [intOf]; omega
        · clear z0 z1 z2 z3 f0 f1 f2 f3 d0 d1 d2 d3 e0 e1
          replace D := D.drew.one hg b1 Q1
          unfold put4 at D
          generalize World.setCell (World.setCell (World.setCell (World.setCell W1 ⟨g + 1 + 1, 0, none⟩ (.int .i64 p1)) ⟨g + 1 + 1, 1, none⟩ (.int .i64 p2)) ⟨g + 1 + 1, 2, none⟩ (.int .i64 p3)) ⟨g + 1 + 1, 3, none⟩ (.int .i64 p4) = V1 at D ⊢
          clear A1 Q1 b1
          go_wp2_with fail
          go_roundw
          case rel => exact ⟨k + 1, _, _, _, _, _, _, _, _, by omega, by go_num, D⟩
          case measure => simp [intOf]; omega
    · have t3 : ¬ (k : Int) < n := by omega
      by_cases q2 : k < n2
      · have t4 : (k : Int) < n2 := by omega
        obtain ⟨ea, hbb2⟩ := h2.pl (by omega)
        subst ea
        go_upto_region 14 with fail
        have hs := h2.below D.b
        have e0 := hs.c0 k q2
        have e1 := hs.c1 k q2
        clear hs
        have d0 := D.a2.c0
        have d1 := D.a2.c1
        have d2 := D.a2.c2
        have d3 := D.a2.c3
        go_region_with
          (first | (go_at_call 7; refine (does_any (g + 1) x y z u (K2 k) (M2 k) _ D.m2.drew).mono ?_; rintro e W1 ⟨r1, r2, r3, r4, rfl, b1, Q1⟩; unfold agg4; have A1 := D.a2.drew.but b1 (by omega); have z0 := A1.c0; have f0 := A1.fr 0; have z1 := A1.c1; have f1 := A1.fr 1; have z2 := A1.c2; have f2 := A1.fr 2; have z3 := A1.c3; have f3 := A1.fr 3) | fail)
        · clear z0 z1 z2 z3 f0 f1 f2 f3 d0 d1 d2 d3 e0 e1
          replace D := D.drew.two hg b1 Q1
          unfold put4 at D
          generalize World.setCell (World.setCell (World.setCell (World.setCell W1 ⟨g + 1 + 1 + 1, 0, none⟩ (.int .i64 r1)) ⟨g + 1 + 1 + 1, 1, none⟩ (.int .i64 r2)) ⟨g + 1 + 1 + 1, 2, none⟩ (.int .i64 r3)) ⟨g + 1 + 1 + 1, 3, none⟩ (.int .i64 r4) = V2 at D ⊢
          clear A1 Q1 b1
          go_wp2_with fail
          go_roundw
          case rel => exact ⟨k + 1, _, _, _, _, _, _, _, _, by omega, by go_num, D⟩
          case measure => simp [intOf]; omega
        · clear z0 z1 z2 z3 f0 f1 f2 f3 d0 d1 d2 d3 e0 e1
          replace D := D.drew.two hg b1 Q1
          unfold put4 at D
          generalize World.setCell (World.setCell (World.setCell (World.setCell W1 ⟨g + 1 + 1 + 1, 0, none⟩ (.int .i64 r1)) ⟨g + 1 + 1 + 1, 1, none⟩ (.int .i64 r2)) ⟨g + 1 + 1 + 1, 2, none⟩ (.int .i64 r3)) ⟨g + 1 + 1 + 1, 3, none⟩ (.int .i64 r4) = V2 at D ⊢
          clear A1 Q1 b1
          go_wp2_with fail
          go_roundw
          case rel => exact ⟨k + 1, _, _, _, _, _, _, _, _, by omega, by go_num, D⟩
          case measure => simp [intOf]; omega
      · have t4 : ¬ (k : Int) < n2 := by omega
        clear h h2
        go_upto_region 17 with fail
        have p0 : P8 (g + 1 + 1) (g + 1 + 1 + 1) t c v s x y z u wr := ⟨⟨D.a.c0, D.a.c1, D.a.c2, D.a.c3⟩, ⟨D.a2.c0, D.a2.c1, D.a2.c2, D.a2.c3⟩⟩
        go_region_held3 (fun W => (W.cell? ⟨g + 1 + 1, 0, none⟩ = some (.int .i64 t) ∧ W.cell? ⟨g + 1 + 1, 1, none⟩ = some (.int .i64 c) ∧ W.cell? ⟨g + 1 + 1, 2, none⟩ = some (.int .i64 v) ∧ W.cell? ⟨g + 1 + 1, 3, none⟩ = some (.int .i64 s)) ∧ (W.cell? ⟨g + 1 + 1 + 1, 0, none⟩ = some (.int .i64 x) ∧ W.cell? ⟨g + 1 + 1 + 1, 1, none⟩ = some (.int .i64 y) ∧ W.cell? ⟨g + 1 + 1 + 1, 2, none⟩ = some (.int .i64 z) ∧ W.cell? ⟨g + 1 + 1 + 1, 3, none⟩ = some (.int .i64 u)))
          (first | exact p0 | exact P8.below (by assumption) b3 | exact P8.but (by assumption) b2 (by omega) (by omega) | exact P8.but (by assumption) b1 (by omega) (by omega) | assumption | fail)
          (first | (go_at_call 9; (with_reducible show Calls Try.prog _ #[Value.pointer (some ⟨g, 0, none⟩)] _ _); refine (read_any g t c v s _ D.m.drew).mono ?_; rintro e W1 ⟨rfl, b1, Q1⟩; unfold agg4)
                 | (go_at_call 9; (with_reducible show Calls Try.prog _ #[Value.pointer (some ⟨g + 1, 0, none⟩)] _ _); refine (read_any (g + 1) x y z u _ (Mt.but D.m2.drew b1 (by omega))).mono ?_; rintro e W2 ⟨rfl, b2, Q2⟩; unfold agg4)
                 | (go_at_call 6; refine (awake_any _).mono ?_; rintro e W3 ⟨rfl, b3⟩) | fail)
        go_wp2
        go_ret
        have B1 := D.b.drew.trans (b1.below hg D.b.drew.size)
        have B2 := B1.trans (b2.below (by omega) B1.size)
        exact ⟨rfl, B2.trans (b3.mono B2.size)⟩
end Go.Proofs.Ytljonofedefdbaa
