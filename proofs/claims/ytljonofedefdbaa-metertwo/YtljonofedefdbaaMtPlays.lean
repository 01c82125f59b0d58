/-
  MeterNothing and MeterPlays, walked.
-/
import Derived.Test.YtljonofedefdbaaMtDoes3
namespace Go.Proofs.Ytljonofedefdbaa
open Go.RowKit

/-- A row of steps that was handed in. -/
structure Ss (w : World) (a : Option Addr) (n cap b off : Nat) (K M : Nat → Int) : Prop where
  le : n ≤ cap
  pl : 0 < n → a = some ⟨b, off, none⟩ ∧ b < w.heap.size
  c0 : ∀ i, i < n → w.cell? ⟨b, off + i * 2, none⟩ = some (.int .i64 (K i))
  c1 : ∀ i, i < n → w.cell? ⟨b, off + i * 2 + 1, none⟩ = some (.int .i64 (M i))
theorem Ss.below {w w' : World} {a : Option Addr} {n cap b off : Nat} {K M : Nat → Int} (h : Ss w a n cap b off K M) (hb : Below w.heap.size w w') : Ss w' a n cap b off K M :=
  ⟨h.le, fun h0 => ⟨(h.pl h0).1, Nat.lt_of_lt_of_le (h.pl h0).2 hb.size⟩, fun i hi => (hb.cell (p := ⟨b, off + i * 2, none⟩) (h.pl (by omega)).2).trans (h.c0 i hi), fun i hi => (hb.cell (p := ⟨b, off + i * 2 + 1, none⟩) (h.pl (by omega)).2).trans (h.c1 i hi)⟩

/-- What the held cells are. -/
def P2 (b o p : Nat) (x y : Int) (W : World) : Prop := W.cell? ⟨b, o, none⟩ = some (.int .i64 x) ∧ W.cell? ⟨b, p, none⟩ = some (.int .i64 y)
theorem P2.same {b o p : Nat} {x y : Int} {w w' : World} (h : P2 b o p x y w) (e : w'.heap[b]? = w.heap[b]?) : P2 b o p x y w' :=
  have k : ∀ o, w'.cell? ⟨b, o, none⟩ = w.cell? ⟨b, o, none⟩ := fun _ => World.cell?_of_block (w := w) e
  ⟨(k _).trans h.1, (k _).trans h.2⟩
theorem P2.but {b o p g : Nat} {x y : Int} {w w' : World} (h : P2 b o p x y w) (hb : But g w w') (hg : b ≠ g) : P2 b o p x y w' := h.same (hb.block b (lt_of_cell h.1) hg)
theorem P2.put {b o p M : Nat} {x y : Int} {w : World} (h : P2 b o p x y w) (hM : b ≠ M) (x1 x2 x3 x4 : Int) : P2 b o p x y (put4 w M x1 x2 x3 x4) := h.same (put4_block _ _ _ _ _ _ _ hM)
theorem below_put4 {B : Nat} {w W : World} (h : Below B w W) {N : Nat} (hN : B ≤ N) (x y z u : Int) : Below B w (put4 W N x y z u) := by
  unfold put4
  exact (((h.setCell (p := ⟨N, 0, none⟩) hN _).setCell (p := ⟨N, 1, none⟩) hN _).setCell (p := ⟨N, 2, none⟩) hN _).setCell (p := ⟨N, 3, none⟩) hN _
theorem Four.put4 {w : World} {N : Nat} {a b c d : Int} (h : Four w N a b c d) (a' b' c' d' : Int) : Four (put4 w N a' b' c' d') N a' b' c' d' := h.all a' b' c' d'

set_option maxRecDepth 100000 in
set_option maxHeartbeats 3200000 in
theorem nothing_walk (a : Option Addr) (n cap b off : Nat) (K M : Nat → Int) (w : World) (h : Ss w a n cap b off K M) :
    Calls Try.prog 5 #[.slice a n cap] w fun e w' => e = .returned (.bool true) ∧ Below w.heap.size w w' := by
  go_enter Try.func5, Try.ntmps5
  by_cases hl : 3000 < n
  · have t1 : (3000 : Int) < n := by omega
    go_wp2_with fail
    refine (awake_any _).mono ?_
    rintro e w2 ⟨rfl, hb2⟩
    go_wp2
    go_ret
    exact ⟨rfl, hb2⟩
  · have t1 : ¬ (3000 : Int) < n := by omega
    have hl' : n ≤ 3000 := by omega
    clear hl
    go_wp2_with fail
    go_loopw [4] (fun iv wr => ∃ (k : Nat), k ≤ n ∧ iv = .int .i64 (k : Int) ∧ Below w.heap.size w wr) (fun iv _ => n - (intOf iv).toNat)
    case atStart => exact ⟨0, Nat.zero_le _, rfl, Below.refl _ _⟩
    case round =>
      obtain ⟨k, hk, rfl, B⟩ := hrel
      by_cases hlt : k < n
      · have t4 : (k : Int) < n := by omega
        have hs := h.below B
        obtain ⟨ea, hb⟩ := hs.pl (by omega)
        have e0 := hs.c0 k hlt
        have e1 := hs.c1 k hlt
        clear hs
        subst ea
        go_wp2_with fail
        clear e0 e1
        refine (does_nil (K k) (M k) _).mono ?_
        rintro e w3 ⟨x, rfl, b3⟩
        replace B := B.trans (b3.mono B.size)
        clear b3
        go_wp2_with fail
        go_roundw
        case rel => exact ⟨k + 1, by omega, by go_num, B⟩
        case measure => simp [intOf]; omega
      · have t4 : ¬ (k : Int) < n := by omega
        clear h
        go_wp2_with fail
        refine (read_nil _).mono ?_
        rintro e w3 ⟨rfl, b3⟩
        replace B := B.trans (b3.mono B.size)
        clear b3
        unfold agg4
        go_wp2_with fail
        refine (take_nil _).mono ?_
        rintro e w4 ⟨rfl, b3⟩
        replace B := B.trans (b3.mono B.size)
        clear b3
        unfold agg4
        go_wp2_with fail
        refine (awake_any _).mono ?_
        rintro e w5 ⟨rfl, b3⟩
        replace B := B.trans (b3.mono B.size)
        clear b3
        go_wp2
        go_ret
        exact ⟨rfl, B⟩

set_option maxRecDepth 100000 in
set_option maxHeartbeats 6400000 in
theorem plays_walk (a : Option Addr) (n cap b off : Nat) (K M : Nat → Int) (w : World) (h : Ss w a n cap b off K M) :
    Calls Try.prog 3 #[.slice a n cap] w fun e w' => e = .returned (.bool true) ∧ Below w.heap.size w w' := by
  go_enter Try.func3, Try.ntmps3
  by_cases hl : 3000 < n
  · have t1 : (3000 : Int) < n := by omega
    go_wp2_with fail
    refine (awake_any _).mono ?_
    rintro e w2 ⟨rfl, hb2⟩
    go_wp2
    go_ret
    exact ⟨rfl, hb2⟩
  · have t1 : ¬ (3000 : Int) < n := by omega
    have hl' : n ≤ 3000 := by omega
    clear hl
    go_wp2_with fail
    have M0 := (Mt.new w 42).alloc (.cells #[.int .i64 0, .int .i64 0, .int .i64 0, .int .i64 0] 44)
    have A0 := Four.new (w.alloc (.cells #[.int .i32 0, .int .u32 0, .int .u32 0, .int .u32 0, .int .i32 0, .int .i32 0, .int .i64 0, .int .i64 0, .int .i64 0, .int .i64 0] 42)) 0 0 0 0 44
    have B0 := ((Below.refl w.heap.size w).alloc (Nat.le_refl _) (.cells #[.int .i32 0, .int .u32 0, .int .u32 0, .int .u32 0, .int .i32 0, .int .i32 0, .int .i64 0, .int .i64 0, .int .i64 0, .int .i64 0] 42)).alloc (by simp) (.cells #[.int .i64 0, .int .i64 0, .int .i64 0, .int .i64 0] 44)
    have eN : (w.alloc (.cells #[.int .i32 0, .int .u32 0, .int .u32 0, .int .u32 0, .int .i32 0, .int .i32 0, .int .i64 0, .int .i64 0, .int .i64 0, .int .i64 0] 42)).heap.size = w.heap.size + 1 := by simp
    rw [eN] at A0
    clear eN
    generalize World.alloc (World.alloc w _) _ = W0 at M0 A0 B0 ⊢
    have hg : w.heap.size ≤ w.heap.size := Nat.le_refl _
    generalize hgg : w.heap.size = g at M0 A0 ⊢
    replace hg : w.heap.size ≤ g := by omega
    clear hgg
    go_loopw [5] (fun iv wr => ∃ (k : Nat) (t c v s : Int), k ≤ n ∧ iv = .int .i64 (k : Int) ∧ Mt wr g t c v s ∧ Four wr (g + 1) t c v s ∧ Below w.heap.size w wr) (fun iv _ => n - (intOf iv).toNat)
    case atStart => exact ⟨0, 0, 0, 0, 0, Nat.zero_le _, rfl, M0, A0, B0⟩
    case round =>
      clear M0 A0 B0
      obtain ⟨k, t, c, v, s, hk, rfl, Q, A, B⟩ := hrel
      by_cases hlt : k < n
      · have t4 : (k : Int) < n := by omega
        have hs := h.below B
        obtain ⟨ea, hb⟩ := h.pl (by omega)
        have e0 := hs.c0 k hlt
        have e1 := hs.c1 k hlt
        clear hs
        subst ea
        have hbg : b ≠ g := by omega
        have hbN : b ≠ g + 1 := by omega
        go_upto_region 9 with fail
        have a0 := A.c0
        have a1 := A.c1
        have a2 := A.c2
        have a3 := A.c3
        go_region_with
          (first | (go_at_call 7; refine (does_any g t c v s (K k) (M k) _ Q.drew).mono ?_; rintro e W1 ⟨t', c', v', s', rfl, b1, Q1⟩; unfold agg4; have A1 := A.drew.but b1 (by omega); have z0 := A1.c0; have z1 := A1.c1; have z2 := A1.c2; have z3 := A1.c3; have f0 := A1.fr 0; have f1 := A1.fr 1; have f2 := A1.fr 2; have f3 := A1.fr 3) | fail)
        · clear z0 z1 z2 z3 f0 f1 f2 f3 a0 a1 a2 a3 e0 e1
          have A2 := A1.put4 t' c' v' s'
          have Q2 := Q1.same (put4_block _ (g + 1) t' c' v' s' g (by omega))
          have B2 := below_put4 (B.drew.trans (b1.below hg B.drew.size)) (N := g + 1) (by omega) t' c' v' s'
          unfold put4 at A2 Q2 B2
          generalize World.setCell (World.setCell (World.setCell (World.setCell W1 ⟨g + 1, 0, none⟩ (.int .i64 t')) ⟨g + 1, 1, none⟩ (.int .i64 c')) ⟨g + 1, 2, none⟩ (.int .i64 v')) ⟨g + 1, 3, none⟩ (.int .i64 s') = W2 at A2 Q2 B2 ⊢
          clear A Q B A1 Q1 b1
          go_wp2_with fail
          go_roundw
          case rel => exact ⟨k + 1, t', c', v', s', by omega, by go_num, Q2, A2, B2⟩
          case measure => simp [intOf]; omega
        · clear z0 z1 z2 z3 f0 f1 f2 f3 a0 a1 a2 a3 e0 e1
          have A2 := A1.put4 t' c' v' s'
          have Q2 := Q1.same (put4_block _ (g + 1) t' c' v' s' g (by omega))
          have B2 := below_put4 (B.drew.trans (b1.below hg B.drew.size)) (N := g + 1) (by omega) t' c' v' s'
          unfold put4 at A2 Q2 B2
          generalize World.setCell (World.setCell (World.setCell (World.setCell W1 ⟨g + 1, 0, none⟩ (.int .i64 t')) ⟨g + 1, 1, none⟩ (.int .i64 c')) ⟨g + 1, 2, none⟩ (.int .i64 v')) ⟨g + 1, 3, none⟩ (.int .i64 s') = W2 at A2 Q2 B2 ⊢
          clear A Q B A1 Q1 b1
          go_wp2_with fail
          go_roundw
          case rel => exact ⟨k + 1, t', c', v', s', by omega, by go_num, Q2, A2, B2⟩
          case measure => simp [intOf]; omega
      · have t4 : ¬ (k : Int) < n := by omega
        clear h
        go_upto_region 12 with fail
        have p0 : P4 (g + 1) t c v s wr := ⟨A.c0, A.c1, A.c2, A.c3⟩
        go_region_held3 (fun W => W.cell? ⟨g + 1, 0, none⟩ = some (.int .i64 t) ∧ W.cell? ⟨g + 1, 1, none⟩ = some (.int .i64 c) ∧ W.cell? ⟨g + 1, 2, none⟩ = some (.int .i64 v) ∧ W.cell? ⟨g + 1, 3, none⟩ = some (.int .i64 s))
          (first | exact p0 | exact P4.below (by assumption) b3 | exact P4.but (by assumption) b2 (by omega) | exact P4.but (by assumption) b1 (by omega) | assumption | fail)
          (first | (go_at_call 8; refine (take_any g t c v s _ Q.drew).mono ?_; rintro e W1 ⟨rfl, b1, Q1⟩; unfold agg4)
                 | (go_at_call 9; refine (read_any g 0 0 0 0 _ Q1).mono ?_; rintro e W2 ⟨rfl, b2, Q2⟩; unfold agg4)
                 | (go_at_call 6; refine (awake_any _).mono ?_; rintro e W3 ⟨rfl, b3⟩) | fail)
        go_wp2
        go_ret
        have B1 := B.drew.trans (b1.below hg B.drew.size)
        have B2 := B1.trans (b2.below hg B1.size)
        exact ⟨rfl, B2.trans (b3.mono B2.size)⟩
end Go.Proofs.Ytljonofedefdbaa
