/-
  Rows of entries and of ints as the laws read them; the laws' entries and sight.
-/
import Derived.Test.YtdjabdmnknlaeaaGreatEnMem
import Derived.Deep.CutRange
import Derived.Deep.RegionHeld3
namespace Go.Proofs.YtdjabdmnknlaeaaGreat
open Go.RowKit Go.WideShapes

/-- Entries in a slice. -/
def SlE (w : World) (a : Option Addr) (n cap : Nat) (es : List En) : Prop := n = es.length ∧ n ≤ cap ∧ ∃ ge, (0 < n → a = some ⟨ge, 0, none⟩ ∧ ge < w.heap.size) ∧ Ro w ge n cap es
theorem Es.sl {w : World} {v : Value} {es : List En} (h : Es w v es) : ∃ a cap, v = .slice a es.length cap ∧ SlE w a es.length cap es := by
  obtain ⟨a, cap, ge, e, hp, hr⟩ := h.open
  exact ⟨a, cap, e, rfl, hr.le, ge, fun h0 => ⟨(hp h0).1, h.lt ge (hp h0).2.1⟩, hr⟩
theorem SlE.below {w w' : World} {a : Option Addr} {n cap : Nat} {es : List En} (h : SlE w a n cap es) (hb : Below w.heap.size w w') : SlE w' a n cap es := by
  obtain ⟨h1, h2, ge, h3, h4⟩ := h
  refine ⟨h1, h2, ge, fun h0 => ⟨(h3 h0).1, Nat.lt_of_lt_of_le (h3 h0).2 hb.size⟩, ?_⟩
  have key : ∀ n', n' < n → ∀ o, w'.cell? ⟨ge, o, none⟩ = w.cell? ⟨ge, o, none⟩ := fun n' hn o => hb.cell (p := ⟨ge, o, none⟩) (h3 (by omega)).2
  exact ⟨h4.le, fun n hn => (key n hn _).trans (h4.c0 n hn), fun n hn => (key n hn _).trans (h4.c1 n hn), fun n hn => (key n hn _).trans (h4.c2 n hn), fun n hn => (key n hn _).trans (h4.c3 n hn), fun n hn => (key n hn _).trans (h4.c4 n hn)⟩
set_option maxRecDepth 100000 in
set_option maxHeartbeats 4000000 in
theorem entries_any (a1 a2 : Option Addr) (n c1 c2 : Nat) (es : List En) (w : World) (h1 : SlE w a1 n c1 es) (h2 : SlE w a2 n c2 es) (hl : n ≤ 1000000) :
    Calls Tryz.prog 39 #[.slice a1 n c1, .slice a2 n c2] w fun e w' => e = .returned (.bool true) ∧ Below w.heap.size w w' := by
  obtain ⟨-, k1, b1, p1, s1⟩ := h1
  obtain ⟨-, k2, b2, p2, s2⟩ := h2
  have HP1 := Lib.hid p1
  have HP2 := Lib.hid p2
  have HS1 := Lib.hid s1
  have HS2 := Lib.hid s2
  have hl0 : ((n : Int) != (n : Int)) = false := by simp
  clear p1 p2 s1 s2
  go_enter Tryz.func39, Tryz.ntmps39
  go_wp2
  go_loopw [5] (fun iv wr => ∃ k : Nat, k ≤ n ∧ iv = .int .i64 (k : Int) ∧ Below w.heap.size w wr) (fun iv _ => n - (intOf iv).toNat)
  case atStart => exact ⟨0, Nat.zero_le _, rfl, Below.refl _ _⟩
  case round =>
    obtain ⟨k, hk, rfl, hB0⟩ := hrel
    by_cases hlt : k < n
    · obtain ⟨e1, q1⟩ := HP1.out (by omega)
      obtain ⟨e2, q2⟩ := HP2.out (by omega)
      have hly : (k : Int) < (n : Int) := by omega
      have key1 : ∀ o, wr.cell? ⟨b1, o, none⟩ = w.cell? ⟨b1, o, none⟩ := fun o => hB0.cell (p := ⟨b1, o, none⟩) q1
      have key2 : ∀ o, wr.cell? ⟨b2, o, none⟩ = w.cell? ⟨b2, o, none⟩ := fun o => hB0.cell (p := ⟨b2, o, none⟩) q2
      have x0 := (key1 _).trans (HS1.out.c0 k hlt)
      have x1 := (key1 _).trans (HS1.out.c1 k hlt)
      have x2 := (key1 _).trans (HS1.out.c2 k hlt)
      have x3 := (key1 _).trans (HS1.out.c3 k hlt)
      have x4 := (key1 _).trans (HS1.out.c4 k hlt)
      have y0 := (key2 _).trans (HS2.out.c0 k hlt)
      have y1 := (key2 _).trans (HS2.out.c1 k hlt)
      have y2 := (key2 _).trans (HS2.out.c2 k hlt)
      have y3 := (key2 _).trans (HS2.out.c3 k hlt)
      have y4 := (key2 _).trans (HS2.out.c4 k hlt)
      subst e1
      subst e2
      clear key1 key2
      generalize (nth es k).live = b0 at *
      generalize (nth es k).hash = z1 at *
      generalize (nth es k).key = z2 at *
      generalize (nth es k).value = z3 at *
      generalize (nth es k).birth = z4 at *
      go_wp2_with fail
      go_region_held3 (fun V => ((V.cell? ⟨b1, k * 5, none⟩ = some (.bool b0) ∧ V.cell? ⟨b1, k * 5 + 1, none⟩ = some (.int .i64 z1)) ∧ (V.cell? ⟨b1, k * 5 + 2, none⟩ = some (.int .i64 z2) ∧ V.cell? ⟨b1, k * 5 + 3, none⟩ = some (.int .i64 z3) ∧ V.cell? ⟨b1, k * 5 + 4, none⟩ = some (.int .i64 z4))) ∧ (V.cell? ⟨b2, k * 5, none⟩ = some (.bool b0) ∧ V.cell? ⟨b2, k * 5 + 1, none⟩ = some (.int .i64 z1)) ∧ (V.cell? ⟨b2, k * 5 + 2, none⟩ = some (.int .i64 z2) ∧ V.cell? ⟨b2, k * 5 + 3, none⟩ = some (.int .i64 z3) ∧ V.cell? ⟨b2, k * 5 + 4, none⟩ = some (.int .i64 z4)))
        (first | exact ⟨⟨⟨x0, x1⟩, x2, x3, x4⟩, ⟨y0, y1⟩, y2, y3, y4⟩ | fail) (fail)
      go_wp2_with fail
      go_roundw
      case rel => exact ⟨k + 1, by omega, by go_num, hB0.drew⟩
      case measure => simp [intOf]; omega
    · have hly : ¬ (k : Int) < (n : Int) := by omega
      go_wp2
      go_ret
      exact ⟨rfl, hB0⟩
/-- Ints in a slice. -/
def SlN (w : World) (a : Option Addr) (n cap : Nat) (f : Nat → Int) : Prop := n ≤ cap ∧ ∃ b, (0 < n → a = some ⟨b, 0, none⟩ ∧ b < w.heap.size) ∧ ∀ j, j < n → w.cell? ⟨b, j, none⟩ = some (.int .i64 (f j))
theorem SlN.below {w w' : World} {a : Option Addr} {n cap : Nat} {f : Nat → Int} (h : SlN w a n cap f) (hb : Below w.heap.size w w') : SlN w' a n cap f := by
  obtain ⟨h2, b, h3, h4⟩ := h
  exact ⟨h2, b, fun h0 => ⟨(h3 h0).1, Nat.lt_of_lt_of_le (h3 h0).2 hb.size⟩, fun j hj => (hb.cell (p := ⟨b, j, none⟩) (h3 (by omega)).2).trans (h4 j hj)⟩
/-- What Sight tells. -/
def siV (log width : Int) (ca : Option Addr) (cn cc : Nat) (ea : Option Addr) (en ec : Nat) (live births made : Int) : Value :=
  .agg #[.int .i64 log, .int .i64 width, .slice ca cn cc, .slice ea en ec, .int .i64 live, .int .i64 births, .int .i64 made]
set_option maxRecDepth 100000 in
set_option maxHeartbeats 8000000 in
theorem sight_any (log width live births made : Int) (ca1 ca2 ea1 ea2 : Option Addr) (cn cc1 cc2 en ec1 ec2 : Nat) (f : Nat → Int) (es : List En) (w : World) (h1 : SlN w ca1 cn cc1 f) (h2 : SlN w ca2 cn cc2 f) (h3 : SlE w ea1 en ec1 es) (h4 : SlE w ea2 en ec2 es) (hc : cn ≤ 2000000) (hen : en ≤ 1000000) :
    Calls Tryz.prog 12 #[siV log width ca1 cn cc1 ea1 en ec1 live births made, siV log width ca2 cn cc2 ea2 en ec2 live births made] w fun e w' => e = .returned (.bool true) ∧ Below w.heap.size w w' := by
  obtain ⟨w1, hw1⟩ : ∃ w1, w.alloc (.cells #[.int .i64 log, .int .i64 width, .slice ca1 cn cc1, .slice ea1 en ec1, .int .i64 live, .int .i64 births, .int .i64 made] 36) = w1 := ⟨_, rfl⟩
  have hB1 : Blk w1 w.heap.size 7 (fun j => #[Value.int .i64 log, .int .i64 width, .slice ca1 cn cc1, .slice ea1 en ec1, .int .i64 live, .int .i64 births, .int .i64 made].getD j .nilFunc) := by rw [← hw1]; exact Blk.new w _ _
  have hb1 : Below w.heap.size w w1 := by rw [← hw1]; exact (Below.refl _ w).alloc (Nat.le_refl _) _
  have hs1 : w1.heap.size = w.heap.size + 1 := by rw [← hw1]; simp
  obtain ⟨w2, hw2⟩ : ∃ w2, w1.alloc (.cells #[.int .i64 log, .int .i64 width, .slice ca2 cn cc2, .slice ea2 en ec2, .int .i64 live, .int .i64 births, .int .i64 made] 36) = w2 := ⟨_, rfl⟩
  have hB2 : Blk w2 w1.heap.size 7 (fun j => #[Value.int .i64 log, .int .i64 width, .slice ca2 cn cc2, .slice ea2 en ec2, .int .i64 live, .int .i64 births, .int .i64 made].getD j .nilFunc) := by rw [← hw2]; exact Blk.new w1 _ _
  have hb2 : Below w1.heap.size w1 w2 := by rw [← hw2]; exact (Below.refl _ w1).alloc (Nat.le_refl _) _
  have hB1' := hB1.of hb2 (by omega)
  rw [hs1] at hB2
  have HB1 := Lib.hid hB1'
  have HB2 := Lib.hid hB2
  have hl1 := hB1'.lt (by omega)
  have hl2 := hB2.lt (by omega)
  have HBW := Lib.hid (hb1.trans (hb2.mono hb1.size))
  have H1 := Lib.hid ((h1.below hb1).below hb2)
  have H2 := Lib.hid ((h2.below hb1).below hb2)
  have H3 := Lib.hid ((h3.below hb1).below hb2)
  have H4 := Lib.hid ((h4.below hb1).below hb2)
  have hcc1 := h1.1
  have hcc2 := h2.1
  have b0 : w2.cell? ⟨w.heap.size, 0, none⟩ = some (.int .i64 log) := hB1'.c 0 (by omega)
  have b1 : w2.cell? ⟨w.heap.size, 1, none⟩ = some (.int .i64 width) := hB1'.c 1 (by omega)
  have b2 : w2.cell? ⟨w.heap.size, 2, none⟩ = some (.slice ca1 cn cc1) := hB1'.c 2 (by omega)
  have b4 : w2.cell? ⟨w.heap.size, 4, none⟩ = some (.int .i64 live) := hB1'.c 4 (by omega)
  have b5 : w2.cell? ⟨w.heap.size, 5, none⟩ = some (.int .i64 births) := hB1'.c 5 (by omega)
  have b6 : w2.cell? ⟨w.heap.size, 6, none⟩ = some (.int .i64 made) := hB1'.c 6 (by omega)
  have d0 : w2.cell? ⟨w.heap.size + 1, 0, none⟩ = some (.int .i64 log) := hB2.c 0 (by omega)
  have d1 : w2.cell? ⟨w.heap.size + 1, 1, none⟩ = some (.int .i64 width) := hB2.c 1 (by omega)
  have d2 : w2.cell? ⟨w.heap.size + 1, 2, none⟩ = some (.slice ca2 cn cc2) := hB2.c 2 (by omega)
  have d4 : w2.cell? ⟨w.heap.size + 1, 4, none⟩ = some (.int .i64 live) := hB2.c 4 (by omega)
  have d5 : w2.cell? ⟨w.heap.size + 1, 5, none⟩ = some (.int .i64 births) := hB2.c 5 (by omega)
  have d6 : w2.cell? ⟨w.heap.size + 1, 6, none⟩ = some (.int .i64 made) := hB2.c 6 (by omega)
  have n0 : (log != log) = false := by simp
  have n1 : (width != width) = false := by simp
  have n4 : (live != live) = false := by simp
  have n5 : (births != births) = false := by simp
  have n6 : (made != made) = false := by simp
  have n2 : ((cn : Int) != (cn : Int)) = false := by simp
  clear hB1 hb1 hB2 hb2 hB1' h1 h2 h3 h4
  unfold siV
  go_enter Tryz.func12, Tryz.ntmps12
  go_upto_region 3 with fail
  clear hw1 hw2 b0 b1 b2 b4 b5 b6 d0 d1 d2 d4 d5 d6 n0 n1 n4 n5 n6 n2 hs1
  go_wp2_with fail
  go_loopw [5] (fun iv wr => ∃ k : Nat, k ≤ cn ∧ iv = .int .i64 (k : Int) ∧ Below w2.heap.size w2 wr) (fun iv _ => cn - (intOf iv).toNat)
  case atStart => exact ⟨0, Nat.zero_le _, rfl, Below.refl _ _⟩
  case round =>
    obtain ⟨k, hk, rfl, hB⟩ := hrel
    have g2 : wr.cell? ⟨w.heap.size, 2, none⟩ = some (.slice ca1 cn cc1) := (HB1.out.of hB (by omega)).c 2 (by omega)
    by_cases hlt : k < cn
    · have t1 : (k : Int) < (cn : Int) := by omega
      have i2 : wr.cell? ⟨w.heap.size + 1, 2, none⟩ = some (.slice ca2 cn cc2) := (HB2.out.of hB (by omega)).c 2 (by omega)
      obtain ⟨_, p1, r1, s1⟩ := H1.out.below hB
      obtain ⟨_, p2, r2, s2⟩ := H2.out.below hB
      obtain ⟨e1, _⟩ := r1 (by omega)
      obtain ⟨e2, _⟩ := r2 (by omega)
      have x1 := s1 k hlt
      have x2 := s2 k hlt
      subst e1
      subst e2
      clear r1 r2 s1 s2
      generalize f k = y at x1 x2
      have n3 : (y != y) = false := by simp
      go_wp2_with fail
      go_region_held3 (fun V => (V.cell? ⟨w.heap.size, 2, none⟩ = some (.slice (some ⟨p1, 0, none⟩) cn cc1) ∧ V.cell? ⟨w.heap.size + 1, 2, none⟩ = some (.slice (some ⟨p2, 0, none⟩) cn cc2)) ∧ V.cell? ⟨p1, k, none⟩ = some (.int .i64 y) ∧ V.cell? ⟨p2, k, none⟩ = some (.int .i64 y))
        (first | exact ⟨⟨g2, i2⟩, x1, x2⟩ | fail) (fail)
      go_wp2_with fail
      go_roundw
      case rel => exact ⟨k + 1, by omega, by go_num, hB.drew⟩
      case measure => simp [intOf]; omega
    · have t1 : ¬ (k : Int) < (cn : Int) := by omega
      have g3 : wr.cell? ⟨w.heap.size, 3, none⟩ = some (.slice ea1 en ec1) := (HB1.out.of hB (by omega)).c 3 (by omega)
      have i3 : wr.cell? ⟨w.heap.size + 1, 3, none⟩ = some (.slice ea2 en ec2) := (HB2.out.of hB (by omega)).c 3 (by omega)
      have CE := entries_any ea1 ea2 en ec1 ec2 es wr (H3.out.below hB) (H4.out.below hB) hen
      have HBB := Lib.hid (HBW.out.trans (hB.mono HBW.out.size))
      clear hB
      go_wp2_with fail
      refine CE.mono ?_
      rintro e w5 ⟨rfl, hb5⟩
      clear CE
      go_wp2
      go_ret
      exact ⟨rfl, HBB.out.trans (hb5.mono HBB.out.size)⟩
/-- The first n of these ints. -/
def il (n : Nat) (f : Nat → Int) : List Value := (List.range n).map fun j => Value.int .i64 (f j)
theorem il_len (n : Nat) (f : Nat → Int) : (il n f).length = n := by simp [il]
theorem il_get (n : Nat) (f : Nat → Int) (j : Nat) (hj : j < n) : (il n f)[j]? = some (.int .i64 (f j)) := by simp [il, hj]
theorem il_one (n : Nat) (f : Nat → Int) : ∀ u ∈ il n f, u.oneCell' = true := by
  intro u hu
  simp [il] at hu
  obtain ⟨j, _, rfl⟩ := hu
  rfl
theorem own_sln {B : Nat} {w : World} {v : Value} {n : Nat} {f : Nat → Int} (h : w.ownsRow B 3 1 v n (il n f)) : ∃ a cap, v = .slice a n cap ∧ SlN w a n cap f := by
  rcases h.2 with ⟨rfl, rfl⟩ | ⟨g, cap, cur, rfl, _, hh, hc, _⟩
  · exact ⟨none, 0, rfl, Nat.le_refl _, 0, fun h => by omega, fun j h => by omega⟩
  · exact ⟨_, cap, rfl, hc, g, fun _ => ⟨rfl, (Array.getElem?_eq_some_iff.1 hh).1⟩, fun j hj => by rw [h.cellAt j (by omega), il_get _ _ _ hj]⟩
theorem SlN.same {w w' : World} {a : Option Addr} {n cap B : Nat} {f : Nat → Int} (h : w.ownsRow B 3 1 (.slice a n cap) n (il n f)) (e : ∀ k, B ≤ k → k < w.heap.size → w'.heap[k]? = w.heap[k]?) (hs : w.heap.size ≤ w'.heap.size) : SlN w' a n cap f := by
  rcases h.2 with ⟨h1, h2⟩ | ⟨g, cap', cur, h1, hg, hh, hc, _⟩
  · cases h1; exact ⟨Nat.le_refl _, 0, fun h => by omega, fun j h => by omega⟩
  · cases h1
    have lg := (Array.getElem?_eq_some_iff.1 hh).1
    exact ⟨hc, g, fun _ => ⟨rfl, by omega⟩, fun j hj => (World.cell?_of_block (a := ⟨g, j, none⟩) (e g hg lg)).trans (by rw [h.cellAt j (by omega), il_get _ _ _ hj])⟩
end Go.Proofs.YtdjabdmnknlaeaaGreat
