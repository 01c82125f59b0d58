/-
  Sights and pairs, told and compared by the law.
-/
import Derived.Test.YtjbgbijpihpkmaaGreatShPairs2
import Derived.Test.YtjbgbijpihpkmaaGreatDtSight
import Derived.Test.YtjbgbijpihpkmaaGreatStEq
namespace Go.Proofs.YtjbgbijpihpkmaaGreat
open Go.RowKit Go.WideShapes

theorem SgV.keep {B B' : Nat} {w w' : World} {t : Tb} {hc : Nat} {ev' : Value} (h : SgV B w t hc ev') (hB : B' ≤ B) (e : ∀ k, B ≤ k → w'.heap[k]? = w.heap[k]?) : SgV B' w' t hc ev' := by
  refine ⟨h.row.same (e _ h.hB), ?_, Nat.le_trans hB h.hB, h.ne⟩
  have h1 := h.es.es.same (w' := w') (fun k hk => e k (h.es.ge k hk))
  have h2 := h.es.ge
  refine ⟨h1.1, ?_⟩
  rcases h1.2 with h0 | ⟨g, cap, cur, e', q1, q2⟩
  · exact .inl h0
  · exact .inr ⟨g, cap, cur, e', Nat.le_trans hB (h2 g (by rw [e']; rfl)), q2⟩
set_option maxRecDepth 100000 in
theorem fsight_any {w : World} {d g gi r h : Nat} {ev : Value} {t : Tb} {mv : Value} (hk : w.cell? ⟨d, 1, none⟩ = some (.pointer (some ⟨g, 0, none⟩))) (hD : Dt w g gi r h ev t mv) (hlen : t.es.length ≤ 100000) :
    Calls Tryz.prog 41 #[.pointer (some ⟨d, 0, none⟩)] w fun e w' => ∃ hc ev', e = .returned (sgV t hc ev') ∧ SgV w.heap.size w' t hc ev' ∧ Below w.heap.size w w' := by
  obtain ⟨w1, hw1⟩ : ∃ x, w.alloc (.cells #[.int .i64 0, .int .i64 0, .slice none 0 0, .slice none 0 0, .int .i64 0, .int .i64 0, .int .i64 0] 120) = x := ⟨_, rfl⟩
  have hB1 : Below w.heap.size w w1 := by rw [← hw1]; exact (Below.refl _ w).alloc (Nat.le_refl _) _
  have hR1 : Blk w1 w.heap.size 7 zS := by
    rw [← hw1]
    refine (Blk.new w _ _).congr fun j hj => ?_
    have : j = 0 ∨ j = 1 ∨ j = 2 ∨ j = 3 ∨ j = 4 ∨ j = 5 ∨ j = 6 := by simp at hj; omega
    rcases this with rfl | rfl | rfl | rfl | rfl | rfl | rfl <;> rfl
  have C1 := keys_yes ((hB1.cell (p := ⟨d, 1, none⟩) (lt_of_cell hk)).trans hk)
  have C2 := dsight_any (hD.below hB1) hlen
  have hl1 := hR1.lt (by omega)
  have HB1 := Lib.hid hB1
  have HR1 := Lib.hid hR1
  have HW1 := Lib.hid hw1
  clear hk hD hB1 hR1 hw1
  unfold sgV at C2 ⊢
  generalize 2 ^ t.L = S at C2 ⊢
  go_enter Tryz.func41, Tryz.ntmps41
  go_upto_region 1 with fail
  rw [HW1.out]
  go_wp2_with fail
  refine C1.mono ?_
  rintro e w2 ⟨rfl, hw2⟩
  rw [hw2]
  clear hw2 C1
  go_wp2_with fail
  refine C2.mono ?_
  rintro e w3 ⟨hc, ev', rfl, hSg, hB3⟩
  clear C2
  have hR3 := HR1.out.of hB3 (by omega)
  have q0 : w3.cell? ⟨w.heap.size, 0, none⟩ = some (.int .i64 0) := hR3.c 0 (by omega)
  have q1 : w3.cell? ⟨w.heap.size, 1, none⟩ = some (.int .i64 0) := hR3.c 1 (by omega)
  have q2 : w3.cell? ⟨w.heap.size, 2, none⟩ = some (.slice none 0 0) := hR3.c 2 (by omega)
  have q3 : w3.cell? ⟨w.heap.size, 3, none⟩ = some (.slice none 0 0) := hR3.c 3 (by omega)
  have q4 : w3.cell? ⟨w.heap.size, 4, none⟩ = some (.int .i64 0) := hR3.c 4 (by omega)
  have q5 : w3.cell? ⟨w.heap.size, 5, none⟩ = some (.int .i64 0) := hR3.c 5 (by omega)
  have q6 : w3.cell? ⟨w.heap.size, 6, none⟩ = some (.int .i64 0) := hR3.c 6 (by omega)
  have z0 := hR3.z 0
  have z1 := hR3.z 1
  have z2 := hR3.z 2
  have z3 := hR3.z 3
  have z4 := hR3.z 4
  have z5 := hR3.z 5
  have z6 := hR3.z 6
  have HA9 := Lib.hid (put7_blk hR3 (.int .i64 (t.L : Int)) (.int .i64 (wd t.L : Int)) (.slice (some ⟨hc, 0, none⟩) S S) ev' (.int .i64 (t.live : Int)) (.int .i64 (t.births : Int)) (.int .i64 (t.made : Int)))
  have HB9 := Lib.hid (put7_below (HB1.out.trans (hB3.mono HB1.out.size)) w.heap.size (Nat.le_refl _) (.int .i64 (t.L : Int)) (.int .i64 (wd t.L : Int)) (.slice (some ⟨hc, 0, none⟩) S S) ev' (.int .i64 (t.live : Int)) (.int .i64 (t.births : Int)) (.int .i64 (t.made : Int)))
  have HS9 := Lib.hid (hSg.keep (B' := w.heap.size) HB1.out.size (fun k hk => put7_other w3 w.heap.size (.int .i64 (t.L : Int)) (.int .i64 (wd t.L : Int)) (.slice (some ⟨hc, 0, none⟩) S S) ev' (.int .i64 (t.live : Int)) (.int .i64 (t.births : Int)) (.int .i64 (t.made : Int)) k (by omega)))
  clear hR3 hSg hB3
  unfold put7 at HA9 HB9 HS9
  obtain ⟨ca, cn, cc, rfl⟩ : ∃ ca cn cc, ev' = .slice ca cn cc := by
    obtain ⟨a, cap, ge, hh, _⟩ := HS9.out.es.es.open
    exact ⟨a, _, cap, hh⟩
  go_wp2_with fail
  generalize World.setCell (World.setCell (World.setCell (World.setCell (World.setCell (World.setCell (World.setCell w3 _ _) _ _) _ _) _ _) _ _) _ _) _ _ = w9 at *
  have p0 := HA9.out.c 0 (by omega)
  have p1 := HA9.out.c 1 (by omega)
  have p2 := HA9.out.c 2 (by omega)
  have p3 := HA9.out.c 3 (by omega)
  have p4 := HA9.out.c 4 (by omega)
  have p5 := HA9.out.c 5 (by omega)
  have p6 := HA9.out.c 6 (by omega)
  simp at p0 p1 p2 p3 p4 p5 p6
  refine bodyPost_ret (v := .agg #[.int .i64 (t.L : Int), .int .i64 (wd t.L : Int), .slice (some ⟨hc, 0, none⟩) S S, .slice ca cn cc, .int .i64 (t.live : Int), .int .i64 (t.births : Int), .int .i64 (t.made : Int)]) ?_ rfl ⟨hc, _, rfl, HS9.out, HB9.out⟩
  simp [results, Tryz.results41, go_sem, p0, p1, p2, p3, p4, p5, p6]
set_option maxRecDepth 100000 in
set_option maxHeartbeats 8000000 in
theorem sight10_any (log width live births made : Int) (ca1 ca2 ea1 ea2 : Option Addr) (cn cc1 cc2 en ec1 ec2 : Nat) (f : Nat → Int) (es : List En) (w : World) (h1 : SlN w ca1 cn cc1 f) (h2 : SlN w ca2 cn cc2 f) (h3 : SlE w ea1 en ec1 es) (h4 : SlE w ea2 en ec2 es) (hc : cn ≤ 2000000) (hen : en ≤ 1000000) :
    Calls Tryz.prog 40 #[siV log width ca1 cn cc1 ea1 en ec1 live births made, siV log width ca2 cn cc2 ea2 en ec2 live births made] w fun e w' => e = .returned (.bool true) ∧ Below w.heap.size w w' := by
  obtain ⟨w1, hw1⟩ : ∃ w1, w.alloc (.cells #[.int .i64 log, .int .i64 width, .slice ca1 cn cc1, .slice ea1 en ec1, .int .i64 live, .int .i64 births, .int .i64 made] 120) = w1 := ⟨_, rfl⟩
  have hB1 : Blk w1 w.heap.size 7 (fun j => #[Value.int .i64 log, .int .i64 width, .slice ca1 cn cc1, .slice ea1 en ec1, .int .i64 live, .int .i64 births, .int .i64 made].getD j .nilFunc) := by rw [← hw1]; exact Blk.new w _ _
  have hb1 : Below w.heap.size w w1 := by rw [← hw1]; exact (Below.refl _ w).alloc (Nat.le_refl _) _
  have hs1 : w1.heap.size = w.heap.size + 1 := by rw [← hw1]; simp
  obtain ⟨w2, hw2⟩ : ∃ w2, w1.alloc (.cells #[.int .i64 log, .int .i64 width, .slice ca2 cn cc2, .slice ea2 en ec2, .int .i64 live, .int .i64 births, .int .i64 made] 120) = w2 := ⟨_, rfl⟩
  have hB2 : Blk w2 w1.heap.size 7 (fun j => #[Value.int .i64 log, .int .i64 width, .slice ca2 cn cc2, .slice ea2 en ec2, .int .i64 live, .int .i64 births, .int .i64 made].getD j .nilFunc) := by rw [← hw2]; exact Blk.new w1 _ _
  have hb2 : Below w1.heap.size w1 w2 := by rw [← hw2]; exact (Below.refl _ w1).alloc (Nat.le_refl _) _
  have hB1' := hB1.of hb2 (by omega)
  rw [hs1] at hB2
  have HB1 := Lib.hid hB1'
  have HB2 := Lib.hid hB2
  have hl1 := hB1'.lt (by omega)
  have hl2 := hB2.lt (by omega)
  have HBW := Lib.hid (hb1.trans (hb2.mono hb1.size))
  have H1 := Lib.hid ((h1.below hb1).below hb2)
  have H2 := Lib.hid ((h2.below hb1).below hb2)
  have H3 := Lib.hid ((h3.below hb1).below hb2)
  have H4 := Lib.hid ((h4.below hb1).below hb2)
  have hcc1 := h1.1
  have hcc2 := h2.1
  have hec1 := h3.2.1
  have hec2 := h4.2.1
  have b0 : w2.cell? ⟨w.heap.size, 0, none⟩ = some (.int .i64 log) := hB1'.c 0 (by omega)
  have b1 : w2.cell? ⟨w.heap.size, 1, none⟩ = some (.int .i64 width) := hB1'.c 1 (by omega)
  have b2 : w2.cell? ⟨w.heap.size, 2, none⟩ = some (.slice ca1 cn cc1) := hB1'.c 2 (by omega)
  have b3 : w2.cell? ⟨w.heap.size, 3, none⟩ = some (.slice ea1 en ec1) := hB1'.c 3 (by omega)
  have b4 : w2.cell? ⟨w.heap.size, 4, none⟩ = some (.int .i64 live) := hB1'.c 4 (by omega)
  have b5 : w2.cell? ⟨w.heap.size, 5, none⟩ = some (.int .i64 births) := hB1'.c 5 (by omega)
  have b6 : w2.cell? ⟨w.heap.size, 6, none⟩ = some (.int .i64 made) := hB1'.c 6 (by omega)
  have d0 : w2.cell? ⟨w.heap.size + 1, 0, none⟩ = some (.int .i64 log) := hB2.c 0 (by omega)
  have d1 : w2.cell? ⟨w.heap.size + 1, 1, none⟩ = some (.int .i64 width) := hB2.c 1 (by omega)
  have d2 : w2.cell? ⟨w.heap.size + 1, 2, none⟩ = some (.slice ca2 cn cc2) := hB2.c 2 (by omega)
  have d3 : w2.cell? ⟨w.heap.size + 1, 3, none⟩ = some (.slice ea2 en ec2) := hB2.c 3 (by omega)
  have d4 : w2.cell? ⟨w.heap.size + 1, 4, none⟩ = some (.int .i64 live) := hB2.c 4 (by omega)
  have d5 : w2.cell? ⟨w.heap.size + 1, 5, none⟩ = some (.int .i64 births) := hB2.c 5 (by omega)
  have d6 : w2.cell? ⟨w.heap.size + 1, 6, none⟩ = some (.int .i64 made) := hB2.c 6 (by omega)
  have n0 : (log != log) = false := by simp
  have n1 : (width != width) = false := by simp
  have n4 : (live != live) = false := by simp
  have n5 : (births != births) = false := by simp
  have n6 : (made != made) = false := by simp
  have n2 : ((cn : Int) != (cn : Int)) = false := by simp
  have n3 : ((en : Int) != (en : Int)) = false := by simp
  clear hB1 hb1 hB2 hb2 hB1' h1 h2 h3 h4
  unfold siV
  go_enter Tryz.func40, Tryz.ntmps40
  go_upto_region 3 with fail
  clear hw1 hw2 b0 b1 b2 b3 b4 b5 b6 d0 d1 d2 d3 d4 d5 d6 n0 n1 n4 n5 n6 n2 n3 hs1
  go_wp2_with fail
  go_loopw [5] (fun iv wr => ∃ k : Nat, k ≤ cn ∧ iv = .int .i64 (k : Int) ∧ Below w2.heap.size w2 wr) (fun iv _ => cn - (intOf iv).toNat)
  case atStart => exact ⟨0, Nat.zero_le _, rfl, Below.refl _ _⟩
  case round =>
    obtain ⟨k, hk, rfl, hB⟩ := hrel
    have g2 : wr.cell? ⟨w.heap.size, 2, none⟩ = some (.slice ca1 cn cc1) := (HB1.out.of hB (by omega)).c 2 (by omega)
    by_cases hlt : k < cn
    · have t1 : (k : Int) < (cn : Int) := by omega
      have i2 : wr.cell? ⟨w.heap.size + 1, 2, none⟩ = some (.slice ca2 cn cc2) := (HB2.out.of hB (by omega)).c 2 (by omega)
      obtain ⟨_, p1, r1, s1⟩ := H1.out.below hB
      obtain ⟨_, p2, r2, s2⟩ := H2.out.below hB
      obtain ⟨e1, _⟩ := r1 (by omega)
      obtain ⟨e2, _⟩ := r2 (by omega)
      have x1 := s1 k hlt
      have x2 := s2 k hlt
      subst e1
      subst e2
      clear r1 r2 s1 s2
      generalize f k = y at x1 x2
      have n3 : (y != y) = false := by simp
      go_wp2_with fail
      go_region_held3 (fun V => (V.cell? ⟨w.heap.size, 2, none⟩ = some (.slice (some ⟨p1, 0, none⟩) cn cc1) ∧ V.cell? ⟨w.heap.size + 1, 2, none⟩ = some (.slice (some ⟨p2, 0, none⟩) cn cc2)) ∧ V.cell? ⟨p1, k, none⟩ = some (.int .i64 y) ∧ V.cell? ⟨p2, k, none⟩ = some (.int .i64 y))
        (first | exact ⟨⟨g2, i2⟩, x1, x2⟩ | fail) (fail)
      go_wp2_with fail
      go_roundw
      case rel => exact ⟨k + 1, by omega, by go_num, hB.drew⟩
      case measure => simp [intOf]; omega
    · have t1 : ¬ (k : Int) < (cn : Int) := by omega
      have g3 : wr.cell? ⟨w.heap.size, 3, none⟩ = some (.slice ea1 en ec1) := (HB1.out.of hB (by omega)).c 3 (by omega)
      have i3 : wr.cell? ⟨w.heap.size + 1, 3, none⟩ = some (.slice ea2 en ec2) := (HB2.out.of hB (by omega)).c 3 (by omega)
      have H3' := Lib.hid (H3.out.below hB)
      have H4' := Lib.hid (H4.out.below hB)
      have HB1w := Lib.hid (HB1.out.of hB (by omega))
      have HB2w := Lib.hid (HB2.out.of hB (by omega))
      have HBB := Lib.hid (HBW.out.trans (hB.mono HBW.out.size))
      clear hB H1 H2 H3 H4 HB1 HB2 HBW
      go_wp2_with fail
      clear g2 g3 i3
      go_loopw [6] (fun iv wq => ∃ k : Nat, k ≤ en ∧ iv = .int .i64 (k : Int) ∧ Below wr.heap.size wr wq) (fun iv _ => en - (intOf iv).toNat)
      case atStart => exact ⟨0, Nat.zero_le _, rfl, Below.refl _ _⟩
      case round =>
        obtain ⟨j, hj, rfl, hBj⟩ := hrel
        have g3 : wr.cell? ⟨w.heap.size, 3, none⟩ = some (.slice ea1 en ec1) := (HB1w.out.of hBj (by omega)).c 3 (by omega)
        by_cases hlt : j < en
        · have tj : (j : Int) < (en : Int) := by omega
          have i3 : wr.cell? ⟨w.heap.size + 1, 3, none⟩ = some (.slice ea2 en ec2) := (HB2w.out.of hBj (by omega)).c 3 (by omega)
          obtain ⟨-, -, p1, r1, s1⟩ := H3'.out.below hBj
          obtain ⟨-, -, p2, r2, s2⟩ := H4'.out.below hBj
          obtain ⟨e1, -⟩ := r1 (by omega)
          obtain ⟨e2, -⟩ := r2 (by omega)
          have x0 := s1.c0 j hlt
          have x1 := s1.c1 j hlt
          have x2 := s1.c2 j hlt
          have x3 := s1.c3 j hlt
          have x4 := s1.c4 j hlt
          have y0 := s2.c0 j hlt
          have y1 := s2.c1 j hlt
          have y2 := s2.c2 j hlt
          have y3 := s2.c3 j hlt
          have y4 := s2.c4 j hlt
          subst e1
          subst e2
          clear r1 r2 s1 s2
          generalize (nth es j).live = b0 at *
          generalize (nth es j).hash = z1 at *
          generalize (nth es j).key = z2 at *
          generalize (nth es j).value = z3 at *
          generalize (nth es j).birth = z4 at *
          have hq : ∀ W, (binOp .neq 108 (.agg #[.bool b0, .int .i64 z1, .int .i64 z2, .int .i64 z3, .int .i64 z4]) (.agg #[.bool b0, .int .i64 z1, .int .i64 z2, .int .i64 z3, .int .i64 z4])).run Tryz.prog W = .ok (.bool false) W := fun W => by
            have := en_neV ⟨b0, z1, z2, z3, z4⟩ ⟨b0, z1, z2, z3, z4⟩ W
            rw [show (!eqE ⟨b0, z1, z2, z3, z4⟩ ⟨b0, z1, z2, z3, z4⟩) = false by simp [eqE]] at this
            exact this
          go_wp2_with fail
          go_region_held3 (fun V => (V.cell? ⟨w.heap.size, 3, none⟩ = some (.slice (some ⟨p1, 0, none⟩) en ec1) ∧ V.cell? ⟨w.heap.size + 1, 3, none⟩ = some (.slice (some ⟨p2, 0, none⟩) en ec2)) ∧ ((V.cell? ⟨p1, j * 5, none⟩ = some (.bool b0) ∧ V.cell? ⟨p1, j * 5 + 1, none⟩ = some (.int .i64 z1)) ∧ (V.cell? ⟨p1, j * 5 + 2, none⟩ = some (.int .i64 z2) ∧ V.cell? ⟨p1, j * 5 + 3, none⟩ = some (.int .i64 z3) ∧ V.cell? ⟨p1, j * 5 + 4, none⟩ = some (.int .i64 z4))) ∧ (V.cell? ⟨p2, j * 5, none⟩ = some (.bool b0) ∧ V.cell? ⟨p2, j * 5 + 1, none⟩ = some (.int .i64 z1)) ∧ (V.cell? ⟨p2, j * 5 + 2, none⟩ = some (.int .i64 z2) ∧ V.cell? ⟨p2, j * 5 + 3, none⟩ = some (.int .i64 z3) ∧ V.cell? ⟨p2, j * 5 + 4, none⟩ = some (.int .i64 z4)))
            (first | exact ⟨⟨g3, i3⟩, ⟨⟨x0, x1⟩, x2, x3, x4⟩, ⟨y0, y1⟩, y2, y3, y4⟩ | fail) (fail)
          go_wp2_with fail
          go_roundw
          case rel => exact ⟨j + 1, by omega, by go_num, hBj.drew⟩
          case measure => simp [intOf]; omega
        · have tj : ¬ (j : Int) < (en : Int) := by omega
          go_wp2
          go_ret
          exact ⟨rfl, HBB.out.trans (hBj.mono HBB.out.size)⟩
/-- What two Sights told of one table is the same. -/
theorem sight10_same {w : World} {t : Tb} {B1 B2 h1 h2 : Nat} {e1 e2 : Value} (hlen : t.es.length ≤ 100000) (hsz : t.L ≤ 20) (hA : SgV B1 w t h1 e1) (hB : SgV B2 w t h2 e2) :
    Calls Tryz.prog 40 #[sgV t h1 e1, sgV t h2 e2] w fun e w' => e = .returned (.bool true) ∧ Below w.heap.size w w' := by
  obtain ⟨a1, cap1, hv1, hE1⟩ := hA.es.es.sl
  obtain ⟨a2, cap2, hv2, hE2⟩ := hB.es.es.sl
  rw [shw_len] at hv1 hE1 hv2 hE2
  have hP : 2 ^ t.L ≤ 1048576 := Nat.le_trans (Nat.pow_le_pow_right (n := 2) (by decide) hsz) (by decide)
  have hN1 : SlN w (some ⟨h1, 0, none⟩) (2 ^ t.L) (2 ^ t.L) t.c := ⟨Nat.le_refl _, h1, fun _ => ⟨rfl, hA.row.lt⟩, fun j hj => hA.row.cell j hj⟩
  have hN2 : SlN w (some ⟨h2, 0, none⟩) (2 ^ t.L) (2 ^ t.L) t.c := ⟨Nat.le_refl _, h2, fun _ => ⟨rfl, hB.row.lt⟩, fun j hj => hB.row.cell j hj⟩
  have := sight10_any (t.L : Int) (wd t.L : Int) (t.live : Int) (t.births : Int) (t.made : Int) (some ⟨h1, 0, none⟩) (some ⟨h2, 0, none⟩) a1 a2 (2 ^ t.L) (2 ^ t.L) (2 ^ t.L) t.es.length cap1 cap2 t.c (shw t.es) w hN1 hN2 hE1 hE2 (by omega) (by omega)
  subst hv1
  subst hv2
  exact this
end Go.Proofs.YtjbgbijpihpkmaaGreat
