/-
  The law's sight and alike.
-/
import Derived.Test.YtfhpkoakalihkaaGreatGp
import Derived.Test.YtfhpkoakalihkaaGreatGt
namespace Go.Proofs.YtfhpkoakalihkaaGreat
open Go.RowKit Go.WideShapes

set_option maxRecDepth 100000 in
set_option maxHeartbeats 8000000 in
theorem sight8_any (log width live births made : Int) (ca1 ca2 ea1 ea2 : Option Addr) (cn cc1 cc2 en ec1 ec2 : Nat) (f : Nat → Int) (es : List En) (w : World) (h1 : SlN w ca1 cn cc1 f) (h2 : SlN w ca2 cn cc2 f) (h3 : SlE w ea1 en ec1 es) (h4 : SlE w ea2 en ec2 es) (hc : cn ≤ 2000000) (hen : en ≤ 1000000) :
    Calls Tryz.prog 44 #[siV log width ca1 cn cc1 ea1 en ec1 live births made, siV log width ca2 cn cc2 ea2 en ec2 live births made] w fun e w' => e = .returned (.bool true) ∧ Below w.heap.size w w' := by
  obtain ⟨w1, hw1⟩ : ∃ w1, w.alloc (.cells #[.int .i64 log, .int .i64 width, .slice ca1 cn cc1, .slice ea1 en ec1, .int .i64 live, .int .i64 births, .int .i64 made] 120) = w1 := ⟨_, rfl⟩
  have hB1 : Blk w1 w.heap.size 7 (fun j => #[Value.int .i64 log, .int .i64 width, .slice ca1 cn cc1, .slice ea1 en ec1, .int .i64 live, .int .i64 births, .int .i64 made].getD j .nilFunc) := by rw [← hw1]; exact Blk.new w _ _
  have hb1 : Below w.heap.size w w1 := by rw [← hw1]; exact (Below.refl _ w).alloc (Nat.le_refl _) _
  have hs1 : w1.heap.size = w.heap.size + 1 := by rw [← hw1]; simp
  obtain ⟨w2, hw2⟩ : ∃ w2, w1.alloc (.cells #[.int .i64 log, .int .i64 width, .slice ca2 cn cc2, .slice ea2 en ec2, .int .i64 live, .int .i64 births, .int .i64 made] 120) = w2 := ⟨_, rfl⟩
  have hB2 : Blk w2 w1.heap.size 7 (fun j => #[Value.int .i64 log, .int .i64 width, .slice ca2 cn cc2, .slice ea2 en ec2, .int .i64 live, .int .i64 births, .int .i64 made].getD j .nilFunc) := by rw [← hw2]; exact Blk.new w1 _ _
  have hb2 : Below w1.heap.size w1 w2 := by rw [← hw2]; exact (Below.refl _ w1).alloc (Nat.le_refl _) _
  have hB1' := hB1.of hb2 (by omega)
  rw [hs1] at hB2
  have HB1 := Lib.hid hB1'
  have HB2 := Lib.hid hB2
  have hl1 := hB1'.lt (by omega)
  have hl2 := hB2.lt (by omega)
  have HBW := Lib.hid (hb1.trans (hb2.mono hb1.size))
  have H1 := Lib.hid ((h1.below hb1).below hb2)
  have H2 := Lib.hid ((h2.below hb1).below hb2)
  have H3 := Lib.hid ((h3.below hb1).below hb2)
  have H4 := Lib.hid ((h4.below hb1).below hb2)
  have hcc1 := h1.1
  have hcc2 := h2.1
  have b0 : w2.cell? ⟨w.heap.size, 0, none⟩ = some (.int .i64 log) := hB1'.c 0 (by omega)
  have b1 : w2.cell? ⟨w.heap.size, 1, none⟩ = some (.int .i64 width) := hB1'.c 1 (by omega)
  have b2 : w2.cell? ⟨w.heap.size, 2, none⟩ = some (.slice ca1 cn cc1) := hB1'.c 2 (by omega)
  have b4 : w2.cell? ⟨w.heap.size, 4, none⟩ = some (.int .i64 live) := hB1'.c 4 (by omega)
  have b5 : w2.cell? ⟨w.heap.size, 5, none⟩ = some (.int .i64 births) := hB1'.c 5 (by omega)
  have b6 : w2.cell? ⟨w.heap.size, 6, none⟩ = some (.int .i64 made) := hB1'.c 6 (by omega)
  have d0 : w2.cell? ⟨w.heap.size + 1, 0, none⟩ = some (.int .i64 log) := hB2.c 0 (by omega)
  have d1 : w2.cell? ⟨w.heap.size + 1, 1, none⟩ = some (.int .i64 width) := hB2.c 1 (by omega)
  have d2 : w2.cell? ⟨w.heap.size + 1, 2, none⟩ = some (.slice ca2 cn cc2) := hB2.c 2 (by omega)
  have d4 : w2.cell? ⟨w.heap.size + 1, 4, none⟩ = some (.int .i64 live) := hB2.c 4 (by omega)
  have d5 : w2.cell? ⟨w.heap.size + 1, 5, none⟩ = some (.int .i64 births) := hB2.c 5 (by omega)
  have d6 : w2.cell? ⟨w.heap.size + 1, 6, none⟩ = some (.int .i64 made) := hB2.c 6 (by omega)
  have n0 : (log != log) = false := by simp
  have n1 : (width != width) = false := by simp
  have n4 : (live != live) = false := by simp
  have n5 : (births != births) = false := by simp
  have n6 : (made != made) = false := by simp
  have n2 : ((cn : Int) != (cn : Int)) = false := by simp
  clear hB1 hb1 hB2 hb2 hB1' h1 h2 h3 h4
  unfold siV
  go_enter Tryz.func44, Tryz.ntmps44
  go_upto_region 3 with fail
  clear hw1 hw2 b0 b1 b2 b4 b5 b6 d0 d1 d2 d4 d5 d6 n0 n1 n4 n5 n6 n2 hs1
  go_wp2_with fail
  go_loopw [5] (fun iv wr => ∃ k : Nat, k ≤ cn ∧ iv = .int .i64 (k : Int) ∧ Below w2.heap.size w2 wr) (fun iv _ => cn - (intOf iv).toNat)
  case atStart => exact ⟨0, Nat.zero_le _, rfl, Below.refl _ _⟩
  case round =>
    obtain ⟨k, hk, rfl, hB⟩ := hrel
    have g2 : wr.cell? ⟨w.heap.size, 2, none⟩ = some (.slice ca1 cn cc1) := (HB1.out.of hB (by omega)).c 2 (by omega)
    by_cases hlt : k < cn
    · have t1 : (k : Int) < (cn : Int) := by omega
      have i2 : wr.cell? ⟨w.heap.size + 1, 2, none⟩ = some (.slice ca2 cn cc2) := (HB2.out.of hB (by omega)).c 2 (by omega)
      obtain ⟨_, p1, r1, s1⟩ := H1.out.below hB
      obtain ⟨_, p2, r2, s2⟩ := H2.out.below hB
      obtain ⟨e1, _⟩ := r1 (by omega)
      obtain ⟨e2, _⟩ := r2 (by omega)
      have x1 := s1 k hlt
      have x2 := s2 k hlt
      subst e1
      subst e2
      clear r1 r2 s1 s2
      generalize f k = y at x1 x2
      have n3 : (y != y) = false := by simp
      go_wp2_with fail
      go_region_held3 (fun V => (V.cell? ⟨w.heap.size, 2, none⟩ = some (.slice (some ⟨p1, 0, none⟩) cn cc1) ∧ V.cell? ⟨w.heap.size + 1, 2, none⟩ = some (.slice (some ⟨p2, 0, none⟩) cn cc2)) ∧ V.cell? ⟨p1, k, none⟩ = some (.int .i64 y) ∧ V.cell? ⟨p2, k, none⟩ = some (.int .i64 y))
        (first | exact ⟨⟨g2, i2⟩, x1, x2⟩ | fail) (fail)
      go_wp2_with fail
      go_roundw
      case rel => exact ⟨k + 1, by omega, by go_num, hB.drew⟩
      case measure => simp [intOf]; omega
    · have t1 : ¬ (k : Int) < (cn : Int) := by omega
      have g3 : wr.cell? ⟨w.heap.size, 3, none⟩ = some (.slice ea1 en ec1) := (HB1.out.of hB (by omega)).c 3 (by omega)
      have i3 : wr.cell? ⟨w.heap.size + 1, 3, none⟩ = some (.slice ea2 en ec2) := (HB2.out.of hB (by omega)).c 3 (by omega)
      have CE := entries8_any ea1 ea2 en ec1 ec2 es wr (H3.out.below hB) (H4.out.below hB) hen
      have HBB := Lib.hid (HBW.out.trans (hB.mono HBW.out.size))
      clear hB
      go_wp2_with fail
      refine CE.mono ?_
      rintro e w5 ⟨rfl, hb5⟩
      clear CE
      go_wp2
      go_ret
      exact ⟨rfl, HBB.out.trans (hb5.mono HBB.out.size)⟩

/-- What Sight told of the dictionary is what it told of the document's table. -/
theorem sight8_both {w : World} {t : Tb} {B hc : Nat} {ev1 : Value} {ca : Option Addr} {cc : Nat} {ea : Option Addr} {ec : Nat} (hlen : t.es.length ≤ 100000) (hsz : t.L ≤ 20) (hSg : SgV B w t hc ev1) (hN : SlN w ca (2 ^ t.L) cc t.c) (hE : SlE w ea t.es.length ec (shw t.es)) :
    Calls Tryz.prog 44 #[sgV t hc ev1, siV (t.L : Int) (wd t.L : Int) ca (2 ^ t.L) cc ea t.es.length ec (t.live : Int) (t.births : Int) (t.made : Int)] w fun e w' => e = .returned (.bool true) ∧ Below w.heap.size w w' := by
  obtain ⟨a1, cap1, hv, hE1⟩ := hSg.es.es.sl
  rw [shw_len] at hv hE1
  have hP : 2 ^ t.L ≤ 1048576 := Nat.le_trans (Nat.pow_le_pow_right (n := 2) (by decide) hsz) (by decide)
  have hN1 : SlN w (some ⟨hc, 0, none⟩) (2 ^ t.L) (2 ^ t.L) t.c := ⟨Nat.le_refl _, hc, fun _ => ⟨rfl, hSg.row.lt⟩, fun j hj => hSg.row.cell j hj⟩
  have := sight8_any (t.L : Int) (wd t.L : Int) (t.live : Int) (t.births : Int) (t.made : Int) (some ⟨hc, 0, none⟩) ca a1 ea (2 ^ t.L) (2 ^ t.L) cc t.es.length cap1 ec t.c (shw t.es) w hN1 hN hE1 hE (by omega) (by omega)
  subst hv
  exact this
theorem SgV.up {B : Nat} {w w' : World} {t : Tb} {hc : Nat} {ev : Value} (h : SgV B w t hc ev) (hb : Below w.heap.size w w') : SgV B w' t hc ev := by
  refine ⟨h.row.same (hb.block hc h.row.lt), ?_, h.hB, h.ne⟩
  have h1 := h.es.es.same (w' := w') (fun k hk => hb.block k (h.es.es.lt k hk))
  have h2 := h.es.ge
  refine ⟨h1.1, ?_⟩
  rcases h1.2 with h0 | ⟨g, cap, cur, e', q1, q2⟩
  · exact .inl h0
  · exact .inr ⟨g, cap, cur, e', h2 g (by rw [e']; rfl), q2⟩

theorem slE_of {B : Nat} {w : World} {v : Value} {es : List En} (h : EsB B w v es) : ∃ a cap, v = .slice a es.length cap ∧ SlE w a es.length cap es := h.es.sl
set_option maxRecDepth 100000 in
set_option maxHeartbeats 8000000 in
theorem alike_any {w : World} {X : Nat} {S : St8} {pm pr : Option Addr} {M : Int → Int → World → Prop} {a b most : Int} {c : Nat} (hP : P8 w X S (.pointer pm) (.pointer pr) M a b most c) (hc : c ≤ 60000) :
    Calls Tryz.prog 13 #[.pointer (some ⟨X, 0, none⟩)] w fun e w' => e = .returned (.bool true) ∧ Below w.heap.size w w' := by
  have hk : S.nd - 1 < S.nd := by have := hP.nd; omega
  have hDK := hP.dk _ hk
  have dc := hDK.dc
  have rc := hDK.rc
  have hv : S.cur.v ≤ 1000000000 := by have := hDK.bd.ver; show (S.ds (S.nd - 1)).v ≤ _; omega
  have hlen : S.cur.t.es.length ≤ 100000 := Nat.le_trans dc.ok.few dc.ok.all
  have hL20 : S.cur.t.L ≤ 20 := dc.ok.sz.2
  have lX := hP.hx.lt (by omega)
  have HS : Hid (∀ V, Below w.heap.size w V → V.cell? ⟨X, 0, none⟩ = some (.pointer (some ⟨S.cur.d, 0, none⟩)) ∧ V.cell? ⟨X, 1, none⟩ = some (.pointer (some ⟨S.cur.d2, 0, none⟩)) ∧ V.cell? ⟨S.cur.d2, 1, none⟩ = some (.int .i64 (S.cur.v : Int)) ∧ V.cell? ⟨S.cur.d2, 2, none⟩ = some (.pointer (some ⟨S.cur.g2, 0, none⟩))) := fun V hb => ⟨(hP.hx.of hb (by omega)).c 0 (by omega), (hP.hx.of hb (by omega)).c 1 (by omega), (rc.below hb).hd.c 1 (by omega), (rc.below hb).hd.c 2 (by omega)⟩
  have HD : Hid (∀ V, Below w.heap.size w V → Dc V S.cur.d S.cur.g S.cur.gi S.cur.r S.cur.h S.cur.ev S.cur.t (.pointer pm) most S.cur.v ∧ Rdc V S.cur.d2 S.cur.g2 S.cur.q2 S.cur.ev2 S.cur.t (.pointer pr) most S.cur.v) := fun V hb => ⟨dc.below hb, rc.below hb⟩
  have hb0 : Below w.heap.size w w.drew := (Below.refl _ w).drew
  obtain ⟨hd0, hr0⟩ := HD.out _ hb0
  have C1 : Calls Tryz.prog 38 #[.pointer (some ⟨S.cur.d, 0, none⟩)] w.drew fun e w' => e = .returned (.int .i64 (S.cur.t.live : Int)) ∧ w' = w.drew := plen_any (hd0.hd.c 0 (by omega)) (hd0.dt.hd.c 3 (by omega))
  have C2 : Calls Tryz.prog 39 #[.pointer (some ⟨S.cur.d2, 0, none⟩)] w.drew fun e w' => e = .returned (.int .i64 (S.cur.t.live : Int)) ∧ w' = w.drew := rplen_any hr0
  have C3 : Calls Tryz.prog 40 #[.pointer (some ⟨S.cur.d, 0, none⟩)] w.drew fun e w' => e = .returned (.int .i64 (S.cur.v : Int)) ∧ w' = w.drew := version_any hv (hd0.hd.c 2 (by omega))
  have C4 := pairs_any hd0
  have s0 := HS.out _ hb0
  have HB0 := Lib.hid hb0
  have HR5 : Hid (∀ V, Below w.heap.size w V → Calls Tryz.prog 43 #[.pointer (some ⟨S.cur.g2, 0, none⟩)] V fun e w' => ∃ v, e = .returned v ∧ EsB V.heap.size w' v (liveL S.cur.t.es) ∧ Below V.heap.size V w') := fun V hb => by
    have h := rlive_any (HD.out V hb).2.rt (by rw [Tb.sh_len]; exact hlen)
    have e : liveL S.cur.t.sh.es = liveL S.cur.t.es := liveL_sh _
    rw [e] at h
    exact h
  have HS7 : Hid (∀ V, Below w.heap.size w V → Calls Tryz.prog 45 #[.pointer (some ⟨S.cur.d, 0, none⟩)] V fun e w' => ∃ hc ev', e = .returned (sgV S.cur.t hc ev') ∧ SgV V.heap.size w' S.cur.t hc ev' ∧ Below V.heap.size V w') := fun V hb => psight_any (HD.out V hb).1
  have HS8 : Hid (∀ V, Below w.heap.size w V → Calls Tryz.prog 46 #[.pointer (some ⟨S.cur.g2, 0, none⟩)] V fun e w' => ∃ ca cc ea ec, e = .returned (siV (S.cur.t.L : Int) (wd S.cur.t.L : Int) ca (2 ^ S.cur.t.L) cc ea S.cur.t.es.length ec (S.cur.t.live : Int) (S.cur.t.births : Int) (S.cur.t.made : Int)) ∧ SlN w' ca (2 ^ S.cur.t.L) cc S.cur.t.c ∧ SlE w' ea S.cur.t.es.length ec (shw S.cur.t.es) ∧ Below V.heap.size V w') := fun V hb => rsight_s (HD.out V hb).2.rt hlen
  have hll : (liveL S.cur.t.es).length ≤ 1000000 := by have := liveL_len S.cur.t.es; omega
  clear hP hDK dc rc hd0 hr0 hb0 hk HD
  go_enter Tryz.func13, Tryz.ntmps13
  go_upto_region 1 with fail
  go_region_held3 (fun V => V.cell? ⟨X, 0, none⟩ = some (.pointer (some ⟨S.cur.d, 0, none⟩)) ∧ V.cell? ⟨X, 1, none⟩ = some (.pointer (some ⟨S.cur.d2, 0, none⟩)) ∧ V.cell? ⟨S.cur.d2, 1, none⟩ = some (.int .i64 (S.cur.v : Int)) ∧ V.cell? ⟨S.cur.d2, 2, none⟩ = some (.pointer (some ⟨S.cur.g2, 0, none⟩))) (first | with_reducible exact s0 | with_reducible exact s2 | with_reducible exact s3 | with_reducible exact s4 | with_reducible exact s5 | with_reducible exact s6 | with_reducible exact s7 | fail)
    (first
      | (go_at_call 38; refine C1.mono ?_; rintro e v1 ⟨rfl, rfl⟩)
      | (go_at_call 39; refine C2.mono ?_; rintro e v1 ⟨rfl, rfl⟩)
      | (go_at_call 40; refine C3.mono ?_; rintro e v1 ⟨rfl, rfl⟩)
      | (go_at_call 42; refine C4.mono ?_; rintro e w2 ⟨v2, rfl, hE2, hb2⟩; have hB2 := HB0.out.trans (hb2.mono HB0.out.size); have s2 := HS.out w2 hB2; obtain ⟨a2, c2, e2, hl2⟩ := slE_of hE2; have C5 := HR5.out w2 hB2; subst e2; have HB2 := Lib.hid hB2; have HL2 := Lib.hid hl2; clear hb2 hB2 hE2 hl2)
      | (go_at_call 43; refine C5.mono ?_; rintro e w3 ⟨v3, rfl, hE3, hb3⟩; have hB3 := HB2.out.trans (hb3.mono HB2.out.size); have s3 := HS.out w3 hB3; obtain ⟨a3, c3, e3, hl3⟩ := slE_of hE3; have C6 := entries8_any a2 a3 (liveL S.cur.t.es).length c2 c3 (liveL S.cur.t.es) w3 (HL2.out.below hb3) hl3 hll; subst e3; have HB3 := Lib.hid hB3; clear hb3 hB3 hE3 hl3)
      | (go_at_call 41; refine C6.mono ?_; rintro e w4 ⟨rfl, hb4⟩; have hB4 := HB3.out.trans (hb4.mono HB3.out.size); have s4 := HS.out w4 hB4; have C7 := HS7.out w4 hB4; have HB4 := Lib.hid hB4; clear hb4 hB4)
      | (go_at_call 45; refine C7.mono ?_; rintro e w5 ⟨hc5, ev5, rfl, hg5, hb5⟩; have hB5 := HB4.out.trans (hb5.mono HB4.out.size); have s5 := HS.out w5 hB5; have C8 := HS8.out w5 hB5; have HG5 := Lib.hid hg5; have HB5 := Lib.hid hB5; clear hb5 hB5 hg5)
      | (go_at_call 46; refine C8.mono ?_; rintro e w6 ⟨ca, cc, ea, ec, rfl, hN6, hE6, hb6⟩; have hB6 := HB5.out.trans (hb6.mono HB5.out.size); have s6 := HS.out w6 hB6; have C9 := sight8_both hlen hL20 (HG5.out.up hb6) hN6 hE6; have HB6 := Lib.hid hB6; clear hb6 hB6 hN6 hE6)
      | (go_at_call 44; refine C9.mono ?_; rintro e w7 ⟨rfl, hb7⟩; have hB7 := HB6.out.trans (hb7.mono HB6.out.size); have s7 := HS.out w7 hB7; have HB7 := Lib.hid hB7; clear hb7 hB7)
      | fail)
  go_wp2_with fail
  go_ret
  exact ⟨rfl, HB7.out⟩
end Go.Proofs.YtfhpkoakalihkaaGreat
