/-
  TableTwo: the walk.
-/
import Derived.Test.YthaijfjodfgbnaaGreatTwTwo
namespace Go.Proofs.YthaijfjodfgbnaaGreat
open Go.RowKit Go.WideShapes

set_option maxRecDepth 100000 in
set_option maxHeartbeats 16000000 in
theorem two_walk (a0 : Option Addr) (n0 c0 : Nat) (G0 : Nat → Nat → Int) (a1 : Option Addr) (n1 c1 : Nat) (G1 : Nat → Nat → Int) (a2 : Option Addr) (n2 c2 : Nat) (G2 : Nat → Nat → Int) (w : World) (h0 : S5 w a0 n0 c0 G0) (h1 : S5 w a1 n1 c1 G1) (h2 : S5 w a2 n2 c2 G2) :
    Calls Tryz.prog 7 #[.slice a0 n0 c0, .slice a1 n1 c1, .slice a2 n2 c2] w fun e w' => e = .returned (.bool true) ∧ Below w.heap.size w w' := by
  have hc1 := h1.1
  have hc2 := h2.1
  by_cases hn0 : n0 ≤ 400
  case neg =>
    have t0 : 400 < (n0 : Int) := by omega
    have CW := awake7_any w
    clear h0 h1 h2
    go_enter Tryz.func7, Tryz.ntmps7
    go_wp2_with fail
    refine CW.mono ?_
    rintro e w1 ⟨rfl, hb⟩
    go_wp2
    go_ret
    exact ⟨rfl, hb⟩
  by_cases hn1 : n1 ≤ 400
  case neg =>
    have t0 : ¬ 400 < (n0 : Int) := by omega
    have t1 : 400 < (n1 : Int) := by omega
    have CW := awake7_any w
    clear h0 h1 h2
    go_enter Tryz.func7, Tryz.ntmps7
    go_wp2_with fail
    refine CW.mono ?_
    rintro e w1 ⟨rfl, hb⟩
    go_wp2
    go_ret
    exact ⟨rfl, hb⟩
  by_cases hn2 : n2 ≤ 400
  case neg =>
    have t0 : ¬ 400 < (n0 : Int) := by omega
    have t1 : ¬ 400 < (n1 : Int) := by omega
    have t2 : 400 < (n2 : Int) := by omega
    have CW := awake7_any w
    clear h0 h1 h2
    go_enter Tryz.func7, Tryz.ntmps7
    go_wp2_with fail
    refine CW.mono ?_
    rintro e w1 ⟨rfl, hb⟩
    go_wp2
    go_ret
    exact ⟨rfl, hb⟩
  have t0 : ¬ 400 < (n0 : Int) := by omega
  have t1 : ¬ 400 < (n1 : Int) := by omega
  have t2 : ¬ 400 < (n2 : Int) := by omega
  have C1 := plays_none h0 hn0
  have H1 := Lib.hid h1
  have H2 := Lib.hid h2
  clear h0 h1 h2
  go_enter Tryz.func7, Tryz.ntmps7
  go_wp2_with fail
  refine C1.mono ?_
  rintro e w1 ⟨X, p, t, a, b, rfl, hP, hB1⟩
  clear C1
  have hTd := hP.tw.below mtOk_nil (Below.refl _ w1).drew
  have CC := copy7_any hTd.dt hTd.ok mtOk_nil (M := noM) (a := 0) (b := 0) trivial (by omega)
  have HCD : Hid (∀ V, Below w1.drew.heap.size w1.drew V → Calls Tryz.prog 13 #[.pointer (some ⟨p.g2, 0, none⟩)] V fun e w' => ∃ g' q' ev', e = .returned (.pointer (some ⟨g', 0, none⟩)) ∧ V.heap.size ≤ g' ∧ V.heap.size ≤ q' ∧ (∀ k, ev'.ownBlock = some k → V.heap.size ≤ k) ∧ RtS w' g' ev' q' t.cp (.pointer none) ∧ Ms w' (.pointer none) (0 + 1) 0 0 0 ∧ Ex (mB (.pointer none)) V w') := fun V hV => rcopy_s ((hTd.below mtOk_nil hV).rt) hTd.ok (.inl rfl) (by omega)
  have s0 : w1.drew.cell? ⟨X, 0, none⟩ = some (.pointer (some ⟨p.g, 0, none⟩)) ∧ w1.drew.cell? ⟨X, 1, none⟩ = some (.pointer (some ⟨p.g2, 0, none⟩)) := ⟨hTd.hx.c 0 (by omega), hTd.hx.c 1 (by omega)⟩
  have lX := hTd.hx.lt (by omega)
  have HP := Lib.hid hP
  have HB1 := Lib.hid hB1
  clear hTd hP hB1
  go_upto_region 6 with fail
  go_region_held3 (fun V => V.cell? ⟨X, 0, none⟩ = some (.pointer (some ⟨p.g, 0, none⟩)) ∧ V.cell? ⟨X, 1, none⟩ = some (.pointer (some ⟨p.g2, 0, none⟩)))
    (first | with_reducible exact s0 | with_reducible exact s2 | with_reducible exact s3 | with_reducible exact s4 | fail)
    (first | (go_at_call 24; refine CC.mono ?_; rintro e w2 ⟨g', gi', r', h', ev', rfl, hfd, hD2, _, hx2⟩; have hb2 := hx2.nix; have s2 : w2.cell? ⟨X, 0, none⟩ = some (.pointer (some ⟨p.g, 0, none⟩)) ∧ w2.cell? ⟨X, 1, none⟩ = some (.pointer (some ⟨p.g2, 0, none⟩)) := ⟨(hb2.cell (p := ⟨X, 0, none⟩) lX).trans s0.1, (hb2.cell (p := ⟨X, 1, none⟩) lX).trans s0.2⟩) | (go_at_call 13; refine (HCD.out w2 hb2).mono ?_; rintro e w3 ⟨g2', q2', ev2', rfl, hg2, hq2, he2, hR3, _, hx3⟩; have hb3 := hx3.nix; have lX2 := Nat.lt_of_lt_of_le lX hb2.size; have s3 : w3.cell? ⟨X, 0, none⟩ = some (.pointer (some ⟨p.g, 0, none⟩)) ∧ w3.cell? ⟨X, 1, none⟩ = some (.pointer (some ⟨p.g2, 0, none⟩)) := ⟨(hb3.cell (p := ⟨X, 0, none⟩) lX2).trans s2.1, (hb3.cell (p := ⟨X, 1, none⟩) lX2).trans s2.2⟩; have lX3 := Nat.lt_of_lt_of_le lX2 hb3.size; have s4 : (w3.alloc (.cells #[.pointer (some ⟨g', 0, none⟩), .pointer (some ⟨g2', 0, none⟩), .pointer none, .pointer none] 61)).cell? ⟨X, 0, none⟩ = some (.pointer (some ⟨p.g, 0, none⟩)) ∧ (w3.alloc (.cells #[.pointer (some ⟨g', 0, none⟩), .pointer (some ⟨g2', 0, none⟩), .pointer none, .pointer none] 61)).cell? ⟨X, 1, none⟩ = some (.pointer (some ⟨p.g2, 0, none⟩)) := ⟨(cell_alloc_old _ _ _ _ lX3).trans s3.1, (cell_alloc_old _ _ _ _ lX3).trans s3.2⟩) | fail)
  obtain ⟨w4, hw4⟩ : ∃ y, w3.alloc (.cells #[.pointer (some ⟨g', 0, none⟩), .pointer (some ⟨g2', 0, none⟩), .pointer none, .pointer none] 61) = y := ⟨_, rfl⟩
  obtain ⟨hY, hYf⟩ := tw_new (B := w1.heap.size) rfl rfl HP.out.tw.ok.cp hD2 hfd hR3 (fun k hk => by
    rcases hk with h | h | h
    · rw [h]; exact hg2
    · rw [h]; exact hq2
    · exact he2 k h) hb2.size hb3 hw4
  have hb14 : Below w1.heap.size w1 w4 := by
    have e1 : Below w1.heap.size w1 w2 := ⟨hb2.os, hb2.tape, hb2.output, hb2.size, hb2.block⟩
    have e2 := e1.trans (hb3.mono e1.size)
    rw [← hw4]
    exact e2.alloc e2.size _
  obtain ⟨lab, sp⟩ := HP.out.tw.sep
  have hcl : (liveL t.es).length ≤ t.births := by have := liveL_len t.es; have := HP.out.tw.ok.few; omega
  have HPW : Hid (Pw w w4 X w3.heap.size p ⟨g', gi', r', h', ev', g2', q2', ev2', .pointer none, .pointer none⟩ t t.cp a b 1 0 n0) := ⟨HP.out.tw.below mtOk_nil hb14, hY, HP.out.bd, ⟨by have := HP.out.bd.1; show (liveL t.es).length ≤ _; omega, by show 1 ≤ _; omega, by show 0 ≤ _; omega, by omega, by omega, by omega, by omega⟩, fun k hk hk' => by have := sp.lt k hk; have := hYf k hk'; omega, HP.out.fx, fun k hk => Nat.le_trans HB1.out.size (hYf k hk), HB1.out.trans (hb14.mono HB1.out.size)⟩
  have y0 : w4.cell? ⟨w3.heap.size, 0, none⟩ = some (.pointer (some ⟨g', 0, none⟩)) := hY.hx.c 0 (by omega)
  have hnq := eqT g'
  have HW4 := Lib.hid hw4
  clear hw4 hY hYf hb14 sp hcl hD2 hfd hR3 hg2 hq2 he2 hx2 hx3 hb2 hb3 s0 s2 s3 s4 CC HCD lX lX2 lX3 HP HB1
  go_upto_region 7 with fail
  rw [HW4.out]
  generalize w3.heap.size = Y at *
  clear HW4
  go_wp2_with fail
  clear y0 hnq
  obtain ⟨p0, q0, tp0, tq0, HPW⟩ : ∃ p0 q0 tp0 tq0, Hid (Pw w w4 X Y p0 q0 tp0 tq0 a b 1 0 n0) := ⟨_, _, _, _, HPW⟩
  go_loopw [10] (fun iv wr => ∃ (k : Nat) (p q : Pl) (t t' : Tb) (a b a' b' : Int), k ≤ 400 ∧ (k ≤ n1 ∨ k ≤ n2) ∧ iv = .int .i64 (k : Int) ∧ Pw w wr X Y p q t t' a b a' b' (n0 + 2 * k)) (fun iv _ => 401 - (intOf iv).toNat)
  case atStart => exact ⟨0, p0, q0, tp0, tq0, a, b, 1, 0, by omega, .inl (Nat.zero_le _), rfl, HPW.out⟩
  case round =>
    clear HPW
    obtain ⟨k, p, q, t, t', a, b, a', b', hk, hko, rfl, hW⟩ := hrel
    obtain ⟨_, b1, o1, hab1, hG1⟩ := H1.out.below hW.bl
    by_cases k1 : k < n1
    · have u1 : (k : Int) < (n1 : Int) := by omega
      obtain ⟨rfl, hbl1⟩ := hab1 (by omega)
      have r0 : wr.cell? ⟨b1, o1 + k * 5, none⟩ = some (.int .i64 (G1 k 0)) := hG1 k k1 0 (by omega)
      have r1 : wr.cell? ⟨b1, o1 + k * 5 + 1, none⟩ = some (.int .i64 (G1 k 1)) := hG1 k k1 1 (by omega)
      have r2 : wr.cell? ⟨b1, o1 + k * 5 + 2, none⟩ = some (.int .i64 (G1 k 2)) := hG1 k k1 2 (by omega)
      have r3 : wr.cell? ⟨b1, o1 + k * 5 + 3, none⟩ = some (.int .i64 (G1 k 3)) := hG1 k k1 3 (by omega)
      have r4 : wr.cell? ⟨b1, o1 + k * 5 + 4, none⟩ = some (.int .i64 (G1 k 4)) := hG1 k k1 4 (by omega)
      have CX := does_any hW.x mtOk_nil mvOk_nil hW.bx (by omega) (G1 k 0) (G1 k 1) (G1 k 2) (G1 k 3) (G1 k 4)
      have HW := Lib.hid hW
      clear hW hG1 hab1
      generalize G1 k 0 = x0 at *
      generalize G1 k 1 = x1 at *
      generalize G1 k 2 = x2 at *
      generalize G1 k 3 = x3 at *
      generalize G1 k 4 = x4 at *
      go_wp2_with fail
      refine CX.mono ?_
      rintro e w5 ⟨rfl, p1, a5, b5, hN⟩
      have hW5 := HW.out.stepx hN
      generalize t.step x0 x1 x2 x3 x4 = t5 at *
      clear CX hN HW r0 r1 r2 r3 r4
      by_cases k2 : k < n2
      · have u2 : (k : Int) < (n2 : Int) := by omega
        obtain ⟨_, b2, o2, hab2, hG2⟩ := H2.out.below hW5.bl
        obtain ⟨rfl, hbl2⟩ := hab2 (by omega)
        have r0 : w5.cell? ⟨b2, o2 + k * 5, none⟩ = some (.int .i64 (G2 k 0)) := hG2 k k2 0 (by omega)
        have r1 : w5.cell? ⟨b2, o2 + k * 5 + 1, none⟩ = some (.int .i64 (G2 k 1)) := hG2 k k2 1 (by omega)
        have r2 : w5.cell? ⟨b2, o2 + k * 5 + 2, none⟩ = some (.int .i64 (G2 k 2)) := hG2 k k2 2 (by omega)
        have r3 : w5.cell? ⟨b2, o2 + k * 5 + 3, none⟩ = some (.int .i64 (G2 k 3)) := hG2 k k2 3 (by omega)
        have r4 : w5.cell? ⟨b2, o2 + k * 5 + 4, none⟩ = some (.int .i64 (G2 k 4)) := hG2 k k2 4 (by omega)
        have CY := does_any hW5.y mtOk_nil mvOk_nil hW5.by_ (by omega) (G2 k 0) (G2 k 1) (G2 k 2) (G2 k 3) (G2 k 4)
        have HW := Lib.hid hW5
        clear hW5 hG2 hab2
        generalize G2 k 0 = x0 at *
        generalize G2 k 1 = x1 at *
        generalize G2 k 2 = x2 at *
        generalize G2 k 3 = x3 at *
        generalize G2 k 4 = x4 at *
        go_wp2_with fail
        refine CY.mono ?_
        rintro e w6 ⟨rfl, q1, a6, b6, hN⟩
        have HZ : Hid (Pw w w6 X Y p1 q1 t5 (t'.step x0 x1 x2 x3 x4) a5 b5 a6 b6 (n0 + 2 * (k + 1))) := ((HW.out.swap.stepx hN).swap).mono (by omega)
        generalize t'.step x0 x1 x2 x3 x4 = t6 at *
        clear CY hN HW r0 r1 r2 r3 r4
        go_wp2_with fail
        go_roundw
        case rel => exact ⟨k + 1, _, _, _, _, _, _, _, _, by omega, .inl (by omega), by go_num, HZ.out⟩
        case measure => simp [intOf]; omega
      · have u2 : ¬ (k : Int) < (n2 : Int) := by omega
        have HZ : Hid (Pw w w5 X Y p1 q t5 t' a5 b5 a' b' (n0 + 2 * (k + 1))) := hW5.mono (by omega)
        clear hW5
        go_wp2_with fail
        go_roundw
        case rel => exact ⟨k + 1, _, _, _, _, _, _, _, _, by omega, .inl (by omega), by go_num, HZ.out⟩
        case measure => simp [intOf]; omega
    · have u1 : ¬ (k : Int) < (n1 : Int) := by omega
      by_cases k2 : k < n2
      · have u2 : (k : Int) < (n2 : Int) := by omega
        obtain ⟨_, b2, o2, hab2, hG2⟩ := H2.out.below hW.bl
        obtain ⟨rfl, hbl2⟩ := hab2 (by omega)
        have r0 : wr.cell? ⟨b2, o2 + k * 5, none⟩ = some (.int .i64 (G2 k 0)) := hG2 k k2 0 (by omega)
        have r1 : wr.cell? ⟨b2, o2 + k * 5 + 1, none⟩ = some (.int .i64 (G2 k 1)) := hG2 k k2 1 (by omega)
        have r2 : wr.cell? ⟨b2, o2 + k * 5 + 2, none⟩ = some (.int .i64 (G2 k 2)) := hG2 k k2 2 (by omega)
        have r3 : wr.cell? ⟨b2, o2 + k * 5 + 3, none⟩ = some (.int .i64 (G2 k 3)) := hG2 k k2 3 (by omega)
        have r4 : wr.cell? ⟨b2, o2 + k * 5 + 4, none⟩ = some (.int .i64 (G2 k 4)) := hG2 k k2 4 (by omega)
        have CY := does_any hW.y mtOk_nil mvOk_nil hW.by_ (by omega) (G2 k 0) (G2 k 1) (G2 k 2) (G2 k 3) (G2 k 4)
        have HW := Lib.hid hW
        clear hW hG2 hab2 hG1 hab1
        generalize G2 k 0 = x0 at *
        generalize G2 k 1 = x1 at *
        generalize G2 k 2 = x2 at *
        generalize G2 k 3 = x3 at *
        generalize G2 k 4 = x4 at *
        go_wp2_with fail
        refine CY.mono ?_
        rintro e w6 ⟨rfl, q1, a6, b6, hN⟩
        have HZ : Hid (Pw w w6 X Y p q1 t (t'.step x0 x1 x2 x3 x4) a b a6 b6 (n0 + 2 * (k + 1))) := ((HW.out.swap.stepx hN).swap).mono (by omega)
        generalize t'.step x0 x1 x2 x3 x4 = t6 at *
        clear CY hN HW r0 r1 r2 r3 r4
        go_wp2_with fail
        go_roundw
        case rel => exact ⟨k + 1, _, _, _, _, _, _, _, _, by omega, .inr (by omega), by go_num, HZ.out⟩
        case measure => simp [intOf]; omega
      · have u2 : ¬ (k : Int) < (n2 : Int) := by omega
        clear hG1 hab1
        have hWd := hW.below (Below.refl _ wr).drew
        have hlx : t.es.length ≤ 100000 := Nat.le_trans hW.x.ok.few hW.x.ok.all
        have hly : t'.es.length ≤ 100000 := Nat.le_trans hW.y.ok.few hW.y.ok.all
        have hsx := hW.x.ok.sz.2
        have hsy := hW.y.ok.sz.2
        have HS : Hid (∀ V, Below wr.drew.heap.size wr.drew V → ((V.cell? ⟨X, 0, none⟩ = some (.pointer (some ⟨p.g, 0, none⟩)) ∧ V.cell? ⟨X, 1, none⟩ = some (.pointer (some ⟨p.g2, 0, none⟩))) ∧ V.cell? ⟨Y, 0, none⟩ = some (.pointer (some ⟨q.g, 0, none⟩)) ∧ V.cell? ⟨Y, 1, none⟩ = some (.pointer (some ⟨q.g2, 0, none⟩))) ∧ Pw w V X Y p q t t' a b a' b' (n0 + 2 * k)) := fun V hV => by
          have h1 := hWd.below hV
          exact ⟨⟨⟨h1.x.hx.c 0 (by omega), h1.x.hx.c 1 (by omega)⟩, h1.y.hx.c 0 (by omega), h1.y.hx.c 1 (by omega)⟩, h1⟩
        have hR : Below wr.drew.heap.size wr.drew wr.drew := Below.refl _ _
        have s0 := (HS.out _ hR).1
        have HX1 : Hid (∀ V, Below wr.drew.heap.size wr.drew V → Calls Tryz.prog 27 #[.pointer (some ⟨p.g, 0, none⟩)] V fun e w' => ∃ hc ev', e = .returned (sgV t hc ev') ∧ SgV V.heap.size w' t hc ev' ∧ Below V.heap.size V w') := fun V hV => dsight_any (HS.out V hV).2.x.dt hlx
        have HX2 : Hid (∀ V, Below wr.drew.heap.size wr.drew V → Calls Tryz.prog 29 #[.pointer (some ⟨p.g2, 0, none⟩)] V fun e w' => ∃ ca cc ea ec, e = .returned (siV (t.L : Int) (wd t.L : Int) ca (2 ^ t.L) cc ea t.es.length ec (t.live : Int) (t.births : Int) (t.made : Int)) ∧ SlN w' ca (2 ^ t.L) cc t.c ∧ SlE w' ea t.es.length ec (shw t.es) ∧ Below V.heap.size V w') := fun V hV => rsight_s (HS.out V hV).2.x.rt hlx
        have HY1 : Hid (∀ V, Below wr.drew.heap.size wr.drew V → Calls Tryz.prog 27 #[.pointer (some ⟨q.g, 0, none⟩)] V fun e w' => ∃ hc ev', e = .returned (sgV t' hc ev') ∧ SgV V.heap.size w' t' hc ev' ∧ Below V.heap.size V w') := fun V hV => dsight_any (HS.out V hV).2.y.dt hly
        have HY2 : Hid (∀ V, Below wr.drew.heap.size wr.drew V → Calls Tryz.prog 29 #[.pointer (some ⟨q.g2, 0, none⟩)] V fun e w' => ∃ ca cc ea ec, e = .returned (siV (t'.L : Int) (wd t'.L : Int) ca (2 ^ t'.L) cc ea t'.es.length ec (t'.live : Int) (t'.births : Int) (t'.made : Int)) ∧ SlN w' ca (2 ^ t'.L) cc t'.c ∧ SlE w' ea t'.es.length ec (shw t'.es) ∧ Below V.heap.size V w') := fun V hV => rsight_s (HS.out V hV).2.y.rt hly
        have HAW := Lib.hid (fun V => awake7_any V)
        have HBL := Lib.hid hWd.bl
        clear hW hWd
        generalize p.g = pg at *
        generalize p.g2 = pg2 at *
        generalize q.g = qg at *
        generalize q.g2 = qg2 at *
        go_upto_region 14 with fail
        go_region_held3 (fun V => (V.cell? ⟨X, 0, none⟩ = some (.pointer (some ⟨pg, 0, none⟩)) ∧ V.cell? ⟨X, 1, none⟩ = some (.pointer (some ⟨pg2, 0, none⟩))) ∧ V.cell? ⟨Y, 0, none⟩ = some (.pointer (some ⟨qg, 0, none⟩)) ∧ V.cell? ⟨Y, 1, none⟩ = some (.pointer (some ⟨qg2, 0, none⟩)))
          (first | with_reducible exact s0 | with_reducible exact v1 | with_reducible exact v2 | with_reducible exact v3 | with_reducible exact v4 | with_reducible exact v5 | with_reducible exact v6 | with_reducible exact v7 | fail)
          (first
            | (go_at_call 27; with_reducible refine (HX1.out _ hR).mono ?_; rintro e z1 ⟨hc, ev1, rfl, hSg, hB1⟩; have hD1 := hR.trans hB1; have v1 := (HS.out z1 hD1).1)
            | (go_at_call 29; with_reducible refine (HX2.out z1 hD1).mono ?_; rintro e z2 ⟨ca, cc, ea, ec, rfl, hN2, hE2, hB2⟩; have hD2 := hD1.trans (hB2.mono hD1.size); have v2 := (HS.out z2 hD2).1; have CG := sight_both hlx hsx (hSg.below hB2) hN2 hE2)
            | (go_at_call 26; with_reducible refine CG.mono ?_; rintro e z3 ⟨rfl, hB3⟩; have hD3 := hD2.trans (hB3.mono hD2.size); have v3 := (HS.out z3 hD3).1)
            | (go_at_call 27; with_reducible refine (HY1.out z3 hD3).mono ?_; rintro e z4 ⟨hc4, ev4, rfl, hSg4, hB4⟩; have hD4 := hD3.trans (hB4.mono hD3.size); have v4 := (HS.out z4 hD4).1)
            | (go_at_call 29; with_reducible refine (HY2.out z4 hD4).mono ?_; rintro e z5 ⟨ca5, cc5, ea5, ec5, rfl, hN5, hE5, hB5⟩; have hD5 := hD4.trans (hB5.mono hD4.size); have v5 := (HS.out z5 hD5).1; have CG5 := sight_both hly hsy (hSg4.below hB5) hN5 hE5)
            | (go_at_call 26; with_reducible refine CG5.mono ?_; rintro e z6 ⟨rfl, hB6⟩; have hD6 := hD5.trans (hB6.mono hD5.size); have v6 := (HS.out z6 hD6).1)
            | (go_at_call 8; with_reducible refine (HAW.out z6).mono ?_; rintro e z7 ⟨rfl, hB7⟩; have hD7 := hD6.trans (hB7.mono hD6.size); have v7 := (HS.out z7 hD7).1)
            | fail)
        have HFB : Hid (Below w.heap.size w z7) := HBL.out.trans (hD7.mono HBL.out.size)
        clear s0 v1 v2 v3 v4 v5 v6 v7 HX1 HX2 HY1 HY2 HAW HS hSg hN2 hE2 hSg4 hN5 hE5 CG CG5 hB1 hB2 hB3 hB4 hB5 hB6 hB7 hD1 hD2 hD3 hD4 hD5 hD6 hD7
        go_wp2_with fail
        go_ret
        exact ⟨rfl, HFB.out⟩
end Go.Proofs.YthaijfjodfgbnaaGreat
