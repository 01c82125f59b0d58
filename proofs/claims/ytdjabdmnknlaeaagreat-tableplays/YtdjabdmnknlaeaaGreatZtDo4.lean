/-
  The law's does on a zero table: At.
-/
import Derived.Test.YtdjabdmnknlaeaaGreatZtm
import Derived.Test.YtdjabdmnknlaeaaGreatTwDoes4
namespace Go.Proofs.YtdjabdmnknlaeaaGreat
open Go.RowKit Go.WideShapes

set_option maxRecDepth 100000 in
set_option maxHeartbeats 8000000 in
theorem does_at_z {w : World} {X : Nat} {p : Pl} {t : Tb} {a b : Int} {n : Nat} (hT : Tv w X p t (.pointer none) (.pointer none) noM a b) (hZ : Zt w p.g) (_hp : Zp p) (htn : t = Tb.new) (_hBd : Bd t a b n) (x1 x2 x3 x4 : Int) :
    Calls Tryz.prog 10 #[.pointer (some ⟨X, 0, none⟩), .agg #[.int .i64 4, .int .i64 x1, .int .i64 x2, .int .i64 x3, .int .i64 x4]] w fun e w' => e = .returned (.bool true) ∧ Below w.heap.size w w' := by
  have hMo : MtOk (.pointer none) noM := mtOk_nil
  obtain ⟨w0, hw0⟩ : ∃ y, w.alloc (.cells #[.int .i64 4, .int .i64 x1, .int .i64 x2, .int .i64 x3, .int .i64 x4] 51) = y := ⟨_, rfl⟩
  have hb : Below w.heap.size w w0 := by rw [← hw0]; exact (Below.refl _ w).alloc (Nat.le_refl _) _
  have hT0 := hT.below hMo hb
  obtain ⟨y0, y1, y2, y3, y4, ee, HC1, HC2⟩ : ∃ (y0 : Bool) (y1 y2 y3 y4 ee : Int), Hid (∀ V, Below w0.heap.size w0 V → Calls Tryz.prog 28 #[.pointer (some ⟨p.g, 0, none⟩), .int .i64 x4] V fun e w' => e = .returned (.tuple #[.agg #[.bool y0, .int .i64 y1, .int .i64 y2, .int .i64 y3, .int .i64 y4], .int .i64 ee]) ∧ Below V.heap.size V w') ∧
      Hid (∀ V, Below w0.heap.size w0 V → Calls Tryz.prog 29 #[.pointer (some ⟨p.g2, 0, none⟩), .int .i64 x4] V fun e w' => e = .returned (.tuple #[.agg #[.bool y0, .int .i64 y1, .int .i64 y2, .int .i64 y3, .int .i64 y4], .int .i64 ee]) ∧ Below V.heap.size V w') := by
    have hno : ¬ t.has x4 := by
      rw [htn]
      rintro ⟨h1, h2, _⟩
      have h3 : x4 < 0 := h2
      omega
    have hZ0 : Zt w0 p.g := hZ.same (hb.block p.g (hZ.lt (by omega)))
    exact ⟨false, 0, 0, 0, 0, 7, fun V hV => at_z (hZ0.same (hV.block p.g (hZ0.lt (by omega)))) htn x4 hno, fun V hV => rat_no_s (hT0.rt.below hV) x4 hno⟩
  have HSE : Hid (∀ V, Below w0.heap.size w0 V → (V.cell? ⟨X, 0, none⟩ = some (.pointer (some ⟨p.g, 0, none⟩)) ∧ V.cell? ⟨X, 1, none⟩ = some (.pointer (some ⟨p.g2, 0, none⟩))) ∧ V.cell? ⟨w.heap.size, 4, none⟩ = some (.int .i64 x4)) := fun V hV => by
    have hV2 : Below w0.drew.heap.size w0.drew V := ⟨hV.os, hV.tape, hV.output, hV.size, hV.block⟩
    obtain ⟨⟨⟨q0, q1⟩, q2, q3⟩, ⟨r0, r1⟩, r2, r3, r4⟩ := hT.seen (w0 := w0.drew) hMo (by rw [← hw0]) (ex_of hV2)
    exact ⟨⟨q0, q1⟩, r4⟩
  have HF := True.intro
  have HB := Lib.hid hb
  have s0' := HSE.out w0 (Below.refl _ _)
  rw [← hw0] at s0'
  have HW0 := Lib.hid hw0
  clear hw0 hb hT0 hT hMo _hBd hZ
  go_enter Tryz.func10, Tryz.ntmps10
  go_upto_region 11 with fail
  clear s0'
  rw [HW0.out]
  have hbB : Below w0.heap.size w0 w0.drew := (Below.refl _ w0).drew
  have hbA : Below w0.heap.size w0 (w0.alloc (.cells #[.bool false, .int .i64 0, .int .i64 0, .int .i64 0, .int .i64 0] 60)).drew := ((Below.refl _ w0).alloc (Nat.le_refl _) _).drew
  obtain ⟨⟨c0, c1⟩, c4⟩ := HSE.out _ hbB
  obtain ⟨⟨e00, e01⟩, e04⟩ := HSE.out _ hbA
  have CA := HC1.out _ hbA
  have CB := HC1.out _ hbB
  have AT := Lib.hid (at_leaf (w0 := w0) y0 y1 y2 y3 y4 ee 60)
  clear hbA hbB
  generalize hbxe : w.heap.size = bx at *
  have hbx0 : bx ≤ w0.heap.size := by rw [← hbxe]; exact HB.out.size
  have HBXE := Lib.hid hbxe
  clear hbxe
  go_cut [9, 10] from 98 to 107 (fun v9 v10 W => AtR w0 y0 y1 y2 y3 y4 ee v9 v10 W)
  case first =>
    clear HC1 HC2 HSE HF HB HW0
    go_region_with (first | (go_at_call 28; with_reducible refine CA.mono ?_; rintro e w1 ⟨rfl, hb1⟩; have gz := AT.out.1 w1 hb1; have g0 := gz.c 0 (by omega); have g1 := gz.c 1 (by omega); have g2 := gz.c 2 (by omega); have g3 := gz.c 3 (by omega); have g4 := gz.c 4 (by omega); have z0 := gz.z 0; have z1 := gz.z 1; have z2 := gz.z 2; have z3 := gz.z 3; have z4 := gz.z 4) | (go_at_call 28; with_reducible refine CB.mono ?_; rintro e w1 ⟨rfl, hb1⟩) | fail)
    all_goals
      go_wp2_with fail
      go_meet
      case rel => first | with_reducible exact AT.out.2.1 w1 hb1 | with_reducible exact AT.out.2.2 w1 hb1
  case rest =>
    obtain ⟨ga, rfl, rfl, hGa, hBc⟩ := hcut
    clear c0 c1 c4 e00 e01 e04 CA CB AT
    have hBd := hBc.drew
    have HBc : Hid (Below w0.heap.size w0 wc) := hBc
    have hbB : Below wc.heap.size wc wc.drew := (Below.refl _ wc).drew
    have hbA : Below wc.heap.size wc (wc.alloc (.cells #[.bool false, .int .i64 0, .int .i64 0, .int .i64 0, .int .i64 0] 60)).drew := ((Below.refl _ wc).alloc (Nat.le_refl _) _).drew
    obtain ⟨⟨c0, c1⟩, c4⟩ := HSE.out _ (hBc.trans (hbB.mono hBc.size))
    obtain ⟨⟨e00, e01⟩, e04⟩ := HSE.out _ (hBc.trans (hbA.mono hBc.size))
    have CA := HC2.out _ (hBc.trans (hbA.mono hBc.size))
    have CB := HC2.out _ (hBc.trans (hbB.mono hBc.size))
    have AT := Lib.hid (at_leaf (w0 := wc) y0 y1 y2 y3 y4 ee 60)
    have HGa := Lib.hid hGa
    clear hGa hBc hBd hbB hbA
    go_upto_region 12 with fail
    go_cut [11, 12] from 108 to 117 (fun v9 v10 W => AtR wc y0 y1 y2 y3 y4 ee v9 v10 W)
    case first =>
      clear HGa HC1 HC2 HSE HF HB HBc
      go_region_with (first | (go_at_call 29; with_reducible refine CA.mono ?_; rintro e w1 ⟨rfl, hb1⟩; have gz := AT.out.1 w1 hb1; have g0 := gz.c 0 (by omega); have g1 := gz.c 1 (by omega); have g2 := gz.c 2 (by omega); have g3 := gz.c 3 (by omega); have g4 := gz.c 4 (by omega); have z0 := gz.z 0; have z1 := gz.z 1; have z2 := gz.z 2; have z3 := gz.z 3; have z4 := gz.z 4) | (go_at_call 29; with_reducible refine CB.mono ?_; rintro e w1 ⟨rfl, hb1⟩) | fail)
      all_goals
        go_wp2_with fail
        go_meet
        case rel => first | with_reducible exact AT.out.2.1 w1 hb1 | with_reducible exact AT.out.2.2 w1 hb1
    case rest =>
      clear c0 c1 c4 e00 e01 e04 CA CB AT
      obtain ⟨gb, rfl, rfl, hGb, hBe⟩ := hcut
      rename World => wd
      have hGa := HGa.out.of hBe (by omega)
      have p0 : wd.cell? ⟨ga, 0, none⟩ = some (.bool y0) := hGa.c 0 (by omega)
      have p1 : wd.cell? ⟨ga, 1, none⟩ = some (.int .i64 y1) := hGa.c 1 (by omega)
      have p2 : wd.cell? ⟨ga, 2, none⟩ = some (.int .i64 y2) := hGa.c 2 (by omega)
      have p3 : wd.cell? ⟨ga, 3, none⟩ = some (.int .i64 y3) := hGa.c 3 (by omega)
      have p4 : wd.cell? ⟨ga, 4, none⟩ = some (.int .i64 y4) := hGa.c 4 (by omega)
      have q0 : wd.cell? ⟨gb, 0, none⟩ = some (.bool y0) := hGb.c 0 (by omega)
      have q1 : wd.cell? ⟨gb, 1, none⟩ = some (.int .i64 y1) := hGb.c 1 (by omega)
      have q2 : wd.cell? ⟨gb, 2, none⟩ = some (.int .i64 y2) := hGb.c 2 (by omega)
      have q3 : wd.cell? ⟨gb, 3, none⟩ = some (.int .i64 y3) := hGb.c 3 (by omega)
      have q4 : wd.cell? ⟨gb, 4, none⟩ = some (.int .i64 y4) := hGb.c 4 (by omega)
      have HFF : Hid (Below bx w wd) := (HB.out.trans (HBc.out.mono hbx0)).trans (hBe.mono (Nat.le_trans hbx0 HBc.out.size))
      clear hGa hGb hBe HGa
      go_wp2_with fail
      go_ret
      exact ⟨rfl, by rw [HBXE.out]; exact HFF.out⟩
end Go.Proofs.YtdjabdmnknlaeaaGreat
