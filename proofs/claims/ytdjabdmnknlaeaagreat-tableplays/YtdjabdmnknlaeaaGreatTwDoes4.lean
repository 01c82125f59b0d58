/-
  The law's does: At.
-/
import Derived.Test.YtdjabdmnknlaeaaGreatTwm
namespace Go.Proofs.YtdjabdmnknlaeaaGreat
open Go.RowKit Go.WideShapes

/-- Variables of an entry and an error that a call has told. -/
def AtR (w0 : World) (y0 : Bool) (y1 y2 y3 y4 ee : Int) (v9 v10 : Value) (W : World) : Prop := ∃ ga : Nat, v9 = .pointer (some ⟨ga, 0, none⟩) ∧ v10 = .int .i64 ee ∧ Blk W ga 5 (fun j => #[Value.bool y0, .int .i64 y1, .int .i64 y2, .int .i64 y3, .int .i64 y4].getD j .nilFunc) ∧ Below w0.heap.size w0 W
/-- A variable of entries that was made ahead of a call, or behind it. -/
theorem at_leaf {w0 : World} (y0 : Bool) (y1 y2 y3 y4 ee : Int) (ty : TypeId) :
    (∀ w1, Below ((w0.alloc (.cells #[.bool false, .int .i64 0, .int .i64 0, .int .i64 0, .int .i64 0] ty)).drew).heap.size (w0.alloc (.cells #[.bool false, .int .i64 0, .int .i64 0, .int .i64 0, .int .i64 0] ty)).drew w1 → Blk w1 w0.heap.size 5 (fun j => #[Value.bool false, .int .i64 0, .int .i64 0, .int .i64 0, .int .i64 0].getD j .nilFunc)) ∧
    (∀ w1, Below ((w0.alloc (.cells #[.bool false, .int .i64 0, .int .i64 0, .int .i64 0, .int .i64 0] ty)).drew).heap.size (w0.alloc (.cells #[.bool false, .int .i64 0, .int .i64 0, .int .i64 0, .int .i64 0] ty)).drew w1 → AtR w0 y0 y1 y2 y3 y4 ee (.pointer (some ⟨w0.heap.size, 0, none⟩)) (.int .i64 ee) (((((w1.setCell ⟨w0.heap.size, 0, none⟩ (.bool y0)).setCell ⟨w0.heap.size, 1, none⟩ (.int .i64 y1)).setCell ⟨w0.heap.size, 2, none⟩ (.int .i64 y2)).setCell ⟨w0.heap.size, 3, none⟩ (.int .i64 y3)).setCell ⟨w0.heap.size, 4, none⟩ (.int .i64 y4))) ∧
    (∀ w1, Below (w0.drew).heap.size w0.drew w1 → AtR w0 y0 y1 y2 y3 y4 ee (.pointer (some ⟨w1.heap.size, 0, none⟩)) (.int .i64 ee) (w1.alloc (.cells #[.bool y0, .int .i64 y1, .int .i64 y2, .int .i64 y3, .int .i64 y4] ty))) := by
  have k1 : ∀ w1, Below ((w0.alloc (.cells #[.bool false, .int .i64 0, .int .i64 0, .int .i64 0, .int .i64 0] ty)).drew).heap.size (w0.alloc (.cells #[.bool false, .int .i64 0, .int .i64 0, .int .i64 0, .int .i64 0] ty)).drew w1 → Blk w1 w0.heap.size 5 (fun j => #[Value.bool false, .int .i64 0, .int .i64 0, .int .i64 0, .int .i64 0].getD j .nilFunc) := fun w1 hb => ((Blk.new w0 #[Value.bool false, .int .i64 0, .int .i64 0, .int .i64 0, .int .i64 0] ty).same (w' := (w0.alloc (.cells #[.bool false, .int .i64 0, .int .i64 0, .int .i64 0, .int .i64 0] ty)).drew) rfl).of hb (by simp)
  refine ⟨k1, fun w1 hb => ⟨_, rfl, rfl, ?_, ?_⟩, fun w1 hb => ⟨_, rfl, rfl, Blk.new w1 #[Value.bool y0, .int .i64 y1, .int .i64 y2, .int .i64 y3, .int .i64 y4] ty, ?_⟩⟩
  · refine ((((((k1 w1 hb).put 0 (.bool y0)).put 1 (.int .i64 y1)).put 2 (.int .i64 y2)).put 3 (.int .i64 y3)).put 4 (.int .i64 y4)).congr fun j hj => ?_
    have : j = 0 ∨ j = 1 ∨ j = 2 ∨ j = 3 ∨ j = 4 := by omega
    rcases this with rfl | rfl | rfl | rfl | rfl <;> rfl
  · have h1 : Below w0.heap.size w0 (w0.alloc (.cells #[.bool false, .int .i64 0, .int .i64 0, .int .i64 0, .int .i64 0] ty)).drew := ((Below.refl _ w0).alloc (Nat.le_refl _) _).drew
    exact (((((h1.trans (hb.mono h1.size)).setCell (p := ⟨w0.heap.size, 0, none⟩) (Nat.le_refl _) _).setCell (p := ⟨w0.heap.size, 1, none⟩) (Nat.le_refl _) _).setCell (p := ⟨w0.heap.size, 2, none⟩) (Nat.le_refl _) _).setCell (p := ⟨w0.heap.size, 3, none⟩) (Nat.le_refl _) _).setCell (p := ⟨w0.heap.size, 4, none⟩) (Nat.le_refl _) _
  · have h1 : Below w0.heap.size w0 w1 := (Below.refl _ w0).drew.trans hb
    exact h1.alloc h1.size _
set_option maxRecDepth 100000 in
set_option maxHeartbeats 8000000 in
theorem does_at {w : World} {X : Nat} {p : Pl} {t : Tb} {pm pr : Option Addr} {M : Int → Int → World → Prop} {a b : Int} {n : Nat} (hT : Tw w X p t (.pointer pm) (.pointer pr) M a b) (hMo : MtOk (.pointer pm) M) (hBd : Bd t a b n) (x1 x2 x3 x4 : Int) :
    Calls Tryz.prog 10 #[.pointer (some ⟨X, 0, none⟩), .agg #[.int .i64 4, .int .i64 x1, .int .i64 x2, .int .i64 x3, .int .i64 x4]] w fun e w' => e = .returned (.bool true) ∧ ∃ p' a' b', Dn w X p (.pointer pm) (.pointer pr) M (n + 1) p' (t.step 4 x1 x2 x3 x4) a' b' w' := by
  obtain ⟨w0, hw0⟩ : ∃ y, w.alloc (.cells #[.int .i64 4, .int .i64 x1, .int .i64 x2, .int .i64 x3, .int .i64 x4] 51) = y := ⟨_, rfl⟩
  have hb : Below w.heap.size w w0 := by rw [← hw0]; exact (Below.refl _ w).alloc (Nat.le_refl _) _
  have hT0 := hT.below hMo hb
  obtain ⟨y0, y1, y2, y3, y4, ee, HC1, HC2⟩ : ∃ (y0 : Bool) (y1 y2 y3 y4 ee : Int), Hid (∀ V, Below w0.heap.size w0 V → Calls Tryz.prog 28 #[.pointer (some ⟨p.g, 0, none⟩), .int .i64 x4] V fun e w' => e = .returned (.tuple #[.agg #[.bool y0, .int .i64 y1, .int .i64 y2, .int .i64 y3, .int .i64 y4], .int .i64 ee]) ∧ Below V.heap.size V w') ∧
      Hid (∀ V, Below w0.heap.size w0 V → Calls Tryz.prog 29 #[.pointer (some ⟨p.g2, 0, none⟩), .int .i64 x4] V fun e w' => e = .returned (.tuple #[.agg #[.bool y0, .int .i64 y1, .int .i64 y2, .int .i64 y3, .int .i64 y4], .int .i64 ee]) ∧ Below V.heap.size V w') := by
    rcases has_cases t x4 with ⟨m, rfl, hm, hl⟩ | hno
    · exact ⟨_, _, _, _, _, 0, fun V hV => at7_yes (hT0.dt.below hV) m hm hl, fun V hV => rat_yes_s (hT0.rt.below hV) m hm hl⟩
    · exact ⟨false, 0, 0, 0, 0, 7, fun V hV => at7_no (hT0.dt.below hV) x4 hno, fun V hV => rat_no_s (hT0.rt.below hV) x4 hno⟩
  have HSE : Hid (∀ V, Below w0.heap.size w0 V → (V.cell? ⟨X, 0, none⟩ = some (.pointer (some ⟨p.g, 0, none⟩)) ∧ V.cell? ⟨X, 1, none⟩ = some (.pointer (some ⟨p.g2, 0, none⟩))) ∧ V.cell? ⟨w.heap.size, 4, none⟩ = some (.int .i64 x4)) := fun V hV => by
    have hV2 : Below w0.drew.heap.size w0.drew V := ⟨hV.os, hV.tape, hV.output, hV.size, hV.block⟩
    obtain ⟨⟨⟨q0, q1⟩, q2, q3⟩, ⟨r0, r1⟩, r2, r3, r4⟩ := hT.seen (w0 := w0.drew) hMo (by rw [← hw0]) (ex_of hV2)
    exact ⟨⟨q0, q1⟩, r4⟩
  have HF := Lib.hid (fun V hV => dn_same (w' := V) hT hMo hV hBd)
  have HB := Lib.hid hb
  have s0' := HSE.out w0 (Below.refl _ _)
  rw [← hw0] at s0'
  have HW0 := Lib.hid hw0
  clear hw0 hb hT0 hT hMo hBd
  go_enter Tryz.func10, Tryz.ntmps10
  go_upto_region 11 with fail
  clear s0'
  rw [HW0.out]
  have hbB : Below w0.heap.size w0 w0.drew := (Below.refl _ w0).drew
  have hbA : Below w0.heap.size w0 (w0.alloc (.cells #[.bool false, .int .i64 0, .int .i64 0, .int .i64 0, .int .i64 0] 60)).drew := ((Below.refl _ w0).alloc (Nat.le_refl _) _).drew
  obtain ⟨⟨c0, c1⟩, c4⟩ := HSE.out _ hbB
  obtain ⟨⟨e00, e01⟩, e04⟩ := HSE.out _ hbA
  have CA := HC1.out _ hbA
  have CB := HC1.out _ hbB
  have AT := Lib.hid (at_leaf (w0 := w0) y0 y1 y2 y3 y4 ee 60)
  clear hbA hbB
  generalize hbxe : w.heap.size = bx at *
  have hbx0 : bx ≤ w0.heap.size := by rw [← hbxe]; exact HB.out.size
  clear hbxe
  go_cut [9, 10] from 98 to 107 (fun v9 v10 W => AtR w0 y0 y1 y2 y3 y4 ee v9 v10 W)
  case first =>
    clear HC1 HC2 HSE HF HB HW0
    go_region_with (first | (go_at_call 28; with_reducible refine CA.mono ?_; rintro e w1 ⟨rfl, hb1⟩; have gz := AT.out.1 w1 hb1; have g0 := gz.c 0 (by omega); have g1 := gz.c 1 (by omega); have g2 := gz.c 2 (by omega); have g3 := gz.c 3 (by omega); have g4 := gz.c 4 (by omega); have z0 := gz.z 0; have z1 := gz.z 1; have z2 := gz.z 2; have z3 := gz.z 3; have z4 := gz.z 4) | (go_at_call 28; with_reducible refine CB.mono ?_; rintro e w1 ⟨rfl, hb1⟩) | fail)
    all_goals
      go_wp2_with fail
      go_meet
      case rel => first | with_reducible exact AT.out.2.1 w1 hb1 | with_reducible exact AT.out.2.2 w1 hb1
  case rest =>
    obtain ⟨ga, rfl, rfl, hGa, hBc⟩ := hcut
    clear c0 c1 c4 e00 e01 e04 CA CB AT
    have hBd := hBc.drew
    have HBc : Hid (Below w0.heap.size w0 wc) := hBc
    have hbB : Below wc.heap.size wc wc.drew := (Below.refl _ wc).drew
    have hbA : Below wc.heap.size wc (wc.alloc (.cells #[.bool false, .int .i64 0, .int .i64 0, .int .i64 0, .int .i64 0] 60)).drew := ((Below.refl _ wc).alloc (Nat.le_refl _) _).drew
    obtain ⟨⟨c0, c1⟩, c4⟩ := HSE.out _ (hBc.trans (hbB.mono hBc.size))
    obtain ⟨⟨e00, e01⟩, e04⟩ := HSE.out _ (hBc.trans (hbA.mono hBc.size))
    have CA := HC2.out _ (hBc.trans (hbA.mono hBc.size))
    have CB := HC2.out _ (hBc.trans (hbB.mono hBc.size))
    have AT := Lib.hid (at_leaf (w0 := wc) y0 y1 y2 y3 y4 ee 60)
    have HGa := Lib.hid hGa
    clear hGa hBc hBd hbB hbA
    go_upto_region 12 with fail
    go_cut [11, 12] from 108 to 117 (fun v9 v10 W => AtR wc y0 y1 y2 y3 y4 ee v9 v10 W)
    case first =>
      clear HGa HC1 HC2 HSE HF HB HBc
      go_region_with (first | (go_at_call 29; with_reducible refine CA.mono ?_; rintro e w1 ⟨rfl, hb1⟩; have gz := AT.out.1 w1 hb1; have g0 := gz.c 0 (by omega); have g1 := gz.c 1 (by omega); have g2 := gz.c 2 (by omega); have g3 := gz.c 3 (by omega); have g4 := gz.c 4 (by omega); have z0 := gz.z 0; have z1 := gz.z 1; have z2 := gz.z 2; have z3 := gz.z 3; have z4 := gz.z 4) | (go_at_call 29; with_reducible refine CB.mono ?_; rintro e w1 ⟨rfl, hb1⟩) | fail)
      all_goals
        go_wp2_with fail
        go_meet
        case rel => first | with_reducible exact AT.out.2.1 w1 hb1 | with_reducible exact AT.out.2.2 w1 hb1
    case rest =>
      clear c0 c1 c4 e00 e01 e04 CA CB AT
      obtain ⟨gb, rfl, rfl, hGb, hBe⟩ := hcut
      rename World => wd
      have hGa := HGa.out.of hBe (by omega)
      have p0 : wd.cell? ⟨ga, 0, none⟩ = some (.bool y0) := hGa.c 0 (by omega)
      have p1 : wd.cell? ⟨ga, 1, none⟩ = some (.int .i64 y1) := hGa.c 1 (by omega)
      have p2 : wd.cell? ⟨ga, 2, none⟩ = some (.int .i64 y2) := hGa.c 2 (by omega)
      have p3 : wd.cell? ⟨ga, 3, none⟩ = some (.int .i64 y3) := hGa.c 3 (by omega)
      have p4 : wd.cell? ⟨ga, 4, none⟩ = some (.int .i64 y4) := hGa.c 4 (by omega)
      have q0 : wd.cell? ⟨gb, 0, none⟩ = some (.bool y0) := hGb.c 0 (by omega)
      have q1 : wd.cell? ⟨gb, 1, none⟩ = some (.int .i64 y1) := hGb.c 1 (by omega)
      have q2 : wd.cell? ⟨gb, 2, none⟩ = some (.int .i64 y2) := hGb.c 2 (by omega)
      have q3 : wd.cell? ⟨gb, 3, none⟩ = some (.int .i64 y3) := hGb.c 3 (by omega)
      have q4 : wd.cell? ⟨gb, 4, none⟩ = some (.int .i64 y4) := hGb.c 4 (by omega)
      have HFF : Hid (Below bx w wd) := (HB.out.trans (HBc.out.mono hbx0)).trans (hBe.mono (Nat.le_trans hbx0 HBc.out.size))
      clear hGa hGb hBe HGa
      go_wp2_with fail
      go_ret
      exact ⟨rfl, _, _, _, by rw [step_same _ _ _ _ _ _ ⟨by decide, by decide, by decide, by decide, by decide⟩]; exact HF.out _ HFF.out⟩
end Go.Proofs.YtdjabdmnknlaeaaGreat
