/-
  A machine begins a scan.
-/
import Derived.Test.YtaoejpehodoacabGreatPrHit
namespace Go.Proofs.YtaoejpehodoacabGreat
open Go.RowKit Go.WideShapes

set_option maxRecDepth 100000 in
set_option maxHeartbeats 2000000 in
theorem beginScan_any {w : World} {d g gi r h : Nat} {ev : Value} {t : Tb} {mv : Value} {most : Int} {v : Nat} (hC : Dc w d g gi r h ev t mv most v) {x : Nat} {sv : Value} {m : Ma} (hm : Mx w d g gi r h ev mv x sv m) (hsc : m.scans ≤ 1000000) :
    Calls Tryz.prog 30 #[.pointer (some ⟨x, 0, none⟩)] w fun e w' => e = .returned (.tuple #[]) ∧ ∃ s, w.heap.size ≤ s ∧ Sk w' s (.pointer (some ⟨g, 0, none⟩)) t.turn m.hash t.L 0 (-1) 0 ∧ Mc w' x (.pointer (some ⟨s, 0, none⟩)) d { m with ver := v, scans := m.scans + 1 } ∧ Ex (fun k => k = x) w w' := by
  have hbd : Below w.heap.size w w.drew := (Below.refl _ w).drew
  have hCd := hC.below hbd
  have lx := hm.mc.lt (by omega)
  have ld := hC.hd.lt (by omega)
  have hxd : x ≠ d := fun e => hm.ne (.inl e)
  have C1 : Calls Tryz.prog 20 #[.pointer (some ⟨d, 0, none⟩)] w.drew fun e w' => e = .returned (.pointer (some ⟨g, 0, none⟩)) ∧ w' = w.drew := kept_yes (hCd.hd.c 0 (by omega))
  have C2 := seek_any hCd.dt m.hash
  have hmd : Mc w.drew x sv d m := hm.mc.of hbd (by omega)
  have k1 : w.drew.cell? ⟨x, 1, none⟩ = some (.pointer (some ⟨d, 0, none⟩)) := hmd.c 1 (by omega)
  have k5 : w.drew.cell? ⟨x, 5, none⟩ = some (.int .i64 m.hash) := hmd.c 5 (by omega)
  have HMD := Lib.hid hmd
  have HCD := Lib.hid hCd.hd
  have HBD := Lib.hid hbd
  have e9 : IntKind.i64.wrap ((m.scans : Int) + 1) = (m.scans : Int) + 1 := i64_small (by omega) (by omega)
  clear hC hCd hm hmd hbd
  go_enter Tryz.func30, Tryz.ntmps30
  go_upto_region 0 with fail
  go_region_held3 (fun V => V.cell? ⟨x, 1, none⟩ = some (.pointer (some ⟨d, 0, none⟩)) ∧ V.cell? ⟨x, 5, none⟩ = some (.int .i64 m.hash))
    (first | with_reducible exact ⟨k1, k5⟩ | with_reducible exact s1 | with_reducible exact s2 | fail)
    (first | (go_at_call 20; refine C1.mono ?_; rintro e w0 ⟨rfl, rfl⟩) | (go_at_call 46; refine C2.mono ?_; rintro e w1 ⟨s, rfl, hs, hK, hb1⟩; have hM1 : Mc w1 x sv d m := HMD.out.of hb1 (by omega); have s1 : w1.cell? ⟨x, 1, none⟩ = some (.pointer (some ⟨d, 0, none⟩)) ∧ w1.cell? ⟨x, 5, none⟩ = some (.int .i64 m.hash) := ⟨hM1.c 1 (by omega), hM1.c 5 (by omega)⟩; have c0 : w1.cell? ⟨x, 0, none⟩ = some sv := hM1.c 0 (by omega); have z0 := hM1.z 0; have hM2 := hM1.put 0 (.pointer (some ⟨s, 0, none⟩)); have s2 : (w1.setCell ⟨x, 0, none⟩ (.pointer (some ⟨s, 0, none⟩))).cell? ⟨x, 1, none⟩ = some (.pointer (some ⟨d, 0, none⟩)) ∧ (w1.setCell ⟨x, 0, none⟩ (.pointer (some ⟨s, 0, none⟩))).cell? ⟨x, 5, none⟩ = some (.int .i64 m.hash) := ⟨hM2.c 1 (by omega), hM2.c 5 (by omega)⟩) | fail)
  clear C1 C2 k1 k5
  have hD2 : Blk (w1.setCell ⟨x, 0, none⟩ (.pointer (some ⟨s, 0, none⟩))) d 3 (dcF g most v) := (HCD.out.of hb1 (by omega)).same (Below.heap_setCell _ _ _ _ (fun (e : d = x) => hxd e.symm))
  have hM2' : Mc (w1.setCell ⟨x, 0, none⟩ (.pointer (some ⟨s, 0, none⟩))) x (.pointer (some ⟨s, 0, none⟩)) d m := hM2.congr fun j hj => by
    rcases lt17 hj with rfl | rfl | rfl | rfl | rfl | rfl | rfl | rfl | rfl | rfl | rfl | rfl | rfl | rfl | rfl | rfl | rfl <;> rfl
  have hsx : s ≠ x := by have h9 : w.drew.heap.size = w.heap.size := rfl; omega
  have hK2 : Sk (w1.setCell ⟨x, 0, none⟩ (.pointer (some ⟨s, 0, none⟩))) s (.pointer (some ⟨g, 0, none⟩)) t.turn m.hash t.L 0 (-1) 0 := Blk.same hK (Below.heap_setCell _ _ _ _ hsx)
  have hx2 : Ex (fun k => k = x) w (w1.setCell ⟨x, 0, none⟩ (.pointer (some ⟨s, 0, none⟩))) := (show Ex (fun k => k = x) w w1 from ex_of (HBD.out.trans hb1)).setCell (p := ⟨x, 0, none⟩) (fun _ => rfl) _
  have HS : Hid (w.heap.size ≤ s) := hs
  clear s1 s2 c0 z0 hM1 hM2 hK hb1 hs
  generalize w1.setCell ⟨x, 0, none⟩ (.pointer (some ⟨s, 0, none⟩)) = w2 at *
  have k1 : w2.cell? ⟨x, 1, none⟩ = some (.pointer (some ⟨d, 0, none⟩)) := hM2'.c 1 (by omega)
  have k8 : w2.cell? ⟨x, 8, none⟩ = some (.int .u64 (m.ver : Int)) := hM2'.c 8 (by omega)
  have k9 : w2.cell? ⟨x, 9, none⟩ = some (.int .i64 (m.scans : Int)) := hM2'.c 9 (by omega)
  have d2 : w2.cell? ⟨d, 2, none⟩ = some (.int .u64 (v : Int)) := hD2.c 2 (by omega)
  have z8 := hM2'.z 8
  have z9 := hM2'.z 9
  have HF : Hid (Mc ((w2.setCell ⟨x, 8, none⟩ (.int .u64 (v : Int))).setCell ⟨x, 9, none⟩ (.int .i64 ((m.scans : Int) + 1))) x (.pointer (some ⟨s, 0, none⟩)) d { m with ver := v, scans := m.scans + 1 }) := ((hM2'.put 8 _).put 9 _).congr fun j hj => by
    rcases lt17 hj with rfl | rfl | rfl | rfl | rfl | rfl | rfl | rfl | rfl | rfl | rfl | rfl | rfl | rfl | rfl | rfl | rfl
    all_goals first | rfl | (show Value.int .i64 (((m.scans + 1 : Nat)) : Int) = Value.int .i64 ((m.scans : Int) + 1); rw [Int.natCast_add]; rfl)
  have HK3 : Hid (Sk ((w2.setCell ⟨x, 8, none⟩ (.int .u64 (v : Int))).setCell ⟨x, 9, none⟩ (.int .i64 ((m.scans : Int) + 1))) s (.pointer (some ⟨g, 0, none⟩)) t.turn m.hash t.L 0 (-1) 0) := Blk.same hK2 (by rw [Below.heap_setCell _ _ _ _ hsx, Below.heap_setCell _ _ _ _ hsx])
  have HX3 := Lib.hid ((hx2.setCell (p := ⟨x, 8, none⟩) (fun _ => rfl) (.int .u64 (v : Int))).setCell (p := ⟨x, 9, none⟩) (fun _ => rfl) (.int .i64 ((m.scans : Int) + 1)))
  clear hM2' hD2 hK2 hx2
  go_wp2_with fail
  go_end0
  exact ⟨rfl, s, HS.out, HK3.out, HF.out, HX3.out⟩
end Go.Proofs.YtaoejpehodoacabGreat
