/-
  A machine's hit and beginScan.
-/
import Derived.Test.YtooneobnfepncaaGreatPrMach
namespace Go.Proofs.YtooneobnfepncaaGreat
open Go.RowKit Go.WideShapes

theorem Mx.below {w w' : World} {d g gi r h : Nat} {ev : Value} {mv : Value} {x : Nat} {sv : Value} {m : Ma} (hm : Mx w d g gi r h ev mv x sv m) (hb : Below w.heap.size w w') : Mx w' d g gi r h ev mv x sv m := ⟨hm.mc.of hb (by omega), hm.ne, hm.nm⟩
theorem tu_zero_blk (w : World) {w1 : World} (h : w.alloc (.cells #[.int .i64 0, .int .i64 0, .bool false, .int .i64 0, .int .i64 0] 77) = w1) : Blk w1 w.heap.size 5 (fun j => #[Value.int .i64 0, .int .i64 0, .bool false, .int .i64 0, .int .i64 0].getD j .nilFunc) ∧ Below w.heap.size w w1 ∧ w1.heap.size = w.heap.size + 1 := by
  rw [← h]
  exact ⟨Blk.new w _ _, (Below.refl _ w).alloc (Nat.le_refl _) _, by simp⟩
set_option maxRecDepth 100000 in
set_option maxHeartbeats 2000000 in
theorem hit_any {w : World} {d g gi r h : Nat} {ev : Value} {t : Tb} {mv : Value} {M : Int → Int → World → Prop} {a b : Int} {most : Int} {v : Nat} (hC : Dc w d g gi r h ev t mv most v) (hMo : MtOk mv M) (hM : M a b w) (ht : t.turn ≤ 1000000) (hv : v ≤ 1000000000) {x : Nat} {sv : Value} {m : Ma} (hm : Mx w d g gi r h ev mv x sv m) (n : Nat) (hn : n < t.es.length) (hl : (nth t.es n).live = true) :
    Calls Tryz.prog 101 #[.pointer (some ⟨x, 0, none⟩), .int .i64 (n : Int)] w fun e w' => e = .returned (tuV ⟨2, 0, true, (nth t.es n).value, (n : Int)⟩) ∧ Cd w d g gi r h ev mv M a b most (hitN m.goal v) (hitT m t n) w' gi r h ev := by
  obtain ⟨w1, hw1⟩ : ∃ y, w.alloc (.cells #[.int .i64 0, .int .i64 0, .bool false, .int .i64 0, .int .i64 0] 77) = y := ⟨_, rfl⟩
  obtain ⟨hX1, hB1, hs1⟩ := tu_zero_blk w hw1
  have hC1 := hC.below hB1
  have hm1 := hm.below hB1
  have C1 := kept_yes (hC1.hd.c 0 (by omega))
  have C2 := at7_yes hC1.dt n hn hl
  have k1 : w1.cell? ⟨x, 1, none⟩ = some (.pointer (some ⟨d, 0, none⟩)) := hm1.mc.c 1 (by omega)
  have hlm := fun k hk => hMo.lt a b w k hM hk
  have lx := hm.mc.lt (by omega)
  have HC := Lib.hid hC
  have HMo := Lib.hid hMo
  have HM := Lib.hid hM
  have HMX := Lib.hid hm
  have HB1 := Lib.hid hB1
  have HX1 := Lib.hid hX1
  have HW1 := Lib.hid hw1
  have HL := Lib.hid hl
  have hcf : ∀ args w, (callFunc (hitF m.goal) args).run Tryz.prog w = .ok (.enter (hitF m.goal) args) w := by
    unfold hitF
    split
    · exact Tryz.call88
    · split
      · exact Tryz.call90
      · exact Tryz.call86
  have HCF : Hid (∀ V, Below w.heap.size w V → Calls Tryz.prog (hitF m.goal) #[.pointer (some ⟨x, 0, none⟩), .int .i64 (n : Int)] V fun e w' => e = .returned (.tuple #[]) ∧ Cd V d g gi r h ev mv M a b most (hitN m.goal v) (hitT m t n) w' gi r h ev) := fun V hV => hitF_any (hC.below hV) hMo (hMo.below hM hV) ht hv (hm.below hV) n hn hl
  have HK3 : Hid (∀ V, Below w.heap.size w V → V.cell? ⟨x, 3, none⟩ = some (.func (.func (hitF m.goal)) #[] #[])) := fun V hV => (hm.mc.of hV (by omega)).c 3 (by omega)
  clear hC hMo hM hm hC1 hm1 hB1 hX1 hw1 hl
  unfold tuV
  generalize (nth t.es n).live = y0 at *
  generalize (nth t.es n).hash = y1 at *
  generalize (nth t.es n).key = y2 at *
  generalize (nth t.es n).value = y3 at *
  generalize (nth t.es n).birth = y4 at *
  generalize hitF m.goal = F at *
  generalize hitN m.goal v = v' at *
  generalize hitT m t n = t' at *
  go_enter Tryz.func101, Tryz.ntmps101
  go_upto_region 1 with fail
  rw [HW1.out]
  go_wp2_with fail
  refine C1.mono ?_
  rintro e w1' ⟨rfl, rfl⟩
  go_wp2_with fail
  refine C2.mono ?_
  rintro e w2 ⟨rfl, hB2⟩
  clear C1 C2 k1
  obtain ⟨w3, hw3⟩ : ∃ y, w2.alloc (.cells #[.bool y0, .int .i64 y1, .int .i64 y2, .int .i64 y3, .int .i64 y4] 62) = y := ⟨_, rfl⟩
  have hB3 : Below w2.heap.size w2 w3 := by rw [← hw3]; exact (Below.refl _ w2).alloc (Nat.le_refl _) _
  have hX3 : Blk w3 w2.heap.size 5 (fun j => #[Value.bool y0, .int .i64 y1, .int .i64 y2, .int .i64 y3, .int .i64 y4].getD j .nilFunc) := by rw [← hw3]; exact Blk.new w2 _ _
  have hB13 := hB2.trans (hB3.mono hB2.size)
  have hB03 := HB1.out.trans (hB13.mono HB1.out.size)
  have C4 := HCF.out w3 hB03
  have k3 := HK3.out w3 hB03
  have hs2 := hB2.size
  have lE := hX3.lt (by omega)
  have HX3 := Lib.hid hX3
  have HR3 := Lib.hid (HX1.out.of hB13 (by omega))
  have HB03 := Lib.hid hB03
  have HW3 := Lib.hid hw3
  clear hB3 hX3 hB13 hB03 hw3 hB2 HCF HK3
  go_upto_region 2 with fail
  rw [HW3.out]
  go_wp2_with fail
  refine C4.mono ?_
  rintro e w4 ⟨rfl, hF⟩
  clear C4 k3
  have hs3 : w.heap.size < w3.heap.size := by omega
  have ncw : ∀ k, w.heap.size ≤ k → ¬ cX d g gi r h ev k := fun k hk hx => by have := HC.out.lt k hx; omega
  have nmw : ∀ k, w.heap.size ≤ k → ¬ mB mv k := fun k hk hx => by have := hlm k hx; omega
  have hX4 := HX3.out.same (hF.block lE (ncw _ (by omega)) (nmw _ (by omega)))
  have hR4 := HR3.out.same (hF.block hs3 (ncw _ (Nat.le_refl _)) (nmw _ (Nat.le_refl _)))
  have p3 : w4.cell? ⟨w2.heap.size, 3, none⟩ = some (.int .i64 y3) := hX4.c 3 (by omega)
  have q0 : w4.cell? ⟨w.heap.size, 0, none⟩ = some (.int .i64 0) := hR4.c 0 (by omega)
  have q1 : w4.cell? ⟨w.heap.size, 1, none⟩ = some (.int .i64 0) := hR4.c 1 (by omega)
  have q2 : w4.cell? ⟨w.heap.size, 2, none⟩ = some (.bool false) := hR4.c 2 (by omega)
  have q3 : w4.cell? ⟨w.heap.size, 3, none⟩ = some (.int .i64 0) := hR4.c 3 (by omega)
  have q4 : w4.cell? ⟨w.heap.size, 4, none⟩ = some (.int .i64 0) := hR4.c 4 (by omega)
  have z0 := hR4.z 0
  have z1 := hR4.z 1
  have z2 := hR4.z 2
  have z3 := hR4.z 3
  have z4 := hR4.z 4
  have HR5 := Lib.hid (put5_blk hR4 (.int .i64 2) (.int .i64 0) (.bool true) (.int .i64 y3) (.int .i64 (n : Int)))
  have HF5 := Lib.hid ((hF.from HB03.out).over HC.out HMo.out hlm (put5_below (B := w.heap.size) (w := w4) w.heap.size (Nat.le_refl _) (.int .i64 2) (.int .i64 0) (.bool true) (.int .i64 y3) (.int .i64 (n : Int))))
  unfold put5 at HR5 HF5
  clear hX4 hR4 hF
  go_wp2_with fail
  generalize World.setCell (World.setCell (World.setCell (World.setCell (World.setCell w4 _ _) _ _) _ _) _ _) _ _ = w5 at *
  have o0 : w5.cell? ⟨w.heap.size, 0, none⟩ = some (.int .i64 2) := HR5.out.c 0 (by omega)
  have o1 : w5.cell? ⟨w.heap.size, 1, none⟩ = some (.int .i64 0) := HR5.out.c 1 (by omega)
  have o2 : w5.cell? ⟨w.heap.size, 2, none⟩ = some (.bool true) := HR5.out.c 2 (by omega)
  have o3 : w5.cell? ⟨w.heap.size, 3, none⟩ = some (.int .i64 y3) := HR5.out.c 3 (by omega)
  have o4 : w5.cell? ⟨w.heap.size, 4, none⟩ = some (.int .i64 (n : Int)) := HR5.out.c 4 (by omega)
  refine bodyPost_ret (v := .agg #[.int .i64 2, .int .i64 0, .bool true, .int .i64 y3, .int .i64 (n : Int)]) ?_ rfl ⟨rfl, HF5.out⟩
  simp [results, Tryz.results101, go_sem, o0, o1, o2, o3, o4]
end Go.Proofs.YtooneobnfepncaaGreat
