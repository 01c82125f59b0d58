/-
  goOn where it was told yes; Step, Tell, Scan, Scans.
-/
import Derived.Test.YtooneobnfepncaaGreatPrGo3
namespace Go.Proofs.YtooneobnfepncaaGreat
open Go.RowKit Go.WideShapes

set_option maxRecDepth 100000 in
set_option maxHeartbeats 4000000 in
theorem goOn_told {w : World} {d g gi r h : Nat} {ev : Value} {t : Tb} {mv : Value} {M : Int → Int → World → Prop} {a b : Int} {most : Int} {v : Nat} (hC : Dc w d g gi r h ev t mv most v) (hMo : MtOk mv M) (hM : M a b w) (ht : t.turn ≤ 1000000) (hv : v ≤ 1000000000) {x : Nat} {sv : Value} {m : Ma} (hm : Mx w d g gi r h ev mv x sv m) (h0 : m.scans ≠ 0) (hver : m.ver = v) (hsame : m.same = true) (n : Nat) (hask : m.asked = (n : Int)) (hn : n < t.es.length) (hl : (nth t.es n).live = true) :
    Calls Tryz.prog 50 #[.pointer (some ⟨x, 0, none⟩)] w fun e w' => e = .returned (tuV ⟨2, 0, true, (nth t.es n).value, (n : Int)⟩) ∧ Cm w d g gi r h ev mv M x sv a b most (hitN m.goal v) (hitT m t n) w' gi r h ev ∧ Mc w' x sv d m ∧ Ex (fun k => cX d g gi r h ev k ∨ mB mv k) w w' := by
  obtain ⟨w1, hw1⟩ : ∃ y, w.alloc (.cells #[.int .i64 0, .int .i64 0, .bool false, .int .i64 0, .int .i64 0] 77) = y := ⟨_, rfl⟩
  obtain ⟨hX1, hB1, hs1⟩ := tu_zero_blk w hw1
  have hC1 := hC.below hB1
  have hmx1 := hm.below hB1
  have lx := hm.mc.lt (by omega)
  have hlm := fun k hk => hMo.lt a b w k hM hk
  have k1 : w1.cell? ⟨x, 1, none⟩ = some (.pointer (some ⟨d, 0, none⟩)) := hmx1.mc.c 1 (by omega)
  have k8 : w1.cell? ⟨x, 8, none⟩ = some (.int .u64 (v : Int)) := by rw [← hver]; exact hmx1.mc.c 8 (by omega)
  have k9 : w1.cell? ⟨x, 9, none⟩ = some (.int .i64 (m.scans : Int)) := hmx1.mc.c 9 (by omega)
  have k15 : w1.cell? ⟨x, 15, none⟩ = some (.int .i64 (n : Int)) := by rw [← hask]; exact hmx1.mc.c 15 (by omega)
  have k16 : w1.cell? ⟨x, 16, none⟩ = some (.bool true) := by rw [← hsame]; exact hmx1.mc.c 16 (by omega)
  have d2 : w1.cell? ⟨d, 2, none⟩ = some (.int .u64 (v : Int)) := hC1.hd.c 2 (by omega)
  have t0 : ((m.scans : Int) == 0) = false := by rw [beq_eq_false_iff_ne]; omega
  have t1 : ((v : Int) != (v : Int)) = false := by simp
  have hxR : x ≠ w.heap.size := by omega
  have nRc : ¬ cX d g gi r h ev w.heap.size := fun hk => by have := hC.lt _ hk; omega
  have nRm : ¬ mB mv w.heap.size := fun hk => by have := hlm _ hk; omega
  have hne := hm.ne
  have hnm := hm.nm
  have hlR := hX1.lt (by omega)
  have HH : Hid (∀ V, Below w.heap.size w V → Calls Tryz.prog 101 #[.pointer (some ⟨x, 0, none⟩), .int .i64 (n : Int)] V fun e w' => e = .returned (tuV ⟨2, 0, true, (nth t.es n).value, (n : Int)⟩) ∧ Cd V d g gi r h ev mv M a b most (hitN m.goal v) (hitT m t n) w' gi r h ev) := fun V hV => hit_any (hC.below hV) hMo (hMo.below hM hV) ht hv (hm.below hV) n hn hl
  have HBQ : Hid (∀ k, Below w.heap.size w (w1.drewN k)) := fun k => ⟨hB1.os, hB1.tape, hB1.output, hB1.size, hB1.block⟩
  have HXQ : Hid (∀ k, Blk (w1.drewN k) w.heap.size 5 rZ) := fun k => hX1.same rfl
  have HSZ : Hid (∀ k, (w1.drewN k).heap.size = w.heap.size + 1) := fun k => hs1
  have HC := Lib.hid hC
  have HMo := Lib.hid hMo
  have HMX := Lib.hid hm
  have HW1 := Lib.hid hw1
  clear hC hMo hM hm hC1 hmx1 hB1 hX1 hw1 hl hask hver hsame h0
  generalize (nth t.es n).value = y3 at *
  unfold tuV at HH ⊢
  go_enter Tryz.func50, Tryz.ntmps50
  go_upto_region 1 with fail
  rw [HW1.out]
  go_quiet (fail)
  have hBq := HBQ.out nq
  have hXq := HXQ.out nq
  have hsq := HSZ.out nq
  have CH := HH.out _ hBq
  have q15 : (w1.drewN nq).cell? ⟨x, 15, none⟩ = some (.int .i64 (n : Int)) := k15
  have q16 : (w1.drewN nq).cell? ⟨x, 16, none⟩ = some (.bool true) := k16
  have HBq := Lib.hid hBq
  have HXq := Lib.hid hXq
  clear hBq hXq k1 k8 k9 k15 k16 d2 t0 t1 HBQ HXQ HSZ HH
  generalize w1.drewN nq = wq at *
  go_wp2_with fail
  refine CH.mono ?_
  rintro e wA ⟨rfl, hF⟩
  clear CH q15 q16
  have hRz := HXq.out.same (hF.block (by omega) nRc nRm)
  have q0 : wA.cell? ⟨w.heap.size, 0, none⟩ = some (.int .i64 0) := hRz.c 0 (by omega)
  have q1 : wA.cell? ⟨w.heap.size, 1, none⟩ = some (.int .i64 0) := hRz.c 1 (by omega)
  have q2 : wA.cell? ⟨w.heap.size, 2, none⟩ = some (.bool false) := hRz.c 2 (by omega)
  have q3 : wA.cell? ⟨w.heap.size, 3, none⟩ = some (.int .i64 0) := hRz.c 3 (by omega)
  have q4 : wA.cell? ⟨w.heap.size, 4, none⟩ = some (.int .i64 0) := hRz.c 4 (by omega)
  have z0 := hRz.z 0
  have z1 := hRz.z 1
  have z2 := hRz.z 2
  have z3 := hRz.z 3
  have z4 := hRz.z 4
  have HR9 : Hid (Blk (putU wA w.heap.size ⟨2, 0, true, y3, (n : Int)⟩) w.heap.size 5 _) := put5_blk hRz _ _ _ _ _
  have hc := hF.from HBq.out
  have hbp : Below w.heap.size wA (putU wA w.heap.size ⟨2, 0, true, y3, (n : Int)⟩) := putU_below _ (Nat.le_refl _) _
  have hov := hc.over HC.out HMo.out hlm hbp
  have HF9 : Hid (Cm w d g gi r h ev mv M x sv a b most (hitN m.goal v) (hitT m t n) (putU wA w.heap.size ⟨2, 0, true, y3, (n : Int)⟩) gi r h ev ∧ Mc (putU wA w.heap.size ⟨2, 0, true, y3, (n : Int)⟩) x sv d m ∧ Ex (fun k => cX d g gi r h ev k ∨ mB mv k) w (putU wA w.heap.size ⟨2, 0, true, y3, (n : Int)⟩)) := ⟨⟨hov.dc, hov.m, hov.fx, hov.ex.mono (fun k _ hk => hk.elim .inl (fun y => .inr (.inl y)))⟩, ((HMX.out.below HBq.out).mc.same (hF.block (by omega) hne hnm)).same (putU_other _ _ _ _ hxR), hov.ex⟩
  clear hF hRz hc hbp hov
  unfold putU put5 at HR9 HF9
  go_wp2_with fail
  generalize World.setCell (World.setCell (World.setCell (World.setCell (World.setCell wA _ _) _ _) _ _) _ _) _ _ = wZ at *
  have o0 : wZ.cell? ⟨w.heap.size, 0, none⟩ = some (.int .i64 2) := HR9.out.c 0 (by omega)
  have o1 : wZ.cell? ⟨w.heap.size, 1, none⟩ = some (.int .i64 0) := HR9.out.c 1 (by omega)
  have o2 : wZ.cell? ⟨w.heap.size, 2, none⟩ = some (.bool true) := HR9.out.c 2 (by omega)
  have o3 : wZ.cell? ⟨w.heap.size, 3, none⟩ = some (.int .i64 y3) := HR9.out.c 3 (by omega)
  have o4 : wZ.cell? ⟨w.heap.size, 4, none⟩ = some (.int .i64 (n : Int)) := HR9.out.c 4 (by omega)
  refine bodyPost_ret (v := .agg #[.int .i64 2, .int .i64 0, .bool true, .int .i64 y3, .int .i64 (n : Int)]) ?_ rfl ⟨rfl, HF9.out⟩
  simp [results, Tryz.results50, go_sem, o0, o1, o2, o3, o4]
end Go.Proofs.YtooneobnfepncaaGreat
