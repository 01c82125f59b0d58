/-
  goOn where it was told yes; Step, Tell, Scan, Scans.
  isNone, Step, Tell, Scan, Scans.
-/
import Derived.Test.YtejfmajbggmghaaGreatPrGo3
namespace Go.Proofs.YtejfmajbggmghaaGreat
open Go.RowKit Go.WideShapes

set_option maxRecDepth 100000 in
set_option maxHeartbeats 4000000 in
theorem goOn_told {w : World} {d g gi r h : Nat} {ev : Value} {t : Tb} {mv : Value} {M : Int → Int → World → Prop} {a b : Int} {most : Int} {v : Nat} (hC : Dc w d g gi r h ev t mv most v) (hMo : MtOk mv M) (hM : M a b w) (ht : t.turn ≤ 1000000) (hv : v ≤ 1000000000) {x : Nat} {sv : Value} {m : Ma} (hm : Mx w d g gi r h ev mv x sv m) (h0 : m.scans ≠ 0) (hver : m.ver = v) (hsame : m.same = true) (n : Nat) (hask : m.asked = (n : Int)) (hn : n < t.es.length) (hl : (nth t.es n).live = true) :
    Calls Tryz.prog 28 #[.pointer (some ⟨x, 0, none⟩)] w fun e w' => e = .returned (tuV ⟨2, 0, true, (nth t.es n).value, (n : Int)⟩) ∧ Cm w d g gi r h ev mv M x sv a b most (hitN m.goal v) (hitT m t n) w' gi r h ev ∧ Mc w' x sv d m ∧ Ex (fun k => cX d g gi r h ev k ∨ mB mv k) w w' := by
  obtain ⟨w1, hw1⟩ : ∃ y, w.alloc (.cells #[.int .i64 0, .int .i64 0, .bool false, .int .i64 0, .int .i64 0] 45) = y := ⟨_, rfl⟩
  obtain ⟨hX1, hB1, hs1⟩ := tu_zero_blk w hw1
  have hC1 := hC.below hB1
  have hmx1 := hm.below hB1
  have lx := hm.mc.lt (by omega)
  have hlm := fun k hk => hMo.lt a b w k hM hk
  have k1 : w1.cell? ⟨x, 1, none⟩ = some (.pointer (some ⟨d, 0, none⟩)) := hmx1.mc.c 1 (by omega)
  have k8 : w1.cell? ⟨x, 8, none⟩ = some (.int .u64 (v : Int)) := by rw [← hver]; exact hmx1.mc.c 8 (by omega)
  have k9 : w1.cell? ⟨x, 9, none⟩ = some (.int .i64 (m.scans : Int)) := hmx1.mc.c 9 (by omega)
  have k15 : w1.cell? ⟨x, 15, none⟩ = some (.int .i64 (n : Int)) := by rw [← hask]; exact hmx1.mc.c 15 (by omega)
  have k16 : w1.cell? ⟨x, 16, none⟩ = some (.bool true) := by rw [← hsame]; exact hmx1.mc.c 16 (by omega)
  have d2 : w1.cell? ⟨d, 2, none⟩ = some (.int .u64 (v : Int)) := hC1.hd.c 2 (by omega)
  have t0 : ((m.scans : Int) == 0) = false := by rw [beq_eq_false_iff_ne]; omega
  have t1 : ((v : Int) != (v : Int)) = false := by simp
  have hxR : x ≠ w.heap.size := by omega
  have nRc : ¬ cX d g gi r h ev w.heap.size := fun hk => by have := hC.lt _ hk; omega
  have nRm : ¬ mB mv w.heap.size := fun hk => by have := hlm _ hk; omega
  have hne := hm.ne
  have hnm := hm.nm
  have hlR := hX1.lt (by omega)
  have HH : Hid (∀ V, Below w.heap.size w V → Calls Tryz.prog 58 #[.pointer (some ⟨x, 0, none⟩), .int .i64 (n : Int)] V fun e w' => e = .returned (tuV ⟨2, 0, true, (nth t.es n).value, (n : Int)⟩) ∧ Cd V d g gi r h ev mv M a b most (hitN m.goal v) (hitT m t n) w' gi r h ev) := fun V hV => hit_any (hC.below hV) hMo (hMo.below hM hV) ht hv (hm.below hV) n hn hl
  have HBQ : Hid (∀ k, Below w.heap.size w (w1.drewN k)) := fun k => ⟨hB1.os, hB1.tape, hB1.output, hB1.size, hB1.block⟩
  have HXQ : Hid (∀ k, Blk (w1.drewN k) w.heap.size 5 rZ) := fun k => hX1.same rfl
  have HSZ : Hid (∀ k, (w1.drewN k).heap.size = w.heap.size + 1) := fun k => hs1
  have HC := Lib.hid hC
  have HMo := Lib.hid hMo
  have HMX := Lib.hid hm
  have HW1 := Lib.hid hw1
  clear hC hMo hM hm hC1 hmx1 hB1 hX1 hw1 hl hask hver hsame h0
  generalize (nth t.es n).value = y3 at *
  unfold tuV at HH ⊢
  go_enter Tryz.func28, Tryz.ntmps28
  go_upto_region 1 with fail
  rw [HW1.out]
  go_quiet (fail)
  have hBq := HBQ.out nq
  have hXq := HXQ.out nq
  have hsq := HSZ.out nq
  have CH := HH.out _ hBq
  have q15 : (w1.drewN nq).cell? ⟨x, 15, none⟩ = some (.int .i64 (n : Int)) := k15
  have q16 : (w1.drewN nq).cell? ⟨x, 16, none⟩ = some (.bool true) := k16
  have HBq := Lib.hid hBq
  have HXq := Lib.hid hXq
  clear hBq hXq k1 k8 k9 k15 k16 d2 t0 t1 HBQ HXQ HSZ HH
  generalize w1.drewN nq = wq at *
  go_wp2_with fail
  refine CH.mono ?_
  rintro e wA ⟨rfl, hF⟩
  clear CH q15 q16
  have hRz := HXq.out.same (hF.block (by omega) nRc nRm)
  have q0 : wA.cell? ⟨w.heap.size, 0, none⟩ = some (.int .i64 0) := hRz.c 0 (by omega)
  have q1 : wA.cell? ⟨w.heap.size, 1, none⟩ = some (.int .i64 0) := hRz.c 1 (by omega)
  have q2 : wA.cell? ⟨w.heap.size, 2, none⟩ = some (.bool false) := hRz.c 2 (by omega)
  have q3 : wA.cell? ⟨w.heap.size, 3, none⟩ = some (.int .i64 0) := hRz.c 3 (by omega)
  have q4 : wA.cell? ⟨w.heap.size, 4, none⟩ = some (.int .i64 0) := hRz.c 4 (by omega)
  have z0 := hRz.z 0
  have z1 := hRz.z 1
  have z2 := hRz.z 2
  have z3 := hRz.z 3
  have z4 := hRz.z 4
  have HR9 : Hid (Blk (putU wA w.heap.size ⟨2, 0, true, y3, (n : Int)⟩) w.heap.size 5 _) := put5_blk hRz _ _ _ _ _
  have hc := hF.from HBq.out
  have hbp : Below w.heap.size wA (putU wA w.heap.size ⟨2, 0, true, y3, (n : Int)⟩) := putU_below _ (Nat.le_refl _) _
  have hov := hc.over HC.out HMo.out hlm hbp
  have HF9 : Hid (Cm w d g gi r h ev mv M x sv a b most (hitN m.goal v) (hitT m t n) (putU wA w.heap.size ⟨2, 0, true, y3, (n : Int)⟩) gi r h ev ∧ Mc (putU wA w.heap.size ⟨2, 0, true, y3, (n : Int)⟩) x sv d m ∧ Ex (fun k => cX d g gi r h ev k ∨ mB mv k) w (putU wA w.heap.size ⟨2, 0, true, y3, (n : Int)⟩)) := ⟨⟨hov.dc, hov.m, hov.fx, hov.ex.mono (fun k _ hk => hk.elim .inl (fun y => .inr (.inl y)))⟩, ((HMX.out.below HBq.out).mc.same (hF.block (by omega) hne hnm)).same (putU_other _ _ _ _ hxR), hov.ex⟩
  clear hF hRz hc hbp hov
  unfold putU put5 at HR9 HF9
  go_wp2_with fail
  generalize World.setCell (World.setCell (World.setCell (World.setCell (World.setCell wA _ _) _ _) _ _) _ _) _ _ = wZ at *
  have o0 : wZ.cell? ⟨w.heap.size, 0, none⟩ = some (.int .i64 2) := HR9.out.c 0 (by omega)
  have o1 : wZ.cell? ⟨w.heap.size, 1, none⟩ = some (.int .i64 0) := HR9.out.c 1 (by omega)
  have o2 : wZ.cell? ⟨w.heap.size, 2, none⟩ = some (.bool true) := HR9.out.c 2 (by omega)
  have o3 : wZ.cell? ⟨w.heap.size, 3, none⟩ = some (.int .i64 y3) := HR9.out.c 3 (by omega)
  have o4 : wZ.cell? ⟨w.heap.size, 4, none⟩ = some (.int .i64 (n : Int)) := HR9.out.c 4 (by omega)
  refine bodyPost_ret (v := .agg #[.int .i64 2, .int .i64 0, .bool true, .int .i64 y3, .int .i64 (n : Int)]) ?_ rfl ⟨rfl, HF9.out⟩
  simp [results, Tryz.results28, go_sem, o0, o1, o2, o3, o4]
end Go.Proofs.YtejfmajbggmghaaGreat
namespace Go.Proofs.YtejfmajbggmghaaGreat
open Go.RowKit Go.WideShapes

theorem eqMa (x : Nat) (w : World) : (binOp .eql 40 (.pointer (some ⟨x, 0, none⟩)) (.pointer none)).run Tryz.prog w = .ok (.bool false) w := by kernel_rfl
theorem maNone_no {w : World} {x d : Nat} (k1 : w.cell? ⟨x, 1, none⟩ = some (.pointer (some ⟨d, 0, none⟩))) :
    Calls Tryz.prog 27 #[.pointer (some ⟨x, 0, none⟩)] w fun e w' => e = .returned (.bool false) ∧ Below w.heap.size w w' := by
  have h1 := eqMa x
  have h2 := eqD d
  go_enter Tryz.func27, Tryz.ntmps27
  go_wp2
  go_ret
  exact ⟨rfl, Below.refl _ _⟩
/-- A turn laid into a machine. -/
def putT (w : World) (x : Nat) (u : Tu) : World := ((((w.setCell ⟨x, 10, none⟩ (.int .i64 u.kind)).setCell ⟨x, 11, none⟩ (.int .i64 u.key)).setCell ⟨x, 12, none⟩ (.bool u.found)).setCell ⟨x, 13, none⟩ (.int .i64 u.value)).setCell ⟨x, 14, none⟩ (.int .i64 u.entry)
theorem putT_mc {w : World} {x : Nat} {sv : Value} {d : Nat} {m : Ma} (h : Mc w x sv d m) (u : Tu) : Mc (putT w x u) x sv d { m with u := u } := by
  unfold putT
  refine (((((h.put 10 _).put 11 _).put 12 _).put 13 _).put 14 _).congr fun j hj => ?_
  rcases lt17 hj with rfl | rfl | rfl | rfl | rfl | rfl | rfl | rfl | rfl | rfl | rfl | rfl | rfl | rfl | rfl | rfl | rfl <;> rfl
theorem putT_ex (w : World) (x : Nat) (u : Tu) : Ex (fun k => k = x) w (putT w x u) := by
  unfold putT
  exact (((((Ex.refl (fun k => k = x) w).setCell (p := ⟨x, 10, none⟩) (fun _ => rfl) _).setCell (p := ⟨x, 11, none⟩) (fun _ => rfl) _).setCell (p := ⟨x, 12, none⟩) (fun _ => rfl) _).setCell (p := ⟨x, 13, none⟩) (fun _ => rfl) _).setCell (p := ⟨x, 14, none⟩) (fun _ => rfl) _
theorem putT_other (w : World) (x : Nat) (u : Tu) (k : Nat) (hk : k ≠ x) : (putT w x u).heap[k]? = w.heap[k]? := by
  unfold putT
  rw [Below.heap_setCell _ _ _ _ hk, Below.heap_setCell _ _ _ _ hk, Below.heap_setCell _ _ _ _ hk, Below.heap_setCell _ _ _ _ hk, Below.heap_setCell _ _ _ _ hk]

set_option maxRecDepth 100000 in
set_option maxHeartbeats 4000000 in
/-- A machine that waits, or has ended, tells its turn again. -/
theorem step_wait {w : World} {x d : Nat} {sv : Value} {m : Ma} (hm : Mc w x sv d m) (hk : m.u.kind ≠ 0) :
    Calls Tryz.prog 10 #[.pointer (some ⟨x, 0, none⟩)] w fun e w' => e = .returned (tuV m.u) ∧ Below w.heap.size w w' := by
  obtain ⟨w1, hw1⟩ : ∃ y, w.alloc (.cells #[.int .i64 0, .int .i64 0, .bool false, .int .i64 0, .int .i64 0] 45) = y := ⟨_, rfl⟩
  obtain ⟨hX1, hB1, hs1⟩ := tu_zero_blk w hw1
  have hm1 : Mc w1 x sv d m := hm.of hB1 (by omega)
  have lx := hm.lt (by omega)
  have k1 : w1.cell? ⟨x, 1, none⟩ = some (.pointer (some ⟨d, 0, none⟩)) := hm1.c 1 (by omega)
  have C1 := maNone_no k1
  have t0 : (m.u.kind == 0) = false := by rw [beq_eq_false_iff_ne]; exact hk
  have HB1 := Lib.hid hB1
  have HX1 := Lib.hid hX1
  have HM1 := Lib.hid hm1
  have HW1 := Lib.hid hw1
  clear hm hX1 hB1 hm1 hw1 hk k1
  unfold tuV
  go_enter Tryz.func10, Tryz.ntmps10
  go_upto_region 1 with fail
  rw [HW1.out]
  go_wp2_with fail
  refine C1.mono ?_
  rintro e w2 ⟨rfl, hb2⟩
  clear C1
  have hB2 := HB1.out.trans (hb2.mono HB1.out.size)
  have hm2 : Mc w2 x sv d m := HM1.out.of hb2 (by omega)
  have hR2 : Blk w2 w.heap.size 5 _ := HX1.out.of hb2 (by omega)
  have k10 : w2.cell? ⟨x, 10, none⟩ = some (.int .i64 m.u.kind) := hm2.c 10 (by omega)
  have k11 : w2.cell? ⟨x, 11, none⟩ = some (.int .i64 m.u.key) := hm2.c 11 (by omega)
  have k12 : w2.cell? ⟨x, 12, none⟩ = some (.bool m.u.found) := hm2.c 12 (by omega)
  have k13 : w2.cell? ⟨x, 13, none⟩ = some (.int .i64 m.u.value) := hm2.c 13 (by omega)
  have k14 : w2.cell? ⟨x, 14, none⟩ = some (.int .i64 m.u.entry) := hm2.c 14 (by omega)
  have q0 : w2.cell? ⟨w.heap.size, 0, none⟩ = some (.int .i64 0) := hR2.c 0 (by omega)
  have q1 : w2.cell? ⟨w.heap.size, 1, none⟩ = some (.int .i64 0) := hR2.c 1 (by omega)
  have q2 : w2.cell? ⟨w.heap.size, 2, none⟩ = some (.bool false) := hR2.c 2 (by omega)
  have q3 : w2.cell? ⟨w.heap.size, 3, none⟩ = some (.int .i64 0) := hR2.c 3 (by omega)
  have q4 : w2.cell? ⟨w.heap.size, 4, none⟩ = some (.int .i64 0) := hR2.c 4 (by omega)
  have z0 := hR2.z 0
  have z1 := hR2.z 1
  have z2 := hR2.z 2
  have z3 := hR2.z 3
  have z4 := hR2.z 4
  have HR9 : Hid (Blk (putU w2 w.heap.size m.u) w.heap.size 5 _) := put5_blk hR2 _ _ _ _ _
  have HF9 : Hid (Below w.heap.size w (putU w2 w.heap.size m.u)) := hB2.trans (putU_below _ (Nat.le_refl _) _)
  clear hB2 hm2 hR2 hb2
  unfold putU put5 at HR9 HF9
  go_wp2_with fail
  generalize World.setCell (World.setCell (World.setCell (World.setCell (World.setCell w2 _ _) _ _) _ _) _ _) _ _ = wZ at *
  have o0 : wZ.cell? ⟨w.heap.size, 0, none⟩ = some (.int .i64 m.u.kind) := HR9.out.c 0 (by omega)
  have o1 : wZ.cell? ⟨w.heap.size, 1, none⟩ = some (.int .i64 m.u.key) := HR9.out.c 1 (by omega)
  have o2 : wZ.cell? ⟨w.heap.size, 2, none⟩ = some (.bool m.u.found) := HR9.out.c 2 (by omega)
  have o3 : wZ.cell? ⟨w.heap.size, 3, none⟩ = some (.int .i64 m.u.value) := HR9.out.c 3 (by omega)
  have o4 : wZ.cell? ⟨w.heap.size, 4, none⟩ = some (.int .i64 m.u.entry) := HR9.out.c 4 (by omega)
  refine bodyPost_ret (v := .agg #[.int .i64 m.u.kind, .int .i64 m.u.key, .bool m.u.found, .int .i64 m.u.value, .int .i64 m.u.entry]) ?_ rfl ⟨rfl, HF9.out⟩
  simp [results, Tryz.results10, go_sem, o0, o1, o2, o3, o4]

set_option maxRecDepth 100000 in
set_option maxHeartbeats 4000000 in
/-- A machine that can go on does, and keeps its turn. -/
theorem step_go {w : World} {x d : Nat} {sv : Value} {m : Ma} (hm : Mc w x sv d m) (hk : m.u.kind = 0) {Q : World → Tu → Value → Ma → World → Prop}
    (CG : ∀ V, Below w.heap.size w V → w.heap.size < V.heap.size → Calls Tryz.prog 28 #[.pointer (some ⟨x, 0, none⟩)] V fun e w' => ∃ u sv' m', e = .returned (tuV u) ∧ Mc w' x sv' d m' ∧ w'.heap[w.heap.size]? = V.heap[w.heap.size]? ∧ Q V u sv' m' w') :
    Calls Tryz.prog 10 #[.pointer (some ⟨x, 0, none⟩)] w fun e w' => ∃ u sv' m' V wG, e = .returned (tuV u) ∧ Below w.heap.size w V ∧ w.heap.size < V.heap.size ∧ Q V u sv' m' wG ∧ Mc w' x sv' d { m' with u := u } ∧ Ex (fun k => k = x ∨ k = w.heap.size) wG w' := by
  obtain ⟨w1, hw1⟩ : ∃ y, w.alloc (.cells #[.int .i64 0, .int .i64 0, .bool false, .int .i64 0, .int .i64 0] 45) = y := ⟨_, rfl⟩
  obtain ⟨hX1, hB1, hs1⟩ := tu_zero_blk w hw1
  have hm1 : Mc w1 x sv d m := hm.of hB1 (by omega)
  have lx := hm.lt (by omega)
  have hxR : x ≠ w.heap.size := by omega
  have k1 : w1.cell? ⟨x, 1, none⟩ = some (.pointer (some ⟨d, 0, none⟩)) := hm1.c 1 (by omega)
  have C1 := maNone_no k1
  have HB1 := Lib.hid hB1
  have HX1 := Lib.hid hX1
  have HM1 := Lib.hid hm1
  have HW1 := Lib.hid hw1
  have HCG := Lib.hid CG
  clear hm hX1 hB1 hm1 hw1 k1 CG
  unfold tuV at HCG ⊢
  go_enter Tryz.func10, Tryz.ntmps10
  go_upto_region 1 with fail
  rw [HW1.out]
  go_wp2_with fail
  refine C1.mono ?_
  rintro e w2 ⟨rfl, hb2⟩
  clear C1
  have hB2 := HB1.out.trans (hb2.mono HB1.out.size)
  have hm2 : Mc w2 x sv d m := HM1.out.of hb2 (by omega)
  have hR2 : Blk w2 w.heap.size 5 _ := HX1.out.of hb2 (by omega)
  have hs2 : w.heap.size < w2.heap.size := by have := hb2.size; omega
  have k10 : w2.cell? ⟨x, 10, none⟩ = some (.int .i64 0) := by rw [← hk]; exact hm2.c 10 (by omega)
  have C2 := HCG.out w2 hB2 hs2
  have HB2 := Lib.hid hB2
  have HR2 := Lib.hid hR2
  clear hB2 hm2 hR2 hb2 HCG hk
  go_wp2_with fail
  refine C2.mono ?_
  rintro e wG ⟨u, sv', m', rfl, hMG, hRG, hQ⟩
  clear C2 k10
  have hRz : Blk wG w.heap.size 5 _ := HR2.out.same hRG
  have g10 : wG.cell? ⟨x, 10, none⟩ = some (.int .i64 m'.u.kind) := hMG.c 10 (by omega)
  have g11 : wG.cell? ⟨x, 11, none⟩ = some (.int .i64 m'.u.key) := hMG.c 11 (by omega)
  have g12 : wG.cell? ⟨x, 12, none⟩ = some (.bool m'.u.found) := hMG.c 12 (by omega)
  have g13 : wG.cell? ⟨x, 13, none⟩ = some (.int .i64 m'.u.value) := hMG.c 13 (by omega)
  have g14 : wG.cell? ⟨x, 14, none⟩ = some (.int .i64 m'.u.entry) := hMG.c 14 (by omega)
  have z10 := hMG.z 10
  have z11 := hMG.z 11
  have z12 := hMG.z 12
  have z13 := hMG.z 13
  have z14 := hMG.z 14
  have HMT : Hid (Mc (putT wG x u) x sv' d { m' with u := u }) := putT_mc hMG u
  have HXT : Hid (Ex (fun k => k = x) wG (putT wG x u)) := putT_ex wG x u
  have HRT : Hid (Blk (putT wG x u) w.heap.size 5 rZ) := hRz.same (putT_other _ _ _ _ hxR.symm)
  have HQ := Lib.hid hQ
  have hsG := hRz.lt (by omega)
  clear hMG hRG hRz hQ
  unfold putT at HMT HXT HRT
  go_upto_region 5 with fail
  generalize World.setCell (World.setCell (World.setCell (World.setCell (World.setCell wG _ _) _ _) _ _) _ _) _ _ = wT at *
  clear g10 g11 g12 g13 g14 z10 z11 z12 z13 z14
  have k10 : wT.cell? ⟨x, 10, none⟩ = some (.int .i64 u.kind) := HMT.out.c 10 (by omega)
  have k11 : wT.cell? ⟨x, 11, none⟩ = some (.int .i64 u.key) := HMT.out.c 11 (by omega)
  have k12 : wT.cell? ⟨x, 12, none⟩ = some (.bool u.found) := HMT.out.c 12 (by omega)
  have k13 : wT.cell? ⟨x, 13, none⟩ = some (.int .i64 u.value) := HMT.out.c 13 (by omega)
  have k14 : wT.cell? ⟨x, 14, none⟩ = some (.int .i64 u.entry) := HMT.out.c 14 (by omega)
  have q0 : wT.cell? ⟨w.heap.size, 0, none⟩ = some (.int .i64 0) := HRT.out.c 0 (by omega)
  have q1 : wT.cell? ⟨w.heap.size, 1, none⟩ = some (.int .i64 0) := HRT.out.c 1 (by omega)
  have q2 : wT.cell? ⟨w.heap.size, 2, none⟩ = some (.bool false) := HRT.out.c 2 (by omega)
  have q3 : wT.cell? ⟨w.heap.size, 3, none⟩ = some (.int .i64 0) := HRT.out.c 3 (by omega)
  have q4 : wT.cell? ⟨w.heap.size, 4, none⟩ = some (.int .i64 0) := HRT.out.c 4 (by omega)
  have z0 := HRT.out.z 0
  have z1 := HRT.out.z 1
  have z2 := HRT.out.z 2
  have z3 := HRT.out.z 3
  have z4 := HRT.out.z 4
  have HR9 : Hid (Blk (putU wT w.heap.size u) w.heap.size 5 _) := put5_blk HRT.out _ _ _ _ _
  have HM9 : Hid (Mc (putU wT w.heap.size u) x sv' d { m' with u := u }) := HMT.out.same (putU_other _ _ _ _ hxR)
  have HX9 : Hid (Ex (fun k => k = x ∨ k = w.heap.size) wG (putU wT w.heap.size u)) := by
    have h1 : Ex (fun k => k = x ∨ k = w.heap.size) wG wT := HXT.out.mono (fun _ _ e => .inl e)
    have hb := putU_below (B := w.heap.size) (w := wT) w.heap.size (Nat.le_refl _) u
    exact h1.trans ⟨hb.os, hb.tape, hb.output, hb.size, fun k _ hn => putU_other _ _ _ _ (fun e => hn (.inr e))⟩
  unfold putU put5 at HR9 HM9 HX9
  go_wp2_with fail
  generalize World.setCell (World.setCell (World.setCell (World.setCell (World.setCell wT _ _) _ _) _ _) _ _) _ _ = wZ at *
  have o0 : wZ.cell? ⟨w.heap.size, 0, none⟩ = some (.int .i64 u.kind) := HR9.out.c 0 (by omega)
  have o1 : wZ.cell? ⟨w.heap.size, 1, none⟩ = some (.int .i64 u.key) := HR9.out.c 1 (by omega)
  have o2 : wZ.cell? ⟨w.heap.size, 2, none⟩ = some (.bool u.found) := HR9.out.c 2 (by omega)
  have o3 : wZ.cell? ⟨w.heap.size, 3, none⟩ = some (.int .i64 u.value) := HR9.out.c 3 (by omega)
  have o4 : wZ.cell? ⟨w.heap.size, 4, none⟩ = some (.int .i64 u.entry) := HR9.out.c 4 (by omega)
  refine bodyPost_ret (v := .agg #[.int .i64 u.kind, .int .i64 u.key, .bool u.found, .int .i64 u.value, .int .i64 u.entry]) ?_ rfl ⟨u, sv', m', w2, wG, rfl, HB2.out, hs2, HQ.out, HM9.out, HX9.out⟩
  simp [results, Tryz.results10, go_sem, o0, o1, o2, o3, o4]

set_option maxRecDepth 100000 in
set_option maxHeartbeats 4000000 in
/-- A machine that has asked is told. -/
theorem tell_yes {w : World} {x d : Nat} {sv : Value} {m : Ma} (hm : Mc w x sv d m) (hk : m.u.kind = 1) (c : Bool) :
    Calls Tryz.prog 34 #[.pointer (some ⟨x, 0, none⟩), .bool c] w fun e w' => e = .returned (.int .i64 0) ∧ Mc w' x sv d { m with u := Tu.zero, same := c } ∧ Ex (fun k => k = x) w w' := by
  have k1 : w.cell? ⟨x, 1, none⟩ = some (.pointer (some ⟨d, 0, none⟩)) := hm.c 1 (by omega)
  have C1 := maNone_no k1
  have lx := hm.lt (by omega)
  have HM := Lib.hid hm
  clear hm k1
  go_enter Tryz.func34, Tryz.ntmps34
  go_wp2_with fail
  refine C1.mono ?_
  rintro e w2 ⟨rfl, hb2⟩
  clear C1
  have hm2 : Mc w2 x sv d m := HM.out.of hb2 (by omega)
  have k10 : w2.cell? ⟨x, 10, none⟩ = some (.int .i64 1) := by rw [← hk]; exact hm2.c 10 (by omega)
  have k11 : w2.cell? ⟨x, 11, none⟩ = some (.int .i64 m.u.key) := hm2.c 11 (by omega)
  have k12 : w2.cell? ⟨x, 12, none⟩ = some (.bool m.u.found) := hm2.c 12 (by omega)
  have k13 : w2.cell? ⟨x, 13, none⟩ = some (.int .i64 m.u.value) := hm2.c 13 (by omega)
  have k14 : w2.cell? ⟨x, 14, none⟩ = some (.int .i64 m.u.entry) := hm2.c 14 (by omega)
  have z10 := hm2.z 10
  have z11 := hm2.z 11
  have z12 := hm2.z 12
  have z13 := hm2.z 13
  have z14 := hm2.z 14
  have HMT : Hid (Mc (putT w2 x Tu.zero) x sv d { m with u := Tu.zero }) := putT_mc hm2 _
  have HXT : Hid (Ex (fun k => k = x) w (putT w2 x Tu.zero)) := (show Ex (fun k => k = x) w w2 from ex_of hb2).trans (putT_ex w2 x _)
  clear hb2 hm2 HM hk
  unfold putT Tu.zero at HMT HXT
  go_upto_region 6 with fail
  generalize World.setCell (World.setCell (World.setCell (World.setCell (World.setCell w2 _ _) _ _) _ _) _ _) _ _ = wT at *
  clear k10 k11 k12 k13 k14 z10 z11 z12 z13 z14
  have k16 : wT.cell? ⟨x, 16, none⟩ = some (.bool m.same) := HMT.out.c 16 (by omega)
  have z16 := HMT.out.z 16
  have HM9 : Hid (Mc (wT.setCell ⟨x, 16, none⟩ (.bool c)) x sv d { m with u := Tu.zero, same := c }) := (HMT.out.put 16 _).congr fun j hj => by
    rcases lt17 hj with rfl | rfl | rfl | rfl | rfl | rfl | rfl | rfl | rfl | rfl | rfl | rfl | rfl | rfl | rfl | rfl | rfl <;> rfl
  have HX9 := Lib.hid (HXT.out.setCell (p := ⟨x, 16, none⟩) (fun _ => rfl) (.bool c))
  go_wp2_with fail
  go_ret
  exact ⟨rfl, HM9.out, HX9.out⟩
theorem dx_ge {B g gi r h : Nat} (hg : B ≤ g) (hgi : B ≤ gi) (hr : B ≤ r) (hh : B ≤ h) (k : Nat) (hk : dX g gi r h (.slice none 0 0) k) : B ≤ k := by
  rcases hk with y | y | y | y | y
  · omega
  · omega
  · omega
  · omega
  · simp [Value.ownBlock] at y
set_option maxRecDepth 100000 in
/-- New, of a number of pairs that there may be. -/
theorem pnew_any {w : World} {pm : Option Addr} {M : Int → Int → World → Prop} {a b : Int} (hMo : MtOk (.pointer pm) M) (hM : M a b w) (ha : 0 ≤ a ∧ a ≤ 1000000000) (most : Int) (h0 : 0 ≤ most) (h1 : most ≤ 65536) :
    Calls Tryz.prog 5 #[.int .i64 most, .pointer pm] w fun e w' => ∃ d g gi r h, e = .returned (.tuple #[.pointer (some ⟨d, 0, none⟩), .int .i64 0]) ∧ (∀ k, cX d g gi r h (.slice none 0 0) k → w.heap.size ≤ k) ∧ Dc w' d g gi r h (.slice none 0 0) Tb.new (.pointer pm) most 0 ∧ M (a + 1) b w' ∧ Ex (mB (.pointer pm)) w w' := by
  have C1 := new7_any hMo hM ha
  have t0 : decide (most < 0) = false := decide_eq_false (by omega)
  have t1 : decide (65536 < most) = false := decide_eq_false (by omega)
  have HMo := Lib.hid hMo
  clear hMo hM
  go_enter Tryz.func5, Tryz.ntmps5
  go_wp2_with fail
  refine C1.mono ?_
  rintro e w1 ⟨g, gi, r, h, rfl, hg, hgi, hr, hh, hD, hM1, hX1⟩
  clear C1 t0 t1
  obtain ⟨w2, hw2⟩ : ∃ y, w1.alloc (.cells #[.pointer (some ⟨g, 0, none⟩), .int .i64 most, .int .u64 0] 56) = y := ⟨_, rfl⟩
  have hb2 : Below w1.heap.size w1 w2 := by rw [← hw2]; exact (Below.refl _ w1).alloc (Nat.le_refl _) _
  have hB2 : Blk w2 w1.heap.size 3 (dcF g most 0) := by
    rw [← hw2]
    refine (Blk.new w1 _ _).congr fun j hj => ?_
    have : j = 0 ∨ j = 1 ∨ j = 2 := by simp at hj; omega
    rcases this with rfl | rfl | rfl <;> rfl
  have hne : ¬ dX g gi r h (.slice none 0 0) w1.heap.size := fun hk => by have := hD.lt _ hk; omega
  have hnm : ¬ mB (.pointer pm) w1.heap.size := fun hk => by have := HMo.out.lt _ _ _ _ hM1 hk; omega
  have HD : Hid (Dc w2 w1.heap.size g gi r h (.slice none 0 0) Tb.new (.pointer pm) most 0) := ⟨hB2, hD.same fun k hk => hb2.block k (hD.lt k hk), Tb.new_ok, hne, hnm⟩
  have HM2 : Hid (M (a + 1) b w2) := HMo.out.below hM1 hb2
  have HX2 : Hid (Ex (mB (.pointer pm)) w w2) := hX1.next (ex_of hb2 (X := mB (.pointer pm))) (fun _ _ y => y)
  have HS : Hid (∀ k, cX w1.heap.size g gi r h (.slice none 0 0) k → w.heap.size ≤ k) := fun k hk => by
    rcases hk with rfl | hk
    · exact hX1.size
    · exact dx_ge hg hgi hr hh k hk
  have HW2 := Lib.hid hw2
  clear hw2 hb2 hB2 hne hnm hD hM1 hX1
  go_wp2_with fail
  rw [HW2.out]
  refine bodyPost_ret (v := .tuple #[.pointer (some ⟨w1.heap.size, 0, none⟩), .int .i64 0]) ?_ rfl ⟨_, g, gi, r, h, rfl, HS.out, HD.out, HM2.out, HX2.out⟩
  simp [results, Tryz.results5, go_sem]
end Go.Proofs.YtejfmajbggmghaaGreat
