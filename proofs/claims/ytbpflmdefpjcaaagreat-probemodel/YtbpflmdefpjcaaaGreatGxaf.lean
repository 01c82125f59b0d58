/-
  isNone, Step, Tell, Scan, Scans.
  Step of a machine that can go on.
  What a table of adds and kills holds. No program.
  A dictionary of one's own, without a meter, and its machines, as the laws need them.
  A dictionary as a sequence of pairs, with somebody who is asked and changes it meanwhile.
  Rows of ints of one's own.
  The law's model in memory: a row of pairs, what was asked.
  The model's put and out.
  The model's out.
-/
import Derived.Test.YtbpflmdefpjcaaaGreatGxae
import Derived.Test.YtbpflmdefpjcaaaGreatGxaa
import Derived.Defers
import Derived.LoopTactic
import Derived.OwnWalkIn
import Derived.Test.YtbpflmdefpjcaaaGreatGxab
namespace Go.Proofs.YtbpflmdefpjcaaaGreat
open Go.RowKit Go.WideShapes

theorem eqMa (x : Nat) (w : World) : (binOp .eql 45 (.pointer (some ⟨x, 0, none⟩)) (.pointer none)).run Tryz.prog w = .ok (.bool false) w := by kernel_rfl
theorem maNone_no {w : World} {x d : Nat} (k1 : w.cell? ⟨x, 1, none⟩ = some (.pointer (some ⟨d, 0, none⟩))) :
    Calls Tryz.prog 24 #[.pointer (some ⟨x, 0, none⟩)] w fun e w' => e = .returned (.bool false) ∧ Below w.heap.size w w' := by
  have h1 := eqMa x
  have h2 := eqD d
  go_enter Tryz.func24, Tryz.ntmps24
  go_wp2
  go_ret
  exact ⟨rfl, Below.refl _ _⟩
/-- A turn laid into a machine. -/
def putT (w : World) (x : Nat) (u : Tu) : World := ((((w.setCell ⟨x, 10, none⟩ (.int .i64 u.kind)).setCell ⟨x, 11, none⟩ (.int .i64 u.key)).setCell ⟨x, 12, none⟩ (.bool u.found)).setCell ⟨x, 13, none⟩ (.int .i64 u.value)).setCell ⟨x, 14, none⟩ (.int .i64 u.entry)
theorem putT_mc {w : World} {x : Nat} {sv : Value} {d : Nat} {m : Ma} (h : Mc w x sv d m) (u : Tu) : Mc (putT w x u) x sv d { m with u := u } := by
  unfold putT
  refine (((((h.put 10 _).put 11 _).put 12 _).put 13 _).put 14 _).congr fun j hj => ?_
  rcases lt17 hj with rfl | rfl | rfl | rfl | rfl | rfl | rfl | rfl | rfl | rfl | rfl | rfl | rfl | rfl | rfl | rfl | rfl <;> rfl
theorem putT_ex (w : World) (x : Nat) (u : Tu) : Ex (fun k => k = x) w (putT w x u) := by
  unfold putT
  exact (((((Ex.refl (fun k => k = x) w).setCell (p := ⟨x, 10, none⟩) (fun _ => rfl) _).setCell (p := ⟨x, 11, none⟩) (fun _ => rfl) _).setCell (p := ⟨x, 12, none⟩) (fun _ => rfl) _).setCell (p := ⟨x, 13, none⟩) (fun _ => rfl) _).setCell (p := ⟨x, 14, none⟩) (fun _ => rfl) _
theorem putT_other (w : World) (x : Nat) (u : Tu) (k : Nat) (hk : k ≠ x) : (putT w x u).heap[k]? = w.heap[k]? := by
  unfold putT
  rw [Below.heap_setCell _ _ _ _ hk, Below.heap_setCell _ _ _ _ hk, Below.heap_setCell _ _ _ _ hk, Below.heap_setCell _ _ _ _ hk, Below.heap_setCell _ _ _ _ hk]

set_option maxRecDepth 100000 in
set_option maxHeartbeats 4000000 in
/-- A machine that waits, or has ended, tells its turn again. -/
theorem step_wait {w : World} {x d : Nat} {sv : Value} {m : Ma} (hm : Mc w x sv d m) (hk : m.u.kind ≠ 0) :
    Calls Tryz.prog 10 #[.pointer (some ⟨x, 0, none⟩)] w fun e w' => e = .returned (tuV m.u) ∧ Below w.heap.size w w' := by
  obtain ⟨w1, hw1⟩ : ∃ y, w.alloc (.cells #[.int .i64 0, .int .i64 0, .bool false, .int .i64 0, .int .i64 0] 40) = y := ⟨_, rfl⟩
  obtain ⟨hX1, hB1, hs1⟩ := tu_zero_blk w hw1
  have hm1 : Mc w1 x sv d m := hm.of hB1 (by omega)
  have lx := hm.lt (by omega)
  have k1 : w1.cell? ⟨x, 1, none⟩ = some (.pointer (some ⟨d, 0, none⟩)) := hm1.c 1 (by omega)
  have C1 := maNone_no k1
  have t0 : (m.u.kind == 0) = false := by rw [beq_eq_false_iff_ne]; exact hk
  have HB1 := Lib.hid hB1
  have HX1 := Lib.hid hX1
  have HM1 := Lib.hid hm1
  have HW1 := Lib.hid hw1
  clear hm hX1 hB1 hm1 hw1 hk k1
  unfold tuV
  go_enter Tryz.func10, Tryz.ntmps10
  go_upto_region 1 with fail
  rw [HW1.out]
  go_wp2_with fail
  refine C1.mono ?_
  rintro e w2 ⟨rfl, hb2⟩
  clear C1
  have hB2 := HB1.out.trans (hb2.mono HB1.out.size)
  have hm2 : Mc w2 x sv d m := HM1.out.of hb2 (by omega)
  have hR2 : Blk w2 w.heap.size 5 _ := HX1.out.of hb2 (by omega)
  have k10 : w2.cell? ⟨x, 10, none⟩ = some (.int .i64 m.u.kind) := hm2.c 10 (by omega)
  have k11 : w2.cell? ⟨x, 11, none⟩ = some (.int .i64 m.u.key) := hm2.c 11 (by omega)
  have k12 : w2.cell? ⟨x, 12, none⟩ = some (.bool m.u.found) := hm2.c 12 (by omega)
  have k13 : w2.cell? ⟨x, 13, none⟩ = some (.int .i64 m.u.value) := hm2.c 13 (by omega)
  have k14 : w2.cell? ⟨x, 14, none⟩ = some (.int .i64 m.u.entry) := hm2.c 14 (by omega)
  have q0 : w2.cell? ⟨w.heap.size, 0, none⟩ = some (.int .i64 0) := hR2.c 0 (by omega)
  have q1 : w2.cell? ⟨w.heap.size, 1, none⟩ = some (.int .i64 0) := hR2.c 1 (by omega)
  have q2 : w2.cell? ⟨w.heap.size, 2, none⟩ = some (.bool false) := hR2.c 2 (by omega)
  have q3 : w2.cell? ⟨w.heap.size, 3, none⟩ = some (.int .i64 0) := hR2.c 3 (by omega)
  have q4 : w2.cell? ⟨w.heap.size, 4, none⟩ = some (.int .i64 0) := hR2.c 4 (by omega)
  have z0 := hR2.z 0
  have z1 := hR2.z 1
  have z2 := hR2.z 2
  have z3 := hR2.z 3
  have z4 := hR2.z 4
  have HR9 : Hid (Blk (putU w2 w.heap.size m.u) w.heap.size 5 _) := put5_blk hR2 _ _ _ _ _
  have HF9 : Hid (Below w.heap.size w (putU w2 w.heap.size m.u)) := hB2.trans (putU_below _ (Nat.le_refl _) _)
  clear hB2 hm2 hR2 hb2
  unfold putU put5 at HR9 HF9
  go_wp2_with fail
  generalize World.setCell (World.setCell (World.setCell (World.setCell (World.setCell w2 _ _) _ _) _ _) _ _) _ _ = wZ at *
  have o0 : wZ.cell? ⟨w.heap.size, 0, none⟩ = some (.int .i64 m.u.kind) := HR9.out.c 0 (by omega)
  have o1 : wZ.cell? ⟨w.heap.size, 1, none⟩ = some (.int .i64 m.u.key) := HR9.out.c 1 (by omega)
  have o2 : wZ.cell? ⟨w.heap.size, 2, none⟩ = some (.bool m.u.found) := HR9.out.c 2 (by omega)
  have o3 : wZ.cell? ⟨w.heap.size, 3, none⟩ = some (.int .i64 m.u.value) := HR9.out.c 3 (by omega)
  have o4 : wZ.cell? ⟨w.heap.size, 4, none⟩ = some (.int .i64 m.u.entry) := HR9.out.c 4 (by omega)
  refine bodyPost_ret (v := .agg #[.int .i64 m.u.kind, .int .i64 m.u.key, .bool m.u.found, .int .i64 m.u.value, .int .i64 m.u.entry]) ?_ rfl ⟨rfl, HF9.out⟩
  simp [results, Tryz.results10, go_sem, o0, o1, o2, o3, o4]

set_option maxRecDepth 100000 in
set_option maxHeartbeats 4000000 in
/-- A machine that can go on does, and keeps its turn. -/
theorem step_go {w : World} {x d : Nat} {sv : Value} {m : Ma} (hm : Mc w x sv d m) (hk : m.u.kind = 0) {Q : World → Tu → Value → Ma → World → Prop}
    (CG : ∀ V, Below w.heap.size w V → w.heap.size < V.heap.size → Calls Tryz.prog 25 #[.pointer (some ⟨x, 0, none⟩)] V fun e w' => ∃ u sv' m', e = .returned (tuV u) ∧ Mc w' x sv' d m' ∧ w'.heap[w.heap.size]? = V.heap[w.heap.size]? ∧ Q V u sv' m' w') :
    Calls Tryz.prog 10 #[.pointer (some ⟨x, 0, none⟩)] w fun e w' => ∃ u sv' m' V wG, e = .returned (tuV u) ∧ Below w.heap.size w V ∧ w.heap.size < V.heap.size ∧ Q V u sv' m' wG ∧ Mc w' x sv' d { m' with u := u } ∧ Ex (fun k => k = x ∨ k = w.heap.size) wG w' := by
  obtain ⟨w1, hw1⟩ : ∃ y, w.alloc (.cells #[.int .i64 0, .int .i64 0, .bool false, .int .i64 0, .int .i64 0] 40) = y := ⟨_, rfl⟩
  obtain ⟨hX1, hB1, hs1⟩ := tu_zero_blk w hw1
  have hm1 : Mc w1 x sv d m := hm.of hB1 (by omega)
  have lx := hm.lt (by omega)
  have hxR : x ≠ w.heap.size := by omega
  have k1 : w1.cell? ⟨x, 1, none⟩ = some (.pointer (some ⟨d, 0, none⟩)) := hm1.c 1 (by omega)
  have C1 := maNone_no k1
  have HB1 := Lib.hid hB1
  have HX1 := Lib.hid hX1
  have HM1 := Lib.hid hm1
  have HW1 := Lib.hid hw1
  have HCG := Lib.hid CG
  clear hm hX1 hB1 hm1 hw1 k1 CG
  unfold tuV at HCG ⊢
  go_enter Tryz.func10, Tryz.ntmps10
  go_upto_region 1 with fail
  rw [HW1.out]
  go_wp2_with fail
  refine C1.mono ?_
  rintro e w2 ⟨rfl, hb2⟩
  clear C1
  have hB2 := HB1.out.trans (hb2.mono HB1.out.size)
  have hm2 : Mc w2 x sv d m := HM1.out.of hb2 (by omega)
  have hR2 : Blk w2 w.heap.size 5 _ := HX1.out.of hb2 (by omega)
  have hs2 : w.heap.size < w2.heap.size := by have := hb2.size; omega
  have k10 : w2.cell? ⟨x, 10, none⟩ = some (.int .i64 0) := by rw [← hk]; exact hm2.c 10 (by omega)
  have C2 := HCG.out w2 hB2 hs2
  have HB2 := Lib.hid hB2
  have HR2 := Lib.hid hR2
  clear hB2 hm2 hR2 hb2 HCG hk
  go_wp2_with fail
  refine C2.mono ?_
  rintro e wG ⟨u, sv', m', rfl, hMG, hRG, hQ⟩
  clear C2 k10
  have hRz : Blk wG w.heap.size 5 _ := HR2.out.same hRG
  have g10 : wG.cell? ⟨x, 10, none⟩ = some (.int .i64 m'.u.kind) := hMG.c 10 (by omega)
  have g11 : wG.cell? ⟨x, 11, none⟩ = some (.int .i64 m'.u.key) := hMG.c 11 (by omega)
  have g12 : wG.cell? ⟨x, 12, none⟩ = some (.bool m'.u.found) := hMG.c 12 (by omega)
  have g13 : wG.cell? ⟨x, 13, none⟩ = some (.int .i64 m'.u.value) := hMG.c 13 (by omega)
  have g14 : wG.cell? ⟨x, 14, none⟩ = some (.int .i64 m'.u.entry) := hMG.c 14 (by omega)
  have z10 := hMG.z 10
  have z11 := hMG.z 11
  have z12 := hMG.z 12
  have z13 := hMG.z 13
  have z14 := hMG.z 14
  have HMT : Hid (Mc (putT wG x u) x sv' d { m' with u := u }) := putT_mc hMG u
  have HXT : Hid (Ex (fun k => k = x) wG (putT wG x u)) := putT_ex wG x u
  have HRT : Hid (Blk (putT wG x u) w.heap.size 5 rZ) := hRz.same (putT_other _ _ _ _ hxR.symm)
  have HQ := Lib.hid hQ
  have hsG := hRz.lt (by omega)
  clear hMG hRG hRz hQ
  unfold putT at HMT HXT HRT
  go_upto_region 5 with fail
  generalize World.setCell (World.setCell (World.setCell (World.setCell (World.setCell wG _ _) _ _) _ _) _ _) _ _ = wT at *
  clear g10 g11 g12 g13 g14 z10 z11 z12 z13 z14
  have k10 : wT.cell? ⟨x, 10, none⟩ = some (.int .i64 u.kind) := HMT.out.c 10 (by omega)
  have k11 : wT.cell? ⟨x, 11, none⟩ = some (.int .i64 u.key) := HMT.out.c 11 (by omega)
  have k12 : wT.cell? ⟨x, 12, none⟩ = some (.bool u.found) := HMT.out.c 12 (by omega)
  have k13 : wT.cell? ⟨x, 13, none⟩ = some (.int .i64 u.value) := HMT.out.c 13 (by omega)
  have k14 : wT.cell? ⟨x, 14, none⟩ = some (.int .i64 u.entry) := HMT.out.c 14 (by omega)
  have q0 : wT.cell? ⟨w.heap.size, 0, none⟩ = some (.int .i64 0) := HRT.out.c 0 (by omega)
  have q1 : wT.cell? ⟨w.heap.size, 1, none⟩ = some (.int .i64 0) := HRT.out.c 1 (by omega)
  have q2 : wT.cell? ⟨w.heap.size, 2, none⟩ = some (.bool false) := HRT.out.c 2 (by omega)
  have q3 : wT.cell? ⟨w.heap.size, 3, none⟩ = some (.int .i64 0) := HRT.out.c 3 (by omega)
  have q4 : wT.cell? ⟨w.heap.size, 4, none⟩ = some (.int .i64 0) := HRT.out.c 4 (by omega)
  have z0 := HRT.out.z 0
  have z1 := HRT.out.z 1
  have z2 := HRT.out.z 2
  have z3 := HRT.out.z 3
  have z4 := HRT.out.z 4
  have HR9 : Hid (Blk (putU wT w.heap.size u) w.heap.size 5 _) := put5_blk HRT.out _ _ _ _ _
  have HM9 : Hid (Mc (putU wT w.heap.size u) x sv' d { m' with u := u }) := HMT.out.same (putU_other _ _ _ _ hxR)
  have HX9 : Hid (Ex (fun k => k = x ∨ k = w.heap.size) wG (putU wT w.heap.size u)) := by
    have h1 : Ex (fun k => k = x ∨ k = w.heap.size) wG wT := HXT.out.mono (fun _ _ e => .inl e)
    have hb := putU_below (B := w.heap.size) (w := wT) w.heap.size (Nat.le_refl _) u
    exact h1.trans ⟨hb.os, hb.tape, hb.output, hb.size, fun k _ hn => putU_other _ _ _ _ (fun e => hn (.inr e))⟩
  unfold putU put5 at HR9 HM9 HX9
  go_wp2_with fail
  generalize World.setCell (World.setCell (World.setCell (World.setCell (World.setCell wT _ _) _ _) _ _) _ _) _ _ = wZ at *
  have o0 : wZ.cell? ⟨w.heap.size, 0, none⟩ = some (.int .i64 u.kind) := HR9.out.c 0 (by omega)
  have o1 : wZ.cell? ⟨w.heap.size, 1, none⟩ = some (.int .i64 u.key) := HR9.out.c 1 (by omega)
  have o2 : wZ.cell? ⟨w.heap.size, 2, none⟩ = some (.bool u.found) := HR9.out.c 2 (by omega)
  have o3 : wZ.cell? ⟨w.heap.size, 3, none⟩ = some (.int .i64 u.value) := HR9.out.c 3 (by omega)
  have o4 : wZ.cell? ⟨w.heap.size, 4, none⟩ = some (.int .i64 u.entry) := HR9.out.c 4 (by omega)
  refine bodyPost_ret (v := .agg #[.int .i64 u.kind, .int .i64 u.key, .bool u.found, .int .i64 u.value, .int .i64 u.entry]) ?_ rfl ⟨u, sv', m', w2, wG, rfl, HB2.out, hs2, HQ.out, HM9.out, HX9.out⟩
  simp [results, Tryz.results10, go_sem, o0, o1, o2, o3, o4]

set_option maxRecDepth 100000 in
set_option maxHeartbeats 4000000 in
/-- A machine that has asked is told. -/
theorem tell_yes {w : World} {x d : Nat} {sv : Value} {m : Ma} (hm : Mc w x sv d m) (hk : m.u.kind = 1) (c : Bool) :
    Calls Tryz.prog 11 #[.pointer (some ⟨x, 0, none⟩), .bool c] w fun e w' => e = .returned (.int .i64 0) ∧ Mc w' x sv d { m with u := Tu.zero, same := c } ∧ Ex (fun k => k = x) w w' := by
  have k1 : w.cell? ⟨x, 1, none⟩ = some (.pointer (some ⟨d, 0, none⟩)) := hm.c 1 (by omega)
  have C1 := maNone_no k1
  have lx := hm.lt (by omega)
  have HM := Lib.hid hm
  clear hm k1
  go_enter Tryz.func11, Tryz.ntmps11
  go_wp2_with fail
  refine C1.mono ?_
  rintro e w2 ⟨rfl, hb2⟩
  clear C1
  have hm2 : Mc w2 x sv d m := HM.out.of hb2 (by omega)
  have k10 : w2.cell? ⟨x, 10, none⟩ = some (.int .i64 1) := by rw [← hk]; exact hm2.c 10 (by omega)
  have k11 : w2.cell? ⟨x, 11, none⟩ = some (.int .i64 m.u.key) := hm2.c 11 (by omega)
  have k12 : w2.cell? ⟨x, 12, none⟩ = some (.bool m.u.found) := hm2.c 12 (by omega)
  have k13 : w2.cell? ⟨x, 13, none⟩ = some (.int .i64 m.u.value) := hm2.c 13 (by omega)
  have k14 : w2.cell? ⟨x, 14, none⟩ = some (.int .i64 m.u.entry) := hm2.c 14 (by omega)
  have z10 := hm2.z 10
  have z11 := hm2.z 11
  have z12 := hm2.z 12
  have z13 := hm2.z 13
  have z14 := hm2.z 14
  have HMT : Hid (Mc (putT w2 x Tu.zero) x sv d { m with u := Tu.zero }) := putT_mc hm2 _
  have HXT : Hid (Ex (fun k => k = x) w (putT w2 x Tu.zero)) := (show Ex (fun k => k = x) w w2 from ex_of hb2).trans (putT_ex w2 x _)
  clear hb2 hm2 HM hk
  unfold putT Tu.zero at HMT HXT
  go_upto_region 6 with fail
  generalize World.setCell (World.setCell (World.setCell (World.setCell (World.setCell w2 _ _) _ _) _ _) _ _) _ _ = wT at *
  clear k10 k11 k12 k13 k14 z10 z11 z12 z13 z14
  have k16 : wT.cell? ⟨x, 16, none⟩ = some (.bool m.same) := HMT.out.c 16 (by omega)
  have z16 := HMT.out.z 16
  have HM9 : Hid (Mc (wT.setCell ⟨x, 16, none⟩ (.bool c)) x sv d { m with u := Tu.zero, same := c }) := (HMT.out.put 16 _).congr fun j hj => by
    rcases lt17 hj with rfl | rfl | rfl | rfl | rfl | rfl | rfl | rfl | rfl | rfl | rfl | rfl | rfl | rfl | rfl | rfl | rfl <;> rfl
  have HX9 := Lib.hid (HXT.out.setCell (p := ⟨x, 16, none⟩) (fun _ => rfl) (.bool c))
  go_wp2_with fail
  go_ret
  exact ⟨rfl, HM9.out, HX9.out⟩
theorem scan_any {w : World} {x d s : Nat} {m : Ma} {n : Int} (hm : Mc w x (.pointer (some ⟨s, 0, none⟩)) d m) (k7 : w.cell? ⟨s, 7, none⟩ = some (.int .i64 n)) :
    Calls Tryz.prog 16 #[.pointer (some ⟨x, 0, none⟩)] w fun e w' => e = .returned (.int .i64 n) ∧ w' = w := by
  have h1 := eqMa x
  have k0 : w.cell? ⟨x, 0, none⟩ = some (.pointer (some ⟨s, 0, none⟩)) := hm.c 0 (by omega)
  have CV := visited_any k7
  clear hm k7
  go_enter Tryz.func16, Tryz.ntmps16
  go_wp2_with fail
  refine CV.mono ?_
  rintro e w1 ⟨rfl, rfl⟩
  go_wp2
  go_ret
  exact ⟨rfl, rfl⟩
theorem dx_ge {B g gi r h : Nat} (hg : B ≤ g) (hgi : B ≤ gi) (hr : B ≤ r) (hh : B ≤ h) (k : Nat) (hk : dX g gi r h (.slice none 0 0) k) : B ≤ k := by
  rcases hk with y | y | y | y | y
  · omega
  · omega
  · omega
  · omega
  · simp [Value.ownBlock] at y
set_option maxRecDepth 100000 in
/-- New, of a number of pairs that there may be. -/
theorem pnew_any {w : World} {pm : Option Addr} {M : Int → Int → World → Prop} {a b : Int} (hMo : MtOk (.pointer pm) M) (hM : M a b w) (ha : 0 ≤ a ∧ a ≤ 1000000000) (most : Int) (h0 : 0 ≤ most) (h1 : most ≤ 65536) :
    Calls Tryz.prog 5 #[.int .i64 most, .pointer pm] w fun e w' => ∃ d g gi r h, e = .returned (.tuple #[.pointer (some ⟨d, 0, none⟩), .int .i64 0]) ∧ (∀ k, cX d g gi r h (.slice none 0 0) k → w.heap.size ≤ k) ∧ Dc w' d g gi r h (.slice none 0 0) Tb.new (.pointer pm) most 0 ∧ M (a + 1) b w' ∧ Ex (mB (.pointer pm)) w w' := by
  have C1 := new7_any hMo hM ha
  have t0 : decide (most < 0) = false := decide_eq_false (by omega)
  have t1 : decide (65536 < most) = false := decide_eq_false (by omega)
  have HMo := Lib.hid hMo
  clear hMo hM
  go_enter Tryz.func5, Tryz.ntmps5
  go_wp2_with fail
  refine C1.mono ?_
  rintro e w1 ⟨g, gi, r, h, rfl, hg, hgi, hr, hh, hD, hM1, hX1⟩
  clear C1 t0 t1
  obtain ⟨w2, hw2⟩ : ∃ y, w1.alloc (.cells #[.pointer (some ⟨g, 0, none⟩), .int .i64 most, .int .u64 0] 54) = y := ⟨_, rfl⟩
  have hb2 : Below w1.heap.size w1 w2 := by rw [← hw2]; exact (Below.refl _ w1).alloc (Nat.le_refl _) _
  have hB2 : Blk w2 w1.heap.size 3 (dcF g most 0) := by
    rw [← hw2]
    refine (Blk.new w1 _ _).congr fun j hj => ?_
    have : j = 0 ∨ j = 1 ∨ j = 2 := by simp at hj; omega
    rcases this with rfl | rfl | rfl <;> rfl
  have hne : ¬ dX g gi r h (.slice none 0 0) w1.heap.size := fun hk => by have := hD.lt _ hk; omega
  have hnm : ¬ mB (.pointer pm) w1.heap.size := fun hk => by have := HMo.out.lt _ _ _ _ hM1 hk; omega
  have HD : Hid (Dc w2 w1.heap.size g gi r h (.slice none 0 0) Tb.new (.pointer pm) most 0) := ⟨hB2, hD.same fun k hk => hb2.block k (hD.lt k hk), Tb.new_ok, hne, hnm⟩
  have HM2 : Hid (M (a + 1) b w2) := HMo.out.below hM1 hb2
  have HX2 : Hid (Ex (mB (.pointer pm)) w w2) := hX1.next (ex_of hb2 (X := mB (.pointer pm))) (fun _ _ y => y)
  have HS : Hid (∀ k, cX w1.heap.size g gi r h (.slice none 0 0) k → w.heap.size ≤ k) := fun k hk => by
    rcases hk with rfl | hk
    · exact hX1.size
    · exact dx_ge hg hgi hr hh k hk
  have HW2 := Lib.hid hw2
  clear hw2 hb2 hB2 hne hnm hD hM1 hX1
  go_wp2_with fail
  rw [HW2.out]
  refine bodyPost_ret (v := .tuple #[.pointer (some ⟨w1.heap.size, 0, none⟩), .int .i64 0]) ?_ rfl ⟨_, g, gi, r, h, rfl, HS.out, HD.out, HM2.out, HX2.out⟩
  simp [results, Tryz.results5, go_sem]
end Go.Proofs.YtbpflmdefpjcaaaGreat
namespace Go.Proofs.YtbpflmdefpjcaaaGreat
open Go.RowKit Go.WideShapes

/-- What Step tells and leaves, its Seeker at place i. -/
def SoR (w : World) (d g gi r h : Nat) (ev : Value) (t : Tb) (mv : Value) (M : Int → Int → World → Prop) (x : Nat) (sv : Value) (a b : Int) (most : Int) (v : Nat) (m1 : Ma) (s i : Nat) (told : Int) (f : Nat) (u : Tu) (w' : World) : Prop :=
  ∃ j, i ≤ j ∧ j ≤ f ∧
    ((∃ n : Nat, Of t.es m1.hash n ∧ told < (n : Int) ∧ ((∀ k, Of t.es m1.hash k → told < (k : Int) → n ≤ k) ∧ t.c (trl (uw m1.hash) t.L j) = (n : Int) ∧ Told t.es t.L t.c m1.hash j told) ∧
        (((nth t.es n).key = m1.key ∧ u = ⟨2, 0, true, (nth t.es n).value, (n : Int)⟩ ∧ Cm w d g gi r h ev mv M x sv a (b + ((j + 1 - i : Nat) : Int)) most (hitN m1.goal v) (hitT m1 t n) w' gi r h ev ∧ Mc w' x (.pointer (some ⟨s, 0, none⟩)) d { m1 with u := u } ∧ Vi w' s (j + 1)) ∨
         ((nth t.es n).key ≠ m1.key ∧ u = ⟨1, (nth t.es n).key, false, 0, 0⟩ ∧ Cm w d g gi r h ev mv M x sv a (b + ((j + 1 - i : Nat) : Int)) most v t w' gi r h ev ∧ Mc w' x (.pointer (some ⟨s, 0, none⟩)) d { m1 with asked := (n : Int), u := u } ∧ Sw w' d g gi r h ev t mv x s m1.hash (j + 1) (n : Int) f))) ∨
     (j = f ∧ (∀ n, Of t.es m1.hash n → (n : Int) ≤ told) ∧ MsR m1 t most u (fun da dv t' => ∃ gi' r' h' ev', Cm w d g gi r h ev mv M x sv (a + da) (b + ((j + 1 - i : Nat) : Int)) most (v + dv) t' w' gi' r' h' ev' ∧ ¬ cX d g gi' r' h' ev' s) ∧ Mc w' x (.pointer (some ⟨s, 0, none⟩)) d { m1 with u := u } ∧ Vi w' s (j + 1)))
/-- What goOn does, the machine told apart. -/
def GoQ (w : World) (d g gi r h : Nat) (ev : Value) (t : Tb) (mv : Value) (M : Int → Int → World → Prop) (x : Nat) (sv : Value) (a b : Int) (most : Int) (v : Nat) (m1 : Ma) (s i : Nat) (told : Int) (f : Nat) (u : Tu) (m' : Ma) (w' : World) : Prop :=
  ∃ j, i ≤ j ∧ j ≤ f ∧
    ((∃ n : Nat, Of t.es m1.hash n ∧ told < (n : Int) ∧ ((∀ k, Of t.es m1.hash k → told < (k : Int) → n ≤ k) ∧ t.c (trl (uw m1.hash) t.L j) = (n : Int) ∧ Told t.es t.L t.c m1.hash j told) ∧
        (((nth t.es n).key = m1.key ∧ u = ⟨2, 0, true, (nth t.es n).value, (n : Int)⟩ ∧ Cm w d g gi r h ev mv M x sv a (b + ((j + 1 - i : Nat) : Int)) most (hitN m1.goal v) (hitT m1 t n) w' gi r h ev ∧ m' = m1 ∧ Vi w' s (j + 1)) ∨
         ((nth t.es n).key ≠ m1.key ∧ u = ⟨1, (nth t.es n).key, false, 0, 0⟩ ∧ Cm w d g gi r h ev mv M x sv a (b + ((j + 1 - i : Nat) : Int)) most v t w' gi r h ev ∧ m' = { m1 with asked := (n : Int) } ∧ Sw w' d g gi r h ev t mv x s m1.hash (j + 1) (n : Int) f))) ∨
     (j = f ∧ (∀ n, Of t.es m1.hash n → (n : Int) ≤ told) ∧ MsR m1 t most u (fun da dv t' => ∃ gi' r' h' ev', Cm w d g gi r h ev mv M x sv (a + da) (b + ((j + 1 - i : Nat) : Int)) most (v + dv) t' w' gi' r' h' ev' ∧ ¬ cX d g gi' r' h' ev' s) ∧ m' = m1 ∧ Vi w' s (j + 1)))
theorem GoR.q {w : World} {d g gi r h : Nat} {ev : Value} {t : Tb} {mv : Value} {M : Int → Int → World → Prop} {x : Nat} {sv : Value} {a b : Int} {most : Int} {v : Nat} {m1 : Ma} {s i : Nat} {told : Int} {f : Nat} {u : Tu} {w' : World} (h' : GoR w d g gi r h ev t mv M x sv a b most v m1 s i told f u w') : ∃ m', Mc w' x (.pointer (some ⟨s, 0, none⟩)) d m' ∧ GoQ w d g gi r h ev t mv M x sv a b most v m1 s i told f u m' w' ∧ ∃ a' b' v' t' gi' r' h' ev', Cm w d g gi r h ev mv M x sv a' b' most v' t' w' gi' r' h' ev' := by
  obtain ⟨j, h1, h2, (⟨n, h3, h4, h5, (⟨h6, h7, h8, h9, h10⟩ | ⟨h6, h7, h8, h9, h10⟩)⟩ | ⟨h3, h4, h5, h6, h7⟩)⟩ := h'
  · exact ⟨_, h9, ⟨j, h1, h2, .inl ⟨n, h3, h4, h5, .inl ⟨h6, h7, h8, rfl, h10⟩⟩⟩, _, _, _, _, _, _, _, _, h8⟩
  · exact ⟨_, h9, ⟨j, h1, h2, .inl ⟨n, h3, h4, h5, .inr ⟨h6, h7, h8, rfl, h10⟩⟩⟩, _, _, _, _, _, _, _, _, h8⟩
  · obtain ⟨_, _, _, _, _, _, _, hc, _⟩ := h5.any
    exact ⟨_, h6, ⟨j, h1, h2, .inr ⟨h3, h4, h5, rfl, h7⟩⟩, _, _, _, _, _, _, _, _, hc⟩
/-- The same from an older world, and with the turn laid down. -/
theorem Cm.fin {w V wG w' : World} {d g gi r h : Nat} {ev : Value} {t : Tb} {mv : Value} {M : Int → Int → World → Prop} {x : Nat} {sv : Value} {a b a0 b0 : Int} {most : Int} {v v0 : Nat} {t' : Tb} {gi' r' h' : Nat} {ev' : Value} {m : Ma} (hC : Dc w d g gi r h ev t mv most v0) (hMo : MtOk mv M) (hM : M a0 b0 w) (hm : Mx w d g gi r h ev mv x sv m) (hV : Below w.heap.size w V) (hR : w.heap.size < V.heap.size) (c : Cm V d g gi r h ev mv M x sv a b most v t' wG gi' r' h' ev') (hx : Ex (fun k => k = x ∨ k = w.heap.size) wG w') : Cm w d g gi r h ev mv M x sv a b most v t' w' gi' r' h' ev' := by
  have lx := hm.mc.lt (by omega)
  have hlm := fun k hk => hMo.lt a0 b0 w k hM hk
  refine ⟨c.dc.same fun k hk => hx.block k (c.dc.lt k hk) (fun y => ?_), hMo.same _ _ _ _ c.m fun k hk => hx.block k (Nat.lt_of_lt_of_le (hlm k hk) (Nat.le_trans hV.size c.ex.size)) (fun y => ?_), fun j hj => (c.fx j hj).elim .inl (fun z => .inr (by omega)), ?_⟩
  · rcases hk with hk | hk
    · have := hC.hd.lt (by omega)
      rcases y with y | y
      · exact hm.ne (.inl (y ▸ hk))
      · omega
    · rcases c.fx k hk with z | z
      · have := hC.lt k (.inr z)
        rcases y with y | y
        · exact hm.ne (.inr (y ▸ z))
        · omega
      · omega
  · have := hlm k hk
    rcases y with y | y
    · exact hm.nm (y ▸ hk)
    · omega
  · refine ((show Ex (fun k => cX d g gi r h ev k ∨ mB mv k ∨ k = x ∨ mB sv k) w V from ex_of hV).next c.ex (fun _ _ y => y)).next hx (fun k hk y => ?_)
    rcases y with y | y
    · exact .inr (.inr (.inl y))
    · omega
theorem Way.below {w V : World} {d g gi r h : Nat} {ev : Value} {t : Tb} {mv : Value} {v x : Nat} {sv : Value} {m : Ma} (hW : Way w d g gi r h ev t mv v x sv m) (hb : Below w.heap.size w V) : Way V d g gi r h ev t mv v x sv m := by
  rcases hW with y | ⟨y1, y2, y3, s, i, told, f, y4, y5⟩
  · exact .inl y
  · exact .inr ⟨y1, y2, y3, s, i, told, f, y4, y5.of (hb.block s (y5.sk.lt (by omega)))⟩
theorem St0.up {w V : World} {d g gi r h : Nat} {ev : Value} {t : Tb} {mv : Value} {v x : Nat} {sv : Value} {m : Ma} {s i : Nat} {told : Int} {f sc : Nat} (hb : Below w.heap.size w V) (hS : St0 V d g gi r h ev t mv v x sv m s i told f sc) (hsv : ∀ k, mB sv k → k < w.heap.size) : St0 w d g gi r h ev t mv v x sv m s i told f sc ∧ (s < w.heap.size ∨ V.heap.size ≤ s) := by
  rcases hS with ⟨y1, y2, y3, y4, y5, y6⟩ | ⟨y1, y2, y3, y4⟩
  · exact ⟨.inl ⟨y1, y2, y3, y4, Nat.le_trans hb.size y5, y6⟩, .inr y5⟩
  · have hl : s < w.heap.size := hsv s (by rw [y2]; rfl)
    exact ⟨.inr ⟨y1, y2, y3, y4.of (hb.block s hl).symm⟩, .inl hl⟩
theorem step_next {w : World} {d g gi r h : Nat} {ev : Value} {t : Tb} {mv : Value} {M : Int → Int → World → Prop} {a b : Int} {most : Int} {v : Nat} (hC : Dc w d g gi r h ev t mv most v) (hMo : MtOk mv M) (hMv : MvOk mv M) (hM : M a b w) (hm1 : t.made ≤ 1000000) (ha : 0 ≤ a ∧ a ≤ 1000000000) (hb : 0 ≤ b ∧ b ≤ 100000000000) (ht : t.turn ≤ 1000000) (hbi : t.births < 100000) (hv : v ≤ 1000000000) {x : Nat} {sv : Value} {m : Ma} (hm : Mx w d g gi r h ev mv x sv m) (hk : m.u.kind = 0) (hsv : ∀ k, mB sv k → k < w.heap.size) (hsc : m.scans ≤ 1000000) (hver : m.ver ≤ 1000000000) (hW : Way w d g gi r h ev t mv v x sv m) :
    Calls Tryz.prog 10 #[.pointer (some ⟨x, 0, none⟩)] w fun e w' => ∃ u s i told f sc, e = .returned (tuV u) ∧ St0 w d g gi r h ev t mv v x sv m s i told f sc ∧ SoR w d g gi r h ev t mv M x sv a b most v { m with ver := v, scans := sc } s i told f u w' := by
  have hlm := fun k hk => hMo.lt a b w k hM hk
  have lx := hm.mc.lt (by omega)
  refine (step_go hm.mc hk (Q := fun V u sv' m' wG => ∃ s i told f sc, sv' = .pointer (some ⟨s, 0, none⟩) ∧ St0 V d g gi r h ev t mv v x sv m s i told f sc ∧ GoQ V d g gi r h ev t mv M x sv a b most v { m with ver := v, scans := sc } s i told f u m' wG) fun V hV hR => ?_).mono ?_
  · refine (goOn_next (hC.below hV) hMo hMv (hMo.below hM hV) hm1 ha hb ht hbi hv (hm.below hV) hsc hver (hW.below hV)).mono ?_
    rintro e w' ⟨u, s, i, told, f, sc, rfl, hS, hG⟩
    obtain ⟨m', q1, q2, _, _, _, _, _, _, _, _, hc⟩ := hG.q
    refine ⟨u, _, m', rfl, q1, hc.ex.block _ hR (fun y => ?_), s, i, told, f, sc, rfl, hS, q2⟩
    rcases y with y | y | y | y
    · have := hC.lt _ y; omega
    · have := hlm _ y; omega
    · omega
    · have := hsv _ y; omega
  · rintro e w' ⟨u, sv', m', V, wG, rfl, hV, hR, ⟨s, i, told, f, sc, rfl, hS, hG⟩, hMc, hx⟩
    obtain ⟨hS', hsw⟩ := hS.up hV hsv
    refine ⟨u, s, i, told, f, sc, rfl, hS', ?_⟩
    have fin : ∀ {a' b' : Int} {v' : Nat} {t' : Tb} {gi' r' h' : Nat} {ev' : Value}, Cm V d g gi r h ev mv M x sv a' b' most v' t' wG gi' r' h' ev' → Cm w d g gi r h ev mv M x sv a' b' most v' t' w' gi' r' h' ev' := fun c => Cm.fin hC hMo hM hm hV hR c hx
    have hsR : s ≠ w.heap.size := by rcases hsw with y | y <;> omega
    have hsx : ∀ {n : Nat}, Vi wG s n → s ≠ x → Vi w' s n := fun hv hne => hv.same (hx.block s (by obtain ⟨_, _, _, _, _, _, q⟩ := hv; exact q.lt (by omega)) (fun y => y.elim hne hsR))
    have hnx : s ≠ x := by
      rcases hsw with y | y
      · rcases hS' with ⟨_, _, _, _, z, _⟩ | ⟨_, _, _, z⟩
        · omega
        · exact z.nx
      · have := hV.size; omega
    obtain ⟨j, h1, h2, (⟨n, h3, h4, h5, (⟨h6, h7, h8, rfl, h10⟩ | ⟨h6, h7, h8, rfl, h10⟩)⟩ | ⟨h3, h4, h5, rfl, h7⟩)⟩ := hG
    · exact ⟨j, h1, h2, .inl ⟨n, h3, h4, h5, .inl ⟨h6, h7, fin h8, hMc, hsx h10 hnx⟩⟩⟩
    · exact ⟨j, h1, h2, .inl ⟨n, h3, h4, h5, .inr ⟨h6, h7, fin h8, hMc, h10.of (hx.block s (h10.sk.lt (by omega)) (fun y => y.elim hnx hsR))⟩⟩⟩
    · exact ⟨j, h1, h2, .inr ⟨h3, h4, h5.mono (fun _ _ _ ⟨gi', r', h', ev', c, hn⟩ => ⟨gi', r', h', ev', fin c, hn⟩), hMc, hsx h7 hnx⟩⟩
/-- Step where it was told that it is the same. -/
theorem step_told {w : World} {d g gi r h : Nat} {ev : Value} {t : Tb} {mv : Value} {M : Int → Int → World → Prop} {a b : Int} {most : Int} {v : Nat} (hC : Dc w d g gi r h ev t mv most v) (hMo : MtOk mv M) (hM : M a b w) (ht : t.turn ≤ 1000000) (hv : v ≤ 1000000000) {x : Nat} {sv : Value} {m : Ma} (hm : Mx w d g gi r h ev mv x sv m) (hk : m.u.kind = 0) (hsv : ∀ k, mB sv k → k < w.heap.size) (h0 : m.scans ≠ 0) (hver : m.ver = v) (hsame : m.same = true) (n : Nat) (hask : m.asked = (n : Int)) (hn : n < t.es.length) (hl : (nth t.es n).live = true) :
    Calls Tryz.prog 10 #[.pointer (some ⟨x, 0, none⟩)] w fun e w' => e = .returned (tuV ⟨2, 0, true, (nth t.es n).value, (n : Int)⟩) ∧ Cm w d g gi r h ev mv M x sv a b most (hitN m.goal v) (hitT m t n) w' gi r h ev ∧ Mc w' x sv d { m with u := ⟨2, 0, true, (nth t.es n).value, (n : Int)⟩ } ∧ ∀ s, s < w.heap.size → ¬ cX d g gi r h ev s → ¬ mB mv s → s ≠ x → w'.heap[s]? = w.heap[s]? := by
  have hlm := fun k hk => hMo.lt a b w k hM hk
  have lx := hm.mc.lt (by omega)
  refine (step_go hm.mc hk (Q := fun V u sv' m' wG => u = ⟨2, 0, true, (nth t.es n).value, (n : Int)⟩ ∧ sv' = sv ∧ m' = m ∧ Cm V d g gi r h ev mv M x sv a b most (hitN m.goal v) (hitT m t n) wG gi r h ev ∧ Ex (fun k => cX d g gi r h ev k ∨ mB mv k) V wG) fun V hV hR => ?_).mono ?_
  · refine (goOn_told (hC.below hV) hMo (hMo.below hM hV) ht hv (hm.below hV) h0 hver hsame n hask hn hl).mono ?_
    rintro e w' ⟨rfl, hc, hmc, hx⟩
    refine ⟨_, _, _, rfl, hmc, hx.block _ hR (fun y => ?_), rfl, rfl, rfl, hc, hx⟩
    rcases y with y | y
    · have := hC.lt _ y; omega
    · have := hlm _ y; omega
  · rintro e w' ⟨u, sv', m', V, wG, rfl, hV, hR, ⟨rfl, rfl, rfl, hc, hxG⟩, hMc, hx⟩
    refine ⟨rfl, Cm.fin hC hMo hM hm hV hR hc hx, hMc, fun s hs h1 h2 h3 => ?_⟩
    have hsV : s < V.heap.size := Nat.lt_of_lt_of_le hs hV.size
    rw [hx.block s (Nat.lt_of_lt_of_le hsV hxG.size) (fun y => y.elim h3 (fun z => by omega)), hxG.block s hsV (fun y => y.elim h1 h2), hV.block s hs]
theorem SgV.keep {B B' : Nat} {w w' : World} {t : Tb} {hc : Nat} {ev' : Value} (h : SgV B w t hc ev') (hB : B' ≤ B) (e : ∀ k, B ≤ k → w'.heap[k]? = w.heap[k]?) : SgV B' w' t hc ev' := by
  refine ⟨h.row.same (e _ h.hB), ?_, Nat.le_trans hB h.hB, h.ne⟩
  have h1 := h.es.es.same (w' := w') (fun k hk => e k (h.es.ge k hk))
  have h2 := h.es.ge
  refine ⟨h1.1, ?_⟩
  rcases h1.2 with h0 | ⟨g, cap, cur, e', q1, q2⟩
  · exact .inl h0
  · exact .inr ⟨g, cap, cur, e', Nat.le_trans hB (h2 g (by rw [e']; rfl)), q2⟩
set_option maxRecDepth 100000 in
theorem psight_any {w : World} {d g gi r h : Nat} {ev : Value} {t : Tb} {mv : Value} {most : Int} {v : Nat} (hC : Dc w d g gi r h ev t mv most v) :
    Calls Tryz.prog 17 #[.pointer (some ⟨d, 0, none⟩)] w fun e w' => ∃ hc ev', e = .returned (sgV t hc ev') ∧ SgV w.heap.size w' t hc ev' ∧ Below w.heap.size w w' := by
  have hlen : t.es.length ≤ 100000 := Nat.le_trans hC.ok.few hC.ok.all
  obtain ⟨w1, hw1⟩ : ∃ x, w.alloc (.cells #[.int .i64 0, .int .i64 0, .slice none 0 0, .slice none 0 0, .int .i64 0, .int .i64 0, .int .i64 0] 64) = x := ⟨_, rfl⟩
  have hB1 : Below w.heap.size w w1 := by rw [← hw1]; exact (Below.refl _ w).alloc (Nat.le_refl _) _
  have hR1 : Blk w1 w.heap.size 7 zS := by
    rw [← hw1]
    refine (Blk.new w _ _).congr fun j hj => ?_
    have : j = 0 ∨ j = 1 ∨ j = 2 ∨ j = 3 ∨ j = 4 ∨ j = 5 ∨ j = 6 := by simp at hj; omega
    rcases this with rfl | rfl | rfl | rfl | rfl | rfl | rfl <;> rfl
  have hC1 := hC.below hB1
  have C1 := kept_yes (hC1.hd.c 0 (by omega))
  have C2 := dsight_any hC1.dt hlen
  have hl1 := hR1.lt (by omega)
  have HB1 := Lib.hid hB1
  have HR1 := Lib.hid hR1
  have HW1 := Lib.hid hw1
  clear hC hC1 hB1 hR1 hw1
  unfold sgV at C2 ⊢
  generalize 2 ^ t.L = S at C2 ⊢
  go_enter Tryz.func17, Tryz.ntmps17
  go_upto_region 1 with fail
  rw [HW1.out]
  go_wp2_with fail
  refine C1.mono ?_
  rintro e w2 ⟨rfl, hw2⟩
  rw [hw2]
  clear hw2 C1
  go_wp2_with fail
  refine C2.mono ?_
  rintro e w3 ⟨hc, ev', rfl, hSg, hB3⟩
  clear C2
  have hR3 := HR1.out.of hB3 (by omega)
  have q0 : w3.cell? ⟨w.heap.size, 0, none⟩ = some (.int .i64 0) := hR3.c 0 (by omega)
  have q1 : w3.cell? ⟨w.heap.size, 1, none⟩ = some (.int .i64 0) := hR3.c 1 (by omega)
  have q2 : w3.cell? ⟨w.heap.size, 2, none⟩ = some (.slice none 0 0) := hR3.c 2 (by omega)
  have q3 : w3.cell? ⟨w.heap.size, 3, none⟩ = some (.slice none 0 0) := hR3.c 3 (by omega)
  have q4 : w3.cell? ⟨w.heap.size, 4, none⟩ = some (.int .i64 0) := hR3.c 4 (by omega)
  have q5 : w3.cell? ⟨w.heap.size, 5, none⟩ = some (.int .i64 0) := hR3.c 5 (by omega)
  have q6 : w3.cell? ⟨w.heap.size, 6, none⟩ = some (.int .i64 0) := hR3.c 6 (by omega)
  have z0 := hR3.z 0
  have z1 := hR3.z 1
  have z2 := hR3.z 2
  have z3 := hR3.z 3
  have z4 := hR3.z 4
  have z5 := hR3.z 5
  have z6 := hR3.z 6
  have HA9 := Lib.hid (put7_blk hR3 (.int .i64 (t.L : Int)) (.int .i64 (wd t.L : Int)) (.slice (some ⟨hc, 0, none⟩) S S) ev' (.int .i64 (t.live : Int)) (.int .i64 (t.births : Int)) (.int .i64 (t.made : Int)))
  have HB9 := Lib.hid (put7_below (HB1.out.trans (hB3.mono HB1.out.size)) w.heap.size (Nat.le_refl _) (.int .i64 (t.L : Int)) (.int .i64 (wd t.L : Int)) (.slice (some ⟨hc, 0, none⟩) S S) ev' (.int .i64 (t.live : Int)) (.int .i64 (t.births : Int)) (.int .i64 (t.made : Int)))
  have HS9 := Lib.hid (hSg.keep (B' := w.heap.size) HB1.out.size (fun k hk => put7_other w3 w.heap.size (.int .i64 (t.L : Int)) (.int .i64 (wd t.L : Int)) (.slice (some ⟨hc, 0, none⟩) S S) ev' (.int .i64 (t.live : Int)) (.int .i64 (t.births : Int)) (.int .i64 (t.made : Int)) k (by omega)))
  clear hR3 hSg hB3
  unfold put7 at HA9 HB9 HS9
  obtain ⟨ca, cn, cc, rfl⟩ : ∃ ca cn cc, ev' = .slice ca cn cc := by
    obtain ⟨a, cap, ge, hh, _⟩ := HS9.out.es.es.open
    exact ⟨a, _, cap, hh⟩
  go_wp2_with fail
  generalize World.setCell (World.setCell (World.setCell (World.setCell (World.setCell (World.setCell (World.setCell w3 _ _) _ _) _ _) _ _) _ _) _ _) _ _ = w9 at *
  have p0 := HA9.out.c 0 (by omega)
  have p1 := HA9.out.c 1 (by omega)
  have p2 := HA9.out.c 2 (by omega)
  have p3 := HA9.out.c 3 (by omega)
  have p4 := HA9.out.c 4 (by omega)
  have p5 := HA9.out.c 5 (by omega)
  have p6 := HA9.out.c 6 (by omega)
  simp at p0 p1 p2 p3 p4 p5 p6
  refine bodyPost_ret (v := .agg #[.int .i64 (t.L : Int), .int .i64 (wd t.L : Int), .slice (some ⟨hc, 0, none⟩) S S, .slice ca cn cc, .int .i64 (t.live : Int), .int .i64 (t.births : Int), .int .i64 (t.made : Int)]) ?_ rfl ⟨hc, _, rfl, HS9.out, HB9.out⟩
  simp [results, Tryz.results17, go_sem, p0, p1, p2, p3, p4, p5, p6]
end Go.Proofs.YtbpflmdefpjcaaaGreat
namespace Go.Proofs.YtbpflmdefpjcaaaGreat

theorem liveL_liveL (es : List En) : liveL (liveL es) = liveL es := by
  induction es with
  | nil => rfl
  | cons e r ih =>
    by_cases h : e.live = true
    · rw [liveL, if_pos h, liveL, if_pos h, ih]
    · rw [liveL, if_neg h, ih]
theorem split_nth {es : List En} {n : Nat} (h : n < es.length) : es = es.take n ++ nth es n :: es.drop (n + 1) := by
  have : nth es n = es[n] := by unfold nth; rw [List.getD_eq_getElem?_getD, List.getElem?_eq_getElem h, Option.getD_some]
  rw [this, ← List.drop_eq_getElem_cons h, List.take_append_drop]
theorem liveL_set {es : List En} {n : Nat} (h : n < es.length) (z : En) (hz : z.live = false) : liveL (es.set n z) = liveL (es.take n) ++ liveL (es.drop (n + 1)) := by
  rw [List.set_eq_take_append_cons_drop, if_pos h, liveL_app, liveL, if_neg (by rw [hz]; decide)]
theorem liveL_cut {es : List En} {n : Nat} (h : n < es.length) (hl : (nth es n).live = true) : liveL es = liveL (es.take n) ++ nth es n :: liveL (es.drop (n + 1)) := by
  conv => lhs; rw [split_nth h]
  rw [liveL_app, liveL, if_pos hl]
theorem nth_mid (A B : List En) (x : En) : nth (A ++ x :: B) A.length = x := by
  unfold nth
  simp
theorem nth_index {es : List En} {e : En} (h : e ∈ es) : ∃ n, n < es.length ∧ nth es n = e := by
  obtain ⟨n, hn, he⟩ := List.getElem_of_mem h
  exact ⟨n, hn, by unfold nth; rw [List.getD_eq_getElem?_getD, List.getElem?_eq_getElem hn, Option.getD_some, he]⟩
theorem mem_liveL {es : List En} {e : En} (h : e ∈ liveL es) : e ∈ es := by
  induction es with
  | nil => simp [liveL] at h
  | cons x r ih =>
    rw [liveL] at h
    by_cases hx : x.live = true
    · rw [if_pos hx] at h
      rcases List.mem_cons.1 h with rfl | h
      · exact List.mem_cons_self ..
      · exact List.mem_cons_of_mem _ (ih h)
    · rw [if_neg hx] at h
      exact List.mem_cons_of_mem _ (ih h)
/-- A table that holds ws, behind i adds. -/
structure Ld (t : Tb) (ws : List En) (i : Nat) : Prop where
  ok : t.Ok
  eq : liveL t.es = ws
  bi : t.births = i
  lo : ∀ a, a < ws.length → 0 ≤ (nth ws a).birth ∧ (nth ws a).birth < (i : Int)
  up : ∀ a b, a < b → b < ws.length → (nth ws a).birth < (nth ws b).birth
  md : t.made ≤ i + 1
  tu : t.turn ≤ 2 * i
theorem Ld.live {t : Tb} {ws : List En} {i : Nat} (h : Ld t ws i) (a : Nat) (ha : a < ws.length) : (nth ws a).live = true := by
  have := h.eq
  subst this
  exact liveL_nth _ _ ha
theorem Ld.len {t : Tb} {ws : List En} {i : Nat} (h : Ld t ws i) : ws.length ≤ i := by
  have h1 := liveL_len t.es
  have h2 := h.ok.few
  have h3 := h.bi
  rw [h.eq] at h1
  omega
theorem Ld.new {t : Tb} (h1 : t = ⟨[], 3, fun _ => -1, 0, 1, 0⟩) : Ld t [] 0 := by
  subst h1
  exact ⟨⟨Inv.nil 3, by show 3 ≤ 3 ∧ 3 ≤ 20; omega, Nat.le_refl _, by show 0 ≤ 100000; omega⟩, rfl, rfl, fun a ha => absurd ha (Nat.not_lt_zero _), fun a b _ hb => absurd hb (Nat.not_lt_zero _), by show 1 ≤ 0 + 1; omega, Nat.le_refl _⟩
theorem Tb.add_es (t : Tb) (u k v : Int) : liveL (t.add u k v).es = liveL t.es ++ [⟨true, u, k, v, (t.births : Int)⟩] := by
  unfold Tb.add
  by_cases h : t.es.length < rm (2 ^ t.L)
  · rw [if_pos h]
    show liveL (t.es ++ [_]) = _
    rw [liveL_app]
    rfl
  · rw [if_neg h]
    show liveL (liveL t.es ++ [_]) = _
    rw [liveL_app, liveL_liveL]
    rfl
theorem Tb.add_last (t : Tb) (u k v : Int) : (t.add u k v).es ≠ [] ∧ nth (t.add u k v).es ((t.add u k v).es.length - 1) = ⟨true, u, k, v, (t.births : Int)⟩ := by
  unfold Tb.add
  by_cases h : t.es.length < rm (2 ^ t.L)
  · rw [if_pos h]
    refine ⟨by show t.es ++ [_] ≠ []; simp, ?_⟩
    show nth (t.es ++ [_]) ((t.es ++ [_]).length - 1) = _
    rw [List.length_append]
    exact nth_app_eq _ _
  · rw [if_neg h]
    refine ⟨by show liveL t.es ++ [_] ≠ []; simp, ?_⟩
    show nth (liveL t.es ++ [_]) ((liveL t.es ++ [_]).length - 1) = _
    rw [List.length_append]
    exact nth_app_eq _ _
theorem Tb.add_rest (t : Tb) (u k v : Int) : (t.add u k v).births = t.births + 1 ∧ (t.add u k v).made ≤ t.made + 1 ∧ t.made ≤ (t.add u k v).made ∧ (t.add u k v).turn = t.turn + 1 := by
  unfold Tb.add
  by_cases h : t.es.length < rm (2 ^ t.L)
  · rw [if_pos h]
    exact ⟨rfl, by show t.made ≤ t.made + 1; omega, Nat.le_refl _, rfl⟩
  · rw [if_neg h]
    exact ⟨rfl, Nat.le_refl _, by show t.made ≤ t.made + 1; omega, rfl⟩
theorem Ld.add {t : Tb} {ws : List En} {i : Nat} (h : Ld t ws i) (hi : i < 100000) (u k v : Int) : Ld (t.add u k v) (ws ++ [⟨true, u, k, v, (i : Int)⟩]) (i + 1) := by
  obtain ⟨r1, r2, _, r3⟩ := t.add_rest u k v
  have hb := h.bi
  have hm := h.md
  have ht := h.tu
  refine ⟨h.ok.add u k v (by omega), ?_, by omega, fun a ha => ?_, fun a b hab hbl => ?_, by omega, by omega⟩
  · rw [t.add_es, h.eq, hb]
  · rw [List.length_append] at ha
    rcases Nat.lt_or_ge a ws.length with z | z
    · rw [nth_app_lt z]
      have := h.lo a z
      omega
    · rw [show a = ws.length by simp at ha; omega, nth_app_eq]
      show 0 ≤ (i : Int) ∧ (i : Int) < _
      omega
  · rw [List.length_append] at hbl
    rcases Nat.lt_or_ge b ws.length with z | z
    · rw [nth_app_lt z, nth_app_lt (by omega)]
      exact h.up a b hab z
    · have hb' : b = ws.length := by simp at hbl; omega
      subst hb'
      rw [nth_app_eq, nth_app_lt hab]
      exact (h.lo a hab).2
/-- One of them is killed. -/
theorem Ld.kill {t : Tb} {ws : List En} {i : Nat} (h : Ld t ws i) {k : Nat} (hk : k < ws.length) : ∃ n, n < t.es.length ∧ nth t.es n = nth ws k ∧ (nth t.es n).live = true ∧ (∀ m, m < n → nth t.es m ≠ nth ws k) ∧ (t.turn + 1 ≤ 2 * i → Ld (t.kill n) (ws.take k ++ ws.drop (k + 1)) i) := by
  have hmem : nth ws k ∈ t.es := by
    have h1 := h.eq
    subst h1
    exact mem_liveL (nth_mem hk)
  obtain ⟨n0, hn0, hx0⟩ := nth_index hmem
  have key : ∃ n, n ≤ n0 ∧ nth t.es n = nth ws k ∧ ∀ m, m < n → nth t.es m ≠ nth ws k := least (P := fun n => nth t.es n = nth ws k) n0 hx0
  obtain ⟨n, hn, hx, hmin⟩ := key
  have hnl : n < t.es.length := by omega
  have hl : (nth t.es n).live = true := by rw [hx]; exact h.live k hk
  have hcut := liveL_cut hnl hl
  rw [h.eq] at hcut
  have hp : (liveL (t.es.take n)).length = k := by
    have hpl : (liveL (t.es.take n)).length < ws.length := by rw [hcut]; simp
    have hpx : nth ws (liveL (t.es.take n)).length = nth ws k := by
      conv => lhs; rw [hcut]
      rw [nth_mid, hx]
    rcases Nat.lt_trichotomy (liveL (t.es.take n)).length k with z | z | z
    · have := h.up _ _ z hk
      rw [hpx] at this
      omega
    · exact z
    · have := h.up _ _ z hpl
      rw [hpx] at this
      omega
  refine ⟨n, hnl, hx, hl, hmin, fun htu => ?_⟩
  have hA : ws.take k = liveL (t.es.take n) := by rw [hcut, ← hp]; simp
  have hB : ws.drop (k + 1) = liveL (t.es.drop (n + 1)) := by
    rw [hcut, ← hp, show (liveL (t.es.take n)).length + 1 = (liveL (t.es.take n) ++ [nth t.es n]).length by simp, show liveL (t.es.take n) ++ nth t.es n :: liveL (t.es.drop (n + 1)) = (liveL (t.es.take n) ++ [nth t.es n]) ++ liveL (t.es.drop (n + 1)) by simp, List.drop_left]
  have hget : ∀ a, a < (ws.take k ++ ws.drop (k + 1)).length → nth (ws.take k ++ ws.drop (k + 1)) a = nth ws (if a < k then a else a + 1) ∧ (if a < k then a else a + 1) < ws.length := by
    intro a ha
    have hlk : (ws.take k).length = k := by rw [List.length_take]; omega
    rw [List.length_append, hlk, List.length_drop] at ha
    unfold nth
    rw [List.getD_eq_getElem?_getD, List.getD_eq_getElem?_getD]
    by_cases e : a < k
    · rw [if_pos e, List.getElem?_append_left (by omega), List.getElem?_take, if_pos e]
      exact ⟨rfl, by omega⟩
    · rw [if_neg e, List.getElem?_append_right (by omega), hlk, List.getElem?_drop, show k + 1 + (a - k) = a + 1 by omega]
      exact ⟨rfl, by omega⟩
  refine ⟨h.ok.kill n hnl hl, ?_, h.bi, fun a ha => ?_, fun a b hab hb => ?_, h.md, htu⟩
  · show liveL (t.es.set n (En.gone (nth t.es n).birth)) = _
    rw [liveL_set hnl _ rfl, hA, hB]
  · obtain ⟨h1, h2⟩ := hget a ha
    rw [h1]
    exact h.lo _ h2
  · obtain ⟨h1, h2⟩ := hget a (by omega)
    obtain ⟨h3, h4⟩ := hget b hb
    rw [h1, h3]
    refine h.up _ _ ?_ h4
    by_cases e : b < k
    · rw [if_pos (by omega), if_pos e]; exact hab
    · rw [if_neg e]
      split <;> omega
end Go.Proofs.YtbpflmdefpjcaaaGreat
namespace Go.Proofs.YtbpflmdefpjcaaaGreat
open Go.RowKit Go.WideShapes

set_option maxRecDepth 100000 in
set_option maxHeartbeats 1600000 in
theorem ncount_nil (k n : Int) (w : World) :
    Calls Tryz.prog 79 #[.pointer none, .int .i64 k, .int .i64 n] w fun e w' => e = .returned (.tuple #[]) ∧ w' = w := by
  go_enter_defers Tryz.func79, Tryz.ntmps79
  go_wp2_with fail
  exact ⟨_, results_none rfl _ _ _, rfl, rfl⟩
theorem ntable_nil (w : World) : Calls Tryz.prog 63 #[.pointer none] w fun e w' => e = .returned (.tuple #[]) ∧ w' = w := by
  go_enter Tryz.func63, Tryz.ntmps63
  go_wp2_with fail
  refine (ncount_nil 0 1 w).mono ?_
  rintro e w' ⟨rfl, rfl⟩
  go_wp2
  go_end0
  exact ⟨rfl, rfl⟩
/-- A meter that is none. -/
def noM : Int → Int → World → Prop := fun _ _ _ => True
theorem mtOk_nil : MtOk (.pointer none) noM :=
  ⟨fun a b w _ _ _ => (ntable_nil w).mono fun e w' ⟨h1, h2⟩ => ⟨h1, trivial, by rw [h2]; exact Ex.refl _ _⟩, fun _ _ _ _ _ _ => trivial, fun a b w k _ h => by cases h⟩
theorem nvisit_nil (n : Int) (w : World) : Calls Tryz.prog 76 #[.pointer none, .int .i64 n] w fun e w' => e = .returned (.tuple #[]) ∧ w' = w := by
  go_enter Tryz.func76, Tryz.ntmps76
  go_wp2_with fail
  refine (ncount_nil 1 n w).mono ?_
  rintro e w' ⟨rfl, rfl⟩
  go_wp2
  go_end0
  exact ⟨rfl, rfl⟩
theorem mvOk_nil : MvOk (.pointer none) noM := fun a b w _ _ _ => (nvisit_nil 1 w).mono fun e w' ⟨h1, h2⟩ => ⟨h1, trivial, by rw [h2]; exact Ex.refl _ _⟩
theorem noneB {k : Nat} (h : mB (.pointer none) k) : False := by cases h
theorem someB {s k : Nat} (h : mB (.pointer (some ⟨s, 0, none⟩)) k) : k = s := by cases h; rfl

/-- A dictionary of one's own: all of it lies behind B, and apart from the blocks K. -/
structure Pd (K : Nat → Prop) (B : Nat) (w0 w : World) (d g gi r h : Nat) (ev : Value) (t : Tb) (most : Int) (v : Nat) : Prop where
  dc : Dc w d g gi r h ev t (.pointer none) most v
  fr : ∀ k, cX d g gi r h ev k → B ≤ k
  bl : Below B w0 w
  kp : ∀ k, K k → k < w.heap.size ∧ ¬ cX d g gi r h ev k
/-- The blocks K are as they were. -/
def Kp (K : Nat → Prop) (w w' : World) : Prop := ∀ k, K k → w'.heap[k]? = w.heap[k]?
/-- What a step may meet. -/
structure Fit (t : Tb) (v : Nat) : Prop where
  made : t.made ≤ 1000000
  turn : t.turn ≤ 1000000
  births : t.births < 100000
  ver : v ≤ 1000000000
theorem Pd.size {K : Nat → Prop} {B : Nat} {w0 w : World} {d g gi r h : Nat} {ev : Value} {t : Tb} {most : Int} {v : Nat} (p : Pd K B w0 w d g gi r h ev t most v) : B ≤ w.heap.size := Nat.le_trans (p.fr d (.inl rfl)) (Nat.le_of_lt (p.dc.lt d (.inl rfl)))
theorem Pd.below {K : Nat → Prop} {B : Nat} {w0 w w' : World} {d g gi r h : Nat} {ev : Value} {t : Tb} {most : Int} {v : Nat} (p : Pd K B w0 w d g gi r h ev t most v) (hb : Below w.heap.size w w') : Pd K B w0 w' d g gi r h ev t most v := ⟨p.dc.below hb, p.fr, p.bl.trans (hb.mono p.size), fun k hk => ⟨Nat.lt_of_lt_of_le (p.kp k hk).1 hb.size, (p.kp k hk).2⟩⟩
theorem Pd.kept {K : Nat → Prop} {B : Nat} {w0 w w' : World} {d g gi r h : Nat} {ev : Value} {t : Tb} {most : Int} {v : Nat} (p : Pd K B w0 w d g gi r h ev t most v) (hb : Below w.heap.size w w') : Kp K w w' := fun k hk => hb.block k (p.kp k hk).1
/-- Other blocks are to be kept. -/
theorem Pd.withK {K K' : Nat → Prop} {B : Nat} {w0 w : World} {d g gi r h : Nat} {ev : Value} {t : Tb} {most : Int} {v : Nat} (p : Pd K B w0 w d g gi r h ev t most v) (hk : ∀ k, K' k → k < w.heap.size ∧ ¬ cX d g gi r h ev k) : Pd K' B w0 w d g gi r h ev t most v := ⟨p.dc, p.fr, p.bl, hk⟩
theorem Pd.noK {K : Nat → Prop} {B : Nat} {w0 w : World} {d g gi r h : Nat} {ev : Value} {t : Tb} {most : Int} {v : Nat} (p : Pd K B w0 w d g gi r h ev t most v) : Pd (fun _ => False) B w0 w d g gi r h ev t most v := p.withK (fun _ h => h.elim)
/-- Blocks of K were written. -/
theorem Pd.touch {K : Nat → Prop} {B : Nat} {w0 w w' : World} {d g gi r h : Nat} {ev : Value} {t : Tb} {most : Int} {v : Nat} (p : Pd K B w0 w d g gi r h ev t most v) (hx : Ex K w w') (hK : ∀ k, K k → B ≤ k) : Pd K B w0 w' d g gi r h ev t most v :=
  ⟨p.dc.same fun k hk => hx.block k (p.dc.lt k hk) (fun y => (p.kp k y).2 hk), p.fr, p.bl.trans (hx.below hK p.size), fun k hk => ⟨Nat.lt_of_lt_of_le (p.kp k hk).1 hx.size, (p.kp k hk).2⟩⟩
theorem Pd.cm {K : Nat → Prop} {B : Nat} {w0 w w' : World} {d g gi r h : Nat} {ev : Value} {t t' : Tb} {most : Int} {v v' : Nat} {x : Nat} {sv : Value} {a b : Int} {gi' r' h' : Nat} {ev' : Value} (p : Pd K B w0 w d g gi r h ev t most v) (hx : B ≤ x) (hs : ∀ k, mB sv k → B ≤ k) (c : Cm w d g gi r h ev (.pointer none) noM x sv a b most v' t' w' gi' r' h' ev') : Pd K B w0 w' d g gi' r' h' ev' t' most v' := by
  have hB := p.size
  refine ⟨c.dc, fun k hk => ?_, p.bl.trans (c.ex.below (fun k hk => ?_) hB), fun k hk => ⟨Nat.lt_of_lt_of_le (p.kp k hk).1 c.ex.size, fun hc => ?_⟩⟩
  · rcases hk with hk | hk
    · exact p.fr k (.inl hk)
    · rcases c.fx k hk with y | y
      · exact p.fr k (.inr y)
      · omega
  · rcases hk with y | y | y | y
    · exact p.fr k y
    · exact (noneB y).elim
    · omega
    · exact hs k y
  · obtain ⟨h1, h2⟩ := p.kp k hk
    rcases hc with hc | hc
    · exact h2 (.inl hc)
    · rcases c.fx k hc with y | y
      · exact h2 (.inr y)
      · omega
theorem Pd.cmk {K : Nat → Prop} {B : Nat} {w0 w w' : World} {d g gi r h : Nat} {ev : Value} {t t' : Tb} {most : Int} {v v' : Nat} {x : Nat} {sv : Value} {a b : Int} {gi' r' h' : Nat} {ev' : Value} (p : Pd K B w0 w d g gi r h ev t most v) (kx : ¬ K x) (ks : ∀ k, mB sv k → ¬ K k) (c : Cm w d g gi r h ev (.pointer none) noM x sv a b most v' t' w' gi' r' h' ev') : Kp K w w' := fun k hk => c.ex.block k (p.kp k hk).1 (fun y => by
  rcases y with y | y | y | y
  · exact (p.kp k hk).2 y
  · exact noneB y
  · exact kx (y ▸ hk)
  · exact ks k y hk)
/-- A machine that has asked about n: it waits, or was told. -/
structure Aw (K : Nat → Prop) (B : Nat) (w0 w : World) (d x : Nat) (t : Tb) (most : Int) (v : Nat) (m : Ma) (n : Nat) (g gi r h : Nat) (ev : Value) (s j f : Nat) : Prop where
  pd : Pd K B w0 w d g gi r h ev t most v
  hx : B ≤ x
  hs : B ≤ s
  mx : Mx w d g gi r h ev (.pointer none) x (.pointer (some ⟨s, 0, none⟩)) m
  sw : Sw w d g gi r h ev t (.pointer none) x s m.hash j (n : Int) f
  of : Of t.es m.hash n
  asked : m.asked = (n : Int)
  ver : m.ver = v
  scans : m.scans = 1
  kx : ¬ K x
  ks : ¬ K s
theorem Aw.withK {K K' : Nat → Prop} {B : Nat} {w0 w : World} {d x : Nat} {t : Tb} {most : Int} {v : Nat} {m : Ma} {n g gi r h : Nat} {ev : Value} {s j f : Nat} (p : Aw K B w0 w d x t most v m n g gi r h ev s j f) (hk : ∀ k, K' k → k < w.heap.size ∧ ¬ cX d g gi r h ev k) (kx : ¬ K' x) (ks : ¬ K' s) : Aw K' B w0 w d x t most v m n g gi r h ev s j f := ⟨p.pd.withK hk, p.hx, p.hs, p.mx, p.sw, p.of, p.asked, p.ver, p.scans, kx, ks⟩
theorem Aw.below {K : Nat → Prop} {B : Nat} {w0 w w' : World} {d x : Nat} {t : Tb} {most : Int} {v : Nat} {m : Ma} {n g gi r h : Nat} {ev : Value} {s j f : Nat} (p : Aw K B w0 w d x t most v m n g gi r h ev s j f) (hb : Below w.heap.size w w') : Aw K B w0 w' d x t most v m n g gi r h ev s j f := ⟨p.pd.below hb, p.hx, p.hs, p.mx.below hb, p.sw.of (hb.block s (p.sw.sk.lt (by omega))), p.of, p.asked, p.ver, p.scans, p.kx, p.ks⟩
theorem Aw.touch {K : Nat → Prop} {B : Nat} {w0 w w' : World} {d x : Nat} {t : Tb} {most : Int} {v : Nat} {m : Ma} {n g gi r h : Nat} {ev : Value} {s j f : Nat} (p : Aw K B w0 w d x t most v m n g gi r h ev s j f) (hx : Ex K w w') (hK : ∀ k, K k → B ≤ k) : Aw K B w0 w' d x t most v m n g gi r h ev s j f := ⟨p.pd.touch hx hK, p.hx, p.hs, ⟨p.mx.mc.same (hx.block x (p.mx.mc.lt (by omega)) p.kx), p.mx.ne, p.mx.nm⟩, p.sw.of (hx.block s (p.sw.sk.lt (by omega)) p.ks), p.of, p.asked, p.ver, p.scans, p.kx, p.ks⟩
/-- A machine that has ended, in its first scan. -/
structure En1 (w : World) (d x : Nat) (m : Ma) (L : Nat) (s j : Nat) : Prop where
  mc : Mc w x (.pointer (some ⟨s, 0, none⟩)) d m
  vi : Vi w s j
  le : j ≤ 2 ^ L + 13
  scans : m.scans = 1
/-- What a step of a machine tells in its first scan, its key being none of the keys of its hash. -/
def LwR (K : Nat → Prop) (B : Nat) (w0 : World) (d x : Nat) (t : Tb) (most : Int) (v : Nat) (m1 : Ma) (told : Int) (u : Tu) (w' : World) : Prop :=
  (∃ n : Nat, Of t.es m1.hash n ∧ told < (n : Int) ∧ (∀ k, Of t.es m1.hash k → told < (k : Int) → n ≤ k) ∧ u = ⟨1, (nth t.es n).key, false, 0, 0⟩ ∧ ∃ g gi r h ev s j f, Aw K B w0 w' d x t most v { m1 with asked := (n : Int), u := u } n g gi r h ev s j f) ∨
  ((∀ n, Of t.es m1.hash n → (n : Int) ≤ told) ∧ (∃ s j, En1 w' d x { m1 with u := u } t.L s j ∧ ¬ K s ∧ ¬ K x) ∧ MsR m1 t most u (fun _ dv t' => ∃ g gi' r' h' ev', Pd K B w0 w' d g gi' r' h' ev' t' most (v + dv)))
theorem aw_tell {K : Nat → Prop} {B : Nat} {w0 w : World} {d x : Nat} {t : Tb} {most : Int} {v : Nat} {m : Ma} {n g gi r h : Nat} {ev : Value} {s j f : Nat} (p : Aw K B w0 w d x t most v m n g gi r h ev s j f) (hk : m.u.kind = 1) (c : Bool) :
    Calls Tryz.prog 11 #[.pointer (some ⟨x, 0, none⟩), .bool c] w fun e w' => e = .returned (.int .i64 0) ∧ Aw K B w0 w' d x t most v { m with u := Tu.zero, same := c } n g gi r h ev s j f ∧ Kp K w w' := by
  refine (tell_yes p.mx.mc hk c).mono ?_
  rintro e w' ⟨rfl, hm, hx⟩
  have hb : Below B w w' := hx.below (fun k hk => by have := p.hx; omega) p.pd.size
  refine ⟨rfl, ⟨⟨p.pd.dc.same fun k hk => hx.block k (p.pd.dc.lt k hk) (fun e => p.mx.ne (e ▸ hk)), p.pd.fr, p.pd.bl.trans hb, fun k hk => ⟨Nat.lt_of_lt_of_le (p.pd.kp k hk).1 hx.size, (p.pd.kp k hk).2⟩⟩, p.hx, p.hs, ⟨hm, p.mx.ne, p.mx.nm⟩, p.sw.of (hx.block s (p.sw.sk.lt (by omega)) p.sw.nx), p.of, p.asked, p.ver, p.scans, p.kx, p.ks⟩, fun k hk => hx.block k (p.pd.kp k hk).1 (fun e => p.kx (e ▸ hk))⟩
theorem SoR.lw {K : Nat → Prop} {B : Nat} {w0 w : World} {d g gi r h : Nat} {ev : Value} {t : Tb} {x : Nat} {sv : Value} {most : Int} {v : Nat} {m1 : Ma} {s i : Nat} {told : Int} {f : Nat} {u : Tu} {w' : World} (q : SoR w d g gi r h ev t (.pointer none) noM x sv 0 0 most v m1 s i told f u w') (p : Pd K B w0 w d g gi r h ev t most v) (hx : B ≤ x) (hsv : ∀ k, mB sv k → B ≤ k) (hs : B ≤ s) (hf : f < 2 ^ t.L + 13) (hne : ¬ cX d g gi r h ev x) (kx : ¬ K x) (ks : ¬ K s) (ksv : ∀ k, mB sv k → ¬ K k) (h1 : m1.scans = 1) (hv : m1.ver = v) (hk : ∀ n, Of t.es m1.hash n → (nth t.es n).key ≠ m1.key) : LwR K B w0 d x t most v m1 told u w' ∧ Kp K w w' := by
  obtain ⟨j, _, h2, (⟨n, h3, h4, h5, (⟨h6, h7, h8, h9, h10⟩ | ⟨h6, h7, h8, h9, h10⟩)⟩ | ⟨h3, h4, h5, h6, h7⟩)⟩ := q
  · exact absurd h6 (hk n h3)
  · exact ⟨.inl ⟨n, h3, h4, h5.1, h7, g, gi, r, h, ev, s, _, f, p.cm hx hsv h8, hx, hs, ⟨h9, hne, fun y => noneB y⟩, h10, h3, rfl, hv, h1, kx, ks⟩, p.cmk kx ksv h8⟩
  · refine ⟨.inr ⟨h4, ⟨s, _, ⟨h6, h7, by omega, h1⟩, ks, kx⟩, h5.mono (fun _ _ _ ⟨gi', r', h', ev', c, _⟩ => ⟨g, gi', r', h', ev', p.cm hx hsv c⟩)⟩, ?_⟩
    obtain ⟨_, _, _, _, _, _, _, c, _⟩ := h5.any
    exact p.cmk kx ksv c
theorem aw_step {K : Nat → Prop} {B : Nat} {w0 w : World} {d x : Nat} {t : Tb} {most : Int} {v : Nat} {m : Ma} {n g gi r h : Nat} {ev : Value} {s j f : Nat} (p : Aw K B w0 w d x t most v m n g gi r h ev s j f) (hk : m.u.kind = 0) (hsame : m.same = false) (ft : Fit t v) (hkey : ∀ n, Of t.es m.hash n → (nth t.es n).key ≠ m.key) :
    Calls Tryz.prog 10 #[.pointer (some ⟨x, 0, none⟩)] w fun e w' => ∃ u, e = .returned (tuV u) ∧ LwR K B w0 d x t most v m (n : Int) u w' ∧ Kp K w w' := by
  have hsv : ∀ k, mB (.pointer (some ⟨s, 0, none⟩)) k → k < w.heap.size := fun k hk => by rw [someB hk]; exact p.sw.sk.lt (by omega)
  refine (step_next p.pd.dc mtOk_nil mvOk_nil (a := 0) (b := 0) trivial ft.made (by decide) (by decide) ft.turn ft.births ft.ver p.mx hk hsv (by rw [p.scans]; decide) (by rw [p.ver]; exact ft.ver) (.inr ⟨by rw [p.scans]; decide, p.ver, hsame, s, j, _, f, rfl, p.sw⟩)).mono ?_
  rintro e w' ⟨u, s', i, told, f', sc, rfl, hS, q⟩
  refine ⟨u, rfl, ?_⟩
  have hsc := p.scans
  have hve := p.ver
  rcases hS with ⟨y, _⟩ | ⟨_, y2, y3, y4⟩
  · rcases y with y | y
    · omega
    · exact absurd hve y
  · have e1 : s' = s := by cases y2; rfl
    subst e1
    have e2 : told = (n : Int) := by
      have h1 := p.sw.sk.c 6 (by omega)
      have h2 := y4.sk.c 6 (by omega)
      rw [h1] at h2
      injection h2 with h2
      injection h2 with _ h2
      exact h2.symm
    subst e2
    have em : ({ m with ver := v, scans := sc } : Ma) = m := by cases m; simp at hve y3; simp [hve, y3]
    rw [em] at q
    exact q.lw p.pd p.hx (fun k hk => by rw [someB hk]; exact p.hs) p.hs y4.lt p.mx.ne p.kx p.ks (fun k hk => by rw [someB hk]; exact p.ks) hsc hve hkey
theorem fresh_step {K : Nat → Prop} {B : Nat} {w0 w : World} {d x g gi r h : Nat} {ev : Value} {t : Tb} {most : Int} {v : Nat} (p : Pd K B w0 w d g gi r h ev t most v) (hx : B ≤ x) {goal : Nat} {uh key value : Int} (hm : Mc w x (.pointer none) d ⟨goal, uh, key, value, 0, 0, Tu.zero, 0, false⟩) (hne : ¬ cX d g gi r h ev x) (kx : ¬ K x) (ft : Fit t v) (hkey : ∀ n, Of t.es uh n → (nth t.es n).key ≠ key) :
    Calls Tryz.prog 10 #[.pointer (some ⟨x, 0, none⟩)] w fun e w' => ∃ u, e = .returned (tuV u) ∧ LwR K B w0 d x t most v ⟨goal, uh, key, value, v, 1, Tu.zero, 0, false⟩ (-1) u w' ∧ Kp K w w' := by
  refine (step_next p.dc mtOk_nil mvOk_nil (a := 0) (b := 0) trivial ft.made (by decide) (by decide) ft.turn ft.births ft.ver ⟨hm, hne, fun y => noneB y⟩ rfl (fun k y => (noneB y).elim) (Nat.zero_le _) (Nat.zero_le _) (.inl (.inl rfl))).mono ?_
  rintro e w' ⟨u, s', i, told, f', sc, rfl, hS, q⟩
  refine ⟨u, rfl, ?_⟩
  rcases hS with ⟨_, rfl, rfl, rfl, y, hf, _⟩ | ⟨⟨y, _⟩, _⟩
  · exact SoR.lw q p hx (fun k y => (noneB y).elim) (Nat.le_trans p.size y) hf hne kx (fun hk => by have := (p.kp s' hk).1; omega) (fun k y => (noneB y).elim) rfl rfl hkey
  · exact absurd rfl y
end Go.Proofs.YtbpflmdefpjcaaaGreat
namespace Go.Proofs.YtbpflmdefpjcaaaGreat
open Go.RowKit Go.WideShapes

/-- How many live entries stand ahead of entry n. -/
def lpos (es : List En) (n : Nat) : Nat := (liveL (es.take n)).length
theorem lpos_succ {es : List En} {n : Nat} (h : n < es.length) : lpos es (n + 1) = lpos es n + if (nth es n).live = true then 1 else 0 := by
  unfold lpos
  rw [liveL_take h]
  split
  · simp
  · simp
theorem lpos_mono {es : List En} {n : Nat} : ∀ m, n ≤ m → m ≤ es.length → lpos es n ≤ lpos es m := by
  intro m
  induction m with
  | zero => intro h _; rw [show n = 0 by omega]; exact Nat.le_refl _
  | succ m ih =>
    intro h1 h2
    rcases Nat.lt_or_ge n (m + 1) with z | z
    · have := ih (by omega) (by omega)
      rw [lpos_succ (by omega)]
      omega
    · rw [show n = m + 1 by omega]; exact Nat.le_refl _
theorem lpos_lt {es : List En} {n m : Nat} (h : n < m) (hm : m ≤ es.length) (hl : (nth es n).live = true) : lpos es n < lpos es m := by
  have := lpos_mono (es := es) (n := n + 1) m (by omega) hm
  rw [lpos_succ (by omega), if_pos hl] at this
  omega
theorem lpos_nth {es : List En} {n : Nat} (hn : n < es.length) (hl : (nth es n).live = true) : nth (liveL es) (lpos es n) = nth es n ∧ lpos es n < (liveL es).length := by
  have h := liveL_cut hn hl
  refine ⟨?_, ?_⟩
  · unfold lpos
    rw [h]
    exact nth_mid _ _ _
  · unfold lpos
    rw [h]
    simp
theorem lpos_some (es : List En) : ∀ i, i < (liveL es).length → ∃ n, n < es.length ∧ (nth es n).live = true ∧ lpos es n = i := by
  induction es with
  | nil => intro i h; simp [liveL] at h
  | cons e r ih =>
    intro i h
    rw [liveL] at h
    by_cases hl : e.live = true
    · rw [if_pos hl, List.length_cons] at h
      match i with
      | 0 => exact ⟨0, by simp, by simpa [nth] using hl, by simp [lpos, liveL]⟩
      | i + 1 =>
        obtain ⟨n, h1, h2, h3⟩ := ih i (by omega)
        exact ⟨n + 1, by simpa using h1, by simpa [nth] using h2, by unfold lpos at h3 ⊢; rw [List.take_succ_cons, liveL, if_pos hl, List.length_cons, h3]⟩
    · rw [if_neg hl] at h
      obtain ⟨n, h1, h2, h3⟩ := ih i h
      exact ⟨n + 1, by simpa using h1, by simpa [nth] using h2, by unfold lpos at h3 ⊢; rw [List.take_succ_cons, liveL, if_neg hl, h3]⟩
/-- The entries of u up to told are those among the first i that are wanted. -/
def Upto (es : List En) (u : Int) (told : Int) (i : Nat) : Prop := ∀ n, Of es u n → ((n : Int) ≤ told ↔ lpos es n < i)
theorem upto_zero (es : List En) (u : Int) : Upto es u (-1) 0 := fun n _ => by omega
theorem upto_skip {es : List En} {u told : Int} {i : Nat} (h : Upto es u told i) (hi : (nth (liveL es) i).hash ≠ u) : Upto es u told (i + 1) := fun n hn => by
  rw [h n hn]
  have : lpos es n ≠ i := fun e => hi (by rw [← e, (lpos_nth hn.1 hn.2.1).1]; exact hn.2.2)
  omega
theorem upto_hit {es : List En} {u told : Int} {i n : Nat} (h : Upto es u told i) (hi : i < (liveL es).length) (hu : (nth (liveL es) i).hash = u) (hO : Of es u n) (ht : told < (n : Int)) (hmin : ∀ m, Of es u m → told < (m : Int) → n ≤ m) : nth es n = nth (liveL es) i ∧ lpos es n = i ∧ Upto es u (n : Int) (i + 1) := by
  obtain ⟨k, h1, h2, h3⟩ := lpos_some es i hi
  have hk : nth es k = nth (liveL es) i := by rw [← h3]; exact (lpos_nth h1 h2).1.symm
  have hkO : Of es u k := ⟨h1, h2, by rw [hk]; exact hu⟩
  have hkt : told < (k : Int) := by have := h k hkO; omega
  have hnk := hmin k hkO hkt
  have hpn : ¬ lpos es n < i := by have := h n hO; omega
  have hnk' : n = k := by
    rcases Nat.lt_or_ge n k with z | z
    · have := lpos_lt z (Nat.le_of_lt h1) hO.2.1
      omega
    · omega
  subst hnk'
  refine ⟨hk, h3, fun m hm => ?_⟩
  rcases Nat.lt_trichotomy m n with z | z | z
  · have := lpos_lt z (Nat.le_of_lt h1) hm.2.1
    omega
  · subst z
    omega
  · have := lpos_lt z (Nat.le_of_lt hm.1) hO.2.1
    omega
theorem upto_some {es : List En} {u told : Int} {i : Nat} (h : Upto es u told i) (hi : i < (liveL es).length) (hu : (nth (liveL es) i).hash = u) (hall : ∀ n, Of es u n → (n : Int) ≤ told) : False := by
  obtain ⟨k, h1, h2, h3⟩ := lpos_some es i hi
  have hk : nth es k = nth (liveL es) i := by rw [← h3]; exact (lpos_nth h1 h2).1.symm
  have hkO : Of es u k := ⟨h1, h2, by rw [hk]; exact hu⟩
  have h4 := hall k hkO
  have h5 := h k hkO
  omega
theorem upto_end {es : List En} {u told : Int} {n : Nat} (h : Upto es u told (liveL es).length) (hO : Of es u n) (ht : told < (n : Int)) : False := by
  have h1 := h n hO
  have h2 := (lpos_nth hO.1 hO.2.1).2
  omega

/-- A pair of the sequence; what is done at an ask; a call. -/
structure Pq where
  hash : Int
  key : Int
  value : Int
  deriving Inhabited
structure Ac where
  ask : Int
  kind : Int
  hash : Int
  key : Int
  value : Int
  deriving Inhabited
structure Cq where
  goal : Nat
  hash : Int
  key : Int
  value : Int
def pqE (e : En) : Pq := ⟨e.hash, e.key, e.value⟩
def pqs (es : List En) : List Pq := (liveL es).map pqE
theorem pqs_len (es : List En) : (pqs es).length = (liveL es).length := List.length_map _
theorem pqs_at {es : List En} {i : Nat} (h : i < (liveL es).length) : (pqs es)[i]? = some (pqE (nth (liveL es) i)) := by
  unfold pqs nth
  rw [List.getElem?_map, List.getD_eq_getElem?_getD, List.getElem?_eq_getElem h]
  rfl
theorem pqs_add (t : Tb) (u k v : Int) : pqs (t.add u k v).es = pqs t.es ++ [⟨u, k, v⟩] := by
  unfold pqs
  rw [Tb.add_es, List.map_append]
  rfl
theorem pqs_kill {t : Tb} {n : Nat} (hn : n < t.es.length) (hl : (nth t.es n).live = true) : pqs (t.kill n).es = (pqs t.es).eraseIdx (lpos t.es n) := by
  have h : liveL (t.kill n).es = liveL (t.es.take n) ++ liveL (t.es.drop (n + 1)) := liveL_set hn _ rfl
  unfold pqs lpos
  rw [h, liveL_cut hn hl, List.map_append, List.map_append, List.map_cons, List.eraseIdx_append_of_length_le (by simp), List.length_map]
  simp
theorem liveL_setl {es : List En} {n : Nat} (h : n < es.length) (z : En) (hz : z.live = true) : liveL (es.set n z) = liveL (es.take n) ++ z :: liveL (es.drop (n + 1)) := by
  rw [List.set_eq_take_append_cons_drop, if_pos h, liveL_app, liveL, if_pos hz]
theorem pqs_putv {t : Tb} {n : Nat} (hn : n < t.es.length) (hl : (nth t.es n).live = true) (x : Int) : pqs (t.putv n x).es = (pqs t.es).set (lpos t.es n) ⟨(nth t.es n).hash, (nth t.es n).key, x⟩ := by
  have h : liveL (t.putv n x).es = liveL (t.es.take n) ++ (⟨(nth t.es n).live, (nth t.es n).hash, (nth t.es n).key, x, (nth t.es n).birth⟩ : En) :: liveL (t.es.drop (n + 1)) := liveL_setl hn _ hl
  unfold pqs lpos
  rw [h, liveL_cut hn hl, List.map_append, List.map_append, List.map_cons, List.map_cons, List.set_append_right _ _ (by simp), List.length_map]
  simp
  rfl
theorem pqs_clear (t : Tb) : pqs t.clear.es = [] := rfl
theorem pqs_new : pqs Tb.new.es = [] := rfl
theorem live_pqs (t : Tb) : t.live = (pqs t.es).length := by rw [pqs_len, Tb.live_eq]

/-- Are two keys the same? -/
def oneQ (same a b : Int) : Bool := (a == b) || (decide (1 ≤ same) && (Int.tmod (wrap64 (a - b)) same == 0))
theorem oneQ_refl (same a : Int) : oneQ same a a = true := by unfold oneQ; simp
def hitQ (same : Int) (c : Cq) (p : Pq) : Bool := p.hash == c.hash && oneQ same p.key c.key
def findQ (same : Int) (c : Cq) (L : List Pq) : Nat := L.findIdx (hitQ same c)
/-- What a call does where the key's place is at (beyond the end: there is none). -/
def endQ (most : Nat) (c : Cq) (s : List Pq × Nat) (at_ : Nat) : Tu × List Pq × Nat :=
  if at_ < s.1.length then
    (⟨2, 0, true, (s.1.getD at_ default).value, 0⟩, if c.goal = 2 then s.1.set at_ ⟨(s.1.getD at_ default).hash, (s.1.getD at_ default).key, c.value⟩ else if c.goal = 3 then s.1.eraseIdx at_ else s.1, hitN c.goal s.2)
  else if c.goal = 1 ∨ c.goal = 3 then (⟨2, 0, false, 0, 0⟩, s)
  else if most ≤ s.1.length then (⟨3, 0, false, 0, 0⟩, s)
  else (⟨2, 0, false, c.value, 0⟩, s.1 ++ [⟨c.hash, c.key, c.value⟩], s.2 + 1)
def callQ (most : Nat) (same : Int) (c : Cq) (s : List Pq × Nat) : Tu × List Pq × Nat := endQ most c s (findQ same c s.1)
def actQ (most : Nat) (same : Int) (a : Ac) (s : List Pq × Nat) : List Pq × Nat :=
  if a.kind = 1 then (callQ most same ⟨2, a.hash, a.key, a.value⟩ s).2
  else if a.kind = 2 then (callQ most same ⟨3, a.hash, a.key, 0⟩ s).2
  else if a.kind = 3 then ([], s.2 + 1)
  else s
def actsQ (most : Nat) (same : Int) (n : Int) : List Ac → List Pq × Nat → List Pq × Nat
  | [], s => s
  | a :: r, s => actsQ most same n r (if a.ask = n then actQ most same a s else s)
theorem actsQ_app (most : Nat) (same n : Int) (A B : List Ac) (s : List Pq × Nat) : actsQ most same n (A ++ B) s = actsQ most same n B (actsQ most same n A s) := by
  induction A generalizing s with
  | nil => rfl
  | cons a r ih => exact ih _
/-- How many acts are still to come from ask number n on. -/
def potQ (n : Int) : List Ac → Nat
  | [] => 0
  | a :: r => potQ n r + (if n ≤ a.ask then 1 else 0)
theorem potQ_le (n : Int) (A : List Ac) : potQ n A ≤ A.length := by
  induction A with
  | nil => exact Nat.le_refl _
  | cons a r ih => rw [potQ, List.length_cons]; split <;> omega
theorem endQ_step (most : Nat) (c : Cq) (s : List Pq × Nat) (at_ : Nat) : s.2 ≤ (endQ most c s at_).2.2 ∧ (endQ most c s at_).2.2 ≤ s.2 + 1 ∧ (endQ most c s at_).2.1.length ≤ s.1.length + 1 ∧ ((endQ most c s at_).2.2 = s.2 → (endQ most c s at_).2 = s) := by
  unfold endQ hitN
  split
  · by_cases h2 : c.goal = 2
    · simp [h2]
    · by_cases h3 : c.goal = 3
      · simp [h3]
        have := List.length_eraseIdx_le s.1 at_
        omega
      · simp [h2, h3]
  · split
    · simp
    · split
      · simp
      · simp
theorem actQ_step (most : Nat) (same : Int) (a : Ac) (s : List Pq × Nat) : s.2 ≤ (actQ most same a s).2 ∧ (actQ most same a s).2 ≤ s.2 + 1 ∧ (actQ most same a s).1.length ≤ s.1.length + 1 ∧ ((actQ most same a s).2 = s.2 → actQ most same a s = s) := by
  unfold actQ
  split
  · exact endQ_step _ _ _ _
  · split
    · exact endQ_step _ _ _ _
    · split
      · simp
      · simp
theorem actsQ_step (most : Nat) (same n : Int) (A : List Ac) (s : List Pq × Nat) : s.2 ≤ (actsQ most same n A s).2 ∧ (actsQ most same n A s).2 + potQ (n + 1) A ≤ s.2 + potQ n A ∧ (actsQ most same n A s).1.length + potQ (n + 1) A ≤ s.1.length + potQ n A ∧ ((actsQ most same n A s).2 = s.2 → actsQ most same n A s = s) := by
  induction A generalizing s with
  | nil => exact ⟨Nat.le_refl _, Nat.le_refl _, Nat.le_refl _, fun _ => rfl⟩
  | cons a r ih =>
    rw [actsQ, potQ, potQ]
    by_cases h : a.ask = n
    · rw [if_pos h]
      obtain ⟨h1, h2, h3, h4⟩ := actQ_step most same a s
      obtain ⟨g1, g2, g3, g4⟩ := ih (actQ most same a s)
      rw [if_neg (by omega), if_pos (by omega)]
      refine ⟨by omega, by omega, by omega, fun e => ?_⟩
      have e1 : (actQ most same a s).2 = s.2 := by omega
      have e2 := h4 e1
      rw [e2] at e ⊢ g4
      exact g4 e
    · rw [if_neg h]
      obtain ⟨g1, g2, g3, g4⟩ := ih s
      refine ⟨g1, ?_, ?_, g4⟩
      · split <;> split <;> omega
      · split <;> split <;> omega
/-- The place of a key, by scans, whoever is asked acting meanwhile: from place i of the scan of number sc on; the place, the sequence, what was asked, how often. -/
inductive FdQ (most : Nat) (same : Int) (A : List Ac) (c : Cq) : List Pq → Nat → List Int → Nat → Nat → Nat → List Pq → Nat → List Int → Nat → Prop
  | over {L v q i sc} : L.length ≤ i → FdQ most same A c L v q i sc L.length L v q 0
  | skip {L v q i sc a L' v' q' k} : i < L.length → (L.getD i default).hash ≠ c.hash → FdQ most same A c L v q (i + 1) sc a L' v' q' k → FdQ most same A c L v q i sc a L' v' q' k
  | here {L v q i sc} : i < L.length → (L.getD i default).hash = c.hash → (L.getD i default).key = c.key → FdQ most same A c L v q i sc i L v q 0
  | yes {L v q i sc} : i < L.length → (L.getD i default).hash = c.hash → (L.getD i default).key ≠ c.key → (actsQ most same (q.length : Int) A (L, v)) = (L, v) → oneQ same (L.getD i default).key c.key = true → FdQ most same A c L v q i sc i L v (q ++ [(L.getD i default).key]) 1
  | no {L v q i sc a L' v' q' k} : i < L.length → (L.getD i default).hash = c.hash → (L.getD i default).key ≠ c.key → (actsQ most same (q.length : Int) A (L, v)) = (L, v) → oneQ same (L.getD i default).key c.key = false → FdQ most same A c L v (q ++ [(L.getD i default).key]) (i + 1) sc a L' v' q' k → FdQ most same A c L v q i sc a L' v' q' (k + 1)
  | anew {L v q i sc L1 v1 a L' v' q' k} : i < L.length → (L.getD i default).hash = c.hash → (L.getD i default).key ≠ c.key → (actsQ most same (q.length : Int) A (L, v)) = (L1, v1) → v1 ≠ v → sc + 1 < 20 → FdQ most same A c L1 v1 (q ++ [(L.getD i default).key]) 0 (sc + 1) a L' v' q' k → FdQ most same A c L v q i sc a L' v' q' (k + 1)
theorem FdQ.bound {most : Nat} {same : Int} {A : List Ac} {c : Cq} {L : List Pq} {v : Nat} {q : List Int} {i sc a : Nat} {L' : List Pq} {v' : Nat} {q' : List Int} {k M : Nat} (h : FdQ most same A c L v q i sc a L' v' q' k) (hM : L.length + potQ (q.length : Int) A ≤ M) (hs : sc ≤ 19) :
    k ≤ (19 - sc) * M + (L.length - i) ∧ L'.length + potQ (q'.length : Int) A ≤ M ∧ v' + potQ (q'.length : Int) A ≤ v + potQ (q.length : Int) A ∧ q'.length = q.length + k ∧ a ≤ L'.length := by
  induction h with
  | over h => exact ⟨Nat.zero_le _, hM, Nat.le_refl _, rfl, Nat.le_refl _⟩
  | skip h1 h2 _ ih =>
    obtain ⟨g1, g2, g3, g4, g5⟩ := ih hM hs
    exact ⟨by omega, g2, g3, g4, g5⟩
  | here h1 h2 h3 => exact ⟨Nat.zero_le _, hM, Nat.le_refl _, rfl, Nat.le_of_lt h1⟩
  | @yes L v q i sc h1 h2 h3 h4 h5 =>
    have h := actsQ_step most same (q.length : Int) A (L, v)
    rw [h4] at h
    have e : ((q ++ [(L.getD i default).key]).length : Int) = (q.length : Int) + 1 := by simp
    rw [e]
    exact ⟨by omega, by have := h.2.2.1; simp only at this; omega, by have := h.2.1; simp only at this; omega, by simp, Nat.le_of_lt h1⟩
  | @no L v q i sc a L' v' q' k h1 h2 h3 h4 h5 _ ih =>
    have h := actsQ_step most same (q.length : Int) A (L, v)
    rw [h4] at h
    have e : ((q ++ [(L.getD i default).key]).length : Int) = (q.length : Int) + 1 := by simp
    rw [e] at ih
    obtain ⟨g1, g2, g3, g4, g5⟩ := ih (by have := h.2.2.1; simp only at this; omega) hs
    refine ⟨by omega, g2, by have := h.2.1; simp only at this; omega, by rw [g4]; simp; omega, g5⟩
  | @anew L v q i sc L1 v1 a L' v' q' k h1 h2 h3 h4 h5 h6 _ ih =>
    have h := actsQ_step most same (q.length : Int) A (L, v)
    rw [h4] at h
    have e : ((q ++ [(L.getD i default).key]).length : Int) = (q.length : Int) + 1 := by simp
    rw [e] at ih
    have hx := h.2.2.1
    have hy := h.2.1
    simp only at hx hy
    obtain ⟨g1, g2, g3, g4, g5⟩ := ih (by omega) (by omega)
    have e2 : (19 - sc) * M = (19 - (sc + 1)) * M + M := by
      rw [show 19 - sc = (19 - (sc + 1)) + 1 by omega, Nat.add_mul, Nat.one_mul]
    refine ⟨by omega, g2, by omega, by rw [g4]; simp; omega, g5⟩
end Go.Proofs.YtbpflmdefpjcaaaGreat
namespace Go.Proofs.YtbpflmdefpjcaaaGreat
open Go.RowKit Go.WideShapes

theorem Tryz.infoN : (Tryz.prog.info? 3).map (fun i => (i.zero, i.size, i.bytes)) = some (some (.int .i64 0), 1, 8) := by kernel_rfl
/-- Ints in a row of their own, from block B on. -/
def IntsR (B : Nat) (w : World) (v : Value) (l : List Int) : Prop := w.ownsRow B 3 1 v l.length (l.map fun x : Int => Value.int .i64 x)
theorem IntsR.nil (B : Nat) (w : World) : IntsR B w (.slice none 0 0) [] := ⟨rfl, Or.inl ⟨rfl, rfl⟩⟩
theorem intsR_snoc {B : Nat} {w1 : World} {v' : Value} {l : List Int} {d : Int} (h : w1.ownsRow B 3 1 v' (l.length + 1) ((l.map fun x : Int => Value.int .i64 x) ++ [Value.int .i64 d])) : IntsR B w1 v' (l ++ [d]) := by
  unfold IntsR
  simpa using h
theorem newR_one (w : World) (x : Value) (t : TypeId) : ∀ j u, [x][j]? = some u → (w.alloc (.cells #[x] t)).cell? (Addr.add ⟨w.heap.size, 0, none⟩ j) = some u := by
  intro j u hj
  match j, hj with
  | 0, hj => rw [WideShapes.add_plain, World.cell?_alloc_at _ _ _ _ rfl]; simpa using hj
  | j + 1, hj => simp at hj
theorem belowR_grown {B n : Nat} {w wr w1 : World} {v : Value} {xs : List Value} {o : Obj} {t : TypeId} (hb : Below B w wr) (hB : B ≤ w.heap.size) (hown : wr.ownsRow B t 1 v n xs) (hg : (wr.alloc o).grownBy w1 v.ownBlock) : Below B w w1 := by
  refine (hb.alloc (Nat.le_trans hB hb.size) o).grown hg (by simp; have := hb.size; omega) (fun k e => ?_)
  rcases hown.2 with ⟨rfl, _⟩ | ⟨g, cap, cur, rfl, h1, _⟩
  · cases e
  · simp [Value.ownBlock] at e
    omega
/-- A row of one's own, laid open as a block. -/
theorem IntsR.open {B : Nat} {w : World} {v : Value} {l : List Int} (h : IntsR B w v l) : ∃ a cap g, v = .slice a l.length cap ∧ l.length ≤ cap ∧ (0 < l.length → a = some ⟨g, 0, none⟩ ∧ g < w.heap.size ∧ B ≤ g ∧ Blk w g l.length (fun j => .int .i64 (l[j]?.getD 0))) := by
  have h0 : w.ownsRow B 3 1 v l.length (l.map fun x : Int => Value.int .i64 x) := h
  rcases h0.2 with ⟨rfl, h1⟩ | ⟨g, cap, cur, rfl, hg, hh, hc, _⟩
  · obtain rfl : l = [] := List.eq_nil_of_length_eq_zero h1
    exact ⟨none, 0, 0, rfl, Nat.le_refl _, fun h => absurd h (by simp)⟩
  · refine ⟨_, cap, g, rfl, hc, fun _ => ⟨rfl, (Array.getElem?_eq_some_iff.1 hh).1, hg, fun j hj => ?_, fun j => h0.frozenAt j⟩⟩
    rw [h0.cellAt j (by simpa using hj)]
    simp [hj]
end Go.Proofs.YtbpflmdefpjcaaaGreat
namespace Go.Proofs.YtbpflmdefpjcaaaGreat
open Go.RowKit Go.WideShapes

def pqc : List Pq → List Value
  | [] => []
  | p :: r => .int .i64 p.hash :: .int .i64 p.key :: .int .i64 p.value :: pqc r
theorem pqc_len : ∀ l, (pqc l).length = l.length * 3
  | [] => rfl
  | p :: l => by show (pqc l).length + 1 + 1 + 1 = _; rw [pqc_len l, List.length_cons]; omega
theorem pqc_app : ∀ l m, pqc (l ++ m) = pqc l ++ pqc m
  | [], _ => rfl
  | p :: l, m => by show _ :: _ :: _ :: pqc (l ++ m) = _; rw [pqc_app l m]; rfl
theorem pqc_one : ∀ l, ∀ u ∈ pqc l, u.oneCell' = true
  | [], u, h => by cases h
  | p :: l, u, h => by
    rcases List.mem_cons.1 h with rfl | h
    · rfl
    · rcases List.mem_cons.1 h with rfl | h
      · rfl
      · rcases List.mem_cons.1 h with rfl | h
        · rfl
        · exact pqc_one l u h
theorem pqc_get : ∀ (l : List Pq) (j : Nat), j < l.length → (pqc l)[j * 3]? = some (.int .i64 (l.getD j default).hash) ∧ (pqc l)[j * 3 + 1]? = some (.int .i64 (l.getD j default).key) ∧ (pqc l)[j * 3 + 2]? = some (.int .i64 (l.getD j default).value)
  | [], j, h => absurd h (by simp)
  | p :: l, 0, _ => ⟨rfl, rfl, rfl⟩
  | p :: l, j + 1, h => by
    have := pqc_get l j (by simpa using h)
    rw [show (j + 1) * 3 = j * 3 + 1 + 1 + 1 by omega]
    exact this
theorem pq_cut {l : List Pq} {i : Nat} (hi : i < l.length) : l = l.take i ++ l.getD i default :: l.drop (i + 1) := by
  rw [List.getD_eq_getElem?_getD, List.getElem?_eq_getElem hi]
  show _ = _ ++ l[i] :: _
  rw [← List.drop_eq_getElem_cons hi, List.take_append_drop]
theorem pqc_set {l : List Pq} {i : Nat} (hi : i < l.length) (x : Int) : pqc (l.set i ⟨(l.getD i default).hash, (l.getD i default).key, x⟩) = (pqc l).set (i * 3 + 2) (.int .i64 x) := by
  have e1 := pq_cut hi
  rw [List.set_eq_take_append_cons_drop, if_pos hi]
  conv => rhs; rw [e1]
  rw [pqc_app, pqc_app]
  have e4 : (pqc (l.take i)).length = i * 3 := by rw [pqc_len, List.length_take, Nat.min_eq_left (by omega)]
  rw [List.set_append_right _ _ (by omega), e4, show i * 3 + 2 - i * 3 = 2 by omega]
  rfl
theorem pq_erase {l : List Pq} (i : Nat) : l.eraseIdx i = l.take i ++ l.drop (i + 1) := List.eraseIdx_eq_take_drop_succ l i
/-- A row of pairs of one's own. -/
def PqR (B : Nat) (w : World) (v : Value) (L : List Pq) : Prop := w.ownsRow B 58 3 v L.length (pqc L)
theorem PqR.same {B : Nat} {w w' : World} {v : Value} {L : List Pq} (h : PqR B w v L) (e : ∀ k, v.ownBlock = some k → w'.heap[k]? = w.heap[k]?) : PqR B w' v L := by
  refine ⟨h.1, ?_⟩
  rcases h.2 with h0 | ⟨g, cap, cur, rfl, h1, h2, h3⟩
  · exact .inl h0
  · exact .inr ⟨g, cap, cur, rfl, h1, (e g rfl).trans h2, h3⟩
theorem PqR.lt {B : Nat} {w : World} {v : Value} {L : List Pq} (h : PqR B w v L) : ∀ k, v.ownBlock = some k → B ≤ k ∧ k < w.heap.size := fun k hk => World.ownsRow.lt h k hk
theorem PqR.open {B : Nat} {w : World} {v : Value} {L : List Pq} (h : PqR B w v L) : ∃ a cap, v = .slice a L.length cap ∧ L.length ≤ cap ∧ ∃ g, (0 < L.length → a = some ⟨g, 0, none⟩) ∧ ∀ j, j < L.length → w.cell? ⟨g, j * 3, none⟩ = some (.int .i64 (L.getD j default).hash) ∧ w.cell? ⟨g, j * 3 + 1, none⟩ = some (.int .i64 (L.getD j default).key) ∧ w.cell? ⟨g, j * 3 + 2, none⟩ = some (.int .i64 (L.getD j default).value) := by
  have h0 := h
  rcases h.2 with ⟨h1, h2⟩ | ⟨g, cap, cur, h1, _, _, h4, _⟩
  · exact ⟨none, 0, by rw [h1, h2], by omega, 0, fun h => by omega, fun j hj => by omega⟩
  · subst h1
    refine ⟨_, cap, rfl, h4, g, fun _ => rfl, fun j hj => ?_⟩
    have hc : ∀ i, i < L.length * 3 → w.cell? ⟨g, i, none⟩ = (pqc L)[i]? := fun i hi => World.ownsRow.cellAt h0 i hi
    obtain ⟨g0, g1, g2⟩ := pqc_get L j hj
    exact ⟨(hc _ (by omega)).trans g0, (hc _ (by omega)).trans g1, (hc _ (by omega)).trans g2⟩
theorem PqR.put {B : Nat} {w : World} {g n cap : Nat} {L : List Pq} (hn : L.length = n) (h : PqR B w (.slice (some ⟨g, 0, none⟩) n cap) L) {i : Nat} (hi : i < n) (x : Int) : PqR B (w.setCell ⟨g, i * 3 + 2, none⟩ (.int .i64 x)) (.slice (some ⟨g, 0, none⟩) n cap) (L.set i ⟨(L.getD i default).hash, (L.getD i default).key, x⟩) := by
  subst hn
  have h2 := (World.ownsRow.stored h (i * 3 + 2) (.int .i64 x)).1
  unfold PqR
  rw [pqc_set hi, List.length_set]
  exact h2
theorem IntsR.same8 {B : Nat} {w w' : World} {v : Value} {l : List Int} (h : IntsR B w v l) (e : ∀ k, v.ownBlock = some k → w'.heap[k]? = w.heap[k]?) : IntsR B w' v l := by
  refine ⟨h.1, ?_⟩
  rcases h.2 with h0 | ⟨g, cap, cur, rfl, h1, h2, h3⟩
  · exact .inl h0
  · exact .inr ⟨g, cap, cur, rfl, h1, (e g rfl).trans h2, h3⟩
theorem IntsR.lt8 {B : Nat} {w : World} {v : Value} {l : List Int} (h : IntsR B w v l) : ∀ k, v.ownBlock = some k → k < w.heap.size := fun k hk => (World.ownsRow.lt h k hk).2
/-- The model's seven cells. -/
def mqF (lv : Value) (most v : Nat) (av tv : Value) (same : Int) (inner : Bool) : Nat → Value
  | 0 => lv
  | 1 => .int .i64 (most : Int)
  | 2 => .int .i64 (v : Int)
  | 3 => av
  | 4 => tv
  | 5 => .int .i64 same
  | _ => .bool inner
def mqX (m : Nat) (lv av : Value) (k : Nat) : Prop := k = m ∨ lv.ownBlock = some k ∨ av.ownBlock = some k
/-- The model. -/
structure Mq (w : World) (m : Nat) (lv av tv : Value) (L : List Pq) (most v : Nat) (q : List Int) (same : Int) (inner : Bool) : Prop where
  hd : Blk w m 7 (mqF lv most v av tv same inner)
  row : PqR 0 w lv L
  ask : IntsR 0 w av q
  nl : ∀ k, lv.ownBlock = some k → k ≠ m ∧ av.ownBlock ≠ some k
  na : ∀ k, av.ownBlock = some k → k ≠ m
theorem Mq.same {w w' : World} {m : Nat} {lv av tv : Value} {L : List Pq} {most v : Nat} {q : List Int} {same : Int} {inner : Bool} (h : Mq w m lv av tv L most v q same inner) (e : ∀ k, mqX m lv av k → w'.heap[k]? = w.heap[k]?) : Mq w' m lv av tv L most v q same inner :=
  ⟨h.hd.same (e _ (.inl rfl)), h.row.same fun k hk => e k (.inr (.inl hk)), h.ask.same8 fun k hk => e k (.inr (.inr hk)), h.nl, h.na⟩
theorem Mq.lt {w : World} {m : Nat} {lv av tv : Value} {L : List Pq} {most v : Nat} {q : List Int} {same : Int} {inner : Bool} (h : Mq w m lv av tv L most v q same inner) : ∀ k, mqX m lv av k → k < w.heap.size := by
  rintro k (rfl | y | y)
  · exact h.hd.lt (by omega)
  · exact (h.row.lt k y).2
  · exact h.ask.lt8 k y
theorem Mq.below {w w' : World} {m : Nat} {lv av tv : Value} {L : List Pq} {most v : Nat} {q : List Int} {same : Int} {inner : Bool} (h : Mq w m lv av tv L most v q same inner) (hb : Below w.heap.size w w') : Mq w' m lv av tv L most v q same inner := h.same fun k hk => hb.block k (h.lt k hk)
/-- What a call of the model leaves. -/
def MqR (w : World) (m : Nat) (lv av tv : Value) (L : List Pq) (most v : Nat) (q : List Int) (same : Int) (inner : Bool) (w' : World) : Prop :=
  ∃ lv' av', Mq w' m lv' av' tv L most v q same inner ∧ (∀ k, mqX m lv' av' k → mqX m lv av k ∨ w.heap.size ≤ k) ∧ Ex (mqX m lv av) w w'
theorem MqR.refl {w : World} {m : Nat} {lv av tv : Value} {L : List Pq} {most v : Nat} {q : List Int} {same : Int} {inner : Bool} (h : Mq w m lv av tv L most v q same inner) : MqR w m lv av tv L most v q same inner w := ⟨lv, av, h, fun _ hk => .inl hk, Ex.refl _ _⟩
theorem MqR.trans {w w1 w2 : World} {m : Nat} {lv av lv1 av1 tv : Value} {L2 : List Pq} {most v2 : Nat} {q2 : List Int} {same : Int} {i2 : Bool} (h1 : ∀ k, mqX m lv1 av1 k → mqX m lv av k ∨ w.heap.size ≤ k) (x1 : Ex (mqX m lv av) w w1) (h2 : MqR w1 m lv1 av1 tv L2 most v2 q2 same i2 w2) : MqR w m lv av tv L2 most v2 q2 same i2 w2 := by
  obtain ⟨lv2, av2, g1, g2, g3⟩ := h2
  exact ⟨lv2, av2, g1, fun k hk => (g2 k hk).elim (h1 k) (fun y => .inr (Nat.le_trans x1.size y)), x1.next g3 (fun k hl hk => (h1 k hk).elim id (fun y => by omega))⟩
theorem MqR.below {w w1 w2 : World} {m : Nat} {lv av tv : Value} {L : List Pq} {most v : Nat} {q : List Int} {same : Int} {inner : Bool} (h : MqR w m lv av tv L most v q same inner w1) (hb : Below w1.heap.size w1 w2) : MqR w m lv av tv L most v q same inner w2 := by
  obtain ⟨lv', av', g1, g2, g3⟩ := h
  exact ⟨lv', av', g1.below hb, g2, g3.next (ex_of (X := fun _ => False) hb) (fun _ _ y => y.elim)⟩
theorem MqR.old {w w0 w1 : World} {m : Nat} {lv av tv : Value} {L : List Pq} {most v : Nat} {q : List Int} {same : Int} {inner : Bool} (h : MqR w0 m lv av tv L most v q same inner w1) (hb : Below w.heap.size w w0) : MqR w m lv av tv L most v q same inner w1 := by
  obtain ⟨lv', av', g1, g2, g3⟩ := h
  exact ⟨lv', av', g1, fun k hk => (g2 k hk).elim .inl (fun y => .inr (Nat.le_trans hb.size y)), (ex_of hb).next g3 (fun _ _ y => y)⟩
theorem remQ (x same : Int) (h : 1 ≤ same) (w : World) : (binOp .rem 3 (.int .i64 x) (.int .i64 same)).run Tryz.prog w = .ok (.int .i64 (Int.tmod x same)) w := by
  simp [binOp, go_sem]
  omega
set_option maxRecDepth 100000 in
set_option maxHeartbeats 4000000 in
theorem mone_any {w : World} {m : Nat} {same : Int} (x5 : w.cell? ⟨m, 5, none⟩ = some (.int .i64 same)) (a b : Int) :
    Calls Tryz.prog 28 #[.pointer (some ⟨m, 0, none⟩), .int .i64 a, .int .i64 b] w fun e w' => e = .returned (.bool (oneQ same a b)) ∧ w' = w := by
  unfold oneQ
  by_cases h1 : a = b
  · subst h1
    have e1 : (a == a) = true := by simp
    rw [e1]
    go_enter Tryz.func28, Tryz.ntmps28
    go_wp2_with fail
    go_ret
    exact ⟨rfl, rfl⟩
  · have e1 : (a == b) = false := by rw [beq_eq_false_iff_ne]; exact h1
    rw [e1]
    by_cases h2 : same < 1
    · have e2 : decide (1 ≤ same) = false := by rw [decide_eq_false_iff_not]; omega
      rw [e2]
      go_enter Tryz.func28, Tryz.ntmps28
      go_wp2_with fail
      go_ret
      exact ⟨rfl, rfl⟩
    · have e2 : decide (1 ≤ same) = true := by rw [decide_eq_true_iff]; omega
      have e3 := fun x => remQ x same (by omega)
      have e4 : ¬ same = 0 := by omega
      have e5 : (same == 0) = false := by rw [beq_eq_false_iff_ne]; exact e4
      rw [e2]
      go_enter Tryz.func28, Tryz.ntmps28
      go_wp2_with fail
      go_ret
      exact ⟨rfl, rfl⟩
end Go.Proofs.YtbpflmdefpjcaaaGreat
namespace Go.Proofs.YtbpflmdefpjcaaaGreat
open Go.RowKit Go.WideShapes

section
variable {P : Program} {ops : Array Oper} {Q : Exit → Act → World → Prop} {md : Region.Mode} {S : World → Prop}
/-- Take number i first, its slot written out. -/
theorem takeQ_at {i : Nat} {oi : Oper} {v : Value} {d : Option Nat} {fuel : Nat} {listed : Array Bool} {a : Act} {w : World} (hi : ops[i]? = some oi) (hd : oi.dst = d)
    (hs : Region.noSelect ops = true) (hf : Region.free md ops listed i = true) (hr : (Region.ready md ops listed).contains i = true)
    (hQ : ∀ c a w, Q (.panic c) (a.put d v) w → Q (.panic c) a w) (hy : YieldsIf P ops S oi v a) (hS : S w)
    (h : wpAnyH P md ops Q S fuel (listed.setIfInBounds i true) (a.put d v) w) : wpAnyH P md ops Q S (fuel + 1) listed a w := by
  subst hd
  exact wpAnyH_take hi hs hf hr hQ hy hS h
end
theorem Tryz.infoPq : (Tryz.prog.info? 58).map (fun i => (i.zero, i.size, i.bytes)) = some (some (.agg #[.int .i64 0, .int .i64 0, .int .i64 0]), 3, 24) := by kernel_rfl
theorem new_trip (w : World) (a b c : Int) (t : TypeId) : ∀ j u, [Value.int .i64 a, .int .i64 b, .int .i64 c][j]? = some u → (w.alloc (.cells #[.int .i64 a, .int .i64 b, .int .i64 c] t)).cell? (Addr.add ⟨w.heap.size, 0, none⟩ j) = some u := by
  intro j u hj
  rw [WideShapes.add_plain, World.cell?_alloc_at _ _ _ _ rfl]
  simpa using hj
def tripF (a b c : Int) : Nat → Value
  | 0 => .int .i64 a
  | 1 => .int .i64 b
  | _ => .int .i64 c
theorem trip_blk (w : World) (a b c : Int) (t : TypeId) : Blk (w.alloc (.cells #[.int .i64 a, .int .i64 b, .int .i64 c] t)) w.heap.size 3 (tripF a b c) := by
  refine (Blk.new w _ _).congr fun i hi => ?_
  have : i = 0 ∨ i = 1 ∨ i = 2 := by simp at hi; omega
  rcases this with rfl | rfl | rfl <;> rfl
/-- The version one up. -/
theorem Mq.ver {w : World} {m : Nat} {lv av tv : Value} {L : List Pq} {most v : Nat} {q : List Int} {same : Int} {inner : Bool} (h : Mq w m lv av tv L most v q same inner) : Mq (w.setCell ⟨m, 2, none⟩ (.int .i64 ((v : Int) + 1))) m lv av tv L most (v + 1) q same inner := by
  have o : ∀ k, k ≠ m → (w.setCell ⟨m, 2, none⟩ (.int .i64 ((v : Int) + 1))).heap[k]? = w.heap[k]? := fun k hk => Below.heap_setCell w ⟨m, 2, none⟩ _ k hk
  refine ⟨(h.hd.put 2 _).congr fun j hj => ?_, h.row.same fun k hk => o k (h.nl k hk).1, h.ask.same8 fun k hk => o k (h.na k hk), h.nl, h.na⟩
  have : j = 0 ∨ j = 1 ∨ j = 2 ∨ j = 3 ∨ j = 4 ∨ j = 5 ∨ j = 6 := by omega
  rcases this with rfl | rfl | rfl | rfl | rfl | rfl | rfl <;> rfl
/-- The row another one. -/
theorem Mq.rowed {w w' : World} {m : Nat} {lv lv' av tv : Value} {L L' : List Pq} {most v : Nat} {q : List Int} {same : Int} {inner : Bool} (h : Mq w m lv av tv L most v q same inner) (hX : Blk w' m 7 (fun x => if x = 0 then lv' else mqF lv most v av tv same inner x)) (hr : PqR 0 w' lv' L') (ha : ∀ k, av.ownBlock = some k → w'.heap[k]? = w.heap[k]?) (hn : ∀ k, lv'.ownBlock = some k → lv.ownBlock = some k ∨ w.heap.size ≤ k) : Mq w' m lv' av tv L' most v q same inner := by
  refine ⟨hX.congr fun j hj => ?_, hr, h.ask.same8 ha, fun k hk => (hn k hk).elim (h.nl k) (fun y => ⟨by have := h.hd.lt (by omega); omega, fun e => by have := h.ask.lt8 k e; omega⟩), h.na⟩
  have : j = 0 ∨ j = 1 ∨ j = 2 ∨ j = 3 ∨ j = 4 ∨ j = 5 ∨ j = 6 := by omega
  rcases this with rfl | rfl | rfl | rfl | rfl | rfl | rfl <;> rfl
theorem vwrap {v : Nat} (hv : v ≤ 1000000) : IntKind.i64.wrap ((v : Int) + 1) = (v : Int) + 1 := i64_small (by omega) (by omega)
set_option maxRecDepth 100000 in
set_option maxHeartbeats 4000000 in
theorem mput_hit {w : World} {m : Nat} {lv av tv : Value} {L : List Pq} {most v : Nat} {q : List Int} {same : Int} {inner : Bool} (h : Mq w m lv av tv L most v q same inner) (hv : v ≤ 1000000) {i : Nat} (hi : i < L.length) (p0 p1 x : Int) :
    Calls Tryz.prog 14 #[.pointer (some ⟨m, 0, none⟩), .int .i64 (i : Int), .agg #[.int .i64 p0, .int .i64 p1, .int .i64 x]] w fun e w' => e = .returned (.tuple #[]) ∧ MqR w m lv av tv (L.set i ⟨(L.getD i default).hash, (L.getD i default).key, x⟩) most (v + 1) q same inner w' := by
  obtain ⟨a, cap, hlv, hcap, g, ha, _⟩ := h.row.open
  have ha' := ha (by omega)
  subst ha' hlv
  have hgm : g ≠ m := (h.nl g rfl).1
  obtain ⟨w0, hw0⟩ : ∃ V, w.alloc (.cells #[.int .i64 p0, .int .i64 p1, .int .i64 x] 58) = V := ⟨_, rfl⟩
  have hb0 : Below w.heap.size w w0 := by rw [← hw0]; exact (Below.refl _ w).alloc (Nat.le_refl _) _
  have hB0 : Blk w0 w.heap.size 3 (tripF p0 p1 x) := by rw [← hw0]; exact trip_blk w p0 p1 x _
  have h0 := h.below hb0
  have lm := h.hd.lt (by omega)
  have lg := (h.row.lt g rfl).2
  have nm : m ≠ w.heap.size := by omega
  have ng : g ≠ w.heap.size := by omega
  have e1 := vwrap hv
  have x2 : w0.cell? ⟨m, 2, none⟩ = some (.int .i64 (v : Int)) := h0.hd.c 2 (by omega)
  have z2 : w0.frozen? ⟨m, 2, none⟩ = false := h0.hd.z 2
  obtain ⟨w1, hw1⟩ : ∃ V, w0.setCell ⟨m, 2, none⟩ (.int .i64 ((v : Int) + 1)) = V := ⟨_, rfl⟩
  have h1 : Mq w1 m (.slice (some ⟨g, 0, none⟩) L.length cap) av tv L most (v + 1) q same inner := by rw [← hw1]; exact h0.ver
  have h1d : Mq w1.drew m (.slice (some ⟨g, 0, none⟩) L.length cap) av tv L most (v + 1) q same inner := h1.same fun _ _ => rfl
  have hx1 : Ex (fun k => k = m) w0 w1 := by rw [← hw1]; exact (Ex.refl (fun k => k = m) w0).setCell (p := ⟨m, 2, none⟩) (fun _ => rfl) _
  have hB1 : Blk w1.drew w.heap.size 3 (tripF p0 p1 x) := Blk.same (w := w1) (hB0.same (hx1.block _ (hB0.lt (by omega)) (fun e => nm e.symm))) rfl
  have s0 : w1.drew.cell? ⟨m, 0, none⟩ = some (.slice (some ⟨g, 0, none⟩) L.length cap) ∧ w1.drew.cell? ⟨w.heap.size, 2, none⟩ = some (.int .i64 x) := ⟨h1d.hd.c 0 (by omega), hB1.c 2 (by omega)⟩
  obtain ⟨w2, hw2⟩ : ∃ V, w1.drew.setCell ⟨g, i * 3 + 2, none⟩ (.int .i64 x) = V := ⟨_, rfl⟩
  have o2 : ∀ k, k ≠ g → w2.heap[k]? = w1.drew.heap[k]? := fun k hk => by rw [← hw2]; exact Below.heap_setCell w1.drew ⟨g, i * 3 + 2, none⟩ _ k hk
  have s1 : w2.cell? ⟨m, 0, none⟩ = some (.slice (some ⟨g, 0, none⟩) L.length cap) ∧ w2.cell? ⟨w.heap.size, 2, none⟩ = some (.int .i64 x) := ⟨(World.cell?_of_block (a := ⟨m, 0, none⟩) (o2 m (Ne.symm hgm))).trans s0.1, (World.cell?_of_block (a := ⟨w.heap.size, 2, none⟩) (o2 _ (Ne.symm ng))).trans s0.2⟩
  obtain ⟨a', cap', hlv', hcap', g', ha', hc'⟩ := h1d.row.open
  have c2 : w1.drew.cell? ⟨g, i * 3 + 2, none⟩ = some (.int .i64 (L.getD i default).value) := by
    cases hlv'
    have := ha' (by omega)
    cases this
    exact (hc' i hi).2.2
  have z3 : w1.drew.frozen? ⟨g, i * 3 + 2, none⟩ = false := World.ownsRow.frozenAt h1d.row _
  have hR : MqR w m (.slice (some ⟨g, 0, none⟩) L.length cap) av tv (L.set i ⟨(L.getD i default).hash, (L.getD i default).key, x⟩) most (v + 1) q same inner w2 := by
    have hrow : PqR 0 w2 (.slice (some ⟨g, 0, none⟩) L.length cap) (L.set i ⟨(L.getD i default).hash, (L.getD i default).key, x⟩) := by rw [← hw2]; exact PqR.put rfl h1d.row hi x
    refine ⟨_, _, ⟨h1d.hd.same (o2 m (Ne.symm hgm)), hrow, h1d.ask.same8 fun k hk => o2 k (fun e => (h.nl g rfl).2 (e ▸ hk)), h1d.nl, h1d.na⟩, fun _ hk => .inl hk, ?_⟩
    have hx2 : Ex (fun k => k = g) w1.drew w2 := by rw [← hw2]; exact (Ex.refl (fun k => k = g) w1.drew).setCell (p := ⟨g, i * 3 + 2, none⟩) (fun _ => rfl) _
    exact (((ex_of hb0).next hx1 (fun _ _ e => .inl e)).next (ex_of (X := fun _ => False) (Below.refl _ w1).drew) (fun _ _ y => y.elim)).next hx2 (fun _ _ e => .inr (.inl (by rw [e]; rfl)))
  have t1 : (i : Int) < (L.length : Int) := by omega
  have t2 : ¬ (i : Int) < 0 := by omega
  have HR := Lib.hid hR
  have HW0 := Lib.hid hw0
  have HW1 := Lib.hid hw1
  have s1' : (w1.setCell ⟨g, i * 3 + 2, none⟩ (.int .i64 x)).drew.cell? ⟨m, 0, none⟩ = some (.slice (some ⟨g, 0, none⟩) L.length cap) ∧ (w1.setCell ⟨g, i * 3 + 2, none⟩ (.int .i64 x)).drew.cell? ⟨w.heap.size, 2, none⟩ = some (.int .i64 x) := by rw [← hw2] at s1; exact s1
  have HW2 : Hid ((w1.setCell ⟨g, i * 3 + 2, none⟩ (.int .i64 x)).drew = w2) := hw2
  clear s1
  generalize hL2 : L.set i ⟨(L.getD i default).hash, (L.getD i default).key, x⟩ = L2 at *
  generalize hnn : L.length = n at *
  clear h h0 h1 h1d hb0 hB0 hx1 hB1 hR hw0 hw1 hw2 o2 hc' ha' hlv' ha
  go_enter Tryz.func14, Tryz.ntmps14
  go_upto_region 1 with fail
  rw [HW0.out]
  go_upto_region 4 with fail
  rw [HW1.out]
  go_region_held3 (fun V => V.cell? ⟨m, 0, none⟩ = some (.slice (some ⟨g, 0, none⟩) n cap) ∧ V.cell? ⟨w.heap.size, 2, none⟩ = some (.int .i64 x))
    (first | with_reducible exact s0 | with_reducible exact s1' | fail) (fail)
  go_wp2_with fail
  go_end0
  rw [HW2.out]
  exact ⟨rfl, HR.out⟩
set_option maxRecDepth 100000 in
set_option maxHeartbeats 4000000 in
theorem mput_app {w : World} {m : Nat} {lv av tv : Value} {L : List Pq} {most v : Nat} {q : List Int} {same : Int} {inner : Bool} (h : Mq w m lv av tv L most v q same inner) (hv : v ≤ 1000000) (hl : L.length ≤ 100000) (p0 p1 x : Int) :
    Calls Tryz.prog 14 #[.pointer (some ⟨m, 0, none⟩), .int .i64 (-1), .agg #[.int .i64 p0, .int .i64 p1, .int .i64 x]] w fun e w' => e = .returned (.tuple #[]) ∧ MqR w m lv av tv (L ++ [⟨p0, p1, x⟩]) most (v + 1) q same inner w' := by
  obtain ⟨i0, hi0, hz0, hz1, hz2⟩ := info_parts Tryz.infoPq
  obtain ⟨a, cap, hlv, hcap, _⟩ := h.row.open
  subst hlv
  obtain ⟨w0, hw0⟩ : ∃ V, w.alloc (.cells #[.int .i64 p0, .int .i64 p1, .int .i64 x] 58) = V := ⟨_, rfl⟩
  have hb0 : Below w.heap.size w w0 := by rw [← hw0]; exact (Below.refl _ w).alloc (Nat.le_refl _) _
  have hB0 : Blk w0 w.heap.size 3 (tripF p0 p1 x) := by rw [← hw0]; exact trip_blk w p0 p1 x _
  have h0 := h.below hb0
  have lm := h.hd.lt (by omega)
  have nm : m ≠ w.heap.size := by omega
  have e1 := vwrap hv
  have x2 : w0.cell? ⟨m, 2, none⟩ = some (.int .i64 (v : Int)) := h0.hd.c 2 (by omega)
  have z2 : w0.frozen? ⟨m, 2, none⟩ = false := h0.hd.z 2
  obtain ⟨w1, hw1⟩ : ∃ V, w0.setCell ⟨m, 2, none⟩ (.int .i64 ((v : Int) + 1)) = V := ⟨_, rfl⟩
  have h1 : Mq w1 m (.slice a L.length cap) av tv L most (v + 1) q same inner := by rw [← hw1]; exact h0.ver
  have h1d : Mq w1.drew m (.slice a L.length cap) av tv L most (v + 1) q same inner := h1.same fun _ _ => rfl
  have hx1 : Ex (fun k => k = m) w0 w1 := by rw [← hw1]; exact (Ex.refl (fun k => k = m) w0).setCell (p := ⟨m, 2, none⟩) (fun _ => rfl) _
  have hB1 : Blk w1.drew w.heap.size 3 (tripF p0 p1 x) := Blk.same (w := w1) (hB0.same (hx1.block _ (hB0.lt (by omega)) (fun e => nm e.symm))) rfl
  have hSB : Hid (∀ V, Blk V w.heap.size 3 (tripF p0 p1 x) → V.cell? ⟨w.heap.size, 0, none⟩ = some (.int .i64 p0) ∧ V.cell? ⟨w.heap.size, 1, none⟩ = some (.int .i64 p1) ∧ V.cell? ⟨w.heap.size, 2, none⟩ = some (.int .i64 x)) := fun V hb => ⟨hb.c 0 (by omega), hb.c 1 (by omega), hb.c 2 (by omega)⟩
  have s0 := hSB.out _ hB1
  have y0 : w1.drew.cell? ⟨m, 0, none⟩ = some (.slice a L.length cap) := h1d.hd.c 0 (by omega)
  obtain ⟨oA, hoA⟩ : ∃ o : Obj, Obj.cells #[.int .i64 p0, .int .i64 p1, .int .i64 x] 58 = o := ⟨_, rfl⟩
  have hba : Below w1.drew.heap.size w1.drew (w1.drew.alloc oA) := (Below.refl _ w1.drew).alloc (Nat.le_refl _) _
  have y0a : (w1.drew.alloc oA).cell? ⟨m, 0, none⟩ = some (.slice a L.length cap) := (h1d.below hba).hd.c 0 (by omega)
  have s2 := hSB.out _ (hB1.of hba (by omega))
  have hown : (w1.drew.alloc oA).ownsRow 0 58 3 (.slice a L.length cap) L.length (pqc L) := World.ownsRow.alloc h1d.row _
  have hs0 := hb0.size
  have hs1 : w1.heap.size = w0.heap.size := by rw [← hw1]; simp
  have HF : Hid (∀ v' w5, w5.ownsRow 0 58 3 v' (L.length + 1) (pqc L ++ [.int .i64 p0, .int .i64 p1, .int .i64 x]) → (w1.drew.alloc oA).grownBy w5 (Value.slice a L.length cap).ownBlock → (v'.ownBlock = (Value.slice a L.length cap).ownBlock ∨ v'.ownBlock = some (w1.drew.alloc oA).heap.size) →
      (w5.cell? ⟨w.heap.size, 0, none⟩ = some (.int .i64 p0) ∧ w5.cell? ⟨w.heap.size, 1, none⟩ = some (.int .i64 p1) ∧ w5.cell? ⟨w.heap.size, 2, none⟩ = some (.int .i64 x)) ∧ w5.cell? ⟨m, 0, none⟩ = some (.slice a L.length cap) ∧ w5.frozen? ⟨m, 0, none⟩ = false ∧ ((w5.setCell ⟨m, 0, none⟩ v').cell? ⟨w.heap.size, 0, none⟩ = some (.int .i64 p0) ∧ (w5.setCell ⟨m, 0, none⟩ v').cell? ⟨w.heap.size, 1, none⟩ = some (.int .i64 p1) ∧ (w5.setCell ⟨m, 0, none⟩ v').cell? ⟨w.heap.size, 2, none⟩ = some (.int .i64 x)) ∧ MqR w m (.slice a L.length cap) av tv (L ++ [⟨p0, p1, x⟩]) most (v + 1) q same inner (w5.setCell ⟨m, 0, none⟩ v')) := fun v' w5 g1 g2 g3 => by
    have g5 : ∀ k, k < w1.drew.heap.size → (Value.slice a L.length cap).ownBlock ≠ some k → w5.heap[k]? = w1.drew.heap[k]? := fun k hk hne => (g2.block k (Nat.lt_of_lt_of_le hk hba.size) (fun e => hne e.symm)).trans (hba.block k hk)
    have gs : w1.drew.heap.size ≤ w5.heap.size := Nat.le_trans hba.size g2.size
    have hdr : w1.drew.heap.size = w1.heap.size := rfl
    have nX : (Value.slice a L.length cap).ownBlock ≠ some m := fun e => (h.nl m e).1 rfl
    have nR : (Value.slice a L.length cap).ownBlock ≠ some w.heap.size := fun e => by have := (h.row.lt _ e).2; omega
    have hX5 : Blk w5 m 7 _ := h1d.hd.same (g5 m (by omega) nX)
    have hB5 := hB1.same (g5 w.heap.size (hB1.lt (by omega)) nR)
    have o6 : ∀ k, k ≠ m → (w5.setCell ⟨m, 0, none⟩ v').heap[k]? = w5.heap[k]? := fun k hk => Below.heap_setCell w5 ⟨m, 0, none⟩ _ k hk
    have hv' : ∀ k, v'.ownBlock = some k → ((Value.slice a L.length cap).ownBlock = some k ∨ w1.drew.heap.size ≤ k) ∧ k < w5.heap.size := fun k hk => ⟨by
      rcases g3 with e | e
      · exact .inl (e ▸ hk)
      · rw [e] at hk
        injection hk with hk
        have := hba.size
        exact .inr (by omega), (World.ownsRow.lt g1 k hk).2⟩
    have nv : ∀ k, v'.ownBlock = some k → k ≠ m := fun k hk e => by
      rcases (hv' k hk).1 with y | y
      · exact nX (e ▸ y)
      · omega
    have hrow : PqR 0 (w5.setCell ⟨m, 0, none⟩ v') v' (L ++ [⟨p0, p1, x⟩]) := by
      refine PqR.same (w := w5) ?_ (fun k hk => o6 k (nv k hk))
      unfold PqR
      rw [pqc_app, List.length_append]
      exact g1
    have hfin := h1d.rowed (hX5.put 0 v') hrow (fun k hk => (o6 k (h.na k hk)).trans (g5 k (h1d.ask.lt8 k hk) (fun e => (h.nl k e).2 hk))) (fun k hk => (hv' k hk).1)
    refine ⟨hSB.out _ hB5, hX5.c 0 (by omega), hX5.z 0, hSB.out _ (hB5.same (o6 _ (Ne.symm nm))), v', av, hfin, fun k hk => ?_, ?_⟩
    · rcases hk with y | y | y
      · exact .inl (.inl y)
      · exact (hv' k y).1.elim (fun z => .inl (.inr (.inl z))) (fun z => .inr (by omega))
      · exact .inl (.inr (.inr y))
    · have hx5 : Ex (fun k => (Value.slice a L.length cap).ownBlock = some k) w1.drew w5 := ⟨g2.os.trans hba.os, g2.tape.trans hba.tape, g2.output.trans hba.output, gs, fun k hk hne => g5 k hk hne⟩
      have hx6 : Ex (fun k => k = m) w5 (w5.setCell ⟨m, 0, none⟩ v') := (Ex.refl (fun k => k = m) w5).setCell (p := ⟨m, 0, none⟩) (fun _ => rfl) _
      exact ((((ex_of hb0).next hx1 (fun _ _ e => .inl e)).next (ex_of (X := fun _ => False) (Below.refl _ w1).drew) (fun _ _ y => y.elim)).next hx5 (fun _ _ e => .inr (.inl e))).next hx6 (fun _ _ e => .inl e)
  have HW0 := Lib.hid hw0
  have HW1 := Lib.hid hw1
  subst hoA
  generalize hnn : L.length = n at *
  clear h h0 h1 h1d hb0 hB0 hx1 hB1 hw0 hw1 hba hSB hs0 hs1
  go_enter Tryz.func14, Tryz.ntmps14
  go_upto_region 1 with fail
  rw [HW0.out]
  go_upto_region 3 with fail
  rw [HW1.out]
  refine wp_region_noPanic ?_
  refine wp_region_held_drew (S := fun V => V.cell? ⟨w.heap.size, 0, none⟩ = some (.int .i64 p0) ∧ V.cell? ⟨w.heap.size, 1, none⟩ = some (.int .i64 p1) ∧ V.cell? ⟨w.heap.size, 2, none⟩ = some (.int .i64 x)) (by kernel_rfl) s0 (fun hSc => ?_)
  generalize w1.drew = wd at *
  refine takeQ_at (i := 0) (d := some 15) (v := ?_) rfl rfl (by kernel_rfl) (by kernel_rfl) (by kernel_rfl) (fun _ _ _ h => h) (Or.inl ⟨by rfl, ?hy⟩) hSc ?_
  case hy => (intro w hSw; (try dsimp only at hSw); go_simp; try with_reducible rfl)
  simp only [Act.put, List.setIfInBounds_toArray, List.set_cons_zero, List.set_cons_succ]
  refine takeQ_at (i := 1) (d := some 16) (v := ?_) rfl rfl (by kernel_rfl) (by kernel_rfl) (by kernel_rfl) (fun _ _ _ h => h) (Or.inl ⟨by rfl, ?hy⟩) hSc ?_
  case hy => (intro w hSw; (try dsimp only at hSw); go_simp; try with_reducible rfl)
  simp only [Act.put, List.setIfInBounds_toArray, List.set_cons_zero, List.set_cons_succ]
  refine takeQ_at (i := 2) (d := some 17) (v := ?_) rfl rfl (by kernel_rfl) (by kernel_rfl) (by kernel_rfl) (fun _ _ _ h => h) (Or.inl ⟨by rfl, ?hy⟩) hSc ?_
  case hy => (intro w hSw; (try dsimp only at hSw); go_simp; try with_reducible rfl)
  simp only [Act.put, List.setIfInBounds_toArray, List.set_cons_zero, List.set_cons_succ]
  refine takeQ_at (i := 3) (d := some 18) (v := ?_) rfl rfl (by kernel_rfl) (by kernel_rfl) (by kernel_rfl) (fun _ _ _ h => h) (Or.inl ⟨by rfl, ?hy⟩) hSc ?_
  case hy => (intro w hSw; (try dsimp only at hSw); go_simp; try with_reducible rfl)
  simp only [Act.put, List.setIfInBounds_toArray, List.set_cons_zero, List.set_cons_succ]
  refine takeQ_at (i := 5) (d := some 20) (v := ?_) rfl rfl (by kernel_rfl) (by kernel_rfl) (by kernel_rfl) (fun _ _ _ h => h) (Or.inl ⟨by rfl, ?hy⟩) hSc ?_
  case hy => (intro w hSw; (try dsimp only at hSw); go_simp; try with_reducible rfl)
  simp only [Act.put, List.setIfInBounds_toArray, List.set_cons_zero, List.set_cons_succ]
  refine wpAnyH_ready (rs := [4, 6]) (by kernel_rfl) (by simp) ?_
  refine AllReadyH.cons rfl (fun K hK => ?_) (AllReadyH.cons rfl (fun K hK => ?_) AllReadyH.nil)
  · go_simp
    refine hK.out _ _ hSc (fun hSn => ?_)
    clear hK K
    refine wpAnyH_ready (rs := [6]) (by kernel_rfl) (by simp) ?_
    refine AllReadyH.cons rfl (fun K hK => ?_) AllReadyH.nil
    go_simp
    refine hK.out _ _ s2 (fun hSn => ?_)
    clear hK K
    refine wpAnyH_ready (rs := [7]) (by kernel_rfl) (by simp) ?_
    refine AllReadyH.cons rfl (fun K hK => ?_) AllReadyH.nil
    refine step_append_own rfl _ _ 34 rfl 0 58 i0 (.agg #[.int .i64 0, .int .i64 0, .int .i64 0]) 3 24 Tryz.underlying34 hi0 hz0 hz1 hz2 rfl (by decide) (.slice a n cap) n (pqc L) (by simp [Act.eval]) hown ⟨wd.heap.size, 0, none⟩ 1 1 [.int .i64 p0, .int .i64 p1, .int .i64 x] (by simp [Act.eval]) rfl (new_trip _ _ _ _ _) (by simp [Value.oneCell']) (by unfold maxLen; omega) (by omega) (Nat.zero_le _) ?_
    intro v' w5 hown2 hgrow hat
    obtain ⟨s3, g2, gz2, s4, hR⟩ := HF.out v' w5 hown2 hgrow hat
    have HR := Lib.hid hR
    obtain ⟨a2, cap2, hv2⟩ := ownsRow_shape hown2
    subst hv2
    clear hown2 hgrow hat hR
    refine hK.out _ _ s3 (fun hSn => ?_)
    clear hK K
    refine takeQ_at (i := 8) (d := some 23) (v := ?_) rfl rfl (by kernel_rfl) (by kernel_rfl) (by kernel_rfl) (fun _ _ _ h => h) (Or.inl ⟨by rfl, ?hy⟩) s3 ?_
    case hy => (intro w hSw; (try dsimp only at hSw); go_simp; try with_reducible rfl)
    simp only [Act.put, List.setIfInBounds_toArray]
    refine takeQ_at (i := 9) (d := some 24) (v := ?_) rfl rfl (by kernel_rfl) (by kernel_rfl) (by kernel_rfl) (fun _ _ _ h => h) (Or.inl ⟨by rfl, ?hy⟩) s3 ?_
    case hy => (intro w hSw; (try dsimp only at hSw); go_simp; try with_reducible rfl)
    simp only [Act.put]
    refine wpAnyH_ready (rs := [10]) (by kernel_rfl) (by simp) ?_
    refine AllReadyH.cons rfl (fun K hK => ?_) AllReadyH.nil
    go_simp
    refine hK.out _ _ s4 (fun hSn => ?_)
    clear hK K
    refine wpAnyH_done (by kernel_rfl) ?_ _
    refine NoPanic.normal ?_
    go_wp2_with fail
    exact bodyPost_ret (v := .tuple #[]) (results_none rfl _ _ _) rfl ⟨rfl, HR.out⟩
  · go_simp
    refine hK.out _ _ s2 (fun hSn => ?_)
    clear hK K
    refine wpAnyH_ready (rs := [4]) (by kernel_rfl) (by simp) ?_
    refine AllReadyH.cons rfl (fun K hK => ?_) AllReadyH.nil
    go_simp
    refine hK.out _ _ s2 (fun hSn => ?_)
    clear hK K
    refine wpAnyH_ready (rs := [7]) (by kernel_rfl) (by simp) ?_
    refine AllReadyH.cons rfl (fun K hK => ?_) AllReadyH.nil
    refine step_append_own rfl _ _ 34 rfl 0 58 i0 (.agg #[.int .i64 0, .int .i64 0, .int .i64 0]) 3 24 Tryz.underlying34 hi0 hz0 hz1 hz2 rfl (by decide) (.slice a n cap) n (pqc L) (by simp [Act.eval]) hown ⟨wd.heap.size, 0, none⟩ 1 1 [.int .i64 p0, .int .i64 p1, .int .i64 x] (by simp [Act.eval]) rfl (new_trip _ _ _ _ _) (by simp [Value.oneCell']) (by unfold maxLen; omega) (by omega) (Nat.zero_le _) ?_
    intro v' w5 hown2 hgrow hat
    obtain ⟨s3, g2, gz2, s4, hR⟩ := HF.out v' w5 hown2 hgrow hat
    have HR := Lib.hid hR
    obtain ⟨a2, cap2, hv2⟩ := ownsRow_shape hown2
    subst hv2
    clear hown2 hgrow hat hR
    refine hK.out _ _ s3 (fun hSn => ?_)
    clear hK K
    refine takeQ_at (i := 8) (d := some 23) (v := ?_) rfl rfl (by kernel_rfl) (by kernel_rfl) (by kernel_rfl) (fun _ _ _ h => h) (Or.inl ⟨by rfl, ?hy⟩) s3 ?_
    case hy => (intro w hSw; (try dsimp only at hSw); go_simp; try with_reducible rfl)
    simp only [Act.put, List.setIfInBounds_toArray]
    refine takeQ_at (i := 9) (d := some 24) (v := ?_) rfl rfl (by kernel_rfl) (by kernel_rfl) (by kernel_rfl) (fun _ _ _ h => h) (Or.inl ⟨by rfl, ?hy⟩) s3 ?_
    case hy => (intro w hSw; (try dsimp only at hSw); go_simp; try with_reducible rfl)
    simp only [Act.put]
    refine wpAnyH_ready (rs := [10]) (by kernel_rfl) (by simp) ?_
    refine AllReadyH.cons rfl (fun K hK => ?_) AllReadyH.nil
    go_simp
    refine hK.out _ _ s4 (fun hSn => ?_)
    clear hK K
    refine wpAnyH_done (by kernel_rfl) ?_ _
    refine NoPanic.normal ?_
    go_wp2_with fail
    exact bodyPost_ret (v := .tuple #[]) (results_none rfl _ _ _) rfl ⟨rfl, HR.out⟩
end Go.Proofs.YtbpflmdefpjcaaaGreat
namespace Go.Proofs.YtbpflmdefpjcaaaGreat
open Go.RowKit Go.WideShapes

theorem pq_cutc {B : Nat} {w : World} {g n cap : Nat} {l : List Pq} (hn : l.length = n) (h : PqR B w (.slice (some ⟨g, 0, none⟩) n cap) l) {i : Nat} (hi : i < n) : (∀ j u, (pqc (l.take i))[j]? = some u → w.cell? ((⟨g, 0, none⟩ : Addr).add j) = some u) ∧ (∀ j u, (pqc (l.drop (i + 1)))[j]? = some u → w.cell? ((⟨g, (i + 1) * 3, none⟩ : Addr).add j) = some u) := by
  subst hn
  have hc : ∀ j, j < l.length * 3 → w.cell? ⟨g, j, none⟩ = (pqc l)[j]? := fun j hj => World.ownsRow.cellAt h j hj
  have e1 : pqc l = pqc (l.take i) ++ pqc (l.drop i) := by rw [← pqc_app, List.take_append_drop]
  have e2 : pqc l = pqc (l.take (i + 1)) ++ pqc (l.drop (i + 1)) := by rw [← pqc_app, List.take_append_drop]
  have l1 : (pqc (l.take i)).length = i * 3 := by rw [pqc_len, List.length_take, Nat.min_eq_left (by omega)]
  have l2 : (pqc (l.take (i + 1))).length = (i + 1) * 3 := by rw [pqc_len, List.length_take, Nat.min_eq_left (by omega)]
  have l3 : (pqc (l.drop (i + 1))).length = (l.length - (i + 1)) * 3 := by rw [pqc_len, List.length_drop]
  refine ⟨fun j u hj => ?_, fun j u hj => ?_⟩
  · have hl := (List.getElem?_eq_some_iff.1 hj).1
    have ea : (⟨g, 0, none⟩ : Addr).add j = ⟨g, j, none⟩ := by by_cases hj0 : j = 0 <;> simp [Addr.add, hj0]
    rw [ea, hc j (by omega), e1, List.getElem?_append_left hl, hj]
  · have hl := (List.getElem?_eq_some_iff.1 hj).1
    have ea : (⟨g, (i + 1) * 3, none⟩ : Addr).add j = ⟨g, (i + 1) * 3 + j, none⟩ := by simp [Addr.add]
    rw [ea, hc _ (by omega), e2, List.getElem?_append_right (by omega), l2, show (i + 1) * 3 + j - (i + 1) * 3 = j by omega, hj]
set_option maxRecDepth 100000 in
set_option maxHeartbeats 4000000 in
theorem mout_any {w : World} {m : Nat} {lv av tv : Value} {L : List Pq} {most v : Nat} {q : List Int} {same : Int} {inner : Bool} (h : Mq w m lv av tv L most v q same inner) (hv : v ≤ 1000000) {i : Nat} (hi : i < L.length) (hl : L.length ≤ 100000) :
    Calls Tryz.prog 15 #[.pointer (some ⟨m, 0, none⟩), .int .i64 (i : Int)] w fun e w' => e = .returned (.tuple #[]) ∧ MqR w m lv av tv (L.eraseIdx i) most (v + 1) q same inner w' := by
  obtain ⟨i0, hi0, hz0, hz1, hz2⟩ := info_parts Tryz.infoPq
  obtain ⟨a, cap, hlv, hcap, g, ha, _⟩ := h.row.open
  have ha' := ha (by omega)
  subst ha' hlv
  have e1 := vwrap hv
  have lm := h.hd.lt (by omega)
  have x2 : w.cell? ⟨m, 2, none⟩ = some (.int .i64 (v : Int)) := h.hd.c 2 (by omega)
  have z2 : w.frozen? ⟨m, 2, none⟩ = false := h.hd.z 2
  obtain ⟨w1, hw1⟩ : ∃ V, w.setCell ⟨m, 2, none⟩ (.int .i64 ((v : Int) + 1)) = V := ⟨_, rfl⟩
  have h1 : Mq w1 m (.slice (some ⟨g, 0, none⟩) L.length cap) av tv L most (v + 1) q same inner := by rw [← hw1]; exact h.ver
  have hx1 : Ex (fun k => k = m) w w1 := by rw [← hw1]; exact (Ex.refl (fun k => k = m) w).setCell (p := ⟨m, 2, none⟩) (fun _ => rfl) _
  obtain ⟨n, hn⟩ : ∃ n, L.length = n := ⟨_, rfl⟩
  have HN := Lib.hid hn
  have hr1 : PqR 0 w1 (.slice (some ⟨g, 0, none⟩) n cap) L := by rw [← hn]; exact h1.row
  have e5 : IntKind.i64.wrap ((i : Int) + 1) = ((i + 1 : Nat) : Int) := by rw [i64_small (by omega) (by omega)]; omega
  obtain ⟨v1, W1, hap1, hO1, hg1, _, hob1⟩ := run_append_own_at (P := Tryz.prog) (w := w1) w1.heap.size 34 34 58 i0 (.agg #[.int .i64 0, .int .i64 0, .int .i64 0]) 3 24 Tryz.underlying34 hi0 hz0 hz1 hz2 rfl (by omega) (.slice none 0 0) 0 [] (World.ownsRow_nil _ _ _ _) ⟨g, 0, none⟩ i cap (pqc (L.take i)) (by rw [pqc_len, List.length_take, Nat.min_eq_left (by omega)]) (pq_cutc hn hr1 (by omega)).1 (pqc_one _) (by unfold maxLen; omega) (by omega) (Nat.le_refl _)
  have hB1 : Below w1.heap.size w1 W1 := (Below.refl _ w1).grown hg1 (Nat.le_refl _) (fun k e => by cases e)
  have hP2 : PqR 0 W1 (.slice (some ⟨g, 0, none⟩) n cap) L := hr1.same fun k hk => hB1.block k (hr1.lt k hk).2
  obtain ⟨ad, had, hcl⟩ : ∃ ad : Addr, (if cap = i + 1 then some (⟨g, 0, none⟩ : Addr) else some ⟨g, (i + 1) * 3, none⟩) = some ad ∧ ∀ j u, (pqc (L.drop (i + 1)))[j]? = some u → W1.cell? (ad.add j) = some u := by
    by_cases hci : cap = i + 1
    · refine ⟨⟨g, 0, none⟩, by rw [if_pos hci], fun j u hj => ?_⟩
      rw [List.drop_eq_nil_of_le (by omega)] at hj
      simp [pqc] at hj
    · exact ⟨⟨g, (i + 1) * 3, none⟩, by rw [if_neg hci], (pq_cutc hn hP2 (by omega)).2⟩
  obtain ⟨v2, W2, hap2, hO2, hg2, _, hob2⟩ := run_append_own_at (P := Tryz.prog) (w := W1) w1.heap.size 34 34 58 i0 (.agg #[.int .i64 0, .int .i64 0, .int .i64 0]) 3 24 Tryz.underlying34 hi0 hz0 hz1 hz2 rfl (by omega) v1 _ _ hO1 ad (n - (i + 1)) (cap - (i + 1)) (pqc (L.drop (i + 1))) (by rw [pqc_len, List.length_drop, hn]) hcl (pqc_one _) (by unfold maxLen; omega) (by omega) hB1.size
  have hB2 : Below w1.heap.size w1 W2 := hB1.grown hg2 hB1.size (fun k e => by have := World.ownsRow.lt hO1 k e; omega)
  have lm1 : m < w1.heap.size := h1.hd.lt (by omega)
  have x0 : W2.cell? ⟨m, 0, none⟩ = some (.slice (some ⟨g, 0, none⟩) n cap) := by rw [← hn]; exact (h1.below hB2).hd.c 0 (by omega)
  have z0 : W2.frozen? ⟨m, 0, none⟩ = false := (h1.below hB2).hd.z 0
  have y0 : w1.cell? ⟨m, 0, none⟩ = some (.slice (some ⟨g, 0, none⟩) n cap) := by rw [← hn]; exact h1.hd.c 0 (by omega)
  have y1 : W1.cell? ⟨m, 0, none⟩ = some (.slice (some ⟨g, 0, none⟩) n cap) := by rw [← hn]; exact (h1.below hB1).hd.c 0 (by omega)
  have hR : MqR w m (.slice (some ⟨g, 0, none⟩) L.length cap) av tv (L.eraseIdx i) most (v + 1) q same inner (W2.setCell ⟨m, 0, none⟩ v2) := by
    have h2 := h1.below hB2
    have o6 : ∀ k, k ≠ m → (W2.setCell ⟨m, 0, none⟩ v2).heap[k]? = W2.heap[k]? := fun k hk => Below.heap_setCell W2 ⟨m, 0, none⟩ _ k hk
    have hv2 : ∀ k, v2.ownBlock = some k → w1.heap.size ≤ k ∧ k < W2.heap.size := fun k hk => World.ownsRow.lt hO2 k hk
    have hrow : PqR 0 (W2.setCell ⟨m, 0, none⟩ v2) v2 (L.eraseIdx i) := by
      refine PqR.same (w := W2) ?_ (fun k hk => o6 k (by have := hv2 k hk; omega))
      rw [pq_erase]
      unfold PqR
      rw [pqc_app, List.length_append, List.length_take, List.length_drop, hn, Nat.min_eq_left (by omega)]
      rw [Nat.zero_add, List.nil_append] at hO2
      refine ⟨hO2.1, ?_⟩
      rcases hO2.2 with y | ⟨g', cap', cur, e, _, z⟩
      · exact .inl y
      · exact .inr ⟨g', cap', cur, e, Nat.zero_le _, z⟩
    have hs1 : w1.heap.size = w.heap.size := by rw [← hw1]; simp
    refine ⟨v2, av, Mq.rowed h1 (h2.hd.put 0 v2) hrow (fun k hk => (o6 k (h.na k hk)).trans (hB2.block k (h1.ask.lt8 k hk))) (fun k hk => .inr (hv2 k hk).1), fun k hk => ?_, ?_⟩
    · rcases hk with y | y | y
      · exact .inl (.inl y)
      · exact .inr (by have := (hv2 k y).1; omega)
      · exact .inl (.inr (.inr y))
    · have hx6 : Ex (fun k => k = m) W2 (W2.setCell ⟨m, 0, none⟩ v2) := (Ex.refl (fun k => k = m) W2).setCell (p := ⟨m, 0, none⟩) (fun _ => rfl) _
      exact ((hx1.mono (fun _ _ e => .inl e)).next (ex_of (X := fun _ => False) hB2) (fun _ _ y => y.elim)).next hx6 (fun _ _ e => .inl e)
  obtain ⟨a1, cap1, hs1⟩ := ownsRow_shape hO1
  obtain ⟨a2, cap2, hs2⟩ := ownsRow_shape hO2
  subst hs1 hs2
  have HAP1 := Lib.hid hap1
  have HAD := Lib.hid had
  have HAP2 := Lib.hid hap2
  have HR := Lib.hid hR
  have HW1 := Lib.hid hw1
  have hin : i < n := by omega
  have ti : (i : Int) < (n : Int) := by omega
  have hic : i ≤ cap := by omega
  generalize hL2 : L.eraseIdx i = L2 at *
  rw [hn] at *
  clear h h1 hx1 hr1 hO1 hO2 hg1 hg2 hob1 hob2 hB1 hB2 hap1 hap2 hP2 had hcl hR hw1 hn hL2
  generalize 0 + i + (n - (i + 1)) = n2 at *
  generalize 0 + i = i1 at *
  go_enter Tryz.func15, Tryz.ntmps15
  go_upto_region 1 with fail
  rw [HW1.out]
  go_upto_region 3 with (at_builtin; refine wpList_append_run rfl _ _ 34 34 rfl _ _ _ rfl rfl HAP1.out ?_)
  go_wp2_with (at_builtin; refine wpList_append_run rfl _ _ 34 34 rfl _ (.slice (some ad) (n - (i + 1)) (cap - (i + 1))) _ rfl (by rw [← HAD.out]; rfl) HAP2.out ?_)
  all_goals
    go_end0
    exact ⟨rfl, HR.out⟩
end Go.Proofs.YtbpflmdefpjcaaaGreat
