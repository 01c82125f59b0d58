/-
  A zero dictionary: its table is made by its first step.
  A zero dictionary: its first step.
-/
import Derived.Test.YtooneobnfepncaaGreatPnn
import Derived.Test.YtooneobnfepncaaGreatPrAny
namespace Go.Proofs.YtooneobnfepncaaGreat
open Go.RowKit Go.WideShapes

/-- The cells of a zero dictionary. -/
def zdF : Nat → Value
  | 0 => .pointer none
  | 1 => .int .i64 0
  | _ => .int .u64 0
/-- Its table made: all but d is new. -/
structure Zm (w w' : World) (d g gi r h : Nat) : Prop where
  dc : Dc w' d g gi r h (.slice none 0 0) Tb.new (.pointer none) 0 0
  nw : ∀ k, dX g gi r h (.slice none 0 0) k → w.heap.size ≤ k
  ex : Ex (fun k => k = d) w w'
theorem eqTn (w : World) : (binOp .eql 55 (.pointer none) (.pointer none)).run Tryz.prog w = .ok (.bool true) w := by kernel_rfl
set_option maxRecDepth 100000 in
theorem kept_zero {w : World} {d : Nat} (hd : Blk w d 3 zdF) : Calls Tryz.prog 37 #[.pointer (some ⟨d, 0, none⟩)] w fun e w' => ∃ g gi r h, e = .returned (.pointer (some ⟨g, 0, none⟩)) ∧ Zm w w' d g gi r h := by
  have h1 := eqD d
  have h2 := eqTn
  have ld := hd.lt (by omega)
  have k0 : w.cell? ⟨d, 0, none⟩ = some (.pointer none) := hd.c 0 (by omega)
  have CN := new7_any (w := w) (pm := none) mtOk_nil (a := 0) (b := 0) trivial (by decide)
  have HD := Lib.hid hd
  clear hd
  go_enter Tryz.func37, Tryz.ntmps37
  go_wp2_with fail
  refine CN.mono ?_
  rintro e w1 ⟨g, gi, r, h, rfl, hg, hgi, hr, hh, hDt, _, hx⟩
  clear CN
  have hb1 : Below w.heap.size w w1 := hx.below (fun k hk => (noneB hk).elim) (Nat.le_refl _)
  have hd1 : Blk w1 d 3 zdF := HD.out.of hb1 (by omega)
  have c0 : w1.cell? ⟨d, 0, none⟩ = some (.pointer none) := hd1.c 0 (by omega)
  have z0 := hd1.z 0
  have hnew : ∀ k, dX g gi r h (.slice none 0 0) k → w.heap.size ≤ k := fun k hk => by
    rcases hk with e | e | e | e | e
    · omega
    · omega
    · omega
    · omega
    · cases e
  have hne : ∀ k, dX g gi r h (.slice none 0 0) k → k ≠ d := fun k hk => by have := hnew k hk; omega
  have hF : Zm w (w1.setCell ⟨d, 0, none⟩ (.pointer (some ⟨g, 0, none⟩))) d g gi r h := by
    refine ⟨⟨(hd1.put 0 _).congr fun j hj => ?_, hDt.same fun k hk => Below.heap_setCell _ _ _ _ (hne k hk), Tb.new_ok, fun hk => hne d hk rfl, fun hk => noneB hk⟩, hnew, (show Ex (fun k => k = d) w w1 from ex_of hb1).setCell (p := ⟨d, 0, none⟩) (fun _ => rfl) _⟩
    have : j = 0 ∨ j = 1 ∨ j = 2 := by omega
    rcases this with rfl | rfl | rfl <;> rfl
  have y0 : (w1.setCell ⟨d, 0, none⟩ (.pointer (some ⟨g, 0, none⟩))).cell? ⟨d, 0, none⟩ = some (.pointer (some ⟨g, 0, none⟩)) := hF.dc.hd.c 0 (by omega)
  have HF := Lib.hid hF
  clear hF hd1 hDt hx hnew hne hb1
  go_wp2
  go_ret
  exact ⟨g, gi, r, h, rfl, HF.out⟩
set_option maxRecDepth 100000 in
set_option maxHeartbeats 2000000 in
theorem beginScan_zero {w : World} {d : Nat} (hd : Blk w d 3 zdF) {x : Nat} {m : Ma} (hm : Mc w x (.pointer none) d m) (hxd : x ≠ d) (hsc : m.scans ≤ 1000000) :
    Calls Tryz.prog 100 #[.pointer (some ⟨x, 0, none⟩)] w fun e w' => e = .returned (.tuple #[]) ∧ ∃ g gi r h s, w.heap.size ≤ s ∧ Dc w' d g gi r h (.slice none 0 0) Tb.new (.pointer none) 0 0 ∧ (∀ k, dX g gi r h (.slice none 0 0) k → w.heap.size ≤ k) ∧ ¬ dX g gi r h (.slice none 0 0) s ∧ Sk w' s (.pointer (some ⟨g, 0, none⟩)) Tb.new.turn m.hash Tb.new.L 0 (-1) 0 ∧ Mc w' x (.pointer (some ⟨s, 0, none⟩)) d { m with ver := 0, scans := m.scans + 1 } ∧ Ex (fun k => k = x ∨ k = d) w w' := by
  have hbd : Below w.heap.size w w.drew := (Below.refl _ w).drew
  have lx := hm.lt (by omega)
  have ld := hd.lt (by omega)
  have C1 := kept_zero (w := w.drew) (hd.of hbd (by omega))
  have C2 := Lib.hid (fun (V : World) g gi r h (hD : Dt V g gi r h (.slice none 0 0) Tb.new (.pointer none)) => seek_any hD m.hash)
  have hmd : Mc w.drew x (.pointer none) d m := hm.of hbd (by omega)
  have k1 : w.drew.cell? ⟨x, 1, none⟩ = some (.pointer (some ⟨d, 0, none⟩)) := hmd.c 1 (by omega)
  have k5 : w.drew.cell? ⟨x, 5, none⟩ = some (.int .i64 m.hash) := hmd.c 5 (by omega)
  have HMD := Lib.hid hmd
  have HBD := Lib.hid hbd
  have e9 : IntKind.i64.wrap ((m.scans : Int) + 1) = (m.scans : Int) + 1 := i64_small (by omega) (by omega)
  clear hd hm hmd hbd
  go_enter Tryz.func100, Tryz.ntmps100
  go_upto_region 0 with fail
  go_region_held3 (fun V => V.cell? ⟨x, 1, none⟩ = some (.pointer (some ⟨d, 0, none⟩)) ∧ V.cell? ⟨x, 5, none⟩ = some (.int .i64 m.hash))
    (first | with_reducible exact ⟨k1, k5⟩ | with_reducible exact s0 | with_reducible exact s1 | with_reducible exact s2 | fail)
    (first | (go_at_call 37; refine C1.mono ?_; rintro e wK ⟨g, gi, r, h, rfl, hZ⟩; have hMK : Mc wK x (.pointer none) d m := HMD.out.same (hZ.ex.block x lx hxd); have s0 : wK.cell? ⟨x, 1, none⟩ = some (.pointer (some ⟨d, 0, none⟩)) ∧ wK.cell? ⟨x, 5, none⟩ = some (.int .i64 m.hash) := ⟨hMK.c 1 (by omega), hMK.c 5 (by omega)⟩) | (go_at_call 130; refine (C2.out _ _ _ _ _ hZ.dc.dt).mono ?_; rintro e w1 ⟨s, rfl, hs, hK, hb1⟩; have hM1 : Mc w1 x (.pointer none) d m := hMK.of hb1 (by omega); have s1 : w1.cell? ⟨x, 1, none⟩ = some (.pointer (some ⟨d, 0, none⟩)) ∧ w1.cell? ⟨x, 5, none⟩ = some (.int .i64 m.hash) := ⟨hM1.c 1 (by omega), hM1.c 5 (by omega)⟩; have c0 : w1.cell? ⟨x, 0, none⟩ = some (.pointer none) := hM1.c 0 (by omega); have z0 := hM1.z 0; have hM2 := hM1.put 0 (.pointer (some ⟨s, 0, none⟩)); have s2 : (w1.setCell ⟨x, 0, none⟩ (.pointer (some ⟨s, 0, none⟩))).cell? ⟨x, 1, none⟩ = some (.pointer (some ⟨d, 0, none⟩)) ∧ (w1.setCell ⟨x, 0, none⟩ (.pointer (some ⟨s, 0, none⟩))).cell? ⟨x, 5, none⟩ = some (.int .i64 m.hash) := ⟨hM2.c 1 (by omega), hM2.c 5 (by omega)⟩) | fail)
  clear C1 C2 k1 k5
  have hsz := hZ.ex.size
  have hd9 : w.drew.heap.size = w.heap.size := rfl
  have hnc : ¬ cX d g gi r h (.slice none 0 0) x := fun hk => by
    rcases hk with e | e
    · exact hxd e
    · have := hZ.nw x e
      omega
  have hnx : ∀ k, cX d g gi r h (.slice none 0 0) k → k ≠ x := fun k hk e => hnc (by rw [← e]; exact hk)
  have hD2 : Dc (w1.setCell ⟨x, 0, none⟩ (.pointer (some ⟨s, 0, none⟩))) d g gi r h (.slice none 0 0) Tb.new (.pointer none) 0 0 := (hZ.dc.below hb1).same (fun k hk => Below.heap_setCell _ _ _ _ (hnx k hk))
  have hns : ¬ dX g gi r h (.slice none 0 0) s := fun hk => by have := hZ.dc.dt.lt s hk; omega
  have HNW := Lib.hid hZ.nw
  have hM2' : Mc (w1.setCell ⟨x, 0, none⟩ (.pointer (some ⟨s, 0, none⟩))) x (.pointer (some ⟨s, 0, none⟩)) d m := hM2.congr fun j hj => by
    rcases lt17 hj with rfl | rfl | rfl | rfl | rfl | rfl | rfl | rfl | rfl | rfl | rfl | rfl | rfl | rfl | rfl | rfl | rfl <;> rfl
  have hsx : s ≠ x := by omega
  have hK2 : Sk (w1.setCell ⟨x, 0, none⟩ (.pointer (some ⟨s, 0, none⟩))) s (.pointer (some ⟨g, 0, none⟩)) Tb.new.turn m.hash Tb.new.L 0 (-1) 0 := Blk.same hK (Below.heap_setCell _ _ _ _ hsx)
  have hx2 : Ex (fun k => k = x ∨ k = d) w (w1.setCell ⟨x, 0, none⟩ (.pointer (some ⟨s, 0, none⟩))) := (((show Ex (fun k => k = x ∨ k = d) w w.drew from ex_of HBD.out).trans (hZ.ex.mono (fun k _ hk => Or.inr hk))).trans (ex_of hb1)).setCell (p := ⟨x, 0, none⟩) (fun _ => Or.inl rfl) _
  have HS : Hid (w.heap.size ≤ s) := by show _ ≤ _; omega
  clear s0 s1 s2 c0 z0 hM1 hM2 hK hb1 hs hMK hZ
  generalize w1.setCell ⟨x, 0, none⟩ (.pointer (some ⟨s, 0, none⟩)) = w2 at *
  have k1 : w2.cell? ⟨x, 1, none⟩ = some (.pointer (some ⟨d, 0, none⟩)) := hM2'.c 1 (by omega)
  have k8 : w2.cell? ⟨x, 8, none⟩ = some (.int .u64 (m.ver : Int)) := hM2'.c 8 (by omega)
  have k9 : w2.cell? ⟨x, 9, none⟩ = some (.int .i64 (m.scans : Int)) := hM2'.c 9 (by omega)
  have d2 : w2.cell? ⟨d, 2, none⟩ = some (.int .u64 0) := hD2.hd.c 2 (by omega)
  have z8 := hM2'.z 8
  have z9 := hM2'.z 9
  have HF : Hid (Mc ((w2.setCell ⟨x, 8, none⟩ (.int .u64 0)).setCell ⟨x, 9, none⟩ (.int .i64 ((m.scans : Int) + 1))) x (.pointer (some ⟨s, 0, none⟩)) d { m with ver := 0, scans := m.scans + 1 }) := ((hM2'.put 8 _).put 9 _).congr fun j hj => by
    rcases lt17 hj with rfl | rfl | rfl | rfl | rfl | rfl | rfl | rfl | rfl | rfl | rfl | rfl | rfl | rfl | rfl | rfl | rfl
    all_goals first | rfl | (show Value.int .i64 (((m.scans + 1 : Nat)) : Int) = Value.int .i64 ((m.scans : Int) + 1); rw [Int.natCast_add]; rfl)
  have HK3 : Hid (Sk ((w2.setCell ⟨x, 8, none⟩ (.int .u64 0)).setCell ⟨x, 9, none⟩ (.int .i64 ((m.scans : Int) + 1))) s (.pointer (some ⟨g, 0, none⟩)) Tb.new.turn m.hash Tb.new.L 0 (-1) 0) := Blk.same hK2 (by rw [Below.heap_setCell _ _ _ _ hsx, Below.heap_setCell _ _ _ _ hsx])
  have HX3 := Lib.hid ((hx2.setCell (p := ⟨x, 8, none⟩) (fun _ => Or.inl rfl) (.int .u64 0)).setCell (p := ⟨x, 9, none⟩) (fun _ => Or.inl rfl) (.int .i64 ((m.scans : Int) + 1)))
  have HD3 : Hid (Dc ((w2.setCell ⟨x, 8, none⟩ (.int .u64 0)).setCell ⟨x, 9, none⟩ (.int .i64 ((m.scans : Int) + 1))) d g gi r h (.slice none 0 0) Tb.new (.pointer none) 0 0) := hD2.same (fun k hk => (Below.heap_setCell _ _ _ _ (hnx k hk)).trans (Below.heap_setCell _ _ _ _ (hnx k hk)))
  clear hM2' hD2 hK2 hx2
  go_wp2_with fail
  go_end0
  exact ⟨rfl, g, gi, r, h, s, HS.out, HD3.out, HNW.out, hns, HK3.out, HF.out, HX3.out⟩
end Go.Proofs.YtooneobnfepncaaGreat
namespace Go.Proofs.YtooneobnfepncaaGreat
open Go.RowKit Go.WideShapes

/-- What a step on no pairs, where none may be, tells. -/
def noU (goal : Nat) : Tu := if goal = 2 ∨ goal = 4 then ⟨3, 0, false, 0, 0⟩ else ⟨2, 0, false, 0, -1⟩
/-- A dictionary without a pair, where none may be, behind a step. -/
def Zs (w w' : World) (d : Nat) : Prop := ∃ g gi r h ev, Dc w' d g gi r h ev Tb.new (.pointer none) 0 0 ∧ (∀ k, dX g gi r h ev k → w.heap.size ≤ k)
set_option maxRecDepth 100000 in
set_option maxHeartbeats 2000000 in
theorem goOn_zero {w : World} {d : Nat} (hd : Blk w d 3 zdF) {x : Nat} {m : Ma} (hm : Mc w x (.pointer none) d m) (hxd : x ≠ d) (h0 : m.scans = 0) :
    Calls Tryz.prog 50 #[.pointer (some ⟨x, 0, none⟩)] w fun e w' => ∃ u sv' m', e = .returned (tuV u) ∧ u = noU m.goal ∧ Mc w' x sv' d m' ∧ Zs w w' d ∧ Ex (fun k => k = x ∨ k = d) w w' := by
  obtain ⟨w1, hw1⟩ : ∃ y, w.alloc (.cells #[.int .i64 0, .int .i64 0, .bool false, .int .i64 0, .int .i64 0] 77) = y := ⟨_, rfl⟩
  obtain ⟨hX1, hB1, hs1⟩ := tu_zero_blk w hw1
  have lx := hm.lt (by omega)
  have ld := hd.lt (by omega)
  have hm1 := hm.of hB1 (by omega)
  have k1 : w1.cell? ⟨x, 1, none⟩ = some (.pointer (some ⟨d, 0, none⟩)) := hm1.c 1 (by omega)
  have k8 : w1.cell? ⟨x, 8, none⟩ = some (.int .u64 (m.ver : Int)) := hm1.c 8 (by omega)
  have k9 : w1.cell? ⟨x, 9, none⟩ = some (.int .i64 (m.scans : Int)) := hm1.c 9 (by omega)
  have d2 : w1.cell? ⟨d, 2, none⟩ = some (.int .u64 0) := (hd.of hB1 (by omega)).c 2 (by omega)
  have hxR : x ≠ w.heap.size := by omega
  have hdR : d ≠ w.heap.size := by omega
  have HCS : Hid (∀ V, Below w.heap.size w V → Calls Tryz.prog 100 #[.pointer (some ⟨x, 0, none⟩)] V fun e w' => e = .returned (.tuple #[]) ∧ ∃ g gi r h s, V.heap.size ≤ s ∧ Dc w' d g gi r h (.slice none 0 0) Tb.new (.pointer none) 0 0 ∧ (∀ k, dX g gi r h (.slice none 0 0) k → V.heap.size ≤ k) ∧ ¬ dX g gi r h (.slice none 0 0) s ∧ Sk w' s (.pointer (some ⟨g, 0, none⟩)) Tb.new.turn m.hash Tb.new.L 0 (-1) 0 ∧ Mc w' x (.pointer (some ⟨s, 0, none⟩)) d { m with ver := 0, scans := m.scans + 1 } ∧ Ex (fun k => k = x ∨ k = d) V w') := fun V hV => beginScan_zero (hd.of hV (by omega)) (hm.of hV (by omega)) hxd (by omega)
  have t0 : ((m.scans : Int) == 0) = true := by rw [beq_iff_eq]; omega
  have HB1 := Lib.hid hB1
  have HX1 := Lib.hid hX1
  have HW1 := Lib.hid hw1
  clear hd hm hm1 hB1 hX1 hw1 h0
  go_enter Tryz.func50, Tryz.ntmps50
  go_upto_region 1 with fail
  rw [HW1.out]
  go_quiet (fail)
  clear t0
  have hBq : Below w.heap.size w (w1.drewN nq) := ⟨HB1.out.os, HB1.out.tape, HB1.out.output, HB1.out.size, HB1.out.block⟩
  have hXq : Blk (w1.drewN nq) w.heap.size 5 rZ := HX1.out.same rfl
  have CS := HCS.out _ hBq
  have HBq := Lib.hid hBq
  have HXq := Lib.hid hXq
  have hsq : (w1.drewN nq).heap.size = w.heap.size + 1 := hs1
  clear hBq hXq k1 k8 k9 d2
  generalize w1.drewN nq = wq at *
  go_wp2_with fail
  refine CS.mono ?_
  rintro e wS ⟨rfl, g, gi, r, h, s, hs, hDc, hnw, hns, hK, hmc, hx⟩
  clear CS HCS
  obtain ⟨f, hf1, hf2⟩ := Tb.new_ok.inv.first m.hash
  have hsx : s ≠ x := by omega
  have hsR : s ≠ w.heap.size := by omega
  have hnc : ¬ cX d g gi r h (.slice none 0 0) x := fun hk => by
    rcases hk with e | e
    · exact hxd e
    · have := hnw x e
      omega
  have hncs : ¬ cX d g gi r h (.slice none 0 0) s := fun hk => by
    rcases hk with e | e
    · omega
    · exact hns e
  have hncR : ¬ cX d g gi r h (.slice none 0 0) w.heap.size := fun hk => by
    rcases hk with e | e
    · exact hdR e.symm
    · have := hnw _ e
      omega
  have hA5 : A5 wS d g gi r h (.slice none 0 0) Tb.new (.pointer none) noM x (.pointer (some ⟨s, 0, none⟩)) 0 0 0 0 { m with ver := 0, scans := m.scans + 1 } s 0 (-1) f wS :=
    ⟨hDc, trivial, hmc, ⟨hK, told_zero _ _ _ _, hf2, Nat.zero_le _, hf1, Int.le_refl _, hncs, fun hk => noneB hk, hsx⟩, Or.inl rfl, Ex.refl _ _⟩
  have hRS : Blk wS w.heap.size 5 rZ := HXq.out.same (hx.block _ (by omega) (fun hk => by rcases hk with e | e; exact hxR e.symm; exact hdR e.symm))
  have k0 : wS.cell? ⟨x, 0, none⟩ = some (.pointer (some ⟨s, 0, none⟩)) := hmc.c 0 (by omega)
  have CN := hA5.next mtOk_nil mvOk_nil (by decide) hnc (fun hk => noneB hk)
  have HX0 : Hid (Ex (fun k => k = x ∨ k = d) w wS) := (show Ex (fun k => k = x ∨ k = d) w wq from ex_of HBq.out).trans hx
  have HNW : Hid (∀ k, dX g gi r h (.slice none 0 0) k → w.heap.size ≤ k) := fun k hk => by have := hnw k hk; omega
  have HRS := Lib.hid hRS
  have hsS : s < wS.heap.size := hK.lt (by omega)
  have hRl : w.heap.size < wS.heap.size := hRS.lt (by omega)
  clear hA5 hmc hK hx hDc hnw hRS HXq HBq hf1 hf2 HX1 HB1 HW1
  go_upto_region 5 with fail
  go_wp2_with fail
  refine CN.mono ?_
  rintro e w6 ⟨j, hij, hjf, hA6, hx6, hVk, hcase⟩
  clear CN k0
  rcases hcase with ⟨n, _, hO, _⟩ | ⟨rfl, _, _⟩
  · have := hO.1
    simp [Tb.new] at this
  have hR6 : Blk w6 w.heap.size 5 rZ := HRS.out.same (hx6.block _ hRl (fun y => y.elim (fun e => hsR e.symm) (fun z => noneB z)))
  have hRl6 := hR6.lt (by omega)
  have lx6 := hA6.mx.lt (by omega)
  have CM := missF_any hA6.dc mtOk_nil hA6.m (by decide) (by decide) (by decide) (by decide) (by decide) (m := { m with ver := 0, scans := m.scans + 1 }) ⟨hA6.mx, hnc, fun hk => noneB hk⟩
  have k4 : w6.cell? ⟨x, 4, none⟩ = some (.func (.func (missF m.goal)) #[] #[]) := hA6.mx.c 4 (by omega)
  have hcf : ∀ args w, (callFunc (missF m.goal) args).run Tryz.prog w = .ok (.enter (missF m.goal) args) w := by
    unfold missF
    split
    · exact Tryz.call89
    · exact Tryz.call87
  have CM' : Calls Tryz.prog (missF m.goal) #[.pointer (some ⟨x, 0, none⟩)] w6 fun e w' => ∃ u, e = .returned (tuV u) ∧ u = noU m.goal ∧ ∃ gi' r' h' ev' a b, Cd w6 d g gi r h (.slice none 0 0) (.pointer none) noM a b 0 0 Tb.new w' gi' r' h' ev' := by
    refine CM.mono ?_
    rintro e w' ⟨u, rfl, hMs⟩
    refine ⟨u, rfl, ?_⟩
    rcases hMs with ⟨_, h2, _⟩ | ⟨h1, _, h3, gi', r', h', ev', h4⟩ | ⟨h1, h3, gi', r', h', ev', h4⟩
    · exact absurd h2 (by decide)
    · exact ⟨by rw [h3]; unfold noU; rw [if_pos h1], gi', r', h', ev', _, _, h4⟩
    · exact ⟨by rw [h3]; unfold noU; rw [if_neg h1], gi', r', h', ev', _, _, h4⟩
  have HMq := Lib.hid hA6.mx
  have HR6 := Lib.hid hR6
  have HX6 : Hid (Ex (fun k => k = x ∨ k = d) w w6) := HX0.out.next hx6 (fun k hk hy => by
    rcases hy with e | e
    · omega
    · exact (noneB e).elim)
  clear hA6 CM hx6 hVk hR6 hij hjf
  generalize missF m.goal = F at *
  go_wp2_with fail
  refine CM'.mono ?_
  rintro e wA ⟨u, rfl, hu, gi', r', h', ev', ca, cb, hF⟩
  clear CM' k4 hcf
  have hRz := HR6.out.same (hF.block hRl6 hncR (fun hk => noneB hk))
  obtain ⟨uk, uy, uf, uv, ue⟩ := u
  unfold tuV
  have q0 : wA.cell? ⟨w.heap.size, 0, none⟩ = some (.int .i64 0) := hRz.c 0 (by omega)
  have q1 : wA.cell? ⟨w.heap.size, 1, none⟩ = some (.int .i64 0) := hRz.c 1 (by omega)
  have q2 : wA.cell? ⟨w.heap.size, 2, none⟩ = some (.bool false) := hRz.c 2 (by omega)
  have q3 : wA.cell? ⟨w.heap.size, 3, none⟩ = some (.int .i64 0) := hRz.c 3 (by omega)
  have q4 : wA.cell? ⟨w.heap.size, 4, none⟩ = some (.int .i64 0) := hRz.c 4 (by omega)
  have z0 := hRz.z 0
  have z1 := hRz.z 1
  have z2 := hRz.z 2
  have z3 := hRz.z 3
  have z4 := hRz.z 4
  have HR9 : Hid (Blk (putU wA w.heap.size ⟨uk, uy, uf, uv, ue⟩) w.heap.size 5 _) := put5_blk hRz _ _ _ _ _
  have hxA : Ex (fun k => k = x ∨ k = d) w wA := HX6.out.next hF.ex (fun k hk hy => by
    rcases hy with e | e
    · rcases e with e | e
      · exact Or.inr e
      · have := HNW.out k e
        omega
    · exact (noneB e).elim)
  have hfx : ∀ k, dX g gi' r' h' ev' k → w.heap.size ≤ k := fun k hk => by
    rcases hF.fx k hk with e | e
    · exact HNW.out k e
    · have := HX6.out.size
      omega
  have hR7 : ∀ k, cX d g gi' r' h' ev' k → k ≠ w.heap.size := fun k hk e => by
    rcases hk with e' | e'
    · exact hdR (by rw [← e', e])
    · rcases hF.fx k e' with e2 | e2
      · exact hncR (Or.inr (by rw [← e]; exact e2))
      · omega
  have hBu := putU_below (B := w.heap.size) (w := wA) w.heap.size (Nat.le_refl _) ⟨uk, uy, uf, uv, ue⟩
  have HF9 : Hid (Mc (putU wA w.heap.size ⟨uk, uy, uf, uv, ue⟩) x (.pointer (some ⟨s, 0, none⟩)) d { m with ver := 0, scans := m.scans + 1 } ∧ Zs w (putU wA w.heap.size ⟨uk, uy, uf, uv, ue⟩) d ∧ Ex (fun k => k = x ∨ k = d) w (putU wA w.heap.size ⟨uk, uy, uf, uv, ue⟩)) :=
    ⟨(HMq.out.same (hF.block lx6 hnc (fun hk => noneB hk))).same (putU_other _ _ _ _ hxR), ⟨g, gi', r', h', ev', hF.dc.same (fun k hk => putU_other _ _ _ k (hR7 k hk)), hfx⟩, ⟨hBu.os.trans hxA.os, hBu.tape.trans hxA.tape, hBu.output.trans hxA.output, Nat.le_trans hxA.size hBu.size, fun k hk hx => (hBu.block k hk).trans (hxA.block k hk hx)⟩⟩
  have HU := Lib.hid hu
  clear hF hRz hxA hfx hu hR7 hBu
  unfold putU put5 at HR9 HF9
  go_wp2_with fail
  generalize World.setCell (World.setCell (World.setCell (World.setCell (World.setCell wA _ _) _ _) _ _) _ _) _ _ = wZ at *
  have o0 : wZ.cell? ⟨w.heap.size, 0, none⟩ = some (.int .i64 uk) := HR9.out.c 0 (by omega)
  have o1 : wZ.cell? ⟨w.heap.size, 1, none⟩ = some (.int .i64 uy) := HR9.out.c 1 (by omega)
  have o2 : wZ.cell? ⟨w.heap.size, 2, none⟩ = some (.bool uf) := HR9.out.c 2 (by omega)
  have o3 : wZ.cell? ⟨w.heap.size, 3, none⟩ = some (.int .i64 uv) := HR9.out.c 3 (by omega)
  have o4 : wZ.cell? ⟨w.heap.size, 4, none⟩ = some (.int .i64 ue) := HR9.out.c 4 (by omega)
  refine bodyPost_ret (v := .agg #[.int .i64 uk, .int .i64 uy, .bool uf, .int .i64 uv, .int .i64 ue]) ?_ rfl ⟨⟨uk, uy, uf, uv, ue⟩, _, _, rfl, HU.out, HF9.out.1, HF9.out.2.1, HF9.out.2.2⟩
  simp [results, Tryz.results50, go_sem, o0, o1, o2, o3, o4]
theorem step_zero {w : World} {d : Nat} (hd : Blk w d 3 zdF) {x : Nat} {m : Ma} (hm : Mc w x (.pointer none) d m) (hxd : x ≠ d) (h0 : m.scans = 0) (hk : m.u.kind = 0) :
    Calls Tryz.prog 21 #[.pointer (some ⟨x, 0, none⟩)] w fun e w' => e = .returned (tuV (noU m.goal)) ∧ Zs w w' d ∧ Ex (fun k => k = x ∨ k = d) w w' := by
  have lx := hm.lt (by omega)
  have ld := hd.lt (by omega)
  refine (step_go hm hk (Q := fun V u _ _ wG => u = noU m.goal ∧ Zs V wG d ∧ Ex (fun k => k = x ∨ k = d) V wG) fun V hV hR => ?_).mono ?_
  · refine (goOn_zero (hd.of hV (by omega)) (hm.of hV (by omega)) hxd h0).mono ?_
    rintro e w' ⟨u, sv', m', rfl, h1, h2, h3, h4⟩
    exact ⟨u, sv', m', rfl, h2, h4.block _ hR (fun hk => by omega), h1, h3, h4⟩
  · rintro e w' ⟨u, sv', m', V, wG, rfl, hV, hR, ⟨rfl, ⟨g, gi, r, h, ev, hD, hn⟩, hx⟩, _, hx2⟩
    have hs := hV.size
    refine ⟨rfl, ⟨g, gi, r, h, ev, hD.same (fun k hk => hx2.block k (hD.lt k hk) (fun hy => ?_)), fun k hk => by have := hn k hk; omega⟩, ((show Ex (fun k => k = x ∨ k = d) w V from ex_of hV).trans hx).next hx2 (fun k hk hy => ?_)⟩
    · rcases hk with e | e
      · omega
      · have := hn k e
        omega
    · rcases hy with e | e
      · exact Or.inl e
      · omega
end Go.Proofs.YtooneobnfepncaaGreat
