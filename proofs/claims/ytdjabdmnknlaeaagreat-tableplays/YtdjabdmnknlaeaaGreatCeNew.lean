/-
  How cells stand behind later steps; newRow and New.
-/
import Derived.Deep.CutRange
import Derived.Test.YtdjabdmnknlaeaaGreatCeGet
import Derived.Test.YtdjabdmnknlaeaaGreatCeBut
namespace Go.Proofs.YtdjabdmnknlaeaaGreat
open Go.RowKit Go.WideShapes

theorem Rw.same {w w' : World} {r h W S cap : Nat} {k : IntKind} {f : Nat → Int} (hR : Rw w r h k W S cap f) (e1 : w'.heap[r]? = w.heap[r]?) (e2 : w'.heap[h]? = w.heap[h]?) : Rw w' r h k W S cap f :=
  ⟨(World.cell?_of_block (a := ⟨r, 0, none⟩) e1).trans hR.r0, (World.cell?_of_block (a := ⟨r, 1, none⟩) e1).trans hR.r1, hR.le, fun j hj => (World.cell?_of_block (a := ⟨h, j, none⟩) e2).trans (hR.hc j hj), fun j => (World.frozen?_of_block (a := ⟨h, j, none⟩) e2).trans (hR.hz j)⟩
theorem Cl.same {w w' : World} {g r h L S : Nat} {f : Nat → Int} (hC : Cl w g r h L S f) (e0 : w'.heap[g]? = w.heap[g]?) (e1 : w'.heap[r]? = w.heap[r]?) (e2 : w'.heap[h]? = w.heap[h]?) : Cl w' g r h L S f :=
  ⟨(World.cell?_of_block (a := ⟨g, 0, none⟩) e0).trans hC.c0, (World.cell?_of_block (a := ⟨g, 1, none⟩) e0).trans hC.c1, hC.rw.same e1 e2, hC.sz, hC.fit⟩
theorem Rw.lt {w : World} {r h W S cap : Nat} {k : IntKind} {f : Nat → Int} (hR : Rw w r h k W S cap f) (hS : 0 < S) : r < w.heap.size ∧ h < w.heap.size := ⟨lt_of_cell hR.r0, lt_of_cell (hR.hc 0 hS)⟩
theorem Cl.lt {w : World} {g r h L S : Nat} {f : Nat → Int} (hC : Cl w g r h L S f) : g < w.heap.size ∧ r < w.heap.size ∧ h < w.heap.size :=
  ⟨lt_of_cell hC.c0, hC.rw.lt (by have := hC.sz.pos; omega)⟩
theorem Rw.below {w w' : World} {r h W S cap : Nat} {k : IntKind} {f : Nat → Int} (hR : Rw w r h k W S cap f) (hS : 0 < S) (hb : Below w.heap.size w w') : Rw w' r h k W S cap f :=
  hR.same (hb.block _ (hR.lt hS).1) (hb.block _ (hR.lt hS).2)
theorem Cl.below {w w' : World} {g r h L S : Nat} {f : Nat → Int} (hC : Cl w g r h L S f) (hb : Below w.heap.size w w') : Cl w' g r h L S f :=
  hC.same (hb.block _ hC.lt.1) (hb.block _ hC.lt.2.1) (hb.block _ hC.lt.2.2)
theorem kd_ne (L : Nat) (x y : Int) : Value.int (kd L) x ≠ Value.int .i64 y :=
  by_L L (fun h => by simp [kd, h]) (fun h k => by simp [kd, h, k]) (fun h k => by simp [kd, h, k])
theorem Cl.ne {w : World} {g r h L S : Nat} {f : Nat → Int} (hC : Cl w g r h L S f) : g ≠ h ∧ r ≠ h ∧ g ≠ r := by
  have h0 := hC.rw.hc 0 (by have := hC.sz.pos; omega)
  refine ⟨fun e => ?_, fun e => ?_, fun e => ?_⟩
  · subst e
    rw [hC.c0] at h0
    exact kd_ne L _ _ (Option.some.inj h0).symm
  · subst e
    rw [hC.rw.r0] at h0
    exact kd_ne L _ _ (Option.some.inj h0).symm
  · subst e
    have h1 := hC.c1
    rw [hC.rw.r1] at h1
    exact absurd h1 (by simp)
theorem Rw.put {w : World} {r h W S cap : Nat} {k : IntKind} {f : Nat → Int} (hR : Rw w r h k W S cap f) (hrh : r ≠ h) (i : Nat) (hi : i < S) (v : Int) : Rw (w.setCell ⟨h, i, none⟩ (.int k v)) r h k W S cap (upd f i v) := by
  have e1 : (w.setCell ⟨h, i, none⟩ (.int k v)).heap[r]? = w.heap[r]? := Below.heap_setCell _ _ _ _ hrh
  refine ⟨(World.cell?_of_block (a := ⟨r, 0, none⟩) e1).trans hR.r0, (World.cell?_of_block (a := ⟨r, 1, none⟩) e1).trans hR.r1, hR.le, fun j hj => ?_, fun j => by rw [World.frozen?_setCell]; exact hR.hz j⟩
  unfold upd
  by_cases e : j = i
  · subst e
    rw [if_pos rfl]
    exact World.cell?_setCell_same' _ _ _ (by rw [hR.hc j hj]; rfl)
  · rw [if_neg e, World.cell?_setCell_other _ _ _ _ (by intro he; injection he with h1 h2; exact e h2.symm)]
    exact hR.hc j hj
theorem Cl.put {w : World} {g r h L S : Nat} {f : Nat → Int} (hC : Cl w g r h L S f) (i : Nat) (hi : i < S) (v : Int) (hv : -2 ≤ v ∧ v < ((rm S : Nat) : Int)) : Cl (w.setCell ⟨h, i, none⟩ (.int (kd L) v)) g r h L S (upd f i v) := by
  have e0 : (w.setCell ⟨h, i, none⟩ (.int (kd L) v)).heap[g]? = w.heap[g]? := Below.heap_setCell _ _ _ _ hC.ne.1
  refine ⟨(World.cell?_of_block (a := ⟨g, 0, none⟩) e0).trans hC.c0, (World.cell?_of_block (a := ⟨g, 1, none⟩) e0).trans hC.c1, hC.rw.put hC.ne.2.1 i hi v, hC.sz, fun j hj => ?_⟩
  unfold upd
  by_cases e : j = i
  · rw [if_pos e]; exact hv
  · rw [if_neg e]; exact hC.fit j hj
theorem Cl.congr {w : World} {g r h L S : Nat} {f f' : Nat → Int} (hC : Cl w g r h L S f) (e : ∀ j, j < S → f' j = f j) : Cl w g r h L S f' :=
  ⟨hC.c0, hC.c1, ⟨hC.rw.r0, hC.rw.r1, hC.rw.le, fun j hj => by rw [e j hj]; exact hC.rw.hc j hj, hC.rw.hz⟩, hC.sz, fun j hj => by rw [e j hj]; exact hC.fit j hj⟩

theorem Rw.congr {w : World} {r h W S cap : Nat} {k : IntKind} {f f' : Nat → Int} (hR : Rw w r h k W S cap f) (e : ∀ j, j < S → f' j = f j) : Rw w r h k W S cap f' :=
  ⟨hR.r0, hR.r1, hR.le, fun j hj => by rw [e j hj]; exact hR.hc j hj, hR.hz⟩
theorem Tryz.info8 : (Tryz.prog.info? 178).map (fun i => (i.zero, i.size, i.bytes)) = some (some (.int .i8 0), 1, 1) := by kernel_rfl
theorem Tryz.info16 : (Tryz.prog.info? 180).map (fun i => (i.zero, i.size, i.bytes)) = some (some (.int .i16 0), 1, 2) := by kernel_rfl
theorem Tryz.info32 : (Tryz.prog.info? 21).map (fun i => (i.zero, i.size, i.bytes)) = some (some (.int .i32 0), 1, 4) := by kernel_rfl
/-- The head of a row that was just made. -/
theorem rw_made {w w1 : World} {t ty : TypeId} {k : IntKind} {n W : Nat} (h : w1.ownsRow w.heap.size t 1 (.slice (some ⟨w.heap.size, 0, none⟩) n n) n (madeCells (Value.int k 0).cells (n * 1)).toList) :
    Rw (w1.alloc (.cells #[.int .i64 (W : Int), .slice (some ⟨w.heap.size, 0, none⟩) n n] ty)) w1.heap.size w.heap.size k W n n (fun _ => 0) := by
  have hl := (h.lt _ rfl).2
  have e : (w1.alloc (.cells #[.int .i64 (W : Int), .slice (some ⟨w.heap.size, 0, none⟩) n n] ty)).heap[w.heap.size]? = w1.heap[w.heap.size]? := Below.heap_alloc _ _ _ hl
  refine ⟨by rw [World.cell?_alloc_at _ _ _ _ rfl]; rfl, by rw [World.cell?_alloc_at _ _ _ _ rfl]; rfl, Nat.le_refl _, fun j hj => ?_, fun j => (World.frozen?_of_block (a := ⟨w.heap.size, j, none⟩) e).trans (h.frozenAt j)⟩
  rw [World.cell?_of_block (a := ⟨w.heap.size, j, none⟩) e, h.cellAt j (by omega)]
  simp [madeCells, Value.cells, hj, Nat.mod_one]

set_option maxRecDepth 100000 in
theorem newRow_any {L S : Nat} (hS : Sz L S) (w : World) : Calls Tryz.prog 75 #[.int .i64 (L : Int)] w fun e w' => ∃ r h, e = .returned (.iface (rty L) (.pointer (some ⟨r, 0, none⟩))) ∧ w.heap.size ≤ r ∧ w.heap.size ≤ h ∧ Rw w' r h (kd L) (wd L) S S (fun _ => 0) ∧ Below w.heap.size w w' := by
  have C1 := width_any hS w
  have C2 := size_any hS w
  have hm := hS.most
  refine by_L L (fun a => ?_) (fun a b => ?_) (fun a b => ?_)
  · obtain ⟨i0, hi, hz0, hz1, hz2⟩ := info_parts Tryz.info8
    rw [show wd L = 1 by simp [wd, a]] at C1 ⊢
    rw [show kd L = .i8 by simp [kd, a], show rty L = 116 by simp [rty, a]]
    clear hS
    go_enter Tryz.func75, Tryz.ntmps75
    go_wp2_with fail
    refine C1.mono ?_
    rintro e w1 ⟨rfl, rfl⟩
    go_wp2_with fail
    refine C2.mono ?_
    rintro e w2 ⟨rfl, rfl⟩
    go_wp2_with (at_make; refine wpList_make_full _ rfl _ _ 117 rfl w2.heap.size 178 i0 (.int .i8 0) 1 Tryz.underlying117 hi hz0 hz1 .i64 .i64 _ _ S rfl rfl (by omega) (by omega) (by rw [hz2]; omega) (by unfold maxLen; omega) (Nat.le_refl _) ?_; intro w3 hown3 hgrow3; have hb3 : Below w2.heap.size w2 w3 := (Below.refl _ w2).grown hgrow3 (Nat.le_refl _) (fun k e => by cases e); have HR := Lib.hid (rw_made (ty := 119) (W := 1) hown3); have HB := Lib.hid (hb3.alloc hb3.size (.cells #[.int .i64 ((1 : Nat) : Int), .slice (some ⟨w2.heap.size, 0, none⟩) S S] 119)); clear hown3 hgrow3)
    go_ret
    exact ⟨_, _, rfl, hb3.size, Nat.le_refl _, HR.out, HB.out⟩
  · obtain ⟨i0, hi, hz0, hz1, hz2⟩ := info_parts Tryz.info16
    rw [show wd L = 2 by simp [wd, a, b]] at C1 ⊢
    rw [show kd L = .i16 by simp [kd, a, b], show rty L = 120 by simp [rty, a, b]]
    clear hS
    go_enter Tryz.func75, Tryz.ntmps75
    go_wp2_with fail
    refine C1.mono ?_
    rintro e w1 ⟨rfl, rfl⟩
    go_wp2_with fail
    refine C2.mono ?_
    rintro e w2 ⟨rfl, rfl⟩
    go_wp2_with (at_make; refine wpList_make_full _ rfl _ _ 121 rfl w2.heap.size 180 i0 (.int .i16 0) 1 Tryz.underlying121 hi hz0 hz1 .i64 .i64 _ _ S rfl rfl (by omega) (by omega) (by rw [hz2]; omega) (by unfold maxLen; omega) (Nat.le_refl _) ?_; intro w3 hown3 hgrow3; have hb3 : Below w2.heap.size w2 w3 := (Below.refl _ w2).grown hgrow3 (Nat.le_refl _) (fun k e => by cases e); have HR := Lib.hid (rw_made (ty := 123) (W := 2) hown3); have HB := Lib.hid (hb3.alloc hb3.size (.cells #[.int .i64 ((2 : Nat) : Int), .slice (some ⟨w2.heap.size, 0, none⟩) S S] 123)); clear hown3 hgrow3)
    go_ret
    exact ⟨_, _, rfl, hb3.size, Nat.le_refl _, HR.out, HB.out⟩
  · obtain ⟨i0, hi, hz0, hz1, hz2⟩ := info_parts Tryz.info32
    rw [show wd L = 4 by simp [wd, a, b]] at C1 ⊢
    rw [show kd L = .i32 by simp [kd, a, b], show rty L = 124 by simp [rty, a, b]]
    clear hS
    go_enter Tryz.func75, Tryz.ntmps75
    go_wp2_with fail
    refine C1.mono ?_
    rintro e w1 ⟨rfl, rfl⟩
    go_wp2_with fail
    refine C2.mono ?_
    rintro e w2 ⟨rfl, rfl⟩
    go_wp2_with (at_make; refine wpList_make_full _ rfl _ _ 125 rfl w2.heap.size 21 i0 (.int .i32 0) 1 Tryz.underlying125 hi hz0 hz1 .i64 .i64 _ _ S rfl rfl (by omega) (by omega) (by rw [hz2]; omega) (by unfold maxLen; omega) (Nat.le_refl _) ?_; intro w3 hown3 hgrow3; have hb3 : Below w2.heap.size w2 w3 := (Below.refl _ w2).grown hgrow3 (Nat.le_refl _) (fun k e => by cases e); have HR := Lib.hid (rw_made (ty := 127) (W := 4) hown3); have HB := Lib.hid (hb3.alloc hb3.size (.cells #[.int .i64 ((4 : Nat) : Int), .slice (some ⟨w2.heap.size, 0, none⟩) S S] 127)); clear hown3 hgrow3)
    go_ret
    exact ⟨_, _, rfl, hb3.size, Nat.le_refl _, HR.out, HB.out⟩
theorem new_no (l : Int) (hl : ¬ (3 ≤ l ∧ l ≤ 20)) (w : World) : Calls Tryz.prog 64 #[.int .i64 l] w fun e w' => e = .returned (.tuple #[.pointer none, .int .i64 1]) ∧ w' = w := by
  have C1 := isLog_no l hl w
  clear hl
  go_enter Tryz.func64, Tryz.ntmps64
  go_wp2_with fail
  refine C1.mono ?_
  rintro e w1 ⟨rfl, rfl⟩
  clear C1
  go_wp2
  go_ret2
  exact ⟨rfl, rfl⟩
set_option maxRecDepth 100000 in
set_option maxHeartbeats 2000000 in
theorem new_any {L S : Nat} (hS : Sz L S) (w : World) : Calls Tryz.prog 64 #[.int .i64 (L : Int)] w fun e w' => ∃ g r h, e = .returned (.tuple #[.pointer (some ⟨g, 0, none⟩), .int .i64 0]) ∧ w.heap.size ≤ g ∧ w.heap.size ≤ r ∧ w.heap.size ≤ h ∧ Cl w' g r h L S (fun _ => -1) ∧ Below w.heap.size w w' := by
  have C1 := isLog_yes hS w
  have C2 := newRow_any hS w
  have hm := hS.most
  have HSZ := Lib.hid hS
  have hrm : (-2 : Int) ≤ -1 ∧ (-1 : Int) < ((rm S : Nat) : Int) := by omega
  have hrm0 : (-2 : Int) ≤ 0 ∧ (0 : Int) < ((rm S : Nat) : Int) := by have := hS.pos; unfold rm; omega
  have HE := Lib.hid (e_set L)
  have HM := Lib.hid (m_set L)
  clear hS
  go_enter Tryz.func64, Tryz.ntmps64
  go_wp2_with fail
  refine C1.mono ?_
  rintro e w1 ⟨rfl, rfl⟩
  clear C1
  go_wp2_with fail
  refine C2.mono ?_
  rintro e w2 ⟨r, h, rfl, hr, hh, hR, hb2⟩
  clear C2
  have HC0 : Hid (Cl (w2.alloc (.cells #[.int .i64 (L : Int), .iface (rty L) (.pointer (some ⟨r, 0, none⟩))] 89)) w2.heap.size r h L S (emp 0)) := by
    have hl := hR.lt (by have := HSZ.out.pos; omega)
    refine ⟨by rw [World.cell?_alloc_at _ _ _ _ rfl]; rfl, by rw [World.cell?_alloc_at _ _ _ _ rfl]; rfl, hR.same (Below.heap_alloc _ _ _ hl.1) (Below.heap_alloc _ _ _ hl.2), HSZ.out, fun j _ => hrm0⟩
  have HB0 := Lib.hid (hb2.alloc hb2.size (.cells #[.int .i64 (L : Int), .iface (rty L) (.pointer (some ⟨r, 0, none⟩))] 89))
  have hg : w1.heap.size ≤ w2.heap.size := hb2.size
  clear hR hb2
  go_upto_region 4 with fail
  generalize World.alloc _ _ = w3 at HC0 HB0 ⊢
  generalize w2.heap.size = g at *
  have C3 := sizeM_any HC0.out
  go_wp2_with fail
  refine C3.mono ?_
  rintro e w4 ⟨rfl, rfl⟩
  clear C3
  go_wp2_with fail
  go_loopw [16] (fun iv wr => ∃ k : Nat, k ≤ S ∧ iv = .int .i64 (k : Int) ∧ Cl wr g r h L S (emp k) ∧ Below w1.heap.size w1 wr) (fun iv _ => S - (intOf iv).toNat)
  case atStart => exact ⟨0, Nat.zero_le _, rfl, HC0.out, HB0.out⟩
  case round =>
    clear HC0 HB0
    obtain ⟨k, hk, rfl, hC, hB⟩ := hrel
    by_cases hlt : k < S
    · have t1 : (k : Int) < (S : Int) := by omega
      have h1 := hC.c1
      have C4 := row_set hC.rw k hlt (-1) (fits HSZ.out (-1) hrm.1 hrm.2)
      have HP := Lib.hid (hC.put k hlt (-1) hrm)
      rw [emp_upd] at HP
      have HBP := Lib.hid (hB.setCell (p := ⟨h, k, none⟩) hh (.int (kd L) (-1)))
      have hm := fun w => HM.out (some ⟨r, 0, none⟩) w
      have he := HE.out
      clear hC
      generalize setF L = Y at *
      generalize hT : rty L = T at h1 hm ⊢
      generalize World.setCell _ _ _ = wp at C4 HP HBP
      clear hT
      go_wp2_with fail
      refine C4.mono ?_
      rintro e w5 ⟨rfl, rfl⟩
      clear C4
      go_wp2_with fail
      go_roundw
      case rel => exact ⟨k + 1, by omega, by go_num, HP.out, HBP.out⟩
      case measure => simp [intOf]; omega
    · have t1 : ¬ (k : Int) < (S : Int) := by omega
      obtain rfl : k = S := by omega
      have HCC := Lib.hid (hC.congr (f' := fun _ => -1) (fun j hj => by unfold emp; rw [if_pos hj]))
      go_wp2
      go_ret2
      exact ⟨g, rfl, hg, r, hr, h, hh, HCC.out, hB⟩
end Go.Proofs.YtdjabdmnknlaeaaGreat
