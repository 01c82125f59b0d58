/-
  Get and Set.
  How cells stand behind later steps; newRow and New.
  The table in memory; what its meter does; find.
  lay, makeIndex, logOf.
  copy and clear of rows whose elements have more than one cell; make of such a row.
  append, copy and clear of rows of entries.
  dropDead.
  ready, New, makeRoom.
-/
import Derived.Test.YtbpflmdefpjcaaaGreatGxaa
import Derived.Deep.CutRange
import Derived.Scope
import Derived.Deep.RegionHeld3
import Derived.Laws.CopyOwn
import Derived.Laws.AppendOwn
import Derived.WalkKit
import Derived.Deep.RegionLaw
import Derived.BigQuiet
namespace Go.Proofs.YtbpflmdefpjcaaaGreat
open Go.RowKit Go.WideShapes

theorem by_L (L : Nat) {P : Prop} (h1 : L ≤ 7 → P) (h2 : ¬ L ≤ 7 → L ≤ 15 → P) (h3 : ¬ L ≤ 7 → ¬ L ≤ 15 → P) : P := by
  rcases L_cases L with a | ⟨a, b⟩ | ⟨a, b⟩
  · exact h1 a
  · exact h2 a b
  · exact h3 a b
theorem m_get (L : Nat) (a : Option Addr) (w : World) : (method 297 (rty L) (.pointer a) "lexicon/cells.get").run Tryz.prog w = .ok (getF L, .pointer a) w :=
  by_L L (fun h => by simp only [rty, getF, if_pos h]; kernel_rfl) (fun h k => by simp only [rty, getF, if_neg h, if_pos k]; kernel_rfl) (fun h k => by simp only [rty, getF, if_neg h, if_neg k]; kernel_rfl)
theorem e_get (L : Nat) (args : Array Value) (w : World) : (callFunc (getF L) args).run Tryz.prog w = .ok (.enter (getF L) args) w :=
  by_L L (fun h => by simp only [getF, if_pos h]; exact Tryz.call124 _ _) (fun h k => by simp only [getF, if_neg h, if_pos k]; exact Tryz.call131 _ _) (fun h k => by simp only [getF, if_neg h, if_neg k]; exact Tryz.call138 _ _)
theorem m_set (L : Nat) (a : Option Addr) (w : World) : (method 297 (rty L) (.pointer a) "lexicon/cells.set").run Tryz.prog w = .ok (setF L, .pointer a) w :=
  by_L L (fun h => by simp only [rty, setF, if_pos h]; kernel_rfl) (fun h k => by simp only [rty, setF, if_neg h, if_pos k]; kernel_rfl) (fun h k => by simp only [rty, setF, if_neg h, if_neg k]; kernel_rfl)
theorem e_set (L : Nat) (args : Array Value) (w : World) : (callFunc (setF L) args).run Tryz.prog w = .ok (.enter (setF L) args) w :=
  by_L L (fun h => by simp only [setF, if_pos h]; exact Tryz.call126 _ _) (fun h k => by simp only [setF, if_neg h, if_pos k]; exact Tryz.call133 _ _) (fun h k => by simp only [setF, if_neg h, if_neg k]; exact Tryz.call140 _ _)
theorem m_copied (L : Nat) (a : Option Addr) (w : World) : (method 297 (rty L) (.pointer a) "lexicon/cells.copied").run Tryz.prog w = .ok (copiedF L, .pointer a) w :=
  by_L L (fun h => by simp only [rty, copiedF, if_pos h]; kernel_rfl) (fun h k => by simp only [rty, copiedF, if_neg h, if_pos k]; kernel_rfl) (fun h k => by simp only [rty, copiedF, if_neg h, if_neg k]; kernel_rfl)
theorem e_copied (L : Nat) (args : Array Value) (w : World) : (callFunc (copiedF L) args).run Tryz.prog w = .ok (.enter (copiedF L) args) w :=
  by_L L (fun h => by simp only [copiedF, if_pos h]; exact Tryz.call122 _ _) (fun h k => by simp only [copiedF, if_neg h, if_pos k]; exact Tryz.call129 _ _) (fun h k => by simp only [copiedF, if_neg h, if_neg k]; exact Tryz.call136 _ _)
theorem m_each (L : Nat) (a : Option Addr) (w : World) : (method 297 (rty L) (.pointer a) "lexicon/cells.each").run Tryz.prog w = .ok (eachF L, .pointer a) w :=
  by_L L (fun h => by simp only [rty, eachF, if_pos h]; kernel_rfl) (fun h k => by simp only [rty, eachF, if_neg h, if_pos k]; kernel_rfl) (fun h k => by simp only [rty, eachF, if_neg h, if_neg k]; kernel_rfl)
theorem e_each (L : Nat) (args : Array Value) (w : World) : (callFunc (eachF L) args).run Tryz.prog w = .ok (.enter (eachF L) args) w :=
  by_L L (fun h => by simp only [eachF, if_pos h]; exact Tryz.call123 _ _) (fun h k => by simp only [eachF, if_neg h, if_pos k]; exact Tryz.call130 _ _) (fun h k => by simp only [eachF, if_neg h, if_neg k]; exact Tryz.call137 _ _)

/-- What may be held fits. -/
theorem fits {L S : Nat} (hS : Sz L S) (v : Int) (h0 : -2 ≤ v) (h1 : v < ((rm S : Nat) : Int)) : (kd L).wrap v = v :=
  by_L L (fun h => by
      have := hS.most7 h
      rw [show kd L = .i8 by simp [kd, h], wrap_i8]
      unfold rm at h1
      omega)
    (fun h k => by
      have := hS.most15 k
      rw [show kd L = .i16 by simp [kd, h, k], wrap_i16]
      unfold rm at h1
      omega)
    (fun h k => by
      have := hS.most
      rw [show kd L = .i32 by simp [kd, h, k], IntKind.wrap_i32]
      unfold rm at h1
      omega)
theorem Cl.ints {w : World} {g r h L S : Nat} {f : Nat → Int} (hC : Cl w g r h L S f) (i : Nat) (hi : i < S) : -2147483648 ≤ f i ∧ f i < 2147483648 := by
  have h1 := hC.fit i hi
  have h2 := hC.sz.most
  unfold rm at h1
  omega

set_option maxRecDepth 100000 in
theorem getM_yes {w : World} {g r h L S : Nat} {f : Nat → Int} (hC : Cl w g r h L S f) (i : Nat) (hi : i < S) : Calls Tryz.prog 73 #[.pointer (some ⟨g, 0, none⟩), .int .i64 (i : Int)] w fun e w' => e = .returned (.tuple #[.int .i64 (f i), .int .i64 0]) ∧ w' = w := by
  have C1 := refuse_any hC i
  rw [show ixE S i = 0 by unfold ixE; rw [if_pos (by omega)]] at C1
  have h1 := hC.c1
  have C2 := row_get hC.rw i hi (hC.ints i hi)
  have hm := fun w => m_get L (some ⟨r, 0, none⟩) w
  have he := e_get L
  clear hC
  generalize getF L = Y at *
  generalize rty L = T at *
  go_enter Tryz.func73, Tryz.ntmps73
  go_wp2_with fail
  refine C1.mono ?_
  rintro e w1 ⟨rfl, rfl⟩
  clear C1
  go_wp2_with fail
  refine C2.mono ?_
  rintro e w1 ⟨rfl, rfl⟩
  clear C2
  go_wp2
  go_ret2
  exact ⟨rfl, rfl⟩
theorem getM_not {w : World} {g r h L S : Nat} {f : Nat → Int} (hC : Cl w g r h L S f) (i : Int) (hi : ¬ (0 ≤ i ∧ i < (S : Int))) : Calls Tryz.prog 73 #[.pointer (some ⟨g, 0, none⟩), .int .i64 i] w fun e w' => e = .returned (.tuple #[.int .i64 0, .int .i64 5]) ∧ w' = w := by
  have C1 := refuse_any hC i
  rw [show ixE S i = 5 by unfold ixE; rw [if_neg hi]] at C1
  clear hC
  go_enter Tryz.func73, Tryz.ntmps73
  go_wp2_with fail
  refine C1.mono ?_
  rintro e w1 ⟨rfl, rfl⟩
  clear C1
  go_wp2
  go_ret2
  exact ⟨rfl, rfl⟩
theorem setM_not {w : World} {g r h L S : Nat} {f : Nat → Int} (hC : Cl w g r h L S f) (i v : Int) (hi : ¬ (0 ≤ i ∧ i < (S : Int))) : Calls Tryz.prog 80 #[.pointer (some ⟨g, 0, none⟩), .int .i64 i, .int .i64 v] w fun e w' => e = .returned (.int .i64 5) ∧ w' = w := by
  have C1 := refuse_any hC i
  rw [show ixE S i = 5 by unfold ixE; rw [if_neg hi]] at C1
  clear hC
  go_enter Tryz.func80, Tryz.ntmps80
  go_wp2_with fail
  refine C1.mono ?_
  rintro e w1 ⟨rfl, rfl⟩
  clear C1
  go_wp2
  go_ret
  exact ⟨rfl, rfl⟩
theorem setM_bad {w : World} {g r h L S : Nat} {f : Nat → Int} (hC : Cl w g r h L S f) (i : Nat) (v : Int) (hi : i < S) (hv : may S v = false) : Calls Tryz.prog 80 #[.pointer (some ⟨g, 0, none⟩), .int .i64 (i : Int), .int .i64 v] w fun e w' => e = .returned (.int .i64 1) ∧ w' = w := by
  have C1 := refuse_any hC i
  rw [show ixE S i = 0 by unfold ixE; rw [if_pos (by omega)]] at C1
  have C2 := mayHold_any hC v
  rw [hv] at C2
  clear hC hv
  go_enter Tryz.func80, Tryz.ntmps80
  go_wp2_with fail
  refine C1.mono ?_
  rintro e w1 ⟨rfl, rfl⟩
  clear C1
  go_wp2_with fail
  refine C2.mono ?_
  rintro e w1 ⟨rfl, rfl⟩
  clear C2
  go_wp2
  go_ret
  exact ⟨rfl, rfl⟩
theorem setM_yes {w : World} {g r h L S : Nat} {f : Nat → Int} (hC : Cl w g r h L S f) (i : Nat) (v : Int) (hi : i < S) (hv : may S v = true) : Calls Tryz.prog 80 #[.pointer (some ⟨g, 0, none⟩), .int .i64 (i : Int), .int .i64 v] w fun e w' => e = .returned (.int .i64 0) ∧ w' = w.setCell ⟨h, i, none⟩ (.int (kd L) v) := by
  have C1 := refuse_any hC i
  rw [show ixE S i = 0 by unfold ixE; rw [if_pos (by omega)]] at C1
  have C2 := mayHold_any hC v
  rw [hv] at C2
  have hv' := of_decide_eq_true hv
  have h1 := hC.c1
  have C3 := row_set hC.rw i hi v (fits hC.sz v hv'.1 hv'.2)
  have hm := fun w => m_set L (some ⟨r, 0, none⟩) w
  have he := e_set L
  clear hC hv hv'
  generalize setF L = Y at *
  generalize rty L = T at *
  generalize kd L = K0 at *
  go_enter Tryz.func80, Tryz.ntmps80
  go_wp2_with fail
  refine C1.mono ?_
  rintro e w1 ⟨rfl, rfl⟩
  clear C1
  go_wp2_with fail
  refine C2.mono ?_
  rintro e w1 ⟨rfl, rfl⟩
  clear C2
  go_wp2_with fail
  refine C3.mono ?_
  rintro e w2 ⟨rfl, rfl⟩
  clear C3
  go_wp2
  go_ret
  exact ⟨rfl, rfl⟩
end Go.Proofs.YtbpflmdefpjcaaaGreat
namespace Go.Proofs.YtbpflmdefpjcaaaGreat
open Go.RowKit Go.WideShapes

theorem Rw.same {w w' : World} {r h W S cap : Nat} {k : IntKind} {f : Nat → Int} (hR : Rw w r h k W S cap f) (e1 : w'.heap[r]? = w.heap[r]?) (e2 : w'.heap[h]? = w.heap[h]?) : Rw w' r h k W S cap f :=
  ⟨(World.cell?_of_block (a := ⟨r, 0, none⟩) e1).trans hR.r0, (World.cell?_of_block (a := ⟨r, 1, none⟩) e1).trans hR.r1, hR.le, fun j hj => (World.cell?_of_block (a := ⟨h, j, none⟩) e2).trans (hR.hc j hj), fun j => (World.frozen?_of_block (a := ⟨h, j, none⟩) e2).trans (hR.hz j)⟩
theorem Cl.same {w w' : World} {g r h L S : Nat} {f : Nat → Int} (hC : Cl w g r h L S f) (e0 : w'.heap[g]? = w.heap[g]?) (e1 : w'.heap[r]? = w.heap[r]?) (e2 : w'.heap[h]? = w.heap[h]?) : Cl w' g r h L S f :=
  ⟨(World.cell?_of_block (a := ⟨g, 0, none⟩) e0).trans hC.c0, (World.cell?_of_block (a := ⟨g, 1, none⟩) e0).trans hC.c1, hC.rw.same e1 e2, hC.sz, hC.fit⟩
theorem Rw.lt {w : World} {r h W S cap : Nat} {k : IntKind} {f : Nat → Int} (hR : Rw w r h k W S cap f) (hS : 0 < S) : r < w.heap.size ∧ h < w.heap.size := ⟨lt_of_cell hR.r0, lt_of_cell (hR.hc 0 hS)⟩
theorem Cl.lt {w : World} {g r h L S : Nat} {f : Nat → Int} (hC : Cl w g r h L S f) : g < w.heap.size ∧ r < w.heap.size ∧ h < w.heap.size :=
  ⟨lt_of_cell hC.c0, hC.rw.lt (by have := hC.sz.pos; omega)⟩
theorem Rw.below {w w' : World} {r h W S cap : Nat} {k : IntKind} {f : Nat → Int} (hR : Rw w r h k W S cap f) (hS : 0 < S) (hb : Below w.heap.size w w') : Rw w' r h k W S cap f :=
  hR.same (hb.block _ (hR.lt hS).1) (hb.block _ (hR.lt hS).2)
theorem Cl.below {w w' : World} {g r h L S : Nat} {f : Nat → Int} (hC : Cl w g r h L S f) (hb : Below w.heap.size w w') : Cl w' g r h L S f :=
  hC.same (hb.block _ hC.lt.1) (hb.block _ hC.lt.2.1) (hb.block _ hC.lt.2.2)
theorem kd_ne (L : Nat) (x y : Int) : Value.int (kd L) x ≠ Value.int .i64 y :=
  by_L L (fun h => by simp [kd, h]) (fun h k => by simp [kd, h, k]) (fun h k => by simp [kd, h, k])
theorem Cl.ne {w : World} {g r h L S : Nat} {f : Nat → Int} (hC : Cl w g r h L S f) : g ≠ h ∧ r ≠ h ∧ g ≠ r := by
  have h0 := hC.rw.hc 0 (by have := hC.sz.pos; omega)
  refine ⟨fun e => ?_, fun e => ?_, fun e => ?_⟩
  · subst e
    rw [hC.c0] at h0
    exact kd_ne L _ _ (Option.some.inj h0).symm
  · subst e
    rw [hC.rw.r0] at h0
    exact kd_ne L _ _ (Option.some.inj h0).symm
  · subst e
    have h1 := hC.c1
    rw [hC.rw.r1] at h1
    exact absurd h1 (by simp)
theorem Rw.put {w : World} {r h W S cap : Nat} {k : IntKind} {f : Nat → Int} (hR : Rw w r h k W S cap f) (hrh : r ≠ h) (i : Nat) (hi : i < S) (v : Int) : Rw (w.setCell ⟨h, i, none⟩ (.int k v)) r h k W S cap (upd f i v) := by
  have e1 : (w.setCell ⟨h, i, none⟩ (.int k v)).heap[r]? = w.heap[r]? := Below.heap_setCell _ _ _ _ hrh
  refine ⟨(World.cell?_of_block (a := ⟨r, 0, none⟩) e1).trans hR.r0, (World.cell?_of_block (a := ⟨r, 1, none⟩) e1).trans hR.r1, hR.le, fun j hj => ?_, fun j => by rw [World.frozen?_setCell]; exact hR.hz j⟩
  unfold upd
  by_cases e : j = i
  · subst e
    rw [if_pos rfl]
    exact World.cell?_setCell_same' _ _ _ (by rw [hR.hc j hj]; rfl)
  · rw [if_neg e, World.cell?_setCell_other _ _ _ _ (by intro he; injection he with h1 h2; exact e h2.symm)]
    exact hR.hc j hj
theorem Cl.put {w : World} {g r h L S : Nat} {f : Nat → Int} (hC : Cl w g r h L S f) (i : Nat) (hi : i < S) (v : Int) (hv : -2 ≤ v ∧ v < ((rm S : Nat) : Int)) : Cl (w.setCell ⟨h, i, none⟩ (.int (kd L) v)) g r h L S (upd f i v) := by
  have e0 : (w.setCell ⟨h, i, none⟩ (.int (kd L) v)).heap[g]? = w.heap[g]? := Below.heap_setCell _ _ _ _ hC.ne.1
  refine ⟨(World.cell?_of_block (a := ⟨g, 0, none⟩) e0).trans hC.c0, (World.cell?_of_block (a := ⟨g, 1, none⟩) e0).trans hC.c1, hC.rw.put hC.ne.2.1 i hi v, hC.sz, fun j hj => ?_⟩
  unfold upd
  by_cases e : j = i
  · rw [if_pos e]; exact hv
  · rw [if_neg e]; exact hC.fit j hj
theorem Cl.congr {w : World} {g r h L S : Nat} {f f' : Nat → Int} (hC : Cl w g r h L S f) (e : ∀ j, j < S → f' j = f j) : Cl w g r h L S f' :=
  ⟨hC.c0, hC.c1, ⟨hC.rw.r0, hC.rw.r1, hC.rw.le, fun j hj => by rw [e j hj]; exact hC.rw.hc j hj, hC.rw.hz⟩, hC.sz, fun j hj => by rw [e j hj]; exact hC.fit j hj⟩

theorem Rw.congr {w : World} {r h W S cap : Nat} {k : IntKind} {f f' : Nat → Int} (hR : Rw w r h k W S cap f) (e : ∀ j, j < S → f' j = f j) : Rw w r h k W S cap f' :=
  ⟨hR.r0, hR.r1, hR.le, fun j hj => by rw [e j hj]; exact hR.hc j hj, hR.hz⟩
theorem Tryz.info8 : (Tryz.prog.info? 189).map (fun i => (i.zero, i.size, i.bytes)) = some (some (.int .i8 0), 1, 1) := by kernel_rfl
theorem Tryz.info16 : (Tryz.prog.info? 191).map (fun i => (i.zero, i.size, i.bytes)) = some (some (.int .i16 0), 1, 2) := by kernel_rfl
theorem Tryz.info32 : (Tryz.prog.info? 21).map (fun i => (i.zero, i.size, i.bytes)) = some (some (.int .i32 0), 1, 4) := by kernel_rfl
/-- The head of a row that was just made. -/
theorem rw_made {w w1 : World} {t ty : TypeId} {k : IntKind} {n W : Nat} (h : w1.ownsRow w.heap.size t 1 (.slice (some ⟨w.heap.size, 0, none⟩) n n) n (madeCells (Value.int k 0).cells (n * 1)).toList) :
    Rw (w1.alloc (.cells #[.int .i64 (W : Int), .slice (some ⟨w.heap.size, 0, none⟩) n n] ty)) w1.heap.size w.heap.size k W n n (fun _ => 0) := by
  have hl := (h.lt _ rfl).2
  have e : (w1.alloc (.cells #[.int .i64 (W : Int), .slice (some ⟨w.heap.size, 0, none⟩) n n] ty)).heap[w.heap.size]? = w1.heap[w.heap.size]? := Below.heap_alloc _ _ _ hl
  refine ⟨by rw [World.cell?_alloc_at _ _ _ _ rfl]; rfl, by rw [World.cell?_alloc_at _ _ _ _ rfl]; rfl, Nat.le_refl _, fun j hj => ?_, fun j => (World.frozen?_of_block (a := ⟨w.heap.size, j, none⟩) e).trans (h.frozenAt j)⟩
  rw [World.cell?_of_block (a := ⟨w.heap.size, j, none⟩) e, h.cellAt j (by omega)]
  simp [madeCells, Value.cells, hj, Nat.mod_one]

set_option maxRecDepth 100000 in
theorem newRow_any {L S : Nat} (hS : Sz L S) (w : World) : Calls Tryz.prog 78 #[.int .i64 (L : Int)] w fun e w' => ∃ r h, e = .returned (.iface (rty L) (.pointer (some ⟨r, 0, none⟩))) ∧ w.heap.size ≤ r ∧ w.heap.size ≤ h ∧ Rw w' r h (kd L) (wd L) S S (fun _ => 0) ∧ Below w.heap.size w w' := by
  have C1 := width_any hS w
  have C2 := size_any hS w
  have hm := hS.most
  refine by_L L (fun a => ?_) (fun a b => ?_) (fun a b => ?_)
  · obtain ⟨i0, hi, hz0, hz1, hz2⟩ := info_parts Tryz.info8
    rw [show wd L = 1 by simp [wd, a]] at C1 ⊢
    rw [show kd L = .i8 by simp [kd, a], show rty L = 124 by simp [rty, a]]
    clear hS
    go_enter Tryz.func78, Tryz.ntmps78
    go_wp2_with fail
    refine C1.mono ?_
    rintro e w1 ⟨rfl, rfl⟩
    go_wp2_with fail
    refine C2.mono ?_
    rintro e w2 ⟨rfl, rfl⟩
    go_wp2_with (at_make; refine wpList_make_full _ rfl _ _ 125 rfl w2.heap.size 189 i0 (.int .i8 0) 1 Tryz.underlying125 hi hz0 hz1 .i64 .i64 _ _ S rfl rfl (by omega) (by omega) (by rw [hz2]; omega) (by unfold maxLen; omega) (Nat.le_refl _) ?_; intro w3 hown3 hgrow3; have hb3 : Below w2.heap.size w2 w3 := (Below.refl _ w2).grown hgrow3 (Nat.le_refl _) (fun k e => by cases e); have HR := Lib.hid (rw_made (ty := 127) (W := 1) hown3); have HB := Lib.hid (hb3.alloc hb3.size (.cells #[.int .i64 ((1 : Nat) : Int), .slice (some ⟨w2.heap.size, 0, none⟩) S S] 127)); clear hown3 hgrow3)
    go_ret
    exact ⟨_, _, rfl, hb3.size, Nat.le_refl _, HR.out, HB.out⟩
  · obtain ⟨i0, hi, hz0, hz1, hz2⟩ := info_parts Tryz.info16
    rw [show wd L = 2 by simp [wd, a, b]] at C1 ⊢
    rw [show kd L = .i16 by simp [kd, a, b], show rty L = 128 by simp [rty, a, b]]
    clear hS
    go_enter Tryz.func78, Tryz.ntmps78
    go_wp2_with fail
    refine C1.mono ?_
    rintro e w1 ⟨rfl, rfl⟩
    go_wp2_with fail
    refine C2.mono ?_
    rintro e w2 ⟨rfl, rfl⟩
    go_wp2_with (at_make; refine wpList_make_full _ rfl _ _ 129 rfl w2.heap.size 191 i0 (.int .i16 0) 1 Tryz.underlying129 hi hz0 hz1 .i64 .i64 _ _ S rfl rfl (by omega) (by omega) (by rw [hz2]; omega) (by unfold maxLen; omega) (Nat.le_refl _) ?_; intro w3 hown3 hgrow3; have hb3 : Below w2.heap.size w2 w3 := (Below.refl _ w2).grown hgrow3 (Nat.le_refl _) (fun k e => by cases e); have HR := Lib.hid (rw_made (ty := 131) (W := 2) hown3); have HB := Lib.hid (hb3.alloc hb3.size (.cells #[.int .i64 ((2 : Nat) : Int), .slice (some ⟨w2.heap.size, 0, none⟩) S S] 131)); clear hown3 hgrow3)
    go_ret
    exact ⟨_, _, rfl, hb3.size, Nat.le_refl _, HR.out, HB.out⟩
  · obtain ⟨i0, hi, hz0, hz1, hz2⟩ := info_parts Tryz.info32
    rw [show wd L = 4 by simp [wd, a, b]] at C1 ⊢
    rw [show kd L = .i32 by simp [kd, a, b], show rty L = 132 by simp [rty, a, b]]
    clear hS
    go_enter Tryz.func78, Tryz.ntmps78
    go_wp2_with fail
    refine C1.mono ?_
    rintro e w1 ⟨rfl, rfl⟩
    go_wp2_with fail
    refine C2.mono ?_
    rintro e w2 ⟨rfl, rfl⟩
    go_wp2_with (at_make; refine wpList_make_full _ rfl _ _ 133 rfl w2.heap.size 21 i0 (.int .i32 0) 1 Tryz.underlying133 hi hz0 hz1 .i64 .i64 _ _ S rfl rfl (by omega) (by omega) (by rw [hz2]; omega) (by unfold maxLen; omega) (Nat.le_refl _) ?_; intro w3 hown3 hgrow3; have hb3 : Below w2.heap.size w2 w3 := (Below.refl _ w2).grown hgrow3 (Nat.le_refl _) (fun k e => by cases e); have HR := Lib.hid (rw_made (ty := 135) (W := 4) hown3); have HB := Lib.hid (hb3.alloc hb3.size (.cells #[.int .i64 ((4 : Nat) : Int), .slice (some ⟨w2.heap.size, 0, none⟩) S S] 135)); clear hown3 hgrow3)
    go_ret
    exact ⟨_, _, rfl, hb3.size, Nat.le_refl _, HR.out, HB.out⟩
theorem new_no (l : Int) (hl : ¬ (3 ≤ l ∧ l ≤ 20)) (w : World) : Calls Tryz.prog 62 #[.int .i64 l] w fun e w' => e = .returned (.tuple #[.pointer none, .int .i64 1]) ∧ w' = w := by
  have C1 := isLog_no l hl w
  clear hl
  go_enter Tryz.func62, Tryz.ntmps62
  go_wp2_with fail
  refine C1.mono ?_
  rintro e w1 ⟨rfl, rfl⟩
  clear C1
  go_wp2
  go_ret2
  exact ⟨rfl, rfl⟩
set_option maxRecDepth 100000 in
set_option maxHeartbeats 2000000 in
theorem new_any {L S : Nat} (hS : Sz L S) (w : World) : Calls Tryz.prog 62 #[.int .i64 (L : Int)] w fun e w' => ∃ g r h, e = .returned (.tuple #[.pointer (some ⟨g, 0, none⟩), .int .i64 0]) ∧ w.heap.size ≤ g ∧ w.heap.size ≤ r ∧ w.heap.size ≤ h ∧ Cl w' g r h L S (fun _ => -1) ∧ Below w.heap.size w w' := by
  have C1 := isLog_yes hS w
  have C2 := newRow_any hS w
  have hm := hS.most
  have HSZ := Lib.hid hS
  have hrm : (-2 : Int) ≤ -1 ∧ (-1 : Int) < ((rm S : Nat) : Int) := by omega
  have hrm0 : (-2 : Int) ≤ 0 ∧ (0 : Int) < ((rm S : Nat) : Int) := by have := hS.pos; unfold rm; omega
  have HE := Lib.hid (e_set L)
  have HM := Lib.hid (m_set L)
  clear hS
  go_enter Tryz.func62, Tryz.ntmps62
  go_wp2_with fail
  refine C1.mono ?_
  rintro e w1 ⟨rfl, rfl⟩
  clear C1
  go_wp2_with fail
  refine C2.mono ?_
  rintro e w2 ⟨r, h, rfl, hr, hh, hR, hb2⟩
  clear C2
  have HC0 : Hid (Cl (w2.alloc (.cells #[.int .i64 (L : Int), .iface (rty L) (.pointer (some ⟨r, 0, none⟩))] 112)) w2.heap.size r h L S (emp 0)) := by
    have hl := hR.lt (by have := HSZ.out.pos; omega)
    refine ⟨by rw [World.cell?_alloc_at _ _ _ _ rfl]; rfl, by rw [World.cell?_alloc_at _ _ _ _ rfl]; rfl, hR.same (Below.heap_alloc _ _ _ hl.1) (Below.heap_alloc _ _ _ hl.2), HSZ.out, fun j _ => hrm0⟩
  have HB0 := Lib.hid (hb2.alloc hb2.size (.cells #[.int .i64 (L : Int), .iface (rty L) (.pointer (some ⟨r, 0, none⟩))] 112))
  have hg : w1.heap.size ≤ w2.heap.size := hb2.size
  clear hR hb2
  go_upto_region 4 with fail
  generalize World.alloc _ _ = w3 at HC0 HB0 ⊢
  generalize w2.heap.size = g at *
  have C3 := sizeM_any HC0.out
  go_wp2_with fail
  refine C3.mono ?_
  rintro e w4 ⟨rfl, rfl⟩
  clear C3
  go_wp2_with fail
  go_loopw [16] (fun iv wr => ∃ k : Nat, k ≤ S ∧ iv = .int .i64 (k : Int) ∧ Cl wr g r h L S (emp k) ∧ Below w1.heap.size w1 wr) (fun iv _ => S - (intOf iv).toNat)
  case atStart => exact ⟨0, Nat.zero_le _, rfl, HC0.out, HB0.out⟩
  case round =>
    clear HC0 HB0
    obtain ⟨k, hk, rfl, hC, hB⟩ := hrel
    by_cases hlt : k < S
    · have t1 : (k : Int) < (S : Int) := by omega
      have h1 := hC.c1
      have C4 := row_set hC.rw k hlt (-1) (fits HSZ.out (-1) hrm.1 hrm.2)
      have HP := Lib.hid (hC.put k hlt (-1) hrm)
      rw [emp_upd] at HP
      have HBP := Lib.hid (hB.setCell (p := ⟨h, k, none⟩) hh (.int (kd L) (-1)))
      have hm := fun w => HM.out (some ⟨r, 0, none⟩) w
      have he := HE.out
      clear hC
      generalize setF L = Y at *
      generalize hT : rty L = T at h1 hm ⊢
      generalize World.setCell _ _ _ = wp at C4 HP HBP
      clear hT
      go_wp2_with fail
      refine C4.mono ?_
      rintro e w5 ⟨rfl, rfl⟩
      clear C4
      go_wp2_with fail
      go_roundw
      case rel => exact ⟨k + 1, by omega, by go_num, HP.out, HBP.out⟩
      case measure => simp [intOf]; omega
    · have t1 : ¬ (k : Int) < (S : Int) := by omega
      obtain rfl : k = S := by omega
      have HCC := Lib.hid (hC.congr (f' := fun _ => -1) (fun j hj => by unfold emp; rw [if_pos hj]))
      go_wp2
      go_ret2
      exact ⟨g, rfl, hg, r, hr, h, hh, HCC.out, hB⟩
end Go.Proofs.YtbpflmdefpjcaaaGreat
namespace Go.Proofs.YtbpflmdefpjcaaaGreat
open Go.RowKit Go.WideShapes
attribute [local go_sem] Oper.semAt_some

/-- What a table asks of its meter: M a b w: in w it has counted a index tables and b cells. -/
structure MtOk (mv : Value) (M : Int → Int → World → Prop) : Prop where
  tick : ∀ a b w, 0 ≤ a → a ≤ 1000000000 → M a b w → Calls Tryz.prog 63 #[mv] w fun e w' => e = .returned (.tuple #[]) ∧ M (a + 1) b w' ∧ Ex (mB mv) w w'
  same : ∀ a b w w', M a b w → (∀ k, mB mv k → w'.heap[k]? = w.heap[k]?) → M a b w'
  lt : ∀ a b w k, M a b w → mB mv k → k < w.heap.size
theorem MtOk.below {mv : Value} {M : Int → Int → World → Prop} (h : MtOk mv M) {a b : Int} {w w' : World} (x : M a b w) (hb : Below w.heap.size w w') : M a b w' := h.same a b w w' x fun k hk => hb.block k (h.lt a b w k x hk)
/-- Its cells in memory. -/
def dF (mv : Value) (gi : Nat) (ev : Value) (t : Tb) : Nat → Value
  | 0 => mv
  | 1 => .pointer (some ⟨gi, 0, none⟩)
  | 2 => ev
  | 3 => .int .i64 (t.live : Int)
  | 4 => .int .i64 (t.births : Int)
  | 5 => .int .i64 (t.made : Int)
  | _ => .int .i64 (t.turn : Int)
structure Dt (w : World) (g gi r h : Nat) (ev : Value) (t : Tb) (mv : Value) : Prop where
  hd : Blk w g 7 (dF mv gi ev t)
  es : Es w ev t.es
  cl : Cl w gi r h t.L (2 ^ t.L) t.c
  ap : ∀ k, ev.ownBlock = some k → k ≠ g ∧ k ≠ gi ∧ k ≠ r ∧ k ≠ h
  ne : g ≠ gi ∧ g ≠ r ∧ g ≠ h
  mp : ∀ k, mB mv k → k ≠ g ∧ k ≠ gi ∧ k ≠ r ∧ k ≠ h ∧ ev.ownBlock ≠ some k
/-- The blocks of a table. -/
def dX (g gi r h : Nat) (ev : Value) (k : Nat) : Prop := k = g ∨ k = gi ∨ k = r ∨ k = h ∨ ev.ownBlock = some k
theorem Dt.same {w w' : World} {g gi r h : Nat} {ev : Value} {t : Tb} {mv : Value} (x : Dt w g gi r h ev t mv) (e : ∀ k, dX g gi r h ev k → w'.heap[k]? = w.heap[k]?) : Dt w' g gi r h ev t mv :=
  ⟨x.hd.same (e g (.inl rfl)), x.es.same fun k hk => e k (.inr (.inr (.inr (.inr hk)))), x.cl.same (e gi (.inr (.inl rfl))) (e r (.inr (.inr (.inl rfl)))) (e h (.inr (.inr (.inr (.inl rfl))))), x.ap, x.ne, x.mp⟩
theorem Dt.lt {w : World} {g gi r h : Nat} {ev : Value} {t : Tb} {mv : Value} (x : Dt w g gi r h ev t mv) : ∀ k, dX g gi r h ev k → k < w.heap.size := by
  obtain ⟨h1, h2, h3⟩ := x.cl.lt
  rintro k (rfl | rfl | rfl | rfl | hk)
  · exact x.hd.lt (by omega)
  · exact h1
  · exact h2
  · exact h3
  · exact x.es.lt k hk
theorem Dt.below {w w' : World} {g gi r h : Nat} {ev : Value} {t : Tb} {mv : Value} (x : Dt w g gi r h ev t mv) (hb : Below w.heap.size w w') : Dt w' g gi r h ev t mv := x.same fun k hk => hb.block k (x.lt k hk)
/-- The place of the first cell of a trail that holds s. -/
def IsS (c : Nat → Int) (s : Int) (u L i : Nat) : Prop := c (trl u L i) = s ∧ ∀ j, j < i → c (trl u L j) ≠ s

theorem cell_alloc_new (w : World) (a : Value) (t : TypeId) (n : Nat) (hn : n = w.heap.size) : (w.alloc (.cells #[a] t)).cell? ⟨n, 0, none⟩ = some a := by subst hn; rw [World.cell?_alloc_at _ _ _ _ rfl]; rfl
theorem cell_alloc_old (w : World) (o : Obj) (n j : Nat) (hn : n < w.heap.size) : (w.alloc o).cell? ⟨n, j, none⟩ = w.cell? ⟨n, j, none⟩ := World.cell?_of_block (a := ⟨n, j, none⟩) (Below.heap_alloc _ _ _ hn)
theorem box3 (w : World) (a b c : Value) (ta tb tc : TypeId) {w1 : World} (h : ((w.alloc (.cells #[a] ta)).alloc (.cells #[b] tb)).alloc (.cells #[c] tc) = w1) :
    w1.cell? ⟨w.heap.size, 0, none⟩ = some a ∧ w1.cell? ⟨w.heap.size + 1, 0, none⟩ = some b ∧ w1.cell? ⟨w.heap.size + 1 + 1, 0, none⟩ = some c ∧ w1.frozen? ⟨w.heap.size + 1 + 1, 0, none⟩ = false ∧ w1.heap.size = w.heap.size + 3 := by
  subst h
  refine ⟨?_, ?_, cell_alloc_new _ _ _ _ (by simp), World.frozen?_alloc_at _ _ _ _ (by simp), by simp⟩
  · rw [cell_alloc_old _ _ _ _ (by simp; omega), cell_alloc_old _ _ _ _ (by simp)]
    exact cell_alloc_new _ _ _ _ rfl
  · rw [cell_alloc_old _ _ _ _ (by simp)]
    exact cell_alloc_new _ _ _ _ (by simp)

set_option maxRecDepth 100000 in
set_option maxHeartbeats 4000000 in
theorem find_any {w : World} {g gi r h L : Nat} {c : Nat → Int} (k1 : w.cell? ⟨g, 1, none⟩ = some (.pointer (some ⟨gi, 0, none⟩))) (hC : Cl w gi r h L (2 ^ L) c) (u s : Int) {i : Nat} (hF : IsS c s (uw u) L i) (hi : i < 2 ^ L + 13) :
    Calls Tryz.prog 81 #[.pointer (some ⟨g, 0, none⟩), .int .i64 u, .int .i64 s] w fun e w' => e = .returned (.int .i64 ((trl (uw u) L i : Nat) : Int)) ∧ Below w.heap.size w w' := by
  have hS : Tr.Sz L (2 ^ L) := ⟨rfl, hC.sz.le⟩
  obtain ⟨w1, hw1⟩ : ∃ x, ((w.alloc (.cells #[.pointer (some ⟨g, 0, none⟩)] 50)).alloc (.cells #[.int .i64 s] 3)).alloc (.cells #[.int .i64 0] 3) = x := ⟨_, rfl⟩
  refine callsIn_wide.1 (callsIn_of_wp_marks (n := 0) Tryz.func81 rfl trivial ?_ rfl)
  simp only [Tryz.ntmps81, List.size_toArray, List.length_cons, List.length_nil, Nat.reduceAdd, Nat.reduceSub, Array.replicate_succ, Array.replicate_zero, List.push_toArray, List.append_toArray, List.nil_append, List.cons_append]
  have hlg := lt_of_cell k1
  have hB1 : Below w.heap.size w w1 := by rw [← hw1]; exact (((Below.refl _ w).alloc (Nat.le_refl _) _).alloc (by simp) _).alloc (by simp; omega) _
  have k1' := (hB1.cell (p := ⟨g, 1, none⟩) hlg).trans k1
  have hC1 := hC.below hB1
  have CL := log_any hC1
  have CA := Tr.all_new u (L : Int) w1
  obtain ⟨b0, b1, b2, z2, hs1⟩ := box3 _ _ _ _ _ _ _ hw1
  have HW1 := Lib.hid hw1
  clear hw1
  gi_wp2_with fail
  refine (wpIn_wide (n := 0)).2 (wp_scope_straight ((wpIn_wide (n := 0)).1 ?_))
  gi_wp2_with fail
  refine wpIn_label ?_
  rw [HW1.out]
  gi_wp2_with fail
  refine ⟨trivial, rfl, (callsIn_wide.2 CL).mono ?_⟩
  rintro e w2 ⟨rfl, rfl⟩
  clear CL
  gi_wp2_with fail
  refine ⟨trivial, rfl, (callsIn_wide.2 CA).mono ?_⟩
  rintro e w3 ⟨rfl, hw3⟩
  clear CA
  have HW3 := Lib.hid hw3
  have hB3 : Below w2.heap.size w2 w3 := by rw [hw3]; exact ((Below.refl _ w2).alloc (Nat.le_refl _) _).alloc (by simp) _
  have hbl : w3.cell? ⟨w.heap.size + 3 + 1, 0, none⟩ = some (.int .i64 (L : Int)) := by rw [hw3]; exact cell_alloc_new _ _ _ _ (by simp [hs1])
  have hbh : w3.cell? ⟨w.heap.size + 3, 0, none⟩ = some (.int .i64 u) := by rw [hw3, cell_alloc_old _ _ _ _ (by simp [hs1])]; exact cell_alloc_new _ _ _ _ (by rw [hs1])
  have hs3 : w3.heap.size = w.heap.size + 5 := by rw [hw3]; simp [hs1]
  clear hw3
  have hB03 : Below w.heap.size w w3 := hB1.trans (hB3.mono hB1.size)
  have c0 := (hB3.cell (p := ⟨w.heap.size, 0, none⟩) (by show w.heap.size < _; omega)).trans b0
  have c1 := (hB3.cell (p := ⟨w.heap.size + 1, 0, none⟩) (by show w.heap.size + 1 < _; omega)).trans b1
  have c2 := (hB3.cell (p := ⟨w.heap.size + 1 + 1, 0, none⟩) (by show w.heap.size + 1 + 1 < _; omega)).trans b2
  have y2 := (World.frozen?_of_block (a := ⟨w.heap.size + 1 + 1, 0, none⟩) (hB3.block _ (by show w.heap.size + 1 + 1 < _; omega))).trans z2
  gi_wp2_with fail
  refine wpIn_range_ix (gf := 102) (lb := #[.pointer (some ⟨w.heap.size + 3 + 1, 0, none⟩), .pointer (some ⟨w.heap.size + 3, 0, none⟩)]) rfl Tryz.call102
    (Tr.seqix_any hS u (w.heap.size + 3 + 1) (w.heap.size + 3) w3 (by omega) (by omega) hbl hbh) (fun _ => rfl)
    (fun k W => Below w.heap.size w W ∧ W.cell? ⟨w.heap.size, 0, none⟩ = some (.pointer (some ⟨g, 0, none⟩)) ∧ W.cell? ⟨w.heap.size + 1, 0, none⟩ = some (.int .i64 s) ∧ W.cell? ⟨w.heap.size + 1 + 1, 0, none⟩ = some (.int .i64 0) ∧ W.frozen? ⟨w.heap.size + 1 + 1, 0, none⟩ = false ∧ ∀ j, j < k → c (trl (uw u) L j) ≠ s)
    (fun d k W => d = Code.exit 0 ∧ Below w.heap.size w W ∧ k = i ∧ W.cell? ⟨w.heap.size + 1 + 1, 0, none⟩ = some (.int .i64 ((trl (uw u) L k : Nat) : Int)))
    ?hI ?hIx ⟨hB03, c0, c1, c2, y2, fun j hj => absurd hj (Nat.not_lt_zero _)⟩
    (fun k => { tmps := #[.pointer (some ⟨g, 0, none⟩), .int .i64 u, .int .i64 s, .pointer (some ⟨w.heap.size, 0, none⟩), undef, .pointer (some ⟨w.heap.size + 1, 0, none⟩), .int .i64 0, .pointer (some ⟨w.heap.size + 1 + 1, 0, none⟩), .int .i64 ((trl (uw u) L k : Nat) : Int), undef, undef, .int .i64 u, .pointer (some ⟨g, 0, none⟩), .pointer (some ⟨g, 0, none⟩), .pointer (some ⟨g, 1, none⟩), .pointer (some ⟨gi, 0, none⟩), .int .i64 (L : Int), .func (.func 102) #[] #[.pointer (some ⟨w.heap.size + 3 + 1, 0, none⟩), .pointer (some ⟨w.heap.size + 3, 0, none⟩)], .int .i64 ((trl (uw u) L k : Nat) : Int), undef, undef, undef, undef, undef, undef, undef, undef, undef, undef, undef, undef, undef, undef], defers := [] }) ?assign ?body ?done ?stop
  case hI =>
    rintro k A A' ⟨x1, x2, x3, x4, x5, x6⟩ hb
    exact ⟨x1.trans (hb.mono (by omega)), (hb.cell (p := ⟨w.heap.size, 0, none⟩) (by show w.heap.size < _; omega)).trans x2, (hb.cell (p := ⟨w.heap.size + 1, 0, none⟩) (by show w.heap.size + 1 < _; omega)).trans x3, (hb.cell (p := ⟨w.heap.size + 1 + 1, 0, none⟩) (by show w.heap.size + 1 + 1 < _; omega)).trans x4, (World.frozen?_of_block (a := ⟨w.heap.size + 1 + 1, 0, none⟩) (hb.block _ (by show w.heap.size + 1 + 1 < _; omega))).trans x5, x6⟩
  case hIx =>
    rintro d k A A' ⟨x1, x2, x3, x4⟩ hb
    exact ⟨x1, x2.trans (hb.mono (by omega)), x3, (hb.cell (p := ⟨w.heap.size + 1 + 1, 0, none⟩) (by show w.heap.size + 1 + 1 < _; omega)).trans x4⟩
  case assign =>
    intro l k W K hK
    gi_wp2
    exact hK
  case body =>
    rintro l k W hk ⟨x1, x2, x3, x4, x5, x6⟩
    have HX := Lib.hid x6
    clear x6
    have kk := (x1.cell (p := ⟨g, 1, none⟩) hlg).trans k1
    have CG := getM_yes (hC.below x1) (trl (uw u) L k) (trl_lt _ _ _)
    by_cases he : c (trl (uw u) L k) = s
    · obtain rfl : k = i := by
        rcases Nat.lt_trichotomy k i with z | z | z
        · exact absurd he (hF.2 k z)
        · exact z
        · exact absurd hF.1 (HX.out i z)
      rw [he] at CG
      gi_wp2_with fail
      refine ⟨trivial, rfl, (CallsIn.inRound l (callsIn_wide.2 CG)).mono ?_⟩
      rintro e W2 ⟨rfl, rfl⟩
      clear CG
      gi_wp2_with fail
      exact ⟨(Since.refl _ _).setCell (p := ⟨w.heap.size + 1 + 1, 0, none⟩) (by show w.heap.size + 1 + 1 < _; omega) _, hi, rfl, x1.setCell (p := ⟨w.heap.size + 1 + 1, 0, none⟩) (by show w.heap.size ≤ w.heap.size + 1 + 1; omega) _, rfl, World.cell?_setCell_same' _ _ _ (by rw [x4]; rfl)⟩
    · have t1 : (c (trl (uw u) L k) == s) = false := by simp [he]
      have t2 : (c (trl (uw u) L k) = s) = False := by simp [he]
      gi_wp2_with fail
      refine ⟨trivial, rfl, (CallsIn.inRound l (callsIn_wide.2 CG)).mono ?_⟩
      rintro e W2 ⟨rfl, rfl⟩
      clear CG
      gi_wp2_with fail
      exact ⟨Since.refl _ _, x1, x2, x3, x4, x5, fun j hj => by
        rcases Nat.lt_or_ge j k with z | z
        · exact HX.out j z
        · rw [show j = k by omega]; exact he⟩
  case done =>
    rintro W ⟨x1, x2, x3, x4, x5, x6⟩ hK
    exact absurd hF.1 (x6 i hi)
  case stop =>
    rintro d k W hk ⟨rfl, x1, rfl, x2⟩ hK
    gi_wp2_with fail
    simp only [Exit.noGoto]
    gi_wp2
    refine ⟨by simp, .inl ⟨_, _, rfl, run_takeDeferred hK, ?_⟩⟩
    exact ⟨_, results_tmp rfl _ _ _, rfl, x1.trans (below_put (by omega))⟩
end Go.Proofs.YtbpflmdefpjcaaaGreat
namespace Go.Proofs.YtbpflmdefpjcaaaGreat
open Go.RowKit Go.WideShapes

set_option maxRecDepth 100000 in
set_option maxHeartbeats 4000000 in
theorem lay_any {w : World} {g gi r h L ge len cap n : Nat} {c : Nat → Int} {u : Int} (k1 : w.cell? ⟨g, 1, none⟩ = some (.pointer (some ⟨gi, 0, none⟩))) (k2 : w.cell? ⟨g, 2, none⟩ = some (.slice (some ⟨ge, 0, none⟩) len cap)) (ke : w.cell? ⟨ge, n * 5 + 1, none⟩ = some (.int .i64 u))
    (hC : Cl w gi r h L (2 ^ L) c) (hgh : g ≠ h) (heh : ge ≠ h) (hn : n < len) (hr : n < rm (2 ^ L)) {i : Nat} (hF : IsF c (uw u) L i) (hi : i < 2 ^ L + 13) :
    Calls Tryz.prog 64 #[.pointer (some ⟨g, 0, none⟩), .int .i64 (n : Int)] w fun e w' => e = .returned (.tuple #[]) ∧ Cl w' gi r h L (2 ^ L) (upd c (trl (uw u) L i) (n : Int)) ∧ But h w w' := by
  have CF : Hid (∀ V, Below w.heap.size w V → Calls Tryz.prog 81 #[.pointer (some ⟨g, 0, none⟩), .int .i64 u, .int .i64 (-1)] V fun e w' => e = .returned (.int .i64 ((trl (uw u) L i : Nat) : Int)) ∧ Below V.heap.size V w') := fun V hV => find_any ((hV.cell (p := ⟨g, 1, none⟩) (lt_of_cell k1)).trans k1) (hC.below hV) u (-1) hF hi
  have hmy : may (2 ^ L) (n : Int) = true := by unfold may; simp; omega
  have CS : Hid (∀ V, Below w.heap.size w V → Calls Tryz.prog 80 #[.pointer (some ⟨gi, 0, none⟩), .int .i64 ((trl (uw u) L i : Nat) : Int), .int .i64 (n : Int)] V fun e w' => e = .returned (.int .i64 0) ∧ Cl w' gi r h L (2 ^ L) (upd c (trl (uw u) L i) (n : Int)) ∧ But h w w') := fun V hV => (setM_yes (hC.below hV) (trl (uw u) L i) (n : Int) (trl_lt _ _ _) hmy).mono fun e w' ⟨h1, h2⟩ => ⟨h1, by rw [h2]; exact (hC.below hV).put _ (trl_lt _ _ _) _ (by omega), by rw [h2]; exact (but_of hV h).setCell _ _⟩
  have hlg := lt_of_cell k1
  have hle := lt_of_cell ke
  have hB0 : Below w.heap.size w w.drew := (Below.refl _ w).drew
  clear hC hF hmy
  generalize trl (uw u) L i = x at CF CS ⊢
  have t0 : (n : Int) < (len : Int) := by omega
  go_enter Tryz.func64, Tryz.ntmps64
  go_region_held3 (fun V => V.cell? ⟨g, 1, none⟩ = some (.pointer (some ⟨gi, 0, none⟩)) ∧ V.cell? ⟨g, 2, none⟩ = some (.slice (some ⟨ge, 0, none⟩) len cap) ∧ V.cell? ⟨ge, n * 5 + 1, none⟩ = some (.int .i64 u))
    (first | exact ⟨k1, k2, ke⟩ | exact ⟨q1, q2, qe⟩ | exact ⟨p1, p2, pe⟩ | fail)
    (first | (go_at_call 81; refine (CF.out _ hB0).mono ?_; rintro e w2 ⟨rfl, hB2⟩; have hBW := hB0.trans hB2; have q1 := (hBW.cell (p := ⟨g, 1, none⟩) hlg).trans k1; have q2 := (hBW.cell (p := ⟨g, 2, none⟩) hlg).trans k2; have qe := (hBW.cell (p := ⟨ge, n * 5 + 1, none⟩) hle).trans ke)
           | (go_at_call 80; refine (CS.out _ hBW).mono ?_; rintro e w3 ⟨rfl, hC3, hb3⟩; have p1 := (hb3.cell (p := ⟨g, 1, none⟩) hlg hgh).trans k1; have p2 := (hb3.cell (p := ⟨g, 2, none⟩) hlg hgh).trans k2; have pe := (hb3.cell (p := ⟨ge, n * 5 + 1, none⟩) hle heh).trans ke) | fail)
  go_wp2
  go_end0
  exact ⟨rfl, hC3, hb3⟩
/-- The least log from l on, within so many, for which 2 ^ log is n or more. -/
def logF (n : Nat) : Nat → Nat → Nat
  | 0, l => l
  | f + 1, l => if 2 ^ l < n then logF n f (l + 1) else l
theorem logF_glog (n : Nat) : ∀ f l, logF (3 * n) f l = glogF n f l := by
  intro f
  induction f with
  | zero => intro l; rfl
  | succ f ih => intro l; rw [logF, glogF, ih]
theorem logF_step (n : Nat) : ∀ f l, 2 ^ (l + f) ≥ n → logF n f l ≤ l + f ∧ l ≤ logF n f l ∧ ¬ 2 ^ logF n f l < n ∧ ∀ j, l ≤ j → j < logF n f l → 2 ^ j < n := by
  intro f
  induction f with
  | zero => intro l h; simp only [logF]; exact ⟨by omega, by omega, by simpa using h, fun j h1 h2 => by omega⟩
  | succ f ih =>
    intro l h
    rw [logF]
    by_cases e : 2 ^ l < n
    · rw [if_pos e]
      obtain ⟨h1, h2, h3, h4⟩ := ih (l + 1) (by rw [show l + 1 + f = l + (f + 1) by omega]; exact h)
      refine ⟨by omega, by omega, h3, fun j h5 h6 => ?_⟩
      rcases Nat.lt_or_ge l j with x | x
      · exact h4 j (by omega) h6
      · rw [show j = l by omega]; exact e
    · rw [if_neg e]
      exact ⟨by omega, by omega, e, fun j h1 h2 => by omega⟩
theorem logF_eq {n l : Nat} (hn : n ≤ 1000000) (h3 : 3 ≤ l) (h1 : ¬ 2 ^ l < n) (h2 : ∀ j, 3 ≤ j → j < l → 2 ^ j < n) : logF n 20 3 = l := by
  obtain ⟨a1, a2, a3, a4⟩ := logF_step n 20 3 (Nat.le_trans (by omega : n ≤ 2 ^ 20) (by decide))
  rcases Nat.lt_trichotomy (logF n 20 3) l with e | e | e
  · exact absurd (h2 _ a2 e) a3
  · exact e
  · exact absurd (a4 l h3 e) h1
set_option maxHeartbeats 1000000 in
theorem logOf_any (n : Nat) (hn : n ≤ 1000000) (w : World) : Calls Tryz.prog 91 #[.int .i64 (n : Int)] w fun e w' => e = .returned (.int .i64 ((logF n 20 3 : Nat) : Int)) ∧ w' = w := by
  go_enter Tryz.func91, Tryz.ntmps91
  go_wp2
  go_loopw [3] (fun lv wr => ∃ l : Nat, 3 ≤ l ∧ l ≤ 20 ∧ lv = .int .i64 (l : Int) ∧ (∀ j, 3 ≤ j → j < l → 2 ^ j < n) ∧ wr = w) (fun lv _ => 21 - (intOf lv).toNat)
  case atStart => exact ⟨3, by omega, by omega, rfl, fun j h1 h2 => absurd h2 (by omega), rfl⟩
  case round =>
    obtain ⟨l, hl3, hl20, rfl, hlj, rfl⟩ := hrel
    have hP : 2 ^ l ≤ 1048576 := Nat.le_trans (Nat.pow_le_pow_right (n := 2) (by decide) hl20) (by decide)
    have e1 : IntKind.i64.wrap ((2 : Int) ^ l) = ((2 ^ l : Nat) : Int) := by
      rw [show ((2 : Int) ^ l) = ((2 ^ l : Nat) : Int) by push_cast; rfl]
      generalize 2 ^ l = P at hP
      exact i64_small (by omega) (by omega)
    have HLJ := Lib.hid hlj
    clear hlj
    by_cases hc : 2 ^ l < n
    · have hl19 : l < 20 := by
        rcases Nat.lt_or_ge l 20 with z | z
        · exact z
        · have h20' : (2 : Nat) ^ 20 = 1048576 := by decide
          rw [show l = 20 by omega] at hc
          omega
      have HL2 : Hid (∀ j, 3 ≤ j → j < l + 1 → 2 ^ j < n) := fun j h1 h2 => by
        rcases Nat.lt_or_ge j l with z | z
        · exact HLJ.out j h1 z
        · rw [show j = l by omega]; exact hc
      generalize 2 ^ l = P at e1 hP hc
      have hc' : (P : Int) < (n : Int) := by omega
      go_wp2
      go_roundw
      case rel => exact ⟨l + 1, by omega, by omega, by go_num, HL2.out, by first | rfl | trivial⟩
      case measure => simp [intOf]; omega
    · have HG := Lib.hid (logF_eq hn hl3 hc HLJ.out)
      generalize 2 ^ l = P at e1 hP hc
      have hc' : ¬ (P : Int) < (n : Int) := by omega
      go_wp2
      go_ret
      exact ⟨by rw [HG.out]; rfl, rfl⟩
/-- The head of a table, its index turned. -/
def setD (F : Nat → Value) (gi made : Nat) : Nat → Value
  | 1 => .pointer (some ⟨gi, 0, none⟩)
  | 5 => .int .i64 ((made : Int) + 1)
  | j => F j
/-- What makeIndex leaves. -/
structure Mi (w : World) (g : Nat) (F : Nat → Value) (L made : Nat) (es : List En) (ev : Value) (mv : Value) (M : Int → Int → World → Prop) (a b : Int) (gi r h k : Nat) (w' : World) : Prop where
  hd : Blk w' g 7 (setD F gi made)
  row : Es w' ev es
  cl : Cl w' gi r h L (2 ^ L) (layN es L k)
  m : M (a + 1) b w'
  ex : Ex (fun k => k = g ∨ mB mv k) w w'
set_option maxRecDepth 100000 in
set_option maxHeartbeats 4000000 in
theorem makeIndex_any {w : World} {g L made : Nat} {F : Nat → Value} {es : List En} {ev mv : Value} {M : Int → Int → World → Prop} {a b : Int} (hS : Sz L (2 ^ L)) (hB : Blk w g 7 F) (f0 : F 0 = mv) (f2 : F 2 = ev) (f5 : F 5 = .int .i64 (made : Int)) (hE : Es w ev es) (hMo : MtOk mv M) (hM : M a b w)
    (hge : ∀ k, ev.ownBlock = some k → k ≠ g ∧ ¬ mB mv k) (hgm : ∀ k, mB mv k → k ≠ g) (hl : ∀ n, n < es.length → (nth es n).live = true) (hr : es.length ≤ rm (2 ^ L)) (hm : made ≤ 1000000) (ha : 0 ≤ a ∧ a ≤ 1000000000) (hlen : es.length ≤ 100000) :
    Calls Tryz.prog 44 #[.pointer (some ⟨g, 0, none⟩), .int .i64 (L : Int)] w fun e w' => e = .returned (.tuple #[]) ∧ ∃ gi r h, w.heap.size ≤ gi ∧ w.heap.size ≤ r ∧ w.heap.size ≤ h ∧ Mi w g F L made es ev mv M a b gi r h es.length w' := by
  have C1 := new_any hS w
  have hlg := hB.lt (by omega)
  obtain ⟨ae, cape, ge, hev, hae, hro⟩ := hE.open
  have HB := Lib.hid hB
  have HE := Lib.hid hE
  have HMO := Lib.hid hMo
  have HM := Lib.hid hM
  have HGE := Lib.hid hge
  have HGM := Lib.hid hgm
  have HL := Lib.hid hl
  have HA := Lib.hid hae
  have HRO := Lib.hid hro
  have HEV := Lib.hid hev
  have e5 : IntKind.i64.wrap ((made : Int) + 1) = (made : Int) + 1 := i64_small (by omega) (by omega)
  clear hB hE hMo hM hge hgm hl hae hro hev
  go_enter Tryz.func44, Tryz.ntmps44
  go_wp2_with fail
  refine C1.mono ?_
  rintro e w1 ⟨gi, r, h, rfl, hgi, hr', hh, hC1, hB1⟩
  clear C1
  have hK1 := HB.out.same (hB1.block g hlg)
  have x1 : w1.cell? ⟨g, 1, none⟩ = some (F 1) := hK1.c 1 (by omega)
  have x5 : w1.cell? ⟨g, 5, none⟩ = some (.int .i64 (made : Int)) := by rw [hK1.c 5 (by omega), f5]
  have x0 : w1.cell? ⟨g, 0, none⟩ = some mv := by rw [hK1.c 0 (by omega), f0]
  have z1 := hK1.z 1
  have z5 := hK1.z 5
  have hK2 := (hK1.put 1 (.pointer (some ⟨gi, 0, none⟩))).put 5 (.int .i64 ((made : Int) + 1))
  have hEx2 : Ex (fun k => k = g ∨ mB mv k) w ((w1.setCell ⟨g, 1, none⟩ (.pointer (some ⟨gi, 0, none⟩))).setCell ⟨g, 5, none⟩ (.int .i64 ((made : Int) + 1))) := ((ex_of hB1).setCell (p := ⟨g, 1, none⟩) (fun _ => .inl rfl) _).setCell (p := ⟨g, 5, none⟩) (fun _ => .inl rfl) _
  have hC2 : Cl ((w1.setCell ⟨g, 1, none⟩ (.pointer (some ⟨gi, 0, none⟩))).setCell ⟨g, 5, none⟩ (.int .i64 ((made : Int) + 1))) gi r h L (2 ^ L) (fun _ => -1) := by
    have o : ∀ k, k ≠ g → ((w1.setCell ⟨g, 1, none⟩ (.pointer (some ⟨gi, 0, none⟩))).setCell ⟨g, 5, none⟩ (.int .i64 ((made : Int) + 1))).heap[k]? = w1.heap[k]? := fun k hk => (Below.heap_setCell _ _ _ _ hk).trans (Below.heap_setCell _ _ _ _ hk)
    exact hC1.same (o _ (by omega)) (o _ (by omega)) (o _ (by omega))
  have HK2 := Lib.hid hK2
  have HEX2 := Lib.hid hEx2
  have HC2 := Lib.hid hC2
  have hM2 : M a b ((w1.setCell ⟨g, 1, none⟩ (.pointer (some ⟨gi, 0, none⟩))).setCell ⟨g, 5, none⟩ (.int .i64 ((made : Int) + 1))) := HMO.out.same a b w _ HM.out fun k hk => ((Below.heap_setCell _ _ _ _ (HGM.out k hk)).trans (Below.heap_setCell _ _ _ _ (HGM.out k hk))).trans (hB1.block k (HMO.out.lt a b w k HM.out hk))
  clear hK1 hK2 hEx2 hC2 hC1
  go_wp2_with fail
  generalize World.setCell (World.setCell w1 _ _) _ _ = w2 at *
  clear x0 x1 x5 z1 z5
  refine (HMO.out.tick a b w2 ha.1 ha.2 hM2).mono ?_
  rintro e w3 ⟨rfl, hM3, hX3⟩
  have hsz2 : w.heap.size ≤ w2.heap.size := HEX2.out.size
  have hC3 : Cl w3 gi r h L (2 ^ L) (fun _ => -1) := by
    obtain ⟨y1, y2, y3⟩ := HC2.out.lt
    have hfr : ∀ k, w.heap.size ≤ k → ¬ mB mv k := fun k hk hm => by have := HMO.out.lt a b w k HM.out hm; omega
    exact HC2.out.same (hX3.block _ y1 (hfr _ hgi)) (hX3.block _ y2 (hfr _ hr')) (hX3.block _ y3 (hfr _ hh))
  have hEx3 : Ex (fun k => k = g ∨ mB mv k) w w3 := HEX2.out.next hX3 fun k _ hk => .inr hk
  have hE3 : Es w3 ev es := HE.out.same fun k hk => hEx3.block k (HE.out.lt k hk) fun hx => hx.elim (HGE.out k hk).1 (HGE.out k hk).2
  have hK3 : Blk w3 g 7 (setD F gi made) := (HK2.out.same (hX3.block g (HK2.out.lt (by omega)) fun hx => HGM.out g hx rfl)).congr fun j hj => by
    have : j = 0 ∨ j = 1 ∨ j = 2 ∨ j = 3 ∨ j = 4 ∨ j = 5 ∨ j = 6 := by omega
    rcases this with rfl | rfl | rfl | rfl | rfl | rfl | rfl <;> rfl
  have hI3 : Mi w g F L made es ev mv M a b gi r h 0 w3 := ⟨hK3, hE3, hC3, hM3, hEx3⟩
  have y2 : w3.cell? ⟨g, 2, none⟩ = some (.slice ae es.length cape) := by rw [hK3.c 2 (by omega), ← HEV.out]; exact congrArg some f2
  have HI3 := Lib.hid hI3
  clear hI3 hK3 hE3 hEx3 hC3 hM3 hX3 hM2 HK2 HEX2 HC2
  go_wp2_with fail
  go_loopw [30, 4] (fun iv uv wr => ∃ k : Nat, k ≤ es.length ∧ iv = .int .i64 (k : Int) ∧ Mi w g F L made es ev mv M a b gi r h k wr) (fun iv _ _ => es.length - (intOf iv).toNat)
  case atStart => exact ⟨0, by omega, rfl, HI3.out⟩
  case round =>
    obtain ⟨k, hk, rfl, hI⟩ := hrel
    have HI := Lib.hid hI
    clear hI
    by_cases hlt : k < es.length
    · have t1 : (k : Int) < (es.length : Int) := by omega
      obtain ⟨rfl, hown, _⟩ := HA.out (by omega)
      have hI := HI.out
      have hinv := layN_inv es L HL.out hr k hk
      obtain ⟨i, hi, hif⟩ := hinv.first (nth es k).hash
      obtain ⟨a', cap', ge', hv', hae', hro'⟩ := hI.row.open
      rw [HEV.out] at hv'
      cases hv'
      obtain ⟨hge1, hge2, _⟩ := hae' (by omega)
      cases hge1
      have hgne := HGE.out ge (by rw [HEV.out]; rfl)
      have hme : ge < w.heap.size := HE.out.lt ge (by rw [HEV.out]; rfl)
      have q1 : wr.cell? ⟨g, 1, none⟩ = some (.pointer (some ⟨gi, 0, none⟩)) := hI.hd.c 1 (by omega)
      have q2 : wr.cell? ⟨g, 2, none⟩ = some (.slice (some ⟨ge, 0, none⟩) es.length cape) := by rw [hI.hd.c 2 (by omega), ← HEV.out]; exact congrArg some f2
      have CL := lay_any q1 q2 (hro'.c1 k hlt) hI.cl (by omega) (by omega) hlt (by omega) hif hi
      have HLN : Hid (upd (layN es L k) (trl (uw (nth es k).hash) L i) (k : Int) = layN es L (k + 1)) := by
        show _ = _
        rw [layN, layc, fidx_eq hif]
      rw [HLN.out] at CL
      have HN : Hid (∀ w', Cl w' gi r h L (2 ^ L) (layN es L (k + 1)) → But h wr w' → Mi w g F L made es ev mv M a b gi r h (k + 1) w') := fun w' hC' hb' =>
        ⟨hI.hd.same (hb'.block g (hI.hd.lt (by omega)) (by omega)), hI.row.same (fun k' hk' => hb'.block k' (hI.row.lt k' hk') (by have := HE.out.lt k' hk'; omega)), hC', HMO.out.same _ _ wr w' hI.m (fun k' hk' => hb'.block k' (HMO.out.lt _ _ _ _ hI.m hk') (by have := HMO.out.lt _ _ _ _ HM.out hk'; omega)), hI.ex.next hb'.ex (fun k' h1 h2 => by omega)⟩
      clear hI hinv hif hi hro' hae' hge2 HLN q1 q2
      go_wp2_with fail
      refine CL.mono ?_
      rintro e w4 ⟨rfl, hC4, hb4⟩
      clear CL
      go_wp2_with fail
      go_roundw
      case rel => exact ⟨k + 1, by omega, by go_num, HN.out _ hC4 hb4⟩
      case measure => simp [intOf]; omega
    · obtain rfl : k = es.length := by omega
      have t1 : ¬ ((es.length : Int) < (es.length : Int)) := by omega
      go_wp2
      go_end0
      exact ⟨rfl, gi, hgi, r, hr', h, hh, HI.out⟩
end Go.Proofs.YtbpflmdefpjcaaaGreat
namespace Go.Proofs.YtbpflmdefpjcaaaGreat
open Go.RowKit

theorem run_copy_wide {P : Program} (w : World) (dT sT ty elem : TypeId) (size g o dLen dCap : Nat) (a : Addr) (sLen sCap : Nat) (cur : Array Value) (t : TypeId) (cs : List Value)
    (hu : P.underlying dT = some (.slice elem)) (hs : (P.info? elem).map (·.size) = some size)
    (hg : w.heap[g]? = some (.cells cur t (0, 0))) (hn : cs.length = Nat.min sLen dLen * size)
    (hsrc : ∀ j v, cs[j]? = some v → w.cell? (a.add j) = some v) (hfit : o + cs.length ≤ cur.size) (h1 : ∀ v ∈ cs, v.oneCell' = true) :
    (Builtin.copy_ #[dT, sT] ty #[.slice (some ⟨g, o, none⟩) dLen dCap, .slice (some a) sLen sCap]).run P w =
      .ok (goInt (Nat.min sLen dLen : Nat)) (w.setRow g (cur.toList.take o ++ cs ++ cur.toList.drop (o + cs.length)).toArray) := by
  have hl := run_loadCells_list (P := P) w a cs hsrc
  have hst := run_storeCells_at P g o t cs 0 cur w hg (by simpa using hfit) h1
  cases hq : P.info? elem with
  | none => simp [hq] at hs
  | some i =>
    have hi : i.size = size := by simpa [hq] using hs
    simp [Builtin.copy_, run_underlying hu, Builtin.lenOf, Builtin.firstCells, sizeOf, typeInfo, hq, hi, ← hn, hl, hst]
theorem run_copy_wide0 {P : Program} (w : World) (dT sT ty elem : TypeId) (size : Nat) (d a : Option Addr) (dLen dCap sLen sCap : Nat) (hu : P.underlying dT = some (.slice elem)) (hs : (P.info? elem).map (·.size) = some size) (hn : Nat.min sLen dLen = 0) :
    (Builtin.copy_ #[dT, sT] ty #[.slice d dLen dCap, .slice a sLen sCap]).run P w = .ok (goInt 0) w := by
  cases hq : P.info? elem with
  | none => simp [hq] at hs
  | some i =>
    have hl : ∀ (x : Addr), (loadCells x 0).run P w = .ok #[] w := fun x => by simpa using run_loadCells_list (P := P) w x [] (by simp)
    cases d <;> cases a <;> simp [Builtin.copy_, run_underlying hu, Builtin.lenOf, Builtin.firstCells, sizeOf, typeInfo, hq, hn, hl, storeCells]
theorem run_clear_wide {P : Program} (w : World) (t ty elem : TypeId) (z : Value) (hu : P.underlying t = some (.slice elem)) (hv : ∀ w, (zeroValue elem).run P w = .ok z w) (g o n c : Nat) (cur : Array Value) (te : TypeId)
    (hg : w.heap[g]? = some (.cells cur te (0, 0))) (hfit : o + (Builtin.zeroCells z.cells n).size ≤ cur.size) (h1 : ∀ v ∈ (Builtin.zeroCells z.cells n).toList, v.oneCell' = true) (h0 : 0 < n) :
    (Builtin.clear_ #[t] ty #[.slice (some ⟨g, o, none⟩) n c]).run P w = .ok (.tuple #[]) (w.setRow g (cur.toList.take o ++ (Builtin.zeroCells z.cells n).toList ++ cur.toList.drop (o + (Builtin.zeroCells z.cells n).size)).toArray) := by
  have hst := run_storeCells_at P g o te (Builtin.zeroCells z.cells n).toList 0 cur w hg (by simpa using hfit) h1
  obtain ⟨m, rfl⟩ : ∃ m, n = m + 1 := ⟨n - 1, by omega⟩
  simp [Builtin.clear_, run_underlying hu, hv, hst]
theorem run_clear_wide0 {P : Program} (w : World) (t ty elem : TypeId) (hu : P.underlying t = some (.slice elem)) (d : Option Addr) (c : Nat) :
    (Builtin.clear_ #[t] ty #[.slice d 0 c]).run P w = .ok (.tuple #[]) w := by
  cases d <;> simp [Builtin.clear_, run_underlying hu]
end Go.Proofs.YtbpflmdefpjcaaaGreat
namespace Go.Proofs.YtbpflmdefpjcaaaGreat
open Go.RowKit Go.WideShapes

/-- append onto a row of one's own, as one step of a region that draws. -/
theorem step_append_own {P : Program} {ops : Array Oper} {o : Oper} {a : Act} {w : World} {K : Act → World → Prop} {Q : Exit → Act → World → Prop} {E : Prop} (hgd : o.guard = none) (s x : Operand) (t : TypeId)
    (ho : o.op = .call { callee := .builtin .append, args := #[s, x], argTypes := #[t, t] })
    (base : Nat) (e : TypeId) (i : TypeInfo) (z : Value) (size bytes : Nat) (ht : P.underlying t = some (.slice e)) (hi : P.info? e = some i) (hz : i.zero = some z)
    (hsize : i.size = size) (hby : i.bytes = bytes) (hzs : z.cells.size = size) (hsz : 0 < size)
    (v : Value) (n : Nat) (xs : List Value) (hs : a.eval s = v) (hown : w.ownsRow base e size v n xs)
    (ad : Addr) (m c : Nat) (news : List Value) (hx : a.eval x = .slice (some ad) m c) (hl : news.length = m * size) (hnews : ∀ j u, news[j]? = some u → w.cell? (ad.add j) = some u) (h1 : ∀ u ∈ news, u.oneCell' = true)
    (h63 : n + m ≤ maxLen) (hbytes : (n + m) * bytes ≤ 140737488355328) (hbase : base ≤ w.heap.size)
    (h : ∀ v' w', w'.ownsRow base e size v' (n + m) (xs ++ news) → w.grownBy w' v.ownBlock → (v'.ownBlock = v.ownBlock ∨ v'.ownBlock = some w.heap.size) → K (a.put o.dst v') w') :
    if Region.wanted o (yielded ops a.tmps) = true then Oper.wp P o a w K Q else E := by
  have hw : Region.wanted o (yielded ops a.tmps) = true := by simp [Region.wanted, hgd]
  rw [if_pos hw]
  obtain ⟨v', w', hr, h2, h3, _, h5⟩ := run_append_own_at (P := P) w base t o.type e i z size bytes ht hi hz hsize hby hzs hsz v n xs hown ad m c news hl hnews h1 h63 hbytes hbase
  unfold Oper.wp execOp
  simp only [ho, resolve, invoke, builtin, Sem.run_bind, Sem.run_pure, Result.andThen_ok, List.map_toArray, List.map_cons, List.map_nil, hs, hx, hr]
  exact h v' w' h2 h3 h5
theorem ownsRow_shape {w : World} {B : Nat} {e : TypeId} {size n : Nat} {v : Value} {xs : List Value} (h : w.ownsRow B e size v n xs) : ∃ a cap, v = .slice a n cap := by
  rcases h.2 with ⟨rfl, rfl⟩ | ⟨g, cap, cur, rfl, _⟩
  · exact ⟨_, _, rfl⟩
  · exact ⟨_, _, rfl⟩
theorem enl_take (es : List En) : ∀ n, enl (es.take n) = (enl es).take (n * 5) := by
  induction es with
  | nil => intro n; simp [enl]
  | cons e r ih =>
    intro n
    match n with
    | 0 => simp [enl]
    | n + 1 =>
      rw [List.take_succ_cons, enl, enl, ih, show (n + 1) * 5 = (enc5 e).length + n * 5 by simp [enc5]; omega, List.take_length_add_append]
theorem enl_drop (es : List En) : ∀ n, enl (es.drop n) = (enl es).drop (n * 5) := by
  induction es with
  | nil => intro n; simp [enl]
  | cons e r ih =>
    intro n
    match n with
    | 0 => simp
    | n + 1 =>
      rw [List.drop_succ_cons, enl, ih, show (n + 1) * 5 = (enc5 e).length + n * 5 by simp [enc5]; omega, List.drop_length_add_append]
theorem but_setRow (w : World) (g : Nat) (cs : Array Value) : But g w (w.setRow g cs) := ⟨rfl, rfl, rfl, by simp [World.setRow], fun k _ hk => setRow_other w g k cs hk⟩
theorem splice_take {α : Type} (A cs : List α) (k N : Nat) (hk : k + cs.length ≤ N) (hN : N ≤ A.length) : (A.take k ++ cs ++ A.drop (k + cs.length)).take N = (A.take N).take k ++ cs ++ (A.take N).drop (k + cs.length) := by
  have h1 : (A.take k ++ cs).length = k + cs.length := by simp; omega
  rw [List.take_append, h1, List.take_of_length_le (by omega), List.take_take, Nat.min_eq_left (by omega), List.drop_take]
theorem Tryz.infoEn5 : (Tryz.prog.info? 69).map (·.size) = some 5 := by kernel_rfl
/-- copy of entries further down the same row. -/
theorem copy_en {w : World} {ge cap : Nat} {xs : List En} (h : Es w (.slice (some ⟨ge, 0, none⟩) xs.length cap) xs) (kept from_ m : Nat) (hk : kept ≤ from_) (hf : from_ + m ≤ xs.length) :
    ∃ w2, (∀ ty dCap sCap, (Builtin.copy_ #[62, 62] ty #[.slice (some ⟨ge, kept * 5, none⟩) (xs.length - kept) dCap, .slice (some ⟨ge, from_ * 5, none⟩) m sCap]).run Tryz.prog w = .ok (goInt (m : Nat)) w2) ∧
      Es w2 (.slice (some ⟨ge, 0, none⟩) xs.length cap) (xs.take kept ++ (xs.drop from_).take m ++ xs.drop (kept + m)) ∧ But ge w w2 := by
  have hmin : Nat.min m (xs.length - kept) = m := Nat.min_eq_left (by omega)
  have hlen : (xs.take kept ++ (xs.drop from_).take m ++ xs.drop (kept + m)).length = xs.length := by simp; omega
  by_cases h0 : m = 0
  · subst h0
    refine ⟨w, fun ty dCap sCap => ?_, ?_, But.refl _ _⟩
    · exact run_copy_wide0 w _ _ ty 69 5 _ _ _ _ _ _ Tryz.underlying62 Tryz.infoEn5 (by simp)
    · simpa using h
  · have h0' : w.ownsRow 0 69 5 (.slice (some ⟨ge, 0, none⟩) xs.length cap) xs.length (enl xs) := h
    rcases h.2 with ⟨e, _⟩ | ⟨g, cap', cur, e, h1, h2, h3, h4, h5, h6⟩
    · cases e
    cases e
    have hcs : (enl ((xs.drop from_).take m)).length = m * 5 := by rw [enl_len]; simp; omega
    have hA : xs.length * 5 ≤ cur.toList.length := by simp; rw [h5]; exact Nat.mul_le_mul_right 5 h3
    refine ⟨w.setRow ge (cur.toList.take (kept * 5) ++ enl ((xs.drop from_).take m) ++ cur.toList.drop (kept * 5 + (enl ((xs.drop from_).take m)).length)).toArray, fun ty dCap sCap => ?_, ?_, but_setRow _ _ _⟩
    · have := run_copy_wide (P := Tryz.prog) w 62 62 ty 69 5 ge (kept * 5) (xs.length - kept) dCap ⟨ge, from_ * 5, none⟩ m sCap cur 69 (enl ((xs.drop from_).take m)) Tryz.underlying62 Tryz.infoEn5 h2 (by rw [hcs, hmin]) ?_ ?_ (enl_one _)
      · rw [hmin] at this
        exact this
      · intro j v hj
        have hjl : j < m * 5 := by rw [← hcs]; exact (List.getElem?_eq_some_iff.1 hj).1
        have hc := h0'.cellAt (from_ * 5 + j) (by omega)
        rw [WideShapes.add_plain, hc, ← hj, enl_take, enl_drop, List.getElem?_take, if_pos hjl, List.getElem?_drop]
      · rw [hcs, ← Array.length_toList]
        omega
    · refine ⟨by rw [enl_len], .inr ⟨ge, cap, _, by rw [hlen], Nat.zero_le _, setRow_heap w ge _ _ _ _ h2, by rw [hlen]; exact h3, h4, ?_, ?_⟩⟩
      · simp [hcs]
        simp at hA
        omega
      · rw [hlen]
        rw [splice_take _ _ _ _ (by rw [hcs]; omega) hA, h6, enl_app, enl_app, hcs, enl_take xs, enl_drop xs, Nat.add_mul]
theorem Es.prefix {w : World} {ge cap : Nat} {xs : List En} (h : Es w (.slice (some ⟨ge, 0, none⟩) xs.length cap) xs) (kept : Nat) (hk : kept ≤ xs.length) : Es w (.slice (some ⟨ge, 0, none⟩) kept cap) (xs.take kept) := by
  rcases h.2 with ⟨e, _⟩ | ⟨g, cap', cur, e, h1, h2, h3, h4, h5, h6⟩
  · cases e
  cases e
  have hl : (xs.take kept).length = kept := by rw [List.length_take]; omega
  refine ⟨by rw [enl_len], .inr ⟨ge, cap, cur, by rw [hl], Nat.zero_le _, h2, by rw [hl]; omega, h4, h5, ?_⟩⟩
  rw [hl, enl_take, ← h6, List.take_take, Nat.min_eq_left (by omega)]
theorem zero_en (w : World) : (zeroValue 69).run Tryz.prog w = .ok (.agg #[.bool false, .int .i64 0, .int .i64 0, .int .i64 0, .int .i64 0]) w := by
  obtain ⟨i0, hi, hz0, hz1, hz2⟩ := info_parts Tryz.infoEn
  simp [zeroValue, typeInfo, hi, hz0]
/-- clear of what stands from kept on. -/
theorem clear_en {w : World} {ge cap : Nat} {xs : List En} (h : Es w (.slice (some ⟨ge, 0, none⟩) xs.length cap) xs) (kept : Nat) (hk : kept ≤ xs.length) :
    ∃ w2, (∀ ty c, 0 < xs.length - kept → (Builtin.clear_ #[62] ty #[.slice (some ⟨ge, kept * 5, none⟩) (xs.length - kept) c]).run Tryz.prog w = .ok (.tuple #[]) w2) ∧ (xs.length - kept = 0 → w2 = w) ∧
      Es w2 (.slice (some ⟨ge, 0, none⟩) kept cap) (xs.take kept) ∧ But ge w w2 := by
  by_cases h0 : xs.length - kept = 0
  · exact ⟨w, fun _ _ h => by omega, fun _ => rfl, h.prefix kept hk, But.refl _ _⟩
  · have hx := h.prefix kept hk
    rcases h.2 with ⟨e, _⟩ | ⟨g, cap', cur, e, h1, h2, h3, h4, h5, h6⟩
    · cases e
    cases e
    have hl : (xs.take kept).length = kept := by rw [List.length_take]; omega
    have hZ : (Builtin.zeroCells (Value.agg #[.bool false, .int .i64 0, .int .i64 0, .int .i64 0, .int .i64 0]).cells (xs.length - kept)).size = (xs.length - kept) * 5 := size_zeroCells _ _
    have hA : xs.length * 5 ≤ cur.toList.length := by simp; rw [h5]; exact Nat.mul_le_mul_right 5 h3
    have hfit : kept * 5 + (Builtin.zeroCells (Value.agg #[.bool false, .int .i64 0, .int .i64 0, .int .i64 0, .int .i64 0]).cells (xs.length - kept)).size ≤ cur.size := by
      rw [hZ, ← Array.length_toList]
      omega
    have h1c : ∀ v ∈ (Builtin.zeroCells (Value.agg #[.bool false, .int .i64 0, .int .i64 0, .int .i64 0, .int .i64 0]).cells (xs.length - kept)).toList, v.oneCell' = true := by
      intro v hv
      simp only [Builtin.zeroCells, Array.toList_map, List.mem_map] at hv
      obtain ⟨i, _, rfl⟩ := hv
      have : i % 5 = 0 ∨ i % 5 = 1 ∨ i % 5 = 2 ∨ i % 5 = 3 ∨ i % 5 = 4 := by omega
      have hs : (Value.agg #[.bool false, .int .i64 0, .int .i64 0, .int .i64 0, .int .i64 0]).cells.size = 5 := rfl
      rw [hs]
      rcases this with e | e | e | e | e <;> rw [e] <;> rfl
    refine ⟨_, fun ty c hpos => run_clear_wide (P := Tryz.prog) w 62 ty 69 _ Tryz.underlying62 zero_en ge (kept * 5) (xs.length - kept) c cur 69 h2 hfit h1c hpos, fun h => absurd h h0, ?_, but_setRow _ _ _⟩
    refine ⟨by rw [enl_len], .inr ⟨ge, cap, _, by rw [hl], Nat.zero_le _, setRow_heap w ge _ _ _ _ h2, by rw [hl]; omega, h4, ?_, ?_⟩⟩
    · simp [hZ]
      simp [hZ] at hfit
      omega
    · rw [hl, enl_take, ← h6]
      simp only [List.append_assoc]
      rw [List.take_append_of_le_length (by simp; omega), List.take_take, List.take_take, Nat.min_self, Nat.min_eq_left (by omega)]
/-- A builtin whose run is known, as one step of a region that draws. -/
theorem step_copy_run {P : Program} {ops : Array Oper} {o : Oper} {a : Act} {w w2 : World} {K : Act → World → Prop} {Q : Exit → Act → World → Prop} {E : Prop} (hgd : o.guard = none) (d s : Operand) (dT sT : TypeId)
    (ho : o.op = .call { callee := .builtin .copy, args := #[d, s], argTypes := #[dT, sT] }) (v1 v2 v : Value) (h1 : a.eval d = v1) (h2 : a.eval s = v2) (hrun : (Builtin.copy_ #[dT, sT] o.type #[v1, v2]).run P w = .ok v w2)
    (h : K (a.put o.dst v) w2) : if Region.wanted o (yielded ops a.tmps) = true then Oper.wp P o a w K Q else E := by
  have hw : Region.wanted o (yielded ops a.tmps) = true := by simp [Region.wanted, hgd]
  rw [if_pos hw]
  unfold Oper.wp
  simp [execOp, ho, resolve, invoke, builtin, h1, h2, hrun, Result.andThen]
  exact h
theorem wpList_copy_run' {P : Program} {ops : Array Oper} {rest : List Oper} {o : Oper} {a : Act} {w w2 : World} {Q : Exit → Act → World → Prop} (hgd : o.guard = none) (d s : Operand) (dT sT : TypeId)
    (ho : o.op = .call { callee := .builtin .copy, args := #[d, s], argTypes := #[dT, sT] }) (v1 v2 v : Value) (h1 : a.eval d = v1) (h2 : a.eval s = v2) (hrun : (Builtin.copy_ #[dT, sT] o.type #[v1, v2]).run P w = .ok v w2)
    (h : wpList P ops Q rest (a.put o.dst v) w2) : wpList P ops Q (o :: rest) a w := by
  refine wpList_plain hgd fun K hK => ?_
  unfold Oper.wp
  simp [execOp, ho, resolve, invoke, builtin, h1, h2, hrun, Result.andThen]
  exact hK _ _ h
theorem wpList_append_run {P : Program} {ops : Array Oper} {rest : List Oper} {o : Oper} {a : Act} {w w2 : World} {Q : Exit → Act → World → Prop} (hgd : o.guard = none) (d s : Operand) (dT sT : TypeId)
    (ho : o.op = .call { callee := .builtin .append, args := #[d, s], argTypes := #[dT, sT] }) (v1 v2 v : Value) (h1 : a.eval d = v1) (h2 : a.eval s = v2) (hrun : (Builtin.append_ #[dT, sT] o.type #[v1, v2]).run P w = .ok v w2)
    (h : wpList P ops Q rest (a.put o.dst v) w2) : wpList P ops Q (o :: rest) a w := by
  refine wpList_plain hgd fun K hK => ?_
  unfold Oper.wp
  simp [execOp, ho, resolve, invoke, builtin, h1, h2, hrun, Result.andThen]
  exact hK _ _ h
theorem wpList_clear_run {P : Program} {ops : Array Oper} {rest : List Oper} {o : Oper} {a : Act} {w w2 : World} {Q : Exit → Act → World → Prop} (hgd : o.guard = none) (d : Operand) (dT : TypeId)
    (ho : o.op = .call { callee := .builtin .clear, args := #[d], argTypes := #[dT] }) (v1 v : Value) (h1 : a.eval d = v1) (hrun : (Builtin.clear_ #[dT] o.type #[v1]).run P w = .ok v w2)
    (h : wpList P ops Q rest (a.put o.dst v) w2) : wpList P ops Q (o :: rest) a w := by
  refine wpList_plain hgd fun K hK => ?_
  unfold Oper.wp
  simp [execOp, ho, resolve, invoke, builtin, h1, hrun, Result.andThen]
  exact hK _ _ h
theorem enl_set (es : List En) (n k : Nat) (hn : n < es.length) (hk : k < 5) (x : Value) (e' : En) (h : enc5 e' = (enc5 (nth es n)).set k x) : (enl es).set (n * 5 + k) x = enl (es.set n e') := by
  induction es generalizing n with
  | nil => simp at hn
  | cons e r ih =>
    match n, hn, h with
    | 0, _, h =>
      have h' : enc5 e' = (enc5 e).set k x := by simpa [nth] using h
      rw [enl, Nat.zero_mul, Nat.zero_add, List.set_append_left _ _ (by simp [enc5]; omega), ← h', List.set_cons_zero, enl]
    | n + 1, hn, h =>
      have h' : enc5 e' = (enc5 (nth r n)).set k x := by simpa [nth] using h
      rw [enl, List.set_append_right _ _ (by simp [enc5]; omega), show (n + 1) * 5 + k - (enc5 e).length = n * 5 + k by simp [enc5]; omega, ih n (by simpa using hn) h', List.set_cons_succ, enl]
/-- One cell of a row of entries is turned. -/
theorem Es.put {w : World} {a : Option Addr} {cap ge : Nat} {es : List En} {l : Nat} (hl : l = es.length) (h : Es w (.slice (some ⟨ge, 0, none⟩) l cap) es) (n k : Nat) (hn : n < es.length) (hk : k < 5) (x : Value) (e' : En) (he : enc5 e' = (enc5 (nth es n)).set k x) (_ : a = some ⟨ge, 0, none⟩) : Es (w.setCell ⟨ge, n * 5 + k, none⟩ x) (.slice (some ⟨ge, 0, none⟩) l cap) (es.set n e') := by
  subst hl
  have h0 : w.ownsRow 0 69 5 (.slice (some ⟨ge, 0, none⟩) es.length cap) es.length (enl es) := h
  have h1 := (h0.stored (n * 5 + k) x).1
  rw [enl_set es n k hn hk x e' he] at h1
  unfold Es
  rw [List.length_set]
  exact h1
/-- An entry's five cells, emptied. -/
def zeroW (w : World) (ge n : Nat) : World := ((((w.setCell ⟨ge, n * 5, none⟩ (.bool false)).setCell ⟨ge, n * 5 + 1, none⟩ (.int .i64 0)).setCell ⟨ge, n * 5 + 2, none⟩ (.int .i64 0)).setCell ⟨ge, n * 5 + 3, none⟩ (.int .i64 0)).setCell ⟨ge, n * 5 + 4, none⟩ (.int .i64 0)
theorem zeroW_but (w : World) (ge n : Nat) : But ge w (zeroW w ge n) := by
  unfold zeroW
  exact (((((But.refl ge w).setCell _ _).setCell _ _).setCell _ _).setCell _ _).setCell _ _
theorem Es.zero {w : World} {ge cap : Nat} {es : List En} (h : Es w (.slice (some ⟨ge, 0, none⟩) es.length cap) es) (n : Nat) (hn : n < es.length) : Es (zeroW w ge n) (.slice (some ⟨ge, 0, none⟩) es.length cap) (es.set n En.zero) := by
  have e0 : Es (w.setCell ⟨ge, n * 5 + 0, none⟩ (.bool false)) (.slice (some ⟨ge, 0, none⟩) es.length cap) (es.set n ⟨false, (nth es n).hash, (nth es n).key, (nth es n).value, (nth es n).birth⟩) := Es.put rfl h n 0 hn (by decide) (.bool false) _ rfl rfl
  have sh : ∀ (es : List En) (e : En), n < es.length → nth (es.set n e) n = e := fun es e h => by rw [nth_set h, if_pos rfl]
  have e1 := Es.put (by simp) e0 n 1 (by simpa using hn) (by decide) (.int .i64 0) ⟨false, 0, (nth es n).key, (nth es n).value, (nth es n).birth⟩ (by rw [sh _ _ hn]; rfl) rfl
  rw [List.set_set] at e1
  have e2 := Es.put (by simp) e1 n 2 (by simpa using hn) (by decide) (.int .i64 0) ⟨false, 0, 0, (nth es n).value, (nth es n).birth⟩ (by rw [sh _ _ hn]; rfl) rfl
  rw [List.set_set] at e2
  have e3 := Es.put (by simp) e2 n 3 (by simpa using hn) (by decide) (.int .i64 0) ⟨false, 0, 0, 0, (nth es n).birth⟩ (by rw [sh _ _ hn]; rfl) rfl
  rw [List.set_set] at e3
  have e4 := Es.put (by simp) e3 n 4 (by simpa using hn) (by decide) (.int .i64 0) En.zero (by rw [sh _ _ hn]; rfl) rfl
  rw [List.set_set, Nat.add_zero] at e4
  exact e4
/-- An entry's five cells, emptied but for its birth. -/
def goneW (w : World) (ge n : Nat) (b : Int) : World := ((((w.setCell ⟨ge, n * 5, none⟩ (.bool false)).setCell ⟨ge, n * 5 + 1, none⟩ (.int .i64 0)).setCell ⟨ge, n * 5 + 2, none⟩ (.int .i64 0)).setCell ⟨ge, n * 5 + 3, none⟩ (.int .i64 0)).setCell ⟨ge, n * 5 + 4, none⟩ (.int .i64 b)
theorem goneW_but (w : World) (ge n : Nat) (b : Int) : But ge w (goneW w ge n b) := by
  unfold goneW
  exact (((((But.refl ge w).setCell _ _).setCell _ _).setCell _ _).setCell _ _).setCell _ _
theorem Es.goner {w : World} {ge cap : Nat} {es : List En} (h : Es w (.slice (some ⟨ge, 0, none⟩) es.length cap) es) (n : Nat) (hn : n < es.length) (b : Int) : Es (goneW w ge n b) (.slice (some ⟨ge, 0, none⟩) es.length cap) (es.set n (En.gone b)) := by
  have e0 : Es (w.setCell ⟨ge, n * 5 + 0, none⟩ (.bool false)) (.slice (some ⟨ge, 0, none⟩) es.length cap) (es.set n ⟨false, (nth es n).hash, (nth es n).key, (nth es n).value, (nth es n).birth⟩) := Es.put rfl h n 0 hn (by decide) (.bool false) _ rfl rfl
  have sh : ∀ (es : List En) (e : En), n < es.length → nth (es.set n e) n = e := fun es e h => by rw [nth_set h, if_pos rfl]
  have e1 := Es.put (by simp) e0 n 1 (by simpa using hn) (by decide) (.int .i64 0) ⟨false, 0, (nth es n).key, (nth es n).value, (nth es n).birth⟩ (by rw [sh _ _ hn]; rfl) rfl
  rw [List.set_set] at e1
  have e2 := Es.put (by simp) e1 n 2 (by simpa using hn) (by decide) (.int .i64 0) ⟨false, 0, 0, (nth es n).value, (nth es n).birth⟩ (by rw [sh _ _ hn]; rfl) rfl
  rw [List.set_set] at e2
  have e3 := Es.put (by simp) e2 n 3 (by simpa using hn) (by decide) (.int .i64 0) ⟨false, 0, 0, 0, (nth es n).birth⟩ (by rw [sh _ _ hn]; rfl) rfl
  rw [List.set_set] at e3
  have e4 := Es.put (by simp) e3 n 4 (by simpa using hn) (by decide) (.int .i64 b) (En.gone b) (by rw [sh _ _ hn]; rfl) rfl
  rw [List.set_set, Nat.add_zero] at e4
  exact e4
end Go.Proofs.YtbpflmdefpjcaaaGreat
namespace Go.Proofs.YtbpflmdefpjcaaaGreat
open Go.RowKit Go.WideShapes

theorem liveL_dead {es : List En} {n : Nat} (hn : n < es.length) (hd : (nth es n).live ≠ true) : liveL (es.take (n + 1)) = liveL (es.take n) := by rw [liveL_take hn, if_neg hd]
theorem liveL_run {es : List En} (fr : Nat) : ∀ m, fr + m ≤ es.length → (∀ n, fr ≤ n → n < fr + m → (nth es n).live = true) → liveL (es.take (fr + m)) = liveL (es.take fr) ++ (es.drop fr).take m := by
  intro m
  induction m with
  | zero => intro _ _; simp
  | succ m ih =>
    intro h1 h2
    rw [show fr + (m + 1) = fr + m + 1 by omega, liveL_take (by omega), if_pos (h2 _ (by omega) (by omega)), ih (by omega) (fun n a b => h2 n a (by omega)), List.append_assoc]
    congr 1
    have hd : m < (es.drop fr).length := by rw [List.length_drop]; omega
    rw [take_succ_nth hd]
    congr 2
    unfold nth
    rw [List.getD_eq_getElem?_getD, List.getD_eq_getElem?_getD, List.getElem?_drop]
theorem liveL_le (es : List En) : (liveL es).length ≤ es.length := by have := liveL_len es; omega
theorem nth_drop_eq {xs es : List En} {fr : Nat} (h : xs.drop fr = es.drop fr) {n : Nat} (hn : fr ≤ n) : nth xs n = nth es n := by
  have h1 := congrArg (fun l => l[n - fr]?) h
  simp only [List.getElem?_drop] at h1
  rw [show fr + (n - fr) = n by omega] at h1
  unfold nth
  rw [List.getD_eq_getElem?_getD, List.getD_eq_getElem?_getD, h1]
/-- Where dropDead stands: from the entry fr on all are as they were, and ahead of kept there are the live ones of those that were passed. -/
structure Dd (w : World) (g ge cap : Nat) (es : List En) (kept fr : Nat) (xs : List En) (wr : World) : Prop where
  len : xs.length = es.length
  row : Es wr (.slice (some ⟨ge, 0, none⟩) es.length cap) xs
  kf : kept ≤ fr
  fl : fr ≤ es.length + 1
  kl : kept ≤ es.length
  tk : xs.take kept = liveL (es.take fr)
  dr : xs.drop fr = es.drop fr
  bt : But ge w wr
theorem Dd.next {w : World} {g ge cap : Nat} {es : List En} {kept fr m : Nat} {xs : List En} {wr w2 : World} (h : Dd w g ge cap es kept fr xs wr) (hm : fr + m ≤ es.length) (hlv : ∀ n, fr ≤ n → n < fr + m → (nth es n).live = true) (hd : fr + m = es.length ∨ (nth es (fr + m)).live ≠ true)
    (hr : Es w2 (.slice (some ⟨ge, 0, none⟩) xs.length cap) (xs.take kept ++ (xs.drop fr).take m ++ xs.drop (kept + m))) (hb : But ge wr w2) : Dd w g ge cap es (kept + m) (fr + m + 1) (xs.take kept ++ (xs.drop fr).take m ++ xs.drop (kept + m)) w2 := by
  have hk := h.kf
  have hx := h.len
  have h1 : (xs.take kept).length = kept := by rw [List.length_take]; omega
  have h2 : ((xs.drop fr).take m).length = m := by rw [List.length_take, List.length_drop]; omega
  refine ⟨?_, by rw [← hx]; exact hr, by omega, by omega, by omega, ?_, ?_, h.bt.trans hb⟩
  · simp; omega
  · rw [List.take_append_of_le_length (by simp; omega), List.take_of_length_le (by rw [List.length_append]; omega), h.tk, h.dr]
    have e := liveL_run (es := es) fr m hm hlv
    rcases hd with z | z
    · rw [List.take_of_length_le (l := es) (i := fr + m + 1) (by omega), ← e, z, List.take_length]
    · rcases Nat.lt_or_ge (fr + m) es.length with y | y
      · rw [liveL_dead y z, e]
      · rw [List.take_of_length_le (l := es) (i := fr + m + 1) (by omega), ← e, show fr + m = es.length by omega, List.take_length]
  · rw [List.drop_append, List.drop_eq_nil_of_le (by rw [List.length_append]; omega), List.nil_append, List.length_append, h1, h2, List.drop_drop, show kept + m + (fr + m + 1 - (kept + m)) = fr + (m + 1) by omega, ← List.drop_drop, h.dr, List.drop_drop]
    rfl
/-- The head of a table, its entries turned. -/
def setE (F : Nat → Value) (v : Value) : Nat → Value
  | 2 => v
  | j => F j
set_option maxRecDepth 100000 in
set_option maxHeartbeats 4000000 in
theorem dropDead_any {w : World} {g : Nat} {F : Nat → Value} {es : List En} {ev : Value} (hB : Blk w g 7 F) (f2 : F 2 = ev) (hE : Es w ev es) (hge : ∀ k, ev.ownBlock = some k → k ≠ g) (hlen : es.length ≤ 100000) :
    Calls Tryz.prog 92 #[.pointer (some ⟨g, 0, none⟩)] w fun e w' => e = .returned (.tuple #[]) ∧ ∃ ev', ev'.ownBlock = ev.ownBlock ∧ Blk w' g 7 (setE F ev') ∧ Es w' ev' (liveL es) ∧ Ex (fun k => k = g ∨ ev.ownBlock = some k) w w' := by
  have hlg := hB.lt (by omega)
  have x2 : w.cell? ⟨g, 2, none⟩ = some ev := by rw [hB.c 2 (by omega), f2]
  have z2 := hB.z 2
  have HB := Lib.hid hB
  rcases hE.2 with ⟨rfl, h0⟩ | ⟨ge, cap, cur, rfl, h1, h2, h3, h4, h5, h6⟩
  · obtain rfl : es = [] := List.eq_nil_of_length_eq_zero h0
    clear hE hB
    go_enter Tryz.func92, Tryz.ntmps92
    go_wp2_with fail
    go_loopw [2, 3, 4] (fun av bv _ wr => av = .int .i64 0 ∧ bv = .int .i64 0 ∧ wr = w) (fun _ _ _ _ => 0)
    case atStart => exact ⟨rfl, rfl, rfl⟩
    case round =>
      obtain ⟨rfl, rfl, rfl⟩ := hrel
      go_wp2_with (refine wpList_clear_run rfl _ 62 rfl _ _ rfl (run_clear_wide0 _ _ _ 69 Tryz.underlying62 _ _) ?_)
      go_end0
      exact ⟨rfl, .slice none 0 0, rfl, (HB.out.put 2 (.slice none 0 0)).congr (fun j hj => by
        have : j = 0 ∨ j = 1 ∨ j = 2 ∨ j = 3 ∨ j = 4 ∨ j = 5 ∨ j = 6 := by omega
        rcases this with rfl | rfl | rfl | rfl | rfl | rfl | rfl <;> rfl), Es.nil _, (Ex.refl _ _).setCell (p := ⟨g, 2, none⟩) (fun _ => .inl rfl) _⟩
  · have HE : Hid (Es w (.slice (some ⟨ge, 0, none⟩) es.length cap) es) := hE
    have hgg : ge ≠ g := hge ge rfl
    clear hE hB hge h1 h2 h5 h6
    have HD0 : Hid (Dd w g ge cap es 0 0 es w) := ⟨rfl, HE.out, Nat.le_refl _, Nat.zero_le _, Nat.zero_le _, by simp [liveL], rfl, But.refl _ _⟩
    go_enter Tryz.func92, Tryz.ntmps92
    go_wp2_with fail
    go_loopw [2, 3, 4] (fun av bv _ wr => ∃ kept fr xs, av = .int .i64 ((kept : Nat) : Int) ∧ bv = .int .i64 ((fr : Nat) : Int) ∧ Dd w g ge cap es kept fr xs wr) (fun _ bv _ _ => es.length + 1 - (intOf bv).toNat)
    case atStart => exact ⟨0, 0, es, rfl, rfl, HD0.out⟩
    case round =>
      obtain ⟨kept, fr, xs, rfl, rfl, hD⟩ := hrel
      have HD := Lib.hid hD
      have hk1 := hD.kf
      have hk2 := hD.kl
      have hk3 := hD.fl
      have y2 := (hD.bt.cell (p := ⟨g, 2, none⟩) hlg (fun e => hgg e.symm)).trans x2
      have yz2 := (hD.bt.frozen (p := ⟨g, 2, none⟩) hlg (fun e => hgg e.symm)).trans z2
      clear hD
      by_cases hlt : fr < es.length
      · have t1 : (fr : Int) < (es.length : Int) := by omega
        go_wp2_with fail
        go_loopw [4] (fun tv wr' => ∃ m : Nat, tv = .int .i64 ((fr + m : Nat) : Int) ∧ fr + m ≤ es.length ∧ (∀ n, fr ≤ n → n < fr + m → (nth es n).live = true) ∧ wr' = wr) (fun tv _ => es.length - (intOf tv).toNat)
        case atStart => exact ⟨0, rfl, by omega, fun n h1 h2 => by omega, rfl⟩
        case round =>
          obtain ⟨m, rfl, hm, hlv, rfl⟩ := hrel
          have HLV := Lib.hid hlv
          clear hlv
          by_cases hml : fr + m < es.length
          case' pos =>
            have t2 : ((fr + m : Nat) : Int) < (es.length : Int) := by omega
            obtain ⟨a', cap', ge', hv', hae', hro'⟩ := HD.out.row.open
            rw [HD.out.len] at hv'
            cases hv'
            have y0 := hro'.c0 (fr + m) (by rw [HD.out.len]; exact hml)
            rw [nth_drop_eq HD.out.dr (by omega)] at y0
            have hge' := (hae' (by rw [HD.out.len]; omega)).1
            cases hge'
            clear hro' hae'
            by_cases hlv : (nth es (fr + m)).live = true
            case' pos =>
              have HLV2 : Hid (∀ n, fr ≤ n → n < fr + (m + 1) → (nth es n).live = true) := fun n h1 h2 => by
                rcases Nat.lt_or_ge n (fr + m) with z | z
                · exact HLV.out n h1 z
                · rw [show n = fr + m by omega]; exact hlv
              rw [hlv] at y0
              generalize hto : fr + m = tt at *
              go_wp2_with fail
              go_roundw
              case rel => exact ⟨m + 1, by rw [← hto]; go_num, by omega, HLV2.out, by first | rfl | trivial⟩
              case measure => simp [intOf]; omega
            case' neg =>
              have hlf : (nth es (fr + m)).live = false := by simpa using hlv
              rw [hlf] at y0
              generalize hto : fr + m = tt at *
              go_upto_region 5 with fail
          case' neg =>
            have t2 : ¬ ((fr + m : Nat) : Int) < (es.length : Int) := by omega
            generalize hto : fr + m = tt at *
            go_upto_region 5 with fail
          all_goals
            have hmm : m = tt - fr := by omega
            obtain ⟨w2, hrun, hE2, hb2⟩ := copy_en (w := World.drew _) (by rw [HD.out.len]; exact (show Es (World.drew _) _ _ from HD.out.row)) kept fr m hk1 (by rw [HD.out.len]; omega)
            rw [HD.out.len] at hrun
            rw [hmm] at hrun
            have HR := Lib.hid hrun
            have HN : Hid (Dd w g ge cap es (kept + m) (fr + m + 1) (xs.take kept ++ (xs.drop fr).take m ++ xs.drop (kept + m)) w2) := HD.out.next (by omega) (by rw [hto]; exact HLV.out) (by first | exact .inl (by omega) | exact .inr (by rw [hto]; exact hlv)) hE2 ((But.refl _ _).drew.trans hb2)
            have e47 : IntKind.i64.wrap ((kept : Int) + ((tt - fr : Nat) : Int)) = ((kept + (tt - fr) : Nat) : Int) := by rw [i64_small (by omega) (by omega)]; omega
            have e49 : IntKind.i64.wrap ((tt : Int) + 1) = ((tt + 1 : Nat) : Int) := by rw [i64_small (by omega) (by omega)]; omega
            have i1 : kept < cap := by omega
            have i2 : fr < cap := by omega
            have i3 : tt ≤ cap := by omega
            have i4 : fr ≤ tt := by omega
            have i5 : ¬ cap = kept := by omega
            have i6 : ¬ cap = fr := by omega
            clear hrun hE2 hb2
            go_region_law (refine step_copy_run rfl _ _ 62 62 rfl (.slice (some ⟨ge, kept * 5, none⟩) (es.length - kept) (cap - kept)) (.slice (some ⟨ge, fr * 5, none⟩) (tt - fr) (cap - fr)) _ (by rfl) (by rfl) (HR.out _ _ _) ?_)
            all_goals
              go_wp2_with fail
              go_roundw
              case rel => exact ⟨kept + m, fr + m + 1, _, by rw [hmm]; go_num, by rw [hto]; go_num, HN.out⟩
              case measure => simp [intOf]; omega
      · have t1 : ¬ (fr : Int) < (es.length : Int) := by omega
        obtain ⟨w2, hrun, hrun0, hE2, hb2⟩ := clear_en (by rw [HD.out.len]; exact HD.out.row) kept (by rw [HD.out.len]; exact hk2)
        rw [HD.out.len] at hrun hrun0
        have HE2 : Hid (Es w2 (.slice (some ⟨ge, 0, none⟩) kept cap) (liveL es)) := by
          show Es _ _ _
          have := HD.out.tk
          rw [List.take_of_length_le (l := es) (i := fr) (by omega)] at this
          rw [← this]
          exact hE2
        have HB2 : Hid (But ge w w2) := HD.out.bt.trans hb2
        have y2' := (HB2.out.cell (p := ⟨g, 2, none⟩) hlg (fun e => hgg e.symm)).trans x2
        have yz2' := (HB2.out.frozen (p := ⟨g, 2, none⟩) hlg (fun e => hgg e.symm)).trans z2
        have HF : Hid (∀ v, v = Value.slice (some ⟨ge, 0, none⟩) kept cap → Blk (w2.setCell ⟨g, 2, none⟩ v) g 7 (setE F v) ∧ Es (w2.setCell ⟨g, 2, none⟩ v) v (liveL es) ∧ Ex (fun k => k = g ∨ some ge = some k) w (w2.setCell ⟨g, 2, none⟩ v)) := by
          rintro v rfl
          refine ⟨((HB.out.same (HB2.out.block g hlg (fun e => hgg e.symm))).put 2 _).congr (fun j hj => ?_), HE2.out.same (fun k hk => ?_), ?_⟩
          · have : j = 0 ∨ j = 1 ∨ j = 2 ∨ j = 3 ∨ j = 4 ∨ j = 5 ∨ j = 6 := by omega
            rcases this with rfl | rfl | rfl | rfl | rfl | rfl | rfl <;> rfl
          · cases hk
            exact Below.heap_setCell _ _ _ _ hgg
          · exact (HB2.out.ex.mono (fun k _ hk => .inr (by rw [hk]))).setCell (p := ⟨g, 2, none⟩) (fun _ => .inl rfl) _
        have HR : Hid (∀ ty c, (Builtin.clear_ #[62] ty #[.slice (some ⟨ge, kept * 5, none⟩) (es.length - kept) c]).run Tryz.prog wr = .ok (.tuple #[]) w2) := by
          intro ty c
          by_cases h0 : es.length - kept = 0
          · rw [h0, hrun0 h0]
            exact run_clear_wide0 _ _ _ 69 Tryz.underlying62 _ _
          · exact hrun ty c (by omega)
        have hR0 := Lib.hid hrun0
        clear hrun hrun0 hE2 hb2
        by_cases hkc : kept = cap
        · have h0 : es.length - kept = 0 := by omega
          have hw2 := hR0.out h0
          subst hw2
          subst hkc
          go_wp2_with (refine wpList_clear_run rfl _ 62 rfl _ _ rfl (run_clear_wide0 _ _ _ 69 Tryz.underlying62 _ _) ?_)
          go_end0
          exact ⟨rfl, .slice (some ⟨ge, 0, none⟩) kept kept, rfl, HF.out _ rfl⟩
        · go_wp2_with (refine wpList_clear_run rfl _ 62 rfl _ _ rfl (HR.out _ _) ?_)
          go_end0
          exact ⟨rfl, .slice (some ⟨ge, 0, none⟩) kept cap, rfl, HF.out _ rfl⟩
end Go.Proofs.YtbpflmdefpjcaaaGreat
namespace Go.Proofs.YtbpflmdefpjcaaaGreat
open Go.RowKit Go.WideShapes

set_option maxRecDepth 100000 in
theorem ready_yes {w : World} {g gi : Nat} (k1 : w.cell? ⟨g, 1, none⟩ = some (.pointer (some ⟨gi, 0, none⟩))) :
    Calls Tryz.prog 26 #[.pointer (some ⟨g, 0, none⟩)] w fun e w' => e = .returned (.tuple #[]) ∧ w' = w := by
  go_enter Tryz.func26, Tryz.ntmps26
  go_wp2
  go_end0
  exact ⟨rfl, rfl⟩
/-- A table that was never used. -/
def zF (mv : Value) : Nat → Value
  | 0 => mv
  | 1 => .pointer none
  | 2 => .slice none 0 0
  | _ => .int .i64 0
set_option maxRecDepth 100000 in
theorem ready_no {w : World} {g : Nat} {mv : Value} {M : Int → Int → World → Prop} {a b : Int} (hB : Blk w g 7 (zF mv)) (hMo : MtOk mv M) (hM : M a b w) (hgm : ∀ k, mB mv k → k ≠ g) (ha : 0 ≤ a ∧ a ≤ 1000000000) :
    Calls Tryz.prog 26 #[.pointer (some ⟨g, 0, none⟩)] w fun e w' => e = .returned (.tuple #[]) ∧ ∃ gi r h, w.heap.size ≤ gi ∧ w.heap.size ≤ r ∧ w.heap.size ≤ h ∧ Dt w' g gi r h (.slice none 0 0) Tb.new mv ∧ M (a + 1) b w' ∧ Ex (fun k => k = g ∨ mB mv k) w w' := by
  have C1 := makeIndex_any (L := 3) (made := 0) (es := []) ⟨rfl, by decide, by decide⟩ hB rfl rfl rfl (Es.nil w) hMo hM (fun k hk => by cases hk) hgm (fun n hn => by simp at hn) (by simp) (by decide) ha (by simp)
  have k1 : w.cell? ⟨g, 1, none⟩ = some (.pointer none) := hB.c 1 (by omega)
  have hlg := hB.lt (by omega)
  have hlm := hMo.lt a b w
  have HM := Lib.hid hM
  clear hB hMo hM
  go_enter Tryz.func26, Tryz.ntmps26
  go_wp2_with fail
  refine C1.mono ?_
  rintro e w1 ⟨rfl, gi, r, h, hgi, hr, hh, hI⟩
  have HD : Hid (Dt w1 g gi r h (.slice none 0 0) Tb.new mv ∧ M (a + 1) b w1 ∧ Ex (fun k => k = g ∨ mB mv k) w w1) := by
    refine ⟨⟨hI.hd.congr (fun j hj => ?_), hI.row, hI.cl, (fun k hk => by cases hk), ⟨by omega, by omega, by omega⟩, fun k hk => ?_⟩, hI.m, hI.ex⟩
    · have : j = 0 ∨ j = 1 ∨ j = 2 ∨ j = 3 ∨ j = 4 ∨ j = 5 ∨ j = 6 := by omega
      rcases this with rfl | rfl | rfl | rfl | rfl | rfl | rfl <;> rfl
    · have := hlm k HM.out hk
      exact ⟨hgm k hk, by omega, by omega, by omega, by simp [Value.ownBlock]⟩
  clear C1 hI
  go_wp2
  go_end0
  exact ⟨rfl, gi, r, h, hgi, hr, hh, HD.out⟩
set_option maxRecDepth 100000 in
theorem new7_any {w : World} {pm : Option Addr} {M : Int → Int → World → Prop} {a b : Int} (hMo : MtOk (.pointer pm) M) (hM : M a b w) (ha : 0 ≤ a ∧ a ≤ 1000000000) :
    Calls Tryz.prog 12 #[.pointer pm] w fun e w' => ∃ g gi r h, e = .returned (.pointer (some ⟨g, 0, none⟩)) ∧ w.heap.size ≤ g ∧ w.heap.size ≤ gi ∧ w.heap.size ≤ r ∧ w.heap.size ≤ h ∧ Dt w' g gi r h (.slice none 0 0) Tb.new (.pointer pm) ∧ M (a + 1) b w' ∧ Ex (mB (.pointer pm)) w w' := by
  obtain ⟨w1, hw1⟩ : ∃ w1, w.alloc (.cells #[.pointer pm, .pointer none, .slice none 0 0, .int .i64 0, .int .i64 0, .int .i64 0, .int .i64 0] 81) = w1 := ⟨_, rfl⟩
  have hB1 : Blk w1 w.heap.size 7 (zF (.pointer pm)) := by
    rw [← hw1]
    refine (Blk.new w _ _).congr fun j hj => ?_
    have : j = 0 ∨ j = 1 ∨ j = 2 ∨ j = 3 ∨ j = 4 ∨ j = 5 ∨ j = 6 := by simp at hj; omega
    rcases this with rfl | rfl | rfl | rfl | rfl | rfl | rfl <;> rfl
  have hb1 : Below w.heap.size w w1 := by rw [← hw1]; exact (Below.refl _ w).alloc (Nat.le_refl _) _
  have hs1 : w1.heap.size = w.heap.size + 1 := by rw [← hw1]; simp
  have hlm := hMo.lt a b w
  have C1 := ready_no hB1 hMo (hMo.below hM hb1) (fun k hk => by have := hlm k hM hk; omega) ha
  have HX : Hid (Ex (mB (.pointer pm)) w w1) := ex_of hb1
  have HW := Lib.hid hw1
  clear hB1 hb1 hw1 hMo hM
  go_enter Tryz.func12, Tryz.ntmps12
  go_wp2_with fail
  rw [HW.out]
  refine C1.mono ?_
  rintro e w2 ⟨rfl, gi, r, h, hgi, hr, hh, hD, hM2, hX⟩
  have HD := Lib.hid hD
  have HM2 := Lib.hid hM2
  have HXX := Lib.hid (HX.out.next hX (fun k hk h => h.elim (fun e => by omega) id))
  clear C1 hD hM2 hX
  go_wp2
  go_ret
  exact ⟨_, gi, r, h, rfl, Nat.le_refl _, by omega, by omega, by omega, HD.out, HM2.out, HXX.out⟩
/-- A table that has room: what makeRoom leaves. -/
structure Rd (w : World) (g gi r h : Nat) (ev : Value) (t : Tb) (mv : Value) (M : Int → Int → World → Prop) (a b : Int) (u k v : Int) (w1 : World) (gi1 r1 h1 : Nat) (ev1 : Value) (t1 : Tb) : Prop where
  dt : Dt w1 g gi1 r1 h1 ev1 t1 mv
  ok : t1.Ok
  room : t1.es.length < rm (2 ^ t1.L)
  eq : ∀ u k v, t.add u k v = t1.push u k v
  m : M (a + (t1.made - t.made : Nat)) b w1
  bi : t1.births = t.births
  tu : t1.turn = t.turn
  fx : ∀ j, dX g gi1 r1 h1 ev1 j → dX g gi r h ev j ∨ w.heap.size ≤ j
  ex : Ex (fun j => dX g gi r h ev j ∨ mB mv j) w w1
set_option maxRecDepth 100000 in
set_option maxHeartbeats 4000000 in
theorem makeRoom_any {w : World} {g gi r h : Nat} {ev : Value} {t : Tb} {mv : Value} {M : Int → Int → World → Prop} {a b : Int} (hD : Dt w g gi r h ev t mv) (hO : t.Ok) (hMo : MtOk mv M) (hM : M a b w) (hm : t.made ≤ 1000000) (ha : 0 ≤ a ∧ a ≤ 1000000000) (u k v : Int) :
    Calls Tryz.prog 82 #[.pointer (some ⟨g, 0, none⟩)] w fun e w' => e = .returned (.int .i64 0) ∧ ∃ gi1 r1 h1 ev1 t1, Rd w g gi r h ev t mv M a b u k v w' gi1 r1 h1 ev1 t1 := by
  have f1 : w.cell? ⟨g, 1, none⟩ = some (.pointer (some ⟨gi, 0, none⟩)) := hD.hd.c 1 (by omega)
  have f3 : w.cell? ⟨g, 3, none⟩ = some (.int .i64 (t.live : Int)) := hD.hd.c 3 (by omega)
  have f2 : w.cell? ⟨g, 2, none⟩ = some ev := hD.hd.c 2 (by omega)
  obtain ⟨ae, cape, ge, hev, _, hro⟩ := hD.es.open
  have hcap := hro.le
  rw [hev] at f2
  have hlen : t.es.length ≤ 100000 := Nat.le_trans hO.few hO.all
  have CR : Hid (∀ V : World, V.heap = w.heap → Calls Tryz.prog 90 #[.pointer (some ⟨gi, 0, none⟩)] V fun e w' => e = .returned (.int .i64 (rm (2 ^ t.L) : Int)) ∧ w' = V) := fun V hV => room_any (hD.cl.same (by rw [hV]) (by rw [hV]) (by rw [hV]))
  have hlv : t.live ≤ 100000 := Nat.le_trans t.live_le hlen
  have HD := Lib.hid hD
  have HO := Lib.hid hO
  have HMO := Lib.hid hMo
  have HM := Lib.hid hM
  have HEV := Lib.hid hev
  clear hD hO hMo hM hro hev
  go_enter Tryz.func82, Tryz.ntmps82
  go_wp2_with fail
  go_region_held3 (fun V => V.cell? ⟨g, 1, none⟩ = some (.pointer (some ⟨gi, 0, none⟩)) ∧ V.cell? ⟨g, 2, none⟩ = some (.slice ae t.es.length cape))
    (first | exact ⟨f1, f2⟩ | fail)
    (first | (go_at_call 90; refine (CR.out w.drew rfl).mono ?_; rintro e w2 ⟨rfl, rfl⟩) | fail)
  have HX0 : Hid (Ex (fun j => dX g gi r h ev j ∨ mB mv j) w w.drew) := (Ex.refl _ w).drew
  by_cases hf : t.es.length < rm (2 ^ t.L)
  · have t0 : ((t.es.length : Nat) : Int) < ((rm (2 ^ t.L) : Nat) : Int) := by omega
    have HT : Hid (Rd w g gi r h ev t mv M a b u k v w.drew gi r h ev t) := ⟨HD.out.same (fun _ _ => rfl), HO.out, hf, fun u k v => by unfold Tb.add; rw [if_pos hf], by rw [Nat.sub_self, Int.natCast_zero, Int.add_zero]; exact HMO.out.same a b w _ HM.out (fun _ _ => rfl), rfl, rfl, fun j hj => .inl hj, HX0.out⟩
    go_wp2
    go_ret
    exact ⟨rfl, gi, r, h, ev, t, HT.out⟩
  · have t0 : ¬ ((t.es.length : Nat) : Int) < ((rm (2 ^ t.L) : Nat) : Int) := by omega
    have e3 : IntKind.i64.wrap (3 * (t.live : Int)) = ((3 * t.live : Nat) : Int) := by rw [i64_small (by omega) (by omega)]; omega
    have CL := logOf_any (3 * t.live) (by omega) w.drew
    rw [logF_glog] at CL
    have hgl : glogF t.live 20 3 = glog t.live := rfl
    rw [hgl] at CL
    obtain ⟨hg1, hg2, hg3⟩ := glog_ok (n := t.live) (by omega)
    have hgr := grow_room (n := t.live) (by omega)
    have CD := dropDead_any (w := w.drew) (F := dF mv gi ev t) (ev := ev) (HD.out.hd.same rfl) rfl (HD.out.es.same fun _ _ => rfl) (fun k hk => (HD.out.ap k hk).1) hlen
    have i20 : ¬ 20 < ((glog t.live : Nat) : Int) := by omega
    have HF := Lib.hid hf
    clear hf
    go_wp2_with fail
    refine CL.mono ?_
    rintro e w2 ⟨rfl, rfl⟩
    clear CL
    go_wp2_with fail
    refine CD.mono ?_
    rintro e w3 ⟨rfl, ev', hev', hB3, hE3, hX3⟩
    clear CD
    have hsz : w.heap.size ≤ w3.heap.size := hX3.size
    have hM3 : M a b w3 := HMO.out.same a b w w3 HM.out fun k hk => hX3.block k (HMO.out.lt a b w k HM.out hk) (fun hx => hx.elim (fun e => (HD.out.mp k hk).1 e) (fun e => (HD.out.mp k hk).2.2.2.2 e))
    have C1 := makeIndex_any (L := glog t.live) (made := t.made) (es := liveL t.es) (mv := mv) (ev := ev') ⟨rfl, hg1, hg2⟩ hB3 rfl rfl rfl hE3 HMO.out hM3 (fun k hk => by
        rw [hev'] at hk
        exact ⟨(HD.out.ap k hk).1, fun hm => (HD.out.mp k hm).2.2.2.2 hk⟩) (fun k hk => (HD.out.mp k hk).1) (fun n hn => liveL_nth _ n hn) (by rw [← t.live_eq]; omega) hm ha (by rw [← t.live_eq]; omega)
    go_wp2_with fail
    refine C1.mono ?_
    rintro e w4 ⟨rfl, gi1, r1, h1, hgi1, hr1, hh1, hI⟩
    clear C1
    have HT : Hid (Rd w g gi r h ev t mv M a b u k v w4 gi1 r1 h1 ev' (t.re (glog t.live))) := by
      refine ⟨⟨hI.hd.congr (fun j hj => ?_), hI.row, hI.cl, fun k hk => ?_, ⟨?_, ?_, ?_⟩, fun k hk => ?_⟩, HO.out.re hg1 hg2 (by omega), by show (liveL t.es).length < _; rw [← t.live_eq]; exact hgr, fun u k v => by unfold Tb.add; rw [if_neg HF.out], by rw [show (t.re (glog t.live)).made - t.made = 1 by show t.made + 1 - t.made = 1; omega]; exact hI.m, rfl, rfl, ?_, ?_⟩
      · have : j = 0 ∨ j = 1 ∨ j = 2 ∨ j = 3 ∨ j = 4 ∨ j = 5 ∨ j = 6 := by omega
        rcases this with rfl | rfl | rfl | rfl | rfl | rfl | rfl
        · rfl
        · rfl
        · rfl
        · show Value.int .i64 (((t.re (glog t.live)).live : Nat) : Int) = Value.int .i64 (t.live : Int)
          rw [Tb.live_eq, Tb.live_eq]
          show Value.int .i64 (((liveL (liveL t.es)).length : Nat) : Int) = _
          have h1 := liveL_len (liveL t.es)
          rw [deadN_live _ (liveL_live t.es)] at h1
          rw [show (liveL (liveL t.es)).length = (liveL t.es).length by omega]
        · rfl
        · show Value.int .i64 ((t.made + 1 : Nat) : Int) = Value.int .i64 ((t.made : Int) + 1)
          rw [Int.natCast_add]
          rfl
        · rfl
      · rw [hev'] at hk
        have := HD.out.ap k hk
        have hl := HD.out.es.lt k hk
        exact ⟨this.1, by omega, by omega, by omega⟩
      · have := HD.out.hd.lt (by omega); omega
      · have := HD.out.hd.lt (by omega); omega
      · have := HD.out.hd.lt (by omega); omega
      · have := HD.out.mp k hk
        have hl := HMO.out.lt a b w k HM.out hk
        exact ⟨this.1, by omega, by omega, by omega, by rw [hev']; exact this.2.2.2.2⟩
      · rintro j (rfl | rfl | rfl | rfl | hj)
        · exact .inl (.inl rfl)
        · exact .inr (by omega)
        · exact .inr (by omega)
        · exact .inr (by omega)
        · exact .inl (.inr (.inr (.inr (.inr (by rw [← hev']; exact hj)))))
      · refine ((Ex.refl _ w).drew.next hX3 ?_).next hI.ex ?_
        · exact fun k _ hk => hk.elim (fun e => .inl (.inl e)) (fun e => .inl (.inr (.inr (.inr (.inr e)))))
        · exact fun k _ hk => hk.elim (fun e => .inl (.inl e)) (fun e => .inr e)
    clear hI hM3 hX3 hE3 hB3
    go_wp2
    go_ret
    exact ⟨rfl, gi1, r1, h1, ev', _, HT.out⟩
end Go.Proofs.YtbpflmdefpjcaaaGreat
