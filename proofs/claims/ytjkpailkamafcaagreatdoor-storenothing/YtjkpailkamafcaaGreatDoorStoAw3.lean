/-
  awake: a draft keeps what its two terms are.
-/
import Derived.Test.YtjkpailkamafcaaGreatDoorStoAw2
import Derived.Maps.OwnSet
import Derived.Deep.RegionHeld3
import Derived.RegionTactic
namespace Go.Proofs.YtjkpailkamafcaaGreatDoor
open Go.RowKit Go.WideShapes

namespace Sto
/-- A draft's four cells. -/
def dF (T M : Nat) (fv : Value) : Nat → Value := fun j => #[Value.slice (some ⟨T, 0, none⟩) 2 2, .int .i64 10, fv, .map (some M)].getD j .nilFunc
/-- A draft that has looked at n terms; all of its own lies from B on. -/
structure Dn (w : World) (B D T K M n : Nat) (fv : Value) : Prop where
  d : Blk w D 4 (dF T M fv)
  f : ∃ xs, w.ownsRow B 3 1 fv n xs
  a : fv.ownBlock ≠ some D
  t : Blk w T 16 (tF K)
  k : Blk w K 2 (fun _ => .int .i64 0)
  b : B ≤ D ∧ B ≤ M ∧ T < B ∧ K < B ∧ B ≤ w.heap.size
theorem Dn.dw {w : World} {B D T K M n : Nat} {fv : Value} (h : Dn w B D T K M n fv) : Dw w D T K := ⟨h.d.c 0 (by omega), h.d.c 1 (by omega), h.t, h.k⟩
theorem Dn.of {w w' : World} {B D T K M n : Nat} {fv : Value} (h : Dn w B D T K M n fv) (b : Below w.heap.size w w') : Dn w' B D T K M n fv := by
  obtain ⟨xs, hx⟩ := h.f
  refine ⟨h.d.of b (by omega), ⟨xs, ?_⟩, h.a, h.t.of b (by omega), h.k.of b (by omega), ⟨h.b.1, h.b.2.1, h.b.2.2.1, h.b.2.2.2.1, Nat.le_trans h.b.2.2.2.2 b.size⟩⟩
  exact ownsS_same hx (fun q hq => b.block q (World.ownsRow.lt hx q hq).2)
/-- A mark. -/
def mkV : Value := .agg #[.int .i64 4, .string ⟨#[97]⟩, .int .i64 0]
set_option maxRecDepth 1000000 in
theorem mk_look {w : World} {M : Nat} (h : w.heap[M]? = some (.map #[] 0)) : (Instr.lookup 126 (.map (some M)) mkV true).run Tryz.prog w = .ok (.tuple #[.int .i64 0, .bool false]) w := by
  have hc : (Instr.checkKey true 10000 180 mkV).run Tryz.prog w = .ok () w := by kernel_rfl
  have hf : (Instr.findKey 180 mkV []).run Tryz.prog w = .ok none w := rfl
  have hz : (zeroValue 3).run Tryz.prog w = .ok (.int .i64 0) w := by kernel_rfl
  simp [Instr.lookup, run_underlying Tryz.underlying126, MapKept.run_getObj_map h, hc, hf, hz, Result.andThen]
set_option maxRecDepth 1000000 in
theorem mk_put {w : World} {M : Nat} (h : w.heap[M]? = some (.map #[] 0)) (v : Value) : ∃ es c, (Instr.mapUpdate 126 (.map (some M)) mkV v).run Tryz.prog w = .ok () (Go.ChangeMaps.setBlock w M (.map es c)) := by
  have hc : (Instr.checkKey false 10000 180 mkV).run Tryz.prog w = .ok () w := by kernel_rfl
  have hf : (Instr.findKey 180 mkV []).run Tryz.prog w = .ok none w := rfl
  refine ⟨#[⟨mkV, v, 0⟩], 1, ?_⟩
  simp [Instr.mapUpdate, run_underlying Tryz.underlying126, MapKept.run_getObj_map h, hc, hf, MapKept.run_setObj_map _ h, Result.andThen, Go.ChangeMaps.setBlock]
theorem infoI : (Tryz.prog.info? 3).map (fun i => (i.zero, i.size, i.bytes)) = some (some (.int .i64 0), 1, 8) := by kernel_rfl
theorem new_one (w : World) (x : Value) (t : TypeId) : ∀ j u, [x][j]? = some u → (w.alloc (.cells #[x] t)).cell? (Addr.add ⟨w.heap.size, 0, none⟩ j) = some u := by
  intro j u hj
  rw [WideShapes.add_plain, World.cell?_alloc_at _ _ _ _ rfl]
  simpa using hj
/-- Behind note's append and its store. -/
theorem noted {w w5 : World} {B D T K M n : Nat} {fv v' : Value} {o : Obj} {ys : List Value} (h : Dn w B D T K M n fv) (hown : w5.ownsRow B 3 1 v' (n + 1) ys) (hg : (w.alloc o).grownBy w5 fv.ownBlock) (hat : v'.ownBlock = fv.ownBlock ∨ v'.ownBlock = some (w.alloc o).heap.size) :
    w5.heap[D]? = w.heap[D]? ∧ Dn (w5.setCell ⟨D, 2, none⟩ v') B D T K M (n + 1) v' ∧ Below B w (w5.setCell ⟨D, 2, none⟩ v') := by
  obtain ⟨xs, hx⟩ := h.f
  obtain ⟨b1, b2, b3, b4, b5⟩ := h.b
  have hlD : D < w.heap.size := h.d.lt (by omega)
  have hsz : (w.alloc o).heap.size = w.heap.size + 1 := by simp
  have hs5 : w.heap.size ≤ w5.heap.size := by have := hg.size; omega
  have hfb : ∀ q, fv.ownBlock = some q → B ≤ q ∧ q < w.heap.size := fun q hq => World.ownsRow.lt hx q hq
  have hold : ∀ q, q < w.heap.size → fv.ownBlock ≠ some q → w5.heap[q]? = w.heap[q]? := fun q hq hn => (hg.block q (by omega) (fun e => hn e.symm)).trans (Below.heap_alloc _ _ _ hq)
  have hbD := hold D hlD h.a
  have hbT := hold T (h.t.lt (by omega)) (fun e => by have := (hfb T e).1; omega)
  have hbK := hold K (h.k.lt (by omega)) (fun e => by have := (hfb K e).1; omega)
  have hnD : v'.ownBlock ≠ some D := by
    rcases hat with e | e
    · rw [e]; exact h.a
    · rw [e, hsz]; intro e; injection e with e; omega
  have hset : ∀ q, q ≠ D → (w5.setCell ⟨D, 2, none⟩ v').heap[q]? = w5.heap[q]? := fun q hq => Below.heap_setCell _ _ _ _ hq
  refine ⟨hbD, ⟨((h.d.same hbD).put 2 v').congr (fun j hj => ?_), ⟨ys, ownsS_same hown (fun q hq => hset q (fun e => hnD (by rw [hq, e])))⟩, hnD, h.t.same ((hset T (by omega)).trans hbT), h.k.same ((hset K (by omega)).trans hbK), ⟨b1, b2, b3, b4, by simp [World.setCell]; omega⟩⟩, ⟨hg.os, hg.tape, hg.output, by simp [World.setCell]; omega, fun q hq => ?_⟩⟩
  · by_cases e : j = 2
    · subst e
      rfl
    · rw [if_neg e]
      have : j = 0 ∨ j = 1 ∨ j = 3 := by omega
      rcases this with rfl | rfl | rfl <;> rfl
  · rw [hset q (by omega)]
    exact hold q (by omega) (fun e => by have := (hfb q e).1; omega)
set_option maxRecDepth 100000 in
theorem noteT {w : World} {B D T K M n : Nat} {fv : Value} (h : Dn w B D T K M n fv) (hn : n ≤ 100) : Calls Tryz.prog 35 #[.pointer (some ⟨D, 0, none⟩), .int .i64 1] w fun e w' => e = .returned (.tuple #[]) ∧ (∃ fv', Dn w' B D T K M (n + 1) fv') ∧ Below B w w' := by
  have d0 : w.cell? ⟨D, 0, none⟩ = some (.slice (some ⟨T, 0, none⟩) 2 2) := h.d.c 0 (by omega)
  have t0 : w.cell? ⟨T, 8, none⟩ = some (.int .i64 5) := h.t.c 8 (by omega)
  have t1 : w.cell? ⟨T, 9, none⟩ = some (.bool false) := h.t.c 9 (by omega)
  have t2 : w.cell? ⟨T, 10, none⟩ = some (.bool false) := h.t.c 10 (by omega)
  have t3 : w.cell? ⟨T, 11, none⟩ = some (.slice none 0 0) := h.t.c 11 (by omega)
  have t4 : w.cell? ⟨T, 12, none⟩ = some (.string ⟨#[]⟩) := h.t.c 12 (by omega)
  have t5 : w.cell? ⟨T, 13, none⟩ = some (.slice (some ⟨K, 0, none⟩) 2 2) := h.t.c 13 (by omega)
  have t6 : w.cell? ⟨T, 14, none⟩ = some (.bool false) := h.t.c 14 (by omega)
  have t7 : w.cell? ⟨T, 15, none⟩ = some (.bool false) := h.t.c 15 (by omega)
  have C := fun w => keyT w K
  have H := Lib.hid h
  clear h
  go_enter Tryz.func35, Tryz.ntmps35
  go_wp2_with fail
  refine (C _).mono ?_
  rintro e w1 ⟨rfl, hb1⟩
  clear C t0 t1 t2 t3 t4 t5 t6 t7
  have h1 := H.out.of hb1
  have c2 : w1.cell? ⟨D, 2, none⟩ = some fv := h1.d.c 2 (by omega)
  have d0 : w1.cell? ⟨D, 0, none⟩ = some (.slice (some ⟨T, 0, none⟩) 2 2) := h1.d.c 0 (by omega)
  have z2 := h1.d.z 2
  obtain ⟨xs, hx⟩ := h1.f
  obtain ⟨a0, cap0, rfl⟩ := ownsS_shape hx
  obtain ⟨i0, hi, hz0, hz1, hz2⟩ := info_parts infoI
  have hB1 := h1.b.2.2.2.2
  have H1 := Lib.hid h1
  have HB1 := Lib.hid hb1
  have HX := Lib.hid hx
  have HBB := Lib.hid hB1
  clear h1 hb1 hx hB1
  go_wp2_with (at_builtin; refine wpListS_append_own rfl _ _ 23 rfl B 3 i0 (.int .i64 0) 1 8 Tryz.underlying23 hi hz0 hz1 hz2 rfl (by decide) _ _ _ rfl (World.ownsRow.alloc HX.out _) ⟨w1.heap.size, 0, none⟩ 1 1 [.int .i64 1] rfl rfl (new_one _ _ _) (fun u hu => by simp at hu; rcases hu with rfl; rfl) (by unfold maxLen; omega) (by omega) (by have := HBB.out; simp; omega) ?_)
  intro v' w5 hown2 hgrow hat
  obtain ⟨a5, cap5, hv⟩ := ownsS_shape hown2
  subst hv
  obtain ⟨hb, hU, hBl⟩ := noted H1.out hown2 hgrow (by simpa using hat)
  have x2 := (World.cell?_of_block (a := ⟨D, 2, none⟩) hb).trans c2
  have y2 := (World.frozen?_of_block (a := ⟨D, 2, none⟩) hb).trans z2
  have HU := Lib.hid hU
  have HBl := Lib.hid hBl
  clear hown2 hgrow hat hb hU c2 z2 hBl
  generalize hn1 : n + 1 = n1 at *
  go_wp2
  go_end0
  exact ⟨rfl, ⟨_, by rw [hn1]; exact HU.out⟩, (HB1.out.mono H.out.b.2.2.2.2).trans HBl.out⟩
end Sto
end Go.Proofs.YtjkpailkamafcaaGreatDoor
