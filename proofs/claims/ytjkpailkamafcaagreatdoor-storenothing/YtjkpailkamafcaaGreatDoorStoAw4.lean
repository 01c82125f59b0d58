/-
  awake: a draft keeps the mark of its str; refuse takes both terms.
-/
import Derived.Test.YtjkpailkamafcaaGreatDoorStoAw3
import Derived.Deep.Cut
namespace Go.Proofs.YtjkpailkamafcaaGreatDoor
open Go.RowKit Go.WideShapes

namespace Sto
theorem markV (w : World) : Calls Tryz.prog 63 #[.int .i64 0, tS] w fun e w' => e = .returned mkV ∧ Below w.heap.size w w' := markS w
theorem Dn.put {w : World} {B D T K M n : Nat} {fv : Value} {o : Obj} (h : Dn w B D T K M n fv) (hM : M ≠ D) (hf : fv.ownBlock ≠ some M) : Dn (Go.ChangeMaps.setBlock w M o) B D T K M n fv ∧ Below B w (Go.ChangeMaps.setBlock w M o) := by
  obtain ⟨xs, hx⟩ := h.f
  obtain ⟨b1, b2, b3, b4, b5⟩ := h.b
  have ho : ∀ q, q ≠ M → (Go.ChangeMaps.setBlock w M o).heap[q]? = w.heap[q]? := fun q hq => by
    simp [Go.ChangeMaps.setBlock, Ne.symm hq]
  have hs : (Go.ChangeMaps.setBlock w M o).heap.size = w.heap.size := by simp [Go.ChangeMaps.setBlock]
  exact ⟨⟨h.d.same (ho D (Ne.symm hM)), ⟨xs, ownsS_same hx (fun q hq => ho q (fun e => hf (by rw [hq, e])))⟩, h.a, h.t.same (ho T (by omega)), h.k.same (ho K (by omega)), ⟨b1, b2, b3, b4, by omega⟩⟩, ⟨rfl, rfl, rfl, by omega, fun q hq => ho q (by omega)⟩⟩
set_option maxRecDepth 100000 in
theorem noteS {w : World} {B D T K M : Nat} (h : Dn w B D T K M 0 (.slice none 0 0)) (hM : w.heap[M]? = some (.map #[] 0)) (hne : M ≠ D) : Calls Tryz.prog 35 #[.pointer (some ⟨D, 0, none⟩), .int .i64 0] w fun e w' => e = .returned (.tuple #[]) ∧ (∃ fv', Dn w' B D T K M 1 fv') ∧ Below B w w' := by
  have d0 : w.cell? ⟨D, 0, none⟩ = some (.slice (some ⟨T, 0, none⟩) 2 2) := h.d.c 0 (by omega)
  have t0 : w.cell? ⟨T, 0, none⟩ = some (.int .i64 4) := h.t.c 0 (by omega)
  have t1 : w.cell? ⟨T, 1, none⟩ = some (.bool false) := h.t.c 1 (by omega)
  have t2 : w.cell? ⟨T, 2, none⟩ = some (.bool false) := h.t.c 2 (by omega)
  have t3 : w.cell? ⟨T, 3, none⟩ = some (.slice none 0 0) := h.t.c 3 (by omega)
  have t4 : w.cell? ⟨T, 4, none⟩ = some (.string ⟨#[97]⟩) := h.t.c 4 (by omega)
  have t5 : w.cell? ⟨T, 5, none⟩ = some (.slice none 0 0) := h.t.c 5 (by omega)
  have t6 : w.cell? ⟨T, 6, none⟩ = some (.bool false) := h.t.c 6 (by omega)
  have t7 : w.cell? ⟨T, 7, none⟩ = some (.bool false) := h.t.c 7 (by omega)
  have C := fun w => keyS w
  have C2 := fun w => markV w
  have H := Lib.hid h
  have HM := Lib.hid hM
  clear h hM
  go_enter Tryz.func35, Tryz.ntmps35
  go_wp2_with fail
  refine (C _).mono ?_
  rintro e w1 ⟨rfl, hb1⟩
  clear C t0 t1 t2 t3 t4 t5 t6 t7
  have h1 := H.out.of hb1
  have d0 : w1.cell? ⟨D, 0, none⟩ = some (.slice (some ⟨T, 0, none⟩) 2 2) := h1.d.c 0 (by omega)
  have t0 : w1.cell? ⟨T, 0, none⟩ = some (.int .i64 4) := h1.t.c 0 (by omega)
  have t1 : w1.cell? ⟨T, 1, none⟩ = some (.bool false) := h1.t.c 1 (by omega)
  have t2 : w1.cell? ⟨T, 2, none⟩ = some (.bool false) := h1.t.c 2 (by omega)
  have t3 : w1.cell? ⟨T, 3, none⟩ = some (.slice none 0 0) := h1.t.c 3 (by omega)
  have t4 : w1.cell? ⟨T, 4, none⟩ = some (.string ⟨#[97]⟩) := h1.t.c 4 (by omega)
  have t5 : w1.cell? ⟨T, 5, none⟩ = some (.slice none 0 0) := h1.t.c 5 (by omega)
  have t6 : w1.cell? ⟨T, 6, none⟩ = some (.bool false) := h1.t.c 6 (by omega)
  have t7 : w1.cell? ⟨T, 7, none⟩ = some (.bool false) := h1.t.c 7 (by omega)
  have H1 := Lib.hid h1
  have HB1 := Lib.hid hb1
  clear h1 hb1
  go_wp2_with fail
  refine (C2 _).mono ?_
  rintro e w2 ⟨rfl, hb2⟩
  clear C2 t0 t1 t2 t3 t4 t5 t6 t7 d0
  have h2 := H1.out.of hb2
  have hM2 : w2.heap[M]? = some (.map #[] 0) := (((HB1.out.trans (hb2.mono HB1.out.size)).block M (Array.getElem?_eq_some_iff.1 HM.out).1)).trans HM.out
  obtain ⟨w3, hw3⟩ : ∃ V, w2.alloc (.cells #[.int .i64 4, .string ⟨#[97]⟩, .int .i64 0] 180) = V := ⟨_, rfl⟩
  have hb3 : Below w2.heap.size w2 w3 := by rw [← hw3]; exact (Below.refl _ _).alloc (Nat.le_refl _) _
  have h3 := h2.of hb3
  have hM3 : w3.heap[M]? = some (.map #[] 0) := (hb3.block M (Array.getElem?_eq_some_iff.1 hM2).1).trans hM2
  have hM3d : w3.drew.heap[M]? = some (.map #[] 0) := hM3
  have L3 := mk_look hM3d
  have hM3e : w3.drew.drew.heap[M]? = some (.map #[] 0) := hM3
  obtain ⟨es, c, L4⟩ := mk_put hM3e (.int .i64 0)
  have d3 : w3.cell? ⟨D, 3, none⟩ = some (.map (some M)) := h3.d.c 3 (by omega)
  have m0 : w3.cell? ⟨w2.heap.size, 0, none⟩ = some (.int .i64 4) := by rw [← hw3]; exact World.cell?_alloc_at _ _ _ _ rfl
  have m1 : w3.cell? ⟨w2.heap.size, 1, none⟩ = some (.string ⟨#[97]⟩) := by rw [← hw3]; exact World.cell?_alloc_at _ _ _ _ rfl
  have m2 : w3.cell? ⟨w2.heap.size, 2, none⟩ = some (.int .i64 0) := by rw [← hw3]; exact World.cell?_alloc_at _ _ _ _ rfl
  have H3 := Lib.hid h3
  have HB3 := Lib.hid ((HB1.out.trans (hb2.mono HB1.out.size)).trans (hb3.mono (Nat.le_trans HB1.out.size hb2.size)))
  have HM3 := Lib.hid hM3
  have HW3 := Lib.hid hw3
  clear h2 hM2 hb3 h3 hM3 hM3d hM3e hb2 hw3
  unfold mkV at L3 L4 ⊢
  obtain ⟨w4, hw4⟩ : ∃ V, Go.ChangeMaps.setBlock w3.drew.drew M (.map es c) = V := ⟨_, rfl⟩
  rw [hw4] at L4
  have HW4 := Lib.hid hw4
  clear hw4
  go_upto_region 3 with fail
  rw [HW3.out]
  go_region
  go_wp2_with fail
  have h3d : Dn w3.drew.drew B D T K M 0 (.slice none 0 0) := H3.out.of (Below.refl _ w3).drew.drew
  have h4 : Dn w4 B D T K M 0 (.slice none 0 0) := by rw [← HW4.out]; exact (h3d.put hne (by simp [Value.ownBlock])).1
  have hb4 : Below B w3.drew.drew w4 := by rw [← HW4.out]; exact (h3d.put hne (by simp [Value.ownBlock])).2
  have hB0 := H.out.b.2.2.2.2
  have hB4 : Below B w w4 := ((HB3.out.mono hB0).drew.drew).trans hb4
  have c2 : w4.cell? ⟨D, 2, none⟩ = some (.slice none 0 0) := h4.d.c 2 (by omega)
  have z2 := h4.d.z 2
  obtain ⟨xs, hx⟩ := h4.f
  obtain ⟨i0, hi, hz0, hz1, hz2⟩ := info_parts infoI
  have HX := Lib.hid hx
  have H4 := Lib.hid h4
  have HB4 := Lib.hid hB4
  have HBB := Lib.hid h4.b.2.2.2.2
  clear h3d h4 hb4 hB0 hB4 hx L3 d0
  go_region_with fail
  all_goals (
    clear L4 m0 m1 m2 d3
    go_wp2_with (at_builtin; refine wpListS_append_own rfl _ _ 23 rfl B 3 i0 (.int .i64 0) 1 8 Tryz.underlying23 hi hz0 hz1 hz2 rfl (by decide) _ _ _ rfl (World.ownsRow.alloc HX.out _) ⟨w4.heap.size, 0, none⟩ 1 1 [.int .i64 0] rfl rfl (new_one _ _ _) (fun u hu => by simp at hu; rcases hu with rfl; rfl) (by unfold maxLen; omega) (by omega) (by have := HBB.out; simp; omega) ?_)
    intro v' w5 hown2 hgrow hat
    obtain ⟨a5, cap5, hv⟩ := ownsS_shape hown2
    subst hv
    obtain ⟨hb, hU, hBl⟩ := noted H4.out hown2 hgrow (by simpa using hat)
    have x2 := (World.cell?_of_block (a := ⟨D, 2, none⟩) hb).trans c2
    have y2 := (World.frozen?_of_block (a := ⟨D, 2, none⟩) hb).trans z2
    have HU := Lib.hid hU
    have HBl := Lib.hid hBl
    clear hown2 hgrow hat hb hU c2 z2 hBl
    go_wp2
    go_end0
    exact ⟨rfl, ⟨_, HU.out⟩, HB4.out.trans HBl.out⟩)
end Sto
end Go.Proofs.YtjkpailkamafcaaGreatDoor
