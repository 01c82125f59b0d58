/-
  LexerLays: a piece's text and its token.
  LexerLays: a piece's text and its token, of words and of texts in quotes.
-/
import Derived.Test.YtgillafjccgkdaaDoorLya
namespace Go.Proofs.YtgillafjccgkdaaDoor
open Go.RowKit Go.WideShapes
namespace Lx

theorem new_cells (w : World) (cs : Array Value) (t : TypeId) {j : Nat} {v : Value} (h : cs[j]? = some v) : (w.alloc (.cells cs t)).cell? ⟨w.heap.size, j, none⟩ = some v := (World.cell?_alloc_at _ _ _ _ rfl).trans h
set_option maxRecDepth 100000 in
theorem pword_0 (x1 x2 : Int) (w : World) : Calls Tryd.prog 5 #[.agg #[.int .i64 0, .int .i64 x1, .int .i64 x2]] w fun e w' => ∃ (s t : List UInt8) (k : Nat), e = .returned (.tuple #[.string ⟨s.toArray⟩, .agg #[.int .i64 (k : Int), .string ⟨t.toArray⟩, .int .i64 0]]) ∧ Pg s k t ∧ s.length ≤ 30 ∧ Below w.heap.size w w' := by
  have hpl := (pix_lt x1 (n := 6) (by decide)).1
  have CP : ∀ V g, (∀ j, j < 6 → V.cell? ⟨g, j, none⟩ = some (.string ⟨(nameP.getD j []).toArray⟩)) → Calls Tryd.prog 9 #[.slice (some ⟨g, 0, none⟩) 6 6, .int .i64 x1] V fun e w' => e = .returned (.string ⟨(nameP.getD (pix x1 6) []).toArray⟩) ∧ w' = V := fun V g h => pick_any (G := fun j => ⟨(nameP.getD j []).toArray⟩) x1 (by decide) (by decide) h
  have hmem : nameP.getD (pix x1 6) [] ∈ nameP := by
    have h6 : nameP.length = 6 := rfl
    rw [List.getD_eq_getElem?_getD, List.getElem?_eq_getElem (by omega)]
    exact List.getElem_mem _
  have HPG := Lib.hid (names_pg _ hmem)
  have HLE := Lib.hid (show (nameP.getD (pix x1 6) []).length ≤ 30 from (by decide : ∀ p ∈ nameP, p.length ≤ 30) _ hmem)
  generalize nameP.getD (pix x1 6) [] = p at *
  clear hmem hpl
  go_enter Tryd.func5, Tryd.ntmps5
  go_wp2_with fail
  refine (CP _ _ (fun j hj => ?_)).mono ?_
  · match j, hj with
    | 0, _ => exact World.cell?_alloc_at _ _ _ _ (by simp)
    | 1, _ => exact World.cell?_alloc_at _ _ _ _ (by simp)
    | 2, _ => exact World.cell?_alloc_at _ _ _ _ (by simp)
    | 3, _ => exact World.cell?_alloc_at _ _ _ _ (by simp)
    | 4, _ => exact World.cell?_alloc_at _ _ _ _ (by simp)
    | 5, _ => exact World.cell?_alloc_at _ _ _ _ (by simp)
  rintro e w3 ⟨rfl, hw3⟩
  rw [hw3]
  clear CP hw3
  go_wp2_with fail
  have hb2 : ∀ (a o b : Obj), ∀ j, (((w.alloc a).alloc o).alloc b).cell? ⟨w.heap.size + 1, j, none⟩ = ((w.alloc a).alloc o).cell? ⟨w.heap.size + 1, j, none⟩ := fun a o b j => World.cell?_of_block (a := ⟨w.heap.size + 1, j, none⟩) (Below.heap_alloc _ _ _ (by simp))
  have hb3 : ∀ (a : Obj) (cs : Array Value) (t : TypeId), ∀ j, ((w.alloc a).alloc (.cells cs t)).cell? ⟨w.heap.size + 1, j, none⟩ = cs[j]? := fun a cs t j => World.cell?_alloc_at _ _ _ _ (by simp)
  refine bodyPost_ret (v := .tuple #[.string ⟨p.toArray⟩, .agg #[.int .i64 1, .string ⟨p.toArray⟩, .int .i64 0]]) ?_ rfl ⟨p, p, 1, rfl, HPG.out, HLE.out, ((((Below.refl _ w).alloc (Nat.le_refl _) _).alloc (by simp) _).alloc (by simp; omega) _)⟩
  simp [results, Tryd.f5, go_sem, hb2, hb3]
set_option maxRecDepth 100000 in
theorem pword_2 (x1 x2 : Int) (w : World) : Calls Tryd.prog 5 #[.agg #[.int .i64 2, .int .i64 x1, .int .i64 x2]] w fun e w' => ∃ (s t : List UInt8) (k : Nat), e = .returned (.tuple #[.string ⟨s.toArray⟩, .agg #[.int .i64 (k : Int), .string ⟨t.toArray⟩, .int .i64 0]]) ∧ Pg s k t ∧ s.length ≤ 30 ∧ Below w.heap.size w w' := by
  have hpl := (pix_lt x1 (n := 4) (by decide)).1
  have CP : ∀ V g, (∀ j, j < 4 → V.cell? ⟨g, j, none⟩ = some (.string ⟨(numP.getD j []).toArray⟩)) → Calls Tryd.prog 9 #[.slice (some ⟨g, 0, none⟩) 4 4, .int .i64 x1] V fun e w' => e = .returned (.string ⟨(numP.getD (pix x1 4) []).toArray⟩) ∧ w' = V := fun V g h => pick_any (G := fun j => ⟨(numP.getD j []).toArray⟩) x1 (by decide) (by decide) h
  have hmem : numP.getD (pix x1 4) [] ∈ numP := by
    have h6 : numP.length = 4 := rfl
    rw [List.getD_eq_getElem?_getD, List.getElem?_eq_getElem (by omega)]
    exact List.getElem_mem _
  have HPG := Lib.hid (nums_pg _ hmem)
  have HLE := Lib.hid (show (numP.getD (pix x1 4) []).length ≤ 30 from (by decide : ∀ p ∈ numP, p.length ≤ 30) _ hmem)
  generalize numP.getD (pix x1 4) [] = p at *
  clear hmem hpl
  go_enter Tryd.func5, Tryd.ntmps5
  go_wp2_with fail
  refine (CP _ _ (fun j hj => ?_)).mono ?_
  · match j, hj with
    | 0, _ => exact World.cell?_alloc_at _ _ _ _ (by simp)
    | 1, _ => exact World.cell?_alloc_at _ _ _ _ (by simp)
    | 2, _ => exact World.cell?_alloc_at _ _ _ _ (by simp)
    | 3, _ => exact World.cell?_alloc_at _ _ _ _ (by simp)
  rintro e w3 ⟨rfl, hw3⟩
  rw [hw3]
  clear CP hw3
  go_wp2_with fail
  have hb2 : ∀ (a o b : Obj), ∀ j, (((w.alloc a).alloc o).alloc b).cell? ⟨w.heap.size + 1, j, none⟩ = ((w.alloc a).alloc o).cell? ⟨w.heap.size + 1, j, none⟩ := fun a o b j => World.cell?_of_block (a := ⟨w.heap.size + 1, j, none⟩) (Below.heap_alloc _ _ _ (by simp))
  have hb3 : ∀ (a : Obj) (cs : Array Value) (t : TypeId), ∀ j, ((w.alloc a).alloc (.cells cs t)).cell? ⟨w.heap.size + 1, j, none⟩ = cs[j]? := fun a cs t j => World.cell?_alloc_at _ _ _ _ (by simp)
  refine bodyPost_ret (v := .tuple #[.string ⟨p.toArray⟩, .agg #[.int .i64 3, .string ⟨p.toArray⟩, .int .i64 0]]) ?_ rfl ⟨p, p, 3, rfl, HPG.out, HLE.out, ((((Below.refl _ w).alloc (Nat.le_refl _) _).alloc (by simp) _).alloc (by simp; omega) _)⟩
  simp [results, Tryd.f5, go_sem, hb2, hb3]
set_option maxRecDepth 100000 in
theorem pword_4 (x0 : Int) (x1 x2 : Int) (w : World) (n0 : ¬ x0 = 0) (n1 : ¬ x0 = 1) (n2 : ¬ x0 = 2) (n3 : ¬ x0 = 3) : Calls Tryd.prog 5 #[.agg #[.int .i64 x0, .int .i64 x1, .int .i64 x2]] w fun e w' => ∃ (s t : List UInt8) (k : Nat), e = .returned (.tuple #[.string ⟨s.toArray⟩, .agg #[.int .i64 (k : Int), .string ⟨t.toArray⟩, .int .i64 0]]) ∧ Pg s k t ∧ s.length ≤ 30 ∧ Below w.heap.size w w' := by
  have hpl := (pix_lt x1 (n := 27) (by decide)).1
  have CP : ∀ V g, (∀ j, j < 27 → V.cell? ⟨g, j, none⟩ = some (.string ⟨(signP.getD j []).toArray⟩)) → Calls Tryd.prog 9 #[.slice (some ⟨g, 0, none⟩) 27 27, .int .i64 x1] V fun e w' => e = .returned (.string ⟨(signP.getD (pix x1 27) []).toArray⟩) ∧ w' = V := fun V g h => pick_any (G := fun j => ⟨(signP.getD j []).toArray⟩) x1 (by decide) (by decide) h
  have hmem : signP.getD (pix x1 27) [] ∈ signP := by
    have h6 : signP.length = 27 := rfl
    rw [List.getD_eq_getElem?_getD, List.getElem?_eq_getElem (by omega)]
    exact List.getElem_mem _
  have HPG := Lib.hid (signs_pg _ hmem)
  have HLE := Lib.hid (show (signP.getD (pix x1 27) []).length ≤ 30 from (by decide : ∀ p ∈ signP, p.length ≤ 30) _ hmem)
  generalize signP.getD (pix x1 27) [] = p at *
  clear hmem hpl
  go_enter Tryd.func5, Tryd.ntmps5
  go_wp2_with fail
  refine (CP _ _ (fun j hj => ?_)).mono ?_
  · match j, hj with
    | 0, _ => exact World.cell?_alloc_at _ _ _ _ (by simp)
    | 1, _ => exact World.cell?_alloc_at _ _ _ _ (by simp)
    | 2, _ => exact World.cell?_alloc_at _ _ _ _ (by simp)
    | 3, _ => exact World.cell?_alloc_at _ _ _ _ (by simp)
    | 4, _ => exact World.cell?_alloc_at _ _ _ _ (by simp)
    | 5, _ => exact World.cell?_alloc_at _ _ _ _ (by simp)
    | 6, _ => exact World.cell?_alloc_at _ _ _ _ (by simp)
    | 7, _ => exact World.cell?_alloc_at _ _ _ _ (by simp)
    | 8, _ => exact World.cell?_alloc_at _ _ _ _ (by simp)
    | 9, _ => exact World.cell?_alloc_at _ _ _ _ (by simp)
    | 10, _ => exact World.cell?_alloc_at _ _ _ _ (by simp)
    | 11, _ => exact World.cell?_alloc_at _ _ _ _ (by simp)
    | 12, _ => exact World.cell?_alloc_at _ _ _ _ (by simp)
    | 13, _ => exact World.cell?_alloc_at _ _ _ _ (by simp)
    | 14, _ => exact World.cell?_alloc_at _ _ _ _ (by simp)
    | 15, _ => exact World.cell?_alloc_at _ _ _ _ (by simp)
    | 16, _ => exact World.cell?_alloc_at _ _ _ _ (by simp)
    | 17, _ => exact World.cell?_alloc_at _ _ _ _ (by simp)
    | 18, _ => exact World.cell?_alloc_at _ _ _ _ (by simp)
    | 19, _ => exact World.cell?_alloc_at _ _ _ _ (by simp)
    | 20, _ => exact World.cell?_alloc_at _ _ _ _ (by simp)
    | 21, _ => exact World.cell?_alloc_at _ _ _ _ (by simp)
    | 22, _ => exact World.cell?_alloc_at _ _ _ _ (by simp)
    | 23, _ => exact World.cell?_alloc_at _ _ _ _ (by simp)
    | 24, _ => exact World.cell?_alloc_at _ _ _ _ (by simp)
    | 25, _ => exact World.cell?_alloc_at _ _ _ _ (by simp)
    | 26, _ => exact World.cell?_alloc_at _ _ _ _ (by simp)
    | k + 27, h => exact absurd h (by omega)
  rintro e w3 ⟨rfl, hw3⟩
  rw [hw3]
  clear CP hw3
  go_wp2_with fail
  have hb2 : ∀ (a o b : Obj), ∀ j, (((w.alloc a).alloc o).alloc b).cell? ⟨w.heap.size + 1, j, none⟩ = ((w.alloc a).alloc o).cell? ⟨w.heap.size + 1, j, none⟩ := fun a o b j => World.cell?_of_block (a := ⟨w.heap.size + 1, j, none⟩) (Below.heap_alloc _ _ _ (by simp))
  have hb3 : ∀ (a : Obj) (cs : Array Value) (t : TypeId), ∀ j, ((w.alloc a).alloc (.cells cs t)).cell? ⟨w.heap.size + 1, j, none⟩ = cs[j]? := fun a cs t j => World.cell?_alloc_at _ _ _ _ (by simp)
  refine bodyPost_ret (v := .tuple #[.string ⟨p.toArray⟩, .agg #[.int .i64 5, .string ⟨p.toArray⟩, .int .i64 0]]) ?_ rfl ⟨p, p, 5, rfl, HPG.out, HLE.out, ((((Below.refl _ w).alloc (Nat.le_refl _) _).alloc (by simp) _).alloc (by simp; omega) _)⟩
  simp [results, Tryd.f5, go_sem, hb2, hb3]
end Lx
end Go.Proofs.YtgillafjccgkdaaDoor
namespace Go.Proofs.YtgillafjccgkdaaDoor
open Go.RowKit Go.WideShapes
namespace Lx

def textP : List (List UInt8) := [[], [97], [105, 116, 39, 115], [97, 195, 177, 10], [92], [35]]
/-- What is stored in a token that was laid ahead of a call. -/
theorem put3 {w : World} {g : Nat} {F : Nat → Value} (h : Blk w g 3 F) (a b c : Value) (W : World) (hW : W = ((w.setCell ⟨g, 0, none⟩ a).setCell ⟨g, 1, none⟩ b).setCell ⟨g, 2, none⟩ c) : W.cell? ⟨g, 0, none⟩ = some a ∧ W.cell? ⟨g, 1, none⟩ = some b ∧ W.cell? ⟨g, 2, none⟩ = some c := by
  subst hW
  have k := ((h.put 0 a).put 1 b).put 2 c
  exact ⟨k.c 0 (by omega), k.c 1 (by omega), k.c 2 (by omega)⟩
set_option maxRecDepth 100000 in
theorem pword_3 (x1 x2 : Int) (w : World) (CQ : ∀ p ∈ textP, ∀ V, Calls Tryd.prog 11 #[.string ⟨p.toArray⟩] V fun e w' => ∃ q : List UInt8, e = .returned (.string ⟨q.toArray⟩) ∧ Pg q 4 p ∧ q.length ≤ 30 ∧ Below V.heap.size V w') :
    Calls Tryd.prog 5 #[.agg #[.int .i64 3, .int .i64 x1, .int .i64 x2]] w fun e w' => ∃ (s t : List UInt8) (k : Nat), e = .returned (.tuple #[.string ⟨s.toArray⟩, .agg #[.int .i64 (k : Int), .string ⟨t.toArray⟩, .int .i64 0]]) ∧ Pg s k t ∧ s.length ≤ 30 ∧ Below w.heap.size w w' := by
  have hpl := (pix_lt x1 (n := 6) (by decide)).1
  have CP : ∀ V g, (∀ j, j < 6 → V.cell? ⟨g, j, none⟩ = some (.string ⟨(textP.getD j []).toArray⟩)) → Calls Tryd.prog 9 #[.slice (some ⟨g, 0, none⟩) 6 6, .int .i64 x1] V fun e w' => e = .returned (.string ⟨(textP.getD (pix x1 6) []).toArray⟩) ∧ w' = V := fun V g h => pick_any (G := fun j => ⟨(textP.getD j []).toArray⟩) x1 (by decide) (by decide) h
  have hmem : textP.getD (pix x1 6) [] ∈ textP := by
    have h6 : textP.length = 6 := rfl
    rw [List.getD_eq_getElem?_getD, List.getElem?_eq_getElem (by omega)]
    exact List.getElem_mem _
  have CQ1 := CQ _ hmem
  generalize textP.getD (pix x1 6) [] = p at *
  clear hmem hpl CQ
  obtain ⟨W2, hW2⟩ : ∃ y, (w.alloc (.cells #[.int .i64 3, .int .i64 x1, .int .i64 x2] 33)).alloc (.cells #[.int .i64 0, .string ⟨#[]⟩, .int .i64 0] 29) = y := ⟨_, rfl⟩
  have hs2 : W2.heap.size = w.heap.size + 2 := by rw [← hW2]; simp
  have hb2 : Below w.heap.size w W2 := by rw [← hW2]; exact ((Below.refl _ w).alloc (Nat.le_refl _) _).alloc (by simp) _
  have hB2 : Blk W2 (w.heap.size + 1) 3 (fun j => #[Value.int .i64 0, .string ⟨#[]⟩, .int .i64 0].getD j .nilFunc) := by
    have h := Blk.new (w.alloc (.cells #[.int .i64 3, .int .i64 x1, .int .i64 x2] 33)) #[.int .i64 0, .string ⟨#[]⟩, .int .i64 0] 29
    rw [hW2, World.size_alloc] at h
    exact h
  obtain ⟨W3, hW3⟩ : ∃ y, W2.alloc (.cells #[.string ⟨#[]⟩, .string ⟨#[97]⟩, .string ⟨#[105, 116, 39, 115]⟩, .string ⟨#[97, 195, 177, 10]⟩, .string ⟨#[92]⟩, .string ⟨#[35]⟩] 9) = y := ⟨_, rfl⟩
  have hb3 : Below W2.heap.size W2 W3 := by rw [← hW3]; exact (Below.refl _ W2).alloc (Nat.le_refl _) _
  have hc3 : ∀ j, j < 6 → W3.cell? ⟨w.heap.size + 1 + 1, j, none⟩ = some (.string ⟨(textP.getD j []).toArray⟩) := fun j hj => by
    rw [← hW3]
    match j, hj with
    | 0, _ => exact World.cell?_alloc_at _ _ _ _ (by rw [hs2])
    | 1, _ => exact World.cell?_alloc_at _ _ _ _ (by rw [hs2])
    | 2, _ => exact World.cell?_alloc_at _ _ _ _ (by rw [hs2])
    | 3, _ => exact World.cell?_alloc_at _ _ _ _ (by rw [hs2])
    | 4, _ => exact World.cell?_alloc_at _ _ _ _ (by rw [hs2])
    | 5, _ => exact World.cell?_alloc_at _ _ _ _ (by rw [hs2])
  have hB3 := hB2.same (hb3.block (w.heap.size + 1) (by omega))
  have CP3 := CP W3 _ hc3
  have CQ3 := CQ1 W3
  have HW : Hid (((w.alloc (.cells #[.int .i64 3, .int .i64 x1, .int .i64 x2] 33)).alloc (.cells #[.int .i64 0, .string ⟨#[]⟩, .int .i64 0] 29)).alloc (.cells #[.string ⟨#[]⟩, .string ⟨#[97]⟩, .string ⟨#[105, 116, 39, 115]⟩, .string ⟨#[97, 195, 177, 10]⟩, .string ⟨#[92]⟩, .string ⟨#[35]⟩] 9) = W3) := by
    show _ = _
    rw [hW2, hW3]
  have HB3 := Lib.hid hB3
  have HBW := Lib.hid (hb2.trans (hb3.mono hb2.size))
  have HSZ := Lib.hid (show w.heap.size + 1 < W3.heap.size by have := hb3.size; omega)
  clear hW2 hs2 hb2 hB2 hW3 hb3 hc3 hB3 CP CQ1
  go_enter Tryd.func5, Tryd.ntmps5
  go_wp2_with fail
  rw [HW.out]
  clear HW
  refine CP3.mono ?_
  rintro e w4 ⟨rfl, hw4⟩
  rw [hw4]
  clear CP3 hw4
  go_wp2_with fail
  refine CQ3.mono ?_
  rintro e w5 ⟨q, rfl, hpg, hlq, hb5⟩
  have hB5 := HB3.out.same (hb5.block (w.heap.size + 1) HSZ.out)
  have k0 := hB5.c 0 (by omega)
  have k1 := hB5.c 1 (by omega)
  have k2 := hB5.c 2 (by omega)
  have z0 := hB5.z 0
  have z1 := hB5.z 1
  have z2 := hB5.z 2
  have HB5 := Lib.hid hB5
  have HBB := Lib.hid (HBW.out.trans (hb5.mono HBW.out.size))
  clear CQ3 hB5 hb5
  go_wp2_with fail
  obtain ⟨W9, hW9⟩ : ∃ y, ((w5.setCell ⟨w.heap.size + 1, 0, none⟩ (.int .i64 4)).setCell ⟨w.heap.size + 1, 1, none⟩ (.string ⟨p.toArray⟩)).setCell ⟨w.heap.size + 1, 2, none⟩ (.int .i64 0) = y := ⟨_, rfl⟩
  obtain ⟨g0, g1, g2⟩ := put3 HB5.out _ _ _ W9 hW9.symm
  rw [hW9]
  refine bodyPost_ret (v := .tuple #[.string ⟨q.toArray⟩, .agg #[.int .i64 4, .string ⟨p.toArray⟩, .int .i64 0]]) ?_ rfl ⟨q, p, 4, rfl, hpg, hlq, ?_⟩
  · simp [results, Tryd.f5, go_sem, g0, g1, g2]
  · rw [← hW9]
    exact ((HBB.out.setCell (p := ⟨w.heap.size + 1, 0, none⟩) (by show w.heap.size ≤ w.heap.size + 1; omega) _).setCell (p := ⟨w.heap.size + 1, 1, none⟩) (by show w.heap.size ≤ w.heap.size + 1; omega) _).setCell (p := ⟨w.heap.size + 1, 2, none⟩) (by show w.heap.size ≤ w.heap.size + 1; omega) _
set_option maxRecDepth 100000 in
theorem pword_1 (x1 x2 : Int) (w : World) (CW : ∀ (p : List UInt8) V, Calls Tryd.prog 10 #[.string ⟨p.toArray⟩] V fun e w' => e = .returned (.bool (wrd p)) ∧ Below V.heap.size V w') :
    Calls Tryd.prog 5 #[.agg #[.int .i64 1, .int .i64 x1, .int .i64 x2]] w fun e w' => ∃ (s t : List UInt8) (k : Nat), e = .returned (.tuple #[.string ⟨s.toArray⟩, .agg #[.int .i64 (k : Int), .string ⟨t.toArray⟩, .int .i64 0]]) ∧ Pg s k t ∧ s.length ≤ 30 ∧ Below w.heap.size w w' := by
  have hpl := (pix_lt x1 (n := 7) (by decide)).1
  have CP : ∀ V g, (∀ j, j < 7 → V.cell? ⟨g, j, none⟩ = some (.string ⟨(wordP.getD j []).toArray⟩)) → Calls Tryd.prog 9 #[.slice (some ⟨g, 0, none⟩) 7 7, .int .i64 x1] V fun e w' => e = .returned (.string ⟨(wordP.getD (pix x1 7) []).toArray⟩) ∧ w' = V := fun V g h => pick_any (G := fun j => ⟨(wordP.getD j []).toArray⟩) x1 (by decide) (by decide) h
  have hmem : wordP.getD (pix x1 7) [] ∈ wordP := by
    have h6 : wordP.length = 7 := rfl
    rw [List.getD_eq_getElem?_getD, List.getElem?_eq_getElem (by omega)]
    exact List.getElem_mem _
  have hpg := words_pg _ hmem
  have hlq : (wordP.getD (pix x1 7) []).length ≤ 30 := (by decide : ∀ p ∈ wordP, p.length ≤ 30) _ hmem
  generalize wordP.getD (pix x1 7) [] = p at *
  clear hmem hpl
  have HPG := Lib.hid (And.intro hpg hlq)
  clear hpg hlq
  obtain ⟨W2, hW2⟩ : ∃ y, (w.alloc (.cells #[.int .i64 1, .int .i64 x1, .int .i64 x2] 33)).alloc (.cells #[.int .i64 0, .string ⟨#[]⟩, .int .i64 0] 29) = y := ⟨_, rfl⟩
  have hs2 : W2.heap.size = w.heap.size + 2 := by rw [← hW2]; simp
  have hb2 : Below w.heap.size w W2 := by rw [← hW2]; exact ((Below.refl _ w).alloc (Nat.le_refl _) _).alloc (by simp) _
  have hB2 : Blk W2 (w.heap.size + 1) 3 (fun j => #[Value.int .i64 0, .string ⟨#[]⟩, .int .i64 0].getD j .nilFunc) := by
    have h := Blk.new (w.alloc (.cells #[.int .i64 1, .int .i64 x1, .int .i64 x2] 33)) #[.int .i64 0, .string ⟨#[]⟩, .int .i64 0] 29
    rw [hW2, World.size_alloc] at h
    exact h
  obtain ⟨W3, hW3⟩ : ∃ y, W2.alloc (.cells #[.string ⟨#[105, 102]⟩, .string ⟨#[110, 111, 116]⟩, .string ⟨#[78, 111, 110, 101]⟩, .string ⟨#[99, 108, 97, 115, 115]⟩, .string ⟨#[105, 110]⟩, .string ⟨#[108, 97, 109, 98, 100, 97]⟩, .string ⟨#[84, 114, 117, 101]⟩] 9) = y := ⟨_, rfl⟩
  have hb3 : Below W2.heap.size W2 W3 := by rw [← hW3]; exact (Below.refl _ W2).alloc (Nat.le_refl _) _
  have hc3 : ∀ j, j < 7 → W3.cell? ⟨w.heap.size + 1 + 1, j, none⟩ = some (.string ⟨(wordP.getD j []).toArray⟩) := fun j hj => by
    rw [← hW3]
    match j, hj with
    | 0, _ => exact World.cell?_alloc_at _ _ _ _ (by rw [hs2])
    | 1, _ => exact World.cell?_alloc_at _ _ _ _ (by rw [hs2])
    | 2, _ => exact World.cell?_alloc_at _ _ _ _ (by rw [hs2])
    | 3, _ => exact World.cell?_alloc_at _ _ _ _ (by rw [hs2])
    | 4, _ => exact World.cell?_alloc_at _ _ _ _ (by rw [hs2])
    | 5, _ => exact World.cell?_alloc_at _ _ _ _ (by rw [hs2])
    | 6, _ => exact World.cell?_alloc_at _ _ _ _ (by rw [hs2])
  have hB3 := hB2.same (hb3.block (w.heap.size + 1) (by omega))
  have CP3 := CP W3 _ hc3
  have CQ3 := CW p W3
  have HW : Hid (((w.alloc (.cells #[.int .i64 1, .int .i64 x1, .int .i64 x2] 33)).alloc (.cells #[.int .i64 0, .string ⟨#[]⟩, .int .i64 0] 29)).alloc (.cells #[.string ⟨#[105, 102]⟩, .string ⟨#[110, 111, 116]⟩, .string ⟨#[78, 111, 110, 101]⟩, .string ⟨#[99, 108, 97, 115, 115]⟩, .string ⟨#[105, 110]⟩, .string ⟨#[108, 97, 109, 98, 100, 97]⟩, .string ⟨#[84, 114, 117, 101]⟩] 9) = W3) := by
    show _ = _
    rw [hW2, hW3]
  have HB3 := Lib.hid hB3
  have HBW := Lib.hid (hb2.trans (hb3.mono hb2.size))
  have HSZ := Lib.hid (show w.heap.size + 1 < W3.heap.size by have := hb3.size; omega)
  clear hW2 hs2 hb2 hB2 hW3 hb3 hc3 hB3 CP CW
  go_enter Tryd.func5, Tryd.ntmps5
  go_wp2_with fail
  rw [HW.out]
  clear HW
  refine CP3.mono ?_
  rintro e w4 ⟨rfl, hw4⟩
  rw [hw4]
  clear CP3 hw4
  go_wp2_with fail
  refine CQ3.mono ?_
  rintro e w5 ⟨rfl, hb5⟩
  have hB5 := HB3.out.same (hb5.block (w.heap.size + 1) HSZ.out)
  have k0 := hB5.c 0 (by omega)
  have k1 := hB5.c 1 (by omega)
  have k2 := hB5.c 2 (by omega)
  have z0 := hB5.z 0
  have z1 := hB5.z 1
  have z2 := hB5.z 2
  have HB5 := Lib.hid hB5
  have HBB := Lib.hid (HBW.out.trans (hb5.mono HBW.out.size))
  clear CQ3 hB5 hb5
  have hpg0 := HPG.out.1
  cases hwd : wrd p with
  | true =>
    have hpg : Pg p 2 p := by rw [hwd] at hpg0; simpa using hpg0
    clear hpg0
    go_wp2_with fail
    obtain ⟨W9, hW9⟩ : ∃ y, ((w5.setCell ⟨w.heap.size + 1, 0, none⟩ (.int .i64 2)).setCell ⟨w.heap.size + 1, 1, none⟩ (.string ⟨p.toArray⟩)).setCell ⟨w.heap.size + 1, 2, none⟩ (.int .i64 0) = y := ⟨_, rfl⟩
    obtain ⟨g0, g1, g2⟩ := put3 HB5.out _ _ _ W9 hW9.symm
    rw [hW9]
    refine bodyPost_ret (v := .tuple #[.string ⟨p.toArray⟩, .agg #[.int .i64 2, .string ⟨p.toArray⟩, .int .i64 0]]) ?_ rfl ⟨p, p, 2, rfl, hpg, HPG.out.2, ?_⟩
    · simp [results, Tryd.f5, go_sem, g0, g1, g2]
    · rw [← hW9]
      exact ((HBB.out.setCell (p := ⟨w.heap.size + 1, 0, none⟩) (by show w.heap.size ≤ w.heap.size + 1; omega) _).setCell (p := ⟨w.heap.size + 1, 1, none⟩) (by show w.heap.size ≤ w.heap.size + 1; omega) _).setCell (p := ⟨w.heap.size + 1, 2, none⟩) (by show w.heap.size ≤ w.heap.size + 1; omega) _
  | false =>
    have hpg : Pg p 1 p := by rw [hwd] at hpg0; simpa using hpg0
    clear hpg0
    go_wp2_with fail
    obtain ⟨W9, hW9⟩ : ∃ y, ((w5.setCell ⟨w.heap.size + 1, 0, none⟩ (.int .i64 1)).setCell ⟨w.heap.size + 1, 1, none⟩ (.string ⟨p.toArray⟩)).setCell ⟨w.heap.size + 1, 2, none⟩ (.int .i64 0) = y := ⟨_, rfl⟩
    obtain ⟨g0, g1, g2⟩ := put3 HB5.out _ _ _ W9 hW9.symm
    rw [hW9]
    refine bodyPost_ret (v := .tuple #[.string ⟨p.toArray⟩, .agg #[.int .i64 1, .string ⟨p.toArray⟩, .int .i64 0]]) ?_ rfl ⟨p, p, 1, rfl, hpg, HPG.out.2, ?_⟩
    · simp [results, Tryd.f5, go_sem, g0, g1, g2]
    · rw [← hW9]
      exact ((HBB.out.setCell (p := ⟨w.heap.size + 1, 0, none⟩) (by show w.heap.size ≤ w.heap.size + 1; omega) _).setCell (p := ⟨w.heap.size + 1, 1, none⟩) (by show w.heap.size ≤ w.heap.size + 1; omega) _).setCell (p := ⟨w.heap.size + 1, 2, none⟩) (by show w.heap.size ≤ w.heap.size + 1; omega) _
/-- A piece, whatever its kind. -/
theorem pword_any (x0 x1 x2 : Int) (w : World) (CW : ∀ (p : List UInt8) V, Calls Tryd.prog 10 #[.string ⟨p.toArray⟩] V fun e w' => e = .returned (.bool (wrd p)) ∧ Below V.heap.size V w') (CQ : ∀ p ∈ textP, ∀ V, Calls Tryd.prog 11 #[.string ⟨p.toArray⟩] V fun e w' => ∃ q : List UInt8, e = .returned (.string ⟨q.toArray⟩) ∧ Pg q 4 p ∧ q.length ≤ 30 ∧ Below V.heap.size V w') :
    Calls Tryd.prog 5 #[.agg #[.int .i64 x0, .int .i64 x1, .int .i64 x2]] w fun e w' => ∃ (s t : List UInt8) (k : Nat), e = .returned (.tuple #[.string ⟨s.toArray⟩, .agg #[.int .i64 (k : Int), .string ⟨t.toArray⟩, .int .i64 0]]) ∧ Pg s k t ∧ s.length ≤ 30 ∧ Below w.heap.size w w' := by
  by_cases n0 : x0 = 0
  · subst n0; exact pword_0 x1 x2 w
  by_cases n1 : x0 = 1
  · subst n1; exact pword_1 x1 x2 w CW
  by_cases n2 : x0 = 2
  · subst n2; exact pword_2 x1 x2 w
  by_cases n3 : x0 = 3
  · subst n3; exact pword_3 x1 x2 w CQ
  exact pword_4 x0 x1 x2 w n0 n1 n2 n3
end Lx
end Go.Proofs.YtgillafjccgkdaaDoor
