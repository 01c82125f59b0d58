/-
  The law's own example.
-/
import Derived.Test.YtfcgogpnbmikmaaGreatDoorNdPr2
namespace Go.Proofs.YtfcgogpnbmikmaaGreatDoor
open Go.RowKit Go.WideShapes
namespace Nd
open Lx

def nv4 : Nv := ⟨31, 0, ⟨#[97]⟩, false, .slice none 0 0, .slice none 0 0⟩
def nvk (k : Int) (b : Nat) : Nv := ⟨k, 0, ⟨#[]⟩, false, .slice none 0 0, .slice (some ⟨b, 0, none⟩) 1 1⟩
theorem at_alloc (w : World) (x : Nv) : At (w.alloc (.cells #[.int .i64 x.k, .int .i64 x.a, .string x.s, .bool x.neg, x.mv, x.kv] 27)) w.heap.size 0 x :=
  ⟨World.cell?_alloc_at _ _ _ _ rfl, World.cell?_alloc_at _ _ _ _ rfl, World.cell?_alloc_at _ _ _ _ rfl, World.cell?_alloc_at _ _ _ _ rfl, World.cell?_alloc_at _ _ _ _ rfl, World.cell?_alloc_at _ _ _ _ rfl⟩
set_option maxRecDepth 100000 in
set_option maxHeartbeats 4000000 in
theorem awake14_any (w : World) : Calls Tryz.prog 7 #[] w fun e w' => e = .returned (.bool true) ∧ Below w.heap.size w w' := by
  obtain ⟨W1, hW1⟩ : ∃ W, w.alloc (.cells #[.int .i64 31, .int .i64 0, .string ⟨#[97]⟩, .bool false, .slice none 0 0, .slice none 0 0] 27) = W := ⟨_, rfl⟩
  obtain ⟨W2, hW2⟩ : ∃ W, W1.alloc (.cells #[.int .i64 3, .int .i64 0, .string ⟨#[]⟩, .bool false, .slice none 0 0, .slice (some ⟨w.heap.size, 0, none⟩) 1 1] 27) = W := ⟨_, rfl⟩
  obtain ⟨W3, hW3⟩ : ∃ W, W2.alloc (.cells #[.int .i64 2, .int .i64 0, .string ⟨#[]⟩, .bool false, .slice none 0 0, .slice (some ⟨W1.heap.size, 0, none⟩) 1 1] 27) = W := ⟨_, rfl⟩
  obtain ⟨W, hW⟩ : ∃ W, W3.alloc (.cells #[.int .i64 1, .int .i64 0, .string ⟨#[]⟩, .bool false, .slice none 0 0, .slice (some ⟨W2.heap.size, 0, none⟩) 1 1] 27) = W := ⟨_, rfl⟩
  have b1 : Below w.heap.size w W1 := by rw [← hW1]; exact (Below.refl _ w).alloc (Nat.le_refl _) _
  have b2 : Below W1.heap.size W1 W2 := by rw [← hW2]; exact (Below.refl _ W1).alloc (Nat.le_refl _) _
  have b3 : Below W2.heap.size W2 W3 := by rw [← hW3]; exact (Below.refl _ W2).alloc (Nat.le_refl _) _
  have b4 : Below W3.heap.size W3 W := by rw [← hW]; exact (Below.refl _ W3).alloc (Nat.le_refl _) _
  have c23 := b3.trans (b4.mono b3.size)
  have c13 := b2.trans (c23.mono b2.size)
  have c03 := b1.trans (c13.mono b1.size)
  have a4 : At W1 w.heap.size 0 nv4 := by rw [← hW1]; exact at_alloc w nv4
  have a3 : At W2 W1.heap.size 0 (nvk 3 w.heap.size) := by rw [← hW2]; exact at_alloc W1 (nvk 3 w.heap.size)
  have a2 : At W3 W2.heap.size 0 (nvk 2 W1.heap.size) := by rw [← hW3]; exact at_alloc W2 (nvk 2 W1.heap.size)
  have a1 : At W W3.heap.size 0 (nvk 1 W2.heap.size) := by rw [← hW]; exact at_alloc W3 (nvk 1 W2.heap.size)
  have hE : Ex4 W (nvk 1 W2.heap.size) (nvk 2 W1.heap.size) (nvk 3 w.heap.size) nv4 := ⟨rfl, ⟨_, rfl, a4.same (c13.block _ a4.lt)⟩, ⟨_, rfl, a3.same (c23.block _ a3.lt)⟩, ⟨_, rfl, a2.same (b4.block _ a2.lt)⟩⟩
  have C1 := check_ex hE
  have C2 := fun V (hV : Below W.heap.size W V) => print_ex (hE.below hV)
  have C3 := fun V (hV : Below W.heap.size W V) => size_ex (hE.below hV)
  have C4 := fun V (hV : Below W.heap.size W V) => depth_ex (hE.below hV)
  simp only [Nv.v, nvk] at C1 C2 C3 C4 a1
  obtain ⟨y0, y1, y2, y3, y4, y5⟩ := a1
  simp only [Nat.zero_add] at y0 y1 y2 y3 y4 y5
  have HC := Lib.hid c03
  clear b1 b2 b3 b4 c23 c13 c03 a4 a3 a2 hE
  go_enter Tryz.func7, Tryz.ntmps7
  go_wp2_with fail
  refine C1.mono ?_
  rintro e V1 ⟨rfl, hb1⟩
  have z0 := cell_keep y0 hb1
  have z1 := cell_keep y1 hb1
  have z2 := cell_keep y2 hb1
  have z3 := cell_keep y3 hb1
  have z4 := cell_keep y4 hb1
  have z5 := cell_keep y5 hb1
  have D2 := C2 V1 hb1
  have HV1 := Lib.hid hb1
  clear C1 hb1 y0 y1 y2 y3 y4 y5 C2
  go_wp2_with fail
  refine D2.mono ?_
  rintro e V2 ⟨rfl, hb2⟩
  have y0 := cell_keep z0 hb2
  have y1 := cell_keep z1 hb2
  have y2 := cell_keep z2 hb2
  have y3 := cell_keep z3 hb2
  have y4 := cell_keep z4 hb2
  have y5 := cell_keep z5 hb2
  have HV2 := Lib.hid (HV1.out.trans (hb2.mono HV1.out.size))
  have D3 := C3 V2 HV2.out
  clear D2 hb2 z0 z1 z2 z3 z4 z5 C3
  go_wp2_with fail
  refine D3.mono ?_
  rintro e V3 ⟨rfl, hb3⟩
  have z0 := cell_keep y0 hb3
  have z1 := cell_keep y1 hb3
  have z2 := cell_keep y2 hb3
  have z3 := cell_keep y3 hb3
  have z4 := cell_keep y4 hb3
  have z5 := cell_keep y5 hb3
  have HV3 := Lib.hid (HV2.out.trans (hb3.mono HV2.out.size))
  have D4 := C4 V3 HV3.out
  clear D3 hb3 y0 y1 y2 y3 y4 y5 C4
  go_wp2_with fail
  refine D4.mono ?_
  rintro e V4 ⟨rfl, hb4⟩
  have HV4 := Lib.hid (HV3.out.trans (hb4.mono HV3.out.size))
  clear D4 hb4 z0 z1 z2 z3 z4 z5
  go_wp2_with fail
  go_ret
  exact ⟨rfl, HC.out.trans (HV4.out.mono HC.out.size)⟩
end Nd
end Go.Proofs.YtfcgogpnbmikmaaGreatDoor
