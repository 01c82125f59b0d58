/-
  awake: what is asked of a draft's two terms.
-/
import Derived.Test.YtjkpailkamafcaaGreatDoorStoAw1
namespace Go.Proofs.YtjkpailkamafcaaGreatDoor
open Go.RowKit Go.WideShapes

namespace Sto
/-- The terms' cells. -/
def tF (K : Nat) : Nat → Value := fun j => #[Value.int .i64 4, .bool false, .bool false, .slice none 0 0, .string ⟨#[97]⟩, .slice none 0 0, .bool false, .bool false, .int .i64 5, .bool false, .bool false, .slice none 0 0, .string ⟨#[]⟩, .slice (some ⟨K, 0, none⟩) 2 2, .bool false, .bool false].getD j .nilFunc
/-- The terms and a draft of them. -/
structure Dw (w : World) (D T K : Nat) : Prop where
  d0 : w.cell? ⟨D, 0, none⟩ = some (.slice (some ⟨T, 0, none⟩) 2 2)
  d1 : w.cell? ⟨D, 1, none⟩ = some (.int .i64 10)
  t : Blk w T 16 (tF K)
  k : Blk w K 2 (fun _ => .int .i64 0)
theorem Dw.of {w w' : World} {D T K : Nat} (h : Dw w D T K) (b : Below w.heap.size w w') : Dw w' D T K :=
  ⟨(b.cell (p := ⟨D, 0, none⟩) (lt_of_cell h.d0)).trans h.d0, (b.cell (p := ⟨D, 1, none⟩) (lt_of_cell h.d0)).trans h.d1, h.t.of b (by omega), h.k.of b (by omega)⟩
set_option maxRecDepth 100000 in
theorem areS {w : World} {D T K : Nat} (h : Dw w D T K) : Calls Tryz.prog 59 #[.pointer (some ⟨D, 0, none⟩), .int .i64 0] w fun e w' => e = .returned (.bool true) ∧ w' = w := by
  have d0 := h.d0
  have t0 : w.cell? ⟨T, 0, none⟩ = some (.int .i64 4) := h.t.c 0 (by omega)
  have t5 : w.cell? ⟨T, 5, none⟩ = some (.slice none 0 0) := h.t.c 5 (by omega)
  clear h
  go_enter Tryz.func59, Tryz.ntmps59
  go_wp2
  go_loopg [32] 0 (fun gk v wr => gk = 0 ∧ v = .int .i64 0 ∧ wr = w)
  case atStart => exact ⟨rfl, rfl, rfl⟩
  case round =>
    obtain ⟨rfl, rfl, rfl⟩ := hrel
    go_wp2_with fail
    go_ret
    exact ⟨rfl, rfl⟩
set_option maxRecDepth 100000 in
theorem areT {w : World} {D T K : Nat} (h : Dw w D T K) : Calls Tryz.prog 59 #[.pointer (some ⟨D, 0, none⟩), .int .i64 1] w fun e w' => e = .returned (.bool true) ∧ w' = w := by
  have d0 := h.d0
  have t0 : w.cell? ⟨T, 8, none⟩ = some (.int .i64 5) := h.t.c 8 (by omega)
  have t5 : w.cell? ⟨T, 13, none⟩ = some (.slice (some ⟨K, 0, none⟩) 2 2) := h.t.c 13 (by omega)
  have k0 : w.cell? ⟨K, 0, none⟩ = some (.int .i64 0) := h.k.c 0 (by omega)
  have k1 : w.cell? ⟨K, 1, none⟩ = some (.int .i64 0) := h.k.c 1 (by omega)
  clear h
  go_enter Tryz.func59, Tryz.ntmps59
  go_wp2
  go_loopg [32] 2 (fun gk v wr => (gk = 2 ∧ v = .int .i64 0 ∨ gk = 1 ∧ v = .int .i64 1 ∨ gk = 0 ∧ v = .int .i64 2) ∧ wr = w)
  case atStart => exact ⟨Or.inl ⟨rfl, rfl⟩, rfl⟩
  case round =>
    obtain ⟨⟨rfl, rfl⟩ | ⟨rfl, rfl⟩ | ⟨rfl, rfl⟩, rfl⟩ := hrel
    · go_wp2_with fail
      go_roundg 1
      case measure => omega
      case rel => exact ⟨Or.inr (Or.inl ⟨rfl, by first | rfl | trivial⟩), by first | rfl | trivial⟩
    · go_wp2_with fail
      go_roundg 0
      case measure => omega
      case rel => exact ⟨Or.inr (Or.inr ⟨rfl, by first | rfl | trivial⟩), by first | rfl | trivial⟩
    · go_wp2_with fail
      go_ret
      exact ⟨rfl, rfl⟩
set_option maxRecDepth 100000 in
theorem fitsS (w : World) (D : Nat) : Calls Tryz.prog 60 #[.pointer (some ⟨D, 0, none⟩), tS] w fun e w' => e = .returned (.bool true) ∧ Below w.heap.size w w' := by
  have C := fun w => goodA w
  unfold tS
  go_enter Tryz.func60, Tryz.ntmps60
  go_wp2_with fail
  refine (C _).mono ?_
  rintro e w' ⟨rfl, rfl⟩
  clear C
  go_wp2
  go_ret
  exact ⟨rfl, (Below.refl _ _).alloc (Nat.le_refl _) _⟩
set_option maxRecDepth 100000 in
theorem fitsT (w : World) (D K : Nat) : Calls Tryz.prog 60 #[.pointer (some ⟨D, 0, none⟩), tT K] w fun e w' => e = .returned (.bool true) ∧ Below w.heap.size w w' := by
  unfold tT
  go_enter Tryz.func60, Tryz.ntmps60
  go_wp2
  go_ret
  exact ⟨rfl, (Below.refl _ _).alloc (Nat.le_refl _) _⟩
set_option maxRecDepth 100000 in
theorem greatS (w : World) (D : Nat) : Calls Tryz.prog 61 #[.pointer (some ⟨D, 0, none⟩), tS] w fun e w' => e = .returned (.bool false) ∧ Below w.heap.size w w' := by
  have C := fun w => lenA w
  unfold tS
  go_enter Tryz.func61, Tryz.ntmps61
  go_wp2_with fail
  refine (C _).mono ?_
  rintro e w' ⟨rfl, hb⟩
  clear C
  have HB := Lib.hid hb
  go_wp2
  go_ret
  exact ⟨rfl, ((Below.refl _ _).alloc (Nat.le_refl _) _).trans (HB.out.mono (by simp))⟩
set_option maxRecDepth 100000 in
theorem greatT (w : World) (D K : Nat) : Calls Tryz.prog 61 #[.pointer (some ⟨D, 0, none⟩), tT K] w fun e w' => e = .returned (.bool false) ∧ Below w.heap.size w w' := by
  unfold tT
  go_enter Tryz.func61, Tryz.ntmps61
  go_wp2
  go_ret
  exact ⟨rfl, (Below.refl _ _).alloc (Nat.le_refl _) _⟩
set_option maxRecDepth 100000 in
theorem markS (w : World) : Calls Tryz.prog 63 #[.int .i64 0, tS] w fun e w' => e = .returned (.agg #[.int .i64 4, .string ⟨#[97]⟩, .int .i64 0]) ∧ Below w.heap.size w w' := by
  unfold tS
  go_enter Tryz.func63, Tryz.ntmps63
  go_wp2
  refine bodyPost_ret (v := .agg #[.int .i64 4, .string ⟨#[97]⟩, .int .i64 0]) ?_ rfl ⟨rfl, ((Below.refl _ _).alloc (Nat.le_refl _) _).alloc (by simp) _⟩
  simp [results, Tryz.results63, go_sem]
set_option maxRecDepth 100000 in
theorem refS {w : World} {D T K : Nat} (h : Dw w D T K) : Calls Tryz.prog 34 #[.pointer (some ⟨D, 0, none⟩), .int .i64 0] w fun e w' => e = .returned (.int .i64 0) ∧ Below w.heap.size w w' := by
  have d0 := h.d0
  have C1 := fun w => built4 w
  have C2 := fun (w : World) (h : Dw w D T K) => areS h
  have C3 := fun w => fitsS w D
  have C4 := fun w => greatS w D
  have t0 : w.cell? ⟨T, 0, none⟩ = some (.int .i64 4) := h.t.c 0 (by omega)
  have t1 : w.cell? ⟨T, 1, none⟩ = some (.bool false) := h.t.c 1 (by omega)
  have t2 : w.cell? ⟨T, 2, none⟩ = some (.bool false) := h.t.c 2 (by omega)
  have t3 : w.cell? ⟨T, 3, none⟩ = some (.slice none 0 0) := h.t.c 3 (by omega)
  have t4 : w.cell? ⟨T, 4, none⟩ = some (.string ⟨#[97]⟩) := h.t.c 4 (by omega)
  have t5 : w.cell? ⟨T, 5, none⟩ = some (.slice none 0 0) := h.t.c 5 (by omega)
  have t6 : w.cell? ⟨T, 6, none⟩ = some (.bool false) := h.t.c 6 (by omega)
  have t7 : w.cell? ⟨T, 7, none⟩ = some (.bool false) := h.t.c 7 (by omega)
  have H := Lib.hid h
  clear h
  go_enter Tryz.func34, Tryz.ntmps34
  go_wp2_with fail
  refine (C1 _).mono ?_
  rintro e w' ⟨rfl, rfl⟩
  clear C1
  go_wp2_with fail
  refine (C2 _ (H.out.of ((Below.refl _ w).alloc (Nat.le_refl _) _))).mono ?_
  rintro e w' ⟨rfl, rfl⟩
  clear C2
  go_wp2_with fail
  refine (C3 _).mono ?_
  rintro e w2 ⟨rfl, hb2⟩
  clear C3
  have B2 := (Blk.new w #[Value.int .i64 4, .bool false, .bool false, .slice none 0 0, .string ⟨#[97]⟩, .slice none 0 0, .bool false, .bool false] 69).of hb2 (by show 0 < 8; omega)
  have e0 : w2.cell? ⟨w.heap.size, 0, none⟩ = some (.int .i64 4) := B2.c 0 (by show _ < 8; omega)
  have e1 : w2.cell? ⟨w.heap.size, 1, none⟩ = some (.bool false) := B2.c 1 (by show _ < 8; omega)
  have e2 : w2.cell? ⟨w.heap.size, 2, none⟩ = some (.bool false) := B2.c 2 (by show _ < 8; omega)
  have e3 : w2.cell? ⟨w.heap.size, 3, none⟩ = some (.slice none 0 0) := B2.c 3 (by show _ < 8; omega)
  have e4 : w2.cell? ⟨w.heap.size, 4, none⟩ = some (.string ⟨#[97]⟩) := B2.c 4 (by show _ < 8; omega)
  have e5 : w2.cell? ⟨w.heap.size, 5, none⟩ = some (.slice none 0 0) := B2.c 5 (by show _ < 8; omega)
  have e6 : w2.cell? ⟨w.heap.size, 6, none⟩ = some (.bool false) := B2.c 6 (by show _ < 8; omega)
  have e7 : w2.cell? ⟨w.heap.size, 7, none⟩ = some (.bool false) := B2.c 7 (by show _ < 8; omega)
  have HB : Hid (Below w.heap.size w w2) := Lib.hid (((Below.refl _ w).alloc (Nat.le_refl _) _).trans (hb2.mono (by simp)))
  clear hb2 B2
  go_wp2_with fail
  refine (C4 _).mono ?_
  rintro e w3 ⟨rfl, hb3⟩
  clear C4
  have HB3 := Lib.hid (HB.out.trans (hb3.mono HB.out.size))
  clear hb3
  go_wp2_with fail
  go_ret
  exact ⟨rfl, HB3.out⟩
set_option maxRecDepth 100000 in
theorem refT {w : World} {D T K : Nat} (h : Dw w D T K) : Calls Tryz.prog 34 #[.pointer (some ⟨D, 0, none⟩), .int .i64 1] w fun e w' => e = .returned (.int .i64 0) ∧ Below w.heap.size w w' := by
  have d0 := h.d0
  have C1 := fun w => built5 w
  have C2 := fun (w : World) (h : Dw w D T K) => areT h
  have C3 := fun w => fitsT w D K
  have C4 := fun w => greatT w D K
  have t0 : w.cell? ⟨T, 8, none⟩ = some (.int .i64 5) := h.t.c 8 (by omega)
  have t1 : w.cell? ⟨T, 9, none⟩ = some (.bool false) := h.t.c 9 (by omega)
  have t2 : w.cell? ⟨T, 10, none⟩ = some (.bool false) := h.t.c 10 (by omega)
  have t3 : w.cell? ⟨T, 11, none⟩ = some (.slice none 0 0) := h.t.c 11 (by omega)
  have t4 : w.cell? ⟨T, 12, none⟩ = some (.string ⟨#[]⟩) := h.t.c 12 (by omega)
  have t5 : w.cell? ⟨T, 13, none⟩ = some (.slice (some ⟨K, 0, none⟩) 2 2) := h.t.c 13 (by omega)
  have t6 : w.cell? ⟨T, 14, none⟩ = some (.bool false) := h.t.c 14 (by omega)
  have t7 : w.cell? ⟨T, 15, none⟩ = some (.bool false) := h.t.c 15 (by omega)
  have H := Lib.hid h
  clear h
  go_enter Tryz.func34, Tryz.ntmps34
  go_wp2_with fail
  refine (C1 _).mono ?_
  rintro e w' ⟨rfl, rfl⟩
  clear C1
  go_wp2_with fail
  refine (C2 _ (H.out.of ((Below.refl _ w).alloc (Nat.le_refl _) _))).mono ?_
  rintro e w' ⟨rfl, rfl⟩
  clear C2
  go_wp2_with fail
  refine (C3 _).mono ?_
  rintro e w2 ⟨rfl, hb2⟩
  clear C3
  have B2 := (Blk.new w #[Value.int .i64 5, .bool false, .bool false, .slice none 0 0, .string ⟨#[]⟩, .slice (some ⟨K, 0, none⟩) 2 2, .bool false, .bool false] 69).of hb2 (by show 0 < 8; omega)
  have e0 : w2.cell? ⟨w.heap.size, 0, none⟩ = some (.int .i64 5) := B2.c 0 (by show _ < 8; omega)
  have e1 : w2.cell? ⟨w.heap.size, 1, none⟩ = some (.bool false) := B2.c 1 (by show _ < 8; omega)
  have e2 : w2.cell? ⟨w.heap.size, 2, none⟩ = some (.bool false) := B2.c 2 (by show _ < 8; omega)
  have e3 : w2.cell? ⟨w.heap.size, 3, none⟩ = some (.slice none 0 0) := B2.c 3 (by show _ < 8; omega)
  have e4 : w2.cell? ⟨w.heap.size, 4, none⟩ = some (.string ⟨#[]⟩) := B2.c 4 (by show _ < 8; omega)
  have e5 : w2.cell? ⟨w.heap.size, 5, none⟩ = some (.slice (some ⟨K, 0, none⟩) 2 2) := B2.c 5 (by show _ < 8; omega)
  have e6 : w2.cell? ⟨w.heap.size, 6, none⟩ = some (.bool false) := B2.c 6 (by show _ < 8; omega)
  have e7 : w2.cell? ⟨w.heap.size, 7, none⟩ = some (.bool false) := B2.c 7 (by show _ < 8; omega)
  have HB : Hid (Below w.heap.size w w2) := Lib.hid (((Below.refl _ w).alloc (Nat.le_refl _) _).trans (hb2.mono (by simp)))
  clear hb2 B2
  go_wp2_with fail
  refine (C4 _).mono ?_
  rintro e w3 ⟨rfl, hb3⟩
  clear C4
  have HB3 := Lib.hid (HB.out.trans (hb3.mono HB.out.size))
  clear hb3
  go_wp2_with fail
  go_ret
  exact ⟨rfl, HB3.out⟩
end Sto
end Go.Proofs.YtjkpailkamafcaaGreatDoor
