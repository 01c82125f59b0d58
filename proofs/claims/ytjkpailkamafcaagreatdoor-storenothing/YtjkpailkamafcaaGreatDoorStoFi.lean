/-
  awake: a builder's lists are filled (there are none).
-/
import Derived.Test.YtjkpailkamafcaaGreatDoorStoBd2
import Derived.Test.YtjkpailkamafcaaGreatDoorStoGt
namespace Go.Proofs.YtjkpailkamafcaaGreatDoor
open Go.RowKit Go.WideShapes

namespace Sto
theorem B2.of {w w' : World} {b g T K r c q t m : Nat} {rv : Value} {p h : Int} {pm : Option Addr} (H : B2 w b g T K r c q t m rv p h pm) (hb : Below w.heap.size w w') : B2 w' b g T K r c q t m rv p h pm := by
  obtain ⟨a', c', ht⟩ := H.tt
  exact ⟨(hb.cell (p := ⟨b, 0, none⟩) (lt_of_cell H.b0)).trans H.b0, (hb.cell (p := ⟨b, 1, none⟩) (lt_of_cell H.b0)).trans H.b1, (hb.cell (p := ⟨b, 2, none⟩) (lt_of_cell H.b0)).trans H.b2, H.tb.of hb (by omega), (hb.cell (p := ⟨r, 0, none⟩) (lt_of_cell H.r0)).trans H.r0, (hb.cell (p := ⟨r, 1, none⟩) (lt_of_cell H.r0)).trans H.r1, H.st.of hb, (hb.cell (p := ⟨q, 0, none⟩) (lt_of_cell H.qq)).trans H.qq, ⟨a', c', (hb.cell (p := ⟨t, 0, none⟩) (lt_of_cell ht)).trans ht⟩, (hb.block m (Array.getElem?_eq_some_iff.1 H.mm).1).trans H.mm⟩
set_option maxRecDepth 100000 in
set_option maxHeartbeats 1600000 in
theorem fill_any {w : World} {b g T K r c q t m : Nat} {rv : Value} {p h : Int} {pm : Option Addr} (H : B2 w b g T K r c q t m rv p h pm) :
    Calls Tryz.prog 37 #[.pointer (some ⟨b, 0, none⟩)] w fun e w' => e = .returned (.tuple #[]) ∧ Below w.heap.size w w' := by
  have b1 := H.b1
  have HH := Lib.hid H
  clear H
  go_enter Tryz.func37, Tryz.ntmps37
  go_wp2_with fail
  go_loopg [11] 2 (fun gk v wr => (gk = 2 ∧ v = .int .i64 0 ∨ gk = 1 ∧ v = .int .i64 1 ∨ gk = 0 ∧ v = .int .i64 2) ∧ Below w.heap.size w wr)
  case atStart => exact ⟨Or.inl ⟨rfl, rfl⟩, Below.refl _ _⟩
  case round =>
    obtain ⟨⟨rfl, rfl⟩ | ⟨rfl, rfl⟩ | ⟨rfl, rfl⟩, hb⟩ := hrel
    · have h1 := HH.out.of hb
      have t0 : wr.cell? ⟨T, 0, none⟩ = some (.int .i64 4) := h1.tb.c 0 (by omega)
      have t1 : wr.cell? ⟨T, 1, none⟩ = some (.bool false) := h1.tb.c 1 (by omega)
      have t2 : wr.cell? ⟨T, 2, none⟩ = some (.bool false) := h1.tb.c 2 (by omega)
      have t3 : wr.cell? ⟨T, 3, none⟩ = some (.slice none 0 0) := h1.tb.c 3 (by omega)
      have t4 : wr.cell? ⟨T, 4, none⟩ = some (.string ⟨#[97]⟩) := h1.tb.c 4 (by omega)
      have t5 : wr.cell? ⟨T, 5, none⟩ = some (.slice none 0 0) := h1.tb.c 5 (by omega)
      have t6 : wr.cell? ⟨T, 6, none⟩ = some (.bool false) := h1.tb.c 6 (by omega)
      have t7 : wr.cell? ⟨T, 7, none⟩ = some (.bool false) := h1.tb.c 7 (by omega)
      obtain ⟨W1, hW1⟩ : ∃ V, wr.alloc (.cells #[.int .i64 4, .bool false, .bool false, .slice none 0 0, .string ⟨#[97]⟩, .slice none 0 0, .bool false, .bool false] 69) = V := ⟨_, rfl⟩
      have hE : Below wr.heap.size wr W1 := by rw [← hW1]; exact (Below.refl _ _).alloc (Nat.le_refl _) _
      have h2 := h1.of hE
      have g0 := h2.b0
      have g2 := h2.b2
      have g3 := h2.r0
      have C := get_yes (h2.st.of (Below.refl _ W1).drew) (k := 0) (by simp) (t := 84) (a := ⟨q, 0, none⟩) rfl
      have A := fun w => aStr_List (some ⟨q, 0, none⟩) w
      have HB := Lib.hid (hb.trans (hE.mono hb.size))
      have HW := Lib.hid hW1
      clear h1 hE h2 hb hW1
      go_upto_region 3 with fail
      rw [HW.out]
      clear t0 t1 t2 t3 t4 t5 t6 t7
      go_region_with (first | (refine C.mono ?_; rintro e w3 ⟨rfl, rfl⟩) | fail)
      all_goals
        go_wp2_with fail
        go_roundg 1
        case measure => omega
        case rel => exact ⟨Or.inr (Or.inl ⟨rfl, by first | rfl | trivial⟩), HB.out.drew⟩
    · have h1 := HH.out.of hb
      have t0 : wr.cell? ⟨T, 8, none⟩ = some (.int .i64 5) := h1.tb.c 8 (by omega)
      have t1 : wr.cell? ⟨T, 9, none⟩ = some (.bool false) := h1.tb.c 9 (by omega)
      have t2 : wr.cell? ⟨T, 10, none⟩ = some (.bool false) := h1.tb.c 10 (by omega)
      have t3 : wr.cell? ⟨T, 11, none⟩ = some (.slice none 0 0) := h1.tb.c 11 (by omega)
      have t4 : wr.cell? ⟨T, 12, none⟩ = some (.string ⟨#[]⟩) := h1.tb.c 12 (by omega)
      have t5 : wr.cell? ⟨T, 13, none⟩ = some (.slice (some ⟨K, 0, none⟩) 2 2) := h1.tb.c 13 (by omega)
      have t6 : wr.cell? ⟨T, 14, none⟩ = some (.bool false) := h1.tb.c 14 (by omega)
      have t7 : wr.cell? ⟨T, 15, none⟩ = some (.bool false) := h1.tb.c 15 (by omega)
      obtain ⟨W1, hW1⟩ : ∃ V, wr.alloc (.cells #[.int .i64 5, .bool false, .bool false, .slice none 0 0, .string ⟨#[]⟩, .slice (some ⟨K, 0, none⟩) 2 2, .bool false, .bool false] 69) = V := ⟨_, rfl⟩
      have hE : Below wr.heap.size wr W1 := by rw [← hW1]; exact (Below.refl _ _).alloc (Nat.le_refl _) _
      have h2 := h1.of hE
      have g0 := h2.b0
      have g2 := h2.b2
      have g3 := h2.r1
      have C := get_yes (h2.st.of (Below.refl _ W1).drew) (k := 1) (by simp) (t := 89) (a := ⟨t, 0, none⟩) rfl
      have A := fun w => aTuple_List (some ⟨t, 0, none⟩) w
      have HB := Lib.hid (hb.trans (hE.mono hb.size))
      have HW := Lib.hid hW1
      clear h1 hE h2 hb hW1
      go_upto_region 3 with fail
      rw [HW.out]
      clear t0 t1 t2 t3 t4 t5 t6 t7
      go_region_with (first | (refine C.mono ?_; rintro e w3 ⟨rfl, rfl⟩) | fail)
      all_goals
        go_wp2_with fail
        go_roundg 0
        case measure => omega
        case rel => exact ⟨Or.inr (Or.inr ⟨rfl, by first | rfl | trivial⟩), HB.out.drew⟩
    · have HB := Lib.hid hb
      clear hb
      go_wp2_with fail
      go_end0
      exact ⟨rfl, HB.out⟩
end Sto
end Go.Proofs.YtjkpailkamafcaaGreatDoor
