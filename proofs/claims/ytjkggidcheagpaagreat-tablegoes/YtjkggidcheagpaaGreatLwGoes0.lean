/-
  The law's goes, over a table without an entry.
-/
import Derived.Test.YtjkggidcheagpaaGreatDtNil2
import Derived.Test.YtjkggidcheagpaaGreatTfm
import Derived.Test.YtjkggidcheagpaaGreatDtMem
namespace Go.Proofs.YtjkggidcheagpaaGreat
open Go.RowKit Go.WideShapes

theorem rlive_none (g : Nat) (w : World) (h0 : w.cell? ⟨g, 0, none⟩ = some (.slice none 0 0)) : Calls Tryz.prog 24 #[.pointer (some ⟨g, 0, none⟩)] w fun e w' => e = .returned (.slice none 0 0) ∧ Below w.heap.size w w' := by
  go_enter Tryz.func24, Tryz.ntmps24
  go_wp2_with fail
  go_loopw [3, 4] (fun lv iv wr => lv = .slice none 0 0 ∧ iv = .int .i64 0 ∧ wr = w) (fun _ _ _ => 0)
  case atStart => exact ⟨rfl, rfl, rfl⟩
  case round =>
    obtain ⟨rfl, rfl, rfl⟩ := hrel
    go_wp2
    go_ret
    exact ⟨rfl, Below.refl _ _⟩
theorem rnumbers_none (g : Nat) (w : World) (h0 : w.cell? ⟨g, 0, none⟩ = some (.slice none 0 0)) : Calls Tryz.prog 26 #[.pointer (some ⟨g, 0, none⟩)] w fun e w' => e = .returned (.slice none 0 0) ∧ Below w.heap.size w w' := by
  go_enter Tryz.func26, Tryz.ntmps26
  go_wp2_with fail
  go_loopw [3, 4] (fun lv iv wr => lv = .slice none 0 0 ∧ iv = .int .i64 0 ∧ wr = w) (fun _ _ _ => 0)
  case atStart => exact ⟨rfl, rfl, rfl⟩
  case round =>
    obtain ⟨rfl, rfl, rfl⟩ := hrel
    go_wp2
    go_ret
    exact ⟨rfl, Below.refl _ _⟩
set_option maxRecDepth 100000 in
theorem goes_none (F : FuncId) (b g : Nat) (bk : Bool) (w : World) (h0 : w.cell? ⟨g, 0, none⟩ = some (.slice none 0 0)) (hc : w.cell? ⟨b, 0, none⟩ = some (.slice none 0 0)) (eg : ∀ args w, (callFunc F args).run Tryz.prog w = .ok (.enter F args) w)
    (hF : Hid (∀ fy y1 y2 (W : World), W.cell? ⟨b, 0, none⟩ = some (.slice none 0 0) → Calls Tryz.prog F #[.func fy y1 y2, .pointer (some ⟨b, 0, none⟩)] W fun e w' => e = .returned (.tuple #[]) ∧ Below W.heap.size W w')) :
    Calls Tryz.prog 9 #[.func (.func F) #[] #[.pointer (some ⟨b, 0, none⟩)], .pointer (some ⟨g, 0, none⟩), .bool bk, .int .i64 0] w fun e w' => e = .returned (.bool true) ∧ Below w.heap.size w w' := by
  have hmf : ∀ (fn : Fn) (first cap : Array Value) (w : World), (Instr.makeFunc fn first cap).run Tryz.prog w = .ok (.func fn first cap) w := fun _ _ _ _ => rfl
  have hlb := lt_of_cell hc
  have hlg := lt_of_cell h0
  obtain ⟨w1, hw1⟩ : ∃ x, (w.alloc (.cells #[.bool bk] 4)).alloc (.cells #[.int .i64 0] 3) = x := ⟨_, rfl⟩
  have hB1 : Below w.heap.size w w1 := by rw [← hw1]; exact ((Below.refl _ w).alloc (Nat.le_refl _) _).alloc (by simp) _
  have hs1 : w1.heap.size = w.heap.size + 2 := by rw [← hw1]; simp
  have v1 : w1.cell? ⟨w.heap.size + 1, 0, none⟩ = some (.int .i64 0) := by rw [← hw1]; exact cell_alloc_new _ _ _ _ (by simp)
  have C1 := rlive_none g w1 ((hB1.cell (p := ⟨g, 0, none⟩) hlg).trans h0)
  have HN := Lib.hid (fun W h => rnumbers_none g W h)
  have HW1 := Lib.hid hw1
  clear hw1
  go_enter Tryz.func9, Tryz.ntmps9
  go_wp2_with fail
  rw [HW1.out]
  refine C1.mono ?_
  rintro e w2 ⟨rfl, hB2⟩
  clear C1
  obtain ⟨w3, hw3⟩ : ∃ x, w2.alloc (.cells #[.slice none 0 0] 37) = x := ⟨_, rfl⟩
  have hB3 : Below w1.heap.size w1 w3 := by rw [← hw3]; exact hB2.alloc hB2.size _
  have hB03 := hB1.trans (hB3.mono hB1.size)
  have v3 : w3.cell? ⟨w2.heap.size, 0, none⟩ = some (.slice none 0 0) := by rw [← hw3]; exact cell_alloc_new _ _ _ _ rfl
  have C2 := HN.out w3 ((hB03.cell (p := ⟨g, 0, none⟩) hlg).trans h0)
  have HW3 := Lib.hid hw3
  clear hw3 HN
  go_wp2_with fail
  rw [HW3.out]
  refine C2.mono ?_
  rintro e w4 ⟨rfl, hB4⟩
  clear C2
  have hs2 := hB2.size
  have hl3 := lt_of_cell v3
  have hs4 := hB4.size
  obtain ⟨w5, hw5⟩ : ∃ x, (((w4.alloc (.cells #[.slice none 0 0] 38)).alloc (.cells #[.int .i64 0] 3)).alloc (.cells #[.bool true] 4)).alloc (.cells #[.bool false] 4) = x := ⟨_, rfl⟩
  have hB5 : Below w4.heap.size w4 w5 := by rw [← hw5]; exact ((((Below.refl _ w4).alloc (Nat.le_refl _) _).alloc (by simp) _).alloc (by simp; omega) _).alloc (by simp; omega) _
  have hs5 : w5.heap.size = w4.heap.size + 4 := by rw [← hw5]; simp
  have n5 : w5.cell? ⟨w4.heap.size + 1, 0, none⟩ = some (.int .i64 0) := by rw [← hw5, cell_alloc_old _ _ _ _ (by simp), cell_alloc_old _ _ _ _ (by simp)]; exact cell_alloc_new _ _ _ _ (by simp)
  have k5 : w5.cell? ⟨w4.heap.size + 1 + 1, 0, none⟩ = some (.bool true) := by rw [← hw5, cell_alloc_old _ _ _ _ (by simp)]; exact cell_alloc_new _ _ _ _ (by simp)
  have hB05 := hB03.trans ((hB4.mono hB03.size).trans (hB5.mono (Nat.le_trans hB03.size hB4.size)))
  have hB35 := hB4.trans (hB5.mono hB4.size)
  have hB15 := hB3.trans (hB35.mono hB3.size)
  have hs3 := hB3.size
  have CF := hF.out (.func 27) #[] #[.pointer (some ⟨w4.heap.size + 1, 0, none⟩), .pointer (some ⟨w.heap.size, 0, none⟩), .pointer (some ⟨w2.heap.size, 0, none⟩), .pointer (some ⟨w4.heap.size + 1 + 1, 0, none⟩), .pointer (some ⟨w4.heap.size + 1 + 1 + 1, 0, none⟩), .pointer (some ⟨w4.heap.size, 0, none⟩), .pointer (some ⟨w.heap.size + 1, 0, none⟩)] w5 ((hB05.cell (p := ⟨b, 0, none⟩) hlb).trans hc)
  have HW5 := Lib.hid hw5
  clear hw5 hF
  go_wp2_with fail
  rw [HW5.out]
  refine CF.mono ?_
  rintro e w6 ⟨rfl, hB6⟩
  clear CF
  have n6 := (hB6.cell (p := ⟨w4.heap.size + 1, 0, none⟩) (by show w4.heap.size + 1 < _; omega)).trans n5
  have k6 := (hB6.cell (p := ⟨w4.heap.size + 1 + 1, 0, none⟩) (by show w4.heap.size + 1 + 1 < _; omega)).trans k5
  have v6 := (hB6.cell (p := ⟨w2.heap.size, 0, none⟩) (by show w2.heap.size < _; omega)).trans ((hB35.cell (p := ⟨w2.heap.size, 0, none⟩) hl3).trans v3)
  have s6 := (hB6.cell (p := ⟨w.heap.size + 1, 0, none⟩) (by show w.heap.size + 1 < _; omega)).trans ((hB15.cell (p := ⟨w.heap.size + 1, 0, none⟩) (by show w.heap.size + 1 < _; omega)).trans v1)
  have HB6 := Lib.hid (hB05.trans (hB6.mono hB05.size))
  clear hB6 hB05 hB35 hB15 hB5 hB4 hB3 hB2 hB1 hB03 n5 k5 v3 v1 h0 hc
  go_wp2_with fail
  go_ret
  exact ⟨rfl, HB6.out⟩
end Go.Proofs.YtjkggidcheagpaaGreat
