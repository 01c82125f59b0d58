/-
  What awake answers.
-/
import Derived.Test.YtjkpailkamafcaaGreatDoorStoTg
import Derived.Test.YtjkpailkamafcaaGreatDoorStoNew
import Derived.Test.YtjkpailkamafcaaGreatDoorStoBui
namespace Go.Proofs.YtjkpailkamafcaaGreatDoor
open Go.RowKit Go.WideShapes

namespace Sto
set_option maxRecDepth 100000 in
theorem rules_any (w : World) (p h : Int) : Calls Tryz.prog 18 #[.int .i64 p, .int .i64 h] w fun e w' => e = .returned (.agg #[.int .i64 0, .int .i64 p, .int .i64 h, .slice none 0 0, .slice none 0 0]) ∧ Below w.heap.size w w' := by
  go_enter Tryz.func18, Tryz.ntmps18
  go_wp2
  refine bodyPost_ret (v := .agg #[.int .i64 0, .int .i64 p, .int .i64 h, .slice none 0 0, .slice none 0 0]) ?_ rfl ⟨rfl, (Below.refl _ _).alloc (Nat.le_refl _) _⟩
  simp [results, Tryz.results18, go_sem]
theorem new_st {w w2 : World} {p h : Int} {pm : Option Addr} (e : w2 = (w.alloc (.cells #[.int .i64 0, .int .i64 p, .int .i64 h, .slice none 0 0, .slice none 0 0] 43)).alloc (.cells #[.slice none 0 0, .slice none 0 0, .map none, .int .i64 0, .slice none 0 0, .int .i64 p, .int .i64 h, .pointer pm] 77)) :
    St w2 (w.heap.size + 1) [] (.slice none 0 0) none 0 p h pm ∧ Below w.heap.size w w2 := by
  subst e
  refine ⟨St.new ?_, ((Below.refl _ w).alloc (Nat.le_refl _) _).alloc (by simp) _⟩
  have hB := Blk.new (w.alloc (.cells #[.int .i64 0, .int .i64 p, .int .i64 h, .slice none 0 0, .slice none 0 0] 43)) #[.slice none 0 0, .slice none 0 0, .map none, .int .i64 0, .slice none 0 0, .int .i64 p, .int .i64 h, .pointer pm] 77
  rw [show (w.alloc (.cells #[.int .i64 0, .int .i64 p, .int .i64 h, .slice none 0 0, .slice none 0 0] 43)).heap.size = w.heap.size + 1 by simp] at hB
  exact hB
/-- The world that awake's terms are laid in. -/
def tW (w : World) : World := (w.alloc (.cells #[.int .i64 0, .int .i64 0] 3)).alloc (.cells #[.int .i64 4, .bool false, .bool false, .slice none 0 0, .string ⟨#[97]⟩, .slice none 0 0, .bool false, .bool false, .int .i64 5, .bool false, .bool false, .slice none 0 0, .string ⟨#[]⟩, .slice (some ⟨w.heap.size, 0, none⟩) 2 2, .bool false, .bool false] 69)
theorem tW_below (w : World) : Below w.heap.size w (tW w) := ((Below.refl _ w).alloc (Nat.le_refl _) _).alloc (by simp) _
theorem tW_k (w : World) : Blk (tW w) w.heap.size 2 (fun _ => .int .i64 0) := by
  have hB := Blk.new w #[.int .i64 0, .int .i64 0] 3
  have hb := (Below.refl (w.alloc (.cells #[.int .i64 0, .int .i64 0] 3)).heap.size (w.alloc (.cells #[.int .i64 0, .int .i64 0] 3))).alloc (Nat.le_refl _) (.cells #[.int .i64 4, .bool false, .bool false, .slice none 0 0, .string ⟨#[97]⟩, .slice none 0 0, .bool false, .bool false, .int .i64 5, .bool false, .bool false, .slice none 0 0, .string ⟨#[]⟩, .slice (some ⟨w.heap.size, 0, none⟩) 2 2, .bool false, .bool false] 69)
  refine (hB.of hb (by simp)).congr (fun j hj => ?_)
  have : j = 0 ∨ j = 1 := by have h : j < 2 := hj; omega
  rcases this with rfl | rfl <;> rfl
theorem tW_t (w : World) : Blk (tW w) (w.heap.size + 1) 16 (tF w.heap.size) := by
  have hB := Blk.new (w.alloc (.cells #[.int .i64 0, .int .i64 0] 3)) #[.int .i64 4, .bool false, .bool false, .slice none 0 0, .string ⟨#[97]⟩, .slice none 0 0, .bool false, .bool false, .int .i64 5, .bool false, .bool false, .slice none 0 0, .string ⟨#[]⟩, .slice (some ⟨w.heap.size, 0, none⟩) 2 2, .bool false, .bool false] 69
  rw [show (w.alloc (.cells #[.int .i64 0, .int .i64 0] 3)).heap.size = w.heap.size + 1 by simp] at hB
  exact hB
set_option maxRecDepth 100000 in
set_option maxHeartbeats 1600000 in
theorem awake19_any (w : World) : Calls Tryz.prog 5 #[] w fun e w' => e = .returned (.bool true) ∧ Below w.heap.size w w' := by
  have C1 := rules_any w 10 3
  go_enter Tryz.func5, Tryz.ntmps5
  go_wp2_with fail
  refine C1.mono ?_
  rintro e w1 ⟨rfl, hb1⟩
  clear C1
  have C2 := new_any w1 10 3 none (by omega) (by omega)
  have HB1 := Lib.hid hb1
  clear hb1
  go_wp2_with fail
  refine C2.mono ?_
  rintro e w2 ⟨rfl, hw2⟩
  clear C2
  obtain ⟨h2, hb2⟩ := new_st hw2
  obtain ⟨g, hg⟩ : ∃ g, w1.heap.size + 1 = g := ⟨_, rfl⟩
  rw [hg] at h2 ⊢
  have hlg : w.heap.size ≤ g := by have := HB1.out.size; omega
  have e0 := eqS g
  have hlg2 := h2.lt
  have C3 : Calls Tryz.prog 6 #[.pointer (some ⟨g, 0, none⟩), .slice (some ⟨w2.heap.size + 1, 0, none⟩) 2 2] (tW w2) (BdP (tW w2) g 10 3 none) := Build_any (tW_t w2) (tW_k w2) (h2.of (tW_below w2)) ⟨by omega, by omega⟩
  have HB2 : Hid (Below w.heap.size w w2) := Lib.hid (HB1.out.trans (hb2.mono HB1.out.size))
  have HBT := Lib.hid (HB2.out.trans ((tW_below w2).mono HB2.out.size))
  clear hw2 hb2 h2 hg
  unfold tW at C3
  go_wp2_with fail
  refine C3.mono ?_
  rintro e w4 ⟨b, T, K, r, c, q, t, m, rv, rfl, h4, hx4⟩
  clear C3
  have hB4 : Below w.heap.size w w4 := HBT.out.trans (hx4.below (fun k hk => by rw [hk]; exact hlg) HBT.out.size)
  have r0 := h4.r0
  have r1 := h4.r1
  have h5 : Two w4 g q t m rv 10 3 none := ⟨h4.st, h4.qq, h4.tt, h4.mm⟩
  have lr := lt_of_cell r0
  have C4 := len1 h5
  have C5 := tag0 h5
  have C6 := fun (w' : World) (hb : Below w4.heap.size w4 w') => tag1 (h5.of hb)
  have C7 := fun (w' : World) (hb : Below w4.heap.size w4 w') => truth0 (h5.of hb)
  have HB4 := Lib.hid hB4
  clear h4 hx4 hB4 h5
  go_wp2_with fail
  refine C4.mono ?_
  rintro e w' ⟨rfl, rfl⟩
  clear C4
  go_wp2_with fail
  refine C5.mono ?_
  rintro e w5 ⟨rfl, hb5⟩
  clear C5
  have s1 : w5.cell? ⟨r, 1, none⟩ = some (.int .i64 1) := (hb5.cell (p := ⟨r, 1, none⟩) lr).trans r1
  have s0 : w5.cell? ⟨r, 0, none⟩ = some (.int .i64 0) := (hb5.cell (p := ⟨r, 0, none⟩) lr).trans r0
  have C6' := C6 w5 hb5
  have HB5 := Lib.hid hb5
  clear C6 hb5
  go_wp2_with fail
  refine C6'.mono ?_
  rintro e w6 ⟨rfl, hb6⟩
  clear C6'
  have hb46 := HB5.out.trans (hb6.mono HB5.out.size)
  have u0 : w6.cell? ⟨r, 0, none⟩ = some (.int .i64 0) := (hb46.cell (p := ⟨r, 0, none⟩) lr).trans r0
  have C7' := C7 w6 hb46
  have HB6 := Lib.hid hb46
  clear C7 hb46 hb6
  go_wp2_with fail
  refine C7'.mono ?_
  rintro e w' ⟨rfl, rfl⟩
  clear C7'
  go_wp2_with fail
  go_ret
  exact ⟨rfl, HB4.out.trans (HB6.out.mono HB4.out.size)⟩
end Sto
end Go.Proofs.YtjkpailkamafcaaGreatDoor
