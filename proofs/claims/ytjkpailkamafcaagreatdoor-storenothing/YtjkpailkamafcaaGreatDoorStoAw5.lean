/-
  awake: refuse takes both terms.
-/
import Derived.Test.YtjkpailkamafcaaGreatDoorStoAw4
namespace Go.Proofs.YtjkpailkamafcaaGreatDoor
open Go.RowKit Go.WideShapes

namespace Sto
set_option maxRecDepth 100000 in
theorem refuse_any {w : World} {T K : Nat} (ht : Blk w T 16 (tF K)) (hk : Blk w K 2 (fun _ => .int .i64 0)) : Calls Tryz.prog 19 #[.slice (some ⟨T, 0, none⟩) 2 2, .int .i64 10] w fun e w' => e = .returned (.int .i64 0) ∧ Below w.heap.size w w' := by
  have lT := ht.lt (by omega)
  have lK := hk.lt (by omega)
  obtain ⟨w1, hw1⟩ : ∃ V, (w.alloc (.map #[] 0)).alloc (.cells #[.slice (some ⟨T, 0, none⟩) 2 2, .int .i64 10, .slice none 0 0, .map (some w.heap.size)] 128) = V := ⟨_, rfl⟩
  have hb1 : Below w.heap.size w w1 := by rw [← hw1]; exact ((Below.refl _ w).alloc (Nat.le_refl _) _).alloc (by simp) _
  have hn1 : Dn w1 w.heap.size (w.heap.size + 1) T K w.heap.size 0 (.slice none 0 0) := by
    refine ⟨?_, ⟨[], rfl, .inl ⟨rfl, rfl⟩⟩, by simp [Value.ownBlock], ht.of hb1 (by omega), hk.of hb1 (by omega), ⟨by omega, by omega, lT, lK, hb1.size⟩⟩
    rw [← hw1]
    have hB := Blk.new (w.alloc (.map #[] 0)) #[.slice (some ⟨T, 0, none⟩) 2 2, .int .i64 10, .slice none 0 0, .map (some w.heap.size)] 128
    rw [show (w.alloc (.map #[] 0)).heap.size = w.heap.size + 1 by simp] at hB
    exact hB
  have hM1 : w1.heap[w.heap.size]? = some (.map #[] 0) := by
    rw [← hw1]
    exact (Below.heap_alloc (w.alloc (.map #[] 0)) _ _ (by simp)).trans (show (w.heap.push _)[w.heap.size]? = _ from Array.getElem?_push_size)
  have HW1 := Lib.hid hw1
  have HB1 := Lib.hid hb1
  have HN1 := Lib.hid hn1
  have HM1 := Lib.hid hM1
  have hmm := @run_makeMap Tryz.prog
  clear ht hk hw1 hb1 hn1 hM1
  go_enter Tryz.func19, Tryz.ntmps19
  go_wp2_with fail
  rw [HW1.out]
  go_loopg [14] 2 (fun gk v wr => (gk = 2 ∧ v = .int .i64 0 ∧ wr = w1 ∨ gk = 1 ∧ v = .int .i64 1 ∧ (∃ fv, Dn wr w.heap.size (w.heap.size + 1) T K w.heap.size 1 fv) ∧ Below w.heap.size w wr) ∨ gk = 0 ∧ v = .int .i64 2 ∧ Below w.heap.size w wr)
  case atStart => exact Or.inl (Or.inl ⟨rfl, rfl, rfl⟩)
  case round =>
    obtain (⟨rfl, rfl, rfl⟩ | ⟨rfl, rfl, ⟨fv, hn⟩, hb⟩) | ⟨rfl, rfl, hb⟩ := hrel
    · have C1 := refS HN1.out.dw
      go_wp2_with fail
      refine C1.mono ?_
      rintro e w2 ⟨rfl, hb2⟩
      clear C1
      have hM2 : w2.heap[w.heap.size]? = some (.map #[] 0) := (hb2.block _ (Array.getElem?_eq_some_iff.1 HM1.out).1).trans HM1.out
      have C2 := noteS (HN1.out.of hb2) hM2 (by omega)
      have HB2 := Lib.hid (HB1.out.trans (hb2.mono HB1.out.size))
      clear hb2 hM2
      go_wp2_with fail
      refine C2.mono ?_
      rintro e w3 ⟨rfl, hn3, hb3⟩
      clear C2
      have HN3 := Lib.hid hn3
      have HB3 := Lib.hid (HB2.out.trans hb3)
      clear hn3 hb3
      go_wp2_with fail
      go_roundg 1
      case measure => omega
      case rel => exact Or.inl (Or.inr ⟨rfl, by first | rfl | trivial, HN3.out, HB3.out⟩)
    · have C1 := refT hn.dw
      have HNn := Lib.hid hn
      have HBn := Lib.hid hb
      clear hn hb
      go_wp2_with fail
      refine C1.mono ?_
      rintro e w2 ⟨rfl, hb2⟩
      clear C1
      have C2 := noteT (HNn.out.of hb2) (by omega)
      have HB2 := Lib.hid (HBn.out.trans (hb2.mono HBn.out.size))
      clear hb2
      go_wp2_with fail
      refine C2.mono ?_
      rintro e w3 ⟨rfl, hn3, hb3⟩
      clear C2
      have HB3 := Lib.hid (HB2.out.trans hb3)
      clear hn3 hb3
      go_wp2_with fail
      go_roundg 0
      case measure => omega
      case rel => exact Or.inr ⟨rfl, by first | rfl | trivial, HB3.out⟩
    · have HBn := Lib.hid hb
      clear hb
      go_wp2_with fail
      go_ret
      exact ⟨rfl, HBn.out⟩
end Sto
end Go.Proofs.YtjkpailkamafcaaGreatDoor
