/-
  awake: Build of its two terms.
-/
import Derived.Test.YtjkpailkamafcaaGreatDoorStoBd3
import Derived.Test.YtjkpailkamafcaaGreatDoorStoAw5
namespace Go.Proofs.YtjkpailkamafcaaGreatDoor
open Go.RowKit Go.WideShapes

namespace Sto
/-- What Build leaves. -/
def BdP (w : World) (g : Nat) (p h : Int) (pm : Option Addr) (e : Ending) (w' : World) : Prop := ∃ b T K r c q t m rv, e = .returned (.tuple #[.slice (some ⟨r, 0, none⟩) 2 c, .int .i64 0]) ∧ B2 w' b g T K r c q t m rv p h pm ∧ Ex (fun k => k = g) w w'
set_option maxRecDepth 100000 in
theorem Build_any {w : World} {g T K : Nat} {h : Int} {pm : Option Addr} (ht : Blk w T 16 (tF K)) (hk : Blk w K 2 (fun _ => .int .i64 0)) (H : St w g [] (.slice none 0 0) none 0 10 h pm) (ne : T ≠ g ∧ K ≠ g) :
    Calls Tryz.prog 6 #[.pointer (some ⟨g, 0, none⟩), .slice (some ⟨T, 0, none⟩) 2 2] w (BdP w g 10 h pm) := by
  have g5 : w.cell? ⟨g, 5, none⟩ = some (.int .i64 10) := H.b.c 5 (by omega)
  have C1 := refuse_any ht hk
  have hq : (binOp .eql 26 (.pointer (some ⟨g, 0, none⟩)) (.pointer none)).run Tryz.prog w = .ok (.bool false) w := by kernel_rfl
  have hmm := @run_makeMap Tryz.prog
  have lT := ht.lt (by omega)
  have lK := hk.lt (by omega)
  have lg := H.lt
  have HT := Lib.hid ht
  have HK := Lib.hid hk
  have HS := Lib.hid H
  clear ht hk H
  go_enter Tryz.func6, Tryz.ntmps6
  go_wp2_with fail
  refine C1.mono ?_
  rintro e w1 ⟨rfl, hb1⟩
  clear C1
  obtain ⟨w2, hw2⟩ : ∃ V, (w1.alloc (.map #[] 0)).alloc (.cells #[.pointer (some ⟨g, 0, none⟩), .slice (some ⟨T, 0, none⟩) 2 2, .slice none 0 0, .map (some w1.heap.size)] 79) = V := ⟨_, rfl⟩
  have hs1 := hb1.size
  have hb2 : Below w.heap.size w w2 := by rw [← hw2]; exact (hb1.alloc hs1 _).alloc (by simp; omega) _
  have hB : Blk w2 (w1.heap.size + 1) 4 (bF g T w1.heap.size (.slice none 0 0)) := by
    rw [← hw2]
    have hB := Blk.new (w1.alloc (.map #[] 0)) #[.pointer (some ⟨g, 0, none⟩), .slice (some ⟨T, 0, none⟩) 2 2, .slice none 0 0, .map (some w1.heap.size)] 79
    rw [show (w1.alloc (.map #[] 0)).heap.size = w1.heap.size + 1 by simp] at hB
    exact hB
  have C2 := build_any hB (HT.out.of hb2 (by omega)) (HK.out.of hb2 (by omega)) (HS.out.of hb2) ⟨by omega, ne.1, ne.2, by omega, by omega⟩
  have HB2 := Lib.hid hb2
  have HW2 := Lib.hid hw2
  have HS1 := Lib.hid hs1
  clear hb1 hb2 hB hw2 hs1
  go_upto_region 7 with fail
  rw [HW2.out]
  go_wp2_with fail
  refine C2.mono ?_
  rintro e w3 ⟨r, c, q, t, m, rv, rfl, h3, hx3⟩
  clear C2
  have H3 := Lib.hid h3
  have HX3 := Lib.hid hx3
  clear h3 hx3
  go_wp2_with fail
  go_ret2
  refine ⟨_, _, _, r, c, q, t, m, rv, rfl, H3.out, (ex_of HB2.out).next HX3.out (fun k hk hX => ?_)⟩
  rcases hX with e | e
  · exact e
  · have := HS1.out
    omega
end Sto
end Go.Proofs.YtjkpailkamafcaaGreatDoor
