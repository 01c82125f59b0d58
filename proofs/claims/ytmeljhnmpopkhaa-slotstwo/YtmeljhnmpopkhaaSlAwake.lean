/-
  What the document fixes of slots.
-/
import Derived.Test.YtmeljhnmpopkhaaSlAdd2
namespace Go.Proofs.Ytmeljhnmpopkhaa
open Go.RowKit Go.WideShapes

set_option maxRecDepth 100000 in
theorem awake11_any (w : World) : Calls Try.prog 7 #[] w fun e w' => e = .returned (.bool true) ∧ Below w.heap.size w w' := by
  have C1 := new_b w
  go_enter Try.func7, Try.ntmps7
  go_wp2_with fail
  refine C1.mono ?_
  rintro e w1 ⟨rfl, h1, b1⟩
  clear C1
  have C2 := add_b h1 b1.size (by simp) 7
  rw [show ((low [] : Nat) : Int) = 0 from rfl] at C2
  clear h1
  go_wp2_with fail
  refine C2.mono ?_
  rintro e w2 ⟨rfl, h2, b2⟩
  clear C2
  have B2 := b1.trans b2
  have C3 := add_b h2 B2.size (by simp [addS, low]) 8
  rw [show ((low (addS [] 7) : Nat) : Int) = 1 from rfl] at C3
  clear h2 b1 b2
  go_wp2_with fail
  refine C3.mono ?_
  rintro e w3 ⟨rfl, h3, b3⟩
  clear C3
  have B3 := B2.trans b3
  have C4 := free_b h3 B3.size 0
  rw [show isT (addS (addS [] 7) 8) 0 = true from rfl] at C4
  clear h3 b3 B2
  go_wp2_with fail
  refine C4.mono ?_
  rintro e w4 ⟨rfl, h4, b4⟩
  clear C4
  have B4 := B3.trans b4
  rw [show freeS (addS (addS [] 7) 8) 0 = [⟨false, 0⟩, ⟨true, 8⟩] from rfl] at h4
  have C5 := add_b h4 B4.size (by simp) 9
  rw [show ((low [⟨false, 0⟩, ⟨true, 8⟩] : Nat) : Int) = 0 from rfl] at C5
  clear h4 b4 B3
  go_wp2_with fail
  refine C5.mono ?_
  rintro e w5 ⟨rfl, h5, b5⟩
  clear C5
  have B5 := B4.trans b5
  rw [show addS [⟨false, 0⟩, ⟨true, 8⟩] 9 = [⟨true, 9⟩, ⟨true, 8⟩] from rfl] at h5
  have C6 := len_b h5
  rw [show ((cntS [⟨true, 9⟩, ⟨true, 8⟩] : Nat) : Int) = 2 from rfl] at C6
  clear b5 B4
  go_wp2_with fail
  refine C6.mono ?_
  rintro e w6 ⟨rfl, m, rfl⟩
  clear C6
  have C7 := high_b (h5.drewN m)
  rw [show (([(⟨true, 9⟩ : So), ⟨true, 8⟩].length : Nat) : Int) = 2 from rfl] at C7
  clear h5
  have B6 : Hid (Below w.heap.size w (w5.drewN m)) := by
    show Below _ _ _
    clear C7
    induction m with
    | zero => exact B5
    | succ m ih => exact ih.drew
  clear B5
  generalize w5.drewN m = w6 at *
  go_wp2_with fail
  refine C7.mono ?_
  rintro e w7 ⟨rfl, rfl⟩
  clear C7
  go_wp2
  go_ret
  exact ⟨rfl, B6.out⟩
end Go.Proofs.Ytmeljhnmpopkhaa
