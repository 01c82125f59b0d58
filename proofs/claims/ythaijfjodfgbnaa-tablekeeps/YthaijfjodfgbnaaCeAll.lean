/-
  All of cells.
-/
import Derived.Test.YthaijfjodfgbnaaCeCopy
namespace Go.Proofs.Ythaijfjodfgbnaa
open Go.RowKit Go.WideShapes

/-- What All hands out: a copy's each. -/
def itv (L r : Nat) : Value := .func (.method "lexicon/cells.each") #[.iface (rty L) (.pointer (some ⟨r, 0, none⟩))] #[]
theorem allM_any {w : World} {g r h L S : Nat} {f : Nat → Int} (hC : Cl w g r h L S f) : Calls Try.prog 17 #[.pointer (some ⟨g, 0, none⟩)] w fun e w' => ∃ r' h' cap', e = .returned (itv L r') ∧ w.heap.size ≤ r' ∧ w.heap.size ≤ h' ∧ Rw w' r' h' (kd L) (wd L) S cap' f ∧ Below w.heap.size w w' := by
  have C1 := isNone_cl hC
  have C2 := row_copied hC.rw (by have := hC.sz.pos; omega) hC.sz.most
  have h1 := hC.c1
  have hm := fun w => m_copied L (some ⟨r, 0, none⟩) w
  have he := e_copied L
  have hmf : ∀ (fn : Fn) (first cap : Array Value) (w : World), (Instr.makeFunc fn first cap).run Try.prog w = .ok (.func fn first cap) w := fun _ _ _ _ => rfl
  unfold itv
  clear hC
  generalize copiedF L = Y at *
  generalize rty L = T at *
  generalize kd L = K0 at *
  generalize wd L = W0 at *
  go_enter Try.func17, Try.ntmps17
  go_wp2_with fail
  refine C1.mono ?_
  rintro e w1 ⟨rfl, rfl⟩
  clear C1
  go_wp2_with fail
  refine C2.mono ?_
  rintro e w2 ⟨r', h', cap', rfl, h2, h3, hR, hB⟩
  clear C2
  go_wp2
  go_ret
  exact ⟨_, _, _, rfl, h2, h3, hR, hB⟩
end Go.Proofs.Ythaijfjodfgbnaa
