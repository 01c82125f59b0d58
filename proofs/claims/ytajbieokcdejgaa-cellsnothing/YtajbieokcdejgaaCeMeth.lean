/-
  Bytes and All of cells.
-/
import Derived.Test.YtajbieokcdejgaaCeBytes8
import Derived.Test.YtajbieokcdejgaaCeBytes16
import Derived.Test.YtajbieokcdejgaaCeBytes32
import Derived.Test.YtajbieokcdejgaaCeLoad8
import Derived.Test.YtajbieokcdejgaaCeLoad16
import Derived.Test.YtajbieokcdejgaaCeLoad32
import Derived.Test.YtajbieokcdejgaaCeCopy
namespace Go.Proofs.Ytajbieokcdejgaa
open Go.RowKit Go.WideShapes

theorem row_bytes {w : World} {r h S cap L : Nat} {f : Nat → Int} (hR : Rw w r h (kd L) (wd L) S cap f) (hS : S ≤ 1048576) :
    Calls Try.prog (bytesF L) #[.pointer (some ⟨r, 0, none⟩)] w fun e w' => ∃ v, e = .returned v ∧ Byt w.heap.size w' v (S * wd L) (bt (wd L) f) ∧ Below w.heap.size w w' := by
  rcases L_cases L with h1 | ⟨h1, h2⟩ | ⟨h1, h2⟩
  · rw [show wd L = 1 by simp [wd, h1]] at hR ⊢
    rw [show kd L = .i8 by simp [kd, h1]] at hR
    rw [show bytesF L = 55 by simp [bytesF, h1]]
    exact bytes8 hR hS
  · rw [show wd L = 2 by simp [wd, h1, h2]] at hR ⊢
    rw [show kd L = .i16 by simp [kd, h1, h2]] at hR
    rw [show bytesF L = 62 by simp [bytesF, h1, h2]]
    exact bytes16 hR hS
  · rw [show wd L = 4 by simp [wd, h1, h2]] at hR ⊢
    rw [show kd L = .i32 by simp [kd, h1, h2]] at hR
    rw [show bytesF L = 69 by simp [bytesF, h1, h2]]
    exact bytes32 hR hS
theorem row_load {w : World} {r h S cap L bb off bc : Nat} {f g : Nat → Int} (hR : Rw w r h (kd L) (wd L) S cap f) (hrh : r ≠ h) (hS0 : 0 < S) (hS : S ≤ 1048576) (hbh : bb ≠ h) (hbc : S * wd L ≤ bc)
    (hb : ∀ j, j < S * wd L → w.cell? ⟨bb, off + j, none⟩ = some (.int .u8 (g j))) (hg : ∀ j, j < S * wd L → 0 ≤ g j ∧ g j < 256) :
    Calls Try.prog (loadF L) #[.pointer (some ⟨r, 0, none⟩), .slice (some ⟨bb, off, none⟩) (S * wd L) bc] w fun e w' => e = .returned (.tuple #[]) ∧ Rw w' r h (kd L) (wd L) S cap (ld (wd L) g) ∧ But h w w' := by
  rcases L_cases L with h1 | ⟨h1, h2⟩ | ⟨h1, h2⟩
  · rw [show wd L = 1 by simp [wd, h1]] at hR hbc hb hg ⊢
    rw [show kd L = .i8 by simp [kd, h1]] at hR ⊢
    rw [show loadF L = 59 by simp [loadF, h1]]
    exact load8 hR hrh hS0 hS hbh hbc hb hg
  · rw [show wd L = 2 by simp [wd, h1, h2]] at hR hbc hb hg ⊢
    rw [show kd L = .i16 by simp [kd, h1, h2]] at hR ⊢
    rw [show loadF L = 66 by simp [loadF, h1, h2]]
    exact load16 hR hrh hS0 hS hbh hbc hb hg
  · rw [show wd L = 4 by simp [wd, h1, h2]] at hR hbc hb hg ⊢
    rw [show kd L = .i32 by simp [kd, h1, h2]] at hR ⊢
    rw [show loadF L = 73 by simp [loadF, h1, h2]]
    exact load32 hR hrh hS0 hS hbh hbc hb hg
theorem bytesM_any {w : World} {g r h L S : Nat} {f : Nat → Int} (hC : Cl w g r h L S f) : Calls Try.prog 14 #[.pointer (some ⟨g, 0, none⟩)] w fun e w' => ∃ v, e = .returned v ∧ Byt w.heap.size w' v (S * wd L) (bt (wd L) f) ∧ Below w.heap.size w w' := by
  have C1 := isNone_cl hC
  have C2 := row_bytes hC.rw hC.sz.most
  have h1 := hC.c1
  have hm := fun w => m_bytes L (some ⟨r, 0, none⟩) w
  have he := e_bytes L
  clear hC
  generalize bytesF L = Y at *
  generalize rty L = T at *
  generalize S * wd L = m at *
  generalize bt (wd L) f = b at *
  go_enter Try.func14, Try.ntmps14
  go_wp2_with fail
  refine C1.mono ?_
  rintro e w1 ⟨rfl, rfl⟩
  clear C1
  go_wp2_with fail
  refine C2.mono ?_
  rintro e w2 ⟨v, rfl, hb, hB⟩
  clear C2
  go_wp2
  go_ret
  exact ⟨_, rfl, hb, hB⟩
/-- What All hands out: a copy's each. -/
def itv (L r : Nat) : Value := .func (.method "lexicon/cells.each") #[.iface (rty L) (.pointer (some ⟨r, 0, none⟩))] #[]
theorem allM_any {w : World} {g r h L S : Nat} {f : Nat → Int} (hC : Cl w g r h L S f) : Calls Try.prog 16 #[.pointer (some ⟨g, 0, none⟩)] w fun e w' => ∃ r' h' cap', e = .returned (itv L r') ∧ w.heap.size ≤ r' ∧ w.heap.size ≤ h' ∧ Rw w' r' h' (kd L) (wd L) S cap' f ∧ Below w.heap.size w w' := by
  have C1 := isNone_cl hC
  have C2 := row_copied hC.rw (by have := hC.sz.pos; omega) hC.sz.most
  have h1 := hC.c1
  have hm := fun w => m_copied L (some ⟨r, 0, none⟩) w
  have he := e_copied L
  have hmf : ∀ (fn : Fn) (first cap : Array Value) (w : World), (Instr.makeFunc fn first cap).run Try.prog w = .ok (.func fn first cap) w := fun _ _ _ _ => rfl
  unfold itv
  clear hC
  generalize copiedF L = Y at *
  generalize rty L = T at *
  generalize kd L = K0 at *
  generalize wd L = W0 at *
  go_enter Try.func16, Try.ntmps16
  go_wp2_with fail
  refine C1.mono ?_
  rintro e w1 ⟨rfl, rfl⟩
  clear C1
  go_wp2_with fail
  refine C2.mono ?_
  rintro e w2 ⟨r', h', cap', rfl, h2, h3, hR, hB⟩
  clear C2
  go_wp2
  go_ret
  exact ⟨_, _, _, rfl, h2, h3, hR, hB⟩
end Go.Proofs.Ytajbieokcdejgaa
