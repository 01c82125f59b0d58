/-
  The reference: trim, made, Form, long.
-/
import Derived.Test.YteplmnnpmekngabHeld
namespace Go.Proofs.Yteplmnnpmekngab
open Go.RowKit

/-- Words in a row of their own, from block B on. -/
def Words (B : Nat) (w : World) (v : Value) (ts : List Nat) : Prop := w.ownsRow B 52 1 v ts.length (ts.map fun x : Nat => Value.int .u32 (x : Int))
theorem Words.ow {B : Nat} {w : World} {v : Value} {ts : List Nat} (h : Words B w v ts) : Ow .u32 B w v ts := ow_of_row h
theorem Words.alloc {B : Nat} {w : World} {v : Value} {ts : List Nat} (h : Words B w v ts) (o : Obj) : Words B (w.alloc o) v ts := World.ownsRow.alloc h o
theorem Words.nil (B : Nat) (w : World) : Words B w (.slice none 0 0) [] := ⟨rfl, Or.inl ⟨rfl, rfl⟩⟩

/-- Nothing is appended: a slice that points nowhere, whatever its capacity. -/
theorem run_append_nothing (w : World) (c : Nat) : (Builtin.append_ #[22, 22] 22 #[.slice none 0 0, .slice none 0 c]).run Try.prog w = .ok (.slice none 0 0) w := by
  obtain ⟨i0, hi, hz0, hz1, hz2⟩ := info_parts Try.infoWord
  simp [Builtin.append_, run_underlying Try.underlying22, sizeOf, typeInfo, hi, Builtin.lenOf, Builtin.firstCells]

theorem rtrim_fin {xs : List Nat} {w w1 : World} {v v' : Value} {m : Nat} {ys : List Nat} (hv : v = .slice none 0 0) (hm : m = ys.length) (hys : ys = trimL xs) (h1 : w1.ownsRow w.heap.size 52 1 v' (0 + m) ([] ++ ys.map fun x : Nat => Value.int .u32 (x : Int))) (h2 : w.grownBy w1 v.ownBlock) (h3 : v' = .slice none 0 0 ↔ v = .slice none 0 0 ∧ m = 0) :
    Hid (Words w.heap.size w1 v' (trimL xs) ∧ (trimL xs = [] → v' = .slice none 0 0) ∧ Below w.heap.size w w1) := by
  subst hys; subst hm; subst hv
  show _ ∧ _ ∧ _
  refine ⟨?_, fun h => h3.2 ⟨rfl, ?_⟩, (Below.refl w.heap.size w).grown h2 (Nat.le_refl _) (fun k e => by cases e)⟩
  · unfold Words; simpa using h1
  · rw [h]; rfl

end Go.Proofs.Yteplmnnpmekngab
