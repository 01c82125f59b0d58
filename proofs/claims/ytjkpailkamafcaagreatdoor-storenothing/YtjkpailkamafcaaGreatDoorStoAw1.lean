/-
  awake: what a str of one letter is, as a term.
-/
import Derived.Test.YtjkpailkamafcaaGreatDoorStoSt
import Derived.Laws.RangeString
import Derived.Laws.RangeAny
import Derived.LoopTactic
namespace Go.Proofs.YtjkpailkamafcaaGreatDoor
open Go.RowKit Go.WideShapes

namespace Sto
theorem built4 (w : World) : Calls Tryz.prog 58 #[.int .i64 4] w fun e w' => e = .returned (.bool true) ∧ w' = w := by
  go_enter Tryz.func58, Tryz.ntmps58
  go_wp2
  go_ret
  exact ⟨rfl, rfl⟩
theorem built5 (w : World) : Calls Tryz.prog 58 #[.int .i64 5] w fun e w' => e = .returned (.bool true) ∧ w' = w := by
  go_enter Tryz.func58, Tryz.ntmps58
  go_wp2
  go_ret
  exact ⟨rfl, rfl⟩
/-- The two terms. -/
def tS : Value := .agg #[.int .i64 4, .bool false, .bool false, .slice none 0 0, .string ⟨#[97]⟩, .slice none 0 0, .bool false, .bool false]
def tT (K : Nat) : Value := .agg #[.int .i64 5, .bool false, .bool false, .slice none 0 0, .string ⟨#[]⟩, .slice (some ⟨K, 0, none⟩) 2 2, .bool false, .bool false]
theorem keyS (w : World) : Calls Tryz.prog 62 #[tS] w fun e w' => e = .returned (.bool true) ∧ Below w.heap.size w w' := by
  unfold tS
  go_enter Tryz.func62, Tryz.ntmps62
  go_wp2
  go_ret
  exact ⟨rfl, (Below.refl _ _).alloc (Nat.le_refl _) _⟩
theorem keyT (w : World) (K : Nat) : Calls Tryz.prog 62 #[tT K] w fun e w' => e = .returned (.bool false) ∧ Below w.heap.size w w' := by
  unfold tT
  go_enter Tryz.func62, Tryz.ntmps62
  go_wp2
  go_ret
  exact ⟨rfl, (Below.refl _ _).alloc (Nat.le_refl _) _⟩
set_option maxRecDepth 100000 in
theorem validA (w : World) : Calls Tryz.prog 129 #[.string ⟨#[97]⟩] w fun e w' => e = .returned (.bool true) ∧ w' = w := by
  go_enter Tryz.func129, Tryz.ntmps129
  go_wp2
  go_loopg [0] 1 (fun gk v wr => (gk = 1 ∧ v = .string ⟨#[97]⟩ ∨ gk = 0 ∧ v = .string ⟨#[]⟩) ∧ wr = w)
  case atStart => exact ⟨Or.inl ⟨rfl, rfl⟩, rfl⟩
  case round =>
    obtain ⟨⟨rfl, rfl⟩ | ⟨rfl, rfl⟩, rfl⟩ := hrel
    · go_wp2_with fail
      go_roundg 0
      case measure => omega
      case rel => exact ⟨Or.inr ⟨rfl, by first | rfl | trivial⟩, by first | rfl | trivial⟩
    · go_wp2_with fail
      go_ret
      exact ⟨rfl, rfl⟩
theorem goodA (w : World) : Calls Tryz.prog 99 #[.string ⟨#[97]⟩] w fun e w' => e = .returned (.bool true) ∧ w' = w := by
  have C := validA w
  go_enter Tryz.func99, Tryz.ntmps99
  go_wp2_with fail
  refine C.mono ?_
  rintro e w' ⟨rfl, rfl⟩
  clear C
  go_wp2
  go_ret
  exact ⟨rfl, rfl⟩
set_option maxRecDepth 100000 in
theorem lenA (w : World) : Calls Tryz.prog 22 #[.string ⟨#[97]⟩] w fun e w' => e = .returned (.int .i64 1) ∧ Below w.heap.size w w' := by
  have hp : 0 < (ByteArray.mk #[97]).size := by decide
  have hd : Utf8.decode ⟨#[97]⟩ 0 = (97, 1) := by decide
  have h1 : ∀ ty, (Instr.next (.pointer (some ⟨w.heap.size, 0, none⟩)) true ty).run Tryz.prog (w.iter ⟨#[97]⟩ 0) = _ := fun ty => run_next_any w ⟨#[97]⟩ 0 ty hp
  have h2 : ∀ ty, (Instr.next (.pointer (some ⟨w.heap.size, 0, none⟩)) true ty).run Tryz.prog (w.iter ⟨#[97]⟩ 1) = _ := fun ty => run_next_end w ⟨#[97]⟩ 1 ty (by decide)
  rw [hd] at h1
  go_enter Tryz.func22, Tryz.ntmps22
  go_wp2
  go_loopg [3] 1 (fun gk v wr => (gk = 1 ∧ v = .int .i64 0 ∧ wr = w.iter ⟨#[97]⟩ 0) ∨ (gk = 0 ∧ v = .int .i64 1 ∧ wr = w.iter ⟨#[97]⟩ 1))
  case atStart => exact Or.inl ⟨rfl, rfl, rfl⟩
  case round =>
    obtain ⟨rfl, rfl, rfl⟩ | ⟨rfl, rfl, rfl⟩ := hrel
    · go_wp2_with fail
      go_roundg 0
      case measure => omega
      case rel => exact Or.inr ⟨rfl, by first | rfl | trivial, by first | rfl | trivial⟩
    · go_wp2_with fail
      go_ret
      exact ⟨rfl, (Below.refl _ _).alloc (Nat.le_refl _) _⟩
end Sto
end Go.Proofs.YtjkpailkamafcaaGreatDoor
