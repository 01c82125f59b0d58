/-
  Check, Size and Depth of the document's example.
-/
import Derived.Test.YtfcgogpnbmikmaaGreatDoorNdCheck
namespace Go.Proofs.YtfcgogpnbmikmaaGreatDoor
open Go.RowKit Go.WideShapes
namespace Nd
open Lx

/-- The example as a tree. -/
def tN : Tr := .mk 31 0 ⟨#[97]⟩ false [] 0 (fun _ => .no)
def tE : Tr := .mk 3 0 ⟨#[]⟩ false [] 1 (fun _ => tN)
def tB : Tr := .mk 2 0 ⟨#[]⟩ false [] 1 (fun _ => tE)
def tM : Tr := .mk 1 0 ⟨#[]⟩ false [] 1 (fun _ => tB)
theorem ex_fl {w : World} {x1 x2 x3 x4 : Nv} (h : Ex4 w x1 x2 x3 x4) : Fl w (fun b => b < w.heap.size) tM x1 0 [(0, x1), (1, x2), (2, x3), (3, x4)] := by
  obtain ⟨e4, ⟨b3, e3, h3⟩, ⟨b2, e2, h2⟩, ⟨b1, e1, h1⟩⟩ := h
  have f4 : Fl w (fun b => b < w.heap.size) tN x4 3 [(3, x4)] := Fl.mk (ys := fun _ => x4) (Ls := fun _ => []) (b := 0) (off := 0) (by rw [e4]) ⟨_, _, _, by rw [e4]⟩ (fun h => absurd h (by omega)) (fun i hi => absurd hi (by omega)) (fun i hi => absurd hi (by omega))
  have f3 : Fl w (fun b => b < w.heap.size) tE x3 2 [(2, x3), (3, x4)] := Fl.mk (ys := fun _ => x4) (Ls := fun _ => [(3, x4)]) (b := b3) (off := 0) (by rw [e3]) ⟨_, _, _, by rw [e3]⟩ (fun _ => ⟨rfl, h3.lt⟩) (fun i hi => by rw [show i = 0 by omega]; exact h3) (fun i _ => f4)
  have f2 : Fl w (fun b => b < w.heap.size) tB x2 1 [(1, x2), (2, x3), (3, x4)] := Fl.mk (ys := fun _ => x3) (Ls := fun _ => [(2, x3), (3, x4)]) (b := b2) (off := 0) (by rw [e2]) ⟨_, _, _, by rw [e2]⟩ (fun _ => ⟨rfl, h2.lt⟩) (fun i hi => by rw [show i = 0 by omega]; exact h2) (fun i _ => f3)
  exact Fl.mk (ys := fun _ => x2) (Ls := fun _ => [(1, x2), (2, x3), (3, x4)]) (b := b1) (off := 0) (by rw [e1]) ⟨_, _, _, by rw [e1]⟩ (fun _ => ⟨rfl, h1.lt⟩) (fun i hi => by rw [show i = 0 by omega]; exact h1) (fun i _ => f2)
def exA (x1 x2 x3 x4 : Nv) : Nat → Nat × Nv
  | 0 => (0, x1)
  | 1 => (1, x2)
  | 2 => (2, x3)
  | _ => (3, x4)
theorem exA_get (x1 x2 x3 x4 : Nv) : ∀ j, j < [(0, x1), (1, x2), (2, x3), (3, x4)].length → [(0, x1), (1, x2), (2, x3), (3, x4)][j]? = some (exA x1 x2 x3 x4 j)
  | 0, _ => rfl
  | 1, _ => rfl
  | 2, _ => rfl
  | 3, _ => rfl
  | j + 4, h => absurd h (by simp)
theorem check_ex {w : World} {x1 x2 x3 x4 : Nv} (h : Ex4 w x1 x2 x3 x4) : Calls Tryz.prog 9 #[x1.v] w fun e w' => e = .returned (.int .i64 0) ∧ Below w.heap.size w w' := by
  refine check_ok w (ex_fl h) (fun b hb => hb) (by simp) (exA x1 x2 x3 x4) (exA_get x1 x2 x3 x4) (fun j hj => ?_) ?_ (fun j hj => ?_)
  · simp at hj
    rcases (by omega : j = 0 ∨ j = 1 ∨ j = 2 ∨ j = 3) with rfl | rfl | rfl | rfl <;> simp [exA]
  · obtain ⟨_, _, _, ⟨b1, e1, _⟩⟩ := h
    rw [e1]
  · have hh := h
    obtain ⟨e4, ⟨b3, e3, h3⟩, ⟨b2, e2, h2⟩, ⟨b1, e1, h1⟩⟩ := h
    simp at hj
    rcases (by omega : j = 0 ∨ j = 1 ∨ j = 2 ∨ j = 3) with rfl | rfl | rfl | rfl
    · exact ⟨⟨_, _, _, _, _, _, by show x1.mv = _; rw [e1], by show x1.kv = _; rw [e1]⟩, fun V hV => ex_shape (hh.below hV) x1 (Or.inl rfl)⟩
    · exact ⟨⟨_, _, _, _, _, _, by show x2.mv = _; rw [e2], by show x2.kv = _; rw [e2]⟩, fun V hV => ex_shape (hh.below hV) x2 (Or.inr (Or.inl rfl))⟩
    · exact ⟨⟨_, _, _, _, _, _, by show x3.mv = _; rw [e3], by show x3.kv = _; rw [e3]⟩, fun V hV => ex_shape (hh.below hV) x3 (Or.inr (Or.inr (Or.inl rfl)))⟩
    · exact ⟨⟨_, _, _, _, _, _, by show x4.mv = _; rw [e4], by show x4.kv = _; rw [e4]⟩, fun V hV => ex_shape (hh.below hV) x4 (Or.inr (Or.inr (Or.inr rfl)))⟩
theorem size_ex {w : World} {x1 x2 x3 x4 : Nv} (h : Ex4 w x1 x2 x3 x4) : Calls Tryz.prog 11 #[x1.v] w fun e w' => e = .returned (.int .i64 4) ∧ Below w.heap.size w w' :=
  size_any w (ex_fl h) (fun b hb => hb) (by simp)
theorem depth_ex {w : World} {x1 x2 x3 x4 : Nv} (h : Ex4 w x1 x2 x3 x4) : Calls Tryz.prog 10 #[x1.v] w fun e w' => e = .returned (.int .i64 4) ∧ Below w.heap.size w w' := by
  refine depth_any w (ex_fl h) (fun b hb => hb) (by simp) (exA x1 x2 x3 x4) (exA_get x1 x2 x3 x4) (fun j hj => ?_)
  simp at hj
  rcases (by omega : j = 0 ∨ j = 1 ∨ j = 2 ∨ j = 3) with rfl | rfl | rfl | rfl <;> simp [exA]
end Nd
end Go.Proofs.YtfcgogpnbmikmaaGreatDoor
