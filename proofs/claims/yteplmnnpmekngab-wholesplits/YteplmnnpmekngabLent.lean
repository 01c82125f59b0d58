/-
  The statements' helpers: lent, spoil, back.
-/
import Derived.Test.YteplmnnpmekngabRMul
import Derived.Deep.CutRange
namespace Go.Proofs.Yteplmnnpmekngab
open Go.RowKit

/-- Words with 77 behind them, in a row of their own. -/
structure LentAt (B : Nat) (w : World) (g : Nat) (n cap : Nat) (xs : List Nat) : Prop where
  len : xs.length = n
  room : n + 1 ≤ cap
  ge : B ≤ g
  seg : Seg .u32 w g 0 (xs ++ [77])
theorem LentAt.below {B : Nat} {w w' : World} {g n cap : Nat} {xs : List Nat} (h : LentAt B w g n cap xs) (hb : Below w.heap.size w w') : LentAt B w' g n cap xs :=
  ⟨h.len, h.room, h.ge, h.seg.below hb (h.seg.lt (by simp))⟩
theorem LentAt.sl {B : Nat} {w : World} {g n cap : Nat} {xs : List Nat} (h : LentAt B w g n cap xs) : Sl .u32 w (.slice (some ⟨g, 0, none⟩) n cap) xs := by
  refine ⟨some ⟨g, 0, none⟩, cap, by rw [h.len], by rw [h.len]; have := h.room; omega, fun _ => ⟨g, 0, rfl, ?_⟩⟩
  have := h.seg.take n
  rwa [← h.len, List.take_left'  rfl] at this
theorem LentAt.last {B : Nat} {w : World} {g n cap : Nat} {xs : List Nat} (h : LentAt B w g n cap xs) : w.cell? ⟨g, n, none⟩ = some (.int .u32 77) := by
  have := h.seg n (by simp [h.len])
  rw [Nat.zero_add] at this
  rw [this, ← h.len, List.getElem?_concat_length]
  rfl
theorem LentAt.of_row {B : Nat} {w : World} {v : Value} {xs : List Nat} (h : Words B w v (xs ++ [77])) : ∃ g cap, v = .slice (some ⟨g, 0, none⟩) (xs.length + 1) cap ∧ xs.length + 1 ≤ cap ∧ LentAt B w g xs.length cap xs := by
  have ho := h.ow
  rcases h.2 with ⟨rfl, h0⟩ | ⟨g, cap, cur, e, hB, hh, hc, _⟩
  · simp at h0
  · have el : (xs ++ [77]).length = xs.length + 1 := by simp
    rw [el] at e hc
    subst e
    obtain ⟨b, off, hp, _, sg, _⟩ := ho.place
    obtain ⟨e2, _⟩ := hp (by simp)
    injection e2 with e2
    injection e2 with e3 e4
    subst e3; subst e4
    exact ⟨g, cap, rfl, hc, rfl, hc, hB, sg⟩

theorem LentAt.set {B : Nat} {w : World} {g n cap : Nat} {xs : List Nat} (h : LentAt B w g n cap xs) {p : Addr} (hne : p.block ≠ g) (v : Value) : LentAt B (w.setCell p v) g n cap xs :=
  ⟨h.len, h.room, h.ge, fun j hj => by rw [World.cell?_setCell_other _ _ _ _ (fun e => hne (by rw [e]))]; exact h.seg j hj⟩
theorem Box2.setOther {w : World} {N : Nat} {neg : Bool} {a : Option Addr} {n cap : Nat} (h : Box2 w N neg a n cap) {p : Addr} (hne : p.block ≠ N) (v : Value) : Box2 (w.setCell p v) N neg a n cap := by
  have o : ∀ j, (w.setCell p v).cell? ⟨N, j, none⟩ = w.cell? ⟨N, j, none⟩ := fun j => World.cell?_setCell_other _ _ _ _ (fun e => hne (by rw [e]))
  have f : ∀ j, (w.setCell p v).frozen? ⟨N, j, none⟩ = w.frozen? ⟨N, j, none⟩ := fun j => World.frozen?_setCell _ _ _ _
  exact ⟨(o 0).trans h.c0, (o 1).trans h.c1, (f 0).trans h.f0, (f 1).trans h.f1⟩

theorem sameB_self (na : Bool) (xs : List Nat) : sameB na na xs xs = true := by simp [sameB]

end Go.Proofs.Yteplmnnpmekngab
