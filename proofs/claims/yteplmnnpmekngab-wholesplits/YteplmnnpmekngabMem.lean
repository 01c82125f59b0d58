/-
  Rows of words in memory: what a slice holds, what is the call's own, and how that stands behind later steps. No program.
-/
import Derived.WalkKit
import Derived.Test.YteplmnnpmekngabNums
namespace Go.Proofs.Yteplmnnpmekngab
open Go.RowKit

/-- The cells at ⟨b, off⟩ hold these numbers. -/
def Seg (k : IntKind) (w : World) (b off : Nat) (xs : List Nat) : Prop :=
  ∀ j, j < xs.length → w.cell? ⟨b, off + j, none⟩ = some (.int k ((xs[j]?.getD 0 : Nat) : Int))
/-- None of the n cells at ⟨b, off⟩ is frozen. -/
def Free (w : World) (b off n : Nat) : Prop := ∀ j, j < n → w.frozen? ⟨b, off + j, none⟩ = false
/-- The slice v holds these numbers. -/
def Sl (k : IntKind) (w : World) (v : Value) (xs : List Nat) : Prop :=
  ∃ a cap, v = .slice a xs.length cap ∧ xs.length ≤ cap ∧ (xs ≠ [] → ∃ b off, a = some ⟨b, off, none⟩ ∧ Seg k w b off xs)
/-- .. in blocks from number B on, and may be written. -/
def Ow (k : IntKind) (B : Nat) (w : World) (v : Value) (xs : List Nat) : Prop :=
  ∃ a cap, v = .slice a xs.length cap ∧ xs.length ≤ cap ∧ (xs ≠ [] → ∃ b off, a = some ⟨b, off, none⟩ ∧ B ≤ b ∧ Seg k w b off xs ∧ Free w b off xs.length)
theorem Ow.sl {k : IntKind} {B : Nat} {w : World} {v : Value} {xs : List Nat} (h : Ow k B w v xs) : Sl k w v xs := by
  obtain ⟨a, cap, e, hc, h⟩ := h
  exact ⟨a, cap, e, hc, fun hn => by obtain ⟨b, off, e1, _, h2, _⟩ := h hn; exact ⟨b, off, e1, h2⟩⟩
theorem Ow.mono {k : IntKind} {B B' : Nat} {w : World} {v : Value} {xs : List Nat} (h : Ow k B w v xs) (hB : B' ≤ B) : Ow k B' w v xs := by
  obtain ⟨a, cap, e, hc, h⟩ := h
  exact ⟨a, cap, e, hc, fun hn => by obtain ⟨b, off, e1, h1, h2⟩ := h hn; exact ⟨b, off, e1, by omega, h2⟩⟩
theorem lt_of_cell {w : World} {b o : Nat} {v : Value} (h : w.cell? ⟨b, o, none⟩ = some v) : b < w.heap.size := by
  unfold World.cell? at h
  split at h
  · rename_i c e f hb
    exact (Array.getElem?_eq_some_iff.1 hb).1
  · simp at h
theorem Seg.lt {k : IntKind} {w : World} {b off : Nat} {xs : List Nat} (h : Seg k w b off xs) (hn : xs ≠ []) : b < w.heap.size := by
  have : 0 < xs.length := List.length_pos_iff.2 hn
  exact lt_of_cell (h 0 this)
theorem Seg.below {k : IntKind} {B : Nat} {w w' : World} {b off : Nat} {xs : List Nat} (h : Seg k w b off xs) (hb : Below B w w') (hlt : b < B) : Seg k w' b off xs :=
  fun j hj => (hb.cell (p := ⟨b, off + j, none⟩) hlt).trans (h j hj)
theorem Free.below {B : Nat} {w w' : World} {b off n : Nat} (h : Free w b off n) (hb : Below B w w') (hlt : b < B) : Free w' b off n :=
  fun j hj => (hb.frozen (p := ⟨b, off + j, none⟩) hlt).trans (h j hj)
theorem Sl.below {k : IntKind} {w w' : World} {v : Value} {xs : List Nat} (h : Sl k w v xs) (hb : Below w.heap.size w w') : Sl k w' v xs := by
  obtain ⟨a, cap, e, hc, h⟩ := h
  refine ⟨a, cap, e, hc, fun hn => ?_⟩
  obtain ⟨b, off, e1, h1⟩ := h hn
  exact ⟨b, off, e1, h1.below hb (h1.lt hn)⟩
theorem Ow.below {k : IntKind} {B : Nat} {w w' : World} {v : Value} {xs : List Nat} (h : Ow k B w v xs) (hb : Below w.heap.size w w') : Ow k B w' v xs := by
  obtain ⟨a, cap, e, hc, h⟩ := h
  refine ⟨a, cap, e, hc, fun hn => ?_⟩
  obtain ⟨b, off, e1, hB, h1, h2⟩ := h hn
  exact ⟨b, off, e1, hB, h1.below hb (h1.lt hn), h2.below hb (h1.lt hn)⟩
theorem Sl_nil (k : IntKind) (w : World) (a : Option Addr) (cap : Nat) : Sl k w (.slice a 0 cap) [] := ⟨a, cap, rfl, by simp, fun h => absurd rfl h⟩
theorem Ow_nil (k : IntKind) (B : Nat) (w : World) (a : Option Addr) (cap : Nat) : Ow k B w (.slice a 0 cap) [] := ⟨a, cap, rfl, by simp, fun h => absurd rfl h⟩
theorem Seg.take {k : IntKind} {w : World} {b off : Nat} {xs : List Nat} (h : Seg k w b off xs) (m : Nat) : Seg k w b off (xs.take m) := by
  intro j hj
  have hj' : j < m ∧ j < xs.length := by simpa [List.length_take, Nat.lt_min] using hj
  rw [h j hj'.2, List.getElem?_take_of_lt hj'.1]
theorem Free.le {w : World} {b off n m : Nat} (h : Free w b off n) (hm : m ≤ n) : Free w b off m := fun j hj => h j (by omega)
/-- A store into the row. -/
theorem Seg.set {k : IntKind} {w : World} {b off : Nat} {xs : List Nat} (h : Seg k w b off xs) (i : Nat) (hi : i < xs.length) (v : Nat) :
    Seg k (w.setCell ⟨b, off + i, none⟩ (.int k (v : Int))) b off (xs.set i v) := by
  intro j hj
  rw [List.length_set] at hj
  by_cases hij : j = i
  · subst hij
    rw [World.cell?_setCell_same' _ _ _ (by rw [h j hj]; rfl)]
    simp [hj]
  · rw [World.cell?_setCell_other _ _ _ _ (by intro e; injection e with e1 e2; omega), h j hj, List.getElem?_set_ne (by omega)]
theorem Free.set {w : World} {b off n : Nat} (h : Free w b off n) (p : Addr) (v : Value) : Free (w.setCell p v) b off n := by
  intro j hj
  rw [World.frozen?_setCell]
  exact h j hj
/-- Adr: an address in words: 'none' where there is nothing. -/
theorem Sl.cases {k : IntKind} {w : World} {v : Value} {xs : List Nat} (h : Sl k w v xs) :
    (xs = [] ∧ ∃ a cap, v = .slice a 0 cap) ∨ (xs ≠ [] ∧ ∃ b off cap, v = .slice (some ⟨b, off, none⟩) xs.length cap ∧ xs.length ≤ cap ∧ Seg k w b off xs ∧ b < w.heap.size) := by
  obtain ⟨a, cap, e, hc, h⟩ := h
  by_cases hn : xs = []
  · subst hn; exact Or.inl ⟨rfl, a, cap, e⟩
  · obtain ⟨b, off, e1, h1⟩ := h hn
    subst e1
    exact Or.inr ⟨hn, b, off, cap, e, hc, h1, h1.lt hn⟩
theorem Ow.cases {k : IntKind} {B : Nat} {w : World} {v : Value} {xs : List Nat} (h : Ow k B w v xs) :
    (xs = [] ∧ ∃ a cap, v = .slice a 0 cap) ∨ (xs ≠ [] ∧ ∃ b off cap, v = .slice (some ⟨b, off, none⟩) xs.length cap ∧ xs.length ≤ cap ∧ B ≤ b ∧ Seg k w b off xs ∧ Free w b off xs.length ∧ b < w.heap.size) := by
  obtain ⟨a, cap, e, hc, h⟩ := h
  by_cases hn : xs = []
  · subst hn; exact Or.inl ⟨rfl, a, cap, e⟩
  · obtain ⟨b, off, e1, hB, h1, h2⟩ := h hn
    subst e1
    exact Or.inr ⟨hn, b, off, cap, e, hc, hB, h1, h2, h1.lt hn⟩
/-- A cut at the front of what a slice holds. -/
theorem Sl.take {k : IntKind} {w : World} {a : Option Addr} {n cap : Nat} {xs : List Nat} (h : Sl k w (.slice a n cap) xs) (m : Nat) (hm : m ≤ xs.length) : Sl k w (.slice a m cap) (xs.take m) := by
  obtain ⟨a', cap', e, hc, h⟩ := h
  injection e with e1 e2 e3
  subst e1; subst e3
  refine ⟨a, cap, by simp; omega, by simp; omega, fun hn => ?_⟩
  obtain ⟨b, off, e1, h1⟩ := h (by intro h0; subst h0; simp at hn)
  exact ⟨b, off, e1, h1.take m⟩
theorem Ow.take {k : IntKind} {B : Nat} {w : World} {a : Option Addr} {n cap : Nat} {xs : List Nat} (h : Ow k B w (.slice a n cap) xs) (m : Nat) (hm : m ≤ xs.length) : Ow k B w (.slice a m cap) (xs.take m) := by
  obtain ⟨a', cap', e, hc, h⟩ := h
  injection e with e1 e2 e3
  subst e1; subst e3
  refine ⟨a, cap, by simp; omega, by simp; omega, fun hn => ?_⟩
  obtain ⟨b, off, e1, hB, h1, h2⟩ := h (by intro h0; subst h0; simp at hn)
  exact ⟨b, off, e1, hB, h1.take m, h2.le (by simp; omega)⟩
theorem Sl.len {k : IntKind} {w : World} {a : Option Addr} {n cap : Nat} {xs : List Nat} (h : Sl k w (.slice a n cap) xs) : n = xs.length := by
  obtain ⟨a', cap', e, _⟩ := h
  injection e
theorem Ow.len {k : IntKind} {B : Nat} {w : World} {a : Option Addr} {n cap : Nat} {xs : List Nat} (h : Ow k B w (.slice a n cap) xs) : n = xs.length := h.sl.len
/-- What is owned in the kit's word is owned in ours. -/
theorem ow_of_row {w : World} {B e n : Nat} {v : Value} {xs : List Nat} {k : IntKind} (h : w.ownsRow B e 1 v n (xs.map fun x : Nat => Value.int k (x : Int))) : Ow k B w v xs := by
  have h1 := h.1
  simp at h1
  subst h1
  rcases h.2 with ⟨rfl, h0⟩ | ⟨g, cap, cur, rfl, hg, hh, hc, _, hs, ht⟩
  · obtain rfl : xs = [] := List.eq_nil_of_length_eq_zero h0
    exact Ow_nil _ _ _ _ _
  · refine ⟨_, cap, rfl, hc, fun hn => ⟨g, 0, rfl, hg, fun j hj => ?_, fun j _ => ?_⟩⟩
    · rw [Nat.zero_add, h.cellAt j (by omega)]
      simp [hj]
    · rw [Nat.zero_add]; exact h.frozenAt j
end Go.Proofs.Yteplmnnpmekngab
