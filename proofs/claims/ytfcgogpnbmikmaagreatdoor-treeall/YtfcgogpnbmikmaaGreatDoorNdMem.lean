/-
  Trees in memory.
-/
import Derived.Test.YtfcgogpnbmikmaaGreatDoorLxMem
import Derived.Deep.RegionHeld3
namespace Go.Proofs.YtfcgogpnbmikmaaGreatDoor
open Go.RowKit Go.WideShapes
namespace Nd
open Lx

/-- A tree: kind, place, text, sign and words of a number, kids. -/
inductive Tr where
  | mk (k a : Int) (s : ByteArray) (neg : Bool) (mg : List Nat) (n : Nat) (kid : Nat → Tr)
  | no
/-- A node as a value: its kids are a slice. -/
structure Nv where
  k : Int
  a : Int
  s : ByteArray
  neg : Bool
  mv : Value
  kv : Value
instance : Inhabited Nv := ⟨⟨0, 0, ⟨#[]⟩, false, .nilFunc, .nilFunc⟩⟩
def Nv.v (x : Nv) : Value := .agg #[.int .i64 x.k, .int .i64 x.a, .string x.s, .bool x.neg, x.mv, x.kv]
def Nv.c (x : Nv) : List Value := [.int .i64 x.k, .int .i64 x.a, .string x.s, .bool x.neg, x.mv, x.kv]
/-- Six cells that hold a node. -/
structure At (w : World) (b o : Nat) (x : Nv) : Prop where
  c0 : w.cell? ⟨b, o, none⟩ = some (.int .i64 x.k)
  c1 : w.cell? ⟨b, o + 1, none⟩ = some (.int .i64 x.a)
  c2 : w.cell? ⟨b, o + 2, none⟩ = some (.string x.s)
  c3 : w.cell? ⟨b, o + 3, none⟩ = some (.bool x.neg)
  c4 : w.cell? ⟨b, o + 4, none⟩ = some x.mv
  c5 : w.cell? ⟨b, o + 5, none⟩ = some x.kv
theorem At.same {w w' : World} {b o : Nat} {x : Nv} (h : At w b o x) (e : w'.heap[b]? = w.heap[b]?) : At w' b o x := by
  have k : ∀ j, w'.cell? ⟨b, j, none⟩ = w.cell? ⟨b, j, none⟩ := fun j => World.cell?_of_block (a := ⟨b, j, none⟩) e
  exact ⟨(k _).trans h.c0, (k _).trans h.c1, (k _).trans h.c2, (k _).trans h.c3, (k _).trans h.c4, (k _).trans h.c5⟩
theorem At.lt {w : World} {b o : Nat} {x : Nv} (h : At w b o x) : b < w.heap.size := lt_of_cell h.c0
/-- Words that can be read. -/
def Mg (w : World) (ok : Nat → Prop) (mv : Value) (mg : List Nat) : Prop := ∃ a c, mv = .slice a mg.length c ∧ mg.length ≤ c ∧ (a = none → c = 0) ∧ ∃ b off, (0 < mg.length → a = some ⟨b, off, none⟩ ∧ ok b) ∧ ∀ j, j < mg.length → w.cell? ⟨b, off + j, none⟩ = some (.int .u32 ((mg.getD j 0 : Nat) : Int))
theorem Mg.same {w w' : World} {ok : Nat → Prop} {mv : Value} {mg : List Nat} (h : Mg w ok mv mg) (e : ∀ b, ok b → w'.heap[b]? = w.heap[b]?) : Mg w' ok mv mg := by
  obtain ⟨a, c, h1, h2, h3, b, off, h4, h5⟩ := h
  exact ⟨a, c, h1, h2, h3, b, off, h4, fun j hj => (World.cell?_of_block (a := ⟨b, off + j, none⟩) (e b (h4 (by omega)).2)).trans (h5 j hj)⟩
/-- A tree that can be read, in blocks of ok. -/
def Rd (w : World) (ok : Nat → Prop) : Tr → Nv → Prop
  | .mk k a s neg mg n kid, x => x.k = k ∧ x.a = a ∧ x.s = s ∧ x.neg = neg ∧ Mg w ok x.mv mg ∧ ∃ ka kc, x.kv = .slice ka n kc ∧ n ≤ kc ∧ ∃ b off, (0 < n → ka = some ⟨b, off, none⟩ ∧ ok b) ∧ ∃ ys : Nat → Nv, ∀ i, i < n → At w b (off + i * 6) (ys i) ∧ Rd w ok (kid i) (ys i)
  | .no, _ => False
theorem Rd.same {w w' : World} {ok : Nat → Prop} (e : ∀ b, ok b → w'.heap[b]? = w.heap[b]?) : ∀ {t : Tr} {x : Nv}, Rd w ok t x → Rd w' ok t x := by
  intro t
  induction t with
  | mk k a s neg mg n kid ih =>
    rintro x ⟨h1, h2, h3, h4, h5, ka, kc, h6, h7, b, off, h8, ys, h9⟩
    exact ⟨h1, h2, h3, h4, h5.same e, ka, kc, h6, h7, b, off, h8, ys, fun i hi => ⟨(h9 i hi).1.same (e b (h8 (by omega)).2), ih i (h9 i hi).2⟩⟩
  | no => exact fun h => h.elim
theorem Mg.mono {w : World} {ok ok' : Nat → Prop} {mv : Value} {mg : List Nat} (h : Mg w ok mv mg) (e : ∀ b, ok b → ok' b) : Mg w ok' mv mg := by
  obtain ⟨a, c, h1, h2, h3, b, off, h4, h5⟩ := h
  exact ⟨a, c, h1, h2, h3, b, off, fun h0 => ⟨(h4 h0).1, e b (h4 h0).2⟩, h5⟩
theorem Rd.mono {w : World} {ok ok' : Nat → Prop} (e : ∀ b, ok b → ok' b) : ∀ {t : Tr} {x : Nv}, Rd w ok t x → Rd w ok' t x := by
  intro t
  induction t with
  | mk k a s neg mg n kid ih =>
    rintro x ⟨h1, h2, h3, h4, h5, ka, kc, h6, h7, b, off, h8, ys, h9⟩
    exact ⟨h1, h2, h3, h4, h5.mono e, ka, kc, h6, h7, b, off, fun h0 => ⟨(h8 h0).1, e b (h8 h0).2⟩, ys, fun i hi => ⟨(h9 i hi).1, ih i (h9 i hi).2⟩⟩
  | no => exact fun h => h.elim
/-- Sums. -/
def sm : Nat → (Nat → Nat) → Nat
  | 0, _ => 0
  | n + 1, f => sm n f + f n
theorem sm_le (f : Nat → Nat) : ∀ {m n : Nat}, m ≤ n → sm m f ≤ sm n f
  | m, 0, h => by
    have h0 : m = 0 := by omega
    rw [h0]
    exact Nat.le_refl _
  | m, n + 1, h => by
    rcases Nat.lt_or_ge n m with z | z
    · obtain rfl : m = n + 1 := by omega
      exact Nat.le_refl _
    · have := sm_le f (m := m) (n := n) z
      simp only [sm]
      omega
theorem sm_get (f : Nat → Nat) {i n : Nat} (h : i < n) : f i ≤ sm n f := by
  have := sm_le f (m := i + 1) (n := n) h
  simp only [sm] at this
  omega
theorem sm_ge (f : Nat → Nat) (hf : ∀ i, 1 ≤ f i) : ∀ n, n ≤ sm n f
  | 0 => Nat.le_refl _
  | n + 1 => by have := sm_ge f hf n; have := hf n; simp only [sm]; omega
/-- How many nodes, letters and words a tree has. -/
def wt : Tr → Nat
  | .mk _ _ s _ mg n kid => 1 + s.size + mg.length + sm n (fun i => wt (kid i))
  | .no => 1
theorem wt_pos : ∀ t, 1 ≤ wt t
  | .mk _ _ _ _ _ _ _ => by simp only [wt]; omega
  | .no => Nat.le_refl _
/-- Sizes that can be. -/
def Sz : Tr → Prop
  | .mk _ _ s _ mg n kid => s.size ≤ 281474976710656 ∧ mg.length ≤ 281474976710656 ∧ n ≤ 281474976710656 ∧ ∀ i, i < n → Sz (kid i)
  | .no => True
end Nd
end Go.Proofs.YtfcgogpnbmikmaaGreatDoor
