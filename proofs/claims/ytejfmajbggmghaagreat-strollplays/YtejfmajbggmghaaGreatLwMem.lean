/-
  Rows of entries and of ints as the laws read them; the laws' entries and sight.
-/
import Derived.Test.YtejfmajbggmghaaGreatEnMem
import Derived.Deep.CutRange
import Derived.Deep.RegionHeld3
namespace Go.Proofs.YtejfmajbggmghaaGreat
open Go.RowKit Go.WideShapes

/-- Entries in a slice. -/
def SlE (w : World) (a : Option Addr) (n cap : Nat) (es : List En) : Prop := n = es.length ∧ n ≤ cap ∧ ∃ ge, (0 < n → a = some ⟨ge, 0, none⟩ ∧ ge < w.heap.size) ∧ Ro w ge n cap es
theorem Es.sl {w : World} {v : Value} {es : List En} (h : Es w v es) : ∃ a cap, v = .slice a es.length cap ∧ SlE w a es.length cap es := by
  obtain ⟨a, cap, ge, e, hp, hr⟩ := h.open
  exact ⟨a, cap, e, rfl, hr.le, ge, fun h0 => ⟨(hp h0).1, h.lt ge (hp h0).2.1⟩, hr⟩
theorem SlE.below {w w' : World} {a : Option Addr} {n cap : Nat} {es : List En} (h : SlE w a n cap es) (hb : Below w.heap.size w w') : SlE w' a n cap es := by
  obtain ⟨h1, h2, ge, h3, h4⟩ := h
  refine ⟨h1, h2, ge, fun h0 => ⟨(h3 h0).1, Nat.lt_of_lt_of_le (h3 h0).2 hb.size⟩, ?_⟩
  have key : ∀ n', n' < n → ∀ o, w'.cell? ⟨ge, o, none⟩ = w.cell? ⟨ge, o, none⟩ := fun n' hn o => hb.cell (p := ⟨ge, o, none⟩) (h3 (by omega)).2
  exact ⟨h4.le, fun n hn => (key n hn _).trans (h4.c0 n hn), fun n hn => (key n hn _).trans (h4.c1 n hn), fun n hn => (key n hn _).trans (h4.c2 n hn), fun n hn => (key n hn _).trans (h4.c3 n hn), fun n hn => (key n hn _).trans (h4.c4 n hn)⟩
/-- Ints in a slice. -/
def SlN (w : World) (a : Option Addr) (n cap : Nat) (f : Nat → Int) : Prop := n ≤ cap ∧ ∃ b, (0 < n → a = some ⟨b, 0, none⟩ ∧ b < w.heap.size) ∧ ∀ j, j < n → w.cell? ⟨b, j, none⟩ = some (.int .i64 (f j))
theorem SlN.below {w w' : World} {a : Option Addr} {n cap : Nat} {f : Nat → Int} (h : SlN w a n cap f) (hb : Below w.heap.size w w') : SlN w' a n cap f := by
  obtain ⟨h2, b, h3, h4⟩ := h
  exact ⟨h2, b, fun h0 => ⟨(h3 h0).1, Nat.lt_of_lt_of_le (h3 h0).2 hb.size⟩, fun j hj => (hb.cell (p := ⟨b, j, none⟩) (h3 (by omega)).2).trans (h4 j hj)⟩
/-- What Sight tells. -/
def siV (log width : Int) (ca : Option Addr) (cn cc : Nat) (ea : Option Addr) (en ec : Nat) (live births made : Int) : Value :=
  .agg #[.int .i64 log, .int .i64 width, .slice ca cn cc, .slice ea en ec, .int .i64 live, .int .i64 births, .int .i64 made]
/-- The first n of these ints. -/
def il (n : Nat) (f : Nat → Int) : List Value := (List.range n).map fun j => Value.int .i64 (f j)
theorem il_len (n : Nat) (f : Nat → Int) : (il n f).length = n := by simp [il]
theorem il_get (n : Nat) (f : Nat → Int) (j : Nat) (hj : j < n) : (il n f)[j]? = some (.int .i64 (f j)) := by simp [il, hj]
theorem il_one (n : Nat) (f : Nat → Int) : ∀ u ∈ il n f, u.oneCell' = true := by
  intro u hu
  simp [il] at hu
  obtain ⟨j, _, rfl⟩ := hu
  rfl
theorem own_sln {B : Nat} {w : World} {v : Value} {n : Nat} {f : Nat → Int} (h : w.ownsRow B 3 1 v n (il n f)) : ∃ a cap, v = .slice a n cap ∧ SlN w a n cap f := by
  rcases h.2 with ⟨rfl, rfl⟩ | ⟨g, cap, cur, rfl, _, hh, hc, _⟩
  · exact ⟨none, 0, rfl, Nat.le_refl _, 0, fun h => by omega, fun j h => by omega⟩
  · exact ⟨_, cap, rfl, hc, g, fun _ => ⟨rfl, (Array.getElem?_eq_some_iff.1 hh).1⟩, fun j hj => by rw [h.cellAt j (by omega), il_get _ _ _ hj]⟩
theorem SlN.same {w w' : World} {a : Option Addr} {n cap B : Nat} {f : Nat → Int} (h : w.ownsRow B 3 1 (.slice a n cap) n (il n f)) (e : ∀ k, B ≤ k → k < w.heap.size → w'.heap[k]? = w.heap[k]?) (hs : w.heap.size ≤ w'.heap.size) : SlN w' a n cap f := by
  rcases h.2 with ⟨h1, h2⟩ | ⟨g, cap', cur, h1, hg, hh, hc, _⟩
  · cases h1; exact ⟨Nat.le_refl _, 0, fun h => by omega, fun j h => by omega⟩
  · cases h1
    have lg := (Array.getElem?_eq_some_iff.1 hh).1
    exact ⟨hc, g, fun _ => ⟨rfl, by omega⟩, fun j hj => (World.cell?_of_block (a := ⟨g, j, none⟩) (e g hg lg)).trans (by rw [h.cellAt j (by omega), il_get _ _ _ hj])⟩
end Go.Proofs.YtejfmajbggmghaaGreat
