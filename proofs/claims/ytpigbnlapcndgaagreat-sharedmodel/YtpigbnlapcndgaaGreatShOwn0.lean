/-
  What SharedOwn looks at while three of the answers are written over.
-/
import Derived.Test.YtpigbnlapcndgaaGreatShStrs
import Derived.Test.YtpigbnlapcndgaaGreatSaw
namespace Go.Proofs.YtpigbnlapcndgaaGreat
open Go.RowKit Go.WideShapes

/-- A row of one's own, laid open. -/
theorem own_at {w : World} {B n size cap : Nat} {e : TypeId} {aa : Option Addr} {xs : List Value} (h : w.ownsRow B e size (.slice aa n cap) n xs) (hn : 0 < n) : ∃ g, aa = some ⟨g, 0, none⟩ ∧ (∀ j, j < n * size → ∃ u, w.cell? ⟨g, j, none⟩ = some u) ∧ ∀ j, w.frozen? ⟨g, j, none⟩ = false := by
  have h0 := h
  rcases h.2 with ⟨h1, h2⟩ | ⟨g, cap', cur, h1, _⟩
  · omega
  · injection h1 with h1 _ h3
    subst h1
    refine ⟨g, rfl, fun j hj => ?_, fun j => h0.frozenAt j⟩
    rw [h0.cellAt j hj]
    have : j < xs.length := by rw [h.1]; exact hj
    exact ⟨xs[j], List.getElem?_eq_getElem this⟩
theorem own_lower {w : World} {B B' n size : Nat} {e : TypeId} {v : Value} {xs : List Value} (h : w.ownsRow B e size v n xs) (hb : B' ≤ B) : w.ownsRow B' e size v n xs := h.mono hb
/-- The three that are written over. -/
structure O3 (w10 : World) (X : Nat → Prop) (B : Nat) (va vc ve : Value) (la lc le : Nat) (wr : World) : Prop where
  a : ∃ xs, wr.ownsRow B 48 2 va la xs
  c : ∃ xs, wr.ownsRow B 9 1 vc lc xs
  e : ∃ es, es.length = le ∧ Es wr ve es
  ex : Ex X w10 wr
/-- A cell of the pairs is written. -/
theorem O3.setA {w10 wr : World} {X : Nat → Prop} {B : Nat} {vc ve : Value} {la lc le g cap : Nat} (h : O3 w10 X B (.slice (some ⟨g, 0, none⟩) la cap) vc ve la lc le wr) (hX : X g) (nc : vc.ownBlock ≠ some g) (ne : ve.ownBlock ≠ some g) (j : Nat) (u : Value) : O3 w10 X B (.slice (some ⟨g, 0, none⟩) la cap) vc ve la lc le (wr.setCell ⟨g, j, none⟩ u) := by
  obtain ⟨⟨xs, h1⟩, ⟨ys, h2⟩, ⟨es, h3, h4⟩, h5⟩ := h
  exact ⟨⟨_, (h1.stored j u).1⟩, ⟨ys, own_same2 h2 fun k hk => Below.heap_setCell _ _ _ _ (fun e => nc (by rw [hk, e]))⟩, ⟨es, h3, h4.same fun k hk => Below.heap_setCell _ _ _ _ (fun e => ne (by rw [hk, e]))⟩, h5.setCell (p := ⟨g, j, none⟩) (fun _ => hX) _⟩
theorem O3.setC {w10 wr : World} {X : Nat → Prop} {B : Nat} {va ve : Value} {la lc le g cap : Nat} (h : O3 w10 X B va (.slice (some ⟨g, 0, none⟩) lc cap) ve la lc le wr) (hX : X g) (na : va.ownBlock ≠ some g) (ne : ve.ownBlock ≠ some g) (j : Nat) (u : Value) : O3 w10 X B va (.slice (some ⟨g, 0, none⟩) lc cap) ve la lc le (wr.setCell ⟨g, j, none⟩ u) := by
  obtain ⟨⟨xs, h1⟩, ⟨ys, h2⟩, ⟨es, h3, h4⟩, h5⟩ := h
  exact ⟨⟨xs, own_same2 h1 fun k hk => Below.heap_setCell _ _ _ _ (fun e => na (by rw [hk, e]))⟩, ⟨_, (h2.stored j u).1⟩, ⟨es, h3, h4.same fun k hk => Below.heap_setCell _ _ _ _ (fun e => ne (by rw [hk, e]))⟩, h5.setCell (p := ⟨g, j, none⟩) (fun _ => hX) _⟩
/-- An entry's five cells, set. -/
def setW5 (w : World) (ge n : Nat) (e : En) : World := ((((w.setCell ⟨ge, n * 5, none⟩ (.bool e.live)).setCell ⟨ge, n * 5 + 1, none⟩ (.int .i64 e.hash)).setCell ⟨ge, n * 5 + 2, none⟩ (.int .i64 e.key)).setCell ⟨ge, n * 5 + 3, none⟩ (.int .i64 e.value)).setCell ⟨ge, n * 5 + 4, none⟩ (.int .i64 e.birth)
theorem setW5_but (w : World) (ge n : Nat) (e : En) : But ge w (setW5 w ge n e) := by
  unfold setW5
  exact (((((But.refl ge w).setCell _ _).setCell _ _).setCell _ _).setCell _ _).setCell _ _
theorem Es.setW5 {w : World} {ge cap : Nat} {es : List En} (h : Es w (.slice (some ⟨ge, 0, none⟩) es.length cap) es) (n : Nat) (hn : n < es.length) (e : En) : Es (setW5 w ge n e) (.slice (some ⟨ge, 0, none⟩) es.length cap) (es.set n e) := by
  have e0 : Es (w.setCell ⟨ge, n * 5 + 0, none⟩ (.bool e.live)) (.slice (some ⟨ge, 0, none⟩) es.length cap) (es.set n ⟨e.live, (nth es n).hash, (nth es n).key, (nth es n).value, (nth es n).birth⟩) := Es.put rfl h n 0 hn (by decide) (.bool e.live) _ rfl rfl
  have sh : ∀ (es : List En) (e : En), n < es.length → nth (es.set n e) n = e := fun es e h => by rw [nth_set h, if_pos rfl]
  have e1 := Es.put (by simp) e0 n 1 (by simpa using hn) (by decide) (.int .i64 e.hash) ⟨e.live, e.hash, (nth es n).key, (nth es n).value, (nth es n).birth⟩ (by rw [sh _ _ hn]; rfl) rfl
  rw [List.set_set] at e1
  have e2 := Es.put (by simp) e1 n 2 (by simpa using hn) (by decide) (.int .i64 e.key) ⟨e.live, e.hash, e.key, (nth es n).value, (nth es n).birth⟩ (by rw [sh _ _ hn]; rfl) rfl
  rw [List.set_set] at e2
  have e3 := Es.put (by simp) e2 n 3 (by simpa using hn) (by decide) (.int .i64 e.value) ⟨e.live, e.hash, e.key, e.value, (nth es n).birth⟩ (by rw [sh _ _ hn]; rfl) rfl
  rw [List.set_set] at e3
  have e4 := Es.put (by simp) e3 n 4 (by simpa using hn) (by decide) (.int .i64 e.birth) e (by rw [sh _ _ hn]; rfl) rfl
  rw [List.set_set, Nat.add_zero] at e4
  exact e4
theorem O3.setE {w10 wr : World} {X : Nat → Prop} {B : Nat} {va vc : Value} {la lc le g cap : Nat} (h : O3 w10 X B va vc (.slice (some ⟨g, 0, none⟩) le cap) la lc le wr) (hX : X g) (na : va.ownBlock ≠ some g) (nc : vc.ownBlock ≠ some g) (j : Nat) (hj : j < le) (x : En) : O3 w10 X B va vc (.slice (some ⟨g, 0, none⟩) le cap) la lc le (setW5 wr g j x) := by
  obtain ⟨⟨xs, h1⟩, ⟨ys, h2⟩, ⟨es, rfl, h4⟩, h5⟩ := h
  have hb := setW5_but wr g j x
  have h6 := h4.setW5 j hj x
  refine ⟨⟨xs, own_same2 h1 fun k hk => hb.block k (World.ownsRow.lt h1 k hk).2 (fun e => na (by rw [hk, e]))⟩, ⟨ys, own_same2 h2 fun k hk => hb.block k (World.ownsRow.lt h2 k hk).2 (fun e => nc (by rw [hk, e]))⟩, ⟨es.set j x, by rw [List.length_set], h6⟩, h5.next hb.ex (fun k _ hk => by rw [hk]; exact hX)⟩
end Go.Proofs.YtpigbnlapcndgaaGreat
