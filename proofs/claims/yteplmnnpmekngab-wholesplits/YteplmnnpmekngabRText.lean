/-
  The reference: Text.
-/
import Derived.Deep.CutBlock
import Derived.Test.YteplmnnpmekngabMulAdd
import Derived.Test.YteplmnnpmekngabRMade
namespace Go.Proofs.Yteplmnnpmekngab
open Go.RowKit

theorem words_ne_bytes {B C : Nat} {w : World} {v u : Value} {xs ts : List Nat} (hw : Words B w v xs) (hb : Bytes C w u ts) (g : Nat) (hg : v.ownBlock = some g) : u.ownBlock ≠ some g := fun e => by
  obtain ⟨c, fz, h1⟩ := Go.Lib.ownsRow_kind hw g hg
  obtain ⟨c', fz', h2⟩ := Go.Lib.ownsRow_kind hb g e
  rw [h1] at h2
  injection h2 with h2
  injection h2 with _ h2
  exact absurd h2 (by decide)
theorem Bytes.setWord {B C : Nat} {w : World} {g n c : Nat} {u : Value} {xs ts : List Nat} (hw : Words B w (.slice (some ⟨g, 0, none⟩) n c) xs) (hb : Bytes C w u ts) (j : Nat) (v : Value) : Bytes C (w.setCell ⟨g, j, none⟩ v) u ts :=
  ownsRow_setCell_other hb (words_ne_bytes hw hb g rfl) v
theorem Bytes.nil (B : Nat) (w : World) : Bytes B w (.slice none 0 0) [] := ⟨rfl, Or.inl ⟨rfl, rfl⟩⟩
theorem Bytes.below {B : Nat} {w w' : World} {v : Value} {ts : List Nat} (h : Bytes B w v ts) (hb : Below w.heap.size w w') : Bytes B w' v ts := by
  refine ⟨h.1, ?_⟩
  rcases h.2 with h2 | ⟨g, cap, cur, e, hB, hh, h3⟩
  · exact Or.inl h2
  · exact Or.inr ⟨g, cap, cur, e, hB, (hb.block g (Array.getElem?_eq_some_iff.1 hh).1).trans hh, h3⟩

theorem Words.lower {B B' : Nat} {w : World} {v : Value} {xs : List Nat} (h : Words B w v xs) (hB : B' ≤ B) : Words B' w v xs :=
  ⟨h.1, h.2.imp id fun ⟨g, cap, cur, e, hg, r⟩ => ⟨g, cap, cur, e, Nat.le_trans hB hg, r⟩⟩
theorem Words.tt {B C : Nat} {w w' : World} {v : Value} {xs : List Nat} (h : Words B w v xs) (ht : TextTurn C w w') : Words B w' v xs := by
  refine ⟨h.1, ?_⟩
  rcases h.2 with h2 | ⟨g, cap, cur, e, hg, hh, r⟩
  · exact Or.inl h2
  · refine Or.inr ⟨g, cap, cur, e, hg, (ht.block g (Array.getElem?_eq_some_iff.1 hh).1 (Or.inr fun c f e => ?_)).trans hh, r⟩
    rw [hh] at e
    injection e with e
    injection e with _ e
    exact absurd e (by decide)
theorem nine_step {vX vm vz r : Nat} {ts : List Nat} (hr : r < 1000000000) (od : okd ts) (hX : vX = dval ts + 10 ^ ts.length * vm) (hm : vm = vz * 1000000000 + r) (h0 : 0 < vm) :
    vz < vm ∧ vX = dval (ts ++ dg9 9 r) + 10 ^ (ts ++ dg9 9 r).length * vz ∧ okd (ts ++ dg9 9 r) ∧ ((ts ++ dg9 9 r).length ≤ 9 ∨ 10 ^ ((ts ++ dg9 9 r).length - 9) ≤ vX) := by
  refine ⟨by omega, ?_, okd_append.2 ⟨od, okd_dg9 _ _⟩, Or.inr ?_⟩
  · have := pieces_val (ps := [r]) (k := 1) (vy := vz) rfl (by simpa using hr) hX (by simp [pval]; omega)
    simpa [dgs] using this
  · rw [List.length_append, dg9_length, Nat.add_sub_cancel, hX]
    have : 10 ^ ts.length * 1 ≤ 10 ^ ts.length * vm := Nat.mul_le_mul_left _ h0
    omega

end Go.Proofs.Yteplmnnpmekngab
