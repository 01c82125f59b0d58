/-
  What the reference's escape, width and Unquote do.
-/
import Derived.Test.YtmckhkkbghihaaaDoorLeRefD
namespace Go.Proofs.YtmckhkkbghihaaaDoor
open Go.RowKit Go.Lib

theorem drop_get (l : List UInt8) (a k : Nat) : (l.drop a).getD k 0 = l.getD (a + k) 0 := by simp [List.getD, List.getElem?_drop]

/-- Do the first n bytes make one rune? -/
def oneAt (l : List UInt8) (n : Nat) : Prop := (rl (l.take n)).length = 1 ∧ mend (l.take n) = l.take n
theorem oneAt_iff (l : List UInt8) (n : Nat) (h0 : 1 ≤ n) (hn : n ≤ l.length) : oneAt l n ↔ (¬ bad l ∧ (decodeL l).2 = n) := by
  have hne : l ≠ [] := by intro h; subst h; simp at hn; omega
  constructor
  · rintro ⟨h1, h2⟩
    have htl : (l.take n).length = n := by rw [List.length_take]; omega
    have htne : l.take n ≠ [] := by intro h; rw [h] at htl; simp at htl; omega
    have hst := rl_step (l.take n) htne
    rw [hst, List.length_cons] at h1
    have hrest : rl ((l.take n).drop (decodeL (l.take n)).2) = [] := List.eq_nil_of_length_eq_zero (by omega)
    have hm : mend (l.take n) = enc (decodeL (l.take n)).1 := by
      unfold mend
      rw [hst, hrest]
      simp [encs]
    rw [hm] at h2
    have hr := decodeL_isRune (l.take n)
    have hl : l = enc (decodeL (l.take n)).1 ++ l.drop n := by rw [h2, List.take_append_drop]
    have hd := decode_enc _ hr (l.drop n)
    have hb := enc_not_bad _ hr (l.drop n)
    rw [← hl] at hd hb
    refine ⟨hb, ?_⟩
    rw [hd, h2, htl]
  · rintro ⟨hb, hw⟩
    have he := enc_decode l hne hb
    rw [hw] at he
    have hr := decodeL_isRune l
    have h1 : rl (l.take n) = [(decodeL l).1] := by
      have := rl_encs [(decodeL l).1] (by simpa using hr)
      rw [← he]
      simpa [encs] using this
    refine ⟨by rw [h1]; rfl, ?_⟩
    unfold mend
    rw [h1]
    simpa [encs] using he
/-- How many bytes the rune at the head has; 0: none begins there. -/
def wd (l : List UInt8) : Nat := if bad l then 0 else (decodeL l).2
theorem OwnB.below {B : Nat} {w w' : World} {v : Value} {bs : List UInt8} (h : OwnB B w v bs) (hb : Below w.heap.size w w') : OwnB B w' v bs := by
  refine ⟨h.1, ?_⟩
  rcases h.2 with h4 | ⟨g, cap, cur, e1, e2, e3, e4⟩
  · exact .inl h4
  · exact .inr ⟨g, cap, cur, e1, e2, (hb.block g (Array.getElem?_eq_some_iff.1 e3).1).trans e3, e4⟩

end Go.Proofs.YtmckhkkbghihaaaDoor
