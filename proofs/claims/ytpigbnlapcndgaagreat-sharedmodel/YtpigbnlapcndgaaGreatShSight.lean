/-
  Sights and pairs, told and compared by the law.
-/
import Derived.Test.YtpigbnlapcndgaaGreatShPairs2
import Derived.Test.YtpigbnlapcndgaaGreatDtSight
import Derived.Test.YtpigbnlapcndgaaGreatStEq
namespace Go.Proofs.YtpigbnlapcndgaaGreat
open Go.RowKit Go.WideShapes

theorem SgV.keep {B B' : Nat} {w w' : World} {t : Tb} {hc : Nat} {ev' : Value} (h : SgV B w t hc ev') (hB : B' ≤ B) (e : ∀ k, B ≤ k → w'.heap[k]? = w.heap[k]?) : SgV B' w' t hc ev' := by
  refine ⟨h.row.same (e _ h.hB), ?_, Nat.le_trans hB h.hB, h.ne⟩
  have h1 := h.es.es.same (w' := w') (fun k hk => e k (h.es.ge k hk))
  have h2 := h.es.ge
  refine ⟨h1.1, ?_⟩
  rcases h1.2 with h0 | ⟨g, cap, cur, e', q1, q2⟩
  · exact .inl h0
  · exact .inr ⟨g, cap, cur, e', Nat.le_trans hB (h2 g (by rw [e']; rfl)), q2⟩
end Go.Proofs.YtpigbnlapcndgaaGreat
