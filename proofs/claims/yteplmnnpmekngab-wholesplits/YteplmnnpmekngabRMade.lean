/-
  The reference: made, Form, Negate, long, kept.
-/
import Derived.Test.YteplmnnpmekngabRTrim
namespace Go.Proofs.Yteplmnnpmekngab
open Go.RowKit

theorem long_iff {xs : List Nat} (ox : okw xs) : decide (256 < tl xs xs.length) = decide (pw 256 ≤ val xs) := by
  have h := len_le_iff (Tr_trimL xs) (okw_trimL ox) 256
  rw [trimL_length, val_trimL] at h
  simp only [decide_eq_decide]
  omega

theorem IntIs.open {B : Nat} {w : World} {neg : Bool} {a : Option Addr} {n c : Nat} {z : Int} (h : IntIs B w (.agg #[.bool neg, .slice a n c]) z) : ∃ xs, Ow .u32 B w (.slice a n c) xs ∧ okw xs ∧ Fm neg xs ∧ zv neg (val xs) = z := by
  obtain ⟨_, _, _, _, xs, e, ho, ok, t, hn, hz'⟩ := h
  cases e
  exact ⟨xs, ho, ok, ⟨t, fun h => (hn h).1⟩, hz'.symm⟩

end Go.Proofs.Yteplmnnpmekngab
