/-
  The document's own signs.
-/
import Derived.Test.YtmckhkkbghihaaaDoorLxRf
import Derived.BigGuard
namespace Go.Proofs.YtmckhkkbghihaaaDoor
open Go.RowKit Go.WideShapes
namespace Lx

def signC : Array Value := #[.string ⟨#[61, 61]⟩, .string ⟨#[33, 61]⟩, .string ⟨#[60, 61]⟩, .string ⟨#[62, 61]⟩, .string ⟨#[43, 61]⟩, .string ⟨#[45, 61]⟩, .string ⟨#[42, 61]⟩, .string ⟨#[42, 42]⟩, .string ⟨#[47, 47, 61]⟩, .string ⟨#[47, 47]⟩, .string ⟨#[37, 61]⟩, .string ⟨#[38, 61]⟩, .string ⟨#[124, 61]⟩, .string ⟨#[94, 61]⟩, .string ⟨#[40]⟩, .string ⟨#[41]⟩, .string ⟨#[91]⟩, .string ⟨#[93]⟩, .string ⟨#[123]⟩, .string ⟨#[125]⟩, .string ⟨#[44]⟩, .string ⟨#[58]⟩, .string ⟨#[46]⟩, .string ⟨#[61]⟩, .string ⟨#[60]⟩, .string ⟨#[62]⟩, .string ⟨#[43]⟩, .string ⟨#[45]⟩, .string ⟨#[42]⟩, .string ⟨#[37]⟩, .string ⟨#[38]⟩, .string ⟨#[124]⟩, .string ⟨#[94]⟩]
theorem signs_len : signs.length = 33 := rfl
theorem signC_get (j : Nat) (hj : j < 33) : signC[j]? = some (.string ⟨(signs[j]'hj).toArray⟩) := by
  rcases (by omega : j = 0 ∨ j = 1 ∨ j = 2 ∨ j = 3 ∨ j = 4 ∨ j = 5 ∨ j = 6 ∨ j = 7 ∨ j = 8 ∨ j = 9 ∨ j = 10 ∨ j = 11 ∨ j = 12 ∨ j = 13 ∨ j = 14 ∨ j = 15 ∨ j = 16 ∨ j = 17 ∨ j = 18 ∨ j = 19 ∨ j = 20 ∨ j = 21 ∨ j = 22 ∨ j = 23 ∨ j = 24 ∨ j = 25 ∨ j = 26 ∨ j = 27 ∨ j = 28 ∨ j = 29 ∨ j = 30 ∨ j = 31 ∨ j = 32) with rfl | rfl | rfl | rfl | rfl | rfl | rfl | rfl | rfl | rfl | rfl | rfl | rfl | rfl | rfl | rfl | rfl | rfl | rfl | rfl | rfl | rfl | rfl | rfl | rfl | rfl | rfl | rfl | rfl | rfl | rfl | rfl | rfl <;> rfl
theorem signC_cell (w : World) (j : Nat) (hj : j < 33) : (w.alloc (.cells signC 9)).cell? ⟨w.heap.size, j, none⟩ = some (.string ⟨(signs[j]'hj).toArray⟩) := by
  rw [← signC_get j hj]
  exact cell_marked w signC 9 (0, 0) j
/-- It stands there. -/
def Pf (t r : List UInt8) : Prop := r.take t.length = t
theorem sign_short : ∀ t ∈ signs, 1 ≤ t.length ∧ t.length ≤ 3 := by decide
theorem sign_order : ∀ i, i < 33 → ∀ j, j < i → ¬ ((signs.getD j []).length < (signs.getD i []).length ∧ (signs.getD i []).take (signs.getD j []).length = signs.getD j []) := by decide
theorem pf_is {t r : List UInt8} (ht : t ∈ signs) (h : Pf t r) : isS (r.take t.length) = true := by unfold Pf at h; rw [h]; unfold isS; exact decide_eq_true ht
/-- The sign that is told is one, stands there, and is the longest. -/
theorem sgn_long (r t : List UInt8) (ht : t ∈ signs) (h : Pf t r) : sgn r ∈ signs ∧ Pf (sgn r) r ∧ t.length ≤ (sgn r).length := by
  have hs := sign_short t ht
  have hi := pf_is ht h
  have hl : t.length ≤ r.length := by
    have := congrArg List.length h
    rw [List.length_take] at this
    omega
  have mem : ∀ k, isS (r.take k) = true → r.take k ∈ signs := fun k hk => by unfold isS at hk; exact of_decide_eq_true hk
  have pf : ∀ k, Pf (r.take k) r := fun k => by
    unfold Pf
    rw [List.length_take]
    rcases Nat.le_total k r.length with z | z
    · rw [Nat.min_eq_left z]
    · rw [Nat.min_eq_right z, List.take_of_length_le (Nat.le_refl _), List.take_of_length_le z]
  unfold sgn
  split
  · rename_i h3
    refine ⟨mem 3 h3, pf 3, ?_⟩
    rw [List.length_take]
    omega
  · rename_i h3
    split
    · rename_i h2
      refine ⟨mem 2 h2, pf 2, ?_⟩
      rw [List.length_take]
      rcases (by omega : t.length = 1 ∨ t.length = 2 ∨ t.length = 3) with e | e | e
      · omega
      · omega
      · rw [e] at hi; exact absurd hi h3
    · rename_i h2
      have e1 : t.length = 1 := by
        rcases (by omega : t.length = 1 ∨ t.length = 2 ∨ t.length = 3) with e | e | e
        · exact e
        · rw [e] at hi; exact absurd hi h2
        · rw [e] at hi; exact absurd hi h3
      rw [e1] at hi
      rw [if_pos hi]
      refine ⟨mem 1 hi, pf 1, ?_⟩
      rw [List.length_take]
      omega
theorem sgn_first (r : List UInt8) (j : Nat) (hj : j < 33) (h : Pf (signs[j]'hj) r) (hno : ∀ i (hi : i < 33), i < j → ¬ Pf (signs[i]'hi) r) : sgn r = signs[j]'hj := by
  obtain ⟨h1, h2, h3⟩ := sgn_long r _ (List.getElem_mem hj) h
  obtain ⟨i, hi, e⟩ := List.mem_iff_getElem.1 h1
  have hi' : i < 33 := hi
  have hij : j ≤ i := by
    rcases Nat.lt_or_ge i j with z | z
    · exact absurd (Eq.mpr (congrArg (fun t => Pf t r) (show signs[i]'hi' = sgn r from e)) h2) (hno i hi' z)
    · exact z
  unfold Pf at h h2
  have hdj : signs.getD j [] = signs[j]'hj := by rw [List.getD, List.getElem?_eq_getElem hj]; rfl
  have hdi : signs.getD i [] = sgn r := by rw [List.getD, List.getElem?_eq_getElem hi, ← e]; rfl
  have htk : (sgn r).take (signs[j]'hj).length = signs[j]'hj := by
    rw [← h2, List.take_take, Nat.min_eq_left h3]
    exact h
  rcases Nat.eq_or_lt_of_le hij with z | z
  · subst z
    exact e.symm
  · have := sign_order i hi' j z
    rw [hdj, hdi] at this
    rcases Nat.eq_or_lt_of_le h3 with y | y
    · rw [← h2, ← y]
      exact h
    · exact absurd ⟨y, htk⟩ this
theorem sgn_none (r : List UInt8) (h : ∀ j (hj : j < 33), ¬ Pf (signs[j]'hj) r) : sgn r = [] := by
  have key : ∀ k, isS (r.take k) = false := fun k => by
    rw [Bool.eq_false_iff]
    intro hk
    unfold isS at hk
    obtain ⟨j, hj, e⟩ := List.mem_iff_getElem.1 (of_decide_eq_true hk)
    refine h j hj ?_
    unfold Pf
    rw [e, List.length_take]
    rcases Nat.le_total k r.length with z | z
    · rw [Nat.min_eq_left z]
    · rw [Nat.min_eq_right z, List.take_of_length_le (Nat.le_refl _), List.take_of_length_le z]
  unfold sgn
  rw [key 3, key 2, key 1]
  rfl
/-- A part of bytes that can be read. -/
theorem Bs.part {w : World} {b off n : Nat} {l : List UInt8} (hn : n = l.length) (h3 : ∀ j, j < n → w.cell? ⟨b, off + j, none⟩ = some (.int .u8 ((l.getD j 0).toNat : Int))) (hb : b < w.heap.size) (a k : Nat) (hak : a + k ≤ n) : Bs w (some ⟨b, off + a, none⟩) k ((l.drop a).take k) := by
  refine ⟨by rw [List.length_take, List.length_drop]; omega, b, off + a, fun _ => ⟨rfl, hb⟩, fun j hj => ?_⟩
  rw [Nat.add_assoc, h3 (a + j) (by omega)]
  congr 4
  simp [List.getD, List.getElem?_drop, hj]
end Lx
end Go.Proofs.YtmckhkkbghihaaaDoor
