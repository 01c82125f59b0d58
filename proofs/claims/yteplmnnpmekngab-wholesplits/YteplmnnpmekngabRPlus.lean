/-
  The reference: plus.
-/
import Derived.Test.YteplmnnpmekngabRMade
namespace Go.Proofs.Yteplmnnpmekngab
open Go.RowKit

theorem get_past {xs : List Nat} {k : Nat} (h : ¬ k < xs.length) : xs[k]?.getD 0 = 0 := by rw [List.getElem?_eq_none (by omega)]; rfl
theorem words_snoc {B : Nat} {w1 : World} {v' : Value} {ds : List Nat} {d : Nat} (h : w1.ownsRow B 52 1 v' (ds.length + 1) ((ds.map fun x : Nat => Value.int .u32 (x : Int)) ++ [Value.int .u32 (d : Int)])) : Words B w1 v' (ds ++ [d]) := by
  unfold Words
  simpa using h
theorem below_grown {B n : Nat} {w wr w1 : World} {v : Value} {xs : List Value} {o : Obj} {t : TypeId} (hb : Below B w wr) (hB : B ≤ w.heap.size) (hown : wr.ownsRow B t 1 v n xs) (hg : (wr.alloc o).grownBy w1 v.ownBlock) : Below B w w1 := by
  refine (hb.alloc (Nat.le_trans hB hb.size) o).grown hg (by simp; have := hb.size; omega) (fun k e => ?_)
  rcases hown.2 with ⟨rfl, _⟩ | ⟨g, cap, cur, rfl, h1, _⟩
  · cases e
  · simp [Value.ownBlock] at e
    omega

/-- A digit's difference, as the machine has it. -/
theorem sub_word {x y c : Nat} (hx : x < 4294967296) (hy : y < 4294967296) (hc : c ≤ 1) : ∃ T D C : Nat, IntKind.u64.wrap (IntKind.u64.wrap ((x : Int) - c) - y) = (T : Int) ∧ (T : Int) % 4294967296 = (D : Int) ∧ (T : Int) / 9223372036854775808 = (C : Int) ∧ D < 4294967296 ∧ C ≤ 1 ∧ x + 4294967296 * C = D + y + c ∧ T < 18446744073709551616 := by
  simp only [IntKind.wrap_u64]
  by_cases h : y + c ≤ x
  · exact ⟨x - y - c, x - y - c, 0, by omega, by omega, by omega, by omega, by omega, by omega, by omega⟩
  · exact ⟨x + 18446744073709551616 - y - c, x + 4294967296 - y - c, 1, by omega, by omega, by omega, by omega, by omega, by omega, by omega⟩

end Go.Proofs.Yteplmnnpmekngab
