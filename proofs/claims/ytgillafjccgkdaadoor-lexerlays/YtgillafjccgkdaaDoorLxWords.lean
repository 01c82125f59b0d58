/-
  The words of the language, told twice.
-/
import Derived.Test.YtgillafjccgkdaaDoorLxAwake
import Derived.BigGuard
namespace Go.Proofs.YtgillafjccgkdaaDoor
open Go.RowKit Go.WideShapes
namespace Lx

def wordC : Array Value := #[.string ⟨#[97, 110, 100]⟩, .string ⟨#[97, 115]⟩, .string ⟨#[98, 114, 101, 97, 107]⟩, .string ⟨#[99, 108, 97, 115, 115]⟩, .string ⟨#[99, 111, 110, 116, 105, 110, 117, 101]⟩, .string ⟨#[100, 101, 102]⟩, .string ⟨#[100, 101, 108]⟩, .string ⟨#[101, 108, 105, 102]⟩, .string ⟨#[101, 108, 115, 101]⟩, .string ⟨#[101, 120, 99, 101, 112, 116]⟩, .string ⟨#[70, 97, 108, 115, 101]⟩, .string ⟨#[102, 111, 114]⟩, .string ⟨#[103, 108, 111, 98, 97, 108]⟩, .string ⟨#[105, 102]⟩, .string ⟨#[105, 110]⟩, .string ⟨#[105, 115]⟩, .string ⟨#[78, 111, 110, 101]⟩, .string ⟨#[110, 111, 110, 108, 111, 99, 97, 108]⟩, .string ⟨#[110, 111, 116]⟩, .string ⟨#[111, 114]⟩, .string ⟨#[112, 97, 115, 115]⟩, .string ⟨#[114, 97, 105, 115, 101]⟩, .string ⟨#[114, 101, 116, 117, 114, 110]⟩, .string ⟨#[84, 114, 117, 101]⟩, .string ⟨#[116, 114, 121]⟩, .string ⟨#[119, 104, 105, 108, 101]⟩]
theorem wordC_get (j : Nat) (hj : j < 26) : wordC[j]? = some (.string ⟨(words[j]'hj).toArray⟩) := by
  rcases (by omega : j = 0 ∨ j = 1 ∨ j = 2 ∨ j = 3 ∨ j = 4 ∨ j = 5 ∨ j = 6 ∨ j = 7 ∨ j = 8 ∨ j = 9 ∨ j = 10 ∨ j = 11 ∨ j = 12 ∨ j = 13 ∨ j = 14 ∨ j = 15 ∨ j = 16 ∨ j = 17 ∨ j = 18 ∨ j = 19 ∨ j = 20 ∨ j = 21 ∨ j = 22 ∨ j = 23 ∨ j = 24 ∨ j = 25) with rfl | rfl | rfl | rfl | rfl | rfl | rfl | rfl | rfl | rfl | rfl | rfl | rfl | rfl | rfl | rfl | rfl | rfl | rfl | rfl | rfl | rfl | rfl | rfl | rfl | rfl <;> rfl
theorem wordC_cell (w : World) (j : Nat) (hj : j < 26) : (w.alloc (.cells wordC 9)).cell? ⟨w.heap.size, j, none⟩ = some (.string ⟨(words[j]'hj).toArray⟩) := by
  rw [← wordC_get j hj]
  exact cell_marked w wordC 9 (0, 0) j
set_option maxRecDepth 100000 in
set_option maxHeartbeats 1000000 in
theorem refWord_any (s : ByteArray) (w : World) : Calls Tryd.prog 10 #[.string s] w fun e w' => e = .returned (.bool (wrd s.data.toList)) ∧ Below w.heap.size w w' := by
  have HC := Lib.hid (wordC_cell w)
  have hbW : Below w.heap.size w (w.alloc (.cells wordC 9)) := (Below.refl _ w).alloc (Nat.le_refl _) _
  have HB := Lib.hid hbW
  clear hbW
  have hfold : #[.string ⟨#[97, 110, 100]⟩, .string ⟨#[97, 115]⟩, .string ⟨#[98, 114, 101, 97, 107]⟩, .string ⟨#[99, 108, 97, 115, 115]⟩, .string ⟨#[99, 111, 110, 116, 105, 110, 117, 101]⟩, .string ⟨#[100, 101, 102]⟩, .string ⟨#[100, 101, 108]⟩, .string ⟨#[101, 108, 105, 102]⟩, .string ⟨#[101, 108, 115, 101]⟩, .string ⟨#[101, 120, 99, 101, 112, 116]⟩, .string ⟨#[70, 97, 108, 115, 101]⟩, .string ⟨#[102, 111, 114]⟩, .string ⟨#[103, 108, 111, 98, 97, 108]⟩, .string ⟨#[105, 102]⟩, .string ⟨#[105, 110]⟩, .string ⟨#[105, 115]⟩, .string ⟨#[78, 111, 110, 101]⟩, .string ⟨#[110, 111, 110, 108, 111, 99, 97, 108]⟩, .string ⟨#[110, 111, 116]⟩, .string ⟨#[111, 114]⟩, .string ⟨#[112, 97, 115, 115]⟩, .string ⟨#[114, 97, 105, 115, 101]⟩, .string ⟨#[114, 101, 116, 117, 114, 110]⟩, .string ⟨#[84, 114, 117, 101]⟩, .string ⟨#[116, 114, 121]⟩, .string ⟨#[119, 104, 105, 108, 101]⟩] = wordC := rfl
  generalize wordC = X at *
  go_enter Tryd.func10, Tryd.ntmps10
  go_wp2_with fail
  clear hfold
  generalize w.alloc (.cells X 9) = W at *
  go_loopg [4] 26 (fun gk v4 wr => ∃ j, j + gk = 26 ∧ v4 = .int .i64 (j : Int) ∧ (∀ i (hi : i < 26), i < j → words[i]'hi ≠ s.data.toList) ∧ wr = W)
  case atStart => exact ⟨0, rfl, rfl, fun i hi h => absurd h (by omega), rfl⟩
  case round =>
    obtain ⟨j, hg, rfl, hall, rfl⟩ := hrel
    have HA := Lib.hid hall
    clear hall
    by_cases hj : j < 26
    · have c0 := HC.out j hj
      have t1 : (j : Int) < 26 := by omega
      have t0 : (0 : Int) ≤ (j : Int) := by omega
      have e1 : IntKind.i64.wrap ((j : Int) + 1) = ((j + 1 : Nat) : Int) := by rw [i64_small (by omega) (by omega)]; omega
      by_cases he : words[j]'hj = s.data.toList
      · have hw : wrd s.data.toList = true := by
          unfold wrd
          exact decide_eq_true (he ▸ List.getElem_mem hj)
        have HW := Lib.hid hw
        have hbq : ((ByteArray.mk (words[j]'hj).toArray).toList == s.toList) = true := by rw [toList_eq, toList_eq, ← he]; simp
        clear hw he
        generalize (ByteArray.mk (words[j]'hj).toArray) = X at *
        go_wp2_with fail
        go_ret
        rw [HW.out]
        exact ⟨rfl, HB.out⟩
      · have hbq : ((ByteArray.mk (words[j]'hj).toArray).toList == s.toList) = false := by
          rw [toList_eq, toList_eq]
          exact beq_eq_false_iff_ne.2 he
        have HE := Lib.hid he
        clear he
        generalize (ByteArray.mk (words[j]'hj).toArray) = X at *
        go_wp2_with fail
        go_roundg (gk - 1)
        case measure => omega
        case rel =>
          refine ⟨j + 1, by omega, rfl, fun i hi h => ?_, rfl⟩
          by_cases e : i < j
          · exact HA.out i hi e
          · obtain rfl : i = j := by omega
            exact HE.out
    · obtain rfl : j = 26 := by omega
      have hw : wrd s.data.toList = false := by
        unfold wrd
        refine decide_eq_false (fun h => ?_)
        obtain ⟨i, hi, e⟩ := List.mem_iff_getElem.1 h
        exact HA.out i hi hi e
      have HW := Lib.hid hw
      clear hw
      go_wp2_with fail
      go_ret
      rw [HW.out]
      exact ⟨rfl, HB.out⟩
end Lx
end Go.Proofs.YtgillafjccgkdaaDoor
