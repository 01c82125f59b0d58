/-
  Size, Room, mayHold, asked of cells that may hold anything.
-/
import Derived.Test.YtajbieokcdejgaaCeTell
namespace Go.Proofs.Ytajbieokcdejgaa
open Go.RowKit Go.WideShapes

/-- The head of cells. -/
structure Cb (w : World) (g r L S : Nat) : Prop where
  c0 : w.cell? ⟨g, 0, none⟩ = some (.int .i64 (L : Int))
  c1 : w.cell? ⟨g, 1, none⟩ = some (.iface (rty L) (.pointer (some ⟨r, 0, none⟩)))
  sz : Sz L S
theorem isNone_cb {w : World} {g r L S : Nat} (hC : Cb w g r L S) : Calls Try.prog 32 #[.pointer (some ⟨g, 0, none⟩)] w fun e w' => e = .returned (.bool false) ∧ w' = w :=
  isNone_some w g _ _ hC.c1
theorem sizeM_cb {w : World} {g r L S : Nat} (hC : Cb w g r L S) : Calls Try.prog 22 #[.pointer (some ⟨g, 0, none⟩)] w fun e w' => e = .returned (.int .i64 (S : Int)) ∧ w' = w := by
  have C1 := isNone_cb hC
  have C2 := size_any hC.sz w
  have h0 := hC.c0
  go_enter Try.func22, Try.ntmps22
  go_wp2_with fail
  refine C1.mono ?_
  rintro e w1 ⟨rfl, rfl⟩
  clear C1
  go_wp2_with fail
  refine C2.mono ?_
  rintro e w1 ⟨rfl, rfl⟩
  clear C2
  go_wp2
  go_ret
  exact ⟨rfl, rfl⟩
theorem room_cb {w : World} {g r L S : Nat} (hC : Cb w g r L S) : Calls Try.prog 23 #[.pointer (some ⟨g, 0, none⟩)] w fun e w' => e = .returned (.int .i64 (rm S : Int)) ∧ w' = w := by
  have C1 := sizeM_cb hC
  have hm := hC.sz.most
  have e1 : IntKind.i64.wrap ((S : Int) * 2) = (S : Int) * 2 := i64_small (by omega) (by omega)
  have e2 : ((S : Int) * 2).tdiv 3 = ((rm S : Nat) : Int) := by rw [Int.tdiv_eq_ediv_of_nonneg (by omega)]; unfold rm; omega
  have e3 : IntKind.i64.wrap ((rm S : Nat) : Int) = ((rm S : Nat) : Int) := i64_small (by omega) (by unfold rm; omega)
  go_enter Try.func23, Try.ntmps23
  go_wp2_with fail
  refine C1.mono ?_
  rintro e w1 ⟨rfl, rfl⟩
  clear C1
  go_wp2
  go_ret
  exact ⟨rfl, rfl⟩
theorem mayHold_cb {w : World} {g r L S : Nat} (hC : Cb w g r L S) (v : Int) : Calls Try.prog 37 #[.pointer (some ⟨g, 0, none⟩), .int .i64 v] w fun e w' => e = .returned (.bool (may S v)) ∧ w' = w := by
  have C2 := room_cb hC
  clear hC
  go_enter Try.func37, Try.ntmps37
  by_cases a1 : v = -1
  · subst a1
    rw [show may S (-1) = true by unfold may; rw [decide_eq_true (by omega)]]
    go_wp2
    go_ret
    exact ⟨rfl, rfl⟩
  · have a1' : (v == -1) = false := by simp [a1]
    by_cases a2 : v = -2
    · subst a2
      rw [show may S (-2) = true by unfold may; rw [decide_eq_true (by omega)]]
      go_wp2
      go_ret
      exact ⟨rfl, rfl⟩
    · have a2' : (v == -2) = false := by simp [a2]
      by_cases a3 : 0 ≤ v
      · by_cases a4 : v < ((rm S : Nat) : Int)
        · rw [show may S v = true by unfold may; rw [decide_eq_true (by omega)]]
          go_wp2_with fail
          refine C2.mono ?_
          rintro e w1 ⟨rfl, rfl⟩
          clear C2
          go_wp2
          go_ret
          exact ⟨rfl, rfl⟩
        · rw [show may S v = false by unfold may; rw [decide_eq_false (by omega)]]
          go_wp2_with fail
          refine C2.mono ?_
          rintro e w1 ⟨rfl, rfl⟩
          clear C2
          go_wp2
          go_ret
          exact ⟨by rw [decide_eq_false (Int.not_lt.2 a4)]; rfl, rfl⟩
      · rw [show may S v = false by unfold may; rw [decide_eq_false (by omega)]]
        go_wp2
        go_ret
        exact ⟨rfl, rfl⟩
end Go.Proofs.Ytajbieokcdejgaa
