/-
  What cells tell of themselves; which cell and what value are refused.
-/
import Derived.Test.YtejfmajbggmghaaGreatCeMem
namespace Go.Proofs.YtejfmajbggmghaaGreat
open Go.RowKit Go.WideShapes

/-- A nil Cells, or a zero one. -/
def No (w : World) (v : Value) : Prop := v = .pointer none ∨ ∃ g, v = .pointer (some ⟨g, 0, none⟩) ∧ w.cell? ⟨g, 1, none⟩ = some .nilIface
theorem isNone_no {w : World} {v : Value} (h : No w v) : Calls Tryz.prog 109 #[v] w fun e w' => e = .returned (.bool true) ∧ w' = w := by
  rcases h with rfl | ⟨g, rfl, h1⟩
  · exact isNone_nil w
  · exact isNone_zero w g h1
theorem isNone_cl {w : World} {g r h L S : Nat} {f : Nat → Int} (hC : Cl w g r h L S f) : Calls Tryz.prog 109 #[.pointer (some ⟨g, 0, none⟩)] w fun e w' => e = .returned (.bool false) ∧ w' = w :=
  isNone_some w g _ _ hC.c1
theorem i64_small {x : Int} (h0 : -9223372036854775808 ≤ x) (h1 : x < 9223372036854775808) : IntKind.i64.wrap x = x := by
  rw [IntKind.wrap_i64]; omega
theorem log_any {w : World} {g r h L S : Nat} {f : Nat → Int} (hC : Cl w g r h L S f) : Calls Tryz.prog 92 #[.pointer (some ⟨g, 0, none⟩)] w fun e w' => e = .returned (.int .i64 (L : Int)) ∧ w' = w := by
  have C1 := isNone_cl hC
  have h0 := hC.c0
  go_enter Tryz.func92, Tryz.ntmps92
  go_wp2_with fail
  refine C1.mono ?_
  rintro e w1 ⟨rfl, rfl⟩
  clear C1
  go_wp2
  go_ret
  exact ⟨rfl, rfl⟩
theorem sizeM_any {w : World} {g r h L S : Nat} {f : Nat → Int} (hC : Cl w g r h L S f) : Calls Tryz.prog 99 #[.pointer (some ⟨g, 0, none⟩)] w fun e w' => e = .returned (.int .i64 (S : Int)) ∧ w' = w := by
  have C1 := isNone_cl hC
  have C2 := size_any hC.sz w
  have h0 := hC.c0
  go_enter Tryz.func99, Tryz.ntmps99
  go_wp2_with fail
  refine C1.mono ?_
  rintro e w1 ⟨rfl, rfl⟩
  clear C1
  go_wp2_with fail
  refine C2.mono ?_
  rintro e w1 ⟨rfl, rfl⟩
  clear C2
  go_wp2
  go_ret
  exact ⟨rfl, rfl⟩
theorem room_any {w : World} {g r h L S : Nat} {f : Nat → Int} (hC : Cl w g r h L S f) : Calls Tryz.prog 115 #[.pointer (some ⟨g, 0, none⟩)] w fun e w' => e = .returned (.int .i64 (rm S : Int)) ∧ w' = w := by
  have C1 := sizeM_any hC
  have hm := hC.sz.most
  have e1 : IntKind.i64.wrap ((S : Int) * 2) = (S : Int) * 2 := i64_small (by omega) (by omega)
  have e2 : ((S : Int) * 2).tdiv 3 = ((rm S : Nat) : Int) := by rw [Int.tdiv_eq_ediv_of_nonneg (by omega)]; unfold rm; omega
  have e3 : IntKind.i64.wrap ((rm S : Nat) : Int) = ((rm S : Nat) : Int) := i64_small (by omega) (by unfold rm; omega)
  go_enter Tryz.func115, Tryz.ntmps115
  go_wp2_with fail
  refine C1.mono ?_
  rintro e w1 ⟨rfl, rfl⟩
  clear C1
  go_wp2
  go_ret
  exact ⟨rfl, rfl⟩
/-- Whether there is such a cell; whether it may hold that. -/
def ixE (S : Nat) (i : Int) : Int := if 0 ≤ i ∧ i < (S : Int) then 0 else 5
def may (S : Nat) (v : Int) : Bool := decide (-2 ≤ v ∧ v < ((rm S : Nat) : Int))
theorem refuse_any {w : World} {g r h L S : Nat} {f : Nat → Int} (hC : Cl w g r h L S f) (i : Int) : Calls Tryz.prog 104 #[.pointer (some ⟨g, 0, none⟩), .int .i64 i] w fun e w' => e = .returned (.int .i64 (ixE S i)) ∧ w' = w := by
  have C1 := isNone_cl hC
  have C2 := sizeM_any hC
  clear hC
  by_cases h0 : i < 0
  · rw [show ixE S i = 5 by unfold ixE; rw [if_neg (by omega)]]
    go_enter Tryz.func104, Tryz.ntmps104
    go_wp2_with fail
    refine C1.mono ?_
    rintro e w1 ⟨rfl, rfl⟩
    clear C1
    go_wp2
    go_ret
    exact ⟨rfl, rfl⟩
  · by_cases h1 : (S : Int) ≤ i
    case' pos => rw [show ixE S i = 5 by unfold ixE; rw [if_neg (by omega)]]
    case' neg => rw [show ixE S i = 0 by unfold ixE; rw [if_pos (by omega)]]
    all_goals
      go_enter Tryz.func104, Tryz.ntmps104
      go_wp2_with fail
      refine C1.mono ?_
      rintro e w1 ⟨rfl, rfl⟩
      clear C1
      go_wp2_with fail
      refine C2.mono ?_
      rintro e w1 ⟨rfl, rfl⟩
      clear C2
      go_wp2
      go_ret
      exact ⟨rfl, rfl⟩
theorem mayHold_any {w : World} {g r h L S : Nat} {f : Nat → Int} (hC : Cl w g r h L S f) (v : Int) : Calls Tryz.prog 105 #[.pointer (some ⟨g, 0, none⟩), .int .i64 v] w fun e w' => e = .returned (.bool (may S v)) ∧ w' = w := by
  have C2 := room_any hC
  clear hC
  go_enter Tryz.func105, Tryz.ntmps105
  by_cases a1 : v = -1
  · subst a1
    rw [show may S (-1) = true by unfold may; rw [decide_eq_true (by omega)]]
    go_wp2
    go_ret
    exact ⟨rfl, rfl⟩
  · have a1' : (v == -1) = false := by simp [a1]
    by_cases a2 : v = -2
    · subst a2
      rw [show may S (-2) = true by unfold may; rw [decide_eq_true (by omega)]]
      go_wp2
      go_ret
      exact ⟨rfl, rfl⟩
    · have a2' : (v == -2) = false := by simp [a2]
      by_cases a3 : 0 ≤ v
      · by_cases a4 : v < ((rm S : Nat) : Int)
        · rw [show may S v = true by unfold may; rw [decide_eq_true (by omega)]]
          go_wp2_with fail
          refine C2.mono ?_
          rintro e w1 ⟨rfl, rfl⟩
          clear C2
          go_wp2
          go_ret
          exact ⟨rfl, rfl⟩
        · rw [show may S v = false by unfold may; rw [decide_eq_false (by omega)]]
          go_wp2_with fail
          refine C2.mono ?_
          rintro e w1 ⟨rfl, rfl⟩
          clear C2
          go_wp2
          go_ret
          exact ⟨by rw [decide_eq_false (Int.not_lt.2 a4)]; rfl, rfl⟩
      · rw [show may S v = false by unfold may; rw [decide_eq_false (by omega)]]
        go_wp2
        go_ret
        exact ⟨rfl, rfl⟩
/-- Of none: nothing. -/
theorem log_no {w : World} {v : Value} (h : No w v) : Calls Tryz.prog 92 #[v] w fun e w' => e = .returned (.int .i64 0) ∧ w' = w := by
  have C1 := isNone_no h
  clear h
  go_enter Tryz.func92, Tryz.ntmps92
  go_wp2_with fail
  refine C1.mono ?_
  rintro e w1 ⟨rfl, rfl⟩
  clear C1
  go_wp2
  go_ret
  exact ⟨rfl, rfl⟩
theorem sizeM_no {w : World} {v : Value} (h : No w v) : Calls Tryz.prog 99 #[v] w fun e w' => e = .returned (.int .i64 0) ∧ w' = w := by
  have C1 := isNone_no h
  clear h
  go_enter Tryz.func99, Tryz.ntmps99
  go_wp2_with fail
  refine C1.mono ?_
  rintro e w1 ⟨rfl, rfl⟩
  clear C1
  go_wp2
  go_ret
  exact ⟨rfl, rfl⟩
theorem refuse_no {w : World} {v : Value} (h : No w v) (i : Int) : Calls Tryz.prog 104 #[v, .int .i64 i] w fun e w' => e = .returned (.int .i64 1) ∧ w' = w := by
  have C1 := isNone_no h
  clear h
  go_enter Tryz.func104, Tryz.ntmps104
  go_wp2_with fail
  refine C1.mono ?_
  rintro e w1 ⟨rfl, rfl⟩
  clear C1
  go_wp2
  go_ret
  exact ⟨rfl, rfl⟩
theorem room_no {w : World} {v : Value} (h : No w v) : Calls Tryz.prog 115 #[v] w fun e w' => e = .returned (.int .i64 0) ∧ w' = w := by
  have C1 := sizeM_no h
  clear h
  go_enter Tryz.func115, Tryz.ntmps115
  go_wp2_with fail
  refine C1.mono ?_
  rintro e w1 ⟨rfl, rfl⟩
  clear C1
  go_wp2
  go_ret
  exact ⟨rfl, rfl⟩
theorem get_no {w : World} {v : Value} (h : No w v) (i : Int) : Calls Tryz.prog 93 #[v, .int .i64 i] w fun e w' => e = .returned (.tuple #[.int .i64 0, .int .i64 1]) ∧ w' = w := by
  have C1 := refuse_no h i
  clear h
  go_enter Tryz.func93, Tryz.ntmps93
  go_wp2_with fail
  refine C1.mono ?_
  rintro e w1 ⟨rfl, rfl⟩
  clear C1
  go_wp2
  go_ret2
  exact ⟨rfl, rfl⟩
theorem set_no {w : World} {v : Value} (h : No w v) (i x : Int) : Calls Tryz.prog 86 #[v, .int .i64 i, .int .i64 x] w fun e w' => e = .returned (.int .i64 1) ∧ w' = w := by
  have C1 := refuse_no h i
  clear h
  go_enter Tryz.func86, Tryz.ntmps86
  go_wp2_with fail
  refine C1.mono ?_
  rintro e w1 ⟨rfl, rfl⟩
  clear C1
  go_wp2
  go_ret
  exact ⟨rfl, rfl⟩
/-- The reference's. -/
theorem rroom_any {L S : Nat} (hS : Sz L S) (w : World) : Calls Tryz.prog 101 #[.int .i64 (L : Int)] w fun e w' => e = .returned (.int .i64 (rm S : Int)) ∧ w' = w := by
  have hm := hS.most
  have hle := hS.le
  have hge := hS.ge
  have h3 : IntKind.i64.wrap (2 * (2 : Int) ^ L) = (S : Int) * 2 := by rw [hS.int, IntKind.wrap_i64]; omega
  have e2 : ((S : Int) * 2).tdiv 3 = ((rm S : Nat) : Int) := by rw [Int.tdiv_eq_ediv_of_nonneg (by omega)]; unfold rm; omega
  have e3 : IntKind.i64.wrap ((rm S : Nat) : Int) = ((rm S : Nat) : Int) := i64_small (by omega) (by unfold rm; omega)
  have i1 : ¬ (L : Int) < 3 := by omega
  have i2 : ¬ 20 < (L : Int) := by omega
  go_enter Tryz.func101, Tryz.ntmps101
  go_wp2
  go_ret
  exact ⟨rfl, rfl⟩
theorem rroom_zero (w : World) : Calls Tryz.prog 101 #[.int .i64 0] w fun e w' => e = .returned (.int .i64 0) ∧ w' = w := by
  go_enter Tryz.func101, Tryz.ntmps101
  go_wp2
  go_ret
  exact ⟨rfl, rfl⟩
end Go.Proofs.YtejfmajbggmghaaGreat
