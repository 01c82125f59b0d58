/-
  Get and Set.
-/
import Derived.Test.YtdjabdmnknlaeaaGreatCeRow
namespace Go.Proofs.YtdjabdmnknlaeaaGreat
open Go.RowKit Go.WideShapes

theorem by_L (L : Nat) {P : Prop} (h1 : L ≤ 7 → P) (h2 : ¬ L ≤ 7 → L ≤ 15 → P) (h3 : ¬ L ≤ 7 → ¬ L ≤ 15 → P) : P := by
  rcases L_cases L with a | ⟨a, b⟩ | ⟨a, b⟩
  · exact h1 a
  · exact h2 a b
  · exact h3 a b
theorem m_get (L : Nat) (a : Option Addr) (w : World) : (method 286 (rty L) (.pointer a) "lexicon/cells.get").run Tryz.prog w = .ok (getF L, .pointer a) w :=
  by_L L (fun h => by simp only [rty, getF, if_pos h]; kernel_rfl) (fun h k => by simp only [rty, getF, if_neg h, if_pos k]; kernel_rfl) (fun h k => by simp only [rty, getF, if_neg h, if_neg k]; kernel_rfl)
theorem e_get (L : Nat) (args : Array Value) (w : World) : (callFunc (getF L) args).run Tryz.prog w = .ok (.enter (getF L) args) w :=
  by_L L (fun h => by simp only [getF, if_pos h]; exact Tryz.call111 _ _) (fun h k => by simp only [getF, if_neg h, if_pos k]; exact Tryz.call118 _ _) (fun h k => by simp only [getF, if_neg h, if_neg k]; exact Tryz.call125 _ _)
theorem m_set (L : Nat) (a : Option Addr) (w : World) : (method 286 (rty L) (.pointer a) "lexicon/cells.set").run Tryz.prog w = .ok (setF L, .pointer a) w :=
  by_L L (fun h => by simp only [rty, setF, if_pos h]; kernel_rfl) (fun h k => by simp only [rty, setF, if_neg h, if_pos k]; kernel_rfl) (fun h k => by simp only [rty, setF, if_neg h, if_neg k]; kernel_rfl)
theorem e_set (L : Nat) (args : Array Value) (w : World) : (callFunc (setF L) args).run Tryz.prog w = .ok (.enter (setF L) args) w :=
  by_L L (fun h => by simp only [setF, if_pos h]; exact Tryz.call113 _ _) (fun h k => by simp only [setF, if_neg h, if_pos k]; exact Tryz.call120 _ _) (fun h k => by simp only [setF, if_neg h, if_neg k]; exact Tryz.call127 _ _)
theorem m_copied (L : Nat) (a : Option Addr) (w : World) : (method 286 (rty L) (.pointer a) "lexicon/cells.copied").run Tryz.prog w = .ok (copiedF L, .pointer a) w :=
  by_L L (fun h => by simp only [rty, copiedF, if_pos h]; kernel_rfl) (fun h k => by simp only [rty, copiedF, if_neg h, if_pos k]; kernel_rfl) (fun h k => by simp only [rty, copiedF, if_neg h, if_neg k]; kernel_rfl)
theorem e_copied (L : Nat) (args : Array Value) (w : World) : (callFunc (copiedF L) args).run Tryz.prog w = .ok (.enter (copiedF L) args) w :=
  by_L L (fun h => by simp only [copiedF, if_pos h]; exact Tryz.call109 _ _) (fun h k => by simp only [copiedF, if_neg h, if_pos k]; exact Tryz.call116 _ _) (fun h k => by simp only [copiedF, if_neg h, if_neg k]; exact Tryz.call123 _ _)
theorem m_each (L : Nat) (a : Option Addr) (w : World) : (method 286 (rty L) (.pointer a) "lexicon/cells.each").run Tryz.prog w = .ok (eachF L, .pointer a) w :=
  by_L L (fun h => by simp only [rty, eachF, if_pos h]; kernel_rfl) (fun h k => by simp only [rty, eachF, if_neg h, if_pos k]; kernel_rfl) (fun h k => by simp only [rty, eachF, if_neg h, if_neg k]; kernel_rfl)
theorem e_each (L : Nat) (args : Array Value) (w : World) : (callFunc (eachF L) args).run Tryz.prog w = .ok (.enter (eachF L) args) w :=
  by_L L (fun h => by simp only [eachF, if_pos h]; exact Tryz.call110 _ _) (fun h k => by simp only [eachF, if_neg h, if_pos k]; exact Tryz.call117 _ _) (fun h k => by simp only [eachF, if_neg h, if_neg k]; exact Tryz.call124 _ _)

/-- What may be held fits. -/
theorem fits {L S : Nat} (hS : Sz L S) (v : Int) (h0 : -2 ≤ v) (h1 : v < ((rm S : Nat) : Int)) : (kd L).wrap v = v :=
  by_L L (fun h => by
      have := hS.most7 h
      rw [show kd L = .i8 by simp [kd, h], wrap_i8]
      unfold rm at h1
      omega)
    (fun h k => by
      have := hS.most15 k
      rw [show kd L = .i16 by simp [kd, h, k], wrap_i16]
      unfold rm at h1
      omega)
    (fun h k => by
      have := hS.most
      rw [show kd L = .i32 by simp [kd, h, k], IntKind.wrap_i32]
      unfold rm at h1
      omega)
theorem Cl.ints {w : World} {g r h L S : Nat} {f : Nat → Int} (hC : Cl w g r h L S f) (i : Nat) (hi : i < S) : -2147483648 ≤ f i ∧ f i < 2147483648 := by
  have h1 := hC.fit i hi
  have h2 := hC.sz.most
  unfold rm at h1
  omega

set_option maxRecDepth 100000 in
theorem getM_yes {w : World} {g r h L S : Nat} {f : Nat → Int} (hC : Cl w g r h L S f) (i : Nat) (hi : i < S) : Calls Tryz.prog 69 #[.pointer (some ⟨g, 0, none⟩), .int .i64 (i : Int)] w fun e w' => e = .returned (.tuple #[.int .i64 (f i), .int .i64 0]) ∧ w' = w := by
  have C1 := refuse_any hC i
  rw [show ixE S i = 0 by unfold ixE; rw [if_pos (by omega)]] at C1
  have h1 := hC.c1
  have C2 := row_get hC.rw i hi (hC.ints i hi)
  have hm := fun w => m_get L (some ⟨r, 0, none⟩) w
  have he := e_get L
  clear hC
  generalize getF L = Y at *
  generalize rty L = T at *
  go_enter Tryz.func69, Tryz.ntmps69
  go_wp2_with fail
  refine C1.mono ?_
  rintro e w1 ⟨rfl, rfl⟩
  clear C1
  go_wp2_with fail
  refine C2.mono ?_
  rintro e w1 ⟨rfl, rfl⟩
  clear C2
  go_wp2
  go_ret2
  exact ⟨rfl, rfl⟩
theorem getM_not {w : World} {g r h L S : Nat} {f : Nat → Int} (hC : Cl w g r h L S f) (i : Int) (hi : ¬ (0 ≤ i ∧ i < (S : Int))) : Calls Tryz.prog 69 #[.pointer (some ⟨g, 0, none⟩), .int .i64 i] w fun e w' => e = .returned (.tuple #[.int .i64 0, .int .i64 5]) ∧ w' = w := by
  have C1 := refuse_any hC i
  rw [show ixE S i = 5 by unfold ixE; rw [if_neg hi]] at C1
  clear hC
  go_enter Tryz.func69, Tryz.ntmps69
  go_wp2_with fail
  refine C1.mono ?_
  rintro e w1 ⟨rfl, rfl⟩
  clear C1
  go_wp2
  go_ret2
  exact ⟨rfl, rfl⟩
theorem setM_not {w : World} {g r h L S : Nat} {f : Nat → Int} (hC : Cl w g r h L S f) (i v : Int) (hi : ¬ (0 ≤ i ∧ i < (S : Int))) : Calls Tryz.prog 45 #[.pointer (some ⟨g, 0, none⟩), .int .i64 i, .int .i64 v] w fun e w' => e = .returned (.int .i64 5) ∧ w' = w := by
  have C1 := refuse_any hC i
  rw [show ixE S i = 5 by unfold ixE; rw [if_neg hi]] at C1
  clear hC
  go_enter Tryz.func45, Tryz.ntmps45
  go_wp2_with fail
  refine C1.mono ?_
  rintro e w1 ⟨rfl, rfl⟩
  clear C1
  go_wp2
  go_ret
  exact ⟨rfl, rfl⟩
theorem setM_bad {w : World} {g r h L S : Nat} {f : Nat → Int} (hC : Cl w g r h L S f) (i : Nat) (v : Int) (hi : i < S) (hv : may S v = false) : Calls Tryz.prog 45 #[.pointer (some ⟨g, 0, none⟩), .int .i64 (i : Int), .int .i64 v] w fun e w' => e = .returned (.int .i64 1) ∧ w' = w := by
  have C1 := refuse_any hC i
  rw [show ixE S i = 0 by unfold ixE; rw [if_pos (by omega)]] at C1
  have C2 := mayHold_any hC v
  rw [hv] at C2
  clear hC hv
  go_enter Tryz.func45, Tryz.ntmps45
  go_wp2_with fail
  refine C1.mono ?_
  rintro e w1 ⟨rfl, rfl⟩
  clear C1
  go_wp2_with fail
  refine C2.mono ?_
  rintro e w1 ⟨rfl, rfl⟩
  clear C2
  go_wp2
  go_ret
  exact ⟨rfl, rfl⟩
theorem setM_yes {w : World} {g r h L S : Nat} {f : Nat → Int} (hC : Cl w g r h L S f) (i : Nat) (v : Int) (hi : i < S) (hv : may S v = true) : Calls Tryz.prog 45 #[.pointer (some ⟨g, 0, none⟩), .int .i64 (i : Int), .int .i64 v] w fun e w' => e = .returned (.int .i64 0) ∧ w' = w.setCell ⟨h, i, none⟩ (.int (kd L) v) := by
  have C1 := refuse_any hC i
  rw [show ixE S i = 0 by unfold ixE; rw [if_pos (by omega)]] at C1
  have C2 := mayHold_any hC v
  rw [hv] at C2
  have hv' := of_decide_eq_true hv
  have h1 := hC.c1
  have C3 := row_set hC.rw i hi v (fits hC.sz v hv'.1 hv'.2)
  have hm := fun w => m_set L (some ⟨r, 0, none⟩) w
  have he := e_set L
  clear hC hv hv'
  generalize setF L = Y at *
  generalize rty L = T at *
  generalize kd L = K0 at *
  go_enter Tryz.func45, Tryz.ntmps45
  go_wp2_with fail
  refine C1.mono ?_
  rintro e w1 ⟨rfl, rfl⟩
  clear C1
  go_wp2_with fail
  refine C2.mono ?_
  rintro e w1 ⟨rfl, rfl⟩
  clear C2
  go_wp2_with fail
  refine C3.mono ?_
  rintro e w2 ⟨rfl, rfl⟩
  clear C3
  go_wp2
  go_ret
  exact ⟨rfl, rfl⟩
end Go.Proofs.YtdjabdmnknlaeaaGreat
