/-
  get and set of the rows of three widths.
  Get and Set.
  How cells stand behind later steps; newRow and New.
-/
import Derived.Test.YtjkggidcheagpaaGreatCeTell
import Derived.Deep.CutRange
import Derived.Test.YtjkggidcheagpaaGreatCel
namespace Go.Proofs.YtjkggidcheagpaaGreat
open Go.RowKit Go.WideShapes

theorem get8 {w : World} {r h W S cap : Nat} {f : Nat → Int} (hR : Rw w r h .i8 W S cap f) (i : Nat) (hi : i < S) (hf : -2147483648 ≤ f i ∧ f i < 2147483648) :
    Calls Tryz.prog 120 #[.pointer (some ⟨r, 0, none⟩), .int .i64 (i : Int)] w fun e w' => e = .returned (.int .i64 (f i)) ∧ w' = w := by
  have h1 := hR.r1
  have h2 := hR.hc i hi
  have h3 : IntKind.i64.wrap (f i) = f i := i64_small (by omega) (by omega)
  have h4 : (i : Int) < (S : Int) := by omega
  have h5 := hR.le
  clear hR
  generalize f i = v at *
  go_enter Tryz.func120, Tryz.ntmps120
  go_wp2
  go_ret
  exact ⟨rfl, rfl⟩
theorem set8 {w : World} {r h W S cap : Nat} {f : Nat → Int} (hR : Rw w r h .i8 W S cap f) (i : Nat) (hi : i < S) (v : Int) (hv : IntKind.i8.wrap v = v) :
    Calls Tryz.prog 122 #[.pointer (some ⟨r, 0, none⟩), .int .i64 (i : Int), .int .i64 v] w fun e w' => e = .returned (.tuple #[]) ∧ w' = w.setCell ⟨h, i, none⟩ (.int .i8 v) := by
  have h1 := hR.r1
  have h2 := hR.hc i hi
  have h3 := hR.hz i
  have h4 : (i : Int) < (S : Int) := by omega
  have h5 := hR.le
  clear hR
  go_enter Tryz.func122, Tryz.ntmps122
  go_wp2
  go_end0
  exact ⟨rfl, rfl⟩
theorem get16 {w : World} {r h W S cap : Nat} {f : Nat → Int} (hR : Rw w r h .i16 W S cap f) (i : Nat) (hi : i < S) (hf : -2147483648 ≤ f i ∧ f i < 2147483648) :
    Calls Tryz.prog 127 #[.pointer (some ⟨r, 0, none⟩), .int .i64 (i : Int)] w fun e w' => e = .returned (.int .i64 (f i)) ∧ w' = w := by
  have h1 := hR.r1
  have h2 := hR.hc i hi
  have h3 : IntKind.i64.wrap (f i) = f i := i64_small (by omega) (by omega)
  have h4 : (i : Int) < (S : Int) := by omega
  have h5 := hR.le
  clear hR
  generalize f i = v at *
  go_enter Tryz.func127, Tryz.ntmps127
  go_wp2
  go_ret
  exact ⟨rfl, rfl⟩
theorem set16 {w : World} {r h W S cap : Nat} {f : Nat → Int} (hR : Rw w r h .i16 W S cap f) (i : Nat) (hi : i < S) (v : Int) (hv : IntKind.i16.wrap v = v) :
    Calls Tryz.prog 129 #[.pointer (some ⟨r, 0, none⟩), .int .i64 (i : Int), .int .i64 v] w fun e w' => e = .returned (.tuple #[]) ∧ w' = w.setCell ⟨h, i, none⟩ (.int .i16 v) := by
  have h1 := hR.r1
  have h2 := hR.hc i hi
  have h3 := hR.hz i
  have h4 : (i : Int) < (S : Int) := by omega
  have h5 := hR.le
  clear hR
  go_enter Tryz.func129, Tryz.ntmps129
  go_wp2
  go_end0
  exact ⟨rfl, rfl⟩
theorem get32 {w : World} {r h W S cap : Nat} {f : Nat → Int} (hR : Rw w r h .i32 W S cap f) (i : Nat) (hi : i < S) (hf : -2147483648 ≤ f i ∧ f i < 2147483648) :
    Calls Tryz.prog 134 #[.pointer (some ⟨r, 0, none⟩), .int .i64 (i : Int)] w fun e w' => e = .returned (.int .i64 (f i)) ∧ w' = w := by
  have h1 := hR.r1
  have h2 := hR.hc i hi
  have h3 : IntKind.i64.wrap (f i) = f i := i64_small (by omega) (by omega)
  have h4 : (i : Int) < (S : Int) := by omega
  have h5 := hR.le
  clear hR
  generalize f i = v at *
  go_enter Tryz.func134, Tryz.ntmps134
  go_wp2
  go_ret
  exact ⟨rfl, rfl⟩
theorem set32 {w : World} {r h W S cap : Nat} {f : Nat → Int} (hR : Rw w r h .i32 W S cap f) (i : Nat) (hi : i < S) (v : Int) (hv : IntKind.i32.wrap v = v) :
    Calls Tryz.prog 136 #[.pointer (some ⟨r, 0, none⟩), .int .i64 (i : Int), .int .i64 v] w fun e w' => e = .returned (.tuple #[]) ∧ w' = w.setCell ⟨h, i, none⟩ (.int .i32 v) := by
  have h1 := hR.r1
  have h2 := hR.hc i hi
  have h3 := hR.hz i
  have h4 : (i : Int) < (S : Int) := by omega
  have h5 := hR.le
  clear hR
  go_enter Tryz.func136, Tryz.ntmps136
  go_wp2
  go_end0
  exact ⟨rfl, rfl⟩
theorem row_get {w : World} {r h W S cap L : Nat} {f : Nat → Int} (hR : Rw w r h (kd L) W S cap f) (i : Nat) (hi : i < S) (hf : -2147483648 ≤ f i ∧ f i < 2147483648) :
    Calls Tryz.prog (getF L) #[.pointer (some ⟨r, 0, none⟩), .int .i64 (i : Int)] w fun e w' => e = .returned (.int .i64 (f i)) ∧ w' = w := by
  rcases L_cases L with h1 | ⟨h1, h2⟩ | ⟨h1, h2⟩
  · rw [show kd L = .i8 by simp [kd, h1]] at hR
    rw [show getF L = 120 by simp [getF, h1]]
    exact get8 hR i hi hf
  · rw [show kd L = .i16 by simp [kd, h1, h2]] at hR
    rw [show getF L = 127 by simp [getF, h1, h2]]
    exact get16 hR i hi hf
  · rw [show kd L = .i32 by simp [kd, h1, h2]] at hR
    rw [show getF L = 134 by simp [getF, h1, h2]]
    exact get32 hR i hi hf
theorem row_set {w : World} {r h W S cap L : Nat} {f : Nat → Int} (hR : Rw w r h (kd L) W S cap f) (i : Nat) (hi : i < S) (v : Int) (hv : (kd L).wrap v = v) :
    Calls Tryz.prog (setF L) #[.pointer (some ⟨r, 0, none⟩), .int .i64 (i : Int), .int .i64 v] w fun e w' => e = .returned (.tuple #[]) ∧ w' = w.setCell ⟨h, i, none⟩ (.int (kd L) v) := by
  rcases L_cases L with h1 | ⟨h1, h2⟩ | ⟨h1, h2⟩
  · rw [show kd L = .i8 by simp [kd, h1]] at hR hv ⊢
    rw [show setF L = 122 by simp [setF, h1]]
    exact set8 hR i hi v hv
  · rw [show kd L = .i16 by simp [kd, h1, h2]] at hR hv ⊢
    rw [show setF L = 129 by simp [setF, h1, h2]]
    exact set16 hR i hi v hv
  · rw [show kd L = .i32 by simp [kd, h1, h2]] at hR hv ⊢
    rw [show setF L = 136 by simp [setF, h1, h2]]
    exact set32 hR i hi v hv
end Go.Proofs.YtjkggidcheagpaaGreat
namespace Go.Proofs.YtjkggidcheagpaaGreat
open Go.RowKit Go.WideShapes

theorem by_L (L : Nat) {P : Prop} (h1 : L ≤ 7 → P) (h2 : ¬ L ≤ 7 → L ≤ 15 → P) (h3 : ¬ L ≤ 7 → ¬ L ≤ 15 → P) : P := by
  rcases L_cases L with a | ⟨a, b⟩ | ⟨a, b⟩
  · exact h1 a
  · exact h2 a b
  · exact h3 a b
theorem m_get (L : Nat) (a : Option Addr) (w : World) : (method 293 (rty L) (.pointer a) "lexicon/cells.get").run Tryz.prog w = .ok (getF L, .pointer a) w :=
  by_L L (fun h => by simp only [rty, getF, if_pos h]; kernel_rfl) (fun h k => by simp only [rty, getF, if_neg h, if_pos k]; kernel_rfl) (fun h k => by simp only [rty, getF, if_neg h, if_neg k]; kernel_rfl)
theorem e_get (L : Nat) (args : Array Value) (w : World) : (callFunc (getF L) args).run Tryz.prog w = .ok (.enter (getF L) args) w :=
  by_L L (fun h => by simp only [getF, if_pos h]; exact Tryz.call120 _ _) (fun h k => by simp only [getF, if_neg h, if_pos k]; exact Tryz.call127 _ _) (fun h k => by simp only [getF, if_neg h, if_neg k]; exact Tryz.call134 _ _)
theorem m_set (L : Nat) (a : Option Addr) (w : World) : (method 293 (rty L) (.pointer a) "lexicon/cells.set").run Tryz.prog w = .ok (setF L, .pointer a) w :=
  by_L L (fun h => by simp only [rty, setF, if_pos h]; kernel_rfl) (fun h k => by simp only [rty, setF, if_neg h, if_pos k]; kernel_rfl) (fun h k => by simp only [rty, setF, if_neg h, if_neg k]; kernel_rfl)
theorem e_set (L : Nat) (args : Array Value) (w : World) : (callFunc (setF L) args).run Tryz.prog w = .ok (.enter (setF L) args) w :=
  by_L L (fun h => by simp only [setF, if_pos h]; exact Tryz.call122 _ _) (fun h k => by simp only [setF, if_neg h, if_pos k]; exact Tryz.call129 _ _) (fun h k => by simp only [setF, if_neg h, if_neg k]; exact Tryz.call136 _ _)
theorem m_copied (L : Nat) (a : Option Addr) (w : World) : (method 293 (rty L) (.pointer a) "lexicon/cells.copied").run Tryz.prog w = .ok (copiedF L, .pointer a) w :=
  by_L L (fun h => by simp only [rty, copiedF, if_pos h]; kernel_rfl) (fun h k => by simp only [rty, copiedF, if_neg h, if_pos k]; kernel_rfl) (fun h k => by simp only [rty, copiedF, if_neg h, if_neg k]; kernel_rfl)
theorem e_copied (L : Nat) (args : Array Value) (w : World) : (callFunc (copiedF L) args).run Tryz.prog w = .ok (.enter (copiedF L) args) w :=
  by_L L (fun h => by simp only [copiedF, if_pos h]; exact Tryz.call118 _ _) (fun h k => by simp only [copiedF, if_neg h, if_pos k]; exact Tryz.call125 _ _) (fun h k => by simp only [copiedF, if_neg h, if_neg k]; exact Tryz.call132 _ _)
theorem m_each (L : Nat) (a : Option Addr) (w : World) : (method 293 (rty L) (.pointer a) "lexicon/cells.each").run Tryz.prog w = .ok (eachF L, .pointer a) w :=
  by_L L (fun h => by simp only [rty, eachF, if_pos h]; kernel_rfl) (fun h k => by simp only [rty, eachF, if_neg h, if_pos k]; kernel_rfl) (fun h k => by simp only [rty, eachF, if_neg h, if_neg k]; kernel_rfl)
theorem e_each (L : Nat) (args : Array Value) (w : World) : (callFunc (eachF L) args).run Tryz.prog w = .ok (.enter (eachF L) args) w :=
  by_L L (fun h => by simp only [eachF, if_pos h]; exact Tryz.call119 _ _) (fun h k => by simp only [eachF, if_neg h, if_pos k]; exact Tryz.call126 _ _) (fun h k => by simp only [eachF, if_neg h, if_neg k]; exact Tryz.call133 _ _)

/-- What may be held fits. -/
theorem fits {L S : Nat} (hS : Sz L S) (v : Int) (h0 : -2 ≤ v) (h1 : v < ((rm S : Nat) : Int)) : (kd L).wrap v = v :=
  by_L L (fun h => by
      have := hS.most7 h
      rw [show kd L = .i8 by simp [kd, h], wrap_i8]
      unfold rm at h1
      omega)
    (fun h k => by
      have := hS.most15 k
      rw [show kd L = .i16 by simp [kd, h, k], wrap_i16]
      unfold rm at h1
      omega)
    (fun h k => by
      have := hS.most
      rw [show kd L = .i32 by simp [kd, h, k], IntKind.wrap_i32]
      unfold rm at h1
      omega)
theorem Cl.ints {w : World} {g r h L S : Nat} {f : Nat → Int} (hC : Cl w g r h L S f) (i : Nat) (hi : i < S) : -2147483648 ≤ f i ∧ f i < 2147483648 := by
  have h1 := hC.fit i hi
  have h2 := hC.sz.most
  unfold rm at h1
  omega

set_option maxRecDepth 100000 in
theorem getM_yes {w : World} {g r h L S : Nat} {f : Nat → Int} (hC : Cl w g r h L S f) (i : Nat) (hi : i < S) : Calls Tryz.prog 76 #[.pointer (some ⟨g, 0, none⟩), .int .i64 (i : Int)] w fun e w' => e = .returned (.tuple #[.int .i64 (f i), .int .i64 0]) ∧ w' = w := by
  have C1 := refuse_any hC i
  rw [show ixE S i = 0 by unfold ixE; rw [if_pos (by omega)]] at C1
  have h1 := hC.c1
  have C2 := row_get hC.rw i hi (hC.ints i hi)
  have hm := fun w => m_get L (some ⟨r, 0, none⟩) w
  have he := e_get L
  clear hC
  generalize getF L = Y at *
  generalize rty L = T at *
  go_enter Tryz.func76, Tryz.ntmps76
  go_wp2_with fail
  refine C1.mono ?_
  rintro e w1 ⟨rfl, rfl⟩
  clear C1
  go_wp2_with fail
  refine C2.mono ?_
  rintro e w1 ⟨rfl, rfl⟩
  clear C2
  go_wp2
  go_ret2
  exact ⟨rfl, rfl⟩
theorem getM_not {w : World} {g r h L S : Nat} {f : Nat → Int} (hC : Cl w g r h L S f) (i : Int) (hi : ¬ (0 ≤ i ∧ i < (S : Int))) : Calls Tryz.prog 76 #[.pointer (some ⟨g, 0, none⟩), .int .i64 i] w fun e w' => e = .returned (.tuple #[.int .i64 0, .int .i64 5]) ∧ w' = w := by
  have C1 := refuse_any hC i
  rw [show ixE S i = 5 by unfold ixE; rw [if_neg hi]] at C1
  clear hC
  go_enter Tryz.func76, Tryz.ntmps76
  go_wp2_with fail
  refine C1.mono ?_
  rintro e w1 ⟨rfl, rfl⟩
  clear C1
  go_wp2
  go_ret2
  exact ⟨rfl, rfl⟩
theorem setM_not {w : World} {g r h L S : Nat} {f : Nat → Int} (hC : Cl w g r h L S f) (i v : Int) (hi : ¬ (0 ≤ i ∧ i < (S : Int))) : Calls Tryz.prog 60 #[.pointer (some ⟨g, 0, none⟩), .int .i64 i, .int .i64 v] w fun e w' => e = .returned (.int .i64 5) ∧ w' = w := by
  have C1 := refuse_any hC i
  rw [show ixE S i = 5 by unfold ixE; rw [if_neg hi]] at C1
  clear hC
  go_enter Tryz.func60, Tryz.ntmps60
  go_wp2_with fail
  refine C1.mono ?_
  rintro e w1 ⟨rfl, rfl⟩
  clear C1
  go_wp2
  go_ret
  exact ⟨rfl, rfl⟩
theorem setM_bad {w : World} {g r h L S : Nat} {f : Nat → Int} (hC : Cl w g r h L S f) (i : Nat) (v : Int) (hi : i < S) (hv : may S v = false) : Calls Tryz.prog 60 #[.pointer (some ⟨g, 0, none⟩), .int .i64 (i : Int), .int .i64 v] w fun e w' => e = .returned (.int .i64 1) ∧ w' = w := by
  have C1 := refuse_any hC i
  rw [show ixE S i = 0 by unfold ixE; rw [if_pos (by omega)]] at C1
  have C2 := mayHold_any hC v
  rw [hv] at C2
  clear hC hv
  go_enter Tryz.func60, Tryz.ntmps60
  go_wp2_with fail
  refine C1.mono ?_
  rintro e w1 ⟨rfl, rfl⟩
  clear C1
  go_wp2_with fail
  refine C2.mono ?_
  rintro e w1 ⟨rfl, rfl⟩
  clear C2
  go_wp2
  go_ret
  exact ⟨rfl, rfl⟩
theorem setM_yes {w : World} {g r h L S : Nat} {f : Nat → Int} (hC : Cl w g r h L S f) (i : Nat) (v : Int) (hi : i < S) (hv : may S v = true) : Calls Tryz.prog 60 #[.pointer (some ⟨g, 0, none⟩), .int .i64 (i : Int), .int .i64 v] w fun e w' => e = .returned (.int .i64 0) ∧ w' = w.setCell ⟨h, i, none⟩ (.int (kd L) v) := by
  have C1 := refuse_any hC i
  rw [show ixE S i = 0 by unfold ixE; rw [if_pos (by omega)]] at C1
  have C2 := mayHold_any hC v
  rw [hv] at C2
  have hv' := of_decide_eq_true hv
  have h1 := hC.c1
  have C3 := row_set hC.rw i hi v (fits hC.sz v hv'.1 hv'.2)
  have hm := fun w => m_set L (some ⟨r, 0, none⟩) w
  have he := e_set L
  clear hC hv hv'
  generalize setF L = Y at *
  generalize rty L = T at *
  generalize kd L = K0 at *
  go_enter Tryz.func60, Tryz.ntmps60
  go_wp2_with fail
  refine C1.mono ?_
  rintro e w1 ⟨rfl, rfl⟩
  clear C1
  go_wp2_with fail
  refine C2.mono ?_
  rintro e w1 ⟨rfl, rfl⟩
  clear C2
  go_wp2_with fail
  refine C3.mono ?_
  rintro e w2 ⟨rfl, rfl⟩
  clear C3
  go_wp2
  go_ret
  exact ⟨rfl, rfl⟩
end Go.Proofs.YtjkggidcheagpaaGreat
namespace Go.Proofs.YtjkggidcheagpaaGreat
open Go.RowKit Go.WideShapes

theorem Rw.same {w w' : World} {r h W S cap : Nat} {k : IntKind} {f : Nat → Int} (hR : Rw w r h k W S cap f) (e1 : w'.heap[r]? = w.heap[r]?) (e2 : w'.heap[h]? = w.heap[h]?) : Rw w' r h k W S cap f :=
  ⟨(World.cell?_of_block (a := ⟨r, 0, none⟩) e1).trans hR.r0, (World.cell?_of_block (a := ⟨r, 1, none⟩) e1).trans hR.r1, hR.le, fun j hj => (World.cell?_of_block (a := ⟨h, j, none⟩) e2).trans (hR.hc j hj), fun j => (World.frozen?_of_block (a := ⟨h, j, none⟩) e2).trans (hR.hz j)⟩
theorem Cl.same {w w' : World} {g r h L S : Nat} {f : Nat → Int} (hC : Cl w g r h L S f) (e0 : w'.heap[g]? = w.heap[g]?) (e1 : w'.heap[r]? = w.heap[r]?) (e2 : w'.heap[h]? = w.heap[h]?) : Cl w' g r h L S f :=
  ⟨(World.cell?_of_block (a := ⟨g, 0, none⟩) e0).trans hC.c0, (World.cell?_of_block (a := ⟨g, 1, none⟩) e0).trans hC.c1, hC.rw.same e1 e2, hC.sz, hC.fit⟩
theorem Rw.lt {w : World} {r h W S cap : Nat} {k : IntKind} {f : Nat → Int} (hR : Rw w r h k W S cap f) (hS : 0 < S) : r < w.heap.size ∧ h < w.heap.size := ⟨lt_of_cell hR.r0, lt_of_cell (hR.hc 0 hS)⟩
theorem Cl.lt {w : World} {g r h L S : Nat} {f : Nat → Int} (hC : Cl w g r h L S f) : g < w.heap.size ∧ r < w.heap.size ∧ h < w.heap.size :=
  ⟨lt_of_cell hC.c0, hC.rw.lt (by have := hC.sz.pos; omega)⟩
theorem Rw.below {w w' : World} {r h W S cap : Nat} {k : IntKind} {f : Nat → Int} (hR : Rw w r h k W S cap f) (hS : 0 < S) (hb : Below w.heap.size w w') : Rw w' r h k W S cap f :=
  hR.same (hb.block _ (hR.lt hS).1) (hb.block _ (hR.lt hS).2)
theorem Cl.below {w w' : World} {g r h L S : Nat} {f : Nat → Int} (hC : Cl w g r h L S f) (hb : Below w.heap.size w w') : Cl w' g r h L S f :=
  hC.same (hb.block _ hC.lt.1) (hb.block _ hC.lt.2.1) (hb.block _ hC.lt.2.2)
theorem kd_ne (L : Nat) (x y : Int) : Value.int (kd L) x ≠ Value.int .i64 y :=
  by_L L (fun h => by simp [kd, h]) (fun h k => by simp [kd, h, k]) (fun h k => by simp [kd, h, k])
theorem Cl.ne {w : World} {g r h L S : Nat} {f : Nat → Int} (hC : Cl w g r h L S f) : g ≠ h ∧ r ≠ h ∧ g ≠ r := by
  have h0 := hC.rw.hc 0 (by have := hC.sz.pos; omega)
  refine ⟨fun e => ?_, fun e => ?_, fun e => ?_⟩
  · subst e
    rw [hC.c0] at h0
    exact kd_ne L _ _ (Option.some.inj h0).symm
  · subst e
    rw [hC.rw.r0] at h0
    exact kd_ne L _ _ (Option.some.inj h0).symm
  · subst e
    have h1 := hC.c1
    rw [hC.rw.r1] at h1
    exact absurd h1 (by simp)
theorem Rw.put {w : World} {r h W S cap : Nat} {k : IntKind} {f : Nat → Int} (hR : Rw w r h k W S cap f) (hrh : r ≠ h) (i : Nat) (hi : i < S) (v : Int) : Rw (w.setCell ⟨h, i, none⟩ (.int k v)) r h k W S cap (upd f i v) := by
  have e1 : (w.setCell ⟨h, i, none⟩ (.int k v)).heap[r]? = w.heap[r]? := Below.heap_setCell _ _ _ _ hrh
  refine ⟨(World.cell?_of_block (a := ⟨r, 0, none⟩) e1).trans hR.r0, (World.cell?_of_block (a := ⟨r, 1, none⟩) e1).trans hR.r1, hR.le, fun j hj => ?_, fun j => by rw [World.frozen?_setCell]; exact hR.hz j⟩
  unfold upd
  by_cases e : j = i
  · subst e
    rw [if_pos rfl]
    exact World.cell?_setCell_same' _ _ _ (by rw [hR.hc j hj]; rfl)
  · rw [if_neg e, World.cell?_setCell_other _ _ _ _ (by intro he; injection he with h1 h2; exact e h2.symm)]
    exact hR.hc j hj
theorem Cl.put {w : World} {g r h L S : Nat} {f : Nat → Int} (hC : Cl w g r h L S f) (i : Nat) (hi : i < S) (v : Int) (hv : -2 ≤ v ∧ v < ((rm S : Nat) : Int)) : Cl (w.setCell ⟨h, i, none⟩ (.int (kd L) v)) g r h L S (upd f i v) := by
  have e0 : (w.setCell ⟨h, i, none⟩ (.int (kd L) v)).heap[g]? = w.heap[g]? := Below.heap_setCell _ _ _ _ hC.ne.1
  refine ⟨(World.cell?_of_block (a := ⟨g, 0, none⟩) e0).trans hC.c0, (World.cell?_of_block (a := ⟨g, 1, none⟩) e0).trans hC.c1, hC.rw.put hC.ne.2.1 i hi v, hC.sz, fun j hj => ?_⟩
  unfold upd
  by_cases e : j = i
  · rw [if_pos e]; exact hv
  · rw [if_neg e]; exact hC.fit j hj
theorem Cl.congr {w : World} {g r h L S : Nat} {f f' : Nat → Int} (hC : Cl w g r h L S f) (e : ∀ j, j < S → f' j = f j) : Cl w g r h L S f' :=
  ⟨hC.c0, hC.c1, ⟨hC.rw.r0, hC.rw.r1, hC.rw.le, fun j hj => by rw [e j hj]; exact hC.rw.hc j hj, hC.rw.hz⟩, hC.sz, fun j hj => by rw [e j hj]; exact hC.fit j hj⟩

theorem Rw.congr {w : World} {r h W S cap : Nat} {k : IntKind} {f f' : Nat → Int} (hR : Rw w r h k W S cap f) (e : ∀ j, j < S → f' j = f j) : Rw w r h k W S cap f' :=
  ⟨hR.r0, hR.r1, hR.le, fun j hj => by rw [e j hj]; exact hR.hc j hj, hR.hz⟩
theorem Tryz.info8 : (Tryz.prog.info? 185).map (fun i => (i.zero, i.size, i.bytes)) = some (some (.int .i8 0), 1, 1) := by kernel_rfl
theorem Tryz.info16 : (Tryz.prog.info? 187).map (fun i => (i.zero, i.size, i.bytes)) = some (some (.int .i16 0), 1, 2) := by kernel_rfl
theorem Tryz.info32 : (Tryz.prog.info? 21).map (fun i => (i.zero, i.size, i.bytes)) = some (some (.int .i32 0), 1, 4) := by kernel_rfl
/-- The head of a row that was just made. -/
theorem rw_made {w w1 : World} {t ty : TypeId} {k : IntKind} {n W : Nat} (h : w1.ownsRow w.heap.size t 1 (.slice (some ⟨w.heap.size, 0, none⟩) n n) n (madeCells (Value.int k 0).cells (n * 1)).toList) :
    Rw (w1.alloc (.cells #[.int .i64 (W : Int), .slice (some ⟨w.heap.size, 0, none⟩) n n] ty)) w1.heap.size w.heap.size k W n n (fun _ => 0) := by
  have hl := (h.lt _ rfl).2
  have e : (w1.alloc (.cells #[.int .i64 (W : Int), .slice (some ⟨w.heap.size, 0, none⟩) n n] ty)).heap[w.heap.size]? = w1.heap[w.heap.size]? := Below.heap_alloc _ _ _ hl
  refine ⟨by rw [World.cell?_alloc_at _ _ _ _ rfl]; rfl, by rw [World.cell?_alloc_at _ _ _ _ rfl]; rfl, Nat.le_refl _, fun j hj => ?_, fun j => (World.frozen?_of_block (a := ⟨w.heap.size, j, none⟩) e).trans (h.frozenAt j)⟩
  rw [World.cell?_of_block (a := ⟨w.heap.size, j, none⟩) e, h.cellAt j (by omega)]
  simp [madeCells, Value.cells, hj, Nat.mod_one]

set_option maxRecDepth 100000 in
theorem newRow_any {L S : Nat} (hS : Sz L S) (w : World) : Calls Tryz.prog 85 #[.int .i64 (L : Int)] w fun e w' => ∃ r h, e = .returned (.iface (rty L) (.pointer (some ⟨r, 0, none⟩))) ∧ w.heap.size ≤ r ∧ w.heap.size ≤ h ∧ Rw w' r h (kd L) (wd L) S S (fun _ => 0) ∧ Below w.heap.size w w' := by
  have C1 := width_any hS w
  have C2 := size_any hS w
  have hm := hS.most
  refine by_L L (fun a => ?_) (fun a b => ?_) (fun a b => ?_)
  · obtain ⟨i0, hi, hz0, hz1, hz2⟩ := info_parts Tryz.info8
    rw [show wd L = 1 by simp [wd, a]] at C1 ⊢
    rw [show kd L = .i8 by simp [kd, a], show rty L = 123 by simp [rty, a]]
    clear hS
    go_enter Tryz.func85, Tryz.ntmps85
    go_wp2_with fail
    refine C1.mono ?_
    rintro e w1 ⟨rfl, rfl⟩
    go_wp2_with fail
    refine C2.mono ?_
    rintro e w2 ⟨rfl, rfl⟩
    go_wp2_with (at_make; refine wpList_make_full _ rfl _ _ 124 rfl w2.heap.size 185 i0 (.int .i8 0) 1 Tryz.underlying124 hi hz0 hz1 .i64 .i64 _ _ S rfl rfl (by omega) (by omega) (by rw [hz2]; omega) (by unfold maxLen; omega) (Nat.le_refl _) ?_; intro w3 hown3 hgrow3; have hb3 : Below w2.heap.size w2 w3 := (Below.refl _ w2).grown hgrow3 (Nat.le_refl _) (fun k e => by cases e); have HR := Lib.hid (rw_made (ty := 126) (W := 1) hown3); have HB := Lib.hid (hb3.alloc hb3.size (.cells #[.int .i64 ((1 : Nat) : Int), .slice (some ⟨w2.heap.size, 0, none⟩) S S] 126)); clear hown3 hgrow3)
    go_ret
    exact ⟨_, _, rfl, hb3.size, Nat.le_refl _, HR.out, HB.out⟩
  · obtain ⟨i0, hi, hz0, hz1, hz2⟩ := info_parts Tryz.info16
    rw [show wd L = 2 by simp [wd, a, b]] at C1 ⊢
    rw [show kd L = .i16 by simp [kd, a, b], show rty L = 127 by simp [rty, a, b]]
    clear hS
    go_enter Tryz.func85, Tryz.ntmps85
    go_wp2_with fail
    refine C1.mono ?_
    rintro e w1 ⟨rfl, rfl⟩
    go_wp2_with fail
    refine C2.mono ?_
    rintro e w2 ⟨rfl, rfl⟩
    go_wp2_with (at_make; refine wpList_make_full _ rfl _ _ 128 rfl w2.heap.size 187 i0 (.int .i16 0) 1 Tryz.underlying128 hi hz0 hz1 .i64 .i64 _ _ S rfl rfl (by omega) (by omega) (by rw [hz2]; omega) (by unfold maxLen; omega) (Nat.le_refl _) ?_; intro w3 hown3 hgrow3; have hb3 : Below w2.heap.size w2 w3 := (Below.refl _ w2).grown hgrow3 (Nat.le_refl _) (fun k e => by cases e); have HR := Lib.hid (rw_made (ty := 130) (W := 2) hown3); have HB := Lib.hid (hb3.alloc hb3.size (.cells #[.int .i64 ((2 : Nat) : Int), .slice (some ⟨w2.heap.size, 0, none⟩) S S] 130)); clear hown3 hgrow3)
    go_ret
    exact ⟨_, _, rfl, hb3.size, Nat.le_refl _, HR.out, HB.out⟩
  · obtain ⟨i0, hi, hz0, hz1, hz2⟩ := info_parts Tryz.info32
    rw [show wd L = 4 by simp [wd, a, b]] at C1 ⊢
    rw [show kd L = .i32 by simp [kd, a, b], show rty L = 131 by simp [rty, a, b]]
    clear hS
    go_enter Tryz.func85, Tryz.ntmps85
    go_wp2_with fail
    refine C1.mono ?_
    rintro e w1 ⟨rfl, rfl⟩
    go_wp2_with fail
    refine C2.mono ?_
    rintro e w2 ⟨rfl, rfl⟩
    go_wp2_with (at_make; refine wpList_make_full _ rfl _ _ 132 rfl w2.heap.size 21 i0 (.int .i32 0) 1 Tryz.underlying132 hi hz0 hz1 .i64 .i64 _ _ S rfl rfl (by omega) (by omega) (by rw [hz2]; omega) (by unfold maxLen; omega) (Nat.le_refl _) ?_; intro w3 hown3 hgrow3; have hb3 : Below w2.heap.size w2 w3 := (Below.refl _ w2).grown hgrow3 (Nat.le_refl _) (fun k e => by cases e); have HR := Lib.hid (rw_made (ty := 134) (W := 4) hown3); have HB := Lib.hid (hb3.alloc hb3.size (.cells #[.int .i64 ((4 : Nat) : Int), .slice (some ⟨w2.heap.size, 0, none⟩) S S] 134)); clear hown3 hgrow3)
    go_ret
    exact ⟨_, _, rfl, hb3.size, Nat.le_refl _, HR.out, HB.out⟩
theorem new_no (l : Int) (hl : ¬ (3 ≤ l ∧ l ≤ 20)) (w : World) : Calls Tryz.prog 77 #[.int .i64 l] w fun e w' => e = .returned (.tuple #[.pointer none, .int .i64 1]) ∧ w' = w := by
  have C1 := isLog_no l hl w
  clear hl
  go_enter Tryz.func77, Tryz.ntmps77
  go_wp2_with fail
  refine C1.mono ?_
  rintro e w1 ⟨rfl, rfl⟩
  clear C1
  go_wp2
  go_ret2
  exact ⟨rfl, rfl⟩
set_option maxRecDepth 100000 in
set_option maxHeartbeats 2000000 in
theorem new_any {L S : Nat} (hS : Sz L S) (w : World) : Calls Tryz.prog 77 #[.int .i64 (L : Int)] w fun e w' => ∃ g r h, e = .returned (.tuple #[.pointer (some ⟨g, 0, none⟩), .int .i64 0]) ∧ w.heap.size ≤ g ∧ w.heap.size ≤ r ∧ w.heap.size ≤ h ∧ Cl w' g r h L S (fun _ => -1) ∧ Below w.heap.size w w' := by
  have C1 := isLog_yes hS w
  have C2 := newRow_any hS w
  have hm := hS.most
  have HSZ := Lib.hid hS
  have hrm : (-2 : Int) ≤ -1 ∧ (-1 : Int) < ((rm S : Nat) : Int) := by omega
  have hrm0 : (-2 : Int) ≤ 0 ∧ (0 : Int) < ((rm S : Nat) : Int) := by have := hS.pos; unfold rm; omega
  have HE := Lib.hid (e_set L)
  have HM := Lib.hid (m_set L)
  clear hS
  go_enter Tryz.func77, Tryz.ntmps77
  go_wp2_with fail
  refine C1.mono ?_
  rintro e w1 ⟨rfl, rfl⟩
  clear C1
  go_wp2_with fail
  refine C2.mono ?_
  rintro e w2 ⟨r, h, rfl, hr, hh, hR, hb2⟩
  clear C2
  have HC0 : Hid (Cl (w2.alloc (.cells #[.int .i64 (L : Int), .iface (rty L) (.pointer (some ⟨r, 0, none⟩))] 111)) w2.heap.size r h L S (emp 0)) := by
    have hl := hR.lt (by have := HSZ.out.pos; omega)
    refine ⟨by rw [World.cell?_alloc_at _ _ _ _ rfl]; rfl, by rw [World.cell?_alloc_at _ _ _ _ rfl]; rfl, hR.same (Below.heap_alloc _ _ _ hl.1) (Below.heap_alloc _ _ _ hl.2), HSZ.out, fun j _ => hrm0⟩
  have HB0 := Lib.hid (hb2.alloc hb2.size (.cells #[.int .i64 (L : Int), .iface (rty L) (.pointer (some ⟨r, 0, none⟩))] 111))
  have hg : w1.heap.size ≤ w2.heap.size := hb2.size
  clear hR hb2
  go_upto_region 4 with fail
  generalize World.alloc _ _ = w3 at HC0 HB0 ⊢
  generalize w2.heap.size = g at *
  have C3 := sizeM_any HC0.out
  go_wp2_with fail
  refine C3.mono ?_
  rintro e w4 ⟨rfl, rfl⟩
  clear C3
  go_wp2_with fail
  go_loopw [16] (fun iv wr => ∃ k : Nat, k ≤ S ∧ iv = .int .i64 (k : Int) ∧ Cl wr g r h L S (emp k) ∧ Below w1.heap.size w1 wr) (fun iv _ => S - (intOf iv).toNat)
  case atStart => exact ⟨0, Nat.zero_le _, rfl, HC0.out, HB0.out⟩
  case round =>
    clear HC0 HB0
    obtain ⟨k, hk, rfl, hC, hB⟩ := hrel
    by_cases hlt : k < S
    · have t1 : (k : Int) < (S : Int) := by omega
      have h1 := hC.c1
      have C4 := row_set hC.rw k hlt (-1) (fits HSZ.out (-1) hrm.1 hrm.2)
      have HP := Lib.hid (hC.put k hlt (-1) hrm)
      rw [emp_upd] at HP
      have HBP := Lib.hid (hB.setCell (p := ⟨h, k, none⟩) hh (.int (kd L) (-1)))
      have hm := fun w => HM.out (some ⟨r, 0, none⟩) w
      have he := HE.out
      clear hC
      generalize setF L = Y at *
      generalize hT : rty L = T at h1 hm ⊢
      generalize World.setCell _ _ _ = wp at C4 HP HBP
      clear hT
      go_wp2_with fail
      refine C4.mono ?_
      rintro e w5 ⟨rfl, rfl⟩
      clear C4
      go_wp2_with fail
      go_roundw
      case rel => exact ⟨k + 1, by omega, by go_num, HP.out, HBP.out⟩
      case measure => simp [intOf]; omega
    · have t1 : ¬ (k : Int) < (S : Int) := by omega
      obtain rfl : k = S := by omega
      have HCC := Lib.hid (hC.congr (f' := fun _ => -1) (fun j hj => by unfold emp; rw [if_pos hj]))
      go_wp2
      go_ret2
      exact ⟨g, rfl, hg, r, hr, h, hh, HCC.out, hB⟩
end Go.Proofs.YtjkggidcheagpaaGreat
