/-
  Cells in memory; the functions that tell their size, room and width.
-/
import Derived.Test.YtjkpailkamafcaaGreatDoorRows
import Derived.Test.YtjkpailkamafcaaGreatDoorFnMath
import Derived.WalkKit
import Derived.Below
import Derived.LoopTactic
import Derived.OwnWalkIn
namespace Go.Proofs.YtjkpailkamafcaaGreatDoor
open Go.RowKit Go.WideShapes

theorem Lib.hid {p : Prop} (h : p) : Hid p := h
theorem lt_of_cell {w : World} {b o : Nat} {v : Value} (h : w.cell? ⟨b, o, none⟩ = some v) : b < w.heap.size := by
  by_cases hb : b < w.heap.size
  · exact hb
  · rw [World.cell?, Array.getElem?_eq_none (Nat.le_of_not_lt hb)] at h
    exact absurd h (by simp)
/-- A table of S = 2 ^ L cells. -/
structure Sz (L S : Nat) : Prop where
  eq : 2 ^ L = S
  ge : 3 ≤ L
  le : L ≤ 20
theorem Sz.pos {L S : Nat} (h : Sz L S) : 8 ≤ S := by
  rw [← h.eq]
  exact Nat.le_trans (by decide) (Nat.pow_le_pow_right (by decide) h.ge)
theorem Sz.most {L S : Nat} (h : Sz L S) : S ≤ 1048576 := by
  rw [← h.eq]
  exact Nat.le_trans (Nat.pow_le_pow_right (by decide) h.le) (by decide)
theorem Sz.most7 {L S : Nat} (h : Sz L S) (h7 : L ≤ 7) : S ≤ 128 := by
  rw [← h.eq]
  exact Nat.le_trans (Nat.pow_le_pow_right (by decide) h7) (by decide)
theorem Sz.most15 {L S : Nat} (h : Sz L S) (h7 : L ≤ 15) : S ≤ 32768 := by
  rw [← h.eq]
  exact Nat.le_trans (Nat.pow_le_pow_right (by decide) h7) (by decide)
theorem Sz.int {L S : Nat} (h : Sz L S) : (2 : Int) ^ L = (S : Int) := by rw [← h.eq]; push_cast; rfl
theorem Sz.i64 {L S : Nat} (h : Sz L S) : IntKind.i64.wrap ((2 : Int) ^ L) = (S : Int) := by
  have h1 := h.most
  rw [h.int, IntKind.wrap_i64]
  omega
theorem log_cases (l : Int) : (∃ L S : Nat, l = (L : Int) ∧ Sz L S) ∨ ¬ (3 ≤ l ∧ l ≤ 20) := by
  by_cases h : 3 ≤ l ∧ l ≤ 20
  · exact .inl ⟨l.toNat, 2 ^ l.toNat, by omega, rfl, by omega, by omega⟩
  · exact .inr h

theorem wrap_i8 (n : Int) : IntKind.i8.wrap n = (n + 128) % 256 - 128 := by
  simp [IntKind.wrap, IntKind.bits, IntKind.signed]
  split <;> omega
theorem wrap_i16 (n : Int) : IntKind.i16.wrap n = (n + 32768) % 65536 - 32768 := by
  simp [IntKind.wrap, IntKind.bits, IntKind.signed]
  split <;> omega
/-- Bytes of a cell; its kind; the type of its row; the methods of that row. -/
def wd (L : Nat) : Nat := if L ≤ 7 then 1 else if L ≤ 15 then 2 else 4
def kd (L : Nat) : IntKind := if L ≤ 7 then .i8 else if L ≤ 15 then .i16 else .i32
def rty (L : Nat) : TypeId := if L ≤ 7 then 334 else if L ≤ 15 then 338 else 342
def setF (L : Nat) : FuncId := if L ≤ 7 then 302 else if L ≤ 15 then 308 else 314
def getF (L : Nat) : FuncId := if L ≤ 7 then 300 else if L ≤ 15 then 306 else 312
def bytesF (L : Nat) : FuncId := if L ≤ 7 then 297 else if L ≤ 15 then 303 else 309
def loadF (L : Nat) : FuncId := if L ≤ 7 then 301 else if L ≤ 15 then 307 else 313
def copiedF (L : Nat) : FuncId := if L ≤ 7 then 298 else if L ≤ 15 then 304 else 310
def eachF (L : Nat) : FuncId := if L ≤ 7 then 299 else if L ≤ 15 then 305 else 311
theorem L_cases (L : Nat) : L ≤ 7 ∨ (¬ L ≤ 7 ∧ L ≤ 15) ∨ (¬ L ≤ 7 ∧ ¬ L ≤ 15) := by omega

/-- A row of S cells at block h, its head at block r. -/
structure Rw (w : World) (r h : Nat) (k : IntKind) (W S cap : Nat) (f : Nat → Int) : Prop where
  r0 : w.cell? ⟨r, 0, none⟩ = some (.int .i64 (W : Int))
  r1 : w.cell? ⟨r, 1, none⟩ = some (.slice (some ⟨h, 0, none⟩) S cap)
  le : S ≤ cap
  hc : ∀ j, j < S → w.cell? ⟨h, j, none⟩ = some (.int k (f j))
  hz : ∀ j, w.frozen? ⟨h, j, none⟩ = false
/-- Cells at block g. -/
structure Cl (w : World) (g r h L S : Nat) (f : Nat → Int) : Prop where
  c0 : w.cell? ⟨g, 0, none⟩ = some (.int .i64 (L : Int))
  c1 : w.cell? ⟨g, 1, none⟩ = some (.iface (rty L) (.pointer (some ⟨r, 0, none⟩)))
  rw : Rw w r h (kd L) (wd L) S S f
  sz : Sz L S
  fit : ∀ j, j < S → -2 ≤ f j ∧ f j < (rm S : Nat)

theorem isLog_any (l : Int) (w : World) : Calls Tryz.prog 184 #[.int .i64 l] w fun e w' => e = .returned (.bool (decide (3 ≤ l ∧ l ≤ 20))) ∧ w' = w := by
  go_enter Tryz.func184, Tryz.ntmps184
  by_cases h1 : 3 ≤ l
  · by_cases h2 : l ≤ 20
    · rw [decide_eq_true (p := 3 ≤ l ∧ l ≤ 20) ⟨h1, h2⟩]
      go_wp2
      go_ret
      exact ⟨rfl, rfl⟩
    · rw [decide_eq_false (p := 3 ≤ l ∧ l ≤ 20) (fun h => h2 h.2)]
      go_wp2
      go_ret
      exact ⟨rfl, rfl⟩
  · rw [decide_eq_false (p := 3 ≤ l ∧ l ≤ 20) (fun h => h1 h.1)]
    go_wp2
    go_ret
    exact ⟨rfl, rfl⟩
theorem isLog_yes {L S : Nat} (hS : Sz L S) (w : World) : Calls Tryz.prog 184 #[.int .i64 (L : Int)] w fun e w' => e = .returned (.bool true) ∧ w' = w := by
  have := isLog_any L w
  have h1 := hS.ge
  have h2 := hS.le
  rwa [decide_eq_true (p := 3 ≤ (L : Int) ∧ (L : Int) ≤ 20) (by omega)] at this
theorem isLog_no (l : Int) (h : ¬ (3 ≤ l ∧ l ≤ 20)) (w : World) : Calls Tryz.prog 184 #[.int .i64 l] w fun e w' => e = .returned (.bool false) ∧ w' = w := by
  have := isLog_any l w
  rwa [decide_eq_false h] at this
theorem size_any {L S : Nat} (hS : Sz L S) (w : World) : Calls Tryz.prog 203 #[.int .i64 (L : Int)] w fun e w' => e = .returned (.int .i64 (S : Int)) ∧ w' = w := by
  have h1 := hS.i64
  have hle := hS.le
  have hge := hS.ge
  go_enter Tryz.func203, Tryz.ntmps203
  go_wp2
  go_ret
  exact ⟨rfl, rfl⟩
theorem width_any {L S : Nat} (hS : Sz L S) (w : World) : Calls Tryz.prog 202 #[.int .i64 (L : Int)] w fun e w' => e = .returned (.int .i64 (wd L : Int)) ∧ w' = w := by
  have hle := hS.le
  have hge := hS.ge
  go_enter Tryz.func202, Tryz.ntmps202
  by_cases h1 : L ≤ 7
  · have e1 : wd L = 1 := by simp [wd, h1]
    have i1 : (L : Int) ≤ 7 := by omega
    rw [e1]
    go_wp2
    go_ret
    exact ⟨rfl, rfl⟩
  · have i1 : ¬ (L : Int) ≤ 7 := by omega
    by_cases h2 : L ≤ 15
    · have e1 : wd L = 2 := by simp [wd, h1, h2]
      have i2 : (L : Int) ≤ 15 := by omega
      rw [e1]
      go_wp2
      go_ret
      exact ⟨rfl, rfl⟩
    · have e1 : wd L = 4 := by simp [wd, h1, h2]
      have i2 : ¬ (L : Int) ≤ 15 := by omega
      rw [e1]
      go_wp2
      go_ret
      exact ⟨rfl, rfl⟩
theorem isNone_nil (w : World) : Calls Tryz.prog 204 #[.pointer none] w fun e w' => e = .returned (.bool true) ∧ w' = w := by
  go_enter Tryz.func204, Tryz.ntmps204
  go_wp2
  go_ret
  exact ⟨rfl, rfl⟩
theorem isNone_zero (w : World) (g : Nat) (h1 : w.cell? ⟨g, 1, none⟩ = some .nilIface) : Calls Tryz.prog 204 #[.pointer (some ⟨g, 0, none⟩)] w fun e w' => e = .returned (.bool true) ∧ w' = w := by
  go_enter Tryz.func204, Tryz.ntmps204
  go_wp2
  go_ret
  exact ⟨rfl, rfl⟩
set_option maxRecDepth 100000 in
theorem isNone_some (w : World) (g : Nat) (t : TypeId) (v : Value) (h1 : w.cell? ⟨g, 1, none⟩ = some (.iface t v)) : Calls Tryz.prog 204 #[.pointer (some ⟨g, 0, none⟩)] w fun e w' => e = .returned (.bool false) ∧ w' = w := by
  have hn : ∀ w t v, (binOp .eql 316 (.iface t v) .nilIface).run Tryz.prog w = .ok (.bool false) w := fun _ _ _ => by rfl
  go_enter Tryz.func204, Tryz.ntmps204
  go_wp2
  go_ret
  exact ⟨rfl, rfl⟩
end Go.Proofs.YtjkpailkamafcaaGreatDoor
