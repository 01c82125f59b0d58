/-
  get and set of the rows of three widths.
-/
import Derived.Test.YthaijfjodfgbnaaCeTell
namespace Go.Proofs.Ythaijfjodfgbnaa
open Go.RowKit Go.WideShapes

theorem get8 {w : World} {r h W S cap : Nat} {f : Nat → Int} (hR : Rw w r h .i8 W S cap f) (i : Nat) (hi : i < S) (hf : -2147483648 ≤ f i ∧ f i < 2147483648) :
    Calls Try.prog 83 #[.pointer (some ⟨r, 0, none⟩), .int .i64 (i : Int)] w fun e w' => e = .returned (.int .i64 (f i)) ∧ w' = w := by
  have h1 := hR.r1
  have h2 := hR.hc i hi
  have h3 : IntKind.i64.wrap (f i) = f i := i64_small (by omega) (by omega)
  have h4 : (i : Int) < (S : Int) := by omega
  have h5 := hR.le
  clear hR
  generalize f i = v at *
  go_enter Try.func83, Try.ntmps83
  go_wp2
  go_ret
  exact ⟨rfl, rfl⟩
theorem set8 {w : World} {r h W S cap : Nat} {f : Nat → Int} (hR : Rw w r h .i8 W S cap f) (i : Nat) (hi : i < S) (v : Int) (hv : IntKind.i8.wrap v = v) :
    Calls Try.prog 85 #[.pointer (some ⟨r, 0, none⟩), .int .i64 (i : Int), .int .i64 v] w fun e w' => e = .returned (.tuple #[]) ∧ w' = w.setCell ⟨h, i, none⟩ (.int .i8 v) := by
  have h1 := hR.r1
  have h2 := hR.hc i hi
  have h3 := hR.hz i
  have h4 : (i : Int) < (S : Int) := by omega
  have h5 := hR.le
  clear hR
  go_enter Try.func85, Try.ntmps85
  go_wp2
  go_end0
  exact ⟨rfl, rfl⟩
theorem get16 {w : World} {r h W S cap : Nat} {f : Nat → Int} (hR : Rw w r h .i16 W S cap f) (i : Nat) (hi : i < S) (hf : -2147483648 ≤ f i ∧ f i < 2147483648) :
    Calls Try.prog 90 #[.pointer (some ⟨r, 0, none⟩), .int .i64 (i : Int)] w fun e w' => e = .returned (.int .i64 (f i)) ∧ w' = w := by
  have h1 := hR.r1
  have h2 := hR.hc i hi
  have h3 : IntKind.i64.wrap (f i) = f i := i64_small (by omega) (by omega)
  have h4 : (i : Int) < (S : Int) := by omega
  have h5 := hR.le
  clear hR
  generalize f i = v at *
  go_enter Try.func90, Try.ntmps90
  go_wp2
  go_ret
  exact ⟨rfl, rfl⟩
theorem set16 {w : World} {r h W S cap : Nat} {f : Nat → Int} (hR : Rw w r h .i16 W S cap f) (i : Nat) (hi : i < S) (v : Int) (hv : IntKind.i16.wrap v = v) :
    Calls Try.prog 92 #[.pointer (some ⟨r, 0, none⟩), .int .i64 (i : Int), .int .i64 v] w fun e w' => e = .returned (.tuple #[]) ∧ w' = w.setCell ⟨h, i, none⟩ (.int .i16 v) := by
  have h1 := hR.r1
  have h2 := hR.hc i hi
  have h3 := hR.hz i
  have h4 : (i : Int) < (S : Int) := by omega
  have h5 := hR.le
  clear hR
  go_enter Try.func92, Try.ntmps92
  go_wp2
  go_end0
  exact ⟨rfl, rfl⟩
theorem get32 {w : World} {r h W S cap : Nat} {f : Nat → Int} (hR : Rw w r h .i32 W S cap f) (i : Nat) (hi : i < S) (hf : -2147483648 ≤ f i ∧ f i < 2147483648) :
    Calls Try.prog 97 #[.pointer (some ⟨r, 0, none⟩), .int .i64 (i : Int)] w fun e w' => e = .returned (.int .i64 (f i)) ∧ w' = w := by
  have h1 := hR.r1
  have h2 := hR.hc i hi
  have h3 : IntKind.i64.wrap (f i) = f i := i64_small (by omega) (by omega)
  have h4 : (i : Int) < (S : Int) := by omega
  have h5 := hR.le
  clear hR
  generalize f i = v at *
  go_enter Try.func97, Try.ntmps97
  go_wp2
  go_ret
  exact ⟨rfl, rfl⟩
theorem set32 {w : World} {r h W S cap : Nat} {f : Nat → Int} (hR : Rw w r h .i32 W S cap f) (i : Nat) (hi : i < S) (v : Int) (hv : IntKind.i32.wrap v = v) :
    Calls Try.prog 99 #[.pointer (some ⟨r, 0, none⟩), .int .i64 (i : Int), .int .i64 v] w fun e w' => e = .returned (.tuple #[]) ∧ w' = w.setCell ⟨h, i, none⟩ (.int .i32 v) := by
  have h1 := hR.r1
  have h2 := hR.hc i hi
  have h3 := hR.hz i
  have h4 : (i : Int) < (S : Int) := by omega
  have h5 := hR.le
  clear hR
  go_enter Try.func99, Try.ntmps99
  go_wp2
  go_end0
  exact ⟨rfl, rfl⟩
theorem row_get {w : World} {r h W S cap L : Nat} {f : Nat → Int} (hR : Rw w r h (kd L) W S cap f) (i : Nat) (hi : i < S) (hf : -2147483648 ≤ f i ∧ f i < 2147483648) :
    Calls Try.prog (getF L) #[.pointer (some ⟨r, 0, none⟩), .int .i64 (i : Int)] w fun e w' => e = .returned (.int .i64 (f i)) ∧ w' = w := by
  rcases L_cases L with h1 | ⟨h1, h2⟩ | ⟨h1, h2⟩
  · rw [show kd L = .i8 by simp [kd, h1]] at hR
    rw [show getF L = 83 by simp [getF, h1]]
    exact get8 hR i hi hf
  · rw [show kd L = .i16 by simp [kd, h1, h2]] at hR
    rw [show getF L = 90 by simp [getF, h1, h2]]
    exact get16 hR i hi hf
  · rw [show kd L = .i32 by simp [kd, h1, h2]] at hR
    rw [show getF L = 97 by simp [getF, h1, h2]]
    exact get32 hR i hi hf
theorem row_set {w : World} {r h W S cap L : Nat} {f : Nat → Int} (hR : Rw w r h (kd L) W S cap f) (i : Nat) (hi : i < S) (v : Int) (hv : (kd L).wrap v = v) :
    Calls Try.prog (setF L) #[.pointer (some ⟨r, 0, none⟩), .int .i64 (i : Int), .int .i64 v] w fun e w' => e = .returned (.tuple #[]) ∧ w' = w.setCell ⟨h, i, none⟩ (.int (kd L) v) := by
  rcases L_cases L with h1 | ⟨h1, h2⟩ | ⟨h1, h2⟩
  · rw [show kd L = .i8 by simp [kd, h1]] at hR hv ⊢
    rw [show setF L = 85 by simp [setF, h1]]
    exact set8 hR i hi v hv
  · rw [show kd L = .i16 by simp [kd, h1, h2]] at hR hv ⊢
    rw [show setF L = 92 by simp [setF, h1, h2]]
    exact set16 hR i hi v hv
  · rw [show kd L = .i32 by simp [kd, h1, h2]] at hR hv ⊢
    rw [show setF L = 99 by simp [setF, h1, h2]]
    exact set32 hR i hi v hv
end Go.Proofs.Ythaijfjodfgbnaa
