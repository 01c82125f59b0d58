/-
  get and set of the rows of three widths.
-/
import Derived.Test.YtdjabdmnknlaeaaGreatCeTell
namespace Go.Proofs.YtdjabdmnknlaeaaGreat
open Go.RowKit Go.WideShapes

theorem get8 {w : World} {r h W S cap : Nat} {f : Nat → Int} (hR : Rw w r h .i8 W S cap f) (i : Nat) (hi : i < S) (hf : -2147483648 ≤ f i ∧ f i < 2147483648) :
    Calls Tryz.prog 111 #[.pointer (some ⟨r, 0, none⟩), .int .i64 (i : Int)] w fun e w' => e = .returned (.int .i64 (f i)) ∧ w' = w := by
  have h1 := hR.r1
  have h2 := hR.hc i hi
  have h3 : IntKind.i64.wrap (f i) = f i := i64_small (by omega) (by omega)
  have h4 : (i : Int) < (S : Int) := by omega
  have h5 := hR.le
  clear hR
  generalize f i = v at *
  go_enter Tryz.func111, Tryz.ntmps111
  go_wp2
  go_ret
  exact ⟨rfl, rfl⟩
theorem set8 {w : World} {r h W S cap : Nat} {f : Nat → Int} (hR : Rw w r h .i8 W S cap f) (i : Nat) (hi : i < S) (v : Int) (hv : IntKind.i8.wrap v = v) :
    Calls Tryz.prog 113 #[.pointer (some ⟨r, 0, none⟩), .int .i64 (i : Int), .int .i64 v] w fun e w' => e = .returned (.tuple #[]) ∧ w' = w.setCell ⟨h, i, none⟩ (.int .i8 v) := by
  have h1 := hR.r1
  have h2 := hR.hc i hi
  have h3 := hR.hz i
  have h4 : (i : Int) < (S : Int) := by omega
  have h5 := hR.le
  clear hR
  go_enter Tryz.func113, Tryz.ntmps113
  go_wp2
  go_end0
  exact ⟨rfl, rfl⟩
theorem get16 {w : World} {r h W S cap : Nat} {f : Nat → Int} (hR : Rw w r h .i16 W S cap f) (i : Nat) (hi : i < S) (hf : -2147483648 ≤ f i ∧ f i < 2147483648) :
    Calls Tryz.prog 118 #[.pointer (some ⟨r, 0, none⟩), .int .i64 (i : Int)] w fun e w' => e = .returned (.int .i64 (f i)) ∧ w' = w := by
  have h1 := hR.r1
  have h2 := hR.hc i hi
  have h3 : IntKind.i64.wrap (f i) = f i := i64_small (by omega) (by omega)
  have h4 : (i : Int) < (S : Int) := by omega
  have h5 := hR.le
  clear hR
  generalize f i = v at *
  go_enter Tryz.func118, Tryz.ntmps118
  go_wp2
  go_ret
  exact ⟨rfl, rfl⟩
theorem set16 {w : World} {r h W S cap : Nat} {f : Nat → Int} (hR : Rw w r h .i16 W S cap f) (i : Nat) (hi : i < S) (v : Int) (hv : IntKind.i16.wrap v = v) :
    Calls Tryz.prog 120 #[.pointer (some ⟨r, 0, none⟩), .int .i64 (i : Int), .int .i64 v] w fun e w' => e = .returned (.tuple #[]) ∧ w' = w.setCell ⟨h, i, none⟩ (.int .i16 v) := by
  have h1 := hR.r1
  have h2 := hR.hc i hi
  have h3 := hR.hz i
  have h4 : (i : Int) < (S : Int) := by omega
  have h5 := hR.le
  clear hR
  go_enter Tryz.func120, Tryz.ntmps120
  go_wp2
  go_end0
  exact ⟨rfl, rfl⟩
theorem get32 {w : World} {r h W S cap : Nat} {f : Nat → Int} (hR : Rw w r h .i32 W S cap f) (i : Nat) (hi : i < S) (hf : -2147483648 ≤ f i ∧ f i < 2147483648) :
    Calls Tryz.prog 125 #[.pointer (some ⟨r, 0, none⟩), .int .i64 (i : Int)] w fun e w' => e = .returned (.int .i64 (f i)) ∧ w' = w := by
  have h1 := hR.r1
  have h2 := hR.hc i hi
  have h3 : IntKind.i64.wrap (f i) = f i := i64_small (by omega) (by omega)
  have h4 : (i : Int) < (S : Int) := by omega
  have h5 := hR.le
  clear hR
  generalize f i = v at *
  go_enter Tryz.func125, Tryz.ntmps125
  go_wp2
  go_ret
  exact ⟨rfl, rfl⟩
theorem set32 {w : World} {r h W S cap : Nat} {f : Nat → Int} (hR : Rw w r h .i32 W S cap f) (i : Nat) (hi : i < S) (v : Int) (hv : IntKind.i32.wrap v = v) :
    Calls Tryz.prog 127 #[.pointer (some ⟨r, 0, none⟩), .int .i64 (i : Int), .int .i64 v] w fun e w' => e = .returned (.tuple #[]) ∧ w' = w.setCell ⟨h, i, none⟩ (.int .i32 v) := by
  have h1 := hR.r1
  have h2 := hR.hc i hi
  have h3 := hR.hz i
  have h4 : (i : Int) < (S : Int) := by omega
  have h5 := hR.le
  clear hR
  go_enter Tryz.func127, Tryz.ntmps127
  go_wp2
  go_end0
  exact ⟨rfl, rfl⟩
theorem row_get {w : World} {r h W S cap L : Nat} {f : Nat → Int} (hR : Rw w r h (kd L) W S cap f) (i : Nat) (hi : i < S) (hf : -2147483648 ≤ f i ∧ f i < 2147483648) :
    Calls Tryz.prog (getF L) #[.pointer (some ⟨r, 0, none⟩), .int .i64 (i : Int)] w fun e w' => e = .returned (.int .i64 (f i)) ∧ w' = w := by
  rcases L_cases L with h1 | ⟨h1, h2⟩ | ⟨h1, h2⟩
  · rw [show kd L = .i8 by simp [kd, h1]] at hR
    rw [show getF L = 111 by simp [getF, h1]]
    exact get8 hR i hi hf
  · rw [show kd L = .i16 by simp [kd, h1, h2]] at hR
    rw [show getF L = 118 by simp [getF, h1, h2]]
    exact get16 hR i hi hf
  · rw [show kd L = .i32 by simp [kd, h1, h2]] at hR
    rw [show getF L = 125 by simp [getF, h1, h2]]
    exact get32 hR i hi hf
theorem row_set {w : World} {r h W S cap L : Nat} {f : Nat → Int} (hR : Rw w r h (kd L) W S cap f) (i : Nat) (hi : i < S) (v : Int) (hv : (kd L).wrap v = v) :
    Calls Tryz.prog (setF L) #[.pointer (some ⟨r, 0, none⟩), .int .i64 (i : Int), .int .i64 v] w fun e w' => e = .returned (.tuple #[]) ∧ w' = w.setCell ⟨h, i, none⟩ (.int (kd L) v) := by
  rcases L_cases L with h1 | ⟨h1, h2⟩ | ⟨h1, h2⟩
  · rw [show kd L = .i8 by simp [kd, h1]] at hR hv ⊢
    rw [show setF L = 113 by simp [setF, h1]]
    exact set8 hR i hi v hv
  · rw [show kd L = .i16 by simp [kd, h1, h2]] at hR hv ⊢
    rw [show setF L = 120 by simp [setF, h1, h2]]
    exact set16 hR i hi v hv
  · rw [show kd L = .i32 by simp [kd, h1, h2]] at hR hv ⊢
    rw [show setF L = 127 by simp [setF, h1, h2]]
    exact set32 hR i hi v hv
end Go.Proofs.YtdjabdmnknlaeaaGreat
