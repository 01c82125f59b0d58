/-
  each of the rows of three widths, whatever it is gone through with.
-/
import Derived.Test.YtajbieokcdejgaaCeGet
namespace Go.Proofs.Ytajbieokcdejgaa
open Go.RowKit Go.WideShapes

set_option maxRecDepth 100000 in
set_option maxHeartbeats 2000000 in
theorem each8 {w : World} {r h W S cap : Nat} {f : Nat → Int} (hR : Rw w r h .i8 W S cap f) (Y : FuncId) (caps : Array Value) (J : Nat → World → Prop) (Q : World → Prop)
    (eg : ∀ args w, (callFunc Y args).run Try.prog w = .ok (.enter Y args) w) (hS : S ≤ 1048576) (hf : ∀ i, i < S → -2147483648 ≤ f i ∧ f i < 2147483648)
    (J0 : J 0 w) (hJ : ∀ i W, J i W → ∀ j, j < S → W.cell? ⟨h, j, none⟩ = some (.int .i8 (f j)))
    (HY : Hid (∀ i W, i < S → J i W → Calls Try.prog Y (#[.int .i64 (i : Int), .int .i64 (f i)] ++ caps) W fun e W' => (e = .returned (.bool true) ∧ J (i + 1) W') ∨ (e = .returned (.bool false) ∧ Q W'))) :
    Calls Try.prog 57 #[.pointer (some ⟨r, 0, none⟩), .func (.func Y) #[] caps] w fun e w' => e = .returned (.tuple #[]) ∧ (J S w' ∨ Q w') := by
  have h1 := hR.r1
  have h5 := hR.le
  have HJ := Lib.hid hJ
  have HF := Lib.hid hf
  clear hR hJ hf
  go_enter Try.func57, Try.ntmps57
  go_wp2_with fail
  go_loopw [11] (fun iv wr => ∃ k : Nat, k ≤ S ∧ iv = .int .i64 (k : Int) ∧ J k wr) (fun iv _ => S - (intOf iv).toNat)
  case atStart => exact ⟨0, Nat.zero_le _, rfl, J0⟩
  case round =>
    obtain ⟨k, hk, rfl, hJ⟩ := hrel
    by_cases hlt : k < S
    · have t1 : (k : Int) < (S : Int) := by omega
      have h2 := HJ.out k wr hJ k hlt
      have h3 := HF.out k hlt
      have CY := HY.out k wr hlt hJ
      have h4 : IntKind.i64.wrap (f k) = f k := i64_small (by omega) (by omega)
      clear h3
      generalize f k = v at h2 CY h4
      go_wp2_with fail
      refine CY.mono ?_
      rintro e w3 (⟨rfl, hJ3⟩ | ⟨rfl, hQ3⟩)
      · clear CY
        go_wp2_with fail
        go_roundw
        case rel => exact ⟨k + 1, by omega, by go_num, hJ3⟩
        case measure => simp [intOf]; omega
      · clear CY
        go_wp2
        refine bodyPost_ret (v := .tuple #[]) (by simp [results, Try.results57, go_sem]) rfl ?_
        exact ⟨rfl, .inr hQ3⟩
    · obtain rfl : k = S := by omega
      have t1 : ¬ (k : Int) < (k : Int) := by omega
      go_wp2
      go_end0
      exact ⟨rfl, .inl hJ⟩
set_option maxRecDepth 100000 in
set_option maxHeartbeats 2000000 in
theorem each16 {w : World} {r h W S cap : Nat} {f : Nat → Int} (hR : Rw w r h .i16 W S cap f) (Y : FuncId) (caps : Array Value) (J : Nat → World → Prop) (Q : World → Prop)
    (eg : ∀ args w, (callFunc Y args).run Try.prog w = .ok (.enter Y args) w) (hS : S ≤ 1048576) (hf : ∀ i, i < S → -2147483648 ≤ f i ∧ f i < 2147483648)
    (J0 : J 0 w) (hJ : ∀ i W, J i W → ∀ j, j < S → W.cell? ⟨h, j, none⟩ = some (.int .i16 (f j)))
    (HY : Hid (∀ i W, i < S → J i W → Calls Try.prog Y (#[.int .i64 (i : Int), .int .i64 (f i)] ++ caps) W fun e W' => (e = .returned (.bool true) ∧ J (i + 1) W') ∨ (e = .returned (.bool false) ∧ Q W'))) :
    Calls Try.prog 64 #[.pointer (some ⟨r, 0, none⟩), .func (.func Y) #[] caps] w fun e w' => e = .returned (.tuple #[]) ∧ (J S w' ∨ Q w') := by
  have h1 := hR.r1
  have h5 := hR.le
  have HJ := Lib.hid hJ
  have HF := Lib.hid hf
  clear hR hJ hf
  go_enter Try.func64, Try.ntmps64
  go_wp2_with fail
  go_loopw [11] (fun iv wr => ∃ k : Nat, k ≤ S ∧ iv = .int .i64 (k : Int) ∧ J k wr) (fun iv _ => S - (intOf iv).toNat)
  case atStart => exact ⟨0, Nat.zero_le _, rfl, J0⟩
  case round =>
    obtain ⟨k, hk, rfl, hJ⟩ := hrel
    by_cases hlt : k < S
    · have t1 : (k : Int) < (S : Int) := by omega
      have h2 := HJ.out k wr hJ k hlt
      have h3 := HF.out k hlt
      have CY := HY.out k wr hlt hJ
      have h4 : IntKind.i64.wrap (f k) = f k := i64_small (by omega) (by omega)
      clear h3
      generalize f k = v at h2 CY h4
      go_wp2_with fail
      refine CY.mono ?_
      rintro e w3 (⟨rfl, hJ3⟩ | ⟨rfl, hQ3⟩)
      · clear CY
        go_wp2_with fail
        go_roundw
        case rel => exact ⟨k + 1, by omega, by go_num, hJ3⟩
        case measure => simp [intOf]; omega
      · clear CY
        go_wp2
        refine bodyPost_ret (v := .tuple #[]) (by simp [results, Try.results64, go_sem]) rfl ?_
        exact ⟨rfl, .inr hQ3⟩
    · obtain rfl : k = S := by omega
      have t1 : ¬ (k : Int) < (k : Int) := by omega
      go_wp2
      go_end0
      exact ⟨rfl, .inl hJ⟩
set_option maxRecDepth 100000 in
set_option maxHeartbeats 2000000 in
theorem each32 {w : World} {r h W S cap : Nat} {f : Nat → Int} (hR : Rw w r h .i32 W S cap f) (Y : FuncId) (caps : Array Value) (J : Nat → World → Prop) (Q : World → Prop)
    (eg : ∀ args w, (callFunc Y args).run Try.prog w = .ok (.enter Y args) w) (hS : S ≤ 1048576) (hf : ∀ i, i < S → -2147483648 ≤ f i ∧ f i < 2147483648)
    (J0 : J 0 w) (hJ : ∀ i W, J i W → ∀ j, j < S → W.cell? ⟨h, j, none⟩ = some (.int .i32 (f j)))
    (HY : Hid (∀ i W, i < S → J i W → Calls Try.prog Y (#[.int .i64 (i : Int), .int .i64 (f i)] ++ caps) W fun e W' => (e = .returned (.bool true) ∧ J (i + 1) W') ∨ (e = .returned (.bool false) ∧ Q W'))) :
    Calls Try.prog 71 #[.pointer (some ⟨r, 0, none⟩), .func (.func Y) #[] caps] w fun e w' => e = .returned (.tuple #[]) ∧ (J S w' ∨ Q w') := by
  have h1 := hR.r1
  have h5 := hR.le
  have HJ := Lib.hid hJ
  have HF := Lib.hid hf
  clear hR hJ hf
  go_enter Try.func71, Try.ntmps71
  go_wp2_with fail
  go_loopw [11] (fun iv wr => ∃ k : Nat, k ≤ S ∧ iv = .int .i64 (k : Int) ∧ J k wr) (fun iv _ => S - (intOf iv).toNat)
  case atStart => exact ⟨0, Nat.zero_le _, rfl, J0⟩
  case round =>
    obtain ⟨k, hk, rfl, hJ⟩ := hrel
    by_cases hlt : k < S
    · have t1 : (k : Int) < (S : Int) := by omega
      have h2 := HJ.out k wr hJ k hlt
      have h3 := HF.out k hlt
      have CY := HY.out k wr hlt hJ
      have h4 : IntKind.i64.wrap (f k) = f k := i64_small (by omega) (by omega)
      clear h3
      generalize f k = v at h2 CY h4
      go_wp2_with fail
      refine CY.mono ?_
      rintro e w3 (⟨rfl, hJ3⟩ | ⟨rfl, hQ3⟩)
      · clear CY
        go_wp2_with fail
        go_roundw
        case rel => exact ⟨k + 1, by omega, by go_num, hJ3⟩
        case measure => simp [intOf]; omega
      · clear CY
        go_wp2
        refine bodyPost_ret (v := .tuple #[]) (by simp [results, Try.results71, go_sem]) rfl ?_
        exact ⟨rfl, .inr hQ3⟩
    · obtain rfl : k = S := by omega
      have t1 : ¬ (k : Int) < (k : Int) := by omega
      go_wp2
      go_end0
      exact ⟨rfl, .inl hJ⟩
theorem row_each {w : World} {r h W S cap L : Nat} {f : Nat → Int} (hR : Rw w r h (kd L) W S cap f) (Y : FuncId) (caps : Array Value) (J : Nat → World → Prop) (Q : World → Prop)
    (eg : ∀ args w, (callFunc Y args).run Try.prog w = .ok (.enter Y args) w) (hS : S ≤ 1048576) (hf : ∀ i, i < S → -2147483648 ≤ f i ∧ f i < 2147483648)
    (J0 : J 0 w) (hJ : ∀ i W, J i W → ∀ j, j < S → W.cell? ⟨h, j, none⟩ = some (.int (kd L) (f j)))
    (HY : Hid (∀ i W, i < S → J i W → Calls Try.prog Y (#[.int .i64 (i : Int), .int .i64 (f i)] ++ caps) W fun e W' => (e = .returned (.bool true) ∧ J (i + 1) W') ∨ (e = .returned (.bool false) ∧ Q W'))) :
    Calls Try.prog (eachF L) #[.pointer (some ⟨r, 0, none⟩), .func (.func Y) #[] caps] w fun e w' => e = .returned (.tuple #[]) ∧ (J S w' ∨ Q w') := by
  rcases L_cases L with h1 | ⟨h1, h2⟩ | ⟨h1, h2⟩
  · rw [show kd L = .i8 by simp [kd, h1]] at hR hJ
    rw [show eachF L = 57 by simp [eachF, h1]]
    exact each8 hR Y caps J Q eg hS hf J0 hJ HY
  · rw [show kd L = .i16 by simp [kd, h1, h2]] at hR hJ
    rw [show eachF L = 64 by simp [eachF, h1, h2]]
    exact each16 hR Y caps J Q eg hS hf J0 hJ HY
  · rw [show kd L = .i32 by simp [kd, h1, h2]] at hR hJ
    rw [show eachF L = 71 by simp [eachF, h1, h2]]
    exact each32 hR Y caps J Q eg hS hf J0 hJ HY
end Go.Proofs.Ytajbieokcdejgaa
