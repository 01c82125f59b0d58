/-
  StrollNothing.
-/
import Derived.Test.YtanlclegjlfmbaaGreatStLaw
namespace Go.Proofs.YtanlclegjlfmbaaGreat
open Go.RowKit Go.WideShapes

set_option maxRecDepth 100000 in
set_option maxHeartbeats 4000000 in
theorem snothing_walk (back : Bool) (n : Int) (w : World) :
    Calls Tryz.prog 4 #[.bool back, .int .i64 n] w fun e w' => e = .returned (.bool true) ∧ Below w.heap.size w w' := by
  obtain ⟨w1, hw1⟩ : ∃ y, w.alloc (.cells #[.pointer none, .bool false, .int .i64 0, .int .i64 0, .nilFunc] 43) = y := ⟨_, rfl⟩
  have hB1 : Below w.heap.size w w1 := by rw [← hw1]; exact (Below.refl _ w).alloc (Nat.le_refl _) _
  have hX1 : Blk w1 w.heap.size 5 (soF false) := by
    rw [← hw1]
    refine (Blk.new w _ _).congr fun j hj => ?_
    rcases lt5 hj with rfl | rfl | rfl | rfl | rfl <;> rfl
  have C1 := snew_nil back w1
  have HW := Lib.hid hw1
  clear hw1
  go_enter Tryz.func4, Tryz.ntmps4
  go_upto_region 2 with fail
  go_wp2_with fail
  rw [HW.out]
  refine C1.mono ?_
  rintro e w2 ⟨s, rfl, hs, hX2, hB2⟩
  clear C1
  go_upto_region 3 with fail
  obtain ⟨w3, hw3⟩ : ∃ y, w2.alloc (.cells #[.pointer none, .pointer (some ⟨w.heap.size, 0, none⟩), .pointer (some ⟨s, 0, none⟩)] 40) = y := ⟨_, rfl⟩
  have hB3 : Below w2.heap.size w2 w3 := by rw [← hw3]; exact (Below.refl _ w2).alloc (Nat.le_refl _) _
  have hR3 : Blk w3 w2.heap.size 3 (fun j => #[Value.pointer none, .pointer (some ⟨w.heap.size, 0, none⟩), .pointer (some ⟨s, 0, none⟩)].getD j .nilFunc) := by rw [← hw3]; exact Blk.new w2 _ _
  have hB13 := hB2.trans (hB3.mono hB2.size)
  have hBw : Below w.heap.size w w3 := hB1.trans (hB13.mono hB1.size)
  have HN : Hid (∀ V i, Below w3.heap.size w3 V → i < 3 → ∃ pv, V.cell? ⟨w2.heap.size, i, none⟩ = some (.pointer pv) ∧ Calls Tryz.prog 12 #[.pointer pv] V fun e w' => e = .returned (.tuple #[eV En.zero, .int .i64 10]) ∧ Below V.heap.size V w') := fun V i hV hi => by
    have hRV := hR3.of hV (by omega)
    have h1 := (hX1.of hB13 (by omega)).of hV (by omega)
    have h2 := (hX2.of hB3 (by omega)).of hV (by omega)
    have : i = 0 ∨ i = 1 ∨ i = 2 := by omega
    rcases this with rfl | rfl | rfl
    · exact ⟨none, hRV.c 0 (by omega), next_nil V⟩
    · exact ⟨_, hRV.c 1 (by omega), next_over h1⟩
    · exact ⟨_, hRV.c 2 (by omega), next_over h2⟩
  have HBw := Lib.hid hBw
  have HW3 := Lib.hid hw3
  clear hw3 hR3 hB3 hB13 hBw hX1 hX2 hB1 hB2
  rw [HW3.out]
  generalize w2.heap.size = A at *
  go_wp2_with fail
  go_loopw [7, 8, 9, 10] (fun iv _ _ _ wr => ∃ i : Nat, i ≤ 3 ∧ iv = .int .i64 (i : Int) ∧ Below w3.heap.size w3 wr) (fun iv _ _ _ _ => 3 - (intOf iv).toNat)
  case atStart => exact ⟨0, by omega, rfl, Below.refl _ _⟩
  case round =>
    obtain ⟨i, hi, rfl, hBi⟩ := hrel
    by_cases hlt : i < 3
    · have t1 : (i : Int) < 3 := by omega
      go_wp2_with fail
      rename World => wo
      go_loopw [8, 9, 10] (fun kv _ _ wq => ∃ k : Nat, k ≤ 10 ∧ kv = .int .i64 (k : Int) ∧ Below w3.heap.size w3 wq) (fun kv _ _ _ => 10 - (intOf kv).toNat)
      case atStart => exact ⟨0, by omega, rfl, hBi⟩
      case round =>
        obtain ⟨k, hk, rfl, hBk⟩ := hrel
        by_cases hkn : (k : Int) ≤ n
        · by_cases hk10 : k < 10
          · have t2 : (k : Int) < 10 := by omega
            obtain ⟨pv, c0, CX⟩ := HN.out wr i hBk hlt
            have e1 : IntKind.i64.wrap ((k : Int) + 1) = ((k + 1 : Nat) : Int) := by rw [i64_small (by omega) (by omega)]; omega
            unfold eV at CX
            go_wp2_with fail
            refine CX.mono ?_
            rintro e w5 ⟨rfl, hB5⟩
            clear CX
            obtain ⟨w6, hw6⟩ : ∃ y, w5.alloc (.cells #[.bool En.zero.live, .int .i64 En.zero.hash, .int .i64 En.zero.key, .int .i64 En.zero.value, .int .i64 En.zero.birth] 46) = y := ⟨_, rfl⟩
            have hB6 : Below w5.heap.size w5 w6 := by rw [← hw6]; exact (Below.refl _ w5).alloc (Nat.le_refl _) _
            have hX6 : Blk w6 w5.heap.size 5 (fun j => #[Value.bool false, .int .i64 0, .int .i64 0, .int .i64 0, .int .i64 0].getD j .nilFunc) := by rw [← hw6]; exact Blk.new w5 _ _
            have p0 : w6.cell? ⟨w5.heap.size, 0, none⟩ = some (.bool false) := hX6.c 0 (by omega)
            have p1 : w6.cell? ⟨w5.heap.size, 1, none⟩ = some (.int .i64 0) := hX6.c 1 (by omega)
            have p2 : w6.cell? ⟨w5.heap.size, 2, none⟩ = some (.int .i64 0) := hX6.c 2 (by omega)
            have p3 : w6.cell? ⟨w5.heap.size, 3, none⟩ = some (.int .i64 0) := hX6.c 3 (by omega)
            have p4 : w6.cell? ⟨w5.heap.size, 4, none⟩ = some (.int .i64 0) := hX6.c 4 (by omega)
            have HW6 := Lib.hid hw6
            have hq := en_neV En.zero En.zero
            have hq' : (!eqE En.zero En.zero) = false := by decide
            rw [hq'] at hq
            unfold eV at hq
            have hBn : Below w3.heap.size w3 w6 := hBk.trans ((hB5.trans (hB6.mono hB5.size)).mono hBk.size)
            clear hw6 hX6 hB6 hq'
            unfold En.zero at HW6 hq ⊢
            go_upto_region 10 with fail
            rw [HW6.out]
            go_wp2_with fail
            go_roundw
            case rel => exact ⟨k + 1, by omega, rfl, hBn⟩
            case measure => simp [intOf]; omega
          · have t2 : ¬ (k : Int) < 10 := by omega
            have e1 : IntKind.i64.wrap ((i : Int) + 1) = ((i + 1 : Nat) : Int) := by rw [i64_small (by omega) (by omega)]; omega
            go_wp2_with fail
            go_roundw
            case rel => exact ⟨i + 1, by omega, rfl, hBk⟩
            case measure => simp [intOf]; omega
        · have e1 : IntKind.i64.wrap ((i : Int) + 1) = ((i + 1 : Nat) : Int) := by rw [i64_small (by omega) (by omega)]; omega
          go_wp2_with fail
          go_roundw
          case rel => exact ⟨i + 1, by omega, rfl, hBk⟩
          case measure => simp [intOf]; omega
    · obtain rfl : i = 3 := by omega
      have t1 : ¬ ((3 : Nat) : Int) < 3 := by omega
      have CA := awake9_any wr
      go_wp2_with fail
      refine CA.mono ?_
      rintro e w9 ⟨rfl, hB9⟩
      clear CA
      go_wp2
      go_ret
      exact ⟨rfl, HBw.out.trans ((hBi.trans (hB9.mono hBi.size)).mono HBw.out.size)⟩
end Go.Proofs.YtanlclegjlfmbaaGreat
