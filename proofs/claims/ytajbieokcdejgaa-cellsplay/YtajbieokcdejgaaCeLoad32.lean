/-
  load of the rows of int32.
-/
import Derived.Test.YtajbieokcdejgaaCeSum
import Derived.Test.YtajbieokcdejgaaCeNew
namespace Go.Proofs.Ytajbieokcdejgaa
open Go.RowKit Go.WideShapes

set_option maxRecDepth 100000 in
set_option maxHeartbeats 4000000 in
theorem load32 {w : World} {r h S cap bb off bc : Nat} {f g : Nat → Int} (hR : Rw w r h .i32 4 S cap f) (hrh : r ≠ h) (hS0 : 0 < S) (hS : S ≤ 1048576) (hbh : bb ≠ h) (hbc : S * 4 ≤ bc)
    (hb : ∀ j, j < S * 4 → w.cell? ⟨bb, off + j, none⟩ = some (.int .u8 (g j))) (hg : ∀ j, j < S * 4 → 0 ≤ g j ∧ g j < 256) :
    Calls Try.prog 73 #[.pointer (some ⟨r, 0, none⟩), .slice (some ⟨bb, off, none⟩) (S * 4) bc] w fun e w' => e = .returned (.tuple #[]) ∧ Rw w' r h .i32 4 S cap (ld 4 g) ∧ But h w w' := by
  have h1 := hR.r1
  have h5 := hR.le
  have lb : bb < w.heap.size := lt_of_cell (hb 0 (by omega))
  have HB := Lib.hid hb
  have HG := Lib.hid hg
  have HR0 : Hid (Rw w r h .i32 4 S cap (mix 0 (ld 4 g) f)) := hR.congr fun j _ => by unfold mix; rw [if_neg (by omega)]
  have HL : Hid (∀ i, ld 4 g i = sgn 4 (acc 4 g i 4)) := fun i => rfl
  generalize ld 4 g = l at *
  clear hR hb hg
  go_enter Try.func73, Try.ntmps73
  go_wp2_with fail
  go_loopw [12] (fun iv wr => ∃ k : Nat, k ≤ S ∧ iv = .int .i64 (k : Int) ∧ Rw wr r h .i32 4 S cap (mix k l f) ∧ But h w wr) (fun iv _ => S - (intOf iv).toNat)
  case atStart => exact ⟨0, Nat.zero_le _, rfl, HR0.out, But.refl _ _⟩
  case round =>
    clear HR0 h1
    obtain ⟨k, hk, rfl, hR, hB⟩ := hrel
    by_cases hlt : k < S
    · have t1 : (k : Int) < (S : Int) := by omega
      have d0 := hR.r0
      have d1 := hR.r1
      have d2 := hR.hc k hlt
      have d3 := hR.hz k
      have HP := Lib.hid (hR.put hrh k hlt (l k))
      rw [mix_upd] at HP
      have HPB := Lib.hid (hB.setCell k (.int .i32 (l k)))
      generalize mix k l f k = old at d2
      clear hR
      go_wp2_with fail
      go_loopw [5, 19] (fun nv iv wq => ∃ q : Nat, q ≤ 4 ∧ iv = .int .i64 (q : Int) ∧ nv = .int .i32 (sgn 4 (acc 4 g k q)) ∧ wq = wr) (fun _ iv _ => 4 - (intOf iv).toNat)
      case atStart => exact ⟨0, Nat.zero_le _, rfl, by simp [acc, sgn], rfl⟩
      case round =>
        rename World => wo
        obtain ⟨q, hq, rfl, rfl, rfl⟩ := hrel
        by_cases hlq : q < 4
        · have t2 : (q : Int) < 4 := by omega
          rcases (by omega : q = 0 ∨ q = 1 ∨ q = 2 ∨ q = 3) with rfl | rfl | rfl | rfl
          · have hj : k * 4 < S * 4 := by omega
            have d4 : wo.cell? ⟨bb, off + (k * 4), none⟩ = some (.int .u8 (g (k * 4))) := (hB.cell (p := ⟨bb, off + (k * 4), none⟩) lb hbh).trans (HB.out _ hj)
            have hgb := HG.out _ hj
            have ha := acc_bound 4 g k 0 (fun i hi => HG.out _ (by omega))
            have HA : Hid (acc 4 g k 1 = acc 4 g k 0 + g (k * 4) * 256 ^ 0) := by
              show _ = _
              rfl
            generalize g (k * 4) = x at d4 hgb HA
            generalize hE : acc 4 g k 1 = a1 at HA
            have HE := Lib.hid hE
            clear hE
            generalize acc 4 g k 0 = a0 at ha HA
            have t4 : ((k * 4 : Nat) : Int) < ((S * 4 : Nat) : Int) := by omega
            have hs0 : sgn 4 a0 = a0 := by
              unfold sgn
              simp
              omega
            rw [hs0]
            have eo : bits BinOp.or .i32 a0 x = sgn 4 a1 := by
              rw [or_above .i32 32 0 rfl a0 (x * 1) _ (by omega) (by omega) (by omega) (by omega) (by omega) (by omega) (by omega), IntKind.wrap_i32, HA.out]
              unfold sgn
              simp
            clear hs0
            go_wp2_with fail
            go_roundw
            case rel => exact ⟨1, by omega, by go_num, by rw [HE.out], trivial⟩
            case measure => simp [intOf]
          · have hj : k * 4 + 1 < S * 4 := by omega
            have d4 : wo.cell? ⟨bb, off + (k * 4 + 1), none⟩ = some (.int .u8 (g (k * 4 + 1))) := (hB.cell (p := ⟨bb, off + (k * 4 + 1), none⟩) lb hbh).trans (HB.out _ hj)
            have hgb := HG.out _ hj
            have ha := acc_bound 4 g k 1 (fun i hi => HG.out _ (by omega))
            have HA : Hid (acc 4 g k 2 = acc 4 g k 1 + g (k * 4 + 1) * 256 ^ 1) := by
              show _ = _
              rfl
            generalize g (k * 4 + 1) = x at d4 hgb HA
            generalize hE : acc 4 g k 2 = a1 at HA
            have HE := Lib.hid hE
            clear hE
            generalize acc 4 g k 1 = a0 at ha HA
            have t4 : ((k * 4 + 1 : Nat) : Int) < ((S * 4 : Nat) : Int) := by omega
            have hs0 : sgn 4 a0 = a0 := by
              unfold sgn
              simp
              omega
            rw [hs0]
            have eo : bits BinOp.or .i32 a0 (x * 256) = sgn 4 a1 := by
              rw [or_above .i32 32 8 rfl a0 (x * 256) _ (by omega) (by omega) (by omega) (by omega) (by omega) (by omega) (by omega), IntKind.wrap_i32, HA.out]
              unfold sgn
              simp
            clear hs0
            go_wp2_with fail
            go_roundw
            case rel => exact ⟨2, by omega, by go_num, by rw [HE.out], trivial⟩
            case measure => simp [intOf]
          · have hj : k * 4 + 2 < S * 4 := by omega
            have d4 : wo.cell? ⟨bb, off + (k * 4 + 2), none⟩ = some (.int .u8 (g (k * 4 + 2))) := (hB.cell (p := ⟨bb, off + (k * 4 + 2), none⟩) lb hbh).trans (HB.out _ hj)
            have hgb := HG.out _ hj
            have ha := acc_bound 4 g k 2 (fun i hi => HG.out _ (by omega))
            have HA : Hid (acc 4 g k 3 = acc 4 g k 2 + g (k * 4 + 2) * 256 ^ 2) := by
              show _ = _
              rfl
            generalize g (k * 4 + 2) = x at d4 hgb HA
            generalize hE : acc 4 g k 3 = a1 at HA
            have HE := Lib.hid hE
            clear hE
            generalize acc 4 g k 2 = a0 at ha HA
            have t4 : ((k * 4 + 2 : Nat) : Int) < ((S * 4 : Nat) : Int) := by omega
            have hs0 : sgn 4 a0 = a0 := by
              unfold sgn
              simp
              omega
            rw [hs0]
            have eo : bits BinOp.or .i32 a0 (x * 65536) = sgn 4 a1 := by
              rw [or_above .i32 32 16 rfl a0 (x * 65536) _ (by omega) (by omega) (by omega) (by omega) (by omega) (by omega) (by omega), IntKind.wrap_i32, HA.out]
              unfold sgn
              simp
            clear hs0
            go_wp2_with fail
            go_roundw
            case rel => exact ⟨3, by omega, by go_num, by rw [HE.out], trivial⟩
            case measure => simp [intOf]
          · have hj : k * 4 + 3 < S * 4 := by omega
            have d4 : wo.cell? ⟨bb, off + (k * 4 + 3), none⟩ = some (.int .u8 (g (k * 4 + 3))) := (hB.cell (p := ⟨bb, off + (k * 4 + 3), none⟩) lb hbh).trans (HB.out _ hj)
            have hgb := HG.out _ hj
            have ha := acc_bound 4 g k 3 (fun i hi => HG.out _ (by omega))
            have HA : Hid (acc 4 g k 4 = acc 4 g k 3 + g (k * 4 + 3) * 256 ^ 3) := by
              show _ = _
              rfl
            generalize g (k * 4 + 3) = x at d4 hgb HA
            generalize hE : acc 4 g k 4 = a1 at HA
            have HE := Lib.hid hE
            clear hE
            generalize acc 4 g k 3 = a0 at ha HA
            have t4 : ((k * 4 + 3 : Nat) : Int) < ((S * 4 : Nat) : Int) := by omega
            have hs0 : sgn 4 a0 = a0 := by
              unfold sgn
              simp
              omega
            rw [hs0]
            have eo : bits BinOp.or .i32 a0 (wrap32 (x * 16777216)) = sgn 4 a1 := by
              rw [or_above .i32 32 24 rfl a0 (x * 16777216) _ (by omega) (by omega) (by omega) (by omega) (by omega) (by omega) (by unfold wrap32; omega), IntKind.wrap_i32, HA.out]
              unfold sgn
              simp
            clear hs0
            go_wp2_with fail
            go_roundw
            case rel => exact ⟨4, by omega, by go_num, by rw [HE.out], trivial⟩
            case measure => simp [intOf]

        · have t2 : ¬ (q : Int) < 4 := by omega
          obtain rfl : q = 4 := by omega
          rw [← HL.out k]
          go_wp2_with fail
          go_roundw
          case rel => exact ⟨k + 1, by omega, by go_num, HP.out, HPB.out⟩
          case measure => simp [intOf]; omega
    · have t1 : ¬ (k : Int) < (S : Int) := by omega
      obtain rfl : k = S := by omega
      have HF := Lib.hid (hR.congr (f' := l) fun j hj => by unfold mix; rw [if_pos hj])
      go_wp2
      go_end0
      exact ⟨rfl, HF.out, hB⟩
end Go.Proofs.Ytajbieokcdejgaa
