/-
  bytes of the rows of int32.
-/
import Derived.Deep.RegionHeld3
import Derived.Deep.CutRange
import Derived.Test.YtajbieokcdejgaaCeByt
namespace Go.Proofs.Ytajbieokcdejgaa
open Go.RowKit Go.WideShapes

set_option maxRecDepth 100000 in
set_option maxHeartbeats 4000000 in
theorem bytes32 {w : World} {r h S cap : Nat} {f : Nat → Int} (hR : Rw w r h .i32 4 S cap f) (hS : S ≤ 1048576) :
    Calls Try.prog 69 #[.pointer (some ⟨r, 0, none⟩)] w fun e w' => ∃ v, e = .returned v ∧ Byt w.heap.size w' v (S * 4) (bt 4 f) ∧ Below w.heap.size w w' := by
  obtain ⟨i0, hi, hz0, hz1, hz2⟩ := info_parts Try.infoByte
  have h0 := hR.r0
  have h1 := hR.r1
  have h0' := Lib.hid h0
  have h5 := hR.le
  have l1 := lt_of_cell h0
  have HC : Hid (∀ j, j < S → w.cell? ⟨h, j, none⟩ = some (.int .i32 (f j)) ∧ h < w.heap.size) := fun j hj => ⟨hR.hc j hj, lt_of_cell (hR.hc j hj)⟩
  have e3 : IntKind.i64.wrap ((S : Int) * 4) = ((S * 4 : Nat) : Int) := by rw [IntKind.wrap_i64]; omega
  obtain ⟨w3, hrun, hown3, hgrow3⟩ := run_make_own (P := Try.prog) w.drew w.heap.size 36 5 i0 (.int .u8 0) 1 Try.underlying36 hi hz0 hz1 .i64 .i64 (S * 4) (by rw [hz2]; omega) (by unfold maxLen; omega) (Nat.le_refl _)
  rw [← e3] at hrun
  have HI : Hid (Byt w.heap.size w3 (.slice (some ⟨w.heap.size, 0, none⟩) 0 (S * 4)) 0 (bt 4 f)) := hown3
  have hb3 : Below w.heap.size w w3 := ((Below.refl _ w).drew).grown hgrow3 (Nat.le_refl _) (fun k e => by cases e)
  have q0 : w3.cell? ⟨r, 0, none⟩ = some (.int .i64 4) := (hb3.cell (p := ⟨r, 0, none⟩) l1).trans h0
  have q1 : w3.cell? ⟨r, 1, none⟩ = some (.slice (some ⟨h, 0, none⟩) S cap) := (hb3.cell (p := ⟨r, 1, none⟩) l1).trans h1
  clear hown3 hgrow3 e3
  clear hR
  go_enter Try.func69, Try.ntmps69
  go_wp2_with fail
  go_region_held3 (fun W => W.cell? ⟨r, 0, none⟩ = some (.int .i64 4) ∧ W.cell? ⟨r, 1, none⟩ = some (.slice (some ⟨h, 0, none⟩) S cap))
    (first | exact ⟨h0, h1⟩ | exact ⟨q0, q1⟩ | fail)
    (fail)
  generalize IntKind.i64.wrap ((S : Int) * 4) = zz
  clear h0 h1 hrun
  go_upto_region 2 with fail
  have HB3 := Lib.hid hb3
  have hl3 := hb3.size
  clear hb3
  go_wp2_with fail
  go_loopw [3, 23] (fun v iv wr => ∃ k : Nat, k ≤ S ∧ iv = .int .i64 (k : Int) ∧ Byt w.heap.size wr v (k * 4) (bt 4 f) ∧ Below w.heap.size w wr) (fun _ iv _ => S - (intOf iv).toNat)
  case atStart => exact ⟨0, Nat.zero_le _, rfl, by rw [Nat.zero_mul]; first | exact HI.out | simpa using HI.out, HB3.out⟩
  case round =>
    clear HI HB3 q0 q1
    obtain ⟨k, hk, rfl, hI, hB⟩ := hrel
    by_cases hlt : k < S
    · have t1 : (k : Int) < (S : Int) := by omega
      obtain ⟨c1, c2⟩ := HC.out k hlt
      have d1 : wr.cell? ⟨h, k, none⟩ = some (.int .i32 (f k)) := (hB.cell (p := ⟨h, k, none⟩) c2).trans c1
      have d0 : wr.cell? ⟨r, 0, none⟩ = some (.int .i64 4) := (hB.cell (p := ⟨r, 0, none⟩) l1).trans h0'.out
      go_wp2_with fail
      go_loopw [3, 31] (fun v iv wq => ∃ q : Nat, q ≤ 4 ∧ iv = .int .i64 (q : Int) ∧ Byt w.heap.size wq v (k * 4 + q) (bt 4 f) ∧ Below w.heap.size w wq) (fun _ iv _ => 4 - (intOf iv).toNat)
      case atStart => exact ⟨0, Nat.zero_le _, rfl, hI, hB⟩
      case round =>
        clear hI hB d1 d0
        obtain ⟨q, hq, rfl, hI, hB⟩ := hrel
        by_cases hlq : q < 4
        · have t2 : (q : Int) < 4 := by omega
          have hown : wr.ownsRow w.heap.size 5 1 u3 (k * 4 + q) (bl (k * 4 + q) (bt 4 f)) := hI
          have hsz := hB.size
          have FIN : Hid (∀ (x : Int) (v' : Value) (w2 : World), w2.ownsRow w.heap.size 5 1 v' (k * 4 + q + 1) (bl (k * 4 + q) (bt 4 f) ++ [.int .u8 x]) → x = f k / 256 ^ q % 256 → Byt w.heap.size w2 v' (k * 4 + (q + 1)) (bt 4 f)) := fun x v' w2 h5 e => by
            rw [← Nat.add_assoc]
            exact Byt.snoc h5 (by rw [bt_at _ _ _ _ hlq]; exact e)
          have hmx : k * 4 + q ≤ 4194304 := by omega
          clear hI
          generalize bl (k * 4 + q) (bt 4 f) = R at hown FIN
          generalize k * 4 + q = m at hown FIN hmx
          generalize f k = x at FIN
          rcases (by omega : q = 0 ∨ q = 1 ∨ q = 2 ∨ q = 3) with rfl | rfl | rfl | rfl
          all_goals
            go_wp2_with (at_builtin; refine wpList_append_own _ rfl _ _ 36 rfl w.heap.size 5 i0 (.int .u8 0) 1 1 Try.underlying36 hi hz0 hz1 hz2 rfl (by decide) _ _ _ rfl (World.ownsRow.alloc hown _) ⟨wr.heap.size, 0, none⟩ 1 1 [.int .u8 _] rfl rfl (new_one _ _ _) (by simp [Value.oneCell']) (by unfold maxLen; omega) (by omega) (by simp; omega) ?_; intro v' w2 hown2 hgrow _; have hI2 := Lib.hid (FIN.out _ v' w2 hown2 (by simp)); have hgrow' : (wr.alloc (.cells #[.int .u8 _] 5)).grownBy w2 u3.ownBlock := hgrow; have hb2 := below_grown hB (Nat.le_refl _) hown hgrow'; clear hgrow hgrow' hown2)
            go_roundw
            case rel => exact ⟨_, by omega, by go_num, hI2.out, hb2⟩
            case measure => simp [intOf]

        · have t2 : ¬ (q : Int) < 4 := by omega
          obtain rfl : q = 4 := by omega
          go_wp2_with fail
          go_roundw
          case rel => exact ⟨k + 1, by omega, by go_num, by rw [Nat.add_mul, Nat.one_mul]; exact hI, hB⟩
          case measure => simp [intOf]; omega
    · have t1 : ¬ (k : Int) < (S : Int) := by omega
      obtain rfl : k = S := by omega
      go_wp2
      go_ret
      exact ⟨_, rfl, by first | exact hI | simpa using hI, hB⟩
end Go.Proofs.Ytajbieokcdejgaa
