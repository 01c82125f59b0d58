/-
  CellsNothing, walked.
-/
import Derived.Test.YtajbieokcdejgaaCeWide
import Derived.Test.YtajbieokcdejgaaCeGoes
namespace Go.Proofs.Ytajbieokcdejgaa
open Go.RowKit Go.WideShapes

theorem No.below {w w' : World} {v : Value} (h : No w v) (hb : Below w.heap.size w w') : No w' v := by
  rcases h with rfl | ⟨g, rfl, h1⟩
  · exact .inl rfl
  · exact .inr ⟨g, rfl, (hb.cell (p := ⟨g, 1, none⟩) (lt_of_cell h1)).trans h1⟩
theorem No.drew {w : World} {v : Value} (h : No w v) : No w.drew v := h
set_option maxRecDepth 100000 in
set_option maxHeartbeats 4000000 in
theorem alike_no {w : World} {v : Value} (hN : No w v) :
    Calls Try.prog 11 #[v, .agg #[.int .i64 0, .slice none 0 0]] w fun e w' => e = .returned (.bool true) ∧ Below w.heap.size w w' := by
  obtain ⟨w1, hw1⟩ : ∃ w1, w.alloc (.cells #[.int .i64 0, .slice none 0 0] 30) = w1 := ⟨_, rfl⟩
  have k0 : w1.cell? ⟨w.heap.size, 0, none⟩ = some (.int .i64 0) := by rw [← hw1]; exact cell_new0 _ _ _ _
  have k1 : w1.cell? ⟨w.heap.size, 1, none⟩ = some (.slice none 0 0) := by rw [← hw1]; exact cell_new1 _ _ _ _
  have hb1 : Below w.heap.size w w1 := by rw [← hw1]; exact (Below.refl _ w).alloc (Nat.le_refl _) _
  have hN1 := (hN.below hb1).drew
  have CL := log_no hN1
  have CS := sizeM_no hN1
  have CR := room_no hN1
  have CW := widthM_no hN1
  have DR := rroom_zero w1.drew
  have DW := rwidth_zero w1.drew
  have HB := Lib.hid hb1.drew
  clear hN1 hN hb1
  go_enter Try.func11, Try.ntmps11
  go_upto_region 1 with fail
  clear hw1
  go_region_held3 (fun V => V.cell? ⟨w.heap.size, 0, none⟩ = some (.int .i64 0) ∧ V.cell? ⟨w.heap.size, 1, none⟩ = some (.slice none 0 0))
    (first | exact ⟨k0, k1⟩ | fail)
    (first | (go_at_call 26; refine CL.mono ?_; rintro e w2 ⟨rfl, rfl⟩)
           | (go_at_call 22; refine CS.mono ?_; rintro e w2 ⟨rfl, rfl⟩)
           | (go_at_call 23; refine CR.mono ?_; rintro e w2 ⟨rfl, rfl⟩)
           | (go_at_call 27; refine DR.mono ?_; rintro e w2 ⟨rfl, rfl⟩)
           | (go_at_call 28; refine CW.mono ?_; rintro e w2 ⟨rfl, rfl⟩)
           | (go_at_call 29; refine DW.mono ?_; rintro e w2 ⟨rfl, rfl⟩) | fail)
  go_wp2
  go_ret
  exact ⟨rfl, HB.out⟩
set_option maxRecDepth 100000 in
set_option maxHeartbeats 4000000 in
theorem nothingLaw_walk (i v : Int) (w : World) :
    Calls Try.prog 6 #[.int .i64 i, .int .i64 v] w fun e w' => e = .returned (.bool true) ∧ Below w.heap.size w w' := by
  have hfn : ∀ wx fn f1 c, (binOp .eql 40 (.func fn f1 c) .nilFunc).run Try.prog wx = .ok (.bool false) wx := fun _ _ _ _ => by kernel_rfl
  obtain ⟨w1, hw1⟩ : ∃ w1, w.alloc (.cells #[.int .i64 0, .nilIface] 51) = w1 := ⟨_, rfl⟩
  have z1 : w1.cell? ⟨w.heap.size, 1, none⟩ = some .nilIface := by rw [← hw1]; exact cell_new1 _ _ _ _
  have hb1 : Below w.heap.size w w1 := by rw [← hw1]; exact (Below.refl _ w).alloc (Nat.le_refl _) _
  have hs1 : w1.heap.size = w.heap.size + 1 := by rw [← hw1]; simp
  obtain ⟨w2, hw2⟩ : ∃ w2, w1.alloc (.cells #[.pointer none, .pointer (some ⟨w.heap.size, 0, none⟩)] 24) = w2 := ⟨_, rfl⟩
  have y0 : w2.cell? ⟨w1.heap.size, 0, none⟩ = some (.pointer none) := by rw [← hw2]; exact cell_new0 _ _ _ _
  have y1 : w2.cell? ⟨w1.heap.size, 1, none⟩ = some (.pointer (some ⟨w.heap.size, 0, none⟩)) := by rw [← hw2]; exact cell_new1 _ _ _ _
  have hb2 : Below w1.heap.size w1 w2 := by rw [← hw2]; exact (Below.refl _ w1).alloc (Nat.le_refl _) _
  have HB2 := Lib.hid (hb1.trans (hb2.mono hb1.size))
  have HV : Hid (∀ k : Nat, k < 2 → ∃ u, w2.cell? ⟨w1.heap.size, k, none⟩ = some u ∧ No w2 u) := by
    intro k hk
    rcases (by omega : k = 0 ∨ k = 1) with rfl | rfl
    · exact ⟨_, y0, .inl rfl⟩
    · exact ⟨_, y1, .inr ⟨_, rfl, (hb2.cell (p := ⟨w.heap.size, 1, none⟩) (lt_of_cell z1)).trans z1⟩⟩
  have hl2 := lt_of_cell y0
  rw [hs1] at HV hl2
  clear y0 y1 z1 hb1 hb2
  go_enter Try.func6, Try.ntmps6
  go_upto_region 3 with fail
  clear hw1 hw2 hs1
  go_wp2_with fail
  go_loopw [7] (fun kv wr => ∃ k : Nat, k ≤ 2 ∧ kv = .int .i64 (k : Int) ∧ Below w2.heap.size w2 wr) (fun kv _ => 2 - (intOf kv).toNat)
  case atStart => exact ⟨0, by omega, rfl, Below.refl _ _⟩
  case round =>
    obtain ⟨k, hk, rfl, hB⟩ := hrel
    by_cases hlt : k < 2
    · have t1 : (k : Int) < 2 := by omega
      obtain ⟨u, hu, hN⟩ := HV.out k hlt
      have c1 := (hB.cell (p := ⟨w.heap.size + 1, k, none⟩) hl2).trans hu
      have hNr := hN.below hB
      have C1 := get_no hNr i
      have C2 := allM_no hNr
      have C3 := set_no hNr i v
      have C4 := alike_no hNr
      have HB := Lib.hid hB
      have HN := Lib.hid hNr
      clear hu hN hNr hB
      go_wp2_with fail
      refine C1.mono ?_
      rintro e w3 ⟨rfl, rfl⟩
      clear C1
      go_wp2_with fail
      refine C2.mono ?_
      rintro e w3 ⟨rfl, rfl⟩
      clear C2
      go_wp2_with fail
      refine C3.mono ?_
      rintro e w3 ⟨rfl, rfl⟩
      clear C3
      go_wp2_with fail
      refine C4.mono ?_
      rintro e w4 ⟨rfl, hb4⟩
      clear C4
      have C5 := bytesM_no (HN.out.below hb4)
      have HB4 := Lib.hid (HB.out.trans (hb4.mono HB.out.size))
      clear hb4 HB HN
      go_wp2_with fail
      refine C5.mono ?_
      rintro e w5 ⟨rfl, rfl⟩
      clear C5
      go_wp2_with fail
      refine (goes_none _).mono ?_
      rintro e w6 ⟨rfl, hb6⟩
      have HB6 := Lib.hid (HB4.out.trans (hb6.mono HB4.out.size))
      clear hb6 HB4
      go_wp2_with fail
      go_roundw
      case rel => exact ⟨k + 1, by omega, by go_num, HB6.out⟩
      case measure => simp [intOf]; omega
    · have t1 : ¬ (k : Int) < 2 := by omega
      go_wp2_with fail
      refine (awake_any _).mono ?_
      rintro e w6 ⟨rfl, hb6⟩
      go_wp2
      go_ret
      have hBB := HB2.out.trans (hB.mono HB2.out.size)
      exact ⟨rfl, hBB.trans (hb6.mono hBB.size)⟩
end Go.Proofs.Ytajbieokcdejgaa
