/-
  SharedMeters, walked.
-/
import Derived.Test.YtcbhpjpkjmlcnaaGreatGxat
import Derived.Test.YtcbhpjpkjmlcnaaGreatGm
namespace Go.Proofs.YtcbhpjpkjmlcnaaGreat
open Go.RowKit Go.WideShapes

/-- plays with meters that count. -/
theorem smplays {w : World} {g : Nat} {a0 : Option Addr} {n c0 : Nat} {G : Nat → Stp} (room most : Int) (hM : Me.Mt w g 0 0 0 0) (hC : Blk w (g + 1) 4 (four4 0 0 0 0)) (hrow : ∀ V, Ex (fun k => mB (.pointer (some ⟨g, 0, none⟩)) k ∨ mB (.pointer (some ⟨g + 1, 0, none⟩)) k) w V → S4 V a0 n c0 G) (hn : n ≤ 300) (hnm : ∀ i, i < n → (G i).name.size ≤ 200) :
    Calls Tryz.prog 6 #[.int .i64 room, .int .i64 most, .slice a0 n c0, .pointer (some ⟨g, 0, none⟩), .pointer (some ⟨g + 1, 0, none⟩)] w fun e w' => e = .returned (.bool true) ∧ ∃ a b c d, Me.Mt w' g a b c d ∧ Ms w' (.pointer (some ⟨g + 1, 0, none⟩)) a b c d ∧ Ex (fun k => mB (.pointer (some ⟨g, 0, none⟩)) k ∨ mB (.pointer (some ⟨g + 1, 0, none⟩)) k) w w' := by
  by_cases h : 0 ≤ room ∧ room ≤ 256 ∧ 0 ≤ most ∧ most ≤ 65536
  · obtain ⟨r, rfl⟩ := Int.eq_ofNat_of_zero_le h.1
    obtain ⟨m, rfl⟩ := Int.eq_ofNat_of_zero_le h.2.2.1
    refine (plays10_any (pm := some ⟨g, 0, none⟩) (pr := some ⟨g + 1, 0, none⟩) (N := me5 g) (m4_me5 g) hM (.inr ⟨_, rfl, hC⟩) (fun k h1 h2 => by
      have e1 := meB h1
      have e2 := meB h2
      omega) hrow hn hnm r m (by omega) (by omega)).mono ?_
    rintro e w' ⟨rfl, X, S, a, b, c, d, hP⟩
    exact ⟨rfl, a, b, c, d, hP.p.m, hP.p.ms, hP.ex⟩
  · refine (plays10_no w _ _ _ room most h).mono ?_
    rintro e w' ⟨rfl, rfl⟩
    exact ⟨rfl, 0, 0, 0, 0, hM, .inr ⟨_, rfl, hC⟩, Ex.refl _ _⟩
set_option maxRecDepth 100000 in
set_option maxHeartbeats 8000000 in
theorem smeters_walk (room most : Int) (a0 : Option Addr) (n c0 : Nat) (G : Nat → Stp) (w : World) (hS : S4 w a0 n c0 G) :
    Calls Tryz.prog 4 #[.int .i64 room, .int .i64 most, .slice a0 n c0] w fun e w' => e = .returned (.bool true) ∧ Below w.heap.size w w' := by
  have CM := much_any hS
  have hcap := hS.1
  obtain ⟨w1, hw1⟩ : ∃ y, w.alloc (.cells #[.int .i32 0, .int .u32 0, .int .u32 0, .int .u32 0, .int .i32 0, .int .i32 0, .int .i64 0, .int .i64 0, .int .i64 0, .int .i64 0] 45) = y := ⟨_, rfl⟩
  obtain ⟨w2, hw2⟩ : ∃ y, w1.alloc (.cells #[.int .i64 0, .int .i64 0, .int .i64 0, .int .i64 0] 50) = y := ⟨_, rfl⟩
  have hb1 : Below w.heap.size w w1 := by rw [← hw1]; exact (Below.refl _ w).alloc (Nat.le_refl _) _
  have hb2 : Below w1.heap.size w1 w2 := by rw [← hw2]; exact (Below.refl _ w1).alloc (Nat.le_refl _) _
  have hs1 : w1.heap.size = w.heap.size + 1 := by rw [← hw1]; simp
  have hs2 : w2.heap.size = w1.heap.size + 1 := by rw [← hw2]; simp
  have hM1 : Me.Mt w1 w.heap.size 0 0 0 0 := by rw [← hw1]; exact Me.Mt.new w _
  have hM2 : Me.Mt w2.drew w.heap.size 0 0 0 0 := Me.Mt.same (Me.Mt.same hM1 (hb2.block _ (by omega))) rfl
  have hC2 : Blk w2.drew w1.heap.size 4 (four4 0 0 0 0) := by
    refine Blk.same (w := w2) ?_ rfl
    rw [← hw2]
    refine (Blk.new w1 _ _).congr fun j hj => ?_
    have : j = 0 ∨ j = 1 ∨ j = 2 ∨ j = 3 := by simp at hj; omega
    rcases this with rfl | rfl | rfl | rfl <;> rfl
  have hb02 : Below w.heap.size w w2 := hb1.trans (hb2.mono hb1.size)
  rw [hs1] at hC2
  have HROW : Hid (∀ V, Ex (fun k => mB (.pointer (some ⟨w.heap.size, 0, none⟩)) k ∨ mB (.pointer (some ⟨w.heap.size + 1, 0, none⟩)) k) w2.drew V → S4 V a0 n c0 G) := fun V hV => hS.ex (((ex_of hb02).drew : Ex (fun k => k = w.heap.size ∨ k = w.heap.size + 1) w w2.drew).next (hV.mono fun k _ h => h.elim (fun h => .inl (meB h)) (fun h => .inr (meB h))) (fun _ _ y => y)) (fun k y => by omega)
  have HM2 := Lib.hid hM2
  have HC2 := Lib.hid hC2
  have HB := Lib.hid hb02
  have HW1 := Lib.hid hw1
  have HW2 := Lib.hid hw2
  have HAW := Lib.hid (fun V => awake10_any V)
  clear hS hb1 hb2 hM1 hM2 hC2 hw1 hw2 hb02
  go_enter Tryz.func4, Tryz.ntmps4
  go_wp2_with fail
  refine CM.mono ?_
  rintro e w0 ⟨b, rfl, rfl, hb⟩
  clear CM
  cases b with
  | true =>
    clear hb
    have CA := HAW.out w0
    go_wp2_with fail
    refine CA.mono ?_
    rintro e w3 ⟨rfl, hb3⟩
    go_wp2_with fail
    go_ret
    exact ⟨rfl, hb3⟩
  | false =>
    obtain ⟨hn, hnm⟩ := hb rfl
    have C1 := smplays (g := w0.heap.size) (a0 := a0) (n := n) (c0 := c0) (G := G) room most HM2.out HC2.out HROW.out hn hnm
    clear hb hnm
    go_upto_region 5 with fail
    rw [HW1.out, HW2.out]
    try rw [hs1]
    go_region_with (first
      | (go_at_call 6; refine C1.mono ?_; rintro e w3 ⟨rfl, a, b, c, d, hm, hms, hPX⟩; obtain ⟨gm, hms0, hC3⟩ : ∃ gm : Nat, gm = w0.heap.size + 1 ∧ Blk w3 gm 4 (four4 a b c d) := by {
            rcases hms with hms | ⟨mm, hms, hC3⟩
            · cases hms
            · cases hms
              exact ⟨_, rfl, hC3⟩ }
         subst hms0; have CR := Me.read_any w0.heap.size a b c d w3 hm; have HC3 := Lib.hid hC3; have k0 : w3.cell? ⟨w0.heap.size + 1, 0, none⟩ = some (.int .i64 a) := hC3.c 0 (by omega); have k1 : w3.cell? ⟨w0.heap.size + 1, 1, none⟩ = some (.int .i64 b) := hC3.c 1 (by omega); have k2 : w3.cell? ⟨w0.heap.size + 1, 2, none⟩ = some (.int .i64 c) := hC3.c 2 (by omega); have k3 : w3.cell? ⟨w0.heap.size + 1, 3, none⟩ = some (.int .i64 d) := hC3.c 3 (by omega); have hl3 := hC3.lt (by omega); have HEX := Lib.hid hPX; clear hPX hm hC3 hms)
      | (go_at_call 8; refine CR.mono ?_; rintro e w4 ⟨rfl, hb4, hm4⟩; unfold Me.agg4; have hC4 := HC3.out.same (hb4.block (w0.heap.size + 1) hl3 (by omega)); have j0 : w4.cell? ⟨w0.heap.size + 1, 0, none⟩ = some (.int .i64 a) := hC4.c 0 (by omega); have j1 : w4.cell? ⟨w0.heap.size + 1, 1, none⟩ = some (.int .i64 b) := hC4.c 1 (by omega); have j2 : w4.cell? ⟨w0.heap.size + 1, 2, none⟩ = some (.int .i64 c) := hC4.c 2 (by omega); have j3 : w4.cell? ⟨w0.heap.size + 1, 3, none⟩ = some (.int .i64 d) := hC4.c 3 (by omega); have HB4 := Lib.hid hb4; clear hC4 hm4 hb4)
      | (go_at_call 7; refine (HAW.out w4).mono ?_; rintro e w5 ⟨rfl, hb5⟩; have HB5 := Lib.hid hb5; clear hb5)
      | fail)
    all_goals
      have HFB : Hid (Below w0.heap.size w0 w5) := by
        have h1 : Below w0.heap.size w0 w3 := (HB.out.drew).trans ⟨HEX.out.os, HEX.out.tape, HEX.out.output, HEX.out.size, fun k hk => HEX.out.block k (by have := HB.out.size; show k < w2.heap.size; omega) (fun h => by
          rcases h with h | h
          · have := meB h; omega
          · have := meB h; omega)⟩
        have h2 : Below w0.heap.size w0 w4 := h1.trans ⟨HB4.out.os, HB4.out.tape, HB4.out.output, HB4.out.size, fun k hk => HB4.out.block k (by have := h1.size; show k < w3.heap.size; omega) (by omega)⟩
        exact h2.trans (HB5.out.mono h2.size)
      clear k0 k1 k2 k3 j0 j1 j2 j3 CR HAW
      go_wp2_with fail
      go_ret
      exact ⟨rfl, HFB.out⟩
end Go.Proofs.YtcbhpjpkjmlcnaaGreat
