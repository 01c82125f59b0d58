/-
  TableMeters, walked.
-/
import Derived.Test.YthaijfjodfgbnaaGreatTwPlays
import Derived.Test.YthaijfjodfgbnaaGreatTwMeter
import Derived.Test.YthaijfjodfgbnaaGreatLdm
namespace Go.Proofs.YthaijfjodfgbnaaGreat
open Go.RowKit Go.WideShapes

set_option maxRecDepth 100000 in
set_option maxHeartbeats 8000000 in
theorem meters_walk (a0 : Option Addr) (n c0 : Nat) (G : Nat → Nat → Int) (w : World) (hS : S5 w a0 n c0 G) :
    Calls Tryz.prog 4 #[.slice a0 n c0] w fun e w' => e = .returned (.bool true) ∧ Below w.heap.size w w' := by
  have hcap := hS.1
  by_cases hn : n ≤ 400
  · have tn : ¬ 400 < (n : Int) := by omega
    obtain ⟨w1, hw1⟩ : ∃ y, w.alloc (.cells #[.int .i32 0, .int .u32 0, .int .u32 0, .int .u32 0, .int .i32 0, .int .i32 0, .int .i64 0, .int .i64 0, .int .i64 0, .int .i64 0] 46) = y := ⟨_, rfl⟩
    obtain ⟨w2, hw2⟩ : ∃ y, w1.alloc (.cells #[.int .i64 0, .int .i64 0, .int .i64 0, .int .i64 0] 51) = y := ⟨_, rfl⟩
    have hb1 : Below w.heap.size w w1 := by rw [← hw1]; exact (Below.refl _ w).alloc (Nat.le_refl _) _
    have hb2 : Below w1.heap.size w1 w2 := by rw [← hw2]; exact (Below.refl _ w1).alloc (Nat.le_refl _) _
    have hs1 : w1.heap.size = w.heap.size + 1 := by rw [← hw1]; simp
    have hs2 : w2.heap.size = w1.heap.size + 1 := by rw [← hw2]; simp
    have hM1 : Me.Mt w1 w.heap.size 0 0 0 0 := by rw [← hw1]; exact Me.Mt.new w _
    have hM2 : Me.Mt w2 w.heap.size 0 0 0 0 := Me.Mt.same hM1 (hb2.block _ (by omega))
    have hC2 : Blk w2 w1.heap.size 4 (four4 0 0 0 0) := by
      rw [← hw2]
      refine (Blk.new w1 _ _).congr fun j hj => ?_
      have : j = 0 ∨ j = 1 ∨ j = 2 ∨ j = 3 := by simp at hj; omega
      rcases this with rfl | rfl | rfl | rfl <;> rfl
    have hb02 : Below w.heap.size w w2 := hb1.trans (hb2.mono hb1.size)
    rw [hs1] at hC2
    have C1 := plays_any (pm := some ⟨w.heap.size, 0, none⟩) (pr := some ⟨w.heap.size + 1, 0, none⟩) (mtOk_me w.heap.size) (mvOk_me w.heap.size) hM2 (.inr ⟨_, rfl, hC2⟩) (fun k h1 h2 => by
        have e1 := meB h1
        have e2 := meB h2
        omega) (a0 := a0) (n := n) (c0 := c0) (G := G) (fun V hV => by
        obtain ⟨k1, b, off, k2, k3⟩ := hS
        refine ⟨k1, b, off, fun h0 => ⟨(k2 h0).1, ?_⟩, fun i hi k hk => ?_⟩
        · have := (k2 h0).2
          have := hV.size
          omega
        · have hbl := (k2 (by omega)).2
          refine ((World.cell?_of_block (a := ⟨b, off + (i * 5 + k), none⟩) (hV.block b (by omega) (fun h => ?_))).trans (hb02.cell (p := ⟨b, off + (i * 5 + k), none⟩) hbl)).trans (k3 i hi k hk)
          rcases h with h | h
          · have := meB h; omega
          · have := meB h; omega) hn
    have HB := Lib.hid hb02
    have HW1 := Lib.hid hw1
    have HW2 := Lib.hid hw2
    clear hS hb1 hb2 hM1 hM2 hC2 hw1 hw2 hb02
    go_enter Tryz.func4, Tryz.ntmps4
    go_upto_region 5 with fail
    rw [HW1.out, HW2.out]
    try rw [hs1]
    go_wp2_with fail
    refine C1.mono ?_
    rintro e w3 ⟨X, p, t, a, b, rfl, hP⟩
    clear C1
    have hm : Me.Mt w3 w.heap.size a b 0 0 := hP.tw.m
    have hms := hP.tw.ms
    rcases hms with hms | ⟨mm, hms, hC3⟩
    · cases hms
    · cases hms
      have HEX := Lib.hid hP.ex
      have hmd : Me.Mt w3.drew w.heap.size a b 0 0 := Me.Mt.same hm rfl
      have CR := Me.read_any w.heap.size a b 0 0 w3.drew hmd
      have k0 : w3.drew.cell? ⟨w.heap.size + 1, 0, none⟩ = some (.int .i64 a) := hC3.c 0 (by omega)
      have k1 : w3.drew.cell? ⟨w.heap.size + 1, 1, none⟩ = some (.int .i64 b) := hC3.c 1 (by omega)
      have k2 : w3.drew.cell? ⟨w.heap.size + 1, 2, none⟩ = some (.int .i64 0) := hC3.c 2 (by omega)
      have k3 : w3.drew.cell? ⟨w.heap.size + 1, 3, none⟩ = some (.int .i64 0) := hC3.c 3 (by omega)
      have hl3 := hC3.lt (by omega)
      have s0 : (w3.drew.cell? ⟨w.heap.size + 1, 0, none⟩ = some (.int .i64 a) ∧ w3.drew.cell? ⟨w.heap.size + 1, 1, none⟩ = some (.int .i64 b)) ∧ w3.drew.cell? ⟨w.heap.size + 1, 2, none⟩ = some (.int .i64 0) ∧ w3.drew.cell? ⟨w.heap.size + 1, 3, none⟩ = some (.int .i64 0) := ⟨⟨k0, k1⟩, k2, k3⟩
      have HKP : Hid (∀ V : World, (∀ k, k < w3.heap.size → k ≠ w.heap.size → V.heap[k]? = w3.heap[k]?) → (V.cell? ⟨w.heap.size + 1, 0, none⟩ = some (.int .i64 a) ∧ V.cell? ⟨w.heap.size + 1, 1, none⟩ = some (.int .i64 b)) ∧ V.cell? ⟨w.heap.size + 1, 2, none⟩ = some (.int .i64 0) ∧ V.cell? ⟨w.heap.size + 1, 3, none⟩ = some (.int .i64 0)) := fun V hV => by
        have hC4 := hC3.same (hV (w.heap.size + 1) hl3 (by omega))
        exact ⟨⟨hC4.c 0 (by omega), hC4.c 1 (by omega)⟩, hC4.c 2 (by omega), hC4.c 3 (by omega)⟩
      have HAW := Lib.hid (fun V => awake7_any V)
      clear hP hm hC3 k0 k1 k2 k3 hmd
      go_upto_region 6 with fail
      go_region_held3 (fun V => (V.cell? ⟨w.heap.size + 1, 0, none⟩ = some (.int .i64 a) ∧ V.cell? ⟨w.heap.size + 1, 1, none⟩ = some (.int .i64 b)) ∧ V.cell? ⟨w.heap.size + 1, 2, none⟩ = some (.int .i64 0) ∧ V.cell? ⟨w.heap.size + 1, 3, none⟩ = some (.int .i64 0))
        (first | with_reducible exact s0 | with_reducible exact s4 | with_reducible exact s5 | fail)
        (first | (go_at_call 10; refine CR.mono ?_; rintro e w4 ⟨rfl, hb4, hm4⟩; unfold Me.agg4; have s4 := HKP.out w4 (fun k hk hne => hb4.block k hk hne)) | (go_at_call 8; refine (HAW.out w4).mono ?_; rintro e w5 ⟨rfl, hb5⟩; have s5 := HKP.out w5 (fun k hk hne => (hb5.block k (Nat.lt_of_lt_of_le hk hb4.size)).trans (hb4.block k hk hne))) | fail)
      have HFB : Hid (Below w.heap.size w w5) := by
        have h1 : Below w.heap.size w w3 := HB.out.trans ⟨HEX.out.os, HEX.out.tape, HEX.out.output, HEX.out.size, fun k hk => HEX.out.block k (by have := HB.out.size; omega) (fun h => by
          rcases h with h | h
          · have := meB h; omega
          · have := meB h; omega)⟩
        have h2 : Below w.heap.size w w4 := h1.trans ⟨hb4.os, hb4.tape, hb4.output, hb4.size, fun k hk => hb4.block k (by have := h1.size; show k < w3.heap.size; omega) (by omega)⟩
        exact h2.trans (hb5.mono h2.size)
      clear s0 s4 s5 CR HAW HKP hb4 hb5 hm4
      go_wp2_with fail
      go_ret
      exact ⟨rfl, HFB.out⟩
  · have tn : 400 < (n : Int) := by omega
    have CW := awake7_any w
    clear hS
    go_enter Tryz.func4, Tryz.ntmps4
    go_wp2_with fail
    refine CW.mono ?_
    rintro e w1 ⟨rfl, hb⟩
    go_wp2
    go_ret
    exact ⟨rfl, hb⟩
end Go.Proofs.YthaijfjodfgbnaaGreat
