/-
  What Sub does.
-/
import Derived.Test.YteplmnnpmekngaaAddInt
namespace Go.Proofs.Yteplmnnpmekngaa
open Go.RowKit

theorem SumRes.of {B : Nat} {w : World} {v : Value} {k z : Int} {x y : Nat} (h : ((pw 256 ≤ x ∨ pw 256 ≤ y) ∧ k = 3 ∧ v = .agg #[.bool false, .slice none 0 0]) ∨ ((x < pw 256 ∧ y < pw 256) ∧ Res B w v k z)) : SumRes B w v k x y z := h
set_option maxRecDepth 100000 in
set_option maxHeartbeats 1000000 in
theorem sub_any (na nb : Bool) (ax ay : Option Addr) (nx cx ny cy : Nat) (xs ys : List Nat) (w : World) (hx : Sl .u32 w (.slice ax nx cx) xs) (hy : Sl .u32 w (.slice ay ny cy) ys) (ox : okw xs) (oy : okw ys)
    (bx : xs.length ≤ 1000000) (by_ : ys.length ≤ 1000000) :
    Calls Try.prog 16 #[.agg #[.bool na, .slice ax nx cx], .agg #[.bool nb, .slice ay ny cy]] w fun e w' => ∃ neg a n cap k, e = .returned (.tuple #[.agg #[.bool neg, .slice a n cap], .int .i64 k]) ∧ SumRes w.heap.size w' (.agg #[.bool neg, .slice a n cap]) k (val xs) (val ys) (zv na (val xs) - zv nb (val ys)) ∧ Below w.heap.size w w' := by
  obtain ⟨hA, hB, hR, hB0⟩ := boxes3 w na nb false ax ay none nx cx ny cy 0 0 24
  go_enter Try.func16, Try.ntmps16
  go_wp2_with fail
  refine (sum_any na nb (!nb) ax ay nx cx ny cy xs ys _ (hx.below hB0) (hy.below hB0) ox oy bx by_).mono ?_
  rintro e w1 ⟨v, k, rfl, hs, hb1⟩
  rw [zv_not, ← Int.sub_eq_add_neg] at hs
  have hs' := SumRes.of hs
  clear hs
  obtain ⟨n3, a3, l3, c3, rfl⟩ := hs'.form
  have hR1 := hR.below hb1
  have r0 := hR1.c0
  have r1 := hR1.c1
  have rf0 := hR1.f0
  have rf1 := hR1.f1
  have hBw : Below w.heap.size w w1 := hB0.trans (hb1.mono hB0.size)
  have hs2 := (hs'.mono hB0.size).put hR1 n3 (.slice a3 l3 c3)
  have hfin := hR1.put n3 a3 l3 c3
  have hg0 := hfin.c0
  have hg1 := hfin.c1
  unfold put2 at hg0 hg1
  clear hA hB hR hs'
  go_wp2
  refine bodyPost_ret (v := .tuple #[.agg #[.bool n3, .slice a3 l3 c3], .int .i64 k]) ?_ rfl ⟨_, _, _, _, _, rfl, hs2, below_put2 (N := w.heap.size + 1 + 1) hBw (by omega) n3 (.slice a3 l3 c3)⟩
  simp [results, Try.f16, go_sem, hg0, hg1]
end Go.Proofs.Yteplmnnpmekngaa
