/-
  The law's does: Step.
-/
import Derived.Test.YtfhpkoakalihkaaGreatGq
namespace Go.Proofs.YtfhpkoakalihkaaGreat
open Go.RowKit Go.WideShapes

set_option maxRecDepth 100000 in
set_option maxHeartbeats 8000000 in
theorem does8_step {w : World} {X : Nat} {S : St8} {pm pr : Option Addr} {M : Int → Int → World → Prop} {a b most : Int} {c : Nat} (hP : P8 w X S (.pointer pm) (.pointer pr) M a b most c) (hMo : MtOk (.pointer pm) M) (hMv : MvOk (.pointer pm) M) (hc : c ≤ 40000) (x1 x2 x3 x4 x5 x6 : Int) (sb : Bool) :
    Calls Tryz.prog 12 #[.pointer (some ⟨X, 0, none⟩), .agg #[.int .i64 2, .int .i64 x1, .int .i64 x2, .int .i64 x3, .int .i64 x4, .int .i64 x5, .int .i64 x6, .bool sb]] w fun e w' => e = .returned (.bool true) ∧ ∃ S' a' b', D8 w X S (.pointer pm) (.pointer pr) M most (c + 33) S' a' b' w' := by
  obtain ⟨w0, hw0⟩ : ∃ V, w.alloc (.cells #[.int .i64 2, .int .i64 x1, .int .i64 x2, .int .i64 x3, .int .i64 x4, .int .i64 x5, .int .i64 x6, .bool sb] 63) = V := ⟨_, rfl⟩
  have hb0 : Below w.heap.size w w0 := by rw [← hw0]; exact (Below.refl _ w).alloc (Nat.le_refl _) _
  have hB0 : Blk w0 w.heap.size 8 (fun j => #[Value.int .i64 2, .int .i64 x1, .int .i64 x2, .int .i64 x3, .int .i64 x4, .int .i64 x5, .int .i64 x6, .bool sb].getD j .nilFunc) := by rw [← hw0]; exact Blk.new w _ _
  have hP0 := hP.below hMo hb0
  have hlS := hB0.lt (by omega)
  have hnm := hP.nm
  obtain ⟨am, capm, em, hcapm⟩ := row_len hP0.rm
  have y2 : w0.cell? ⟨X, 2, none⟩ = some (.slice am S.nm capm) := by rw [← em]; exact hP0.hx.c 2 (by omega)
  have b0 : w0.cell? ⟨w.heap.size, 0, none⟩ = some (.int .i64 2) := hB0.c 0 (by omega)
  have b5 : w0.cell? ⟨w.heap.size, 5, none⟩ = some (.int .i64 x5) := hB0.c 5 (by omega)
  have HL : Hid (∀ k, S.all X k ∨ mB (.pointer pm) k ∨ mB (.pointer pr) k → k < w.heap.size) := hP.lt
  have HP := Lib.hid hP
  have HP0 := Lib.hid hP0
  have HB0 := Lib.hid hB0
  have HBW := Lib.hid hb0
  have HMo := Lib.hid hMo
  have HMv := Lib.hid hMv
  have HW0 := Lib.hid hw0
  clear hP hP0 hB0 hb0 hMo hMv hw0 em
  go_enter Tryz.func12, Tryz.ntmps12
  go_upto_region 2 with fail
  rw [HW0.out]
  rcases (by omega : S.nm = 0 ∨ 0 < S.nm) with hz | hz
  case inl =>
    have t0 : ¬ (0 : Int) < (S.nm : Int) := by omega
    go_upto_region 6 with fail
    have HBB : Hid (Below w.heap.size w w0) := HBW.out
    have HPB : Hid (P8 w0 X S (.pointer pm) (.pointer pr) M a b most c) := HP0.out
    have HCB : Hid (Blk w0 w.heap.size 8 _) := HB0.out
    have hsB : w.heap.size < w0.heap.size := hlS
    clear HP0 HB0 HBW hlS b0 b5 y2 HW0
    generalize w0 = wB at *
    obtain ⟨am2, cap2, em2, _⟩ := row_len HPB.out.rm
    have y2 : wB.cell? ⟨X, 2, none⟩ = some (.slice am2 S.nm cap2) := by rw [← em2]; exact HPB.out.hx.c 2 (by omega)
    have v8 : wB.cell? ⟨w.heap.size, 0, none⟩ = some (.int .i64 2) := HCB.out.c 0 (by omega)
    clear em2
    go_wp2_with fail
    go_ret
    exact ⟨rfl, D8.none HP.out HMo.out HBB.out (by omega)⟩
  case inr =>
    have t0 : (0 : Int) < (S.nm : Int) := by omega
    have hr := rem8 x5 S.nm hz
    have hn0 : ¬ (S.nm : Int) = 0 := by omega
    have hn1 : ¬ S.nm = 0 := by omega
    have hn2 : ((S.nm : Int) == 0) = false := by rw [beq_eq_false_iff_ne]; omega
    obtain ⟨hp1, hp2⟩ := pix_lt x5 hz
    generalize pix x5 S.nm = kk at *
    have d5 : w0.drew.cell? ⟨w.heap.size, 5, none⟩ = some (.int .i64 x5) := b5
    have d2 : w0.drew.cell? ⟨X, 2, none⟩ = some (.slice am S.nm capm) := y2
    go_upto_region 3 with fail
    go_region_held3 (fun V => V.cell? ⟨w.heap.size, 5, none⟩ = some (.int .i64 x5) ∧ V.cell? ⟨X, 2, none⟩ = some (.slice am S.nm capm)) (first | with_reducible exact ⟨d5, d2⟩ | fail) (fail)
    clear d5 d2 hr hn0 hn1 hn2
    by_cases hneg : Int.tmod x5 (S.nm : Int) < 0
    case' pos =>
      rw [if_pos hneg] at hp2
      have e5 : IntKind.i64.wrap (Int.tmod x5 (S.nm : Int) + (S.nm : Int)) = (kk : Int) := by rw [hp2]; exact i64_small (by omega) (by omega)
      go_upto_region 6 with fail
      clear e5
    case' neg =>
      rw [if_neg hneg] at hp2
      go_upto_region 6 with fail
      try rw [hp2]
    all_goals
      clear hp2 hneg
      have HBB : Hid (Below w.heap.size w w0.drew) := HBW.out.drew
      have HPB : Hid (P8 w0.drew X S (.pointer pm) (.pointer pr) M a b most c) := HP.out.below HMo.out HBB.out
      have HCB : Hid (Blk w0.drew w.heap.size 8 _) := HB0.out.same rfl
      have hsB : w.heap.size < w0.drew.heap.size := hlS
      clear HP0 HB0 HBW hlS b0 b5 y2 HW0
      generalize w0.drew = wB at *
      obtain ⟨am2, cap2, em2, _⟩ := row_len HPB.out.rm
      have y2 : wB.cell? ⟨X, 2, none⟩ = some (.slice am2 S.nm cap2) := by rw [← em2]; exact HPB.out.hx.c 2 (by omega)
      have v8 : wB.cell? ⟨w.heap.size, 0, none⟩ = some (.int .i64 2) := HCB.out.c 0 (by omega)
      have C1 := twostep_any HPB.out HMo.out HMv.out (by omega) hp1
      unfold tuV at C1
      clear em2
      go_wp2_with fail
      refine C1.mono ?_
      rintro e w1 ⟨u, rfl, S', a', b', hD, _, _⟩
      have HD : Hid (∀ o, D8 w X S (.pointer pm) (.pointer pr) M most (c + 33) S' a' b' (w1.alloc o)) := fun o => (hD.up HBB.out (by omega : c + 1 ≤ c + 33)).after HMo.out ((Below.refl _ w1).alloc (Nat.le_refl _) o)
      clear C1 hD y2 v8
      go_wp2_with fail
      go_ret
      exact ⟨rfl, S', a', b', HD.out _⟩
end Go.Proofs.YtfhpkoakalihkaaGreat
