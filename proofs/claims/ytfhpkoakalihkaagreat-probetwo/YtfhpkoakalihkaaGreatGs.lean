/-
  The law's does: Clear.
  The law's does: First.
  The law's does: Last.
  The law's does: Copy.
-/
import Derived.Test.YtfhpkoakalihkaaGreatGq
namespace Go.Proofs.YtfhpkoakalihkaaGreat
open Go.RowKit Go.WideShapes

set_option maxRecDepth 100000 in
set_option maxHeartbeats 8000000 in
theorem does8_clear {w : World} {X : Nat} {S : St8} {pm pr : Option Addr} {M : Int → Int → World → Prop} {a b most : Int} {c : Nat} (hP : P8 w X S (.pointer pm) (.pointer pr) M a b most c) (hMo : MtOk (.pointer pm) M) (hMv : MvOk (.pointer pm) M) (hc : c ≤ 40000) (x1 x2 x3 x4 x5 x6 : Int) (sb : Bool) :
    Calls Tryz.prog 12 #[.pointer (some ⟨X, 0, none⟩), .agg #[.int .i64 5, .int .i64 x1, .int .i64 x2, .int .i64 x3, .int .i64 x4, .int .i64 x5, .int .i64 x6, .bool sb]] w fun e w' => e = .returned (.bool true) ∧ ∃ S' a' b', D8 w X S (.pointer pm) (.pointer pr) M most (c + 33) S' a' b' w' := by
  obtain ⟨w0, hw0⟩ : ∃ V, w.alloc (.cells #[.int .i64 5, .int .i64 x1, .int .i64 x2, .int .i64 x3, .int .i64 x4, .int .i64 x5, .int .i64 x6, .bool sb] 63) = V := ⟨_, rfl⟩
  have hb0 : Below w.heap.size w w0 := by rw [← hw0]; exact (Below.refl _ w).alloc (Nat.le_refl _) _
  have hB0 : Blk w0 w.heap.size 8 (fun j => #[Value.int .i64 5, .int .i64 x1, .int .i64 x2, .int .i64 x3, .int .i64 x4, .int .i64 x5, .int .i64 x6, .bool sb].getD j .nilFunc) := by rw [← hw0]; exact Blk.new w _ _
  have hP0 := hP.below hMo hb0
  have hlS := hB0.lt (by omega)
  have hnm := hP.nm
  obtain ⟨am, capm, em, hcapm⟩ := row_len hP0.rm
  have y2 : w0.cell? ⟨X, 2, none⟩ = some (.slice am S.nm capm) := by rw [← em]; exact hP0.hx.c 2 (by omega)
  have b0 : w0.cell? ⟨w.heap.size, 0, none⟩ = some (.int .i64 5) := hB0.c 0 (by omega)
  have b5 : w0.cell? ⟨w.heap.size, 5, none⟩ = some (.int .i64 x5) := hB0.c 5 (by omega)
  have HL : Hid (∀ k, S.all X k ∨ mB (.pointer pm) k ∨ mB (.pointer pr) k → k < w.heap.size) := hP.lt
  have HP := Lib.hid hP
  have HP0 := Lib.hid hP0
  have HB0 := Lib.hid hB0
  have HBW := Lib.hid hb0
  have HMo := Lib.hid hMo
  have HMv := Lib.hid hMv
  have HW0 := Lib.hid hw0
  clear hP hP0 hB0 hb0 hMo hMv hw0 em
  go_enter Tryz.func12, Tryz.ntmps12
  go_upto_region 2 with fail
  rw [HW0.out]
  rcases (by omega : S.nm = 0 ∨ 0 < S.nm) with hz | hz
  case inl =>
    have t0 : ¬ (0 : Int) < (S.nm : Int) := by omega
    go_upto_region 6 with fail
    have HBB : Hid (Below w.heap.size w w0) := HBW.out
    have HPB : Hid (P8 w0 X S (.pointer pm) (.pointer pr) M a b most c) := HP0.out
    have HCB : Hid (Blk w0 w.heap.size 8 _) := HB0.out
    have hsB : w.heap.size < w0.heap.size := hlS
    clear HP0 HB0 HBW hlS b0 b5 y2 HW0
    generalize w0 = wB at *
    have k0 : S.nd - 1 < S.nd := by have := HPB.out.nd; omega
    obtain ⟨Pw, C1, H2⟩ := clear_both HPB.out HMo.out (by omega) k0
    have H2' := Lib.hid H2
    have v0 : wB.cell? ⟨X, 0, none⟩ = some (.pointer (some ⟨(S.ds (S.nd - 1)).d, 0, none⟩)) := HPB.out.hx.c 0 (by omega)
    have v8 : wB.cell? ⟨w.heap.size, 0, none⟩ = some (.int .i64 5) := HCB.out.c 0 (by omega)
    clear H2
    go_wp2_with fail
    refine C1.mono ?_
    rintro e w1 ⟨rfl, hPw⟩
    obtain ⟨hxA, C2⟩ := H2'.out w1 hPw
    have hm1 := (HPB.out.mid k0 hxA).1
    have v1 : w1.cell? ⟨X, 1, none⟩ = some (.pointer (some ⟨(S.ds (S.nd - 1)).d2, 0, none⟩)) := hm1.c 1 (by omega)
    clear C1 hPw hxA hm1 v0 v8
    go_wp2_with fail
    refine C2.mono ?_
    rintro e w2 ⟨rfl, hD⟩
    have HD := Lib.hid (hD.fin HBB.out (by omega : c + 1 ≤ c + 33))
    clear C2 hD v1
    go_wp2_with fail
    go_ret
    exact ⟨rfl, HD.out⟩
  case inr =>
    have t0 : (0 : Int) < (S.nm : Int) := by omega
    have hr := rem8 x5 S.nm hz
    have hn0 : ¬ (S.nm : Int) = 0 := by omega
    have hn1 : ¬ S.nm = 0 := by omega
    have hn2 : ((S.nm : Int) == 0) = false := by rw [beq_eq_false_iff_ne]; omega
    obtain ⟨hp1, hp2⟩ := pix_lt x5 hz
    generalize pix x5 S.nm = kk at *
    have d5 : w0.drew.cell? ⟨w.heap.size, 5, none⟩ = some (.int .i64 x5) := b5
    have d2 : w0.drew.cell? ⟨X, 2, none⟩ = some (.slice am S.nm capm) := y2
    go_upto_region 3 with fail
    go_region_held3 (fun V => V.cell? ⟨w.heap.size, 5, none⟩ = some (.int .i64 x5) ∧ V.cell? ⟨X, 2, none⟩ = some (.slice am S.nm capm)) (first | with_reducible exact ⟨d5, d2⟩ | fail) (fail)
    clear d5 d2 hr hn0 hn1 hn2
    by_cases hneg : Int.tmod x5 (S.nm : Int) < 0
    case' pos =>
      rw [if_pos hneg] at hp2
      have e5 : IntKind.i64.wrap (Int.tmod x5 (S.nm : Int) + (S.nm : Int)) = (kk : Int) := by rw [hp2]; exact i64_small (by omega) (by omega)
      go_upto_region 6 with fail
      clear e5
    case' neg =>
      rw [if_neg hneg] at hp2
      go_upto_region 6 with fail
      try rw [hp2]
    all_goals
      clear hp2 hneg
      have HBB : Hid (Below w.heap.size w w0.drew) := HBW.out.drew
      have HPB : Hid (P8 w0.drew X S (.pointer pm) (.pointer pr) M a b most c) := HP.out.below HMo.out HBB.out
      have HCB : Hid (Blk w0.drew w.heap.size 8 _) := HB0.out.same rfl
      have hsB : w.heap.size < w0.drew.heap.size := hlS
      clear HP0 HB0 HBW hlS b0 b5 y2 HW0
      generalize w0.drew = wB at *
      have k0 : S.nd - 1 < S.nd := by have := HPB.out.nd; omega
      obtain ⟨Pw, C1, H2⟩ := clear_both HPB.out HMo.out (by omega) k0
      have H2' := Lib.hid H2
      have v0 : wB.cell? ⟨X, 0, none⟩ = some (.pointer (some ⟨(S.ds (S.nd - 1)).d, 0, none⟩)) := HPB.out.hx.c 0 (by omega)
      have v8 : wB.cell? ⟨w.heap.size, 0, none⟩ = some (.int .i64 5) := HCB.out.c 0 (by omega)
      clear H2
      go_wp2_with fail
      refine C1.mono ?_
      rintro e w1 ⟨rfl, hPw⟩
      obtain ⟨hxA, C2⟩ := H2'.out w1 hPw
      have hm1 := (HPB.out.mid k0 hxA).1
      have v1 : w1.cell? ⟨X, 1, none⟩ = some (.pointer (some ⟨(S.ds (S.nd - 1)).d2, 0, none⟩)) := hm1.c 1 (by omega)
      clear C1 hPw hxA hm1 v0 v8
      go_wp2_with fail
      refine C2.mono ?_
      rintro e w2 ⟨rfl, hD⟩
      have HD := Lib.hid (hD.fin HBB.out (by omega : c + 1 ≤ c + 33))
      clear C2 hD v1
      go_wp2_with fail
      go_ret
      exact ⟨rfl, HD.out⟩
end Go.Proofs.YtfhpkoakalihkaaGreat
namespace Go.Proofs.YtfhpkoakalihkaaGreat
open Go.RowKit Go.WideShapes

set_option maxRecDepth 100000 in
set_option maxHeartbeats 8000000 in
theorem does8_first {w : World} {X : Nat} {S : St8} {pm pr : Option Addr} {M : Int → Int → World → Prop} {a b most : Int} {c : Nat} (hP : P8 w X S (.pointer pm) (.pointer pr) M a b most c) (hMo : MtOk (.pointer pm) M) (hMv : MvOk (.pointer pm) M) (hc : c ≤ 40000) (x1 x2 x3 x4 x5 x6 : Int) (sb : Bool) :
    Calls Tryz.prog 12 #[.pointer (some ⟨X, 0, none⟩), .agg #[.int .i64 6, .int .i64 x1, .int .i64 x2, .int .i64 x3, .int .i64 x4, .int .i64 x5, .int .i64 x6, .bool sb]] w fun e w' => e = .returned (.bool true) ∧ ∃ S' a' b', D8 w X S (.pointer pm) (.pointer pr) M most (c + 33) S' a' b' w' := by
  obtain ⟨w0, hw0⟩ : ∃ V, w.alloc (.cells #[.int .i64 6, .int .i64 x1, .int .i64 x2, .int .i64 x3, .int .i64 x4, .int .i64 x5, .int .i64 x6, .bool sb] 63) = V := ⟨_, rfl⟩
  have hb0 : Below w.heap.size w w0 := by rw [← hw0]; exact (Below.refl _ w).alloc (Nat.le_refl _) _
  have hB0 : Blk w0 w.heap.size 8 (fun j => #[Value.int .i64 6, .int .i64 x1, .int .i64 x2, .int .i64 x3, .int .i64 x4, .int .i64 x5, .int .i64 x6, .bool sb].getD j .nilFunc) := by rw [← hw0]; exact Blk.new w _ _
  have hP0 := hP.below hMo hb0
  have hlS := hB0.lt (by omega)
  have hnm := hP.nm
  obtain ⟨am, capm, em, hcapm⟩ := row_len hP0.rm
  have y2 : w0.cell? ⟨X, 2, none⟩ = some (.slice am S.nm capm) := by rw [← em]; exact hP0.hx.c 2 (by omega)
  have b0 : w0.cell? ⟨w.heap.size, 0, none⟩ = some (.int .i64 6) := hB0.c 0 (by omega)
  have b5 : w0.cell? ⟨w.heap.size, 5, none⟩ = some (.int .i64 x5) := hB0.c 5 (by omega)
  have HL : Hid (∀ k, S.all X k ∨ mB (.pointer pm) k ∨ mB (.pointer pr) k → k < w.heap.size) := hP.lt
  have HP := Lib.hid hP
  have HP0 := Lib.hid hP0
  have HB0 := Lib.hid hB0
  have HBW := Lib.hid hb0
  have HMo := Lib.hid hMo
  have HMv := Lib.hid hMv
  have HW0 := Lib.hid hw0
  clear hP hP0 hB0 hb0 hMo hMv hw0 em
  go_enter Tryz.func12, Tryz.ntmps12
  go_upto_region 2 with fail
  rw [HW0.out]
  rcases (by omega : S.nm = 0 ∨ 0 < S.nm) with hz | hz
  case inl =>
    have t0 : ¬ (0 : Int) < (S.nm : Int) := by omega
    go_upto_region 6 with fail
    have HBB : Hid (Below w.heap.size w w0) := HBW.out
    have HPB : Hid (P8 w0 X S (.pointer pm) (.pointer pr) M a b most c) := HP0.out
    have HCB : Hid (Blk w0 w.heap.size 8 _) := HB0.out
    have hsB : w.heap.size < w0.heap.size := hlS
    clear HP0 HB0 HBW hlS b0 b5 y2 HW0
    generalize w0 = wB at *
    have k0 : S.nd - 1 < S.nd := by have := HPB.out.nd; omega
    obtain ⟨Pw, hcl, C1, H2⟩ := first_both HPB.out HMo.out (by omega) k0
    have H2' := Lib.hid H2
    have HCL := Lib.hid hcl
    have v0 : wB.cell? ⟨X, 0, none⟩ = some (.pointer (some ⟨(S.ds (S.nd - 1)).d, 0, none⟩)) := HPB.out.hx.c 0 (by omega)
    have v8 : wB.cell? ⟨w.heap.size, 0, none⟩ = some (.int .i64 6) := HCB.out.c 0 (by omega)
    clear H2 hcl
    unfold eV at C1
    go_wp2_with fail
    refine C1.mono ?_
    rintro e w1 ⟨x, y, rfl, hPw⟩
    clear C1 v0 v8
    obtain ⟨w3, hw3⟩ : ∃ V, w1.alloc (.cells #[.bool x.live, .int .i64 x.hash, .int .i64 x.key, .int .i64 x.value, .int .i64 x.birth] 109) = V := ⟨_, rfl⟩
    have hB3 : Below w1.heap.size w1 w3 := by rw [← hw3]; exact (Below.refl _ w1).alloc (Nat.le_refl _) _
    have hX3 : Blk w3 w1.heap.size 5 (fun j => #[Value.bool x.live, .int .i64 x.hash, .int .i64 x.key, .int .i64 x.value, .int .i64 x.birth].getD j .nilFunc) := by rw [← hw3]; exact Blk.new w1 _ _
    have h1s := (H2'.out x y w1 hPw).1.size
    obtain ⟨hxA, C2⟩ := H2'.out x y w3 (HCL.out x y w1 w3 hPw hB3)
    have hm1 := (HPB.out.mid k0 hxA).1
    have v1 : w3.cell? ⟨X, 1, none⟩ = some (.pointer (some ⟨(S.ds (S.nd - 1)).d2, 0, none⟩)) := hm1.c 1 (by omega)
    have HX3 := Lib.hid hX3
    have HW3 := Lib.hid hw3
    have hs3 : w3.heap.size = w1.heap.size + 1 := by rw [← hw3]; simp
    have HLB := Lib.hid HPB.out.lt
    unfold eV at C2
    clear hPw hxA hm1 hw3 hB3 hX3
    go_upto_region 33 with fail
    rw [HW3.out]
    go_wp2_with fail
    refine C2.mono ?_
    rintro e w4 ⟨rfl, hxB, hD⟩
    clear C2 v1
    have hX4 : Blk w4 w1.heap.size 5 _ := HX3.out.same (hxB.block _ (by omega) (fun h => by
      rcases h with h | h | ⟨h, _⟩
      · have := HLB.out _ (.inl (.inr (.inr (.inr (.inl ⟨_, k0, .inr h⟩))))); omega
      · have := HLB.out _ (.inr (.inr h)); omega
      · omega))
    obtain ⟨w5, hw5⟩ : ∃ V, w4.alloc (.cells #[.bool x.live, .int .i64 x.hash, .int .i64 x.key, .int .i64 x.value, .int .i64 x.birth] 109) = V := ⟨_, rfl⟩
    have hB5 : Below w4.heap.size w4 w5 := by rw [← hw5]; exact (Below.refl _ w4).alloc (Nat.le_refl _) _
    have hX5 : Blk w5 w4.heap.size 5 (fun j => #[Value.bool x.live, .int .i64 x.hash, .int .i64 x.key, .int .i64 x.value, .int .i64 x.birth].getD j .nilFunc) := by rw [← hw5]; exact Blk.new w4 _ _
    have hX4' := hX4.of hB5 (by omega)
    have g0 : w5.cell? ⟨w1.heap.size, 0, none⟩ = some (.bool x.live) := hX4'.c 0 (by omega)
    have g1 : w5.cell? ⟨w1.heap.size, 1, none⟩ = some (.int .i64 x.hash) := hX4'.c 1 (by omega)
    have g2 : w5.cell? ⟨w1.heap.size, 2, none⟩ = some (.int .i64 x.key) := hX4'.c 2 (by omega)
    have g3 : w5.cell? ⟨w1.heap.size, 3, none⟩ = some (.int .i64 x.value) := hX4'.c 3 (by omega)
    have g4 : w5.cell? ⟨w1.heap.size, 4, none⟩ = some (.int .i64 x.birth) := hX4'.c 4 (by omega)
    have e0 : w5.cell? ⟨w4.heap.size, 0, none⟩ = some (.bool x.live) := hX5.c 0 (by omega)
    have e1 : w5.cell? ⟨w4.heap.size, 1, none⟩ = some (.int .i64 x.hash) := hX5.c 1 (by omega)
    have e2 : w5.cell? ⟨w4.heap.size, 2, none⟩ = some (.int .i64 x.key) := hX5.c 2 (by omega)
    have e3 : w5.cell? ⟨w4.heap.size, 3, none⟩ = some (.int .i64 x.value) := hX5.c 3 (by omega)
    have e4 : w5.cell? ⟨w4.heap.size, 4, none⟩ = some (.int .i64 x.birth) := hX5.c 4 (by omega)
    have hE : ∀ V, (binOp .eql 109 (eV x) (eV x)).run Tryz.prog V = .ok (.bool true) V := fun V => by rw [en_eqV, (eqE_iff x x).2 rfl]
    unfold eV at hE
    have HD := Lib.hid (hD.fin HBB.out (by omega : c + 1 ≤ c + 33))
    have HB5 := Lib.hid hB5
    have HW5 := Lib.hid hw5
    clear hX4 hX4' hX5 hB5 hw5 hD hxB
    go_upto_region 34 with fail
    rw [HW5.out]
    go_wp2_with fail
    go_ret
    obtain ⟨S', a', b', hF⟩ := HD.out
    exact ⟨rfl, S', a', b', hF.after HMo.out HB5.out⟩
  case inr =>
    have t0 : (0 : Int) < (S.nm : Int) := by omega
    have hr := rem8 x5 S.nm hz
    have hn0 : ¬ (S.nm : Int) = 0 := by omega
    have hn1 : ¬ S.nm = 0 := by omega
    have hn2 : ((S.nm : Int) == 0) = false := by rw [beq_eq_false_iff_ne]; omega
    obtain ⟨hp1, hp2⟩ := pix_lt x5 hz
    generalize pix x5 S.nm = kk at *
    have d5 : w0.drew.cell? ⟨w.heap.size, 5, none⟩ = some (.int .i64 x5) := b5
    have d2 : w0.drew.cell? ⟨X, 2, none⟩ = some (.slice am S.nm capm) := y2
    go_upto_region 3 with fail
    go_region_held3 (fun V => V.cell? ⟨w.heap.size, 5, none⟩ = some (.int .i64 x5) ∧ V.cell? ⟨X, 2, none⟩ = some (.slice am S.nm capm)) (first | with_reducible exact ⟨d5, d2⟩ | fail) (fail)
    clear d5 d2 hr hn0 hn1 hn2
    by_cases hneg : Int.tmod x5 (S.nm : Int) < 0
    case' pos =>
      rw [if_pos hneg] at hp2
      have e5 : IntKind.i64.wrap (Int.tmod x5 (S.nm : Int) + (S.nm : Int)) = (kk : Int) := by rw [hp2]; exact i64_small (by omega) (by omega)
      go_upto_region 6 with fail
      clear e5
    case' neg =>
      rw [if_neg hneg] at hp2
      go_upto_region 6 with fail
      try rw [hp2]
    all_goals
      clear hp2 hneg
      have HBB : Hid (Below w.heap.size w w0.drew) := HBW.out.drew
      have HPB : Hid (P8 w0.drew X S (.pointer pm) (.pointer pr) M a b most c) := HP.out.below HMo.out HBB.out
      have HCB : Hid (Blk w0.drew w.heap.size 8 _) := HB0.out.same rfl
      have hsB : w.heap.size < w0.drew.heap.size := hlS
      clear HP0 HB0 HBW hlS b0 b5 y2 HW0
      generalize w0.drew = wB at *
      have k0 : S.nd - 1 < S.nd := by have := HPB.out.nd; omega
      obtain ⟨Pw, hcl, C1, H2⟩ := first_both HPB.out HMo.out (by omega) k0
      have H2' := Lib.hid H2
      have HCL := Lib.hid hcl
      have v0 : wB.cell? ⟨X, 0, none⟩ = some (.pointer (some ⟨(S.ds (S.nd - 1)).d, 0, none⟩)) := HPB.out.hx.c 0 (by omega)
      have v8 : wB.cell? ⟨w.heap.size, 0, none⟩ = some (.int .i64 6) := HCB.out.c 0 (by omega)
      clear H2 hcl
      unfold eV at C1
      go_wp2_with fail
      refine C1.mono ?_
      rintro e w1 ⟨x, y, rfl, hPw⟩
      clear C1 v0 v8
      obtain ⟨w3, hw3⟩ : ∃ V, w1.alloc (.cells #[.bool x.live, .int .i64 x.hash, .int .i64 x.key, .int .i64 x.value, .int .i64 x.birth] 109) = V := ⟨_, rfl⟩
      have hB3 : Below w1.heap.size w1 w3 := by rw [← hw3]; exact (Below.refl _ w1).alloc (Nat.le_refl _) _
      have hX3 : Blk w3 w1.heap.size 5 (fun j => #[Value.bool x.live, .int .i64 x.hash, .int .i64 x.key, .int .i64 x.value, .int .i64 x.birth].getD j .nilFunc) := by rw [← hw3]; exact Blk.new w1 _ _
      have h1s := (H2'.out x y w1 hPw).1.size
      obtain ⟨hxA, C2⟩ := H2'.out x y w3 (HCL.out x y w1 w3 hPw hB3)
      have hm1 := (HPB.out.mid k0 hxA).1
      have v1 : w3.cell? ⟨X, 1, none⟩ = some (.pointer (some ⟨(S.ds (S.nd - 1)).d2, 0, none⟩)) := hm1.c 1 (by omega)
      have HX3 := Lib.hid hX3
      have HW3 := Lib.hid hw3
      have hs3 : w3.heap.size = w1.heap.size + 1 := by rw [← hw3]; simp
      have HLB := Lib.hid HPB.out.lt
      unfold eV at C2
      clear hPw hxA hm1 hw3 hB3 hX3
      go_upto_region 33 with fail
      rw [HW3.out]
      go_wp2_with fail
      refine C2.mono ?_
      rintro e w4 ⟨rfl, hxB, hD⟩
      clear C2 v1
      have hX4 : Blk w4 w1.heap.size 5 _ := HX3.out.same (hxB.block _ (by omega) (fun h => by
        rcases h with h | h | ⟨h, _⟩
        · have := HLB.out _ (.inl (.inr (.inr (.inr (.inl ⟨_, k0, .inr h⟩))))); omega
        · have := HLB.out _ (.inr (.inr h)); omega
        · omega))
      obtain ⟨w5, hw5⟩ : ∃ V, w4.alloc (.cells #[.bool x.live, .int .i64 x.hash, .int .i64 x.key, .int .i64 x.value, .int .i64 x.birth] 109) = V := ⟨_, rfl⟩
      have hB5 : Below w4.heap.size w4 w5 := by rw [← hw5]; exact (Below.refl _ w4).alloc (Nat.le_refl _) _
      have hX5 : Blk w5 w4.heap.size 5 (fun j => #[Value.bool x.live, .int .i64 x.hash, .int .i64 x.key, .int .i64 x.value, .int .i64 x.birth].getD j .nilFunc) := by rw [← hw5]; exact Blk.new w4 _ _
      have hX4' := hX4.of hB5 (by omega)
      have g0 : w5.cell? ⟨w1.heap.size, 0, none⟩ = some (.bool x.live) := hX4'.c 0 (by omega)
      have g1 : w5.cell? ⟨w1.heap.size, 1, none⟩ = some (.int .i64 x.hash) := hX4'.c 1 (by omega)
      have g2 : w5.cell? ⟨w1.heap.size, 2, none⟩ = some (.int .i64 x.key) := hX4'.c 2 (by omega)
      have g3 : w5.cell? ⟨w1.heap.size, 3, none⟩ = some (.int .i64 x.value) := hX4'.c 3 (by omega)
      have g4 : w5.cell? ⟨w1.heap.size, 4, none⟩ = some (.int .i64 x.birth) := hX4'.c 4 (by omega)
      have e0 : w5.cell? ⟨w4.heap.size, 0, none⟩ = some (.bool x.live) := hX5.c 0 (by omega)
      have e1 : w5.cell? ⟨w4.heap.size, 1, none⟩ = some (.int .i64 x.hash) := hX5.c 1 (by omega)
      have e2 : w5.cell? ⟨w4.heap.size, 2, none⟩ = some (.int .i64 x.key) := hX5.c 2 (by omega)
      have e3 : w5.cell? ⟨w4.heap.size, 3, none⟩ = some (.int .i64 x.value) := hX5.c 3 (by omega)
      have e4 : w5.cell? ⟨w4.heap.size, 4, none⟩ = some (.int .i64 x.birth) := hX5.c 4 (by omega)
      have hE : ∀ V, (binOp .eql 109 (eV x) (eV x)).run Tryz.prog V = .ok (.bool true) V := fun V => by rw [en_eqV, (eqE_iff x x).2 rfl]
      unfold eV at hE
      have HD := Lib.hid (hD.fin HBB.out (by omega : c + 1 ≤ c + 33))
      have HB5 := Lib.hid hB5
      have HW5 := Lib.hid hw5
      clear hX4 hX4' hX5 hB5 hw5 hD hxB
      go_upto_region 34 with fail
      rw [HW5.out]
      go_wp2_with fail
      go_ret
      obtain ⟨S', a', b', hF⟩ := HD.out
      exact ⟨rfl, S', a', b', hF.after HMo.out HB5.out⟩
end Go.Proofs.YtfhpkoakalihkaaGreat
namespace Go.Proofs.YtfhpkoakalihkaaGreat
open Go.RowKit Go.WideShapes

set_option maxRecDepth 100000 in
set_option maxHeartbeats 8000000 in
theorem does8_last {w : World} {X : Nat} {S : St8} {pm pr : Option Addr} {M : Int → Int → World → Prop} {a b most : Int} {c : Nat} (hP : P8 w X S (.pointer pm) (.pointer pr) M a b most c) (hMo : MtOk (.pointer pm) M) (hMv : MvOk (.pointer pm) M) (hc : c ≤ 40000) (x1 x2 x3 x4 x5 x6 : Int) (sb : Bool) :
    Calls Tryz.prog 12 #[.pointer (some ⟨X, 0, none⟩), .agg #[.int .i64 7, .int .i64 x1, .int .i64 x2, .int .i64 x3, .int .i64 x4, .int .i64 x5, .int .i64 x6, .bool sb]] w fun e w' => e = .returned (.bool true) ∧ ∃ S' a' b', D8 w X S (.pointer pm) (.pointer pr) M most (c + 33) S' a' b' w' := by
  obtain ⟨w0, hw0⟩ : ∃ V, w.alloc (.cells #[.int .i64 7, .int .i64 x1, .int .i64 x2, .int .i64 x3, .int .i64 x4, .int .i64 x5, .int .i64 x6, .bool sb] 63) = V := ⟨_, rfl⟩
  have hb0 : Below w.heap.size w w0 := by rw [← hw0]; exact (Below.refl _ w).alloc (Nat.le_refl _) _
  have hB0 : Blk w0 w.heap.size 8 (fun j => #[Value.int .i64 7, .int .i64 x1, .int .i64 x2, .int .i64 x3, .int .i64 x4, .int .i64 x5, .int .i64 x6, .bool sb].getD j .nilFunc) := by rw [← hw0]; exact Blk.new w _ _
  have hP0 := hP.below hMo hb0
  have hlS := hB0.lt (by omega)
  have hnm := hP.nm
  obtain ⟨am, capm, em, hcapm⟩ := row_len hP0.rm
  have y2 : w0.cell? ⟨X, 2, none⟩ = some (.slice am S.nm capm) := by rw [← em]; exact hP0.hx.c 2 (by omega)
  have b0 : w0.cell? ⟨w.heap.size, 0, none⟩ = some (.int .i64 7) := hB0.c 0 (by omega)
  have b5 : w0.cell? ⟨w.heap.size, 5, none⟩ = some (.int .i64 x5) := hB0.c 5 (by omega)
  have HL : Hid (∀ k, S.all X k ∨ mB (.pointer pm) k ∨ mB (.pointer pr) k → k < w.heap.size) := hP.lt
  have HP := Lib.hid hP
  have HP0 := Lib.hid hP0
  have HB0 := Lib.hid hB0
  have HBW := Lib.hid hb0
  have HMo := Lib.hid hMo
  have HMv := Lib.hid hMv
  have HW0 := Lib.hid hw0
  clear hP hP0 hB0 hb0 hMo hMv hw0 em
  go_enter Tryz.func12, Tryz.ntmps12
  go_upto_region 2 with fail
  rw [HW0.out]
  rcases (by omega : S.nm = 0 ∨ 0 < S.nm) with hz | hz
  case inl =>
    have t0 : ¬ (0 : Int) < (S.nm : Int) := by omega
    go_upto_region 6 with fail
    have HBB : Hid (Below w.heap.size w w0) := HBW.out
    have HPB : Hid (P8 w0 X S (.pointer pm) (.pointer pr) M a b most c) := HP0.out
    have HCB : Hid (Blk w0 w.heap.size 8 _) := HB0.out
    have hsB : w.heap.size < w0.heap.size := hlS
    clear HP0 HB0 HBW hlS b0 b5 y2 HW0
    generalize w0 = wB at *
    have k0 : S.nd - 1 < S.nd := by have := HPB.out.nd; omega
    obtain ⟨Pw, hcl, C1, H2⟩ := last_both HPB.out HMo.out (by omega) k0
    have H2' := Lib.hid H2
    have HCL := Lib.hid hcl
    have v0 : wB.cell? ⟨X, 0, none⟩ = some (.pointer (some ⟨(S.ds (S.nd - 1)).d, 0, none⟩)) := HPB.out.hx.c 0 (by omega)
    have v8 : wB.cell? ⟨w.heap.size, 0, none⟩ = some (.int .i64 7) := HCB.out.c 0 (by omega)
    clear H2 hcl
    unfold eV at C1
    go_wp2_with fail
    refine C1.mono ?_
    rintro e w1 ⟨x, y, rfl, hPw⟩
    clear C1 v0 v8
    obtain ⟨w3, hw3⟩ : ∃ V, w1.alloc (.cells #[.bool x.live, .int .i64 x.hash, .int .i64 x.key, .int .i64 x.value, .int .i64 x.birth] 109) = V := ⟨_, rfl⟩
    have hB3 : Below w1.heap.size w1 w3 := by rw [← hw3]; exact (Below.refl _ w1).alloc (Nat.le_refl _) _
    have hX3 : Blk w3 w1.heap.size 5 (fun j => #[Value.bool x.live, .int .i64 x.hash, .int .i64 x.key, .int .i64 x.value, .int .i64 x.birth].getD j .nilFunc) := by rw [← hw3]; exact Blk.new w1 _ _
    have h1s := (H2'.out x y w1 hPw).1.size
    obtain ⟨hxA, C2⟩ := H2'.out x y w3 (HCL.out x y w1 w3 hPw hB3)
    have hm1 := (HPB.out.mid k0 hxA).1
    have v1 : w3.cell? ⟨X, 1, none⟩ = some (.pointer (some ⟨(S.ds (S.nd - 1)).d2, 0, none⟩)) := hm1.c 1 (by omega)
    have HX3 := Lib.hid hX3
    have HW3 := Lib.hid hw3
    have hs3 : w3.heap.size = w1.heap.size + 1 := by rw [← hw3]; simp
    have HLB := Lib.hid HPB.out.lt
    unfold eV at C2
    clear hPw hxA hm1 hw3 hB3 hX3
    go_upto_region 37 with fail
    rw [HW3.out]
    go_wp2_with fail
    refine C2.mono ?_
    rintro e w4 ⟨rfl, hxB, hD⟩
    clear C2 v1
    have hX4 : Blk w4 w1.heap.size 5 _ := HX3.out.same (hxB.block _ (by omega) (fun h => by
      rcases h with h | h | ⟨h, _⟩
      · have := HLB.out _ (.inl (.inr (.inr (.inr (.inl ⟨_, k0, .inr h⟩))))); omega
      · have := HLB.out _ (.inr (.inr h)); omega
      · omega))
    obtain ⟨w5, hw5⟩ : ∃ V, w4.alloc (.cells #[.bool x.live, .int .i64 x.hash, .int .i64 x.key, .int .i64 x.value, .int .i64 x.birth] 109) = V := ⟨_, rfl⟩
    have hB5 : Below w4.heap.size w4 w5 := by rw [← hw5]; exact (Below.refl _ w4).alloc (Nat.le_refl _) _
    have hX5 : Blk w5 w4.heap.size 5 (fun j => #[Value.bool x.live, .int .i64 x.hash, .int .i64 x.key, .int .i64 x.value, .int .i64 x.birth].getD j .nilFunc) := by rw [← hw5]; exact Blk.new w4 _ _
    have hX4' := hX4.of hB5 (by omega)
    have g0 : w5.cell? ⟨w1.heap.size, 0, none⟩ = some (.bool x.live) := hX4'.c 0 (by omega)
    have g1 : w5.cell? ⟨w1.heap.size, 1, none⟩ = some (.int .i64 x.hash) := hX4'.c 1 (by omega)
    have g2 : w5.cell? ⟨w1.heap.size, 2, none⟩ = some (.int .i64 x.key) := hX4'.c 2 (by omega)
    have g3 : w5.cell? ⟨w1.heap.size, 3, none⟩ = some (.int .i64 x.value) := hX4'.c 3 (by omega)
    have g4 : w5.cell? ⟨w1.heap.size, 4, none⟩ = some (.int .i64 x.birth) := hX4'.c 4 (by omega)
    have e0 : w5.cell? ⟨w4.heap.size, 0, none⟩ = some (.bool x.live) := hX5.c 0 (by omega)
    have e1 : w5.cell? ⟨w4.heap.size, 1, none⟩ = some (.int .i64 x.hash) := hX5.c 1 (by omega)
    have e2 : w5.cell? ⟨w4.heap.size, 2, none⟩ = some (.int .i64 x.key) := hX5.c 2 (by omega)
    have e3 : w5.cell? ⟨w4.heap.size, 3, none⟩ = some (.int .i64 x.value) := hX5.c 3 (by omega)
    have e4 : w5.cell? ⟨w4.heap.size, 4, none⟩ = some (.int .i64 x.birth) := hX5.c 4 (by omega)
    have hE : ∀ V, (binOp .eql 109 (eV x) (eV x)).run Tryz.prog V = .ok (.bool true) V := fun V => by rw [en_eqV, (eqE_iff x x).2 rfl]
    unfold eV at hE
    have HD := Lib.hid (hD.fin HBB.out (by omega : c + 1 ≤ c + 33))
    have HB5 := Lib.hid hB5
    have HW5 := Lib.hid hw5
    clear hX4 hX4' hX5 hB5 hw5 hD hxB
    go_upto_region 38 with fail
    rw [HW5.out]
    go_wp2_with fail
    go_ret
    obtain ⟨S', a', b', hF⟩ := HD.out
    exact ⟨rfl, S', a', b', hF.after HMo.out HB5.out⟩
  case inr =>
    have t0 : (0 : Int) < (S.nm : Int) := by omega
    have hr := rem8 x5 S.nm hz
    have hn0 : ¬ (S.nm : Int) = 0 := by omega
    have hn1 : ¬ S.nm = 0 := by omega
    have hn2 : ((S.nm : Int) == 0) = false := by rw [beq_eq_false_iff_ne]; omega
    obtain ⟨hp1, hp2⟩ := pix_lt x5 hz
    generalize pix x5 S.nm = kk at *
    have d5 : w0.drew.cell? ⟨w.heap.size, 5, none⟩ = some (.int .i64 x5) := b5
    have d2 : w0.drew.cell? ⟨X, 2, none⟩ = some (.slice am S.nm capm) := y2
    go_upto_region 3 with fail
    go_region_held3 (fun V => V.cell? ⟨w.heap.size, 5, none⟩ = some (.int .i64 x5) ∧ V.cell? ⟨X, 2, none⟩ = some (.slice am S.nm capm)) (first | with_reducible exact ⟨d5, d2⟩ | fail) (fail)
    clear d5 d2 hr hn0 hn1 hn2
    by_cases hneg : Int.tmod x5 (S.nm : Int) < 0
    case' pos =>
      rw [if_pos hneg] at hp2
      have e5 : IntKind.i64.wrap (Int.tmod x5 (S.nm : Int) + (S.nm : Int)) = (kk : Int) := by rw [hp2]; exact i64_small (by omega) (by omega)
      go_upto_region 6 with fail
      clear e5
    case' neg =>
      rw [if_neg hneg] at hp2
      go_upto_region 6 with fail
      try rw [hp2]
    all_goals
      clear hp2 hneg
      have HBB : Hid (Below w.heap.size w w0.drew) := HBW.out.drew
      have HPB : Hid (P8 w0.drew X S (.pointer pm) (.pointer pr) M a b most c) := HP.out.below HMo.out HBB.out
      have HCB : Hid (Blk w0.drew w.heap.size 8 _) := HB0.out.same rfl
      have hsB : w.heap.size < w0.drew.heap.size := hlS
      clear HP0 HB0 HBW hlS b0 b5 y2 HW0
      generalize w0.drew = wB at *
      have k0 : S.nd - 1 < S.nd := by have := HPB.out.nd; omega
      obtain ⟨Pw, hcl, C1, H2⟩ := last_both HPB.out HMo.out (by omega) k0
      have H2' := Lib.hid H2
      have HCL := Lib.hid hcl
      have v0 : wB.cell? ⟨X, 0, none⟩ = some (.pointer (some ⟨(S.ds (S.nd - 1)).d, 0, none⟩)) := HPB.out.hx.c 0 (by omega)
      have v8 : wB.cell? ⟨w.heap.size, 0, none⟩ = some (.int .i64 7) := HCB.out.c 0 (by omega)
      clear H2 hcl
      unfold eV at C1
      go_wp2_with fail
      refine C1.mono ?_
      rintro e w1 ⟨x, y, rfl, hPw⟩
      clear C1 v0 v8
      obtain ⟨w3, hw3⟩ : ∃ V, w1.alloc (.cells #[.bool x.live, .int .i64 x.hash, .int .i64 x.key, .int .i64 x.value, .int .i64 x.birth] 109) = V := ⟨_, rfl⟩
      have hB3 : Below w1.heap.size w1 w3 := by rw [← hw3]; exact (Below.refl _ w1).alloc (Nat.le_refl _) _
      have hX3 : Blk w3 w1.heap.size 5 (fun j => #[Value.bool x.live, .int .i64 x.hash, .int .i64 x.key, .int .i64 x.value, .int .i64 x.birth].getD j .nilFunc) := by rw [← hw3]; exact Blk.new w1 _ _
      have h1s := (H2'.out x y w1 hPw).1.size
      obtain ⟨hxA, C2⟩ := H2'.out x y w3 (HCL.out x y w1 w3 hPw hB3)
      have hm1 := (HPB.out.mid k0 hxA).1
      have v1 : w3.cell? ⟨X, 1, none⟩ = some (.pointer (some ⟨(S.ds (S.nd - 1)).d2, 0, none⟩)) := hm1.c 1 (by omega)
      have HX3 := Lib.hid hX3
      have HW3 := Lib.hid hw3
      have hs3 : w3.heap.size = w1.heap.size + 1 := by rw [← hw3]; simp
      have HLB := Lib.hid HPB.out.lt
      unfold eV at C2
      clear hPw hxA hm1 hw3 hB3 hX3
      go_upto_region 37 with fail
      rw [HW3.out]
      go_wp2_with fail
      refine C2.mono ?_
      rintro e w4 ⟨rfl, hxB, hD⟩
      clear C2 v1
      have hX4 : Blk w4 w1.heap.size 5 _ := HX3.out.same (hxB.block _ (by omega) (fun h => by
        rcases h with h | h | ⟨h, _⟩
        · have := HLB.out _ (.inl (.inr (.inr (.inr (.inl ⟨_, k0, .inr h⟩))))); omega
        · have := HLB.out _ (.inr (.inr h)); omega
        · omega))
      obtain ⟨w5, hw5⟩ : ∃ V, w4.alloc (.cells #[.bool x.live, .int .i64 x.hash, .int .i64 x.key, .int .i64 x.value, .int .i64 x.birth] 109) = V := ⟨_, rfl⟩
      have hB5 : Below w4.heap.size w4 w5 := by rw [← hw5]; exact (Below.refl _ w4).alloc (Nat.le_refl _) _
      have hX5 : Blk w5 w4.heap.size 5 (fun j => #[Value.bool x.live, .int .i64 x.hash, .int .i64 x.key, .int .i64 x.value, .int .i64 x.birth].getD j .nilFunc) := by rw [← hw5]; exact Blk.new w4 _ _
      have hX4' := hX4.of hB5 (by omega)
      have g0 : w5.cell? ⟨w1.heap.size, 0, none⟩ = some (.bool x.live) := hX4'.c 0 (by omega)
      have g1 : w5.cell? ⟨w1.heap.size, 1, none⟩ = some (.int .i64 x.hash) := hX4'.c 1 (by omega)
      have g2 : w5.cell? ⟨w1.heap.size, 2, none⟩ = some (.int .i64 x.key) := hX4'.c 2 (by omega)
      have g3 : w5.cell? ⟨w1.heap.size, 3, none⟩ = some (.int .i64 x.value) := hX4'.c 3 (by omega)
      have g4 : w5.cell? ⟨w1.heap.size, 4, none⟩ = some (.int .i64 x.birth) := hX4'.c 4 (by omega)
      have e0 : w5.cell? ⟨w4.heap.size, 0, none⟩ = some (.bool x.live) := hX5.c 0 (by omega)
      have e1 : w5.cell? ⟨w4.heap.size, 1, none⟩ = some (.int .i64 x.hash) := hX5.c 1 (by omega)
      have e2 : w5.cell? ⟨w4.heap.size, 2, none⟩ = some (.int .i64 x.key) := hX5.c 2 (by omega)
      have e3 : w5.cell? ⟨w4.heap.size, 3, none⟩ = some (.int .i64 x.value) := hX5.c 3 (by omega)
      have e4 : w5.cell? ⟨w4.heap.size, 4, none⟩ = some (.int .i64 x.birth) := hX5.c 4 (by omega)
      have hE : ∀ V, (binOp .eql 109 (eV x) (eV x)).run Tryz.prog V = .ok (.bool true) V := fun V => by rw [en_eqV, (eqE_iff x x).2 rfl]
      unfold eV at hE
      have HD := Lib.hid (hD.fin HBB.out (by omega : c + 1 ≤ c + 33))
      have HB5 := Lib.hid hB5
      have HW5 := Lib.hid hw5
      clear hX4 hX4' hX5 hB5 hw5 hD hxB
      go_upto_region 38 with fail
      rw [HW5.out]
      go_wp2_with fail
      go_ret
      obtain ⟨S', a', b', hF⟩ := HD.out
      exact ⟨rfl, S', a', b', hF.after HMo.out HB5.out⟩
end Go.Proofs.YtfhpkoakalihkaaGreat
namespace Go.Proofs.YtfhpkoakalihkaaGreat
open Go.RowKit Go.WideShapes

theorem neqDd (d : Nat) (w : World) : (binOp .neq 53 (.pointer (some ⟨d, 0, none⟩)) (.pointer none)).run Tryz.prog w = .ok (.bool true) w := by kernel_rfl
set_option maxRecDepth 100000 in
set_option maxHeartbeats 8000000 in
theorem does8_copy {w : World} {X : Nat} {S : St8} {pm pr : Option Addr} {M : Int → Int → World → Prop} {a b most : Int} {c : Nat} (hP : P8 w X S (.pointer pm) (.pointer pr) M a b most c) (hMo : MtOk (.pointer pm) M) (hMv : MvOk (.pointer pm) M) (hc : c ≤ 40000) (x1 x2 x3 x4 x5 x6 : Int) (sb : Bool) :
    Calls Tryz.prog 12 #[.pointer (some ⟨X, 0, none⟩), .agg #[.int .i64 8, .int .i64 x1, .int .i64 x2, .int .i64 x3, .int .i64 x4, .int .i64 x5, .int .i64 x6, .bool sb]] w fun e w' => e = .returned (.bool true) ∧ ∃ S' a' b', D8 w X S (.pointer pm) (.pointer pr) M most (c + 33) S' a' b' w' := by
  obtain ⟨w0, hw0⟩ : ∃ V, w.alloc (.cells #[.int .i64 8, .int .i64 x1, .int .i64 x2, .int .i64 x3, .int .i64 x4, .int .i64 x5, .int .i64 x6, .bool sb] 63) = V := ⟨_, rfl⟩
  have hb0 : Below w.heap.size w w0 := by rw [← hw0]; exact (Below.refl _ w).alloc (Nat.le_refl _) _
  have hB0 : Blk w0 w.heap.size 8 (fun j => #[Value.int .i64 8, .int .i64 x1, .int .i64 x2, .int .i64 x3, .int .i64 x4, .int .i64 x5, .int .i64 x6, .bool sb].getD j .nilFunc) := by rw [← hw0]; exact Blk.new w _ _
  have hP0 := hP.below hMo hb0
  have hlS := hB0.lt (by omega)
  have hnm := hP.nm
  obtain ⟨am, capm, em, hcapm⟩ := row_len hP0.rm
  have y2 : w0.cell? ⟨X, 2, none⟩ = some (.slice am S.nm capm) := by rw [← em]; exact hP0.hx.c 2 (by omega)
  have b0 : w0.cell? ⟨w.heap.size, 0, none⟩ = some (.int .i64 8) := hB0.c 0 (by omega)
  have b5 : w0.cell? ⟨w.heap.size, 5, none⟩ = some (.int .i64 x5) := hB0.c 5 (by omega)
  have HL : Hid (∀ k, S.all X k ∨ mB (.pointer pm) k ∨ mB (.pointer pr) k → k < w.heap.size) := hP.lt
  have HP := Lib.hid hP
  have HP0 := Lib.hid hP0
  have HB0 := Lib.hid hB0
  have HBW := Lib.hid hb0
  have HMo := Lib.hid hMo
  have HMv := Lib.hid hMv
  have HW0 := Lib.hid hw0
  clear hP hP0 hB0 hb0 hMo hMv hw0 em
  go_enter Tryz.func12, Tryz.ntmps12
  go_upto_region 2 with fail
  rw [HW0.out]
  rcases (by omega : S.nm = 0 ∨ 0 < S.nm) with hz | hz
  case inl =>
    have t0 : ¬ (0 : Int) < (S.nm : Int) := by omega
    go_upto_region 6 with fail
    have HBB : Hid (Below w.heap.size w w0) := HBW.out
    have HPB : Hid (P8 w0 X S (.pointer pm) (.pointer pr) M a b most c) := HP0.out
    have HCB : Hid (Blk w0 w.heap.size 8 _) := HB0.out
    have hsB : w.heap.size < w0.heap.size := hlS
    clear HP0 HB0 HBW hlS b0 b5 y2 HW0
    generalize w0 = wB at *
    have k0 : S.nd - 1 < S.nd := by have := HPB.out.nd; omega
    have hDK := HPB.out.dk _ k0
    have ab := HPB.out.ab
    have C1 := pcopy_any hDK.dc HMo.out HPB.out.m ⟨ab.1, by omega⟩
    have v0 : wB.cell? ⟨X, 0, none⟩ = some (.pointer (some ⟨(S.ds (S.nd - 1)).d, 0, none⟩)) := HPB.out.hx.c 0 (by omega)
    have v8 : wB.cell? ⟨w.heap.size, 0, none⟩ = some (.int .i64 8) := HCB.out.c 0 (by omega)
    have HDK := Lib.hid hDK
    clear hDK
    go_upto_region 40 with fail
    go_wp2_with fail
    refine C1.mono ?_
    rintro e w1 ⟨d', g', gi', r', h', ev', rfl, hfr, hDc, hM1, hx1⟩
    clear C1 v0 v8
    have HLB := Lib.hid HPB.out.lt
    obtain ⟨lab, sp⟩ := HPB.out.sep
    have hXm : ¬ mB (.pointer pm) X := fun h => by have h1 := sp.m X h; have h2 := sp.x; omega
    have hXr : ¬ mB (.pointer pr) X := fun h => by have h1 := sp.r X h; have h2 := sp.x; omega
    have lX := sp.x.2
    have hhx1 : Blk w1 X 4 (x8F S) := HPB.out.hx.same (hx1.block X lX hXm)
    have u0 : w1.cell? ⟨X, 0, none⟩ = some (.pointer (some ⟨(S.ds (S.nd - 1)).d, 0, none⟩)) := hhx1.c 0 (by omega)
    have zz0 := hhx1.z 0
    obtain ⟨w2, hw2⟩ : ∃ V, w1.setCell ⟨X, 0, none⟩ (.pointer (some ⟨d', 0, none⟩)) = V := ⟨_, rfl⟩
    have hx2 : Ex (fun i => i = X) w1 w2 := by rw [← hw2]; exact (Ex.refl (fun i => i = X) w1).setCell (p := ⟨X, 0, none⟩) (fun _ => rfl) _
    have hhx2 := hhx1.put 0 (.pointer (some ⟨d', 0, none⟩))
    rw [hw2] at hhx2
    have hR2 : Rdc w2 (S.ds (S.nd - 1)).d2 (S.ds (S.nd - 1)).g2 (S.ds (S.nd - 1)).q2 (S.ds (S.nd - 1)).ev2 (S.ds (S.nd - 1)).t (.pointer pr) most (S.ds (S.nd - 1)).v := HDK.out.rc.same fun i hi => by
      have g1 := sp.dr _ k0 i hi
      rw [hx2.block i (Nat.lt_of_lt_of_le g1.2 hx1.size) (fun e => by have := sp.x; rw [e] at g1; omega)]
      exact hx1.block i g1.2 (fun e => by have := sp.m i e; omega)
    have hMs2 : Ms w2 (.pointer pr) a b 0 0 := HPB.out.ms.same fun i hi => by
      have g1 := sp.r i hi
      rw [hx2.block i (Nat.lt_of_lt_of_le g1.2 hx1.size) (fun e => by have := sp.x; rw [e] at g1; omega)]
      exact hx1.block i g1.2 (fun e => by have := sp.m i e; omega)
    have C2 := rcopy8_any hR2 HDK.out.dc.ok hMs2 ⟨ab.1, by omega⟩
    have v1 : w2.cell? ⟨X, 1, none⟩ = some (.pointer (some ⟨(S.ds (S.nd - 1)).d2, 0, none⟩)) := hhx2.c 1 (by omega)
    have HW2 := Lib.hid hw2
    have HX := Lib.hid hx1
    have HX2 := Lib.hid hx2
    have HHX2 := Lib.hid hhx2
    have HFR := Lib.hid hfr
    have HDC := Lib.hid hDc
    have HM1 := Lib.hid hM1
    have s12 : w1.heap.size ≤ w2.heap.size := hx2.size
    have s01 : wB.heap.size ≤ w1.heap.size := hx1.size
    clear hw2 hx1 hx2 hhx1 hhx2 hR2 hMs2 hfr hDc hM1 sp
    go_upto_region 41 with fail
    rw [HW2.out]
    clear u0 zz0
    go_wp2_with fail
    refine C2.mono ?_
    rintro e w3 ⟨d2', g2', q2', ev2', rfl, hfr2, hRc, hMs3, hx3⟩
    clear C2 v1
    have hhx3 : Blk w3 X 4 _ := HHX2.out.same (hx3.block X (by omega) hXr)
    have u1 : w3.cell? ⟨X, 1, none⟩ = some (.pointer (some ⟨(S.ds (S.nd - 1)).d2, 0, none⟩)) := hhx3.c 1 (by omega)
    have zz1 := hhx3.z 1
    obtain ⟨w4, hw4⟩ : ∃ V, w3.setCell ⟨X, 1, none⟩ (.pointer (some ⟨d2', 0, none⟩)) = V := ⟨_, rfl⟩
    have hx4 : Ex (fun i => i = X) w3 w4 := by rw [← hw4]; exact (Ex.refl (fun i => i = X) w3).setCell (p := ⟨X, 1, none⟩) (fun _ => rfl) _
    have hhx4 := hhx3.put 1 (.pointer (some ⟨d2', 0, none⟩))
    rw [hw4] at hhx4
    have hb' := HDK.out.bd
    have hlv : (S.ds (S.nd - 1)).t.cp.births ≤ c := by
      show (liveL (S.ds (S.nd - 1)).t.es).length ≤ c
      have h1 := liveL_len (S.ds (S.nd - 1)).t.es
      have h2 := HDK.out.dc.ok.few
      have h3 := hb'.births
      omega
    have hFIN := more_fin HPB.out HMo.out (p := ⟨d', g', gi', r', h', ev', d2', g2', q2', ev2', (S.ds (S.nd - 1)).t.cp, 0⟩) HX.out HX2.out hx3 hx4 HDC.out hRc HFR.out hfr2 HM1.out hMs3 ⟨Nat.le_succ_of_le hlv, by show 1 ≤ _; omega, by show 0 ≤ _; omega, Nat.zero_le _⟩ (hhx4.congr fun i hi => by
      have e9 : (S.more ⟨d', g', gi', r', h', ev', d2', g2', q2', ev2', (S.ds (S.nd - 1)).t.cp, 0⟩).cur = ⟨d', g', gi', r', h', ev', d2', g2', q2', ev2', (S.ds (S.nd - 1)).t.cp, 0⟩ := by
        show updA S.ds S.nd _ (S.nd + 1 - 1) = _
        rw [Nat.add_sub_cancel, updA_at]
      have : i = 0 ∨ i = 1 ∨ i = 2 ∨ i = 3 := by omega
      rcases this with rfl | rfl | rfl | rfl
      · show Value.pointer (some ⟨(S.more _).cur.d, 0, none⟩) = _
        rw [e9]; rfl
      · show Value.pointer (some ⟨(S.more _).cur.d2, 0, none⟩) = _
        rw [e9]; rfl
      · rfl
      · rfl)
    obtain ⟨S', a', b', hD, _, _⟩ := hFIN
    have w0c : w4.cell? ⟨X, 0, none⟩ = some (.pointer (some ⟨d', 0, none⟩)) := hhx4.c 0 (by omega)
    have hnq : ∀ V, (binOp .neq 53 (.pointer (some ⟨d', 0, none⟩)) (.pointer none)).run Tryz.prog V = .ok (.bool true) V := neqDd d'
    have HD := Lib.hid (hD.up HBB.out (by omega : c + 1 ≤ c + 33))
    have HW4 := Lib.hid hw4
    clear hw4 hx4 hhx3 hhx4 hRc hMs3 hx3 hfr2 hD hlv hb'
    go_upto_region 42 with fail
    rw [HW4.out]
    clear u1 zz1
    go_wp2_with fail
    go_ret
    exact ⟨rfl, S', a', b', HD.out⟩
  case inr =>
    have t0 : (0 : Int) < (S.nm : Int) := by omega
    have hr := rem8 x5 S.nm hz
    have hn0 : ¬ (S.nm : Int) = 0 := by omega
    have hn1 : ¬ S.nm = 0 := by omega
    have hn2 : ((S.nm : Int) == 0) = false := by rw [beq_eq_false_iff_ne]; omega
    obtain ⟨hp1, hp2⟩ := pix_lt x5 hz
    generalize pix x5 S.nm = kk at *
    have d5 : w0.drew.cell? ⟨w.heap.size, 5, none⟩ = some (.int .i64 x5) := b5
    have d2 : w0.drew.cell? ⟨X, 2, none⟩ = some (.slice am S.nm capm) := y2
    go_upto_region 3 with fail
    go_region_held3 (fun V => V.cell? ⟨w.heap.size, 5, none⟩ = some (.int .i64 x5) ∧ V.cell? ⟨X, 2, none⟩ = some (.slice am S.nm capm)) (first | with_reducible exact ⟨d5, d2⟩ | fail) (fail)
    clear d5 d2 hr hn0 hn1 hn2
    by_cases hneg : Int.tmod x5 (S.nm : Int) < 0
    case' pos =>
      rw [if_pos hneg] at hp2
      have e5 : IntKind.i64.wrap (Int.tmod x5 (S.nm : Int) + (S.nm : Int)) = (kk : Int) := by rw [hp2]; exact i64_small (by omega) (by omega)
      go_upto_region 6 with fail
      clear e5
    case' neg =>
      rw [if_neg hneg] at hp2
      go_upto_region 6 with fail
      try rw [hp2]
    all_goals
      clear hp2 hneg
      have HBB : Hid (Below w.heap.size w w0.drew) := HBW.out.drew
      have HPB : Hid (P8 w0.drew X S (.pointer pm) (.pointer pr) M a b most c) := HP.out.below HMo.out HBB.out
      have HCB : Hid (Blk w0.drew w.heap.size 8 _) := HB0.out.same rfl
      have hsB : w.heap.size < w0.drew.heap.size := hlS
      clear HP0 HB0 HBW hlS b0 b5 y2 HW0
      generalize w0.drew = wB at *
      have k0 : S.nd - 1 < S.nd := by have := HPB.out.nd; omega
      have hDK := HPB.out.dk _ k0
      have ab := HPB.out.ab
      have C1 := pcopy_any hDK.dc HMo.out HPB.out.m ⟨ab.1, by omega⟩
      have v0 : wB.cell? ⟨X, 0, none⟩ = some (.pointer (some ⟨(S.ds (S.nd - 1)).d, 0, none⟩)) := HPB.out.hx.c 0 (by omega)
      have v8 : wB.cell? ⟨w.heap.size, 0, none⟩ = some (.int .i64 8) := HCB.out.c 0 (by omega)
      have HDK := Lib.hid hDK
      clear hDK
      go_upto_region 40 with fail
      go_wp2_with fail
      refine C1.mono ?_
      rintro e w1 ⟨d', g', gi', r', h', ev', rfl, hfr, hDc, hM1, hx1⟩
      clear C1 v0 v8
      have HLB := Lib.hid HPB.out.lt
      obtain ⟨lab, sp⟩ := HPB.out.sep
      have hXm : ¬ mB (.pointer pm) X := fun h => by have h1 := sp.m X h; have h2 := sp.x; omega
      have hXr : ¬ mB (.pointer pr) X := fun h => by have h1 := sp.r X h; have h2 := sp.x; omega
      have lX := sp.x.2
      have hhx1 : Blk w1 X 4 (x8F S) := HPB.out.hx.same (hx1.block X lX hXm)
      have u0 : w1.cell? ⟨X, 0, none⟩ = some (.pointer (some ⟨(S.ds (S.nd - 1)).d, 0, none⟩)) := hhx1.c 0 (by omega)
      have zz0 := hhx1.z 0
      obtain ⟨w2, hw2⟩ : ∃ V, w1.setCell ⟨X, 0, none⟩ (.pointer (some ⟨d', 0, none⟩)) = V := ⟨_, rfl⟩
      have hx2 : Ex (fun i => i = X) w1 w2 := by rw [← hw2]; exact (Ex.refl (fun i => i = X) w1).setCell (p := ⟨X, 0, none⟩) (fun _ => rfl) _
      have hhx2 := hhx1.put 0 (.pointer (some ⟨d', 0, none⟩))
      rw [hw2] at hhx2
      have hR2 : Rdc w2 (S.ds (S.nd - 1)).d2 (S.ds (S.nd - 1)).g2 (S.ds (S.nd - 1)).q2 (S.ds (S.nd - 1)).ev2 (S.ds (S.nd - 1)).t (.pointer pr) most (S.ds (S.nd - 1)).v := HDK.out.rc.same fun i hi => by
        have g1 := sp.dr _ k0 i hi
        rw [hx2.block i (Nat.lt_of_lt_of_le g1.2 hx1.size) (fun e => by have := sp.x; rw [e] at g1; omega)]
        exact hx1.block i g1.2 (fun e => by have := sp.m i e; omega)
      have hMs2 : Ms w2 (.pointer pr) a b 0 0 := HPB.out.ms.same fun i hi => by
        have g1 := sp.r i hi
        rw [hx2.block i (Nat.lt_of_lt_of_le g1.2 hx1.size) (fun e => by have := sp.x; rw [e] at g1; omega)]
        exact hx1.block i g1.2 (fun e => by have := sp.m i e; omega)
      have C2 := rcopy8_any hR2 HDK.out.dc.ok hMs2 ⟨ab.1, by omega⟩
      have v1 : w2.cell? ⟨X, 1, none⟩ = some (.pointer (some ⟨(S.ds (S.nd - 1)).d2, 0, none⟩)) := hhx2.c 1 (by omega)
      have HW2 := Lib.hid hw2
      have HX := Lib.hid hx1
      have HX2 := Lib.hid hx2
      have HHX2 := Lib.hid hhx2
      have HFR := Lib.hid hfr
      have HDC := Lib.hid hDc
      have HM1 := Lib.hid hM1
      have s12 : w1.heap.size ≤ w2.heap.size := hx2.size
      have s01 : wB.heap.size ≤ w1.heap.size := hx1.size
      clear hw2 hx1 hx2 hhx1 hhx2 hR2 hMs2 hfr hDc hM1 sp
      go_upto_region 41 with fail
      rw [HW2.out]
      clear u0 zz0
      go_wp2_with fail
      refine C2.mono ?_
      rintro e w3 ⟨d2', g2', q2', ev2', rfl, hfr2, hRc, hMs3, hx3⟩
      clear C2 v1
      have hhx3 : Blk w3 X 4 _ := HHX2.out.same (hx3.block X (by omega) hXr)
      have u1 : w3.cell? ⟨X, 1, none⟩ = some (.pointer (some ⟨(S.ds (S.nd - 1)).d2, 0, none⟩)) := hhx3.c 1 (by omega)
      have zz1 := hhx3.z 1
      obtain ⟨w4, hw4⟩ : ∃ V, w3.setCell ⟨X, 1, none⟩ (.pointer (some ⟨d2', 0, none⟩)) = V := ⟨_, rfl⟩
      have hx4 : Ex (fun i => i = X) w3 w4 := by rw [← hw4]; exact (Ex.refl (fun i => i = X) w3).setCell (p := ⟨X, 1, none⟩) (fun _ => rfl) _
      have hhx4 := hhx3.put 1 (.pointer (some ⟨d2', 0, none⟩))
      rw [hw4] at hhx4
      have hb' := HDK.out.bd
      have hlv : (S.ds (S.nd - 1)).t.cp.births ≤ c := by
        show (liveL (S.ds (S.nd - 1)).t.es).length ≤ c
        have h1 := liveL_len (S.ds (S.nd - 1)).t.es
        have h2 := HDK.out.dc.ok.few
        have h3 := hb'.births
        omega
      have hFIN := more_fin HPB.out HMo.out (p := ⟨d', g', gi', r', h', ev', d2', g2', q2', ev2', (S.ds (S.nd - 1)).t.cp, 0⟩) HX.out HX2.out hx3 hx4 HDC.out hRc HFR.out hfr2 HM1.out hMs3 ⟨Nat.le_succ_of_le hlv, by show 1 ≤ _; omega, by show 0 ≤ _; omega, Nat.zero_le _⟩ (hhx4.congr fun i hi => by
        have e9 : (S.more ⟨d', g', gi', r', h', ev', d2', g2', q2', ev2', (S.ds (S.nd - 1)).t.cp, 0⟩).cur = ⟨d', g', gi', r', h', ev', d2', g2', q2', ev2', (S.ds (S.nd - 1)).t.cp, 0⟩ := by
          show updA S.ds S.nd _ (S.nd + 1 - 1) = _
          rw [Nat.add_sub_cancel, updA_at]
        have : i = 0 ∨ i = 1 ∨ i = 2 ∨ i = 3 := by omega
        rcases this with rfl | rfl | rfl | rfl
        · show Value.pointer (some ⟨(S.more _).cur.d, 0, none⟩) = _
          rw [e9]; rfl
        · show Value.pointer (some ⟨(S.more _).cur.d2, 0, none⟩) = _
          rw [e9]; rfl
        · rfl
        · rfl)
      obtain ⟨S', a', b', hD, _, _⟩ := hFIN
      have w0c : w4.cell? ⟨X, 0, none⟩ = some (.pointer (some ⟨d', 0, none⟩)) := hhx4.c 0 (by omega)
      have hnq : ∀ V, (binOp .neq 53 (.pointer (some ⟨d', 0, none⟩)) (.pointer none)).run Tryz.prog V = .ok (.bool true) V := neqDd d'
      have HD := Lib.hid (hD.up HBB.out (by omega : c + 1 ≤ c + 33))
      have HW4 := Lib.hid hw4
      clear hw4 hx4 hhx3 hhx4 hRc hMs3 hx3 hfr2 hD hlv hb'
      go_upto_region 42 with fail
      rw [HW4.out]
      clear u1 zz1
      go_wp2_with fail
      go_ret
      exact ⟨rfl, S', a', b', HD.out⟩
end Go.Proofs.YtfhpkoakalihkaaGreat
