/-
  The law's plays.
  ProbePlays, walked.
-/
import Derived.Test.YtjhaldbnfmddmaaGreatGt
import Derived.Test.YtjhaldbnfmddmaaGreatPp8a
import Derived.Test.YtjhaldbnfmddmaaGreatGp
namespace Go.Proofs.YtjhaldbnfmddmaaGreat
open Go.RowKit Go.WideShapes

set_option maxRecDepth 100000 in
set_option maxHeartbeats 8000000 in
theorem plays8_any {w : World} {pm pr : Option Addr} {M : Int → Int → World → Prop} (hMo : MtOk (.pointer pm) M) (hMv : MvOk (.pointer pm) M) (hM : M 0 0 w) (hms : Ms w (.pointer pr) 0 0 0 0) (hpp : ∀ k, mB (.pointer pm) k → mB (.pointer pr) k → False) {a0 : Option Addr} {n c0 : Nat} {q : Nat → (Nat → Int) × Bool} (hrow : ∀ V, Ex (fun k => mB (.pointer pm) k ∨ mB (.pointer pr) k) w V → S8 V a0 n c0 q) (hn : n ≤ 300) (most : Int) (h0 : 0 ≤ most) (h1 : most ≤ 65536) :
    Calls Tryz.prog 8 #[.int .i64 most, .slice a0 n c0, .pointer pm, .pointer pr] w fun e w' => ∃ X S a b, e = .returned (.tuple #[.pointer (some ⟨X, 0, none⟩), .bool true]) ∧ Py8 w X S (.pointer pm) (.pointer pr) M a b most (33 * n) w' := by
  have C1 := pnew_any hMo hM (by omega : (0 : Int) ≤ 0 ∧ (0 : Int) ≤ 1000000000) most h0 h1
  have hlm : ∀ k, mB (.pointer pm) k → k < w.heap.size := fun k hk => hMo.lt 0 0 w k hM hk
  have hlr := hms.lt
  have HMo := Lib.hid hMo
  have HMv := Lib.hid hMv
  have HMS := Lib.hid hms
  have HROW := Lib.hid hrow
  have HPP := Lib.hid hpp
  have HLM := Lib.hid hlm
  have HLR := Lib.hid hlr
  have hcap : n ≤ c0 := (hrow w (Ex.refl _ _)).1
  clear hMo hMv hM hms hrow hpp hlm hlr
  go_enter Tryz.func8, Tryz.ntmps8
  go_wp2_with fail
  refine C1.mono ?_
  rintro e w1 ⟨d, g, gi, r, h, rfl, hd, hD, hM1, hX1⟩
  clear C1
  have C2 := rpnew_any (HMS.out.same (w' := w1) fun k hk => hX1.block k (HLR.out k hk) (fun x => HPP.out k x hk)) (by omega : (0 : Int) ≤ 0 ∧ (0 : Int) ≤ 1000000000) most h0 h1
  have HD := Lib.hid hD
  have HM1 := Lib.hid hM1
  have HX1 := Lib.hid hX1
  have HDL := Lib.hid hd
  clear hD hM1 hX1 hd
  go_wp2_with fail
  refine C2.mono ?_
  rintro e w2 ⟨d2, g2, q2, rfl, hr, hR, hMs2, hX2⟩
  clear C2
  obtain ⟨w3, hw3⟩ : ∃ y, w2.alloc (.cells #[.pointer (some ⟨d, 0, none⟩), .pointer (some ⟨d2, 0, none⟩), .slice none 0 0, .slice none 0 0] 58) = y := ⟨_, rfl⟩
  have hB3 : Below w2.heap.size w2 w3 := by rw [← hw3]; exact (Below.refl _ w2).alloc (Nat.le_refl _) _
  have hx3 : Blk w3 w2.heap.size 4 (x8F (ini8 d g gi r h d2 g2 q2)) := by
    rw [← hw3]
    refine (Blk.new w2 _ _).congr fun j hj => ?_
    have : j = 0 ∨ j = 1 ∨ j = 2 ∨ j = 3 := by simp at hj; omega
    rcases this with rfl | rfl | rfl | rfl <;> rfl
  have HPY : Hid (Py8 w w2.heap.size (ini8 d g gi r h d2 g2 q2) (.pointer pm) (.pointer pr) M 1 0 most 0 w3) := py8_new HMo.out HLR.out HLM.out HPP.out HDL.out HD.out HM1.out HX1.out hr hR hMs2 hX2 hB3 hx3
  have hnq := eqD d
  have HW3 := Lib.hid hw3
  clear hB3 hx3 hR hMs2 hX2 hw3 HD HM1 HX1 HDL hr
  go_upto_region 8 with fail
  rw [HW3.out]
  generalize hXX : w2.heap.size = X at *
  clear hXX HW3
  go_wp2_with fail
  clear hnq
  obtain ⟨S0, hS0⟩ : ∃ S0, Hid (Py8 w X S0 (.pointer pm) (.pointer pr) M 1 0 most 0 w3) := ⟨_, HPY⟩
  clear HPY
  go_loopw [15] (fun iv wr => ∃ k S a b, k ≤ n ∧ iv = .int .i64 (k : Int) ∧ Py8 w X S (.pointer pm) (.pointer pr) M a b most (33 * k) wr) (fun iv _ => n - (intOf iv).toNat)
  case atStart => exact ⟨0, S0, 1, 0, Nat.zero_le _, rfl, hS0.out⟩
  case round =>
    clear hS0
    obtain ⟨k, S, a, b, hk, rfl, hPY⟩ := hrel
    by_cases hlt : k < n
    · have t1 : (k : Int) < (n : Int) := by omega
      obtain ⟨_, bR, offR, hab, hG⟩ := HROW.out wr hPY.ex
      obtain ⟨rfl, hbl⟩ := hab (by omega)
      have hq := (hG k hlt).1
      have hF : ∀ j, j < 7 → wr.cell? ⟨bR, offR + k * 8 + j, none⟩ = some (.int .i64 ((q k).1 j)) := fun j hj => by rw [Nat.add_assoc]; exact hq j hj
      have r0 : wr.cell? ⟨bR, offR + k * 8, none⟩ = some (.int .i64 ((q k).1 0)) := hF 0 (by omega)
      have r1 := hF 1 (by omega)
      have r2 := hF 2 (by omega)
      have r3 := hF 3 (by omega)
      have r4 := hF 4 (by omega)
      have r5 := hF 5 (by omega)
      have r6 := hF 6 (by omega)
      have r7 : wr.cell? ⟨bR, offR + k * 8 + 7, none⟩ = some (.bool (q k).2) := by rw [Nat.add_assoc]; exact (hG k hlt).2
      have CD := does8_any hPY.p HMo.out HMv.out (by omega) ((q k).1 0) ((q k).1 1) ((q k).1 2) ((q k).1 3) ((q k).1 4) ((q k).1 5) ((q k).1 6) (q k).2
      have HPY := Lib.hid hPY
      clear hG hab hPY hq hF
      generalize (q k).1 0 = x0 at *
      generalize (q k).1 1 = x1 at *
      generalize (q k).1 2 = x2 at *
      generalize (q k).1 3 = x3 at *
      generalize (q k).1 4 = x4 at *
      generalize (q k).1 5 = x5 at *
      generalize (q k).1 6 = x6 at *
      generalize (q k).2 = x7 at *
      go_wp2_with fail
      refine CD.mono ?_
      rintro e w4 ⟨rfl, S', a', b', hD⟩
      have hPY2 := HPY.out.step hD
      have CA := alike_any hPY2.p (by omega)
      have HPY2 := Lib.hid hPY2
      clear CD hD hPY2 r0 r1 r2 r3 r4 r5 r6 r7
      go_wp2_with fail
      refine CA.mono ?_
      rintro e w5 ⟨rfl, hb⟩
      have HP3 := Lib.hid (HPY2.out.below HMo.out hb)
      clear CA hb
      go_wp2_with fail
      go_roundw
      case rel => exact ⟨k + 1, S', a', b', by omega, by go_num, by have := HP3.out; rwa [show 33 * k + 33 = 33 * (k + 1) by omega] at this⟩
      case measure => simp [intOf]; omega
    · obtain rfl : k = n := by omega
      have t1 : ¬ (k : Int) < (k : Int) := by omega
      have HPY := Lib.hid hPY
      clear hPY
      go_wp2_with fail
      go_ret2
      exact ⟨X, rfl, S, a, b, HPY.out⟩
theorem plays8_bad (w : World) (v : Value) (mv mr : Value) (most : Int) (h0 : most < 0 ∨ 65536 < most) :
    Calls Tryz.prog 8 #[.int .i64 most, v, mv, mr] w fun e w' => e = .returned (.tuple #[.pointer none, .bool true]) ∧ w' = w := by
  have C1 := pnew_bad w mv most h0
  have C2 := rpnew_bad w mr most h0
  have hq : ∀ V, (binOp .eql 53 (.pointer none) (.pointer none)).run Tryz.prog V = .ok (.bool true) V := fun V => by kernel_rfl
  clear h0
  go_enter Tryz.func8, Tryz.ntmps8
  go_wp2_with fail
  refine C1.mono ?_
  rintro e w1 ⟨rfl, rfl⟩
  go_wp2_with fail
  refine C2.mono ?_
  rintro e w2 ⟨rfl, rfl⟩
  clear C1 C2
  go_wp2_with fail
  go_ret2
  exact ⟨rfl, rfl⟩
end Go.Proofs.YtjhaldbnfmddmaaGreat
namespace Go.Proofs.YtjhaldbnfmddmaaGreat
open Go.RowKit Go.WideShapes

theorem Ex.nix2 {w w' : World} (h : Ex (fun k => mB (.pointer none) k ∨ mB (.pointer none) k) w w') : Below w.heap.size w w' := ⟨h.os, h.tape, h.output, h.size, fun k hk => h.block k hk (fun x => x.elim noneB noneB)⟩
/-- plays without meters. -/
theorem plays8_none {w : World} {a0 : Option Addr} {n c0 : Nat} {q : Nat → (Nat → Int) × Bool} (hrow : S8 w a0 n c0 q) (hn : n ≤ 300) (most : Int) (h0 : 0 ≤ most) (h1 : most ≤ 65536) :
    Calls Tryz.prog 8 #[.int .i64 most, .slice a0 n c0, .pointer none, .pointer none] w fun e w' => ∃ X S a b, e = .returned (.tuple #[.pointer (some ⟨X, 0, none⟩), .bool true]) ∧ Py8 w X S (.pointer none) (.pointer none) noM a b most (33 * n) w' ∧ Below w.heap.size w w' :=
  (plays8_any mtOk_nil mvOk_nil (M := noM) trivial (.inl rfl) (fun _ h => (noneB h).elim) (fun _ hV => hrow.below hV.nix2 rfl) hn most h0 h1).mono fun _ _ ⟨X, S, a, b, h1, h2⟩ => ⟨X, S, a, b, h1, h2, h2.ex.nix2⟩
set_option maxRecDepth 100000 in
set_option maxHeartbeats 4000000 in
theorem pplays_walk (most : Int) (a0 : Option Addr) (n c0 : Nat) (q : Nat → (Nat → Int) × Bool) (w : World) (hS : S8 w a0 n c0 q) :
    Calls Tryz.prog 3 #[.int .i64 most, .slice a0 n c0] w fun e w' => e = .returned (.bool true) ∧ Below w.heap.size w w' := by
  have hcap := hS.1
  by_cases hn : n ≤ 300
  · have tn : ¬ 300 < (n : Int) := by omega
    by_cases hm : 0 ≤ most ∧ most ≤ 65536
    · have C1 := plays8_none hS hn most hm.1 hm.2
      clear hS hm
      go_enter Tryz.func3, Tryz.ntmps3
      go_wp2_with fail
      refine C1.mono ?_
      rintro e w1 ⟨X, S, a, b, rfl, hP, hb⟩
      have CA := awake8_any w1
      have HB := Lib.hid hb
      clear C1 hP hb
      go_wp2_with fail
      refine CA.mono ?_
      rintro e w2 ⟨rfl, hb2⟩
      have HB2 := Lib.hid (HB.out.trans (hb2.mono HB.out.size))
      clear CA hb2 HB
      go_wp2_with fail
      go_ret
      exact ⟨rfl, HB2.out⟩
    · have C1 := plays8_bad w (.slice a0 n c0) (.pointer none) (.pointer none) most (by omega)
      clear hS hm
      go_enter Tryz.func3, Tryz.ntmps3
      go_wp2_with fail
      refine C1.mono ?_
      rintro e w1 ⟨rfl, rfl⟩
      have CA := awake8_any w1
      clear C1
      go_wp2_with fail
      refine CA.mono ?_
      rintro e w2 ⟨rfl, hb2⟩
      have HB2 := Lib.hid hb2
      clear CA hb2
      go_wp2_with fail
      go_ret
      exact ⟨rfl, HB2.out⟩
  · have tn : 300 < (n : Int) := by omega
    have CA := awake8_any w
    clear hS
    go_enter Tryz.func3, Tryz.ntmps3
    go_wp2_with fail
    refine CA.mono ?_
    rintro e w2 ⟨rfl, hb2⟩
    have HB2 := Lib.hid hb2
    clear CA hb2
    go_wp2_with fail
    go_ret
    exact ⟨rfl, HB2.out⟩
end Go.Proofs.YtjhaldbnfmddmaaGreat
