/-
  The law's plays.
  ProbePlays, walked.
  ProbeTwo, walked.
-/
import Derived.Test.YtfhpkoakalihkaaGreatGt
import Derived.Test.YtfhpkoakalihkaaGreatPp8a
import Derived.Test.YtfhpkoakalihkaaGreatGp
namespace Go.Proofs.YtfhpkoakalihkaaGreat
open Go.RowKit Go.WideShapes

set_option maxRecDepth 100000 in
set_option maxHeartbeats 8000000 in
theorem plays8_any {w : World} {pm pr : Option Addr} {M : Int → Int → World → Prop} (hMo : MtOk (.pointer pm) M) (hMv : MvOk (.pointer pm) M) (hM : M 0 0 w) (hms : Ms w (.pointer pr) 0 0 0 0) (hpp : ∀ k, mB (.pointer pm) k → mB (.pointer pr) k → False) {a0 : Option Addr} {n c0 : Nat} {q : Nat → (Nat → Int) × Bool} (hrow : ∀ V, Ex (fun k => mB (.pointer pm) k ∨ mB (.pointer pr) k) w V → S8 V a0 n c0 q) (hn : n ≤ 300) (most : Int) (h0 : 0 ≤ most) (h1 : most ≤ 65536) :
    Calls Tryz.prog 8 #[.int .i64 most, .slice a0 n c0, .pointer pm, .pointer pr] w fun e w' => ∃ X S a b, e = .returned (.tuple #[.pointer (some ⟨X, 0, none⟩), .bool true]) ∧ Py8 w X S (.pointer pm) (.pointer pr) M a b most (33 * n) w' := by
  have C1 := pnew_any hMo hM (by omega : (0 : Int) ≤ 0 ∧ (0 : Int) ≤ 1000000000) most h0 h1
  have hlm : ∀ k, mB (.pointer pm) k → k < w.heap.size := fun k hk => hMo.lt 0 0 w k hM hk
  have hlr := hms.lt
  have HMo := Lib.hid hMo
  have HMv := Lib.hid hMv
  have HMS := Lib.hid hms
  have HROW := Lib.hid hrow
  have HPP := Lib.hid hpp
  have HLM := Lib.hid hlm
  have HLR := Lib.hid hlr
  have hcap : n ≤ c0 := (hrow w (Ex.refl _ _)).1
  clear hMo hMv hM hms hrow hpp hlm hlr
  go_enter Tryz.func8, Tryz.ntmps8
  go_wp2_with fail
  refine C1.mono ?_
  rintro e w1 ⟨d, g, gi, r, h, rfl, hd, hD, hM1, hX1⟩
  clear C1
  have C2 := rpnew_any (HMS.out.same (w' := w1) fun k hk => hX1.block k (HLR.out k hk) (fun x => HPP.out k x hk)) (by omega : (0 : Int) ≤ 0 ∧ (0 : Int) ≤ 1000000000) most h0 h1
  have HD := Lib.hid hD
  have HM1 := Lib.hid hM1
  have HX1 := Lib.hid hX1
  have HDL := Lib.hid hd
  clear hD hM1 hX1 hd
  go_wp2_with fail
  refine C2.mono ?_
  rintro e w2 ⟨d2, g2, q2, rfl, hr, hR, hMs2, hX2⟩
  clear C2
  obtain ⟨w3, hw3⟩ : ∃ y, w2.alloc (.cells #[.pointer (some ⟨d, 0, none⟩), .pointer (some ⟨d2, 0, none⟩), .slice none 0 0, .slice none 0 0] 58) = y := ⟨_, rfl⟩
  have hB3 : Below w2.heap.size w2 w3 := by rw [← hw3]; exact (Below.refl _ w2).alloc (Nat.le_refl _) _
  have hx3 : Blk w3 w2.heap.size 4 (x8F (ini8 d g gi r h d2 g2 q2)) := by
    rw [← hw3]
    refine (Blk.new w2 _ _).congr fun j hj => ?_
    have : j = 0 ∨ j = 1 ∨ j = 2 ∨ j = 3 := by simp at hj; omega
    rcases this with rfl | rfl | rfl | rfl <;> rfl
  have HPY : Hid (Py8 w w2.heap.size (ini8 d g gi r h d2 g2 q2) (.pointer pm) (.pointer pr) M 1 0 most 0 w3) := py8_new HMo.out HLR.out HLM.out HPP.out HDL.out HD.out HM1.out HX1.out hr hR hMs2 hX2 hB3 hx3
  have hnq := eqD d
  have HW3 := Lib.hid hw3
  clear hB3 hx3 hR hMs2 hX2 hw3 HD HM1 HX1 HDL hr
  go_upto_region 8 with fail
  rw [HW3.out]
  generalize hXX : w2.heap.size = X at *
  clear hXX HW3
  go_wp2_with fail
  clear hnq
  obtain ⟨S0, hS0⟩ : ∃ S0, Hid (Py8 w X S0 (.pointer pm) (.pointer pr) M 1 0 most 0 w3) := ⟨_, HPY⟩
  clear HPY
  go_loopw [15] (fun iv wr => ∃ k S a b, k ≤ n ∧ iv = .int .i64 (k : Int) ∧ Py8 w X S (.pointer pm) (.pointer pr) M a b most (33 * k) wr) (fun iv _ => n - (intOf iv).toNat)
  case atStart => exact ⟨0, S0, 1, 0, Nat.zero_le _, rfl, hS0.out⟩
  case round =>
    clear hS0
    obtain ⟨k, S, a, b, hk, rfl, hPY⟩ := hrel
    by_cases hlt : k < n
    · have t1 : (k : Int) < (n : Int) := by omega
      obtain ⟨_, bR, offR, hab, hG⟩ := HROW.out wr hPY.ex
      obtain ⟨rfl, hbl⟩ := hab (by omega)
      have hq := (hG k hlt).1
      have hF : ∀ j, j < 7 → wr.cell? ⟨bR, offR + k * 8 + j, none⟩ = some (.int .i64 ((q k).1 j)) := fun j hj => by rw [Nat.add_assoc]; exact hq j hj
      have r0 : wr.cell? ⟨bR, offR + k * 8, none⟩ = some (.int .i64 ((q k).1 0)) := hF 0 (by omega)
      have r1 := hF 1 (by omega)
      have r2 := hF 2 (by omega)
      have r3 := hF 3 (by omega)
      have r4 := hF 4 (by omega)
      have r5 := hF 5 (by omega)
      have r6 := hF 6 (by omega)
      have r7 : wr.cell? ⟨bR, offR + k * 8 + 7, none⟩ = some (.bool (q k).2) := by rw [Nat.add_assoc]; exact (hG k hlt).2
      have CD := does8_any hPY.p HMo.out HMv.out (by omega) ((q k).1 0) ((q k).1 1) ((q k).1 2) ((q k).1 3) ((q k).1 4) ((q k).1 5) ((q k).1 6) (q k).2
      have HPY := Lib.hid hPY
      clear hG hab hPY hq hF
      generalize (q k).1 0 = x0 at *
      generalize (q k).1 1 = x1 at *
      generalize (q k).1 2 = x2 at *
      generalize (q k).1 3 = x3 at *
      generalize (q k).1 4 = x4 at *
      generalize (q k).1 5 = x5 at *
      generalize (q k).1 6 = x6 at *
      generalize (q k).2 = x7 at *
      go_wp2_with fail
      refine CD.mono ?_
      rintro e w4 ⟨rfl, S', a', b', hD⟩
      have hPY2 := HPY.out.step hD
      have CA := alike_any hPY2.p (by omega)
      have HPY2 := Lib.hid hPY2
      clear CD hD hPY2 r0 r1 r2 r3 r4 r5 r6 r7
      go_wp2_with fail
      refine CA.mono ?_
      rintro e w5 ⟨rfl, hb⟩
      have HP3 := Lib.hid (HPY2.out.below HMo.out hb)
      clear CA hb
      go_wp2_with fail
      go_roundw
      case rel => exact ⟨k + 1, S', a', b', by omega, by go_num, by have := HP3.out; rwa [show 33 * k + 33 = 33 * (k + 1) by omega] at this⟩
      case measure => simp [intOf]; omega
    · obtain rfl : k = n := by omega
      have t1 : ¬ (k : Int) < (k : Int) := by omega
      have HPY := Lib.hid hPY
      clear hPY
      go_wp2_with fail
      go_ret2
      exact ⟨X, rfl, S, a, b, HPY.out⟩
theorem plays8_bad (w : World) (v : Value) (mv mr : Value) (most : Int) (h0 : most < 0 ∨ 65536 < most) :
    Calls Tryz.prog 8 #[.int .i64 most, v, mv, mr] w fun e w' => e = .returned (.tuple #[.pointer none, .bool true]) ∧ w' = w := by
  have C1 := pnew_bad w mv most h0
  have C2 := rpnew_bad w mr most h0
  have hq : ∀ V, (binOp .eql 53 (.pointer none) (.pointer none)).run Tryz.prog V = .ok (.bool true) V := fun V => by kernel_rfl
  clear h0
  go_enter Tryz.func8, Tryz.ntmps8
  go_wp2_with fail
  refine C1.mono ?_
  rintro e w1 ⟨rfl, rfl⟩
  go_wp2_with fail
  refine C2.mono ?_
  rintro e w2 ⟨rfl, rfl⟩
  clear C1 C2
  go_wp2_with fail
  go_ret2
  exact ⟨rfl, rfl⟩
end Go.Proofs.YtfhpkoakalihkaaGreat
namespace Go.Proofs.YtfhpkoakalihkaaGreat
open Go.RowKit Go.WideShapes

theorem Ex.nix2 {w w' : World} (h : Ex (fun k => mB (.pointer none) k ∨ mB (.pointer none) k) w w') : Below w.heap.size w w' := ⟨h.os, h.tape, h.output, h.size, fun k hk => h.block k hk (fun x => x.elim noneB noneB)⟩
/-- plays without meters. -/
theorem plays8_none {w : World} {a0 : Option Addr} {n c0 : Nat} {q : Nat → (Nat → Int) × Bool} (hrow : S8 w a0 n c0 q) (hn : n ≤ 300) (most : Int) (h0 : 0 ≤ most) (h1 : most ≤ 65536) :
    Calls Tryz.prog 8 #[.int .i64 most, .slice a0 n c0, .pointer none, .pointer none] w fun e w' => ∃ X S a b, e = .returned (.tuple #[.pointer (some ⟨X, 0, none⟩), .bool true]) ∧ Py8 w X S (.pointer none) (.pointer none) noM a b most (33 * n) w' ∧ Below w.heap.size w w' :=
  (plays8_any mtOk_nil mvOk_nil (M := noM) trivial (.inl rfl) (fun _ h => (noneB h).elim) (fun _ hV => hrow.below hV.nix2 rfl) hn most h0 h1).mono fun _ _ ⟨X, S, a, b, h1, h2⟩ => ⟨X, S, a, b, h1, h2, h2.ex.nix2⟩
set_option maxRecDepth 100000 in
set_option maxHeartbeats 4000000 in
theorem pplays_walk (most : Int) (a0 : Option Addr) (n c0 : Nat) (q : Nat → (Nat → Int) × Bool) (w : World) (hS : S8 w a0 n c0 q) :
    Calls Tryz.prog 3 #[.int .i64 most, .slice a0 n c0] w fun e w' => e = .returned (.bool true) ∧ Below w.heap.size w w' := by
  have hcap := hS.1
  by_cases hn : n ≤ 300
  · have tn : ¬ 300 < (n : Int) := by omega
    by_cases hm : 0 ≤ most ∧ most ≤ 65536
    · have C1 := plays8_none hS hn most hm.1 hm.2
      clear hS hm
      go_enter Tryz.func3, Tryz.ntmps3
      go_wp2_with fail
      refine C1.mono ?_
      rintro e w1 ⟨X, S, a, b, rfl, hP, hb⟩
      have CA := awake8_any w1
      have HB := Lib.hid hb
      clear C1 hP hb
      go_wp2_with fail
      refine CA.mono ?_
      rintro e w2 ⟨rfl, hb2⟩
      have HB2 := Lib.hid (HB.out.trans (hb2.mono HB.out.size))
      clear CA hb2 HB
      go_wp2_with fail
      go_ret
      exact ⟨rfl, HB2.out⟩
    · have C1 := plays8_bad w (.slice a0 n c0) (.pointer none) (.pointer none) most (by omega)
      clear hS hm
      go_enter Tryz.func3, Tryz.ntmps3
      go_wp2_with fail
      refine C1.mono ?_
      rintro e w1 ⟨rfl, rfl⟩
      have CA := awake8_any w1
      clear C1
      go_wp2_with fail
      refine CA.mono ?_
      rintro e w2 ⟨rfl, hb2⟩
      have HB2 := Lib.hid hb2
      clear CA hb2
      go_wp2_with fail
      go_ret
      exact ⟨rfl, HB2.out⟩
  · have tn : 300 < (n : Int) := by omega
    have CA := awake8_any w
    clear hS
    go_enter Tryz.func3, Tryz.ntmps3
    go_wp2_with fail
    refine CA.mono ?_
    rintro e w2 ⟨rfl, hb2⟩
    have HB2 := Lib.hid hb2
    clear CA hb2
    go_wp2_with fail
    go_ret
    exact ⟨rfl, HB2.out⟩
end Go.Proofs.YtfhpkoakalihkaaGreat
namespace Go.Proofs.YtfhpkoakalihkaaGreat
open Go.RowKit Go.WideShapes

def one8 (p : Dp) : St8 := ⟨1, fun _ => p, 0, fun _ => ⟨0, 0, .pointer none, 0, .pointer none, ⟨0, 0, 0, 0, 0, 0, Tu.zero, 0, false⟩, ⟨0, false, false, false, Tu.zero⟩⟩, .slice none 0 0, .slice none 0 0⟩
theorem p8_one {w1 w2 w3 : World} {p : Dp} {most : Int} {B c : Nat} (hB : B ≤ w1.heap.size) (hd : ∀ k, p.P k → B ≤ k) (hD : Dc w1 p.d p.g p.gi p.r p.h p.ev p.t (.pointer none) most p.v) (hr : ∀ k, p.R k → w1.heap.size ≤ k) (hR : Rdc w2 p.d2 p.g2 p.q2 p.ev2 p.t (.pointer none) most p.v) (x2 : Below w1.heap.size w1 w2) (hb : Below w2.heap.size w2 w3) (hX : Blk w3 w2.heap.size 4 (x8F (one8 p))) (hbp : Bp p c) :
    P8 w3 w2.heap.size (one8 p) (.pointer none) (.pointer none) noM 1 0 most c ∧ ∀ k, (one8 p).all w2.heap.size k → B ≤ k := by
  have s2 := x2.size
  have s3 := hb.size
  have lX := hX.lt (by omega)
  have hlD := hD.lt
  have hlR := hR.lt
  refine ⟨⟨hX, ⟨rfl, .inl ⟨rfl, rfl⟩⟩, ⟨rfl, .inl ⟨rfl, rfl⟩⟩, Nat.one_pos, Nat.zero_le _, fun i _ => ⟨(hD.below x2).below hb, hR.same fun k hk => hb.block k (hlR k hk), hbp⟩, fun j hj => absurd hj (Nat.not_lt_zero _), trivial, .inl rfl, ⟨by omega, by omega, by omega, by omega⟩, ?_⟩, ?_⟩
  · refine ⟨fun k => if k = w2.heap.size then 0 else if w1.heap.size ≤ k then 6 else 5, ⟨if_pos rfl, lX⟩, fun k y => (noneB y).elim, fun k y => (noneB y).elim, fun k y => ?_, fun k y => ?_, fun i hi k y => ?_, fun i hi k y => ?_, fun j hj => absurd hj (Nat.not_lt_zero _), fun j hj => absurd hj (Nat.not_lt_zero _)⟩
    · cases y
    · cases y
    · have g2 := hlD k y
      obtain rfl : i = 0 := by have : i < 1 := hi; omega
      show (if k = w2.heap.size then 0 else _) = 5 ∧ _
      rw [if_neg (by omega), if_neg (by omega)]
      exact ⟨rfl, by omega⟩
    · have g1 := hr k y
      have g2 := hlR k y
      obtain rfl : i = 0 := by have : i < 1 := hi; omega
      show (if k = w2.heap.size then 0 else _) = 6 ∧ _
      rw [if_neg (by omega), if_pos (by omega)]
      exact ⟨rfl, by omega⟩
  · rintro k (rfl | y | y | ⟨i, _, y | y⟩ | ⟨j, hj, _⟩)
    · omega
    · cases y
    · cases y
    · exact hd k y
    · have := hr k y; omega
    · exact absurd hj (Nat.not_lt_zero _)
/-- Two dictionaries with all that is theirs, apart. -/
structure Pw8 (w0 w : World) (X Y : Nat) (S U : St8) (a b a' b' most : Int) (c : Nat) : Prop where
  x : P8 w X S (.pointer none) (.pointer none) noM a b most c
  y : P8 w Y U (.pointer none) (.pointer none) noM a' b' most c
  ap : ∀ k, S.all X k → ¬ U.all Y k
  fx : ∀ k, S.all X k → w0.heap.size ≤ k
  fy : ∀ k, U.all Y k → w0.heap.size ≤ k
  bl : Below w0.heap.size w0 w
theorem Pw8.mono {w0 w : World} {X Y : Nat} {S U : St8} {a b a' b' most : Int} {c c' : Nat} (h : Pw8 w0 w X Y S U a b a' b' most c) (hc : c ≤ c') : Pw8 w0 w X Y S U a b a' b' most c' := ⟨h.x.le hc, h.y.le hc, h.ap, h.fx, h.fy, h.bl⟩
theorem Pw8.below {w0 w w' : World} {X Y : Nat} {S U : St8} {a b a' b' most : Int} {c : Nat} (h : Pw8 w0 w X Y S U a b a' b' most c) (hb : Below w.heap.size w w') : Pw8 w0 w' X Y S U a b a' b' most c := ⟨h.x.below mtOk_nil hb, h.y.below mtOk_nil hb, h.ap, h.fx, h.fy, h.bl.trans (hb.mono h.bl.size)⟩
theorem Pw8.swap {w0 w : World} {X Y : Nat} {S U : St8} {a b a' b' most : Int} {c : Nat} (h : Pw8 w0 w X Y S U a b a' b' most c) : Pw8 w0 w Y X U S a' b' a b most c := ⟨h.y, h.x, fun k hy hx => h.ap k hx hy, h.fy, h.fx, h.bl⟩
theorem Pw8.stepx {w0 w w1 : World} {X Y : Nat} {S U S1 : St8} {a b a' b' a1 b1 most : Int} {c c' : Nat} (h : Pw8 w0 w X Y S U a b a' b' most c) (hc : c ≤ c') (d : D8 w X S (.pointer none) (.pointer none) noM most c' S1 a1 b1 w1) : Pw8 w0 w1 X Y S1 U a1 b1 a' b' most c' := by
  have hlt := h.y.lt
  refine ⟨d.p, (h.y.keep mtOk_nil d.ex.size (fun k hk => d.ex.block k (hlt k hk) (fun hx => ?_))).le hc, fun k hk hy => ?_, fun k hk => ?_, h.fy, ?_⟩
  · rcases hx with hx | hx | hx
    · rcases hk with hk | hk | hk
      · exact h.ap k hx hk
      · exact noneB hk
      · exact noneB hk
    · exact noneB hx
    · exact noneB hx
  · rcases d.fx k hk with z | z
    · exact h.ap k z hy
    · have := hlt k (.inl hy); omega
  · rcases d.fx k hk with z | z
    · exact h.fx k z
    · exact Nat.le_trans h.bl.size z
  · refine h.bl.trans ⟨d.ex.os, d.ex.tape, d.ex.output, d.ex.size, fun k hk => d.ex.block k (Nat.lt_of_lt_of_le hk h.bl.size) (fun hx => ?_)⟩
    rcases hx with hx | hx | hx
    · have := h.fx k hx; omega
    · exact noneB hx
    · exact noneB hx
theorem Ex.nix {w w' : World} (h : Ex (mB (.pointer none)) w w') : Below w.heap.size w w' := ⟨h.os, h.tape, h.output, h.size, fun k hk => h.block k hk noneB⟩
theorem eqTwo (X : Nat) (w : World) : (binOp .eql 24 (.pointer (some ⟨X, 0, none⟩)) (.pointer none)).run Tryz.prog w = .ok (.bool false) w := by kernel_rfl
theorem eqTwo0 (w : World) : (binOp .eql 24 (.pointer none) (.pointer none)).run Tryz.prog w = .ok (.bool true) w := by kernel_rfl
set_option maxRecDepth 100000 in
set_option maxHeartbeats 16000000 in
theorem ptwo_walk (most : Int) (a0 : Option Addr) (n0 c0 : Nat) (G0 : Nat → (Nat → Int) × Bool) (a1 : Option Addr) (n1 c1 : Nat) (G1 : Nat → (Nat → Int) × Bool) (a2 : Option Addr) (n2 c2 : Nat) (G2 : Nat → (Nat → Int) × Bool) (w : World) (h0 : S8 w a0 n0 c0 G0) (h1 : S8 w a1 n1 c1 G1) (h2 : S8 w a2 n2 c2 G2) :
    Calls Tryz.prog 5 #[.int .i64 most, .slice a0 n0 c0, .slice a1 n1 c1, .slice a2 n2 c2] w fun e w' => e = .returned (.bool true) ∧ Below w.heap.size w w' := by
  have hc0 := h0.1
  have hc1 := h1.1
  have hc2 := h2.1
  by_cases hn0 : n0 ≤ 300
  case neg =>
    have t0 : 300 < (n0 : Int) := by omega
    have CW := awake8_any w
    clear h0 h1 h2
    go_enter Tryz.func5, Tryz.ntmps5
    go_wp2_with fail
    refine CW.mono ?_
    rintro e w1 ⟨rfl, hb⟩
    have HB := Lib.hid hb
    clear CW hb
    go_wp2_with fail
    go_ret
    exact ⟨rfl, HB.out⟩
  by_cases hn1 : n1 ≤ 300
  case neg =>
    have t0 : ¬ 300 < (n0 : Int) := by omega
    have t1 : 300 < (n1 : Int) := by omega
    have CW := awake8_any w
    clear h0 h1 h2
    go_enter Tryz.func5, Tryz.ntmps5
    go_wp2_with fail
    refine CW.mono ?_
    rintro e w1 ⟨rfl, hb⟩
    have HB := Lib.hid hb
    clear CW hb
    go_wp2_with fail
    go_ret
    exact ⟨rfl, HB.out⟩
  by_cases hn2 : n2 ≤ 300
  case neg =>
    have t0 : ¬ 300 < (n0 : Int) := by omega
    have t1 : ¬ 300 < (n1 : Int) := by omega
    have t2 : 300 < (n2 : Int) := by omega
    have CW := awake8_any w
    clear h0 h1 h2
    go_enter Tryz.func5, Tryz.ntmps5
    go_wp2_with fail
    refine CW.mono ?_
    rintro e w1 ⟨rfl, hb⟩
    have HB := Lib.hid hb
    clear CW hb
    go_wp2_with fail
    go_ret
    exact ⟨rfl, HB.out⟩
  have t0 : ¬ 300 < (n0 : Int) := by omega
  have t1 : ¬ 300 < (n1 : Int) := by omega
  have t2 : ¬ 300 < (n2 : Int) := by omega
  by_cases hm : 0 ≤ most ∧ most ≤ 65536
  case neg =>
    have C1 := plays8_bad w (.slice a0 n0 c0) (.pointer none) (.pointer none) most (by omega)
    have hq := eqTwo0
    have CW := awake8_any w
    clear h0 h1 h2 hm
    go_enter Tryz.func5, Tryz.ntmps5
    go_wp2_with fail
    refine C1.mono ?_
    rintro e w1 ⟨rfl, rfl⟩
    clear C1
    go_wp2_with fail
    refine CW.mono ?_
    rintro e w2 ⟨rfl, hb⟩
    have HB := Lib.hid hb
    clear CW hb
    go_wp2_with fail
    go_ret
    exact ⟨rfl, HB.out⟩
  have C1 := plays8_none h0 hn0 most hm.1 hm.2
  have H1 := Lib.hid h1
  have H2 := Lib.hid h2
  clear h0 h1 h2 hm
  go_enter Tryz.func5, Tryz.ntmps5
  go_wp2_with fail
  refine C1.mono ?_
  rintro e w1 ⟨X, S, a, b, rfl, hP, hB1⟩
  clear C1
  have hq := eqTwo X
  have hk : S.nd - 1 < S.nd := by have := hP.p.nd; omega
  have hPd := hP.p.below mtOk_nil (Below.refl _ w1).drew
  have hDK := hPd.dk _ hk
  obtain ⟨p, hp⟩ : ∃ y, S.ds (S.nd - 1) = y := ⟨_, rfl⟩
  rw [hp] at hDK
  obtain ⟨d, hd⟩ : ∃ y, p.d = y := ⟨_, rfl⟩
  obtain ⟨d2, hd2⟩ : ∃ y, p.d2 = y := ⟨_, rfl⟩
  have CC := pcopy_any hDK.dc mtOk_nil (M := noM) (a := 0) (b := 0) trivial (by omega)
  have HCD : Hid (∀ V, Below w1.drew.heap.size w1.drew V → Calls Tryz.prog 11 #[.pointer (some ⟨p.d2, 0, none⟩)] V fun e w' => ∃ d' g' q' ev', e = .returned (.pointer (some ⟨d', 0, none⟩)) ∧ (∀ k, rX d' g' q' ev' k → V.heap.size ≤ k) ∧ Rdc w' d' g' q' ev' p.t.cp (.pointer none) most 0 ∧ Ms w' (.pointer none) (0 + 1) 0 0 0 ∧ Ex (mB (.pointer none)) V w') := fun V hV => by
    have h1 := (hPd.below mtOk_nil hV).dk _ hk
    rw [hp] at h1
    exact rcopy8_any h1.rc h1.dc.ok (.inl rfl) (by omega)
  rw [hd] at CC
  rw [hd2] at HCD
  have s0 : w1.drew.cell? ⟨X, 0, none⟩ = some (.pointer (some ⟨d, 0, none⟩)) ∧ w1.drew.cell? ⟨X, 1, none⟩ = some (.pointer (some ⟨d2, 0, none⟩)) := ⟨by rw [← hd, ← hp]; exact hPd.hx.c 0 (by omega), by rw [← hd2, ← hp]; exact hPd.hx.c 1 (by omega)⟩
  have lX := hPd.hx.lt (by omega)
  have HP := Lib.hid hP
  have HB1 := Lib.hid hB1
  have HDK := Lib.hid hDK
  clear hPd hP hB1 hDK hd hd2 hp hk
  go_upto_region 6 with fail
  go_region_held3 (fun V => V.cell? ⟨X, 0, none⟩ = some (.pointer (some ⟨d, 0, none⟩)) ∧ V.cell? ⟨X, 1, none⟩ = some (.pointer (some ⟨d2, 0, none⟩)))
    (first | with_reducible exact s0 | with_reducible exact s2 | with_reducible exact s3 | with_reducible exact s4 | fail)
    (first | (go_at_call 10; refine CC.mono ?_; rintro e w2 ⟨d', g', gi', r', h', ev', rfl, hfd, hD2, _, hx2⟩; have hb2 := hx2.nix; have s2 : w2.cell? ⟨X, 0, none⟩ = some (.pointer (some ⟨d, 0, none⟩)) ∧ w2.cell? ⟨X, 1, none⟩ = some (.pointer (some ⟨d2, 0, none⟩)) := ⟨(hb2.cell (p := ⟨X, 0, none⟩) lX).trans s0.1, (hb2.cell (p := ⟨X, 1, none⟩) lX).trans s0.2⟩) | (go_at_call 11; refine (HCD.out w2 hb2).mono ?_; rintro e w3 ⟨d2', g2', q2', ev2', rfl, hfr, hR3, _, hx3⟩; have hb3 := hx3.nix; have lX2 := Nat.lt_of_lt_of_le lX hb2.size; have s3 : w3.cell? ⟨X, 0, none⟩ = some (.pointer (some ⟨d, 0, none⟩)) ∧ w3.cell? ⟨X, 1, none⟩ = some (.pointer (some ⟨d2, 0, none⟩)) := ⟨(hb3.cell (p := ⟨X, 0, none⟩) lX2).trans s2.1, (hb3.cell (p := ⟨X, 1, none⟩) lX2).trans s2.2⟩; have lX3 := Nat.lt_of_lt_of_le lX2 hb3.size; have s4 : (w3.alloc (.cells #[.pointer (some ⟨d', 0, none⟩), .pointer (some ⟨d2', 0, none⟩), .slice none 0 0, .slice none 0 0] 58)).cell? ⟨X, 0, none⟩ = some (.pointer (some ⟨d, 0, none⟩)) ∧ (w3.alloc (.cells #[.pointer (some ⟨d', 0, none⟩), .pointer (some ⟨d2', 0, none⟩), .slice none 0 0, .slice none 0 0] 58)).cell? ⟨X, 1, none⟩ = some (.pointer (some ⟨d2, 0, none⟩)) := ⟨(cell_alloc_old _ _ _ _ lX3).trans s3.1, (cell_alloc_old _ _ _ _ lX3).trans s3.2⟩) | fail)
  obtain ⟨w4, hw4⟩ : ∃ y, w3.alloc (.cells #[.pointer (some ⟨d', 0, none⟩), .pointer (some ⟨d2', 0, none⟩), .slice none 0 0, .slice none 0 0] 58) = y := ⟨_, rfl⟩
  have hb34 : Below w3.heap.size w3 w4 := by rw [← hw4]; exact (Below.refl _ w3).alloc (Nat.le_refl _) _
  have hX4 : Blk w4 w3.heap.size 4 (x8F (one8 ⟨d', g', gi', r', h', ev', d2', g2', q2', ev2', p.t.cp, 0⟩)) := by
    rw [← hw4]
    refine (Blk.new w3 _ _).congr fun j hj => ?_
    have : j = 0 ∨ j = 1 ∨ j = 2 ∨ j = 3 := by simp at hj; omega
    rcases this with rfl | rfl | rfl | rfl <;> rfl
  have hbd := HDK.out.bd
  have hlv : (liveL p.t.es).length ≤ 33 * n0 := by have h1 := liveL_len p.t.es; have h2 := HDK.out.dc.ok.few; have h3 := hbd.births; omega
  obtain ⟨hY, hYf⟩ := p8_one (p := ⟨d', g', gi', r', h', ev', d2', g2', q2', ev2', p.t.cp, 0⟩) (B := w1.heap.size) (c := 33 * n0) hb2.size hfd hD2 hfr hR3 hb3 hb34 hX4 ⟨hlv, by show 1 ≤ _; omega, by show 0 ≤ _; omega, Nat.zero_le _⟩
  have hb14 : Below w1.heap.size w1 w4 := by
    have e1 : Below w1.heap.size w1 w2 := ⟨hb2.os, hb2.tape, hb2.output, hb2.size, hb2.block⟩
    have e2 := e1.trans (hb3.mono e1.size)
    exact e2.trans (hb34.mono e2.size)
  have hSlt := HP.out.p.lt
  have HPW : Hid (Pw8 w w4 X w3.heap.size S (one8 ⟨d', g', gi', r', h', ev', d2', g2', q2', ev2', p.t.cp, 0⟩) a b 1 0 most (33 * n0)) := ⟨HP.out.p.below mtOk_nil hb14, hY, fun k hk hk' => by have := hSlt k (.inl hk); have := hYf k hk'; omega, HP.out.fx, fun k hk => Nat.le_trans HB1.out.size (hYf k hk), HB1.out.trans (hb14.mono HB1.out.size)⟩
  have y0 : w4.cell? ⟨w3.heap.size, 0, none⟩ = some (.pointer (some ⟨d', 0, none⟩)) := hX4.c 0 (by omega)
  have hnq := eqD d'
  have HW4 := Lib.hid hw4
  clear hw4 hY hYf hb14 hX4 hb34 hSlt hlv hbd hD2 hfd hR3 hfr hx2 hx3 hb2 hb3 s0 s2 s3 s4 CC HCD lX lX2 lX3 HP HB1 HDK hq
  go_upto_region 7 with fail
  rw [HW4.out]
  generalize w3.heap.size = Y at *
  clear HW4
  go_wp2_with fail
  clear y0 hnq
  obtain ⟨S0, U0, HPW⟩ : ∃ S0 U0, Hid (Pw8 w w4 X Y S0 U0 a b 1 0 most (33 * n0)) := ⟨_, _, HPW⟩
  go_loopw [12] (fun iv wr => ∃ (k : Nat) (S U : St8) (a b a' b' : Int), k ≤ 300 ∧ (k ≤ n1 ∨ k ≤ n2) ∧ iv = .int .i64 (k : Int) ∧ Pw8 w wr X Y S U a b a' b' most (33 * n0 + 66 * k)) (fun iv _ => 301 - (intOf iv).toNat)
  case atStart => exact ⟨0, S0, U0, a, b, 1, 0, by omega, .inl (Nat.zero_le _), rfl, HPW.out⟩
  case round =>
    clear HPW
    obtain ⟨k, S, U, a, b, a', b', hk, hko, rfl, hW⟩ := hrel
    by_cases k1 : k < n1
    · have u1 : (k : Int) < (n1 : Int) := by omega
      obtain ⟨_, b1, o1, hab1, hG1⟩ := H1.out.below hW.bl rfl
      obtain ⟨rfl, hbl1⟩ := hab1 (by omega)
      have hF : ∀ j, j < 7 → wr.cell? ⟨b1, o1 + k * 8 + j, none⟩ = some (.int .i64 ((G1 k).1 j)) := fun j hj => by rw [Nat.add_assoc]; exact (hG1 k k1).1 j hj
      have r0 : wr.cell? ⟨b1, o1 + k * 8, none⟩ = some (.int .i64 ((G1 k).1 0)) := hF 0 (by omega)
      have r1 := hF 1 (by omega)
      have r2 := hF 2 (by omega)
      have r3 := hF 3 (by omega)
      have r4 := hF 4 (by omega)
      have r5 := hF 5 (by omega)
      have r6 := hF 6 (by omega)
      have r7 : wr.cell? ⟨b1, o1 + k * 8 + 7, none⟩ = some (.bool (G1 k).2) := by rw [Nat.add_assoc]; exact (hG1 k k1).2
      have CX := does8_any hW.x mtOk_nil mvOk_nil (by omega) ((G1 k).1 0) ((G1 k).1 1) ((G1 k).1 2) ((G1 k).1 3) ((G1 k).1 4) ((G1 k).1 5) ((G1 k).1 6) (G1 k).2
      have HW := Lib.hid hW
      clear hW hG1 hab1 hF
      generalize (G1 k).1 0 = x0 at *
      generalize (G1 k).1 1 = x1 at *
      generalize (G1 k).1 2 = x2 at *
      generalize (G1 k).1 3 = x3 at *
      generalize (G1 k).1 4 = x4 at *
      generalize (G1 k).1 5 = x5 at *
      generalize (G1 k).1 6 = x6 at *
      generalize (G1 k).2 = x7 at *
      by_cases k2 : k < n2
      · have u2 : (k : Int) < (n2 : Int) := by omega
        go_wp2_with fail
        refine CX.mono ?_
        rintro e w5 ⟨rfl, S1, a5, b5, hN⟩
        have hW5 := HW.out.stepx (by omega) hN
        clear CX hN HW r0 r1 r2 r3 r4 r5 r6 r7
        obtain ⟨_, b2, o2, hab2, hG2⟩ := H2.out.below hW5.bl rfl
        obtain ⟨rfl, hbl2⟩ := hab2 (by omega)
        have hF : ∀ j, j < 7 → w5.cell? ⟨b2, o2 + k * 8 + j, none⟩ = some (.int .i64 ((G2 k).1 j)) := fun j hj => by rw [Nat.add_assoc]; exact (hG2 k k2).1 j hj
        have r0 : w5.cell? ⟨b2, o2 + k * 8, none⟩ = some (.int .i64 ((G2 k).1 0)) := hF 0 (by omega)
        have r1 := hF 1 (by omega)
        have r2 := hF 2 (by omega)
        have r3 := hF 3 (by omega)
        have r4 := hF 4 (by omega)
        have r5 := hF 5 (by omega)
        have r6 := hF 6 (by omega)
        have r7 : w5.cell? ⟨b2, o2 + k * 8 + 7, none⟩ = some (.bool (G2 k).2) := by rw [Nat.add_assoc]; exact (hG2 k k2).2
        have CY := does8_any hW5.y mtOk_nil mvOk_nil (by omega) ((G2 k).1 0) ((G2 k).1 1) ((G2 k).1 2) ((G2 k).1 3) ((G2 k).1 4) ((G2 k).1 5) ((G2 k).1 6) (G2 k).2
        have HW := Lib.hid hW5
        clear hW5 hG2 hab2 hF
        generalize (G2 k).1 0 = z0 at *
        generalize (G2 k).1 1 = z1 at *
        generalize (G2 k).1 2 = z2 at *
        generalize (G2 k).1 3 = z3 at *
        generalize (G2 k).1 4 = z4 at *
        generalize (G2 k).1 5 = z5 at *
        generalize (G2 k).1 6 = z6 at *
        generalize (G2 k).2 = z7 at *
        go_wp2_with fail
        refine CY.mono ?_
        rintro e w6 ⟨rfl, U1, a6, b6, hN⟩
        have HZ := Lib.hid (((HW.out.swap.stepx (by omega) hN).swap).mono (by omega : 33 * n0 + 66 * k + 33 + 33 ≤ 33 * n0 + 66 * (k + 1)))
        clear CY hN HW r0 r1 r2 r3 r4 r5 r6 r7
        go_wp2_with fail
        go_roundw
        case rel => exact ⟨k + 1, _, _, _, _, _, _, by omega, .inl (by omega), by go_num, HZ.out⟩
        case measure => simp [intOf]; omega
      · have u2 : ¬ (k : Int) < (n2 : Int) := by omega
        go_wp2_with fail
        refine CX.mono ?_
        rintro e w5 ⟨rfl, S1, a5, b5, hN⟩
        have HZ := Lib.hid ((HW.out.stepx (by omega) hN).mono (by omega : 33 * n0 + 66 * k + 33 ≤ 33 * n0 + 66 * (k + 1)))
        clear CX hN HW r0 r1 r2 r3 r4 r5 r6 r7
        go_wp2_with fail
        go_roundw
        case rel => exact ⟨k + 1, _, _, _, _, _, _, by omega, .inl (by omega), by go_num, HZ.out⟩
        case measure => simp [intOf]; omega
    · have u1 : ¬ (k : Int) < (n1 : Int) := by omega
      by_cases k2 : k < n2
      · have u2 : (k : Int) < (n2 : Int) := by omega
        obtain ⟨_, b2, o2, hab2, hG2⟩ := H2.out.below hW.bl rfl
        obtain ⟨rfl, hbl2⟩ := hab2 (by omega)
        have hF : ∀ j, j < 7 → wr.cell? ⟨b2, o2 + k * 8 + j, none⟩ = some (.int .i64 ((G2 k).1 j)) := fun j hj => by rw [Nat.add_assoc]; exact (hG2 k k2).1 j hj
        have r0 : wr.cell? ⟨b2, o2 + k * 8, none⟩ = some (.int .i64 ((G2 k).1 0)) := hF 0 (by omega)
        have r1 := hF 1 (by omega)
        have r2 := hF 2 (by omega)
        have r3 := hF 3 (by omega)
        have r4 := hF 4 (by omega)
        have r5 := hF 5 (by omega)
        have r6 := hF 6 (by omega)
        have r7 : wr.cell? ⟨b2, o2 + k * 8 + 7, none⟩ = some (.bool (G2 k).2) := by rw [Nat.add_assoc]; exact (hG2 k k2).2
        have CY := does8_any hW.y mtOk_nil mvOk_nil (by omega) ((G2 k).1 0) ((G2 k).1 1) ((G2 k).1 2) ((G2 k).1 3) ((G2 k).1 4) ((G2 k).1 5) ((G2 k).1 6) (G2 k).2
        have HW := Lib.hid hW
        clear hW hG2 hab2 hF
        generalize (G2 k).1 0 = x0 at *
        generalize (G2 k).1 1 = x1 at *
        generalize (G2 k).1 2 = x2 at *
        generalize (G2 k).1 3 = x3 at *
        generalize (G2 k).1 4 = x4 at *
        generalize (G2 k).1 5 = x5 at *
        generalize (G2 k).1 6 = x6 at *
        generalize (G2 k).2 = x7 at *
        go_wp2_with fail
        refine CY.mono ?_
        rintro e w6 ⟨rfl, U1, a6, b6, hN⟩
        have HZ := Lib.hid (((HW.out.swap.stepx (by omega) hN).swap).mono (by omega : 33 * n0 + 66 * k + 33 ≤ 33 * n0 + 66 * (k + 1)))
        clear CY hN HW r0 r1 r2 r3 r4 r5 r6 r7
        go_wp2_with fail
        go_roundw
        case rel => exact ⟨k + 1, _, _, _, _, _, _, by omega, .inr (by omega), by go_num, HZ.out⟩
        case measure => simp [intOf]; omega
      · have u2 : ¬ (k : Int) < (n2 : Int) := by omega
        have CA := alike_any hW.x (by omega)
        have HW := Lib.hid hW
        clear hW
        go_wp2_with fail
        refine CA.mono ?_
        rintro e w5 ⟨rfl, hb5⟩
        have hW5 := HW.out.below hb5
        have CB := alike_any hW5.y (by omega)
        have HW5 := Lib.hid hW5
        clear CA hb5 HW hW5
        go_wp2_with fail
        refine CB.mono ?_
        rintro e w6 ⟨rfl, hb6⟩
        have hW6 := HW5.out.below hb6
        have CW := awake8_any w6
        have HBL := Lib.hid hW6.bl
        clear CB hb6 HW5 hW6
        go_wp2_with fail
        refine CW.mono ?_
        rintro e w7 ⟨rfl, hb7⟩
        have HF := Lib.hid (HBL.out.trans (hb7.mono HBL.out.size))
        clear CW hb7 HBL
        go_wp2_with fail
        go_ret
        exact ⟨rfl, HF.out⟩
end Go.Proofs.YtfhpkoakalihkaaGreat
