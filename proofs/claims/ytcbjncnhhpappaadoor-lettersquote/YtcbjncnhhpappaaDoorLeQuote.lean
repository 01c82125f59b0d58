/-
  What letters.Quote does.
-/
import Derived.Test.YtcbjncnhhpappaaDoorLeQQ
import Derived.Lib.QuoteBits
namespace Go.Proofs.YtcbjncnhhpappaaDoor
open Go.RowKit Go.Lib

theorem isHidden_any (r : Nat) (w : World) (hr : r ≤ 1114111) :
    Calls Tryd.prog 48 #[.int .i32 (r : Int)] w fun e w' => e = .returned (.bool (hidden r)) ∧ w' = w := by
  by_cases h1 : r = 8232 ∨ r = 8233 ∨ r = 65279
  · rcases h1 with rfl | rfl | rfl
    all_goals
      go_enter Tryd.func48, Tryd.ntmps48
      go_wp2
      go_ret
      exact ⟨rfl, rfl⟩
  · have b1 : ((r : Int) == 8232) = false := beq_eq_false_iff_ne.2 (by omega)
    have b2 : ((r : Int) == 8233) = false := beq_eq_false_iff_ne.2 (by omega)
    have b3 : ((r : Int) == 65279) = false := beq_eq_false_iff_ne.2 (by omega)
    by_cases h2 : 128 ≤ r
    · have i2 : (128 : Int) ≤ (r : Int) := by omega
      by_cases h3 : r ≤ 159
      · have e : hidden r = true := decide_eq_true (by omega)
        rw [e]
        have i3 : (r : Int) ≤ 159 := by omega
        clear h1 h2 h3
        go_enter Tryd.func48, Tryd.ntmps48
        go_wp2
        go_ret
        exact ⟨rfl, rfl⟩
      · have e : hidden r = false := decide_eq_false (by omega)
        rw [e]
        have i3 : ¬ (r : Int) ≤ 159 := by omega
        clear h1 h2 h3
        go_enter Tryd.func48, Tryd.ntmps48
        go_wp2
        go_ret
        exact ⟨rfl, rfl⟩
    · have e : hidden r = false := decide_eq_false (by omega)
      rw [e]
      have i2 : ¬ (128 : Int) ≤ (r : Int) := by omega
      clear h1 h2
      go_enter Tryd.func48, Tryd.ntmps48
      go_wp2
      go_ret
      exact ⟨rfl, rfl⟩

set_option maxRecDepth 100000 in
theorem dig_table : ∀ d : Fin 16, ((ByteArray.mk #[48, 49, 50, 51, 52, 53, 54, 55, 56, 57, 97, 98, 99, 100, 101, 102])[d.val]'(by have := d.isLt; exact this)).toNat = (hexDig d.val).toNat := by decide +kernel
theorem dig_run (k : IntKind) (d : Nat) (h : d < 16) (wx : World) : (Instr.index 9 (.string ⟨#[48, 49, 50, 51, 52, 53, 54, 55, 56, 57, 97, 98, 99, 100, 101, 102]⟩) (.int k (d : Int))).run Tryd.prog wx = .ok (.int .u8 (((hexDig d).toNat : Nat) : Int)) wx := by
  rw [run_index_string wx 9 _ k _ Tryd.underlying9, dif_pos ⟨by omega, by show (d : Int) < 16; omega⟩]
  congr 2
  exact congrArg _ (dig_table ⟨d, h⟩)
/-- A builder behind a byte more. -/
theorem wb_any (B b : Nat) (bs : List UInt8) (c : UInt8) (z : Int) (hz : z = (c.toNat : Int)) (w : World) (h : Lib.IsBuilderF 51 5 B b (Lib.byteCells bs) w) (hlen : bs.length ≤ 2000000) (hBw : B ≤ w.heap.size) :
    Calls Tryd.prog 35 #[.pointer (some ⟨b, 0, none⟩), .int .u8 z] w fun e w' => e = .returned .nilIface ∧ Lib.IsBuilderF 51 5 B b (Lib.byteCells (bs ++ [c])) w' ∧ Below B w w' ∧ Lib.OthersKept 5 (some b) w w' := by
  subst hz
  refine (Tryd.Builder_WriteByte_k B b (Lib.byteCells bs) (c.toNat : Int) w h (by rw [Lib.byteCells_length]; omega) hBw).mono ?_
  rintro e w1 ⟨rfl, h1, h2, h3⟩
  refine ⟨rfl, ?_, h2, h3⟩
  rw [Lib.byteCells_append]
  exact .inr h1
/-- A builder behind a text more. -/
theorem ws_any (B b : Nat) (bs : List UInt8) (s : ByteArray) (w : World) (h : Lib.IsBuilderF 51 5 B b (Lib.byteCells bs) w) (hlen : bs.length ≤ 2000000) (hs : s.size ≤ 1000000) (hBw : B ≤ w.heap.size) :
    Calls Tryd.prog 33 #[.pointer (some ⟨b, 0, none⟩), .string s] w fun e w' => e = .returned (.tuple #[.int .i64 s.size, .nilIface]) ∧ Lib.IsBuilderF 51 5 B b (Lib.byteCells (bs ++ s.data.toList)) w' ∧ Below B w w' ∧ Lib.OthersKept 5 (some b) w w' := by
  refine (Tryd.Builder_WriteString_k B b (Lib.byteCells bs) s w h (by rw [Lib.byteCells_length]; omega) hBw).mono ?_
  rintro e w1 ⟨rfl, h1, h2, h3⟩
  refine ⟨rfl, ?_, h2, h3⟩
  rw [Lib.byteCells_append]
  exact .inr h1
/-- A builder behind a rune more. -/
theorem wr_any (B b : Nat) (bs : List UInt8) (r : Nat) (hr : r ≤ 1114111) (w : World) (h : Lib.IsBuilderF 51 5 B b (Lib.byteCells bs) w) (hlen : bs.length ≤ 2000000) (hBw : B ≤ w.heap.size) :
    Calls Tryd.prog 38 #[.pointer (some ⟨b, 0, none⟩), .int .i32 (r : Int)] w fun e w' => e = .returned (.tuple #[.int .i64 ((Lib.runeCells (r : Int)).length : Int), .nilIface]) ∧ Lib.IsBuilderF 51 5 B b (Lib.byteCells (bs ++ enc r)) w' ∧ Below B w w' ∧ Lib.OthersKept 5 (some b) w w' := by
  refine (Tryd.Builder_WriteRune_k B b (Lib.byteCells bs) (r : Int) (by omega) (by omega) w h (by rw [Lib.byteCells_length]; omega) hBw).mono ?_
  rintro e w1 ⟨rfl, h1, h2, h3⟩
  refine ⟨rfl, ?_, h2, h3⟩
  unfold enc
  rw [Lib.byteCells_append, Lib.byteCells_encodeRune]
  exact .inr h1
theorem hxs2 (r : Nat) : hxs 2 r = [hexDig (r / 16 % 16), hexDig (r % 16)] := rfl
theorem hxs4 (r : Nat) : hxs 4 r = [hexDig (r / 16 / 16 / 16 % 16), hexDig (r / 16 / 16 % 16), hexDig (r / 16 % 16), hexDig (r % 16)] := rfl

set_option maxHeartbeats 8000000 in
set_option maxRecDepth 100000 in
theorem writeHex2 (B b : Nat) (bs : List UInt8) (r : Nat) (w : World) (h : Lib.IsBuilderF 51 5 B b (Lib.byteCells bs) w) (hr : r < 256) (hlen : bs.length ≤ 1000000) (hBw : B ≤ w.heap.size) :
    Calls Tryd.prog 47 #[.pointer (some ⟨b, 0, none⟩), .int .i32 (r : Int), .int .i64 2] w fun e w' => e = .returned (.tuple #[]) ∧ Lib.IsBuilderF 51 5 B b (Lib.byteCells (bs ++ hxs 2 r)) w' ∧ Below B w w' ∧ Lib.OthersKept 5 (some b) w w' := by
  have ir : (r : Int) ≤ 255 := by omega
  rw [hxs2]
  have a1 : bits .and .i32 ((r : Int) / 16) 15 = ((r / 16 % 16 : Nat) : Int) := and15_shift (r : Int) r rfl (by omega) 16
  have a0 : bits .and .i32 (r : Int) 15 = ((r % 16 : Nat) : Int) := and15_i32 r (by omega)
  have g1 := dig_run .i32 (r / 16 % 16) (by omega)
  have g0 := dig_run .i32 (r % 16) (by omega)
  generalize r / 16 % 16 = d1 at *
  generalize r % 16 = d0 at *
  go_enter Tryd.func47, Tryd.ntmps47
  go_wp2
  refine wp_loop_rounds 3 ?_
  rw [rounds_succ]
  go_wp2_with fail
  refine (wb_any B b bs (hexDig d1) _ rfl w h (by omega) hBw).mono ?_
  rintro e w1 ⟨rfl, h1, b1, k1⟩
  go_wp2
  rw [rounds_succ]
  go_wp2_with fail
  refine (wb_any B b (bs ++ [hexDig d1]) (hexDig d0) _ rfl w1 h1 (by simp; omega) (Nat.le_trans hBw b1.size)).mono ?_
  rintro e w2 ⟨rfl, h2, b2, k2⟩
  go_wp2
  rw [rounds_succ]
  go_wp2
  go_end0
  refine ⟨rfl, ?_, b1.trans b2, k1.trans k2⟩
  rw [List.append_assoc] at h2
  exact h2

set_option maxHeartbeats 8000000 in
set_option maxRecDepth 100000 in
theorem writeHex4 (B b : Nat) (bs : List UInt8) (r : Nat) (w : World) (h : Lib.IsBuilderF 51 5 B b (Lib.byteCells bs) w) (hr : r < 65536) (hlen : bs.length ≤ 1000000) (hBw : B ≤ w.heap.size) :
    Calls Tryd.prog 47 #[.pointer (some ⟨b, 0, none⟩), .int .i32 (r : Int), .int .i64 4] w fun e w' => e = .returned (.tuple #[]) ∧ Lib.IsBuilderF 51 5 B b (Lib.byteCells (bs ++ hxs 4 r)) w' ∧ Below B w w' ∧ Lib.OthersKept 5 (some b) w w' := by
  have ir : (r : Int) ≤ 65535 := by omega
  rw [hxs4]
  have e3 : r / 16 / 16 / 16 % 16 = r / 4096 % 16 := by omega
  have e2 : r / 16 / 16 % 16 = r / 256 % 16 := by omega
  rw [e3, e2]
  have a3 : bits .and .i32 ((r : Int) / 4096) 15 = ((r / 4096 % 16 : Nat) : Int) := and15_shift (r : Int) r rfl (by omega) 4096
  have a2 : bits .and .i32 ((r : Int) / 256) 15 = ((r / 256 % 16 : Nat) : Int) := and15_shift (r : Int) r rfl (by omega) 256
  have a1 : bits .and .i32 ((r : Int) / 16) 15 = ((r / 16 % 16 : Nat) : Int) := and15_shift (r : Int) r rfl (by omega) 16
  have a0 : bits .and .i32 (r : Int) 15 = ((r % 16 : Nat) : Int) := and15_i32 r (by omega)
  have g3 := dig_run .i32 (r / 4096 % 16) (by omega)
  have g2 := dig_run .i32 (r / 256 % 16) (by omega)
  have g1 := dig_run .i32 (r / 16 % 16) (by omega)
  have g0 := dig_run .i32 (r % 16) (by omega)
  clear e3 e2
  generalize r / 4096 % 16 = d3 at *
  generalize r / 256 % 16 = d2 at *
  generalize r / 16 % 16 = d1 at *
  generalize r % 16 = d0 at *
  go_enter Tryd.func47, Tryd.ntmps47
  go_wp2
  refine wp_loop_rounds 5 ?_
  rw [rounds_succ]
  go_wp2_with fail
  refine (wb_any B b bs (hexDig d3) _ rfl w h (by omega) hBw).mono ?_
  rintro e w1 ⟨rfl, h1, b1, k1⟩
  go_wp2
  rw [rounds_succ]
  go_wp2_with fail
  refine (wb_any B b (bs ++ [hexDig d3]) (hexDig d2) _ rfl w1 h1 (by simp; omega) (Nat.le_trans hBw b1.size)).mono ?_
  rintro e w2 ⟨rfl, h2, b2, k2⟩
  replace b2 := b1.trans b2
  go_wp2
  rw [rounds_succ]
  go_wp2_with fail
  refine (wb_any B b (bs ++ [hexDig d3] ++ [hexDig d2]) (hexDig d1) _ rfl w2 h2 (by simp; omega) (Nat.le_trans hBw b2.size)).mono ?_
  rintro e w3 ⟨rfl, h3, b3, k3⟩
  replace b3 := b2.trans b3
  go_wp2
  rw [rounds_succ]
  go_wp2_with fail
  refine (wb_any B b (bs ++ [hexDig d3] ++ [hexDig d2] ++ [hexDig d1]) (hexDig d0) _ rfl w3 h3 (by simp; omega) (Nat.le_trans hBw b3.size)).mono ?_
  rintro e w4 ⟨rfl, h4, b4, k4⟩
  go_wp2
  rw [rounds_succ]
  go_wp2
  go_end0
  refine ⟨rfl, ?_, b3.trans b4, ((k1.trans k2).trans k3).trans k4⟩
  rw [List.append_assoc, List.append_assoc, List.append_assoc] at h4
  exact h4

/-- What writeQuoted does to a builder. -/
def Wrote (B b : Nat) (bs : List UInt8) (r : Nat) (w : World) (e : Ending) (w' : World) : Prop :=
  e = .returned (.tuple #[]) ∧ Lib.IsBuilderF 51 5 B b (Lib.byteCells (bs ++ qr r)) w' ∧ Below B w w' ∧ Lib.OthersKept 5 (some b) w w'

set_option maxHeartbeats 16000000 in
set_option maxRecDepth 100000 in
theorem writeQuoted_any (B b : Nat) (bs : List UInt8) (r : Nat) (w : World) (h : Lib.IsBuilderF 51 5 B b (Lib.byteCells bs) w) (hr : r ≤ 1114111) (hlen : bs.length ≤ 900000) (hBw : B ≤ w.heap.size) :
    Calls Tryd.prog 36 #[.pointer (some ⟨b, 0, none⟩), .int .i32 (r : Int)] w fun e w' => Wrote B b bs r w e w' := by
  have cC := fun w1 => isControl_any r w1 hr
  have cH := fun w1 => isHidden_any r w1 hr
  have HC := Lib.hid cC
  have HH := Lib.hid cH
  clear cC cH
  by_cases h10 : r = 10
  · have hq : qr r = [92, 110] := by unfold qr; rw [if_neg (by omega), if_pos h10]
    unfold Wrote
    rw [hq]
    subst h10
    go_enter Tryd.func36, Tryd.ntmps36
    go_wp2_with fail
    refine (ws_any B b bs ⟨#[92, 110]⟩ w h (by omega) (by decide) hBw).mono ?_
    rintro e w1 ⟨rfl, h1, b1, k1⟩
    go_wp2
    go_end0
    exact ⟨rfl, h1, b1, k1⟩
  · have n10 : ((r : Int) == 10) = false := beq_eq_false_iff_ne.2 (by omega)
    by_cases h9 : r = 9
    · have hq : qr r = [92, 116] := by unfold qr; rw [if_neg (by omega), if_neg h10, if_pos h9]
      unfold Wrote
      rw [hq]
      subst h9
      go_enter Tryd.func36, Tryd.ntmps36
      go_wp2_with fail
      refine (ws_any B b bs ⟨#[92, 116]⟩ w h (by omega) (by decide) hBw).mono ?_
      rintro e w1 ⟨rfl, h1, b1, k1⟩
      go_wp2
      go_end0
      exact ⟨rfl, h1, b1, k1⟩
    · have n9 : ((r : Int) == 9) = false := beq_eq_false_iff_ne.2 (by omega)
      cases hctl : ctl r with
      | true =>
        have hc' : r < 32 ∨ r = 127 := of_decide_eq_true hctl
        have hq : qr r = [92, 120] ++ hxs 2 r := by unfold qr; rw [if_neg (by omega), if_neg h10, if_neg h9, if_pos hctl]
        unfold Wrote
        rw [hq]
        go_enter Tryd.func36, Tryd.ntmps36
        go_wp2_with fail
        refine (HC.out w).mono ?_
        rintro e w0 ⟨rfl, rfl⟩
        rw [hctl]
        go_wp2_with fail
        refine (ws_any B b bs ⟨#[92, 120]⟩ _ h (by omega) (by decide) hBw).mono ?_
        rintro e w1 ⟨rfl, h1, b1, k1⟩
        go_wp2_with fail
        refine (writeHex2 B b (bs ++ [92, 120]) r w1 h1 (by omega) (by simp; omega) (Nat.le_trans hBw b1.size)).mono ?_
        rintro e w2 ⟨rfl, h2, b2, k2⟩
        go_wp2
        go_end0
        rw [List.append_assoc] at h2
        exact ⟨rfl, h2, b1.trans b2, k1.trans k2⟩
      | false =>
        have hc' : ¬ (r < 32 ∨ r = 127) := of_decide_eq_false hctl
        cases hhid : hidden r with
        | true =>
          have hh' : r = 8232 ∨ r = 8233 ∨ r = 65279 ∨ (128 ≤ r ∧ r ≤ 159) := of_decide_eq_true hhid
          have hq : qr r = [92, 117] ++ hxs 4 r := by unfold qr; rw [if_neg (by omega), if_neg h10, if_neg h9, if_neg (by rw [hctl]; simp), if_pos hhid]
          unfold Wrote
          rw [hq]
          go_enter Tryd.func36, Tryd.ntmps36
          go_wp2_with fail
          refine (HC.out w).mono ?_
          rintro e w0 ⟨rfl, rfl⟩
          rw [hctl]
          go_wp2_with fail
          refine (HH.out _).mono ?_
          rintro e w0 ⟨rfl, rfl⟩
          rw [hhid]
          go_wp2_with fail
          refine (ws_any B b bs ⟨#[92, 117]⟩ _ h (by omega) (by decide) hBw).mono ?_
          rintro e w1 ⟨rfl, h1, b1, k1⟩
          go_wp2_with fail
          refine (writeHex4 B b (bs ++ [92, 117]) r w1 h1 (by omega) (by simp; omega) (Nat.le_trans hBw b1.size)).mono ?_
          rintro e w2 ⟨rfl, h2, b2, k2⟩
          go_wp2
          go_end0
          rw [List.append_assoc] at h2
          exact ⟨rfl, h2, b1.trans b2, k1.trans k2⟩
        | false =>
          by_cases hq1 : r = 39 ∨ r = 92
          · have hq : qr r = [92] ++ enc r := by
              unfold qr
              rw [if_pos hq1, enc_ascii r (by omega)]
              rfl
            unfold Wrote
            rw [hq]
            rcases hq1 with rfl | rfl
            all_goals
              go_enter Tryd.func36, Tryd.ntmps36
              go_wp2_with fail
              refine (HC.out w).mono ?_
              rintro e w0 ⟨rfl, rfl⟩
              rw [hctl]
              go_wp2_with fail
              refine (HH.out _).mono ?_
              rintro e w0 ⟨rfl, rfl⟩
              rw [hhid]
              go_wp2_with fail
              refine (wb_any B b bs 92 _ rfl _ h (by omega) hBw).mono ?_
              rintro e w1 ⟨rfl, h1, b1, k1⟩
              go_wp2_with fail
              refine (wr_any B b (bs ++ [92]) _ (by omega) w1 h1 (by simp; omega) (Nat.le_trans hBw b1.size)).mono ?_
              rintro e w2 ⟨rfl, h2, b2, k2⟩
              go_wp2
              go_end0
              rw [List.append_assoc] at h2
              exact ⟨rfl, h2, b1.trans b2, k1.trans k2⟩
          · have hq : qr r = enc r := by unfold qr; rw [if_neg hq1, if_neg h10, if_neg h9, if_neg (by rw [hctl]; simp), if_neg (by rw [hhid]; simp)]
            have n39 : ((r : Int) == 39) = false := beq_eq_false_iff_ne.2 (by omega)
            have n92 : ((r : Int) == 92) = false := beq_eq_false_iff_ne.2 (by omega)
            unfold Wrote
            rw [hq]
            go_enter Tryd.func36, Tryd.ntmps36
            go_wp2_with fail
            refine (HC.out w).mono ?_
            rintro e w0 ⟨rfl, rfl⟩
            rw [hctl]
            go_wp2_with fail
            refine (HH.out _).mono ?_
            rintro e w0 ⟨rfl, rfl⟩
            rw [hhid]
            go_wp2_with fail
            refine (wr_any B b bs r hr _ h (by omega) hBw).mono ?_
            rintro e w2 ⟨rfl, h2, b2, k2⟩
            go_wp2
            go_end0
            exact ⟨rfl, h2, b2, k2⟩
end Go.Proofs.YtcbjncnhhpappaaDoor
