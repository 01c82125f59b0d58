/-
  What the iterator of trail.All does, whatever it is gone through with.
-/
import Derived.Test.YtddgkdjpklegnaaTrInts
import Derived.Test.YtddgkdjpklegnaaTrSeq
namespace Go.Proofs.Ytddgkdjpklegnaa.Tr
open Go.RowKit Go.WideShapes

theorem rall_none (h l m : Int) (hl : ¬ (0 ≤ l ∧ l ≤ 20)) (w : World) :
    Calls Try.prog 9 #[.int .i64 h, .int .i64 l, .int .i64 m] w fun e w' => e = .returned (.slice none 0 0) ∧ w' = w := by
  go_enter Try.func9, Try.ntmps9
  by_cases h0 : l < 0
  · go_wp2
    go_ret
    exact ⟨rfl, rfl⟩
  · have h1 : 20 < l := by omega
    clear hl
    go_wp2
    go_ret
    exact ⟨rfl, rfl⟩
/-- Begin where there is no such table: a walk of noughts. -/
theorem begin_none (h l : Int) (hl : ¬ (0 ≤ l ∧ l ≤ 20)) (w : World) : Calls Try.prog 20 #[.int .i64 h, .int .i64 l] w fun e w' => e = .returned (.agg #[.int .u64 0, .int .u64 0, .int .u64 0]) ∧ Below w.heap.size w w' := by
  have HL := Lib.hid (fun w => isLog_no l hl w)
  clear hl
  go_enter Try.func20, Try.ntmps20
  go_wp2_with fail
  refine (HL.out _).mono ?_
  rintro e w1 ⟨rfl, rfl⟩
  go_wp2
  refine bodyPost_ret (v := .agg #[.int .u64 0, .int .u64 0, .int .u64 0]) (by simp [results, Try.results20, go_sem]) rfl ?_
  exact ⟨rfl, (Below.refl _ w).alloc (Nat.le_refl _) _⟩
theorem first_any (h l : Int) (w : World) : Calls Try.prog 10 #[.int .i64 h, .int .i64 l] w fun e w' => e = .returned (.int .i64 (firstZ h l)) ∧ Below w.heap.size w w' := by
  obtain ⟨c, p, m, hc, HF, HB⟩ : ∃ c p : Nat, ∃ m : Int, c < 9223372036854775808 ∧ Hid (firstZ h l = (c : Int)) ∧ Hid (Calls Try.prog 20 #[.int .i64 h, .int .i64 l] w fun e w' => e = .returned (.agg #[.int .u64 (c : Int), .int .u64 (p : Int), .int .u64 m]) ∧ Below w.heap.size w w') := by
    rcases log_cases l with ⟨L, S, rfl, hS⟩ | hl
    · have hp := hS.pos
      have hm := hS.most
      exact ⟨uw h % S, uw h, _, by have := Nat.mod_lt (uw h) hp; omega, firstZ_yes h hS, begin_any hS h w⟩
    · exact ⟨0, 0, 0, by omega, if_neg hl, begin_none h l hl w⟩
  rw [HF.out]
  clear HF
  have HC : Hid (∀ w2 : World, Calls Try.prog 21 #[.pointer (some ⟨w2.heap.size, 0, none⟩)] (w2.alloc (.cells #[.int .u64 (c : Int), .int .u64 (p : Int), .int .u64 m] 42)) fun e w' => e = .returned (.int .i64 (c : Int)) ∧ w' = w2.alloc (.cells #[.int .u64 (c : Int), .int .u64 (p : Int), .int .u64 m] 42)) := fun w2 => cell_any w2.heap.size 0 c hc _ (by rw [World.cell?_alloc_at _ _ _ _ rfl]; rfl)
  go_enter Try.func10, Try.ntmps10
  go_wp2_with fail
  refine HB.out.mono ?_
  rintro e w2 ⟨rfl, hB2⟩
  clear HB
  go_wp2_with fail
  refine (HC.out w2).mono ?_
  rintro e w3 ⟨rfl, rfl⟩
  have hB3 := hB2.alloc hB2.size (.cells #[.int .u64 (c : Int), .int .u64 (p : Int), .int .u64 m] 42)
  clear HC hB2
  generalize w2.alloc _ = w3 at *
  go_wp2
  go_ret
  exact ⟨rfl, hB3⟩
theorem awake_any (w : World) : Calls Try.prog 14 #[] w fun e w' => e = .returned (.bool true) ∧ Below w.heap.size w w' := by
  have h1 : firstZ (-1) 3 = 7 := by
    unfold firstZ uw
    rw [if_pos (by decide), IntKind.wrap_u64]
    decide
  have h2 : shn (uw 32) = 2 := by
    unfold uw
    rw [IntKind.wrap_u64, show ((32 : Int) % 18446744073709551616).toNat = 32 by decide, shn_step _ (by decide), shn_step _ (by decide), shn_zero]
  have C1 := first_any (-1) 3 w
  have C2 := Lib.hid (fun w => shifts_any 32 w)
  rw [h1] at C1
  rw [h2] at C2
  clear h1 h2
  go_enter Try.func14, Try.ntmps14
  go_wp2_with fail
  refine C1.mono ?_
  rintro e w1 ⟨rfl, hb⟩
  go_wp2_with fail
  refine (C2.out _).mono ?_
  rintro e w1 ⟨rfl, rfl⟩
  go_wp2
  go_ret
  exact ⟨rfl, hb⟩

set_option maxRecDepth 100000 in
set_option maxHeartbeats 4000000 in
/-- The iterator, whatever it is gone through with: b is the block that holds its walk. -/
theorem seq_any {L S : Nat} (hS : Sz L S) (h : Int) (Y : FuncId) (caps : Array Value) (bl bh : Nat) (w : World) (J : Nat → Nat → World → Prop) (Q : World → Prop)
    (eg : ∀ args w, (callFunc Y args).run Try.prog w = .ok (.enter Y args) w)
    (hl : w.cell? ⟨bl, 0, none⟩ = some (.int .i64 (L : Int))) (hh : w.cell? ⟨bh, 0, none⟩ = some (.int .i64 h))
    (J0 : Hid (∀ b W, w.heap.size ≤ b → W.heap.size = b + 1 → Below w.heap.size w W → J b 0 W))
    (HJ : Hid (∀ b i W c p, w.heap.size ≤ b → b < W.heap.size → J b i W → J b i (stepW W b 0 c p)))
    (HY : Hid (∀ b i W, w.heap.size ≤ b → b < W.heap.size → i < S + 13 → J b i W → Calls Try.prog Y (#[.int .i64 ((trl (uw h) L i : Nat) : Int)] ++ caps) W fun e W' => (e = .returned (.bool true) ∧ J b (i + 1) W' ∧ W'.heap[b]? = W.heap[b]?) ∨ (e = .returned (.bool false) ∧ Q W'))) :
    Calls Try.prog 22 #[.func (.func Y) #[] caps, .pointer (some ⟨bl, 0, none⟩), .pointer (some ⟨bh, 0, none⟩)] w fun e w' => e = .returned (.tuple #[]) ∧ ((∃ b, w.heap.size ≤ b ∧ J b (S + 13) w') ∨ Q w') := by
  have h2 := uw_lt h
  have hp := hS.pos
  have hm := hS.most
  have hle := hS.le
  have hi64 := hS.i64
  have t3 : IntKind.i64.wrap ((S : Int) + 13) = (S : Int) + 13 := i64_small (by omega) (by omega)
  have HL := isLog_yes L hS.le w
  have HBG := begin_any hS h w
  have HS : Hid (Sz L S) := hS
  have HT0 : Hid (uw h % S = trl (uw h) L 0) := by show _ = _; rw [trl, hS.eq]
  rw [HT0.out] at HBG
  have hUW : ∀ k, trl (uw h) L k < S := fun k => by rw [← hS.eq]; exact trl_lt _ _ _
  have HLT := (show Hid _ from hUW)
  clear hS hUW
  go_enter Try.func22, Try.ntmps22
  go_wp2_with fail
  refine HL.mono ?_
  rintro e w1 ⟨rfl, rfl⟩
  clear HL
  go_wp2_with fail
  refine HBG.mono ?_
  rintro e w2 ⟨rfl, hB2⟩
  clear HBG
  go_wp2_with fail
  obtain ⟨w3, hw3⟩ : ∃ x, w2.alloc (.cells #[.int .u64 ((trl (uw h) L 0 : Nat) : Int), .int .u64 ((uw h : Nat) : Int), .int .u64 ((S : Int) - 1)] 42) = x := ⟨_, rfl⟩
  have hW3 : Wk w3 w2.heap.size 0 (trl (uw h) L 0) (uw h) S := by rw [← hw3]; exact Wk.new _ _ _ _ _
  have hB3 : Below w1.heap.size w1 w3 := by rw [← hw3]; exact hB2.alloc hB2.size _
  have hs3 : w3.heap.size = w2.heap.size + 1 := by rw [← hw3]; simp
  have hb := hB2.size
  rw [hw3]
  clear hw3
  generalize w2.heap.size = b at *
  have HJ3 := Lib.hid (J0.out b w3 hb hs3 hB3)
  clear hs3 hB3 hB2
  go_loopw [16] (fun iv wr => ∃ k : Nat, k ≤ S + 13 ∧ iv = .int .i64 (k : Int) ∧ J b k wr ∧ Wk wr b 0 (trl (uw h) L k) (uw h / 32 ^ k) S) (fun iv _ => S + 13 - (intOf iv).toNat)
  case atStart => exact ⟨0, Nat.zero_le _, rfl, HJ3.out, by simpa using hW3⟩
  case round =>
    obtain ⟨k, hk, rfl, hJ, hWk⟩ := hrel
    by_cases hlt : k < S + 13
    · have t1 : (k : Int) < (S : Int) + 13 := by omega
      have hc := HLT.out k
      have hp64 : uw h / 32 ^ k < 18446744073709551616 := Nat.lt_of_le_of_lt (Nat.div_le_self _ _) h2
      have CC := cell_any b 0 (trl (uw h) L k) (by omega) wr hWk.c0
      have CY := HY.out b k wr hb hWk.lt hlt hJ
      have HX1 : Hid ((trl (uw h) L k * 5 + uw h / 32 ^ k / 32 + 1) % S = trl (uw h) L (k + 1)) := by show _ = _; rw [trl, HS.out.eq, left_step]
      have HX2 : Hid (uw h / 32 ^ k / 32 = uw h / 32 ^ (k + 1)) := left_step _ _
      go_wp2_with fail
      refine CC.mono ?_
      rintro e w4 ⟨rfl, rfl⟩
      clear CC
      go_wp2_with fail
      refine CY.mono ?_
      clear CY
      rintro e w5 (⟨rfl, hJ5, hK5⟩ | ⟨rfl, hQ5⟩)
      · have hWk5 := hWk.same hK5
        have CS := step_any HS.out b 0 _ _ hc hp64 w5 hWk5.c0 hWk5.c1 hWk5.c2 (hWk5.fr 0) (hWk5.fr (0 + 1))
        rw [HX1.out, HX2.out] at CS
        have HW6 := (show Hid _ from hWk5.step (trl (uw h) L (k + 1)) (uw h / 32 ^ (k + 1)))
        have HJ6 := (show Hid _ from HJ.out b (k + 1) w5 (trl (uw h) L (k + 1)) (uw h / 32 ^ (k + 1)) hb hWk5.lt hJ5)
        clear hWk5 hJ5 hK5 hWk
        generalize stepW w5 b 0 (trl (uw h) L (k + 1)) (uw h / 32 ^ (k + 1)) = w6 at *
        go_wp2_with fail
        refine CS.mono ?_
        rintro e w7 ⟨rfl, rfl⟩
        clear CS
        go_wp2_with fail
        go_roundw
        case rel => exact ⟨k + 1, by omega, by go_num, HJ6.out, HW6.out⟩
        case measure => simp [intOf]; omega
      · go_wp2
        refine bodyPost_ret (v := .tuple #[]) (by simp [results, Try.results22, go_sem]) rfl ?_
        exact ⟨rfl, .inr hQ5⟩
    · obtain rfl : k = S + 13 := by omega
      have t1 : ¬ (((S + 13 : Nat) : Int)) < (S : Int) + 13 := by omega
      go_wp2
      go_end0
      exact ⟨rfl, .inl ⟨b, hb, hJ⟩⟩
/-- Where there is no such table, nothing is gone through. -/
theorem seq_none (l : Int) (hn : ¬ (0 ≤ l ∧ l ≤ 20)) (y : Value) (bl : Nat) (q : Value) (w : World) (hl : w.cell? ⟨bl, 0, none⟩ = some (.int .i64 l)) :
    Calls Try.prog 22 #[y, .pointer (some ⟨bl, 0, none⟩), q] w fun e w' => e = .returned (.tuple #[]) ∧ w' = w := by
  have HL := isLog_no l hn w
  clear hn
  go_enter Try.func22, Try.ntmps22
  go_wp2_with fail
  refine HL.mono ?_
  rintro e w1 ⟨rfl, rfl⟩
  clear HL
  go_wp2
  refine bodyPost_ret (v := .tuple #[]) (by simp [results, Try.results22, go_sem]) rfl ?_
  exact ⟨rfl, rfl⟩
end Go.Proofs.Ytddgkdjpklegnaa.Tr
