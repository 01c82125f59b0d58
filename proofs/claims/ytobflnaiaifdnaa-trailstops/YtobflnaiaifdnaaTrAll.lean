/-
  What the iterator of trail.All does, whatever it is gone through with.
-/
import Derived.Test.YtobflnaiaifdnaaTrInts
namespace Go.Proofs.Ytobflnaiaifdnaa
open Go.RowKit Go.WideShapes

theorem rall_none (h l m : Int) (hl : ¬ (0 ≤ l ∧ l ≤ 20)) (w : World) :
    Calls Try.prog 9 #[.int .i64 h, .int .i64 l, .int .i64 m] w fun e w' => e = .returned (.slice none 0 0) ∧ w' = w := by
  go_enter Try.func9, Try.ntmps9
  by_cases h0 : l < 0
  · go_wp2
    go_ret
    exact ⟨rfl, rfl⟩
  · have h1 : 20 < l := by omega
    clear hl
    go_wp2
    go_ret
    exact ⟨rfl, rfl⟩
/-- The two blocks that All lays: the log, the hash. -/
theorem all_any (h l : Int) (w : World) :
    Calls Try.prog 15 #[.int .i64 h, .int .i64 l] w fun e w' => e = .returned (.func (.func 22) #[] #[.pointer (some ⟨w.heap.size + 1, 0, none⟩), .pointer (some ⟨w.heap.size, 0, none⟩)]) ∧ w' = (w.alloc (.cells #[.int .i64 h] 3)).alloc (.cells #[.int .i64 l] 3) := by
  have hmf : ∀ (fn : Fn) (first cap : Array Value) (w : World), (Instr.makeFunc fn first cap).run Try.prog w = .ok (.func fn first cap) w := fun _ _ _ _ => rfl
  go_enter Try.func15, Try.ntmps15
  go_wp2
  go_ret
  exact ⟨by simp, rfl⟩

set_option maxRecDepth 100000 in
set_option maxHeartbeats 4000000 in
theorem seq_any {L S : Nat} (hS : Sz L S) (h : Int) (Y : FuncId) (caps : Array Value) (bl bh : Nat) (w : World) (J : Nat → World → Prop) (Q : World → Prop)
    (eg : ∀ args w, (callFunc Y args).run Try.prog w = .ok (.enter Y args) w)
    (J0 : J 0 w) (hl : ∀ i W, J i W → W.cell? ⟨bl, 0, none⟩ = some (.int .i64 (L : Int))) (hh : w.cell? ⟨bh, 0, none⟩ = some (.int .i64 h))
    (HY : Hid (∀ i W, i < S + 13 → J i W → Calls Try.prog Y (#[.int .i64 ((trl (uw h) L i : Nat) : Int)] ++ caps) W fun e W' => (e = .returned (.bool true) ∧ J (i + 1) W') ∨ (e = .returned (.bool false) ∧ Q W'))) :
    Calls Try.prog 22 #[.func (.func Y) #[] caps, .pointer (some ⟨bl, 0, none⟩), .pointer (some ⟨bh, 0, none⟩)] w fun e w' => e = .returned (.tuple #[]) ∧ (J (S + 13) w' ∨ Q w') := by
  have h1 := uw_int h
  have h2 := uw_lt h
  have hp := hS.pos
  have hm := hS.most
  have hle := hS.le
  have hi64 := hS.i64
  have t3 : IntKind.i64.wrap ((S : Int) + 13) = (S : Int) + 13 := i64_small (by omega) (by omega)
  have HM : Hid (∀ w, Calls Try.prog 21 #[.int .i64 (L : Int)] w fun e w' => e = .returned (.int .u64 ((S : Int) - 1)) ∧ w' = w) := fun w => mask_any hS w
  have HL := isLog_yes L hS.le w
  have ha := hS.mask ((uw h : Nat) : Int) (by omega) (by omega)
  have HT0 : Hid (((uw h : Nat) : Int) % (S : Int) = ((trl (uw h) L 0 : Nat) : Int)) := by show _ = _; rw [trl, hS.eq, Int.natCast_emod]
  rw [HT0.out] at ha
  have hcl := hl 0 w J0
  have HS : Hid (Sz L S) := hS
  have HHL := Lib.hid hl
  clear hS hl
  go_enter Try.func22, Try.ntmps22
  go_wp2_with fail
  refine HL.mono ?_
  rintro e w1 ⟨rfl, rfl⟩
  clear HL
  go_wp2_with fail
  refine (HM.out _).mono ?_
  rintro e w2 ⟨rfl, rfl⟩
  go_wp2
  go_loopw [5, 6, 20] (fun p c iv wr => ∃ k : Nat, k ≤ S + 13 ∧ iv = .int .i64 (k : Int) ∧ c = .int .u64 ((trl (uw h) L k : Nat) : Int) ∧ p = .int .u64 ((uw h / 32 ^ k : Nat) : Int) ∧ J k wr) (fun _ _ iv _ => S + 13 - (intOf iv).toNat)
  case atStart => exact ⟨0, Nat.zero_le _, rfl, rfl, by simp, J0⟩
  case round =>
    obtain ⟨k, hk, rfl, rfl, rfl, hJ⟩ := hrel
    have hcl := HHL.out k wr hJ
    by_cases hlt : k < S + 13
    · have t1 : (k : Int) < (S : Int) + 13 := by omega
      have CY := HY.out k wr hlt hJ
      have hc : trl (uw h) L k < S := by rw [← HS.out.eq]; exact trl_lt _ _ _
      have hp64 : uw h / 32 ^ k < 18446744073709551616 := Nat.lt_of_le_of_lt (Nat.div_le_self _ _) h2
      have e1 : IntKind.i64.wrap ((trl (uw h) L k : Nat) : Int) = ((trl (uw h) L k : Nat) : Int) := i64_small (by omega) (by omega)
      have HX1 : Hid ((trl (uw h) L k * 5 + uw h / 32 ^ k / 32 + 1) % S = trl (uw h) L (k + 1)) := by show _ = _; rw [trl, HS.out.eq, left_step]
      have HX2 : Hid (uw h / 32 ^ k / 32 = uw h / 32 ^ (k + 1)) := left_step _ _
      generalize trl (uw h) L k = c at CY hc e1 HX1 ⊢
      generalize uw h / 32 ^ k = p at hp64 HX1 HX2 ⊢
      have e2 : IntKind.u64.wrap (5 * (c : Int)) = ((c * 5 : Nat) : Int) := by rw [IntKind.wrap_u64]; omega
      have e3 : (p : Int) / 32 = ((p / 32 : Nat) : Int) := by omega
      have e4 : IntKind.u64.wrap (((c * 5 : Nat) : Int) + ((p / 32 : Nat) : Int)) = ((c * 5 + p / 32 : Nat) : Int) := by rw [IntKind.wrap_u64]; omega
      have e5 : IntKind.u64.wrap (((c * 5 + p / 32 : Nat) : Int) + 1) = ((c * 5 + p / 32 + 1 : Nat) : Int) := by rw [IntKind.wrap_u64]; omega
      have e6 : bits BinOp.and IntKind.u64 ((c * 5 + p / 32 + 1 : Nat) : Int) ((S : Int) - 1) = (((c * 5 + p / 32 + 1) % S : Nat) : Int) := by
        rw [HS.out.mask _ (by omega) (by omega), Int.natCast_emod]
      rw [HX1.out] at e6
      rw [HX2.out] at e3 e4 e5 e6
      generalize hp1 : uw h / 32 ^ (k + 1) = p1 at e3 e4 e5 e6 HX2
      generalize hc1 : trl (uw h) L (k + 1) = c1 at e6 HX1
      have HP1 := Lib.hid hp1
      have HC1 := Lib.hid hc1
      clear hp1 hc1
      generalize c * 5 + p1 + 1 = x3 at e5 e6
      generalize c * 5 + p1 = x2 at e4 e5
      generalize c * 5 = x1 at e2 e4
      clear HX1 HX2
      go_wp2_with fail
      refine CY.mono ?_
      rintro e w3 (⟨rfl, hJ3⟩ | ⟨rfl, hQ3⟩)
      · have hcl3 := HHL.out (k + 1) w3 hJ3
        clear CY
        go_wp2_with fail
        refine (HM.out _).mono ?_
        rintro e w4 ⟨rfl, rfl⟩
        go_wp2
        go_roundw
        case rel => exact ⟨k + 1, by omega, by go_num, by rw [HC1.out], by rw [HP1.out], hJ3⟩
        case measure => simp [intOf]; omega
      · clear CY
        go_wp2
        refine bodyPost_ret (v := .tuple #[]) (by simp [results, Try.results22, go_sem]) rfl ?_
        exact ⟨rfl, .inr hQ3⟩
    · obtain rfl : k = S + 13 := by omega
      have t1 : ¬ (((S + 13 : Nat) : Int)) < (S : Int) + 13 := by omega
      go_wp2
      go_end0
      exact ⟨rfl, .inl hJ⟩
/-- Where there is no such table, nothing is gone through. -/
theorem seq_none (l : Int) (hn : ¬ (0 ≤ l ∧ l ≤ 20)) (y : Value) (bl : Nat) (q : Value) (w : World) (hl : w.cell? ⟨bl, 0, none⟩ = some (.int .i64 l)) :
    Calls Try.prog 22 #[y, .pointer (some ⟨bl, 0, none⟩), q] w fun e w' => e = .returned (.tuple #[]) ∧ w' = w := by
  have HL := isLog_no l hn w
  clear hn
  go_enter Try.func22, Try.ntmps22
  go_wp2_with fail
  refine HL.mono ?_
  rintro e w1 ⟨rfl, rfl⟩
  clear HL
  go_wp2
  refine bodyPost_ret (v := .tuple #[]) (by simp [results, Try.results22, go_sem]) rfl ?_
  exact ⟨rfl, rfl⟩
end Go.Proofs.Ytobflnaiaifdnaa
