/-
  each of the rows of three widths, where a range over a function goes through it.
-/
import Derived.Test.YtjbgbijpihpkmaaGreatCrw
import Derived.Test.YtjbgbijpihpkmaaGreatTrs
import Derived.OwnWalkIn
import Derived.TacticsInMore
import Derived.LoopNIn
import Derived.LoopIn
namespace Go.Proofs.YtjbgbijpihpkmaaGreat
open Go.RowKit Go.WideShapes
attribute [local go_sem] Oper.semAt_some

set_option maxRecDepth 100000 in
set_option maxHeartbeats 4000000 in
theorem seq8 {w : World} {r h W S cap : Nat} {f : Nat → Int} (hR : Rw w r h .i8 W S cap f) (hS : S ≤ 1048576) (hf : ∀ i, i < S → -2147483648 ≤ f i ∧ f i < 2147483648) (hlr : r < w.heap.size) :
    SeqAt Tryz.prog 194 (fun l => #[.pointer (some ⟨r, 0, none⟩), .func (.yield l) #[] #[]]) (fun i => #[.int .i64 (i : Int), .int .i64 (f i)]) S (fun V => ∀ j, j < S → V.cell? ⟨h, j, none⟩ = some (.int .i8 (f j))) w := by
  intro l J Jx W0 hB HJ0 HJX0 HK0 hY0 J0
  have HJ := Lib.hid HJ0
  have HY := Lib.hid hY0
  have h1 := (hB.cell (p := ⟨r, 1, none⟩) hlr).trans hR.r1
  have h5 := hR.le
  have HK := Lib.hid HK0
  have HF := Lib.hid hf
  clear hR hf HJ0 HJX0 hY0 HK0
  refine callsIn_of_wp Tryz.func194 rfl trivial ?_ rfl
  simp only [Tryz.ntmps194, List.size_toArray, List.length_cons, List.length_nil, Nat.reduceAdd, Nat.reduceSub, Array.replicate_succ, Array.replicate_zero, List.push_toArray, List.append_toArray, List.nil_append, List.cons_append]
  gi_wp2_with fail
  gi_loopw [11] (fun iv wr => ∃ k : Nat, k ≤ S ∧ iv = .int .i64 (k : Int) ∧ J k wr) (fun iv _ => S - (intOf iv).toNat)
  case atStart => exact ⟨0, Nat.zero_le _, rfl, J0⟩
  case round =>
    obtain ⟨k, hk, rfl, hJ⟩ := hrel
    by_cases hlt : k < S
    · have t1 : (k : Int) < (S : Int) := by omega
      have h2 := HK.out k wr hJ k hlt
      have h3 := HF.out k hlt
      obtain ⟨fn, tmps, assign, body, hy, hR⟩ := HY.out k wr hlt hJ
      have h4 : IntKind.i64.wrap (f k) = f k := i64_small (by omega) (by omega)
      clear h3
      generalize f k = v at h2 h4 hy hR
      gi_wp2_with fail
      refine ⟨rfl, hR.mono ?_⟩
      clear hR hy
      rintro e w5 (⟨rfl, hJ5, _⟩ | ⟨rfl, hX5⟩)
      · gi_wp2_with fail
        go_roundw
        case rel => exact ⟨k + 1, by omega, by go_num, hJ5⟩
        case measure => simp [intOf]; omega
      · gi_wp2
        refine bodyPost_ret (v := .tuple #[]) (by simp [results, Tryz.results194, go_sem]) rfl ?_
        exact ⟨⟨_, rfl⟩, .inr ⟨k, hlt, hX5⟩⟩
    · obtain rfl : k = S := by omega
      have t1 : ¬ (k : Int) < (k : Int) := by omega
      gi_wp2
      go_end0
      exact ⟨⟨_, rfl⟩, .inl hJ⟩
set_option maxRecDepth 100000 in
set_option maxHeartbeats 4000000 in
theorem seq16 {w : World} {r h W S cap : Nat} {f : Nat → Int} (hR : Rw w r h .i16 W S cap f) (hS : S ≤ 1048576) (hf : ∀ i, i < S → -2147483648 ≤ f i ∧ f i < 2147483648) (hlr : r < w.heap.size) :
    SeqAt Tryz.prog 201 (fun l => #[.pointer (some ⟨r, 0, none⟩), .func (.yield l) #[] #[]]) (fun i => #[.int .i64 (i : Int), .int .i64 (f i)]) S (fun V => ∀ j, j < S → V.cell? ⟨h, j, none⟩ = some (.int .i16 (f j))) w := by
  intro l J Jx W0 hB HJ0 HJX0 HK0 hY0 J0
  have HJ := Lib.hid HJ0
  have HY := Lib.hid hY0
  have h1 := (hB.cell (p := ⟨r, 1, none⟩) hlr).trans hR.r1
  have h5 := hR.le
  have HK := Lib.hid HK0
  have HF := Lib.hid hf
  clear hR hf HJ0 HJX0 hY0 HK0
  refine callsIn_of_wp Tryz.func201 rfl trivial ?_ rfl
  simp only [Tryz.ntmps201, List.size_toArray, List.length_cons, List.length_nil, Nat.reduceAdd, Nat.reduceSub, Array.replicate_succ, Array.replicate_zero, List.push_toArray, List.append_toArray, List.nil_append, List.cons_append]
  gi_wp2_with fail
  gi_loopw [11] (fun iv wr => ∃ k : Nat, k ≤ S ∧ iv = .int .i64 (k : Int) ∧ J k wr) (fun iv _ => S - (intOf iv).toNat)
  case atStart => exact ⟨0, Nat.zero_le _, rfl, J0⟩
  case round =>
    obtain ⟨k, hk, rfl, hJ⟩ := hrel
    by_cases hlt : k < S
    · have t1 : (k : Int) < (S : Int) := by omega
      have h2 := HK.out k wr hJ k hlt
      have h3 := HF.out k hlt
      obtain ⟨fn, tmps, assign, body, hy, hR⟩ := HY.out k wr hlt hJ
      have h4 : IntKind.i64.wrap (f k) = f k := i64_small (by omega) (by omega)
      clear h3
      generalize f k = v at h2 h4 hy hR
      gi_wp2_with fail
      refine ⟨rfl, hR.mono ?_⟩
      clear hR hy
      rintro e w5 (⟨rfl, hJ5, _⟩ | ⟨rfl, hX5⟩)
      · gi_wp2_with fail
        go_roundw
        case rel => exact ⟨k + 1, by omega, by go_num, hJ5⟩
        case measure => simp [intOf]; omega
      · gi_wp2
        refine bodyPost_ret (v := .tuple #[]) (by simp [results, Tryz.results201, go_sem]) rfl ?_
        exact ⟨⟨_, rfl⟩, .inr ⟨k, hlt, hX5⟩⟩
    · obtain rfl : k = S := by omega
      have t1 : ¬ (k : Int) < (k : Int) := by omega
      gi_wp2
      go_end0
      exact ⟨⟨_, rfl⟩, .inl hJ⟩
set_option maxRecDepth 100000 in
set_option maxHeartbeats 4000000 in
theorem seq32 {w : World} {r h W S cap : Nat} {f : Nat → Int} (hR : Rw w r h .i32 W S cap f) (hS : S ≤ 1048576) (hf : ∀ i, i < S → -2147483648 ≤ f i ∧ f i < 2147483648) (hlr : r < w.heap.size) :
    SeqAt Tryz.prog 208 (fun l => #[.pointer (some ⟨r, 0, none⟩), .func (.yield l) #[] #[]]) (fun i => #[.int .i64 (i : Int), .int .i64 (f i)]) S (fun V => ∀ j, j < S → V.cell? ⟨h, j, none⟩ = some (.int .i32 (f j))) w := by
  intro l J Jx W0 hB HJ0 HJX0 HK0 hY0 J0
  have HJ := Lib.hid HJ0
  have HY := Lib.hid hY0
  have h1 := (hB.cell (p := ⟨r, 1, none⟩) hlr).trans hR.r1
  have h5 := hR.le
  have HK := Lib.hid HK0
  have HF := Lib.hid hf
  clear hR hf HJ0 HJX0 hY0 HK0
  refine callsIn_of_wp Tryz.func208 rfl trivial ?_ rfl
  simp only [Tryz.ntmps208, List.size_toArray, List.length_cons, List.length_nil, Nat.reduceAdd, Nat.reduceSub, Array.replicate_succ, Array.replicate_zero, List.push_toArray, List.append_toArray, List.nil_append, List.cons_append]
  gi_wp2_with fail
  gi_loopw [11] (fun iv wr => ∃ k : Nat, k ≤ S ∧ iv = .int .i64 (k : Int) ∧ J k wr) (fun iv _ => S - (intOf iv).toNat)
  case atStart => exact ⟨0, Nat.zero_le _, rfl, J0⟩
  case round =>
    obtain ⟨k, hk, rfl, hJ⟩ := hrel
    by_cases hlt : k < S
    · have t1 : (k : Int) < (S : Int) := by omega
      have h2 := HK.out k wr hJ k hlt
      have h3 := HF.out k hlt
      obtain ⟨fn, tmps, assign, body, hy, hR⟩ := HY.out k wr hlt hJ
      have h4 : IntKind.i64.wrap (f k) = f k := i64_small (by omega) (by omega)
      clear h3
      generalize f k = v at h2 h4 hy hR
      gi_wp2_with fail
      refine ⟨rfl, hR.mono ?_⟩
      clear hR hy
      rintro e w5 (⟨rfl, hJ5, _⟩ | ⟨rfl, hX5⟩)
      · gi_wp2_with fail
        go_roundw
        case rel => exact ⟨k + 1, by omega, by go_num, hJ5⟩
        case measure => simp [intOf]; omega
      · gi_wp2
        refine bodyPost_ret (v := .tuple #[]) (by simp [results, Tryz.results208, go_sem]) rfl ?_
        exact ⟨⟨_, rfl⟩, .inr ⟨k, hlt, hX5⟩⟩
    · obtain rfl : k = S := by omega
      have t1 : ¬ (k : Int) < (k : Int) := by omega
      gi_wp2
      go_end0
      exact ⟨⟨_, rfl⟩, .inl hJ⟩
theorem row_seq {w : World} {r h W S cap L : Nat} {f : Nat → Int} (hR : Rw w r h (kd L) W S cap f) (hS : S ≤ 1048576) (hf : ∀ i, i < S → -2147483648 ≤ f i ∧ f i < 2147483648) (hlr : r < w.heap.size) :
    SeqAt Tryz.prog (eachF L) (fun l => #[.pointer (some ⟨r, 0, none⟩), .func (.yield l) #[] #[]]) (fun i => #[.int .i64 (i : Int), .int .i64 (f i)]) S (fun V => ∀ j, j < S → V.cell? ⟨h, j, none⟩ = some (.int (kd L) (f j))) w := by
  rcases L_cases L with h1 | ⟨h1, h2⟩ | ⟨h1, h2⟩
  · rw [show kd L = .i8 by simp [kd, h1]] at hR ⊢
    rw [show eachF L = 194 by simp [eachF, h1]]
    exact seq8 hR hS hf hlr
  · rw [show kd L = .i16 by simp [kd, h1, h2]] at hR ⊢
    rw [show eachF L = 201 by simp [eachF, h1, h2]]
    exact seq16 hR hS hf hlr
  · rw [show kd L = .i32 by simp [kd, h1, h2]] at hR ⊢
    rw [show eachF L = 208 by simp [eachF, h1, h2]]
    exact seq32 hR hS hf hlr
end Go.Proofs.YtjbgbijpihpkmaaGreat
