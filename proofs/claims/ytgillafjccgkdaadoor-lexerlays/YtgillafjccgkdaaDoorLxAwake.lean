/-
  What the document fixes; words of the document's own answer.
-/
import Derived.Test.YtgillafjccgkdaaDoorLxTokens
import Derived.Lib.SlBytesConst
namespace Go.Proofs.YtgillafjccgkdaaDoor
open Go.RowKit Go.WideShapes
namespace Lx

theorem cell_marked (w : World) (C : Array Value) (e : TypeId) (z : Nat × Nat) (j : Nat) : (w.alloc (.cells C e z)).cell? ⟨w.heap.size, j, none⟩ = C[j]? := by
  have h : (w.alloc (.cells C e z)).heap[w.heap.size]? = some (.cells C e z) := by
    show (w.heap.push (.cells C e z))[w.heap.size]? = _
    simp
  unfold World.cell?
  simp only [h]
  rfl
theorem eq_tok0 (w : World) : (binOp .eql 29 (.agg #[.int .i64 1, .string ⟨#[97]⟩, .int .i64 0]) (.agg #[.int .i64 1, .string ⟨#[97]⟩, .int .i64 0])).run Tryd.prog w = .ok (.bool true) w := by kernel_rfl
theorem eq_tok2 (w : World) : (binOp .eql 29 (.agg #[.int .i64 3, .string ⟨#[49]⟩, .int .i64 2]) (.agg #[.int .i64 3, .string ⟨#[49]⟩, .int .i64 2])).run Tryd.prog w = .ok (.bool true) w := by kernel_rfl
set_option maxRecDepth 100000 in
set_option maxHeartbeats 2000000 in
theorem awake_any (w : World) (hE : Env w) : Calls Tryd.prog 4 #[] w fun e w' => e = .returned (.bool true) ∧ Below w.heap.size w w' := by
  obtain ⟨W, hW⟩ : ∃ W, w.alloc (.cells #[.int .u8 97, .int .u8 61, .int .u8 49] 5 (3, 4)) = W := ⟨_, rfl⟩
  have hbW : Below w.heap.size w W := by rw [← hW]; exact (Below.refl _ w).alloc (Nat.le_refl _) _
  have hs : W.heap.size = w.heap.size + 1 := by rw [← hW]; simp
  have hB : Bs W (some ⟨w.heap.size, 0, none⟩) 3 [97, 61, 49] := by
    refine ⟨rfl, w.heap.size, 0, fun _ => ⟨rfl, by omega⟩, fun j hj => ?_⟩
    rw [← hW]
    rcases (by omega : j = 0 ∨ j = 1 ∨ j = 2) with rfl | rfl | rfl <;> exact cell_marked _ _ _ _ _
  have C := tokens_any hB 3 (by omega) (hE.below hbW)
  have C2 := word_7
  have kc : (convert 25 25 (.slice (some ⟨w.heap.size, 0, none⟩) 3 3)).run Tryd.prog (w.alloc (.cells #[.int .u8 97, .int .u8 61, .int .u8 49] 5)) = .ok (.slice (some ⟨w.heap.size, 0, none⟩) 3 3) W := by rw [← hW]; exact Lib.run_convert_bytes_const (P := Tryd.prog) w 25 5 #[.int .u8 97, .int .u8 61, .int .u8 49] 3 3 Tryd.underlying25 Tryd.underlying5
  clear hW
  have h2 := eq_tok0
  have h3 := eq_tok2
  have HBW := Lib.hid hbW
  have HS := Lib.hid hs
  clear hbW hs hB
  go_enter Tryd.func4, Tryd.ntmps4
  go_wp2_with fail
  refine C.mono ?_
  rintro e w1 ⟨o, hL, hb, hm⟩
  clear C kc
  obtain rfl := hL.det lex_aw
  obtain ⟨tv, rfl, ho⟩ := hm
  obtain ⟨gt, cap, rfl, hlt, hcap, -⟩ := ownsS_some ho (by decide)
  have HLT := Lib.hid hlt
  have c0 : w1.cell? ⟨gt, 0, none⟩ = some (.int .i64 1) := ownsS_cell ho 0 _ rfl
  have c1 : w1.cell? ⟨gt, 1, none⟩ = some (.string ⟨#[97]⟩) := ownsS_cell ho 1 _ rfl
  have c2 : w1.cell? ⟨gt, 2, none⟩ = some (.int .i64 0) := ownsS_cell ho 2 _ rfl
  have c6 : w1.cell? ⟨gt, 6, none⟩ = some (.int .i64 3) := ownsS_cell ho 6 _ rfl
  have c7 : w1.cell? ⟨gt, 7, none⟩ = some (.string ⟨#[49]⟩) := ownsS_cell ho 7 _ rfl
  have c8 : w1.cell? ⟨gt, 8, none⟩ = some (.int .i64 2) := ownsS_cell ho 8 _ rfl
  have al : ∀ o j, (w1.alloc o).cell? ⟨gt, j, none⟩ = w1.cell? ⟨gt, j, none⟩ := fun o j => World.cell?_of_block (a := ⟨gt, j, none⟩) (Below.heap_alloc w1 o gt hlt)
  rw [show awT.length = 5 from rfl] at *
  have HB := Lib.hid hb
  clear ho hlt hcap hb hL
  go_wp2_with (go_at_call 8; refine (C2 _).mono ?_; rintro e w' ⟨rfl, rfl⟩)
  go_ret
  exact ⟨rfl, (HBW.out.trans (HB.out.mono (by have := HS.out; omega))).alloc (by have := HB.out.size; have := HS.out; omega) _⟩
end Lx
end Go.Proofs.YtgillafjccgkdaaDoor
