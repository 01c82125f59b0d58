/-
  The reference's Load, where there are no such cells.
-/
import Derived.Test.YtajbieokcdejgaaCeRef
import Derived.Test.YtajbieokcdejgaaCeRBytes
namespace Go.Proofs.Ytajbieokcdejgaa
open Go.RowKit Go.WideShapes

/-- A cell of the result, at block A: none as yet. -/
structure Res (w : World) (A : Nat) : Prop where
  c0 : w.cell? ⟨A, 0, none⟩ = some (.int .i64 0)
  c1 : w.cell? ⟨A, 1, none⟩ = some (.slice none 0 0)
  z0 : w.frozen? ⟨A, 0, none⟩ = false
  z1 : w.frozen? ⟨A, 1, none⟩ = false
theorem Res.same {w w' : World} {A : Nat} (h : Res w A) (e : w'.heap[A]? = w.heap[A]?) : Res w' A :=
  ⟨(World.cell?_of_block (a := ⟨A, 0, none⟩) e).trans h.c0, (World.cell?_of_block (a := ⟨A, 1, none⟩) e).trans h.c1, (World.frozen?_of_block (a := ⟨A, 0, none⟩) e).trans h.z0, (World.frozen?_of_block (a := ⟨A, 1, none⟩) e).trans h.z1⟩
theorem Res.lt {w : World} {A : Nat} (h : Res w A) : A < w.heap.size := lt_of_cell h.c0
theorem Res.below {w w' : World} {A : Nat} (h : Res w A) (hb : Below w.heap.size w w') : Res w' A := h.same (hb.block _ h.lt)
theorem Res.but {w w' : World} {A q : Nat} (h : Res w A) (hb : But q w w') (hA : A ≠ q) : Res w' A := h.same (hb.block _ h.lt hA)
theorem Res.new (w : World) (t : TypeId) : Res (w.alloc (.cells #[.int .i64 0, .slice none 0 0] t)) w.heap.size :=
  ⟨cell_new0 _ _ _ _, cell_new1 _ _ _ _, World.frozen?_alloc_at _ _ _ _ rfl, World.frozen?_alloc_at _ _ _ _ rfl⟩
set_option maxRecDepth 100000 in
set_option maxHeartbeats 2000000 in
theorem rload_no (l : Int) (hl : ¬ (3 ≤ l ∧ l ≤ 20)) (v : Value) (w : World) : Calls Try.prog 19 #[.int .i64 l, v] w fun e w' => e = .returned (.tuple #[.agg #[.int .i64 0, .slice none 0 0], .int .i64 1]) ∧ Below w.heap.size w w' := by
  obtain ⟨w1, hw1⟩ : ∃ w1, w.alloc (.cells #[.int .i64 0, .slice none 0 0] 30) = w1 := ⟨_, rfl⟩
  have hA : Res w1 w.heap.size := by rw [← hw1]; exact Res.new _ _
  have hb1 : Below w.heap.size w w1 := by rw [← hw1]; exact (Below.refl _ w).alloc (Nat.le_refl _) _
  have C1 := rnew_no l hl w1
  clear hl
  go_enter Try.func19, Try.ntmps19
  go_upto_region 1 with fail
  clear hw1
  go_wp2_with fail
  refine C1.mono ?_
  rintro e w2 ⟨rfl, hb2⟩
  clear C1
  have hb3 : Below w2.heap.size w2 (w2.alloc (.cells #[.int .i64 0, .slice none 0 0] 30)) := (Below.refl _ w2).alloc (Nat.le_refl _) _
  have hA3 := (hA.below hb2).below hb3
  have hB3 := (hb1.trans (hb2.mono hb1.size)).trans (hb3.mono (Nat.le_trans hb1.size hb2.size))
  have c0 := hA3.c0
  have c1 := hA3.c1
  have z0 := hA3.z0
  have z1 := hA3.z1
  obtain ⟨p0, p1, pb⟩ := put2_facts c0 c1 (.int .i64 0) (.slice none 0 0)
  have HBB := Lib.hid (hB3.trans (pb.below (Nat.le_refl _) hB3.size))
  have HP0 := Lib.hid p0
  have HP1 := Lib.hid p1
  clear hA hA3 hb1 hb2 hb3 hB3 pb p0 p1
  go_wp2_with fail
  have p0 := HP0.out
  have p1 := HP1.out
  refine bodyPost_ret (v := .tuple #[.agg #[.int .i64 0, .slice none 0 0], .int .i64 1]) ?_ rfl ⟨rfl, HBB.out⟩
  simp [results, Try.results19, go_sem, p0, p1]
set_option maxRecDepth 100000 in
set_option maxHeartbeats 2000000 in
theorem rload_short {L S : Nat} (hS : Sz L S) (a : Option Addr) (n cap : Nat) (hn : n ≠ S * wd L) (w : World) : Calls Try.prog 19 #[.int .i64 (L : Int), .slice a n cap] w fun e w' => e = .returned (.tuple #[.agg #[.int .i64 0, .slice none 0 0], .int .i64 4]) ∧ Below w.heap.size w w' := by
  obtain ⟨w1, hw1⟩ : ∃ w1, w.alloc (.cells #[.int .i64 0, .slice none 0 0] 30) = w1 := ⟨_, rfl⟩
  have hA : Res w1 w.heap.size := by rw [← hw1]; exact Res.new _ _
  have hb1 : Below w.heap.size w w1 := by rw [← hw1]; exact (Below.refl _ w).alloc (Nat.le_refl _) _
  have C1 := rnew_any hS w1
  have HC2 := Lib.hid (fun w => rwidth_any hS w)
  have hm := hS.most
  have hle := hS.le
  have hw : wd L ≤ 4 := by rcases wd_cases L with e | e | e <;> omega
  have hmn : S * wd L ≤ 4194304 := Nat.le_trans (Nat.mul_le_mul hm hw) (by decide)
  have e2 : IntKind.i64.wrap ((wd L : Int) * 2 ^ L) = ((S * wd L : Nat) : Int) := by
    rw [hS.int, ← Int.natCast_mul, Nat.mul_comm]
    exact i64_small (by omega) (by omega)
  have e3 : ((n : Int) != ((S * wd L : Nat) : Int)) = true := by simp; omega
  generalize S * wd L = m at *
  generalize wd L = W at *
  clear hS hn
  go_enter Try.func19, Try.ntmps19
  go_upto_region 1 with fail
  clear hw1
  go_wp2_with fail
  refine C1.mono ?_
  rintro e w2 ⟨q, rfl, hq, hR, hb2⟩
  clear C1
  unfold rv
  obtain ⟨w3, hw3⟩ : ∃ w3, w2.alloc (.cells #[.int .i64 (L : Int), .slice (some ⟨q, 0, none⟩) S S] 30) = w3 := ⟨_, rfl⟩
  have hb3 : Below w2.heap.size w2 w3 := by rw [← hw3]; exact (Below.refl _ w2).alloc (Nat.le_refl _) _
  have hA3 := (hA.below hb2).below hb3
  have hB3 := (hb1.trans (hb2.mono hb1.size)).trans (hb3.mono (Nat.le_trans hb1.size hb2.size))
  have c0 := hA3.c0
  have c1 := hA3.c1
  have z0 := hA3.z0
  have z1 := hA3.z1
  obtain ⟨p0, p1, pb⟩ := put2_facts c0 c1 (.int .i64 0) (.slice none 0 0)
  have HBB := Lib.hid (hB3.trans (pb.below (Nat.le_refl _) hB3.size))
  have HP0 := Lib.hid p0
  have HP1 := Lib.hid p1
  clear hA hA3 hb1 hb2 hb3 hB3 pb p0 p1 hR
  go_wp2_with fail
  refine (HC2.out _).mono ?_
  rintro e w4 ⟨rfl, rfl⟩
  go_wp2_with fail
  have p0 := HP0.out
  have p1 := HP1.out
  refine bodyPost_ret (v := .tuple #[.agg #[.int .i64 0, .slice none 0 0], .int .i64 4]) ?_ rfl ⟨rfl, HBB.out⟩
  simp [results, Try.results19, go_sem, p0, p1]
end Go.Proofs.Ytajbieokcdejgaa
