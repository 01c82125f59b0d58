/-
  What is done for a goal: rowOf.
-/
import Derived.Test.YtooneobnfepncaaGreatPrMem
import Derived.Laws.EntriesVeiled
namespace Go.Proofs.YtooneobnfepncaaGreat
open Go.RowKit Go.WideShapes

def hitF (goal : Nat) : FuncId := if goal = 2 then 88 else if goal = 3 then 90 else 86
def missF (goal : Nat) : FuncId := if goal = 2 ∨ goal = 4 then 89 else 87
def hitV (goal : Nat) : Value := .func (.func (hitF goal)) #[] #[]
def missV (goal : Nat) : Value := .func (.func (missF goal)) #[] #[]
def rowsF (j : Nat) : Value := #[Value.int .i64 1, hitV 1, missV 1, .int .i64 2, hitV 2, missV 2, .int .i64 3, hitV 3, missV 3, .int .i64 4, hitV 4, missV 4].getD j .nilFunc
theorem rowsF_at (k : Nat) (hk : k < 4) : rowsF (k * 3) = .int .i64 ((k : Int) + 1) ∧ rowsF (k * 3 + 1) = hitV (k + 1) ∧ rowsF (k * 3 + 2) = missV (k + 1) := by
  have : k = 0 ∨ k = 1 ∨ k = 2 ∨ k = 3 := by omega
  rcases this with rfl | rfl | rfl | rfl <;> exact ⟨rfl, rfl, rfl⟩
def zR (j : Nat) : Value := #[Value.int .i64 0, .nilFunc, .nilFunc].getD j .nilFunc
theorem rows_new (w : World) {w2 : World} (h : (w.alloc (.cells #[.int .i64 0, .nilFunc, .nilFunc] 116)).alloc (.cells #[.int .i64 1, hitV 1, missV 1, .int .i64 2, hitV 2, missV 2, .int .i64 3, hitV 3, missV 3, .int .i64 4, hitV 4, missV 4] 116) = w2) :
    Blk w2 w.heap.size 3 zR ∧ Blk w2 (w.heap.size + 1) 12 rowsF ∧ Below w.heap.size w w2 := by
  have hb : Below w.heap.size w w2 := by rw [← h]; exact ((Below.refl _ w).alloc (Nat.le_refl _) _).alloc (by simp) _
  refine ⟨?_, ?_, hb⟩
  · have h1 : Blk (w.alloc (.cells #[.int .i64 0, .nilFunc, .nilFunc] 116)) w.heap.size 3 zR := Blk.new w #[.int .i64 0, .nilFunc, .nilFunc] 116
    rw [← h]
    exact h1.same (Below.heap_alloc _ _ _ (by simp))
  · have h1 := Blk.new (w.alloc (.cells #[.int .i64 0, .nilFunc, .nilFunc] 116)) #[.int .i64 1, hitV 1, missV 1, .int .i64 2, hitV 2, missV 2, .int .i64 3, hitV 3, missV 3, .int .i64 4, hitV 4, missV 4] 116
    have e : (w.alloc (.cells #[.int .i64 0, .nilFunc, .nilFunc] 116)).heap.size = w.heap.size + 1 := by simp
    rw [← h]
    rw [e] at h1
    exact h1
set_option maxRecDepth 100000 in
set_option maxHeartbeats 4000000 in
theorem rowOf_yes (goal : Nat) (hg1 : 1 ≤ goal) (hg4 : goal ≤ 4) (w : World) :
    Calls Tryz.prog 43 #[.int .i64 (goal : Int)] w fun e w' => e = .returned (.tuple #[.agg #[.int .i64 (goal : Int), hitV goal, missV goal], .bool true]) ∧ Below w.heap.size w w' := by
  obtain ⟨w2, hw2⟩ : ∃ y, (w.alloc (.cells #[.int .i64 0, .nilFunc, .nilFunc] 116)).alloc (.cells #[.int .i64 1, hitV 1, missV 1, .int .i64 2, hitV 2, missV 2, .int .i64 3, hitV 3, missV 3, .int .i64 4, hitV 4, missV 4] 116) = y := ⟨_, rfl⟩
  obtain ⟨hR, hB, hb2⟩ := rows_new w hw2
  have lR := hR.lt (by omega)
  have lB := hB.lt (by omega)
  have HR := Lib.hid hR
  have HB := Lib.hid hB
  have HB2 := Lib.hid hb2
  have HW2 : Hid ((w.alloc (.cells #[.int .i64 0, .nilFunc, .nilFunc] 116)).alloc (.cells #[.int .i64 1, .func (.func 86) #[] #[], .func (.func 87) #[] #[], .int .i64 2, .func (.func 88) #[] #[], .func (.func 89) #[] #[], .int .i64 3, .func (.func 90) #[] #[], .func (.func 87) #[] #[], .int .i64 4, .func (.func 86) #[] #[], .func (.func 89) #[] #[]] 116) = w2) := hw2
  clear hR hB hb2 hw2
  go_enter Tryz.func43, Tryz.ntmps43
  go_wp2_with fail
  rw [HW2.out]
  go_loopw [14, 6] (fun iv _ wr => ∃ k : Nat, k < goal ∧ iv = .int .i64 (k : Int) ∧ Below w2.heap.size w2 wr) (fun iv _ _ => 4 - (intOf iv).toNat)
  case atStart => exact ⟨0, by omega, rfl, Below.refl _ _⟩
  case round =>
    obtain ⟨k, hk, rfl, hbk⟩ := hrel
    have t1 : (k : Int) < 4 := by omega
    obtain ⟨e0, e1, e2⟩ := rowsF_at k (by omega)
    have hBk := HB.out.of hbk (by omega)
    have c0 : wr.cell? ⟨w.heap.size + 1, k * 3, none⟩ = some (.int .i64 ((k : Int) + 1)) := by rw [hBk.c _ (by omega), e0]
    have c1 : wr.cell? ⟨w.heap.size + 1, k * 3 + 1, none⟩ = some (hitV (k + 1)) := by rw [hBk.c _ (by omega), e1]
    have c2 : wr.cell? ⟨w.heap.size + 1, k * 3 + 2, none⟩ = some (missV (k + 1)) := by rw [hBk.c _ (by omega), e2]
    clear e0 e1 e2 hBk
    obtain ⟨fh, hfh⟩ : ∃ x, hitV (k + 1) = Value.func (.func x) #[] #[] := ⟨_, rfl⟩
    obtain ⟨fm, hfm⟩ : ∃ x, missV (k + 1) = Value.func (.func x) #[] #[] := ⟨_, rfl⟩
    rw [hfh] at c1
    rw [hfm] at c2
    by_cases hkg : k + 1 = goal
    · have HKG := Lib.hid hkg
      have tq : ((k : Int) + 1 == (goal : Int)) = true := by rw [beq_iff_eq]; omega
      obtain ⟨w3, hw3⟩ : ∃ y, wr.alloc (.cells #[.int .i64 ((k : Int) + 1), .func (.func fh) #[] #[], .func (.func fm) #[] #[]] 116) = y := ⟨_, rfl⟩
      have hb3 : Below wr.heap.size wr w3 := by rw [← hw3]; exact (Below.refl _ wr).alloc (Nat.le_refl _) _
      have hX3 : Blk w3 wr.heap.size 3 (fun j => #[Value.int .i64 ((k : Int) + 1), .func (.func fh) #[] #[], .func (.func fm) #[] #[]].getD j .nilFunc) := by rw [← hw3]; exact Blk.new wr _ _
      have hR3 := (HR.out.of hbk (by omega)).of hb3 (by omega)
      have p0 : w3.cell? ⟨wr.heap.size, 0, none⟩ = some (.int .i64 ((k : Int) + 1)) := hX3.c 0 (by omega)
      have p1 : w3.cell? ⟨wr.heap.size, 1, none⟩ = some (.func (.func fh) #[] #[]) := hX3.c 1 (by omega)
      have p2 : w3.cell? ⟨wr.heap.size, 2, none⟩ = some (.func (.func fm) #[] #[]) := hX3.c 2 (by omega)
      have q0 : w3.cell? ⟨w.heap.size, 0, none⟩ = some (.int .i64 0) := hR3.c 0 (by omega)
      have q1 : w3.cell? ⟨w.heap.size, 1, none⟩ = some .nilFunc := hR3.c 1 (by omega)
      have q2 : w3.cell? ⟨w.heap.size, 2, none⟩ = some .nilFunc := hR3.c 2 (by omega)
      have z0 := hR3.z 0
      have z1 := hR3.z 1
      have z2 := hR3.z 2
      have HF := Lib.hid (((hR3.put 0 (.int .i64 ((k : Int) + 1))).put 1 (.func (.func fh) #[] #[])).put 2 (.func (.func fm) #[] #[]))
      have HBB : Hid (Below w.heap.size w (((w3.setCell ⟨w.heap.size, 0, none⟩ (.int .i64 ((k : Int) + 1))).setCell ⟨w.heap.size, 1, none⟩ (.func (.func fh) #[] #[])).setCell ⟨w.heap.size, 2, none⟩ (.func (.func fm) #[] #[]))) := by
        have h1 := HB2.out.trans (hbk.mono HB2.out.size)
        have h2 := h1.trans (hb3.mono h1.size)
        exact ((h2.setCell (p := ⟨w.heap.size, 0, none⟩) (Nat.le_refl _) _).setCell (p := ⟨w.heap.size, 1, none⟩) (Nat.le_refl _) _).setCell (p := ⟨w.heap.size, 2, none⟩) (Nat.le_refl _) _
      have HW3 := Lib.hid hw3
      have HFH := Lib.hid hfh
      have HFM := Lib.hid hfm
      clear hb3 hX3 hR3 hw3 hbk hkg hfh hfm
      go_upto_if 21 with fail
      rw [HW3.out]
      clear c0 c1 c2
      go_wp2_with fail
      generalize World.setCell (World.setCell (World.setCell w3 _ _) _ _) _ _ = w4 at *
      have o0 : w4.cell? ⟨w.heap.size, 0, none⟩ = some (.int .i64 ((k : Int) + 1)) := HF.out.c 0 (by omega)
      have o1 : w4.cell? ⟨w.heap.size, 1, none⟩ = some (.func (.func fh) #[] #[]) := HF.out.c 1 (by omega)
      have o2 : w4.cell? ⟨w.heap.size, 2, none⟩ = some (.func (.func fm) #[] #[]) := HF.out.c 2 (by omega)
      refine bodyPost_ret (v := .tuple #[.agg #[.int .i64 ((k : Int) + 1), .func (.func fh) #[] #[], .func (.func fm) #[] #[]], .bool true]) ?_ rfl ⟨?_, HBB.out⟩
      · simp [results, Tryz.results43, go_sem, o0, o1, o2]
      · rw [← HFH.out, ← HFM.out, HKG.out, show ((k : Int) + 1) = (goal : Int) by have := HKG.out; omega]
    · have tq : ((k : Int) + 1 == (goal : Int)) = false := by rw [beq_eq_false_iff_ne]; omega
      have HBN : Hid (∀ o, Below w2.heap.size w2 (wr.alloc o)) := fun o => hbk.alloc hbk.size o
      clear hbk
      go_wp2_with fail
      go_roundw
      case rel => exact ⟨k + 1, by omega, by go_num, HBN.out _⟩
      case measure => simp [intOf]; omega
end Go.Proofs.YtooneobnfepncaaGreat
