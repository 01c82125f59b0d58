/-
  The reference's New, Get, Set.
-/
import Derived.Deep.CutRange
import Derived.Test.YtejfmajbggmghaaGreatCeTell
import Derived.Test.YtejfmajbggmghaaGreatCeBut
namespace Go.Proofs.YtejfmajbggmghaaGreat
open Go.RowKit Go.WideShapes

/-- The reference's cells: their log, their list at block q. -/
def rv (L q S : Nat) : Value := .agg #[.int .i64 (L : Int), .slice (some ⟨q, 0, none⟩) S S]
structure Rf (w : World) (q S : Nat) (f : Nat → Int) : Prop where
  hc : ∀ j, j < S → w.cell? ⟨q, j, none⟩ = some (.int .i64 (f j))
  hz : ∀ j, w.frozen? ⟨q, j, none⟩ = false
theorem Rf.same {w w' : World} {q S : Nat} {f : Nat → Int} (h : Rf w q S f) (e : w'.heap[q]? = w.heap[q]?) : Rf w' q S f :=
  ⟨fun j hj => (World.cell?_of_block (a := ⟨q, j, none⟩) e).trans (h.hc j hj), fun j => (World.frozen?_of_block (a := ⟨q, j, none⟩) e).trans (h.hz j)⟩
theorem Rf.lt {w : World} {q S : Nat} {f : Nat → Int} (h : Rf w q S f) (hS : 0 < S) : q < w.heap.size := lt_of_cell (h.hc 0 hS)
theorem Rf.below {w w' : World} {q S : Nat} {f : Nat → Int} (h : Rf w q S f) (hS : 0 < S) (hb : Below w.heap.size w w') : Rf w' q S f := h.same (hb.block _ (h.lt hS))
theorem Rf.put {w : World} {q S : Nat} {f : Nat → Int} (h : Rf w q S f) (i : Nat) (hi : i < S) (v : Int) : Rf (w.setCell ⟨q, i, none⟩ (.int .i64 v)) q S (upd f i v) := by
  refine ⟨fun j hj => ?_, fun j => by rw [World.frozen?_setCell]; exact h.hz j⟩
  unfold upd
  by_cases e : j = i
  · subst e
    rw [if_pos rfl]
    exact World.cell?_setCell_same' _ _ _ (by rw [h.hc j hj]; rfl)
  · rw [if_neg e, World.cell?_setCell_other _ _ _ _ (by intro he; injection he with h1 h2; exact e h2.symm)]
    exact h.hc j hj
theorem Rf.congr {w : World} {q S : Nat} {f f' : Nat → Int} (h : Rf w q S f) (e : ∀ j, j < S → f' j = f j) : Rf w q S f' :=
  ⟨fun j hj => by rw [e j hj]; exact h.hc j hj, h.hz⟩
theorem Tryz.infoInt : (Tryz.prog.info? 3).map (fun i => (i.zero, i.size, i.bytes)) = some (some (.int .i64 0), 1, 8) := by kernel_rfl

set_option maxRecDepth 100000 in
theorem rnew_no (l : Int) (hl : ¬ (3 ≤ l ∧ l ≤ 20)) (w : World) : Calls Tryz.prog 62 #[.int .i64 l] w fun e w' => e = .returned (.tuple #[.agg #[.int .i64 0, .slice none 0 0], .int .i64 1]) ∧ Below w.heap.size w w' := by
  have hb : Below w.heap.size w (w.alloc (.cells #[.int .i64 0, .slice none 0 0] 89)) := (Below.refl _ w).alloc (Nat.le_refl _) _
  have HB := Lib.hid hb
  clear hb
  by_cases i2 : l < 3
  case' neg => have i3 : 20 < l := by omega
  all_goals
    clear hl
    go_enter Tryz.func62, Tryz.ntmps62
    go_wp2
    refine bodyPost_ret (v := .tuple #[.agg #[.int .i64 0, .slice none 0 0], .int .i64 1]) ?_ rfl ⟨rfl, HB.out⟩
    simp [results, Tryz.results62, go_sem]
theorem cell_new0 (w : World) (a b : Value) (t : TypeId) : (w.alloc (.cells #[a, b] t)).cell? ⟨w.heap.size, 0, none⟩ = some a := by rw [World.cell?_alloc_at _ _ _ _ rfl]; rfl
theorem cell_new1 (w : World) (a b : Value) (t : TypeId) : (w.alloc (.cells #[a, b] t)).cell? ⟨w.heap.size, 1, none⟩ = some b := by rw [World.cell?_alloc_at _ _ _ _ rfl]; rfl
theorem put2_facts {w : World} {K : Nat} {u v : Value} (h0 : w.cell? ⟨K, 0, none⟩ = some u) (h1 : w.cell? ⟨K, 1, none⟩ = some v) (a b : Value) :
    ((w.setCell ⟨K, 0, none⟩ a).setCell ⟨K, 1, none⟩ b).cell? ⟨K, 0, none⟩ = some a ∧ ((w.setCell ⟨K, 0, none⟩ a).setCell ⟨K, 1, none⟩ b).cell? ⟨K, 1, none⟩ = some b ∧ But K w ((w.setCell ⟨K, 0, none⟩ a).setCell ⟨K, 1, none⟩ b) := by
  refine ⟨?_, ?_, ((But.refl K w).setCell 0 a).setCell 1 b⟩
  · rw [World.cell?_setCell_other _ _ _ _ (by intro he; injection he with _ h2; omega)]
    exact World.cell?_setCell_same' _ _ _ (by rw [h0]; rfl)
  · refine World.cell?_setCell_same' _ _ _ ?_
    rw [World.cell?_setCell_other _ _ _ _ (by intro he; injection he with _ h2; omega), h1]
    rfl
/-- A list of ints that was just made. -/
theorem rf_made {w1 : World} {B n g : Nat} (h : w1.ownsRow B 3 1 (.slice (some ⟨g, 0, none⟩) n n) n (madeCells (Value.int .i64 0).cells (n * 1)).toList) : Rf w1 g n (emp 0) := by
  refine ⟨fun j hj => ?_, fun j => h.frozenAt j⟩
  rw [h.cellAt j (by omega)]
  simp [madeCells, Value.cells, hj, Nat.mod_one, emp]
set_option maxRecDepth 100000 in
set_option maxHeartbeats 4000000 in
theorem rnew_any {L S : Nat} (hS : Sz L S) (w : World) : Calls Tryz.prog 62 #[.int .i64 (L : Int)] w fun e w' => ∃ q, e = .returned (.tuple #[rv L q S, .int .i64 0]) ∧ w.heap.size ≤ q ∧ Rf w' q S (fun _ => -1) ∧ Below w.heap.size w w' := by
  obtain ⟨i0, hi, hz0, hz1, hz2⟩ := info_parts Tryz.infoInt
  have hm := hS.most
  have hp := hS.pos
  have hle := hS.le
  have hge := hS.ge
  have h64 := hS.i64
  have i1 : ¬ (L : Int) < 3 := by omega
  have i2 : ¬ 20 < (L : Int) := by omega
  clear hS
  unfold rv
  obtain ⟨w1, hw1⟩ : ∃ w1, w.alloc (.cells #[.int .i64 0, .slice none 0 0] 89) = w1 := ⟨_, rfl⟩
  have k0 : w1.cell? ⟨w.heap.size, 0, none⟩ = some (.int .i64 0) := by rw [← hw1]; exact cell_new0 _ _ _ _
  have k1 : w1.cell? ⟨w.heap.size, 1, none⟩ = some (.slice none 0 0) := by rw [← hw1]; exact cell_new1 _ _ _ _
  have kz : ∀ j, w1.frozen? ⟨w.heap.size, j, none⟩ = false := by rw [← hw1]; exact fun j => World.frozen?_alloc_at _ _ _ _ rfl
  have hb1 : Below w.heap.size w w1 := by rw [← hw1]; exact (Below.refl _ w).alloc (Nat.le_refl _) _
  have hs1 : w1.heap.size = w.heap.size + 1 := by rw [← hw1]; simp
  go_enter Tryz.func62, Tryz.ntmps62
  go_upto_region 1 with fail
  clear hw1
  go_wp2_with (at_make; refine wpList_make_full _ rfl _ _ 87 rfl w1.heap.size 3 i0 (.int .i64 0) 1 Tryz.underlying87 hi hz0 hz1 .i64 .i64 _ _ S rfl rfl (by omega) (by omega) (by rw [hz2]; omega) (by unfold maxLen; omega) (Nat.le_refl _) ?_; intro w2 hown2 hgrow2; have hb2 : Below w1.heap.size w1 w2 := (Below.refl _ w1).grown hgrow2 (Nat.le_refl _) (fun k e => by cases e); have hr2 := rf_made hown2; clear hown2 hgrow2)
  rw [hs1] at hb2 hr2
  have hw2 : w.heap.size + 1 < w2.heap.size := hr2.lt (by omega)
  obtain ⟨w3, hw3⟩ : ∃ w3, w2.alloc (.cells #[.int .i64 (L : Int), .slice (some ⟨w.heap.size + 1, 0, none⟩) S S] 89) = w3 := ⟨_, rfl⟩
  have hb3 : Below w2.heap.size w2 w3 := by rw [← hw3]; exact (Below.refl _ w2).alloc (Nat.le_refl _) _
  have hs3 : w3.heap.size = w2.heap.size + 1 := by rw [← hw3]; simp
  have HM0 : Hid (w3.cell? ⟨w2.heap.size, 0, none⟩ = some (.int .i64 (L : Int))) := by show _ = _; rw [← hw3]; exact cell_new0 _ _ _ _
  have HM1 : Hid (w3.cell? ⟨w2.heap.size, 1, none⟩ = some (.slice (some ⟨w.heap.size + 1, 0, none⟩) S S)) := by show _ = _; rw [← hw3]; exact cell_new1 _ _ _ _
  have HR0 := Lib.hid (hr2.below (by omega) hb3)
  have hbK : Below (w.heap.size + 1) w1 w3 := hb2.trans (hb3.mono (by omega))
  have HK0 : Hid (w3.cell? ⟨w.heap.size, 0, none⟩ = some (.int .i64 0)) := (hbK.cell (p := ⟨w.heap.size, 0, none⟩) (by show w.heap.size < w.heap.size + 1; omega)).trans k0
  have HK1 : Hid (w3.cell? ⟨w.heap.size, 1, none⟩ = some (.slice none 0 0)) := (hbK.cell (p := ⟨w.heap.size, 1, none⟩) (by show w.heap.size < w.heap.size + 1; omega)).trans k1
  have HKZ : Hid (∀ j, w3.frozen? ⟨w.heap.size, j, none⟩ = false) := fun j => (World.frozen?_of_block (a := ⟨w.heap.size, j, none⟩) (hbK.block w.heap.size (by omega))).trans (kz j)
  have HB3 := Lib.hid (hb1.trans (hbK.mono (by omega)))
  rw [hw3]
  generalize w2.heap.size = M at *
  clear hw3 hb3 hbK hb2 hr2 k0 k1 kz hb1 hs1
  go_loopw [5] (fun iv wr => ∃ k : Nat, k ≤ S ∧ iv = .int .i64 (k : Int) ∧ Rf wr (w.heap.size + 1) S (emp k) ∧ But (w.heap.size + 1) w3 wr) (fun iv _ => S - (intOf iv).toNat)
  case atStart => exact ⟨0, Nat.zero_le _, rfl, HR0.out, But.refl _ _⟩
  case round =>
    clear HR0
    obtain ⟨k, hk, rfl, hR, hB⟩ := hrel
    have m0 := (hB.cell (p := ⟨M, 0, none⟩) (by show M < _; omega) (by show M ≠ _; omega)).trans HM0.out
    have m1 := (hB.cell (p := ⟨M, 1, none⟩) (by show M < _; omega) (by show M ≠ _; omega)).trans HM1.out
    by_cases hlt : k < S
    · have t1 : (k : Int) < (S : Int) := by omega
      have d1 := hR.hc k hlt
      have d2 := hR.hz k
      have HP := Lib.hid (hR.put k hlt (-1))
      rw [emp_upd] at HP
      have HPB := Lib.hid (hB.setCell k (.int .i64 (-1)))
      clear hR
      go_wp2_with fail
      go_roundw
      case rel => exact ⟨k + 1, by omega, by go_num, HP.out, HPB.out⟩
      case measure => simp [intOf]; omega
    · have t1 : ¬ (k : Int) < (S : Int) := by omega
      obtain rfl : k = S := by omega
      have c0 := (hB.cell (p := ⟨w.heap.size, 0, none⟩) (by show w.heap.size < _; omega) (by show w.heap.size ≠ _; omega)).trans HK0.out
      have c1 := (hB.cell (p := ⟨w.heap.size, 1, none⟩) (by show w.heap.size < _; omega) (by show w.heap.size ≠ _; omega)).trans HK1.out
      have z0 := (hB.frozen (p := ⟨w.heap.size, 0, none⟩) (by show w.heap.size < _; omega) (by show w.heap.size ≠ _; omega)).trans (HKZ.out 0)
      have z1 := (hB.frozen (p := ⟨w.heap.size, 1, none⟩) (by show w.heap.size < _; omega) (by show w.heap.size ≠ _; omega)).trans (HKZ.out 1)
      go_wp2_with fail
      obtain ⟨p0, p1, pb⟩ := put2_facts c0 c1 (.int .i64 (L : Int)) (.slice (some ⟨w.heap.size + 1, 0, none⟩) k k)
      have HRR := Lib.hid ((hR.congr (f' := fun _ => -1) (fun j hj => by unfold emp; rw [if_pos hj])).same (pb.block _ (hR.lt (by omega)) (by omega)))
      have HBB := Lib.hid ((HB3.out.trans (hB.below (B := w.heap.size) (by omega) (by omega))).trans (pb.below (Nat.le_refl _) (by have := hB.size; omega)))
      clear c0 c1 hR hB
      generalize World.setCell (World.setCell _ _ _) _ _ = wz at *
      refine bodyPost_ret (v := .tuple #[.agg #[.int .i64 (L : Int), .slice (some ⟨w.heap.size + 1, 0, none⟩) k k], .int .i64 0]) ?_ rfl ⟨_, rfl, by omega, HRR.out, HBB.out⟩
      simp [results, Tryz.results62, go_sem, p0, p1]
end Go.Proofs.YtejfmajbggmghaaGreat
