/-
  bornSince, liveFrom, and the two functions that a walk keeps.
-/
import Derived.Test.YtbdpecpmdglalaaGreatStPlace
namespace Go.Proofs.YtbdpecpmdglalaaGreat
open Go.RowKit Go.WideShapes

set_option maxRecDepth 100000 in
set_option maxHeartbeats 4000000 in
theorem bornSince_any {w : World} {d g gi r h : Nat} {ev : Value} {t : Tb} {mv : Value} {most : Int} {v : Nat} (hC : Dc w d g gi r h ev t mv most v) (hb : t.Born) (b : Int) :
    Calls Tryz.prog 28 #[.pointer (some ⟨d, 0, none⟩), .int .i64 b] w fun e w' => ∃ q : Nat, e = .returned (.int .i64 (q : Int)) ∧ Bef t.es b q ∧ Below w.heap.size w w' := by
  have hlen : t.es.length ≤ 100000 := Nat.le_trans hC.ok.few hC.ok.all
  obtain ⟨w1, hw1⟩ : ∃ y, (w.alloc (.cells #[.pointer (some ⟨d, 0, none⟩)] 24)).alloc (.cells #[.int .i64 b] 3) = y := ⟨_, rfl⟩
  have hB1 : Below w.heap.size w w1 := by rw [← hw1]; exact ((Below.refl _ w).alloc (Nat.le_refl _) _).alloc (by simp) _
  have q1 : w1.cell? ⟨w.heap.size, 0, none⟩ = some (.pointer (some ⟨d, 0, none⟩)) := by rw [← hw1, cell_alloc_old _ _ _ _ (by simp)]; exact cell_alloc_new _ _ _ _ rfl
  have q2 : w1.cell? ⟨w.heap.size + 1, 0, none⟩ = some (.int .i64 b) := by rw [← hw1]; exact cell_alloc_new _ _ _ _ (by simp)
  have hC1 := hC.below hB1
  have C1 := dplaces_any hC1
  have l1 := lt_of_cell q1
  have l2 := lt_of_cell q2
  have C2 := search_any (w := w1) (F := 54) (caps := #[.pointer (some ⟨w.heap.size, 0, none⟩), .pointer (some ⟨w.heap.size + 1, 0, none⟩)]) t.es.length hlen (fun k => decide (b ≤ (nth t.es k).birth))
    (fun i j hij hj hi => by
      have hi' : b ≤ (nth t.es i).birth := by simpa using hi
      rcases Nat.lt_or_ge i j with x | x
      · have := hb.lt x hj
        simp
        omega
      · rw [show j = i by omega]
        simpa using hi') Tryz.call54
    (fun W k hW hk => by
      have := born1_any (hC1.below hW) w.heap.size (w.heap.size + 1) b ((hW.cell (p := ⟨w.heap.size, 0, none⟩) l1).trans q1) ((hW.cell (p := ⟨w.heap.size + 1, 0, none⟩) l2).trans q2) k hk
      simpa using this)
  have HW := Lib.hid hw1
  have HB1 := Lib.hid hB1
  clear hw1 hB1 hC hC1
  go_enter Tryz.func28, Tryz.ntmps28
  go_upto_region 1 with fail
  rw [HW.out]
  go_wp2_with fail
  refine C1.mono ?_
  rintro e w2 ⟨rfl, rfl⟩
  clear C1
  go_wp2_with fail
  refine C2.mono ?_
  rintro e w3 ⟨q, rfl, h1, h2, h3, hB3⟩
  clear C2
  have HQ : Hid (Bef t.es b q) := ⟨h1, fun k hk => by have := h2 k hk; simp at this; exact this, fun k hk hk2 => by have := h3 k hk hk2; simpa using this⟩
  clear h2 h3
  go_wp2
  go_ret
  exact ⟨q, rfl, HQ.out, HB1.out.trans (hB3.mono HB1.out.size)⟩
/-- An entry's box, at the end of a walk through it. -/
def eZ (j : Nat) : Value := #[Value.bool false, .int .i64 0, .int .i64 0, .int .i64 0, .int .i64 0].getD j .nilFunc
def eB (e : En) (j : Nat) : Value := [Value.bool e.live, .int .i64 e.hash, .int .i64 e.key, .int .i64 e.value, .int .i64 e.birth].getD j .nilFunc
/-- What liveFrom tells, from s on. -/
def LfR (es : List En) (s : Nat) (e : Ending) : Prop :=
  (∃ n, s ≤ n ∧ n < es.length ∧ (nth es n).live = true ∧ (∀ k, s ≤ k → k < n → (nth es k).live = false) ∧ e = .returned (.tuple #[eV (nth es n), .bool true])) ∨
  ((∀ k, s ≤ k → k < es.length → (nth es k).live = false) ∧ e = .returned (.tuple #[eV En.zero, .bool false]))
/-- What it tells from s - 1 on backwards. -/
def LbR (es : List En) (s : Nat) (e : Ending) : Prop :=
  (∃ n, n < s ∧ (nth es n).live = true ∧ (∀ k, n < k → k < s → (nth es k).live = false) ∧ e = .returned (.tuple #[eV (nth es n), .bool true])) ∨
  ((∀ k, k < s → (nth es k).live = false) ∧ e = .returned (.tuple #[eV En.zero, .bool false]))
set_option maxRecDepth 100000 in
set_option maxHeartbeats 4000000 in
theorem liveFrom_on {w : World} {d g gi r h : Nat} {ev : Value} {t : Tb} {mv : Value} {most : Int} {v : Nat} (hC : Dc w d g gi r h ev t mv most v) (s : Nat) (hs : s ≤ t.es.length) :
    Calls Tryz.prog 27 #[.pointer (some ⟨d, 0, none⟩), .int .i64 (s : Int), .int .i64 1] w fun e w' => LfR t.es s e ∧ Below w.heap.size w w' := by
  have hlen : t.es.length ≤ 100000 := Nat.le_trans hC.ok.few hC.ok.all
  obtain ⟨w1, hw1⟩ : ∃ y, w.alloc (.cells #[.bool false, .int .i64 0, .int .i64 0, .int .i64 0, .int .i64 0] 53) = y := ⟨_, rfl⟩
  obtain ⟨hX1, hB1, hs1⟩ := en_new w hw1
  have CP : Hid (∀ V, Below w.heap.size w V → Calls Tryz.prog 51 #[.pointer (some ⟨d, 0, none⟩)] V fun e w' => e = .returned (.int .i64 (t.es.length : Int)) ∧ w' = V) := fun V hV => dplaces_any (hC.below hV)
  have CA : Hid (∀ V n, Below w.heap.size w V → n < t.es.length → Calls Tryz.prog 52 #[.pointer (some ⟨d, 0, none⟩), .int .i64 (n : Int)] V fun e w' => e = .returned (eV (nth t.es n)) ∧ Below V.heap.size V w') := fun V n hV hn => dplace_any (hC.below hV) n hn
  have HW := Lib.hid hw1
  have HX1 : Hid (Blk w1 w.heap.size 5 eZ) := hX1
  have HB1 := Lib.hid hB1
  clear hw1 hX1 hB1 hC
  go_enter Tryz.func27, Tryz.ntmps27
  go_upto_region 1 with fail
  rw [HW.out]
  go_loopw [1, 8] (fun iv _ wr => ∃ k : Nat, s ≤ k ∧ k ≤ t.es.length ∧ iv = .int .i64 (k : Int) ∧ Hid (∀ q, s ≤ q → q < k → (nth t.es q).live = false) ∧ Below w.heap.size w wr ∧ Hid (Blk wr w.heap.size 5 eZ)) (fun iv _ _ => t.es.length - (intOf iv).toNat)
  case atStart => exact ⟨s, Nat.le_refl _, hs, rfl, (fun q h1 h2 => by omega), HB1.out, HX1⟩
  case round =>
    obtain ⟨k, hsk, hk, rfl, HD, hB, HX⟩ := hrel
    have C1 := CP.out wr hB
    have t0 : (0 : Int) ≤ (k : Int) := by omega
    by_cases hlt : k < t.es.length
    · have t1 : (k : Int) < (t.es.length : Int) := by omega
      have C2 := CA.out wr k hB hlt
      have e1 : IntKind.i64.wrap ((k : Int) + 1) = ((k + 1 : Nat) : Int) := by rw [i64_small (by omega) (by omega)]; omega
      obtain ⟨en, hen⟩ : ∃ en, nth t.es k = en := ⟨_, rfl⟩
      rw [hen] at C2
      have HEN := Lib.hid hen
      clear hen
      obtain ⟨x0, x1, x2, x3, x4⟩ := en
      unfold eV at C2
      simp only at C2
      go_wp2_with fail
      refine C1.mono ?_
      rintro e w2 ⟨rfl, rfl⟩
      clear C1
      go_wp2_with fail
      refine C2.mono ?_
      rintro e w3 ⟨rfl, hB3⟩
      clear C2
      obtain ⟨w4, hw4⟩ : ∃ y, w3.alloc (.cells #[.bool x0, .int .i64 x1, .int .i64 x2, .int .i64 x3, .int .i64 x4] 53) = y := ⟨_, rfl⟩
      have hB4 : Below w3.heap.size w3 w4 := by rw [← hw4]; exact (Below.refl _ w3).alloc (Nat.le_refl _) _
      have hX4 : Blk w4 w3.heap.size 5 (fun j => #[Value.bool x0, .int .i64 x1, .int .i64 x2, .int .i64 x3, .int .i64 x4].getD j .nilFunc) := by rw [← hw4]; exact Blk.new w3 _ _
      have hB34 := hB3.trans (hB4.mono hB3.size)
      have hBB := hB.trans (hB34.mono hB.size)
      have hXX := HX.out.of hB34 (by omega)
      have HW4 := Lib.hid hw4
      have p0 : w4.cell? ⟨w3.heap.size, 0, none⟩ = some (.bool x0) := hX4.c 0 (by omega)
      have p1 : w4.cell? ⟨w3.heap.size, 1, none⟩ = some (.int .i64 x1) := hX4.c 1 (by omega)
      have p2 : w4.cell? ⟨w3.heap.size, 2, none⟩ = some (.int .i64 x2) := hX4.c 2 (by omega)
      have p3 : w4.cell? ⟨w3.heap.size, 3, none⟩ = some (.int .i64 x3) := hX4.c 3 (by omega)
      have p4 : w4.cell? ⟨w3.heap.size, 4, none⟩ = some (.int .i64 x4) := hX4.c 4 (by omega)
      clear hw4 hX4 hB4
      cases x0 with
      | false =>
        have HN : Hid (∀ q, s ≤ q → q < k + 1 → (nth t.es q).live = false) := fun q h1 h2 => by
          rcases Nat.lt_or_ge q k with x | x
          · exact HD.out q h1 x
          · rw [show q = k by omega, HEN.out]
        go_upto_region 4 with fail
        rw [HW4.out]
        go_wp2_with fail
        go_roundw
        case rel => exact ⟨k + 1, by omega, by omega, rfl, HN, hBB, hXX⟩
        case measure => simp [intOf]; omega
      | true =>
        have HR := Lib.hid (put5_blk hXX (.bool true) (.int .i64 x1) (.int .i64 x2) (.int .i64 x3) (.int .i64 x4))
        have HBB := Lib.hid (hBB.trans (put5_below (B := w.heap.size) (w := w4) w.heap.size (Nat.le_refl _) (.bool true) (.int .i64 x1) (.int .i64 x2) (.int .i64 x3) (.int .i64 x4)))
        have a0 := hXX.c 0 (by omega)
        have a1 := hXX.c 1 (by omega)
        have a2 := hXX.c 2 (by omega)
        have a3 := hXX.c 3 (by omega)
        have a4 := hXX.c 4 (by omega)
        have z0 := hXX.z 0
        have z1 := hXX.z 1
        have z2 := hXX.z 2
        have z3 := hXX.z 3
        have z4 := hXX.z 4
        unfold put5 at HR HBB
        have HF : Hid (LfR t.es s (.returned (.tuple #[.agg #[.bool true, .int .i64 x1, .int .i64 x2, .int .i64 x3, .int .i64 x4], .bool true]))) := .inl ⟨k, hsk, hlt, by rw [HEN.out], HD.out, by rw [HEN.out]; rfl⟩
        clear hXX hBB
        go_upto_region 4 with fail
        rw [HW4.out]
        go_wp2_with fail
        generalize World.setCell (World.setCell (World.setCell (World.setCell (World.setCell w4 _ _) _ _) _ _) _ _) _ _ = w5 at *
        have o0 : w5.cell? ⟨w.heap.size, 0, none⟩ = some (.bool true) := HR.out.c 0 (by omega)
        have o1 : w5.cell? ⟨w.heap.size, 1, none⟩ = some (.int .i64 x1) := HR.out.c 1 (by omega)
        have o2 : w5.cell? ⟨w.heap.size, 2, none⟩ = some (.int .i64 x2) := HR.out.c 2 (by omega)
        have o3 : w5.cell? ⟨w.heap.size, 3, none⟩ = some (.int .i64 x3) := HR.out.c 3 (by omega)
        have o4 : w5.cell? ⟨w.heap.size, 4, none⟩ = some (.int .i64 x4) := HR.out.c 4 (by omega)
        refine bodyPost_ret (v := .tuple #[.agg #[.bool true, .int .i64 x1, .int .i64 x2, .int .i64 x3, .int .i64 x4], .bool true]) ?_ rfl ⟨HF.out, HBB.out⟩
        simp [results, Tryz.results27, go_sem, o0, o1, o2, o3, o4]
    · obtain rfl : k = t.es.length := by omega
      have t1 : ¬ (t.es.length : Int) < (t.es.length : Int) := by omega
      have hXX := HX.out
      have HR := Lib.hid (put5_blk hXX (.bool false) (.int .i64 0) (.int .i64 0) (.int .i64 0) (.int .i64 0))
      have HBB := Lib.hid (hB.trans (put5_below (B := w.heap.size) (w := wr) w.heap.size (Nat.le_refl _) (.bool false) (.int .i64 0) (.int .i64 0) (.int .i64 0) (.int .i64 0)))
      have a0 := hXX.c 0 (by omega)
      have a1 := hXX.c 1 (by omega)
      have a2 := hXX.c 2 (by omega)
      have a3 := hXX.c 3 (by omega)
      have a4 := hXX.c 4 (by omega)
      have z0 := hXX.z 0
      have z1 := hXX.z 1
      have z2 := hXX.z 2
      have z3 := hXX.z 3
      have z4 := hXX.z 4
      unfold put5 at HR HBB
      have HF : Hid (LfR t.es s (.returned (.tuple #[.agg #[.bool false, .int .i64 0, .int .i64 0, .int .i64 0, .int .i64 0], .bool false]))) := .inr ⟨HD.out, rfl⟩
      clear hXX HX
      go_wp2_with fail
      refine C1.mono ?_
      rintro e w2 ⟨rfl, rfl⟩
      clear C1
      go_wp2_with fail
      generalize World.setCell (World.setCell (World.setCell (World.setCell (World.setCell w2 _ _) _ _) _ _) _ _) _ _ = w5 at *
      have o0 : w5.cell? ⟨w.heap.size, 0, none⟩ = some (.bool false) := HR.out.c 0 (by omega)
      have o1 : w5.cell? ⟨w.heap.size, 1, none⟩ = some (.int .i64 0) := HR.out.c 1 (by omega)
      have o2 : w5.cell? ⟨w.heap.size, 2, none⟩ = some (.int .i64 0) := HR.out.c 2 (by omega)
      have o3 : w5.cell? ⟨w.heap.size, 3, none⟩ = some (.int .i64 0) := HR.out.c 3 (by omega)
      have o4 : w5.cell? ⟨w.heap.size, 4, none⟩ = some (.int .i64 0) := HR.out.c 4 (by omega)
      refine bodyPost_ret (v := .tuple #[.agg #[.bool false, .int .i64 0, .int .i64 0, .int .i64 0, .int .i64 0], .bool false]) ?_ rfl ⟨HF.out, HBB.out⟩
      simp [results, Tryz.results27, go_sem, o0, o1, o2, o3, o4]
end Go.Proofs.YtbdpecpmdglalaaGreat
