/-
  Places and Place, of a table and of a dictionary; the search by halves.
-/
import Derived.Test.YtbdpecpmdglalaaGreatPrMem
import Derived.Test.YtbdpecpmdglalaaGreatBas
namespace Go.Proofs.YtbdpecpmdglalaaGreat
open Go.RowKit Go.WideShapes

theorem tplaces_any {w : World} {g : Nat} {ev : Value} {es : List En} (k2 : w.cell? ⟨g, 2, none⟩ = some ev) (hE : Es w ev es) :
    Calls Tryz.prog 72 #[.pointer (some ⟨g, 0, none⟩)] w fun e w' => e = .returned (.int .i64 (es.length : Int)) ∧ w' = w := by
  obtain ⟨ae, cape, ge, hev, hae, hro⟩ := hE.open
  have hcap := hro.le
  subst hev
  clear hE hro hae
  go_enter Tryz.func72, Tryz.ntmps72
  go_wp2
  go_ret
  exact ⟨rfl, rfl⟩
/-- A new entry's box. -/
theorem en_new (w : World) {w1 : World} (h : w.alloc (.cells #[.bool false, .int .i64 0, .int .i64 0, .int .i64 0, .int .i64 0] 53) = w1) : Blk w1 w.heap.size 5 (fun j => #[Value.bool false, .int .i64 0, .int .i64 0, .int .i64 0, .int .i64 0].getD j .nilFunc) ∧ Below w.heap.size w w1 ∧ w1.heap.size = w.heap.size + 1 := by
  subst h
  exact ⟨Blk.new w _ _, (Below.refl _ w).alloc (Nat.le_refl _) _, by simp⟩
set_option maxRecDepth 100000 in
set_option maxHeartbeats 4000000 in
theorem tplace_any {w : World} {g : Nat} {ev : Value} {es : List En} (k2' : w.cell? ⟨g, 2, none⟩ = some ev) (hE : Es w ev es) (n : Nat) (hn : n < es.length) :
    Calls Tryz.prog 73 #[.pointer (some ⟨g, 0, none⟩), .int .i64 (n : Int)] w fun e w' => e = .returned (eV (nth es n)) ∧ Below w.heap.size w w' := by
  obtain ⟨w1, hw1⟩ : ∃ y, w.alloc (.cells #[.bool false, .int .i64 0, .int .i64 0, .int .i64 0, .int .i64 0] 53) = y := ⟨_, rfl⟩
  obtain ⟨hX1, hB1, hs1⟩ := en_new w hw1
  have hE1 : Es w1 ev es := hE.same fun k hk => hB1.block k (hE.lt k hk)
  have k2e := (hB1.cell (p := ⟨g, 2, none⟩) (lt_of_cell k2')).trans k2'
  have C1 := tplaces_any k2e hE1
  obtain ⟨ae, cape, ge, hev, hae, hro⟩ := hE1.open
  obtain ⟨rfl, _, _⟩ := hae (by omega)
  have hcap := hro.le
  subst hev
  have k2 : w1.cell? ⟨g, 2, none⟩ = some (.slice (some ⟨ge, 0, none⟩) es.length cape) := k2e
  have e0 := hro.c0 n hn
  have e1 := hro.c1 n hn
  have e2 := hro.c2 n hn
  have e3 := hro.c3 n hn
  have e4 := hro.c4 n hn
  have a0 := hX1.c 0 (by omega)
  have a1 := hX1.c 1 (by omega)
  have a2 := hX1.c 2 (by omega)
  have a3 := hX1.c 3 (by omega)
  have a4 := hX1.c 4 (by omega)
  have z0 := hX1.z 0
  have z1 := hX1.z 1
  have z2 := hX1.z 2
  have z3 := hX1.z 3
  have z4 := hX1.z 4
  have t0 : (n : Int) < (es.length : Int) := by omega
  have t1 : ¬ (es.length : Int) ≤ (n : Int) := by omega
  have HW := Lib.hid hw1
  have HX1 := Lib.hid hX1
  have HB1 := Lib.hid hB1
  clear hw1 hX1 hB1 hE hE1 hro hae k2e k2'
  unfold eV
  generalize (nth es n).live = x0 at *
  generalize (nth es n).hash = x1 at *
  generalize (nth es n).key = x2 at *
  generalize (nth es n).value = x3 at *
  generalize (nth es n).birth = x4 at *
  go_enter Tryz.func73, Tryz.ntmps73
  go_wp2_with fail
  rw [HW.out]
  go_wp2_with fail
  refine C1.mono ?_
  rintro e w2 ⟨rfl, rfl⟩
  clear C1
  have HR := Lib.hid (put5_blk HX1.out (.bool x0) (.int .i64 x1) (.int .i64 x2) (.int .i64 x3) (.int .i64 x4))
  have HBB := Lib.hid (HB1.out.trans (put5_below (B := w.heap.size) (w := w2) w.heap.size (Nat.le_refl _) (.bool x0) (.int .i64 x1) (.int .i64 x2) (.int .i64 x3) (.int .i64 x4)))
  unfold put5 at HR HBB
  go_wp2_with fail
  generalize World.setCell (World.setCell (World.setCell (World.setCell (World.setCell w2 _ _) _ _) _ _) _ _) _ _ = w5 at *
  have o0 : w5.cell? ⟨w.heap.size, 0, none⟩ = some (.bool x0) := HR.out.c 0 (by omega)
  have o1 : w5.cell? ⟨w.heap.size, 1, none⟩ = some (.int .i64 x1) := HR.out.c 1 (by omega)
  have o2 : w5.cell? ⟨w.heap.size, 2, none⟩ = some (.int .i64 x2) := HR.out.c 2 (by omega)
  have o3 : w5.cell? ⟨w.heap.size, 3, none⟩ = some (.int .i64 x3) := HR.out.c 3 (by omega)
  have o4 : w5.cell? ⟨w.heap.size, 4, none⟩ = some (.int .i64 x4) := HR.out.c 4 (by omega)
  refine bodyPost_ret (v := .agg #[.bool x0, .int .i64 x1, .int .i64 x2, .int .i64 x3, .int .i64 x4]) ?_ rfl ⟨rfl, HBB.out⟩
  simp [results, Tryz.results73, go_sem, o0, o1, o2, o3, o4]
theorem dplaces_any {w : World} {d g gi r h : Nat} {ev : Value} {t : Tb} {mv : Value} {most : Int} {v : Nat} (hC : Dc w d g gi r h ev t mv most v) :
    Calls Tryz.prog 51 #[.pointer (some ⟨d, 0, none⟩)] w fun e w' => e = .returned (.int .i64 (t.es.length : Int)) ∧ w' = w := by
  have C1 := kept_yes (hC.hd.c 0 (by omega))
  have C2 := tplaces_any (hC.dt.hd.c 2 (by omega)) hC.dt.es
  clear hC
  go_enter Tryz.func51, Tryz.ntmps51
  go_wp2_with fail
  refine C1.mono ?_
  rintro e w1 ⟨rfl, rfl⟩
  clear C1
  go_wp2_with fail
  refine C2.mono ?_
  rintro e w2 ⟨rfl, rfl⟩
  clear C2
  go_wp2
  go_ret
  exact ⟨rfl, rfl⟩
set_option maxRecDepth 100000 in
set_option maxHeartbeats 4000000 in
theorem dplace_any {w : World} {d g gi r h : Nat} {ev : Value} {t : Tb} {mv : Value} {most : Int} {v : Nat} (hC : Dc w d g gi r h ev t mv most v) (n : Nat) (hn : n < t.es.length) :
    Calls Tryz.prog 52 #[.pointer (some ⟨d, 0, none⟩), .int .i64 (n : Int)] w fun e w' => e = .returned (eV (nth t.es n)) ∧ Below w.heap.size w w' := by
  obtain ⟨w1, hw1⟩ : ∃ y, w.alloc (.cells #[.bool false, .int .i64 0, .int .i64 0, .int .i64 0, .int .i64 0] 53) = y := ⟨_, rfl⟩
  obtain ⟨hX1, hB1, hs1⟩ := en_new w hw1
  have hC1 := hC.below hB1
  have C1 := kept_yes (hC1.hd.c 0 (by omega))
  have C2 := tplace_any (hC1.dt.hd.c 2 (by omega)) hC1.dt.es n hn
  have HW := Lib.hid hw1
  have HX1 := Lib.hid hX1
  have HB1 := Lib.hid hB1
  clear hw1 hX1 hB1 hC hC1
  unfold eV at C2 ⊢
  generalize (nth t.es n).live = x0 at *
  generalize (nth t.es n).hash = x1 at *
  generalize (nth t.es n).key = x2 at *
  generalize (nth t.es n).value = x3 at *
  generalize (nth t.es n).birth = x4 at *
  go_enter Tryz.func52, Tryz.ntmps52
  go_wp2_with fail
  rw [HW.out]
  refine C1.mono ?_
  rintro e w2 ⟨rfl, rfl⟩
  clear C1
  go_wp2_with fail
  refine C2.mono ?_
  rintro e w3 ⟨rfl, hB3⟩
  clear C2
  have hX3 := HX1.out.of hB3 (by omega)
  have a0 := hX3.c 0 (by omega)
  have a1 := hX3.c 1 (by omega)
  have a2 := hX3.c 2 (by omega)
  have a3 := hX3.c 3 (by omega)
  have a4 := hX3.c 4 (by omega)
  have z0 := hX3.z 0
  have z1 := hX3.z 1
  have z2 := hX3.z 2
  have z3 := hX3.z 3
  have z4 := hX3.z 4
  have HR := Lib.hid (put5_blk hX3 (.bool x0) (.int .i64 x1) (.int .i64 x2) (.int .i64 x3) (.int .i64 x4))
  have HBB := Lib.hid ((HB1.out.trans (hB3.mono HB1.out.size)).trans (put5_below (B := w.heap.size) (w := w3) w.heap.size (Nat.le_refl _) (.bool x0) (.int .i64 x1) (.int .i64 x2) (.int .i64 x3) (.int .i64 x4)))
  unfold put5 at HR HBB
  clear hX3 hB3
  go_wp2_with fail
  generalize World.setCell (World.setCell (World.setCell (World.setCell (World.setCell w3 _ _) _ _) _ _) _ _) _ _ = w5 at *
  have o0 : w5.cell? ⟨w.heap.size, 0, none⟩ = some (.bool x0) := HR.out.c 0 (by omega)
  have o1 : w5.cell? ⟨w.heap.size, 1, none⟩ = some (.int .i64 x1) := HR.out.c 1 (by omega)
  have o2 : w5.cell? ⟨w.heap.size, 2, none⟩ = some (.int .i64 x2) := HR.out.c 2 (by omega)
  have o3 : w5.cell? ⟨w.heap.size, 3, none⟩ = some (.int .i64 x3) := HR.out.c 3 (by omega)
  have o4 : w5.cell? ⟨w.heap.size, 4, none⟩ = some (.int .i64 x4) := HR.out.c 4 (by omega)
  refine bodyPost_ret (v := .agg #[.bool x0, .int .i64 x1, .int .i64 x2, .int .i64 x3, .int .i64 x4]) ?_ rfl ⟨rfl, HBB.out⟩
  simp [results, Tryz.results52, go_sem, o0, o1, o2, o3, o4]
/-- bornSince's own function: was the entry born at b or later? -/
theorem born1_any {w : World} {d g gi r h : Nat} {ev : Value} {t : Tb} {mv : Value} {most : Int} {v : Nat} (hC : Dc w d g gi r h ev t mv most v) (b1 b2 : Nat) (b : Int) (k1 : w.cell? ⟨b1, 0, none⟩ = some (.pointer (some ⟨d, 0, none⟩))) (k2 : w.cell? ⟨b2, 0, none⟩ = some (.int .i64 b)) (n : Nat) (hn : n < t.es.length) :
    Calls Tryz.prog 54 #[.int .i64 (n : Int), .pointer (some ⟨b1, 0, none⟩), .pointer (some ⟨b2, 0, none⟩)] w fun e w' => e = .returned (.bool (decide (b ≤ (nth t.es n).birth))) ∧ Below w.heap.size w w' := by
  have hB0 : Below w.heap.size w w.drew := (Below.refl _ w).drew
  have C1 := dplace_any (hC.below hB0) n hn
  have hl1 := lt_of_cell k1
  have hl2 := lt_of_cell k2
  have d1 : w.drew.cell? ⟨b1, 0, none⟩ = some (.pointer (some ⟨d, 0, none⟩)) := k1
  have d2 : w.drew.cell? ⟨b2, 0, none⟩ = some (.int .i64 b) := k2
  clear hC
  unfold eV at C1
  generalize (nth t.es n).live = x0 at *
  generalize (nth t.es n).hash = x1 at *
  generalize (nth t.es n).key = x2 at *
  generalize (nth t.es n).value = x3 at *
  generalize (nth t.es n).birth = x4 at *
  have hfl : ∀ w, (Instr.field 53 (.agg #[.bool x0, .int .i64 x1, .int .i64 x2, .int .i64 x3, .int .i64 x4]) 4).run Tryz.prog w = .ok (.int .i64 x4) w := fun _ => by kernel_rfl
  go_enter Tryz.func54, Tryz.ntmps54
  go_wp2_with fail
  go_region_held3 (fun V => V.cell? ⟨b1, 0, none⟩ = some (.pointer (some ⟨d, 0, none⟩)) ∧ V.cell? ⟨b2, 0, none⟩ = some (.int .i64 b))
    (first | with_reducible exact ⟨d1, d2⟩ | with_reducible exact ⟨k1, k2⟩ | with_reducible exact ⟨q1, q2⟩ | fail)
    (first | (go_at_call 52; refine C1.mono ?_; rintro e w2 ⟨rfl, hB2⟩; have q1 := (hB2.cell (p := ⟨b1, 0, none⟩) hl1).trans d1; have q2 := (hB2.cell (p := ⟨b2, 0, none⟩) hl2).trans d2) | fail)
  go_wp2
  go_ret
  exact ⟨rfl, hB0.trans hB2⟩
set_option maxRecDepth 100000 in
set_option maxHeartbeats 4000000 in
/-- Search by halves, for a function that rises. -/
theorem search_any {w : World} {F : FuncId} {caps : Array Value} (n : Nat) (hn : n ≤ 100000) (p : Nat → Bool) (hp : ∀ i j, i ≤ j → j < n → p i = true → p j = true) (hcf : ∀ args w, (callFunc F args).run Tryz.prog w = .ok (.enter F args) w)
    (HC0 : ∀ W k, Below w.heap.size w W → k < n → Calls Tryz.prog F (#[.int .i64 (k : Int)] ++ caps) W fun e w' => e = .returned (.bool (p k)) ∧ Below W.heap.size W w') :
    Calls Tryz.prog 53 #[.int .i64 (n : Int), .func (.func F) #[] caps] w fun e w' => ∃ r : Nat, e = .returned (.int .i64 (r : Int)) ∧ r ≤ n ∧ (∀ k, k < r → p k = false) ∧ (∀ k, r ≤ k → k < n → p k = true) ∧ Below w.heap.size w w' := by
  have HC : Hid (∀ W k, Below w.heap.size w W → k < n → Calls Tryz.prog F (#[.int .i64 (k : Int)] ++ caps) W fun e w' => e = .returned (.bool (p k)) ∧ Below W.heap.size W w') := HC0
  have HP : Hid (∀ i j, i ≤ j → j < n → p i = true → p j = true) := hp
  clear HC0 hp
  go_enter Tryz.func53, Tryz.ntmps53
  go_wp2_with fail
  go_loopw [5, 6, 7] (fun iv jv _ wr => ∃ i j : Nat, i ≤ j ∧ j ≤ n ∧ iv = .int .i64 (i : Int) ∧ jv = .int .i64 (j : Int) ∧ (∀ k, k < i → p k = false) ∧ (∀ k, j ≤ k → k < n → p k = true) ∧ Below w.heap.size w wr) (fun iv jv _ _ => (intOf jv - intOf iv).toNat)
  case atStart => exact ⟨0, n, Nat.zero_le _, Nat.le_refl _, rfl, rfl, fun k hk => absurd hk (Nat.not_lt_zero _), fun k h1 h2 => by omega, Below.refl _ _⟩
  case round =>
    obtain ⟨i, j, hij, hj, rfl, rfl, hlo, hhi, hB⟩ := hrel
    have HLO : Hid (∀ k, k < i → p k = false) := hlo
    have HHI : Hid (∀ k, j ≤ k → k < n → p k = true) := hhi
    clear hlo hhi
    by_cases hlt : i < j
    · have t1 : (i : Int) < (j : Int) := by omega
      obtain ⟨m, hm⟩ : ∃ m, (i + j) / 2 = m := ⟨_, rfl⟩
      have e1 : IntKind.i64.wrap ((i : Int) + (j : Int)) = ((i + j : Nat) : Int) := by rw [i64_small (by omega) (by omega)]; omega
      have e2 : IntKind.u64.wrap ((i + j : Nat) : Int) = ((i + j : Nat) : Int) := Tr.u64_small (by omega) (by omega)
      have e3 : ((i + j : Nat) : Int) / 2 = (m : Int) := by omega
      have e4 : IntKind.i64.wrap (m : Int) = (m : Int) := i64_small (by omega) (by omega)
      have hmi : i ≤ m := by omega
      have hmj : m < j := by omega
      have CM := HC.out wr m hB (by omega)
      clear hm
      generalize ((i + j : Nat) : Int) = sm at *
      cases hpm : p m with
      | false =>
        rw [hpm] at CM
        go_wp2_with fail
        refine CM.mono ?_
        rintro e w2 ⟨rfl, hB2⟩
        have e5 : IntKind.i64.wrap ((m : Int) + 1) = ((m + 1 : Nat) : Int) := by rw [i64_small (by omega) (by omega)]; omega
        go_wp2_with fail
        go_roundw
        case rel =>
          have hA : ∀ k, k < m + 1 → p k = false := fun k hk => by
            cases hpk : p k with
            | false => rfl
            | true =>
              have := HP.out k m (by omega) (by omega) hpk
              rw [hpm] at this
              cases this
          refine ⟨m + 1, j, by omega, hj, ?_⟩
          first
            | exact ⟨rfl, rfl, hA, HHI.out, hB.trans (hB2.mono hB.size)⟩
            | exact ⟨rfl, hA, HHI.out, hB.trans (hB2.mono hB.size)⟩
            | exact ⟨hA, HHI.out, hB.trans (hB2.mono hB.size)⟩
        case measure => simp [intOf]; omega
      | true =>
        rw [hpm] at CM
        go_wp2_with fail
        refine CM.mono ?_
        rintro e w2 ⟨rfl, hB2⟩
        go_wp2_with fail
        go_roundw
        case rel =>
          have hA : ∀ k, m ≤ k → k < n → p k = true := fun k h1 h2 => HP.out m k h1 h2 hpm
          refine ⟨i, m, hmi, by omega, ?_⟩
          first
            | exact ⟨rfl, rfl, HLO.out, hA, hB.trans (hB2.mono hB.size)⟩
            | exact ⟨rfl, HLO.out, hA, hB.trans (hB2.mono hB.size)⟩
            | exact ⟨HLO.out, hA, hB.trans (hB2.mono hB.size)⟩
        case measure => simp [intOf]; omega
    · obtain rfl : i = j := by omega
      have t1 : ¬ (i : Int) < (i : Int) := by omega
      go_wp2
      go_ret
      exact ⟨i, rfl, hj, HLO.out, HHI.out, hB⟩
end Go.Proofs.YtbdpecpmdglalaaGreat
