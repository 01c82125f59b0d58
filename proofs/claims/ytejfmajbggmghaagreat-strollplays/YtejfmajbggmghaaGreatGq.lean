/-
  Places and Place, of a table and of a dictionary; the search by halves.
  bornSince, liveFrom, and the two functions that a walk keeps.
  A walk in memory; hasEnded.
  liveFrom, backwards.
  The two functions that a walk keeps: the next pair, and the next one backwards.
-/
import Derived.Test.YtejfmajbggmghaaGreatGg
import Derived.Test.YtejfmajbggmghaaGreatGn
import Derived.Test.YtejfmajbggmghaaGreatGl
import Derived.Laws.EntriesVeiled
namespace Go.Proofs.YtejfmajbggmghaaGreat
open Go.RowKit Go.WideShapes

theorem tplaces_any {w : World} {g : Nat} {ev : Value} {es : List En} (k2 : w.cell? ⟨g, 2, none⟩ = some ev) (hE : Es w ev es) :
    Calls Tryz.prog 72 #[.pointer (some ⟨g, 0, none⟩)] w fun e w' => e = .returned (.int .i64 (es.length : Int)) ∧ w' = w := by
  obtain ⟨ae, cape, ge, hev, hae, hro⟩ := hE.open
  have hcap := hro.le
  subst hev
  clear hE hro hae
  go_enter Tryz.func72, Tryz.ntmps72
  go_wp2
  go_ret
  exact ⟨rfl, rfl⟩
/-- A new entry's box. -/
theorem en_new (w : World) {w1 : World} (h : w.alloc (.cells #[.bool false, .int .i64 0, .int .i64 0, .int .i64 0, .int .i64 0] 48) = w1) : Blk w1 w.heap.size 5 (fun j => #[Value.bool false, .int .i64 0, .int .i64 0, .int .i64 0, .int .i64 0].getD j .nilFunc) ∧ Below w.heap.size w w1 ∧ w1.heap.size = w.heap.size + 1 := by
  subst h
  exact ⟨Blk.new w _ _, (Below.refl _ w).alloc (Nat.le_refl _) _, by simp⟩
set_option maxRecDepth 100000 in
set_option maxHeartbeats 4000000 in
theorem tplace_any {w : World} {g : Nat} {ev : Value} {es : List En} (k2' : w.cell? ⟨g, 2, none⟩ = some ev) (hE : Es w ev es) (n : Nat) (hn : n < es.length) :
    Calls Tryz.prog 73 #[.pointer (some ⟨g, 0, none⟩), .int .i64 (n : Int)] w fun e w' => e = .returned (eV (nth es n)) ∧ Below w.heap.size w w' := by
  obtain ⟨w1, hw1⟩ : ∃ y, w.alloc (.cells #[.bool false, .int .i64 0, .int .i64 0, .int .i64 0, .int .i64 0] 48) = y := ⟨_, rfl⟩
  obtain ⟨hX1, hB1, hs1⟩ := en_new w hw1
  have hE1 : Es w1 ev es := hE.same fun k hk => hB1.block k (hE.lt k hk)
  have k2e := (hB1.cell (p := ⟨g, 2, none⟩) (lt_of_cell k2')).trans k2'
  have C1 := tplaces_any k2e hE1
  obtain ⟨ae, cape, ge, hev, hae, hro⟩ := hE1.open
  obtain ⟨rfl, _, _⟩ := hae (by omega)
  have hcap := hro.le
  subst hev
  have k2 : w1.cell? ⟨g, 2, none⟩ = some (.slice (some ⟨ge, 0, none⟩) es.length cape) := k2e
  have e0 := hro.c0 n hn
  have e1 := hro.c1 n hn
  have e2 := hro.c2 n hn
  have e3 := hro.c3 n hn
  have e4 := hro.c4 n hn
  have a0 := hX1.c 0 (by omega)
  have a1 := hX1.c 1 (by omega)
  have a2 := hX1.c 2 (by omega)
  have a3 := hX1.c 3 (by omega)
  have a4 := hX1.c 4 (by omega)
  have z0 := hX1.z 0
  have z1 := hX1.z 1
  have z2 := hX1.z 2
  have z3 := hX1.z 3
  have z4 := hX1.z 4
  have t0 : (n : Int) < (es.length : Int) := by omega
  have t1 : ¬ (es.length : Int) ≤ (n : Int) := by omega
  have HW := Lib.hid hw1
  have HX1 := Lib.hid hX1
  have HB1 := Lib.hid hB1
  clear hw1 hX1 hB1 hE hE1 hro hae k2e k2'
  unfold eV
  generalize (nth es n).live = x0 at *
  generalize (nth es n).hash = x1 at *
  generalize (nth es n).key = x2 at *
  generalize (nth es n).value = x3 at *
  generalize (nth es n).birth = x4 at *
  go_enter Tryz.func73, Tryz.ntmps73
  go_wp2_with fail
  rw [HW.out]
  go_wp2_with fail
  refine C1.mono ?_
  rintro e w2 ⟨rfl, rfl⟩
  clear C1
  have HR := Lib.hid (put5_blk HX1.out (.bool x0) (.int .i64 x1) (.int .i64 x2) (.int .i64 x3) (.int .i64 x4))
  have HBB := Lib.hid (HB1.out.trans (put5_below (B := w.heap.size) (w := w2) w.heap.size (Nat.le_refl _) (.bool x0) (.int .i64 x1) (.int .i64 x2) (.int .i64 x3) (.int .i64 x4)))
  unfold put5 at HR HBB
  go_wp2_with fail
  generalize World.setCell (World.setCell (World.setCell (World.setCell (World.setCell w2 _ _) _ _) _ _) _ _) _ _ = w5 at *
  have o0 : w5.cell? ⟨w.heap.size, 0, none⟩ = some (.bool x0) := HR.out.c 0 (by omega)
  have o1 : w5.cell? ⟨w.heap.size, 1, none⟩ = some (.int .i64 x1) := HR.out.c 1 (by omega)
  have o2 : w5.cell? ⟨w.heap.size, 2, none⟩ = some (.int .i64 x2) := HR.out.c 2 (by omega)
  have o3 : w5.cell? ⟨w.heap.size, 3, none⟩ = some (.int .i64 x3) := HR.out.c 3 (by omega)
  have o4 : w5.cell? ⟨w.heap.size, 4, none⟩ = some (.int .i64 x4) := HR.out.c 4 (by omega)
  refine bodyPost_ret (v := .agg #[.bool x0, .int .i64 x1, .int .i64 x2, .int .i64 x3, .int .i64 x4]) ?_ rfl ⟨rfl, HBB.out⟩
  simp [results, Tryz.results73, go_sem, o0, o1, o2, o3, o4]
theorem dplaces_any {w : World} {d g gi r h : Nat} {ev : Value} {t : Tb} {mv : Value} {most : Int} {v : Nat} (hC : Dc w d g gi r h ev t mv most v) :
    Calls Tryz.prog 53 #[.pointer (some ⟨d, 0, none⟩)] w fun e w' => e = .returned (.int .i64 (t.es.length : Int)) ∧ w' = w := by
  have C1 := kept_yes (hC.hd.c 0 (by omega))
  have C2 := tplaces_any (hC.dt.hd.c 2 (by omega)) hC.dt.es
  clear hC
  go_enter Tryz.func53, Tryz.ntmps53
  go_wp2_with fail
  refine C1.mono ?_
  rintro e w1 ⟨rfl, rfl⟩
  clear C1
  go_wp2_with fail
  refine C2.mono ?_
  rintro e w2 ⟨rfl, rfl⟩
  clear C2
  go_wp2
  go_ret
  exact ⟨rfl, rfl⟩
set_option maxRecDepth 100000 in
set_option maxHeartbeats 4000000 in
theorem dplace_any {w : World} {d g gi r h : Nat} {ev : Value} {t : Tb} {mv : Value} {most : Int} {v : Nat} (hC : Dc w d g gi r h ev t mv most v) (n : Nat) (hn : n < t.es.length) :
    Calls Tryz.prog 54 #[.pointer (some ⟨d, 0, none⟩), .int .i64 (n : Int)] w fun e w' => e = .returned (eV (nth t.es n)) ∧ Below w.heap.size w w' := by
  obtain ⟨w1, hw1⟩ : ∃ y, w.alloc (.cells #[.bool false, .int .i64 0, .int .i64 0, .int .i64 0, .int .i64 0] 48) = y := ⟨_, rfl⟩
  obtain ⟨hX1, hB1, hs1⟩ := en_new w hw1
  have hC1 := hC.below hB1
  have C1 := kept_yes (hC1.hd.c 0 (by omega))
  have C2 := tplace_any (hC1.dt.hd.c 2 (by omega)) hC1.dt.es n hn
  have HW := Lib.hid hw1
  have HX1 := Lib.hid hX1
  have HB1 := Lib.hid hB1
  clear hw1 hX1 hB1 hC hC1
  unfold eV at C2 ⊢
  generalize (nth t.es n).live = x0 at *
  generalize (nth t.es n).hash = x1 at *
  generalize (nth t.es n).key = x2 at *
  generalize (nth t.es n).value = x3 at *
  generalize (nth t.es n).birth = x4 at *
  go_enter Tryz.func54, Tryz.ntmps54
  go_wp2_with fail
  rw [HW.out]
  refine C1.mono ?_
  rintro e w2 ⟨rfl, rfl⟩
  clear C1
  go_wp2_with fail
  refine C2.mono ?_
  rintro e w3 ⟨rfl, hB3⟩
  clear C2
  have hX3 := HX1.out.of hB3 (by omega)
  have a0 := hX3.c 0 (by omega)
  have a1 := hX3.c 1 (by omega)
  have a2 := hX3.c 2 (by omega)
  have a3 := hX3.c 3 (by omega)
  have a4 := hX3.c 4 (by omega)
  have z0 := hX3.z 0
  have z1 := hX3.z 1
  have z2 := hX3.z 2
  have z3 := hX3.z 3
  have z4 := hX3.z 4
  have HR := Lib.hid (put5_blk hX3 (.bool x0) (.int .i64 x1) (.int .i64 x2) (.int .i64 x3) (.int .i64 x4))
  have HBB := Lib.hid ((HB1.out.trans (hB3.mono HB1.out.size)).trans (put5_below (B := w.heap.size) (w := w3) w.heap.size (Nat.le_refl _) (.bool x0) (.int .i64 x1) (.int .i64 x2) (.int .i64 x3) (.int .i64 x4)))
  unfold put5 at HR HBB
  clear hX3 hB3
  go_wp2_with fail
  generalize World.setCell (World.setCell (World.setCell (World.setCell (World.setCell w3 _ _) _ _) _ _) _ _) _ _ = w5 at *
  have o0 : w5.cell? ⟨w.heap.size, 0, none⟩ = some (.bool x0) := HR.out.c 0 (by omega)
  have o1 : w5.cell? ⟨w.heap.size, 1, none⟩ = some (.int .i64 x1) := HR.out.c 1 (by omega)
  have o2 : w5.cell? ⟨w.heap.size, 2, none⟩ = some (.int .i64 x2) := HR.out.c 2 (by omega)
  have o3 : w5.cell? ⟨w.heap.size, 3, none⟩ = some (.int .i64 x3) := HR.out.c 3 (by omega)
  have o4 : w5.cell? ⟨w.heap.size, 4, none⟩ = some (.int .i64 x4) := HR.out.c 4 (by omega)
  refine bodyPost_ret (v := .agg #[.bool x0, .int .i64 x1, .int .i64 x2, .int .i64 x3, .int .i64 x4]) ?_ rfl ⟨rfl, HBB.out⟩
  simp [results, Tryz.results54, go_sem, o0, o1, o2, o3, o4]
/-- bornSince's own function: was the entry born at b or later? -/
theorem born1_any {w : World} {d g gi r h : Nat} {ev : Value} {t : Tb} {mv : Value} {most : Int} {v : Nat} (hC : Dc w d g gi r h ev t mv most v) (b1 b2 : Nat) (b : Int) (k1 : w.cell? ⟨b1, 0, none⟩ = some (.pointer (some ⟨d, 0, none⟩))) (k2 : w.cell? ⟨b2, 0, none⟩ = some (.int .i64 b)) (n : Nat) (hn : n < t.es.length) :
    Calls Tryz.prog 56 #[.int .i64 (n : Int), .pointer (some ⟨b1, 0, none⟩), .pointer (some ⟨b2, 0, none⟩)] w fun e w' => e = .returned (.bool (decide (b ≤ (nth t.es n).birth))) ∧ Below w.heap.size w w' := by
  have hB0 : Below w.heap.size w w.drew := (Below.refl _ w).drew
  have C1 := dplace_any (hC.below hB0) n hn
  have hl1 := lt_of_cell k1
  have hl2 := lt_of_cell k2
  have d1 : w.drew.cell? ⟨b1, 0, none⟩ = some (.pointer (some ⟨d, 0, none⟩)) := k1
  have d2 : w.drew.cell? ⟨b2, 0, none⟩ = some (.int .i64 b) := k2
  clear hC
  unfold eV at C1
  generalize (nth t.es n).live = x0 at *
  generalize (nth t.es n).hash = x1 at *
  generalize (nth t.es n).key = x2 at *
  generalize (nth t.es n).value = x3 at *
  generalize (nth t.es n).birth = x4 at *
  have hfl : ∀ w, (Instr.field 48 (.agg #[.bool x0, .int .i64 x1, .int .i64 x2, .int .i64 x3, .int .i64 x4]) 4).run Tryz.prog w = .ok (.int .i64 x4) w := fun _ => by kernel_rfl
  go_enter Tryz.func56, Tryz.ntmps56
  go_wp2_with fail
  go_region_held3 (fun V => V.cell? ⟨b1, 0, none⟩ = some (.pointer (some ⟨d, 0, none⟩)) ∧ V.cell? ⟨b2, 0, none⟩ = some (.int .i64 b))
    (first | with_reducible exact ⟨d1, d2⟩ | with_reducible exact ⟨k1, k2⟩ | with_reducible exact ⟨q1, q2⟩ | fail)
    (first | (go_at_call 54; refine C1.mono ?_; rintro e w2 ⟨rfl, hB2⟩; have q1 := (hB2.cell (p := ⟨b1, 0, none⟩) hl1).trans d1; have q2 := (hB2.cell (p := ⟨b2, 0, none⟩) hl2).trans d2) | fail)
  go_wp2
  go_ret
  exact ⟨rfl, hB0.trans hB2⟩
set_option maxRecDepth 100000 in
set_option maxHeartbeats 4000000 in
/-- Search by halves, for a function that rises. -/
theorem search_any {w : World} {F : FuncId} {caps : Array Value} (n : Nat) (hn : n ≤ 100000) (p : Nat → Bool) (hp : ∀ i j, i ≤ j → j < n → p i = true → p j = true) (hcf : ∀ args w, (callFunc F args).run Tryz.prog w = .ok (.enter F args) w)
    (HC0 : ∀ W k, Below w.heap.size w W → k < n → Calls Tryz.prog F (#[.int .i64 (k : Int)] ++ caps) W fun e w' => e = .returned (.bool (p k)) ∧ Below W.heap.size W w') :
    Calls Tryz.prog 55 #[.int .i64 (n : Int), .func (.func F) #[] caps] w fun e w' => ∃ r : Nat, e = .returned (.int .i64 (r : Int)) ∧ r ≤ n ∧ (∀ k, k < r → p k = false) ∧ (∀ k, r ≤ k → k < n → p k = true) ∧ Below w.heap.size w w' := by
  have HC : Hid (∀ W k, Below w.heap.size w W → k < n → Calls Tryz.prog F (#[.int .i64 (k : Int)] ++ caps) W fun e w' => e = .returned (.bool (p k)) ∧ Below W.heap.size W w') := HC0
  have HP : Hid (∀ i j, i ≤ j → j < n → p i = true → p j = true) := hp
  clear HC0 hp
  go_enter Tryz.func55, Tryz.ntmps55
  go_wp2_with fail
  go_loopw [5, 6, 7] (fun iv jv _ wr => ∃ i j : Nat, i ≤ j ∧ j ≤ n ∧ iv = .int .i64 (i : Int) ∧ jv = .int .i64 (j : Int) ∧ (∀ k, k < i → p k = false) ∧ (∀ k, j ≤ k → k < n → p k = true) ∧ Below w.heap.size w wr) (fun iv jv _ _ => (intOf jv - intOf iv).toNat)
  case atStart => exact ⟨0, n, Nat.zero_le _, Nat.le_refl _, rfl, rfl, fun k hk => absurd hk (Nat.not_lt_zero _), fun k h1 h2 => by omega, Below.refl _ _⟩
  case round =>
    obtain ⟨i, j, hij, hj, rfl, rfl, hlo, hhi, hB⟩ := hrel
    have HLO : Hid (∀ k, k < i → p k = false) := hlo
    have HHI : Hid (∀ k, j ≤ k → k < n → p k = true) := hhi
    clear hlo hhi
    by_cases hlt : i < j
    · have t1 : (i : Int) < (j : Int) := by omega
      obtain ⟨m, hm⟩ : ∃ m, (i + j) / 2 = m := ⟨_, rfl⟩
      have e1 : IntKind.i64.wrap ((i : Int) + (j : Int)) = ((i + j : Nat) : Int) := by rw [i64_small (by omega) (by omega)]; omega
      have e2 : IntKind.u64.wrap ((i + j : Nat) : Int) = ((i + j : Nat) : Int) := Tr.u64_small (by omega) (by omega)
      have e3 : ((i + j : Nat) : Int) / 2 = (m : Int) := by omega
      have e4 : IntKind.i64.wrap (m : Int) = (m : Int) := i64_small (by omega) (by omega)
      have hmi : i ≤ m := by omega
      have hmj : m < j := by omega
      have CM := HC.out wr m hB (by omega)
      clear hm
      generalize ((i + j : Nat) : Int) = sm at *
      cases hpm : p m with
      | false =>
        rw [hpm] at CM
        go_wp2_with fail
        refine CM.mono ?_
        rintro e w2 ⟨rfl, hB2⟩
        have e5 : IntKind.i64.wrap ((m : Int) + 1) = ((m + 1 : Nat) : Int) := by rw [i64_small (by omega) (by omega)]; omega
        go_wp2_with fail
        go_roundw
        case rel =>
          have hA : ∀ k, k < m + 1 → p k = false := fun k hk => by
            cases hpk : p k with
            | false => rfl
            | true =>
              have := HP.out k m (by omega) (by omega) hpk
              rw [hpm] at this
              cases this
          refine ⟨m + 1, j, by omega, hj, ?_⟩
          first
            | exact ⟨rfl, rfl, hA, HHI.out, hB.trans (hB2.mono hB.size)⟩
            | exact ⟨rfl, hA, HHI.out, hB.trans (hB2.mono hB.size)⟩
            | exact ⟨hA, HHI.out, hB.trans (hB2.mono hB.size)⟩
        case measure => simp [intOf]; omega
      | true =>
        rw [hpm] at CM
        go_wp2_with fail
        refine CM.mono ?_
        rintro e w2 ⟨rfl, hB2⟩
        go_wp2_with fail
        go_roundw
        case rel =>
          have hA : ∀ k, m ≤ k → k < n → p k = true := fun k h1 h2 => HP.out m k h1 h2 hpm
          refine ⟨i, m, hmi, by omega, ?_⟩
          first
            | exact ⟨rfl, rfl, HLO.out, hA, hB.trans (hB2.mono hB.size)⟩
            | exact ⟨rfl, HLO.out, hA, hB.trans (hB2.mono hB.size)⟩
            | exact ⟨HLO.out, hA, hB.trans (hB2.mono hB.size)⟩
        case measure => simp [intOf]; omega
    · obtain rfl : i = j := by omega
      have t1 : ¬ (i : Int) < (i : Int) := by omega
      go_wp2
      go_ret
      exact ⟨i, rfl, hj, HLO.out, HHI.out, hB⟩
end Go.Proofs.YtejfmajbggmghaaGreat
namespace Go.Proofs.YtejfmajbggmghaaGreat
open Go.RowKit Go.WideShapes

set_option maxRecDepth 100000 in
set_option maxHeartbeats 4000000 in
theorem bornSince_any {w : World} {d g gi r h : Nat} {ev : Value} {t : Tb} {mv : Value} {most : Int} {v : Nat} (hC : Dc w d g gi r h ev t mv most v) (hb : t.Born) (b : Int) :
    Calls Tryz.prog 25 #[.pointer (some ⟨d, 0, none⟩), .int .i64 b] w fun e w' => ∃ q : Nat, e = .returned (.int .i64 (q : Int)) ∧ Bef t.es b q ∧ Below w.heap.size w w' := by
  have hlen : t.es.length ≤ 100000 := Nat.le_trans hC.ok.few hC.ok.all
  obtain ⟨w1, hw1⟩ : ∃ y, (w.alloc (.cells #[.pointer (some ⟨d, 0, none⟩)] 24)).alloc (.cells #[.int .i64 b] 3) = y := ⟨_, rfl⟩
  have hB1 : Below w.heap.size w w1 := by rw [← hw1]; exact ((Below.refl _ w).alloc (Nat.le_refl _) _).alloc (by simp) _
  have q1 : w1.cell? ⟨w.heap.size, 0, none⟩ = some (.pointer (some ⟨d, 0, none⟩)) := by rw [← hw1, cell_alloc_old _ _ _ _ (by simp)]; exact cell_alloc_new _ _ _ _ rfl
  have q2 : w1.cell? ⟨w.heap.size + 1, 0, none⟩ = some (.int .i64 b) := by rw [← hw1]; exact cell_alloc_new _ _ _ _ (by simp)
  have hC1 := hC.below hB1
  have C1 := dplaces_any hC1
  have l1 := lt_of_cell q1
  have l2 := lt_of_cell q2
  have C2 := search_any (w := w1) (F := 56) (caps := #[.pointer (some ⟨w.heap.size, 0, none⟩), .pointer (some ⟨w.heap.size + 1, 0, none⟩)]) t.es.length hlen (fun k => decide (b ≤ (nth t.es k).birth))
    (fun i j hij hj hi => by
      have hi' : b ≤ (nth t.es i).birth := by simpa using hi
      rcases Nat.lt_or_ge i j with x | x
      · have := hb.lt x hj
        simp
        omega
      · rw [show j = i by omega]
        simpa using hi') Tryz.call56
    (fun W k hW hk => by
      have := born1_any (hC1.below hW) w.heap.size (w.heap.size + 1) b ((hW.cell (p := ⟨w.heap.size, 0, none⟩) l1).trans q1) ((hW.cell (p := ⟨w.heap.size + 1, 0, none⟩) l2).trans q2) k hk
      simpa using this)
  have HW := Lib.hid hw1
  have HB1 := Lib.hid hB1
  clear hw1 hB1 hC hC1
  go_enter Tryz.func25, Tryz.ntmps25
  go_upto_region 1 with fail
  rw [HW.out]
  go_wp2_with fail
  refine C1.mono ?_
  rintro e w2 ⟨rfl, rfl⟩
  clear C1
  go_wp2_with fail
  refine C2.mono ?_
  rintro e w3 ⟨q, rfl, h1, h2, h3, hB3⟩
  clear C2
  have HQ : Hid (Bef t.es b q) := ⟨h1, fun k hk => by have := h2 k hk; simp at this; exact this, fun k hk hk2 => by have := h3 k hk hk2; simpa using this⟩
  clear h2 h3
  go_wp2
  go_ret
  exact ⟨q, rfl, HQ.out, HB1.out.trans (hB3.mono HB1.out.size)⟩
/-- An entry's box, at the end of a walk through it. -/
def eZ (j : Nat) : Value := #[Value.bool false, .int .i64 0, .int .i64 0, .int .i64 0, .int .i64 0].getD j .nilFunc
def eB (e : En) (j : Nat) : Value := [Value.bool e.live, .int .i64 e.hash, .int .i64 e.key, .int .i64 e.value, .int .i64 e.birth].getD j .nilFunc
/-- What liveFrom tells, from s on. -/
def LfR (es : List En) (s : Nat) (e : Ending) : Prop :=
  (∃ n, s ≤ n ∧ n < es.length ∧ (nth es n).live = true ∧ (∀ k, s ≤ k → k < n → (nth es k).live = false) ∧ e = .returned (.tuple #[eV (nth es n), .bool true])) ∨
  ((∀ k, s ≤ k → k < es.length → (nth es k).live = false) ∧ e = .returned (.tuple #[eV En.zero, .bool false]))
/-- What it tells from s - 1 on backwards. -/
def LbR (es : List En) (s : Nat) (e : Ending) : Prop :=
  (∃ n, n < s ∧ (nth es n).live = true ∧ (∀ k, n < k → k < s → (nth es k).live = false) ∧ e = .returned (.tuple #[eV (nth es n), .bool true])) ∨
  ((∀ k, k < s → (nth es k).live = false) ∧ e = .returned (.tuple #[eV En.zero, .bool false]))
set_option maxRecDepth 100000 in
set_option maxHeartbeats 4000000 in
theorem liveFrom_on {w : World} {d g gi r h : Nat} {ev : Value} {t : Tb} {mv : Value} {most : Int} {v : Nat} (hC : Dc w d g gi r h ev t mv most v) (s : Nat) (hs : s ≤ t.es.length) :
    Calls Tryz.prog 24 #[.pointer (some ⟨d, 0, none⟩), .int .i64 (s : Int), .int .i64 1] w fun e w' => LfR t.es s e ∧ Below w.heap.size w w' := by
  have hlen : t.es.length ≤ 100000 := Nat.le_trans hC.ok.few hC.ok.all
  obtain ⟨w1, hw1⟩ : ∃ y, w.alloc (.cells #[.bool false, .int .i64 0, .int .i64 0, .int .i64 0, .int .i64 0] 48) = y := ⟨_, rfl⟩
  obtain ⟨hX1, hB1, hs1⟩ := en_new w hw1
  have CP : Hid (∀ V, Below w.heap.size w V → Calls Tryz.prog 53 #[.pointer (some ⟨d, 0, none⟩)] V fun e w' => e = .returned (.int .i64 (t.es.length : Int)) ∧ w' = V) := fun V hV => dplaces_any (hC.below hV)
  have CA : Hid (∀ V n, Below w.heap.size w V → n < t.es.length → Calls Tryz.prog 54 #[.pointer (some ⟨d, 0, none⟩), .int .i64 (n : Int)] V fun e w' => e = .returned (eV (nth t.es n)) ∧ Below V.heap.size V w') := fun V n hV hn => dplace_any (hC.below hV) n hn
  have HW := Lib.hid hw1
  have HX1 : Hid (Blk w1 w.heap.size 5 eZ) := hX1
  have HB1 := Lib.hid hB1
  clear hw1 hX1 hB1 hC
  go_enter Tryz.func24, Tryz.ntmps24
  go_upto_region 1 with fail
  rw [HW.out]
  go_loopw [1, 8] (fun iv _ wr => ∃ k : Nat, s ≤ k ∧ k ≤ t.es.length ∧ iv = .int .i64 (k : Int) ∧ Hid (∀ q, s ≤ q → q < k → (nth t.es q).live = false) ∧ Below w.heap.size w wr ∧ Hid (Blk wr w.heap.size 5 eZ)) (fun iv _ _ => t.es.length - (intOf iv).toNat)
  case atStart => exact ⟨s, Nat.le_refl _, hs, rfl, (fun q h1 h2 => by omega), HB1.out, HX1⟩
  case round =>
    obtain ⟨k, hsk, hk, rfl, HD, hB, HX⟩ := hrel
    have C1 := CP.out wr hB
    have t0 : (0 : Int) ≤ (k : Int) := by omega
    by_cases hlt : k < t.es.length
    · have t1 : (k : Int) < (t.es.length : Int) := by omega
      have C2 := CA.out wr k hB hlt
      have e1 : IntKind.i64.wrap ((k : Int) + 1) = ((k + 1 : Nat) : Int) := by rw [i64_small (by omega) (by omega)]; omega
      obtain ⟨en, hen⟩ : ∃ en, nth t.es k = en := ⟨_, rfl⟩
      rw [hen] at C2
      have HEN := Lib.hid hen
      clear hen
      obtain ⟨x0, x1, x2, x3, x4⟩ := en
      unfold eV at C2
      simp only at C2
      go_wp2_with fail
      refine C1.mono ?_
      rintro e w2 ⟨rfl, rfl⟩
      clear C1
      go_wp2_with fail
      refine C2.mono ?_
      rintro e w3 ⟨rfl, hB3⟩
      clear C2
      obtain ⟨w4, hw4⟩ : ∃ y, w3.alloc (.cells #[.bool x0, .int .i64 x1, .int .i64 x2, .int .i64 x3, .int .i64 x4] 48) = y := ⟨_, rfl⟩
      have hB4 : Below w3.heap.size w3 w4 := by rw [← hw4]; exact (Below.refl _ w3).alloc (Nat.le_refl _) _
      have hX4 : Blk w4 w3.heap.size 5 (fun j => #[Value.bool x0, .int .i64 x1, .int .i64 x2, .int .i64 x3, .int .i64 x4].getD j .nilFunc) := by rw [← hw4]; exact Blk.new w3 _ _
      have hB34 := hB3.trans (hB4.mono hB3.size)
      have hBB := hB.trans (hB34.mono hB.size)
      have hXX := HX.out.of hB34 (by omega)
      have HW4 := Lib.hid hw4
      have p0 : w4.cell? ⟨w3.heap.size, 0, none⟩ = some (.bool x0) := hX4.c 0 (by omega)
      have p1 : w4.cell? ⟨w3.heap.size, 1, none⟩ = some (.int .i64 x1) := hX4.c 1 (by omega)
      have p2 : w4.cell? ⟨w3.heap.size, 2, none⟩ = some (.int .i64 x2) := hX4.c 2 (by omega)
      have p3 : w4.cell? ⟨w3.heap.size, 3, none⟩ = some (.int .i64 x3) := hX4.c 3 (by omega)
      have p4 : w4.cell? ⟨w3.heap.size, 4, none⟩ = some (.int .i64 x4) := hX4.c 4 (by omega)
      clear hw4 hX4 hB4
      cases x0 with
      | false =>
        have HN : Hid (∀ q, s ≤ q → q < k + 1 → (nth t.es q).live = false) := fun q h1 h2 => by
          rcases Nat.lt_or_ge q k with x | x
          · exact HD.out q h1 x
          · rw [show q = k by omega, HEN.out]
        go_upto_region 4 with fail
        rw [HW4.out]
        go_wp2_with fail
        go_roundw
        case rel => exact ⟨k + 1, by omega, by omega, rfl, HN, hBB, hXX⟩
        case measure => simp [intOf]; omega
      | true =>
        have HR := Lib.hid (put5_blk hXX (.bool true) (.int .i64 x1) (.int .i64 x2) (.int .i64 x3) (.int .i64 x4))
        have HBB := Lib.hid (hBB.trans (put5_below (B := w.heap.size) (w := w4) w.heap.size (Nat.le_refl _) (.bool true) (.int .i64 x1) (.int .i64 x2) (.int .i64 x3) (.int .i64 x4)))
        have a0 := hXX.c 0 (by omega)
        have a1 := hXX.c 1 (by omega)
        have a2 := hXX.c 2 (by omega)
        have a3 := hXX.c 3 (by omega)
        have a4 := hXX.c 4 (by omega)
        have z0 := hXX.z 0
        have z1 := hXX.z 1
        have z2 := hXX.z 2
        have z3 := hXX.z 3
        have z4 := hXX.z 4
        unfold put5 at HR HBB
        have HF : Hid (LfR t.es s (.returned (.tuple #[.agg #[.bool true, .int .i64 x1, .int .i64 x2, .int .i64 x3, .int .i64 x4], .bool true]))) := .inl ⟨k, hsk, hlt, by rw [HEN.out], HD.out, by rw [HEN.out]; rfl⟩
        clear hXX hBB
        go_upto_region 4 with fail
        rw [HW4.out]
        go_wp2_with fail
        generalize World.setCell (World.setCell (World.setCell (World.setCell (World.setCell w4 _ _) _ _) _ _) _ _) _ _ = w5 at *
        have o0 : w5.cell? ⟨w.heap.size, 0, none⟩ = some (.bool true) := HR.out.c 0 (by omega)
        have o1 : w5.cell? ⟨w.heap.size, 1, none⟩ = some (.int .i64 x1) := HR.out.c 1 (by omega)
        have o2 : w5.cell? ⟨w.heap.size, 2, none⟩ = some (.int .i64 x2) := HR.out.c 2 (by omega)
        have o3 : w5.cell? ⟨w.heap.size, 3, none⟩ = some (.int .i64 x3) := HR.out.c 3 (by omega)
        have o4 : w5.cell? ⟨w.heap.size, 4, none⟩ = some (.int .i64 x4) := HR.out.c 4 (by omega)
        refine bodyPost_ret (v := .tuple #[.agg #[.bool true, .int .i64 x1, .int .i64 x2, .int .i64 x3, .int .i64 x4], .bool true]) ?_ rfl ⟨HF.out, HBB.out⟩
        simp [results, Tryz.results24, go_sem, o0, o1, o2, o3, o4]
    · obtain rfl : k = t.es.length := by omega
      have t1 : ¬ (t.es.length : Int) < (t.es.length : Int) := by omega
      have hXX := HX.out
      have HR := Lib.hid (put5_blk hXX (.bool false) (.int .i64 0) (.int .i64 0) (.int .i64 0) (.int .i64 0))
      have HBB := Lib.hid (hB.trans (put5_below (B := w.heap.size) (w := wr) w.heap.size (Nat.le_refl _) (.bool false) (.int .i64 0) (.int .i64 0) (.int .i64 0) (.int .i64 0)))
      have a0 := hXX.c 0 (by omega)
      have a1 := hXX.c 1 (by omega)
      have a2 := hXX.c 2 (by omega)
      have a3 := hXX.c 3 (by omega)
      have a4 := hXX.c 4 (by omega)
      have z0 := hXX.z 0
      have z1 := hXX.z 1
      have z2 := hXX.z 2
      have z3 := hXX.z 3
      have z4 := hXX.z 4
      unfold put5 at HR HBB
      have HF : Hid (LfR t.es s (.returned (.tuple #[.agg #[.bool false, .int .i64 0, .int .i64 0, .int .i64 0, .int .i64 0], .bool false]))) := .inr ⟨HD.out, rfl⟩
      clear hXX HX
      go_wp2_with fail
      refine C1.mono ?_
      rintro e w2 ⟨rfl, rfl⟩
      clear C1
      go_wp2_with fail
      generalize World.setCell (World.setCell (World.setCell (World.setCell (World.setCell w2 _ _) _ _) _ _) _ _) _ _ = w5 at *
      have o0 : w5.cell? ⟨w.heap.size, 0, none⟩ = some (.bool false) := HR.out.c 0 (by omega)
      have o1 : w5.cell? ⟨w.heap.size, 1, none⟩ = some (.int .i64 0) := HR.out.c 1 (by omega)
      have o2 : w5.cell? ⟨w.heap.size, 2, none⟩ = some (.int .i64 0) := HR.out.c 2 (by omega)
      have o3 : w5.cell? ⟨w.heap.size, 3, none⟩ = some (.int .i64 0) := HR.out.c 3 (by omega)
      have o4 : w5.cell? ⟨w.heap.size, 4, none⟩ = some (.int .i64 0) := HR.out.c 4 (by omega)
      refine bodyPost_ret (v := .tuple #[.agg #[.bool false, .int .i64 0, .int .i64 0, .int .i64 0, .int .i64 0], .bool false]) ?_ rfl ⟨HF.out, HBB.out⟩
      simp [results, Tryz.results24, go_sem, o0, o1, o2, o3, o4]
end Go.Proofs.YtejfmajbggmghaaGreat
namespace Go.Proofs.YtejfmajbggmghaaGreat
open Go.RowKit Go.WideShapes

/-- The function that a walk keeps. -/
def fdF (back : Bool) : FuncId := if back = true then 23 else 26
def srF (d : Nat) (back : Bool) (size told : Int) (b : Nat) : Nat → Value
  | 0 => .pointer (some ⟨d, 0, none⟩)
  | 1 => .bool false
  | 2 => .int .i64 size
  | 3 => .int .i64 told
  | _ => .func (.func (fdF back)) #[] #[.pointer (some ⟨b, 0, none⟩)]
/-- A walk that has broken, or ended. -/
def soF (br : Bool) : Nat → Value
  | 0 => .pointer none
  | 1 => .bool br
  | 2 => .int .i64 0
  | 3 => .int .i64 0
  | _ => .nilFunc
structure Sr (w : World) (s d : Nat) (back : Bool) (size told : Int) (b : Nat) : Prop where
  hd : Blk w s 5 (srF d back size told b)
  bx : w.cell? ⟨b, 0, none⟩ = some (.pointer (some ⟨d, 0, none⟩))
  ne : s ≠ b
theorem Sr.same {w w' : World} {s d : Nat} {back : Bool} {size told : Int} {b : Nat} (x : Sr w s d back size told b) (h1 : w'.heap[s]? = w.heap[s]?) (h2 : w'.heap[b]? = w.heap[b]?) : Sr w' s d back size told b :=
  ⟨x.hd.same h1, (World.cell?_of_block (a := ⟨b, 0, none⟩) h2).trans x.bx, x.ne⟩
theorem Sr.lt {w : World} {s d : Nat} {back : Bool} {size told : Int} {b : Nat} (x : Sr w s d back size told b) : s < w.heap.size ∧ b < w.heap.size := ⟨x.hd.lt (by omega), lt_of_cell x.bx⟩
theorem Sr.below {w w' : World} {s d : Nat} {back : Bool} {size told : Int} {b : Nat} (x : Sr w s d back size told b) (hb : Below w.heap.size w w') : Sr w' s d back size told b := x.same (hb.block _ x.lt.1) (hb.block _ x.lt.2)
theorem eqSr (s : Nat) (w : World) : (binOp .eql 42 (.pointer (some ⟨s, 0, none⟩)) (.pointer none)).run Tryz.prog w = .ok (.bool false) w := by kernel_rfl
theorem eqSn (w : World) : (binOp .eql 42 (.pointer none) (.pointer none)).run Tryz.prog w = .ok (.bool true) w := by kernel_rfl
theorem srEnded_no {w : World} {s d : Nat} (k0 : w.cell? ⟨s, 0, none⟩ = some (.pointer (some ⟨d, 0, none⟩))) :
    Calls Tryz.prog 29 #[.pointer (some ⟨s, 0, none⟩)] w fun e w' => e = .returned (.bool false) ∧ w' = w := by
  have h1 := eqSr s
  have h2 := eqD d
  go_enter Tryz.func29, Tryz.ntmps29
  go_wp2
  go_ret
  exact ⟨rfl, rfl⟩
theorem srEnded_over {w : World} {s : Nat} {br : Bool} (k0 : w.cell? ⟨s, 0, none⟩ = some (.pointer none)) (k1 : w.cell? ⟨s, 1, none⟩ = some (.bool br)) :
    Calls Tryz.prog 29 #[.pointer (some ⟨s, 0, none⟩)] w fun e w' => e = .returned (.bool (!br)) ∧ w' = w := by
  have h1 := eqSr s
  have h2 := eqDn
  go_enter Tryz.func29, Tryz.ntmps29
  go_wp2
  go_ret
  exact ⟨rfl, rfl⟩
theorem srEnded_nil (w : World) :
    Calls Tryz.prog 29 #[.pointer none] w fun e w' => e = .returned (.bool true) ∧ w' = w := by
  have h1 := eqSn
  go_enter Tryz.func29, Tryz.ntmps29
  go_wp2
  go_ret
  exact ⟨rfl, rfl⟩
/-- A walk that has ended tells that again; so does none. -/
theorem next_nil_of {w : World} {sv : Value} (C0 : ∀ V, Below w.heap.size w V → Calls Tryz.prog 29 #[sv] V fun e w' => e = .returned (.bool true) ∧ w' = V) :
    Calls Tryz.prog 11 #[sv] w fun e w' => e = .returned (.tuple #[eV En.zero, .int .i64 10]) ∧ Below w.heap.size w w' := by
  obtain ⟨w1, hw1⟩ : ∃ y, w.alloc (.cells #[.bool false, .int .i64 0, .int .i64 0, .int .i64 0, .int .i64 0] 48) = y := ⟨_, rfl⟩
  obtain ⟨hX1, hB1, hs1⟩ := en_new w hw1
  have C1 := C0 w1 hB1
  have a0 := hX1.c 0 (by omega)
  have a1 := hX1.c 1 (by omega)
  have a2 := hX1.c 2 (by omega)
  have a3 := hX1.c 3 (by omega)
  have a4 := hX1.c 4 (by omega)
  have z0 := hX1.z 0
  have z1 := hX1.z 1
  have z2 := hX1.z 2
  have z3 := hX1.z 3
  have z4 := hX1.z 4
  have HR := Lib.hid (put5_blk hX1 (.bool false) (.int .i64 0) (.int .i64 0) (.int .i64 0) (.int .i64 0))
  have HBB := Lib.hid (hB1.trans (put5_below (B := w.heap.size) (w := w1) w.heap.size (Nat.le_refl _) (.bool false) (.int .i64 0) (.int .i64 0) (.int .i64 0) (.int .i64 0)))
  unfold put5 at HR HBB
  have HW := Lib.hid hw1
  clear hw1 hX1 hB1 C0
  go_enter Tryz.func11, Tryz.ntmps11
  go_upto_region 1 with fail
  rw [HW.out]
  go_wp2_with fail
  refine C1.mono ?_
  rintro e w2 ⟨rfl, rfl⟩
  clear C1
  go_wp2_with fail
  generalize World.setCell (World.setCell (World.setCell (World.setCell (World.setCell w2 _ _) _ _) _ _) _ _) _ _ = w5 at *
  have o0 : w5.cell? ⟨w.heap.size, 0, none⟩ = some (.bool false) := HR.out.c 0 (by omega)
  have o1 : w5.cell? ⟨w.heap.size, 1, none⟩ = some (.int .i64 0) := HR.out.c 1 (by omega)
  have o2 : w5.cell? ⟨w.heap.size, 2, none⟩ = some (.int .i64 0) := HR.out.c 2 (by omega)
  have o3 : w5.cell? ⟨w.heap.size, 3, none⟩ = some (.int .i64 0) := HR.out.c 3 (by omega)
  have o4 : w5.cell? ⟨w.heap.size, 4, none⟩ = some (.int .i64 0) := HR.out.c 4 (by omega)
  refine bodyPost_ret (v := .tuple #[.agg #[.bool false, .int .i64 0, .int .i64 0, .int .i64 0, .int .i64 0], .int .i64 10]) ?_ rfl ⟨rfl, HBB.out⟩
  simp [results, Tryz.results11, go_sem, o0, o1, o2, o3, o4]
theorem next_nil (w : World) : Calls Tryz.prog 11 #[.pointer none] w fun e w' => e = .returned (.tuple #[eV En.zero, .int .i64 10]) ∧ Below w.heap.size w w' := next_nil_of fun V _ => srEnded_nil V
theorem next_over {w : World} {s : Nat} (hS : Blk w s 5 (soF false)) : Calls Tryz.prog 11 #[.pointer (some ⟨s, 0, none⟩)] w fun e w' => e = .returned (.tuple #[eV En.zero, .int .i64 10]) ∧ Below w.heap.size w w' :=
  next_nil_of fun V hV => by
    have hx := hS.of hV (by omega)
    exact srEnded_over (br := false) (hx.c 0 (by omega)) (hx.c 1 (by omega))
end Go.Proofs.YtejfmajbggmghaaGreat
namespace Go.Proofs.YtejfmajbggmghaaGreat
open Go.RowKit Go.WideShapes

set_option maxRecDepth 100000 in
set_option maxHeartbeats 4000000 in
theorem liveFrom_back {w : World} {d g gi r h : Nat} {ev : Value} {t : Tb} {mv : Value} {most : Int} {v : Nat} (hC : Dc w d g gi r h ev t mv most v) (s : Nat) (hs : s ≤ t.es.length) :
    Calls Tryz.prog 24 #[.pointer (some ⟨d, 0, none⟩), .int .i64 ((s : Int) - 1), .int .i64 (-1)] w fun e w' => LbR t.es s e ∧ Below w.heap.size w w' := by
  have hlen : t.es.length ≤ 100000 := Nat.le_trans hC.ok.few hC.ok.all
  obtain ⟨w1, hw1⟩ : ∃ y, w.alloc (.cells #[.bool false, .int .i64 0, .int .i64 0, .int .i64 0, .int .i64 0] 48) = y := ⟨_, rfl⟩
  obtain ⟨hX1, hB1, hs1⟩ := en_new w hw1
  have CP : Hid (∀ V, Below w.heap.size w V → Calls Tryz.prog 53 #[.pointer (some ⟨d, 0, none⟩)] V fun e w' => e = .returned (.int .i64 (t.es.length : Int)) ∧ w' = V) := fun V hV => dplaces_any (hC.below hV)
  have CA : Hid (∀ V n, Below w.heap.size w V → n < t.es.length → Calls Tryz.prog 54 #[.pointer (some ⟨d, 0, none⟩), .int .i64 (n : Int)] V fun e w' => e = .returned (eV (nth t.es n)) ∧ Below V.heap.size V w') := fun V n hV hn => dplace_any (hC.below hV) n hn
  have HW := Lib.hid hw1
  have HX1 : Hid (Blk w1 w.heap.size 5 eZ) := hX1
  have HB1 := Lib.hid hB1
  clear hw1 hX1 hB1 hC
  go_enter Tryz.func24, Tryz.ntmps24
  go_upto_region 1 with fail
  rw [HW.out]
  go_loopw [1, 8] (fun iv _ wr => ∃ k : Nat, k ≤ s ∧ iv = .int .i64 ((k : Int) - 1) ∧ Hid (∀ q, k ≤ q → q < s → (nth t.es q).live = false) ∧ Below w.heap.size w wr ∧ Hid (Blk wr w.heap.size 5 eZ)) (fun iv _ _ => (intOf iv + 1).toNat)
  case atStart => exact ⟨s, Nat.le_refl _, rfl, (fun q h1 h2 => by omega), HB1.out, HX1⟩
  case round =>
    obtain ⟨k', hsk', rfl, HD, hB, HX⟩ := hrel
    have C1 := CP.out wr hB
    by_cases hk0 : k' ≠ 0
    · obtain ⟨k, rfl⟩ : ∃ k, k' = k + 1 := ⟨k' - 1, by omega⟩
      have ek : (((k + 1 : Nat) : Int) - 1) = (k : Int) := by omega
      rw [ek]
      clear ek hk0
      have hsk : k < s := by omega
      have hlt : k < t.es.length := by omega
      have t0 : (0 : Int) ≤ (k : Int) := by omega
      have t1 : (k : Int) < (t.es.length : Int) := by omega
      have C2 := CA.out wr k hB hlt
      have e1 : IntKind.i64.wrap ((k : Int) + -1) = (k : Int) - 1 := by rw [i64_small (by omega) (by omega)]; omega
      obtain ⟨en, hen⟩ : ∃ en, nth t.es k = en := ⟨_, rfl⟩
      rw [hen] at C2
      have HEN := Lib.hid hen
      clear hen
      obtain ⟨x0, x1, x2, x3, x4⟩ := en
      unfold eV at C2
      simp only at C2
      go_wp2_with fail
      refine C1.mono ?_
      rintro e w2 ⟨rfl, rfl⟩
      clear C1
      go_wp2_with fail
      refine C2.mono ?_
      rintro e w3 ⟨rfl, hB3⟩
      clear C2
      obtain ⟨w4, hw4⟩ : ∃ y, w3.alloc (.cells #[.bool x0, .int .i64 x1, .int .i64 x2, .int .i64 x3, .int .i64 x4] 48) = y := ⟨_, rfl⟩
      have hB4 : Below w3.heap.size w3 w4 := by rw [← hw4]; exact (Below.refl _ w3).alloc (Nat.le_refl _) _
      have hX4 : Blk w4 w3.heap.size 5 (fun j => #[Value.bool x0, .int .i64 x1, .int .i64 x2, .int .i64 x3, .int .i64 x4].getD j .nilFunc) := by rw [← hw4]; exact Blk.new w3 _ _
      have hB34 := hB3.trans (hB4.mono hB3.size)
      have hBB := hB.trans (hB34.mono hB.size)
      have hXX := HX.out.of hB34 (by omega)
      have HW4 := Lib.hid hw4
      have p0 : w4.cell? ⟨w3.heap.size, 0, none⟩ = some (.bool x0) := hX4.c 0 (by omega)
      have p1 : w4.cell? ⟨w3.heap.size, 1, none⟩ = some (.int .i64 x1) := hX4.c 1 (by omega)
      have p2 : w4.cell? ⟨w3.heap.size, 2, none⟩ = some (.int .i64 x2) := hX4.c 2 (by omega)
      have p3 : w4.cell? ⟨w3.heap.size, 3, none⟩ = some (.int .i64 x3) := hX4.c 3 (by omega)
      have p4 : w4.cell? ⟨w3.heap.size, 4, none⟩ = some (.int .i64 x4) := hX4.c 4 (by omega)
      clear hw4 hX4 hB4
      cases x0 with
      | false =>
        have HN : Hid (∀ q, k ≤ q → q < s → (nth t.es q).live = false) := fun q h1 h2 => by
          rcases Nat.lt_or_ge k q with x | x
          · exact HD.out q x h2
          · rw [show q = k by omega, HEN.out]
        go_upto_region 4 with fail
        rw [HW4.out]
        go_wp2_with fail
        go_roundw
        case rel => exact ⟨k, by omega, rfl, HN, hBB, hXX⟩
        case measure => first | (simp [intOf]; done) | (simp [intOf]; omega)
      | true =>
        have HR := Lib.hid (put5_blk hXX (.bool true) (.int .i64 x1) (.int .i64 x2) (.int .i64 x3) (.int .i64 x4))
        have HBB := Lib.hid (hBB.trans (put5_below (B := w.heap.size) (w := w4) w.heap.size (Nat.le_refl _) (.bool true) (.int .i64 x1) (.int .i64 x2) (.int .i64 x3) (.int .i64 x4)))
        have a0 := hXX.c 0 (by omega)
        have a1 := hXX.c 1 (by omega)
        have a2 := hXX.c 2 (by omega)
        have a3 := hXX.c 3 (by omega)
        have a4 := hXX.c 4 (by omega)
        have z0 := hXX.z 0
        have z1 := hXX.z 1
        have z2 := hXX.z 2
        have z3 := hXX.z 3
        have z4 := hXX.z 4
        unfold put5 at HR HBB
        have HF : Hid (LbR t.es s (.returned (.tuple #[.agg #[.bool true, .int .i64 x1, .int .i64 x2, .int .i64 x3, .int .i64 x4], .bool true]))) := .inl ⟨k, hsk, by rw [HEN.out], (fun q h1 h2 => HD.out q h1 h2), by rw [HEN.out]; rfl⟩
        clear hXX hBB
        go_upto_region 4 with fail
        rw [HW4.out]
        go_wp2_with fail
        generalize World.setCell (World.setCell (World.setCell (World.setCell (World.setCell w4 _ _) _ _) _ _) _ _) _ _ = w5 at *
        have o0 : w5.cell? ⟨w.heap.size, 0, none⟩ = some (.bool true) := HR.out.c 0 (by omega)
        have o1 : w5.cell? ⟨w.heap.size, 1, none⟩ = some (.int .i64 x1) := HR.out.c 1 (by omega)
        have o2 : w5.cell? ⟨w.heap.size, 2, none⟩ = some (.int .i64 x2) := HR.out.c 2 (by omega)
        have o3 : w5.cell? ⟨w.heap.size, 3, none⟩ = some (.int .i64 x3) := HR.out.c 3 (by omega)
        have o4 : w5.cell? ⟨w.heap.size, 4, none⟩ = some (.int .i64 x4) := HR.out.c 4 (by omega)
        refine bodyPost_ret (v := .tuple #[.agg #[.bool true, .int .i64 x1, .int .i64 x2, .int .i64 x3, .int .i64 x4], .bool true]) ?_ rfl ⟨HF.out, HBB.out⟩
        simp [results, Tryz.results24, go_sem, o0, o1, o2, o3, o4]
    · obtain rfl : k' = 0 := by omega
      have ek : (((0 : Nat) : Int) - 1) = -1 := by omega
      rw [ek]
      have hXX := HX.out
      have HR := Lib.hid (put5_blk hXX (.bool false) (.int .i64 0) (.int .i64 0) (.int .i64 0) (.int .i64 0))
      have HBB := Lib.hid (hB.trans (put5_below (B := w.heap.size) (w := wr) w.heap.size (Nat.le_refl _) (.bool false) (.int .i64 0) (.int .i64 0) (.int .i64 0) (.int .i64 0)))
      have a0 := hXX.c 0 (by omega)
      have a1 := hXX.c 1 (by omega)
      have a2 := hXX.c 2 (by omega)
      have a3 := hXX.c 3 (by omega)
      have a4 := hXX.c 4 (by omega)
      have z0 := hXX.z 0
      have z1 := hXX.z 1
      have z2 := hXX.z 2
      have z3 := hXX.z 3
      have z4 := hXX.z 4
      unfold put5 at HR HBB
      have HF : Hid (LbR t.es s (.returned (.tuple #[.agg #[.bool false, .int .i64 0, .int .i64 0, .int .i64 0, .int .i64 0], .bool false]))) := .inr ⟨fun q h => HD.out q (Nat.zero_le _) h, rfl⟩
      clear hXX HX
      go_wp2_with fail
      generalize World.setCell (World.setCell (World.setCell (World.setCell (World.setCell wr _ _) _ _) _ _) _ _) _ _ = w5 at *
      have o0 : w5.cell? ⟨w.heap.size, 0, none⟩ = some (.bool false) := HR.out.c 0 (by omega)
      have o1 : w5.cell? ⟨w.heap.size, 1, none⟩ = some (.int .i64 0) := HR.out.c 1 (by omega)
      have o2 : w5.cell? ⟨w.heap.size, 2, none⟩ = some (.int .i64 0) := HR.out.c 2 (by omega)
      have o3 : w5.cell? ⟨w.heap.size, 3, none⟩ = some (.int .i64 0) := HR.out.c 3 (by omega)
      have o4 : w5.cell? ⟨w.heap.size, 4, none⟩ = some (.int .i64 0) := HR.out.c 4 (by omega)
      refine bodyPost_ret (v := .tuple #[.agg #[.bool false, .int .i64 0, .int .i64 0, .int .i64 0, .int .i64 0], .bool false]) ?_ rfl ⟨HF.out, HBB.out⟩
      simp [results, Tryz.results24, go_sem, o0, o1, o2, o3, o4]
end Go.Proofs.YtejfmajbggmghaaGreat
namespace Go.Proofs.YtejfmajbggmghaaGreat
open Go.RowKit Go.WideShapes

/-- What the function of a walk forwards tells, and that of one backwards. -/
def FfR (es : List En) (told : Int) (e : Ending) : Prop := (∃ n, Nf es told n ∧ e = .returned (.tuple #[eV (nth es n), .bool true])) ∨ (Ff es told ∧ e = .returned (.tuple #[eV En.zero, .bool false]))
def FbR (es : List En) (told : Int) (e : Ending) : Prop := (∃ n, Nb es told n ∧ e = .returned (.tuple #[eV (nth es n), .bool true])) ∨ (Fb es told ∧ e = .returned (.tuple #[eV En.zero, .bool false]))
theorem dead_no {e : En} (h : e.live = false) (k : e.live = true) : False := by rw [h] at k; cases k
theorem lf_fd {es : List En} {told : Int} {q : Nat} {e : Ending} (hq : Bef es (told + 1) q) (h : LfR es q e) : FfR es told e := by
  obtain ⟨h1, h2, h3⟩ := hq
  rcases h with ⟨n, a, b, c, f, g⟩ | ⟨a, g⟩
  · refine .inl ⟨n, ⟨b, c, by have := h3 n a b; omega, fun k hk hl => ?_⟩, g⟩
    rcases Nat.lt_or_ge k q with x | x
    · have := h2 k x; omega
    · exact (dead_no (f k x hk) hl).elim
  · refine .inr ⟨fun k hk hl => ?_, g⟩
    rcases Nat.lt_or_ge k q with x | x
    · have := h2 k x; omega
    · exact (dead_no (a k x hk) hl).elim
theorem lb_fd {es : List En} {told : Int} {q : Nat} {e : Ending} (hq : Bef es told q) (h : LbR es q e) : FbR es told e := by
  obtain ⟨h1, h2, h3⟩ := hq
  rcases h with ⟨n, a, c, f, g⟩ | ⟨a, g⟩
  · refine .inl ⟨n, ⟨by omega, c, h2 n a, fun k hk hk2 hl => ?_⟩, g⟩
    rcases Nat.lt_or_ge k q with x | x
    · exact (dead_no (f k hk x) hl).elim
    · exact h3 k x hk2
  · refine .inr ⟨fun k hk hl => ?_, g⟩
    rcases Nat.lt_or_ge k q with x | x
    · exact (dead_no (a k x) hl).elim
    · exact h3 k x hk
theorem lf_sh {es : List En} {b : Int} {q : Nat} {e : Ending} {P : Prop} (_ : Bef es b q) (h : LfR es q e) (p : P) : ∃ y0 y1 y2 y3 y4 yb, e = .returned (.tuple #[.agg #[.bool y0, .int .i64 y1, .int .i64 y2, .int .i64 y3, .int .i64 y4], .bool yb]) ∧ Hid P := by
  rcases h with ⟨n, a, b, c, f, g⟩ | ⟨a, g⟩
  · exact ⟨_, _, _, _, _, _, g, p⟩
  · exact ⟨_, _, _, _, _, _, g, p⟩
theorem lb_sh {es : List En} {b : Int} {q : Nat} {e : Ending} {P : Prop} (_ : Bef es b q) (h : LbR es q e) (p : P) : ∃ y0 y1 y2 y3 y4 yb, e = .returned (.tuple #[.agg #[.bool y0, .int .i64 y1, .int .i64 y2, .int .i64 y3, .int .i64 y4], .bool yb]) ∧ Hid P := by
  rcases h with ⟨n, a, b, c, g⟩ | ⟨a, g⟩
  · exact ⟨_, _, _, _, _, _, g, p⟩
  · exact ⟨_, _, _, _, _, _, g, p⟩
theorem put5_other (w : World) (R : Nat) (v0 v1 v2 v3 v4 : Value) (k : Nat) (hk : k ≠ R) : (put5 w R v0 v1 v2 v3 v4).heap[k]? = w.heap[k]? := by
  unfold put5
  rw [Below.heap_setCell _ _ _ _ hk, Below.heap_setCell _ _ _ _ hk, Below.heap_setCell _ _ _ _ hk, Below.heap_setCell _ _ _ _ hk, Below.heap_setCell _ _ _ _ hk]
set_option maxRecDepth 100000 in
set_option maxHeartbeats 4000000 in
theorem find_on {w : World} {d g gi r h : Nat} {ev : Value} {t : Tb} {mv : Value} {most : Int} {v : Nat} (hC : Dc w d g gi r h ev t mv most v) (hb : t.Born) (bx : Nat) (k0 : w.cell? ⟨bx, 0, none⟩ = some (.pointer (some ⟨d, 0, none⟩))) (told : Int) (ht : -1 ≤ told) (ht2 : told < 9223372036854775807) :
    Calls Tryz.prog 26 #[.int .i64 told, .pointer (some ⟨bx, 0, none⟩)] w fun e w' => FfR t.es told e ∧ Below w.heap.size w w' := by
  have hlen : t.es.length ≤ 100000 := Nat.le_trans hC.ok.few hC.ok.all
  obtain ⟨w1, hw1⟩ : ∃ y, w.alloc (.cells #[.bool false, .int .i64 0, .int .i64 0, .int .i64 0, .int .i64 0] 48) = y := ⟨_, rfl⟩
  obtain ⟨hX1, hB1, hs1⟩ := en_new w hw1
  have hlb := lt_of_cell k0
  have hne : bx ≠ w.heap.size := by omega
  have q0 : w1.cell? ⟨bx, 0, none⟩ = some (.pointer (some ⟨d, 0, none⟩)) := (hB1.cell (p := ⟨bx, 0, none⟩) hlb).trans k0
  have hBd : Below w.heap.size w w1.drew := hB1.drew
  have d0 : w1.drew.cell? ⟨bx, 0, none⟩ = some (.pointer (some ⟨d, 0, none⟩)) := q0
  have C1 := bornSince_any (hC.below hBd) hb (told + 1)
  have CL : Hid (∀ V (q : Nat), Below w.heap.size w V → q ≤ t.es.length → Calls Tryz.prog 24 #[.pointer (some ⟨d, 0, none⟩), .int .i64 (q : Int), .int .i64 1] V fun e w' => LfR t.es q e ∧ Below V.heap.size V w') := fun V q hV hq => liveFrom_on (hC.below hV) q hq
  have HFD : Hid (∀ q e, Bef t.es (told + 1) q → LfR t.es q e → FfR t.es told e) := fun q e => lf_fd
  have e9 : IntKind.i64.wrap (told + 1) = told + 1 := i64_small (by omega) (by omega)
  have HW := Lib.hid hw1
  have HX1 := Lib.hid hX1
  have HBd := Lib.hid hBd
  clear hw1 hX1 hB1 hC hBd k0
  go_enter Tryz.func26, Tryz.ntmps26
  go_upto_region 1 with fail
  rw [HW.out]
  go_region_held3 (fun V => V.cell? ⟨bx, 0, none⟩ = some (.pointer (some ⟨d, 0, none⟩)))
    (first | with_reducible exact d0 | with_reducible exact q0 | with_reducible exact q2 | with_reducible exact q3 | with_reducible exact HP.out _ _ _ _ _ | fail)
    (first | (go_at_call 25; refine C1.mono ?_; rintro e w2 ⟨q, rfl, hq, hB2⟩; have HQ := Lib.hid hq; have hql := hq.1; clear hq; have q2 := (hB2.cell (p := ⟨bx, 0, none⟩) (by show bx < _; have := HBd.out.size; omega)).trans d0; have hBB2 := HBd.out.trans (hB2.mono HBd.out.size); have hX2 := HX1.out.same (w' := w2) (hB2.block _ (by show w.heap.size < w1.heap.size; omega)); have C2 := CL.out w2 q hBB2 hql; skip) | (go_at_call 24; refine C2.mono ?_; rintro e w3 ⟨hR, hB3⟩; have hX3 := hX2.of hB3 (by omega); have q3 := (hB3.cell (p := ⟨bx, 0, none⟩) (by show bx < _; have := hBB2.size; omega)).trans q2; have hBB3 := hBB2.trans (hB3.mono hBB2.size); obtain ⟨y0, y1, y2, y3, y4, yb, rfl, HF⟩ : ∃ y0 y1 y2 y3 y4 yb, e = .returned (.tuple #[.agg #[.bool y0, .int .i64 y1, .int .i64 y2, .int .i64 y3, .int .i64 y4], .bool yb]) ∧ Hid (FfR t.es told e) := lf_sh HQ.out hR (HFD.out q e HQ.out hR); clear hR; have a0 := hX3.c 0 (by omega); have a1 := hX3.c 1 (by omega); have a2 := hX3.c 2 (by omega); have a3 := hX3.c 3 (by omega); have a4 := hX3.c 4 (by omega); have z0 := hX3.z 0; have z1 := hX3.z 1; have z2 := hX3.z 2; have z3 := hX3.z 3; have z4 := hX3.z 4; have HR := Lib.hid (put5_blk hX3 (.bool y0) (.int .i64 y1) (.int .i64 y2) (.int .i64 y3) (.int .i64 y4)); have HBB := Lib.hid (hBB3.trans (put5_below (B := w.heap.size) (w := w3) w.heap.size (Nat.le_refl _) (.bool y0) (.int .i64 y1) (.int .i64 y2) (.int .i64 y3) (.int .i64 y4))); clear hX3; have HP : Hid (∀ v0 v1 v2 v3 v4, (((((w3.setCell ⟨w.heap.size, 0, none⟩ v0).setCell ⟨w.heap.size, 1, none⟩ v1).setCell ⟨w.heap.size, 2, none⟩ v2).setCell ⟨w.heap.size, 3, none⟩ v3).setCell ⟨w.heap.size, 4, none⟩ v4).cell? ⟨bx, 0, none⟩ = some (.pointer (some ⟨d, 0, none⟩))) := (fun v0 v1 v2 v3 v4 => (World.cell?_of_block (a := ⟨bx, 0, none⟩) (put5_other w3 w.heap.size v0 v1 v2 v3 v4 bx hne)).trans q3)) | fail)
  unfold put5 at HR HBB
  generalize World.setCell (World.setCell (World.setCell (World.setCell (World.setCell w3 _ _) _ _) _ _) _ _) _ _ = w5 at *
  go_wp2_with fail
  have o0 : w5.cell? ⟨w.heap.size, 0, none⟩ = some (.bool y0) := HR.out.c 0 (by omega)
  have o1 : w5.cell? ⟨w.heap.size, 1, none⟩ = some (.int .i64 y1) := HR.out.c 1 (by omega)
  have o2 : w5.cell? ⟨w.heap.size, 2, none⟩ = some (.int .i64 y2) := HR.out.c 2 (by omega)
  have o3 : w5.cell? ⟨w.heap.size, 3, none⟩ = some (.int .i64 y3) := HR.out.c 3 (by omega)
  have o4 : w5.cell? ⟨w.heap.size, 4, none⟩ = some (.int .i64 y4) := HR.out.c 4 (by omega)
  refine bodyPost_ret (v := .tuple #[.agg #[.bool y0, .int .i64 y1, .int .i64 y2, .int .i64 y3, .int .i64 y4], .bool yb]) ?_ rfl ⟨HF.out, HBB.out⟩
  simp [results, Tryz.results26, go_sem, o0, o1, o2, o3, o4]
set_option maxRecDepth 100000 in
set_option maxHeartbeats 4000000 in
theorem find_back {w : World} {d g gi r h : Nat} {ev : Value} {t : Tb} {mv : Value} {most : Int} {v : Nat} (hC : Dc w d g gi r h ev t mv most v) (hb : t.Born) (bx : Nat) (k0 : w.cell? ⟨bx, 0, none⟩ = some (.pointer (some ⟨d, 0, none⟩))) (told : Int) :
    Calls Tryz.prog 23 #[.int .i64 told, .pointer (some ⟨bx, 0, none⟩)] w fun e w' => FbR t.es told e ∧ Below w.heap.size w w' := by
  have hlen : t.es.length ≤ 100000 := Nat.le_trans hC.ok.few hC.ok.all
  obtain ⟨w1, hw1⟩ : ∃ y, w.alloc (.cells #[.bool false, .int .i64 0, .int .i64 0, .int .i64 0, .int .i64 0] 48) = y := ⟨_, rfl⟩
  obtain ⟨hX1, hB1, hs1⟩ := en_new w hw1
  have hlb := lt_of_cell k0
  have hne : bx ≠ w.heap.size := by omega
  have q0 : w1.cell? ⟨bx, 0, none⟩ = some (.pointer (some ⟨d, 0, none⟩)) := (hB1.cell (p := ⟨bx, 0, none⟩) hlb).trans k0
  have hBd : Below w.heap.size w w1.drew := hB1.drew
  have d0 : w1.drew.cell? ⟨bx, 0, none⟩ = some (.pointer (some ⟨d, 0, none⟩)) := q0
  have C1 := bornSince_any (hC.below hBd) hb (told)
  have CL : Hid (∀ V (q : Nat), Below w.heap.size w V → q ≤ t.es.length → Calls Tryz.prog 24 #[.pointer (some ⟨d, 0, none⟩), .int .i64 ((q : Int) - 1), .int .i64 (-1)] V fun e w' => LbR t.es q e ∧ Below V.heap.size V w') := fun V q hV hq => liveFrom_back (hC.below hV) q hq
  have HFD : Hid (∀ q e, Bef t.es told q → LbR t.es q e → FbR t.es told e) := fun q e => lb_fd
  have e9 : ∀ q : Nat, q ≤ 100000 → IntKind.i64.wrap ((q : Int) - 1) = (q : Int) - 1 := fun q hq => i64_small (by omega) (by omega)
  have HW := Lib.hid hw1
  have HX1 := Lib.hid hX1
  have HBd := Lib.hid hBd
  clear hw1 hX1 hB1 hC hBd k0
  go_enter Tryz.func23, Tryz.ntmps23
  go_upto_region 1 with fail
  rw [HW.out]
  go_region_held3 (fun V => V.cell? ⟨bx, 0, none⟩ = some (.pointer (some ⟨d, 0, none⟩)))
    (first | with_reducible exact d0 | with_reducible exact q0 | with_reducible exact q2 | with_reducible exact q3 | with_reducible exact HP.out _ _ _ _ _ | fail)
    (first | (go_at_call 25; refine C1.mono ?_; rintro e w2 ⟨q, rfl, hq, hB2⟩; have HQ := Lib.hid hq; have hql := hq.1; clear hq; have q2 := (hB2.cell (p := ⟨bx, 0, none⟩) (by show bx < _; have := HBd.out.size; omega)).trans d0; have hBB2 := HBd.out.trans (hB2.mono HBd.out.size); have hX2 := HX1.out.same (w' := w2) (hB2.block _ (by show w.heap.size < w1.heap.size; omega)); have C2 := CL.out w2 q hBB2 hql; have e9q := e9 q (by omega)) | (go_at_call 24; refine C2.mono ?_; rintro e w3 ⟨hR, hB3⟩; have hX3 := hX2.of hB3 (by omega); have q3 := (hB3.cell (p := ⟨bx, 0, none⟩) (by show bx < _; have := hBB2.size; omega)).trans q2; have hBB3 := hBB2.trans (hB3.mono hBB2.size); obtain ⟨y0, y1, y2, y3, y4, yb, rfl, HF⟩ : ∃ y0 y1 y2 y3 y4 yb, e = .returned (.tuple #[.agg #[.bool y0, .int .i64 y1, .int .i64 y2, .int .i64 y3, .int .i64 y4], .bool yb]) ∧ Hid (FbR t.es told e) := lb_sh HQ.out hR (HFD.out q e HQ.out hR); clear hR; have a0 := hX3.c 0 (by omega); have a1 := hX3.c 1 (by omega); have a2 := hX3.c 2 (by omega); have a3 := hX3.c 3 (by omega); have a4 := hX3.c 4 (by omega); have z0 := hX3.z 0; have z1 := hX3.z 1; have z2 := hX3.z 2; have z3 := hX3.z 3; have z4 := hX3.z 4; have HR := Lib.hid (put5_blk hX3 (.bool y0) (.int .i64 y1) (.int .i64 y2) (.int .i64 y3) (.int .i64 y4)); have HBB := Lib.hid (hBB3.trans (put5_below (B := w.heap.size) (w := w3) w.heap.size (Nat.le_refl _) (.bool y0) (.int .i64 y1) (.int .i64 y2) (.int .i64 y3) (.int .i64 y4))); clear hX3; have HP : Hid (∀ v0 v1 v2 v3 v4, (((((w3.setCell ⟨w.heap.size, 0, none⟩ v0).setCell ⟨w.heap.size, 1, none⟩ v1).setCell ⟨w.heap.size, 2, none⟩ v2).setCell ⟨w.heap.size, 3, none⟩ v3).setCell ⟨w.heap.size, 4, none⟩ v4).cell? ⟨bx, 0, none⟩ = some (.pointer (some ⟨d, 0, none⟩))) := (fun v0 v1 v2 v3 v4 => (World.cell?_of_block (a := ⟨bx, 0, none⟩) (put5_other w3 w.heap.size v0 v1 v2 v3 v4 bx hne)).trans q3)) | fail)
  unfold put5 at HR HBB
  generalize World.setCell (World.setCell (World.setCell (World.setCell (World.setCell w3 _ _) _ _) _ _) _ _) _ _ = w5 at *
  go_wp2_with fail
  have o0 : w5.cell? ⟨w.heap.size, 0, none⟩ = some (.bool y0) := HR.out.c 0 (by omega)
  have o1 : w5.cell? ⟨w.heap.size, 1, none⟩ = some (.int .i64 y1) := HR.out.c 1 (by omega)
  have o2 : w5.cell? ⟨w.heap.size, 2, none⟩ = some (.int .i64 y2) := HR.out.c 2 (by omega)
  have o3 : w5.cell? ⟨w.heap.size, 3, none⟩ = some (.int .i64 y3) := HR.out.c 3 (by omega)
  have o4 : w5.cell? ⟨w.heap.size, 4, none⟩ = some (.int .i64 y4) := HR.out.c 4 (by omega)
  refine bodyPost_ret (v := .tuple #[.agg #[.bool y0, .int .i64 y1, .int .i64 y2, .int .i64 y3, .int .i64 y4], .bool yb]) ?_ rfl ⟨HF.out, HBB.out⟩
  simp [results, Tryz.results23, go_sem, o0, o1, o2, o3, o4]
end Go.Proofs.YtejfmajbggmghaaGreat
