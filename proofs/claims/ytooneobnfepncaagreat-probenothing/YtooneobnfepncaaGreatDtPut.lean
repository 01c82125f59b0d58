/-
  Put; At where it refuses; Next of a Seeker that has ended.
-/
import Derived.Test.YtooneobnfepncaaGreatDtNext2
namespace Go.Proofs.YtooneobnfepncaaGreat
open Go.RowKit Go.WideShapes

theorem put7_no {w : World} {g gi r h : Nat} {ev : Value} {t : Tb} {mv : Value} (hD : Dt w g gi r h ev t mv) (n v : Int) (hn : ¬ t.has n) :
    Calls Tryz.prog 151 #[.pointer (some ⟨g, 0, none⟩), .int .i64 n, .int .i64 v] w fun e w' => e = .returned (.int .i64 7) ∧ w' = w := by
  have C1 := trefuse_any (hD.hd.c 2 (by omega)) hD.es n
  rw [show noE t n = 7 from if_neg hn] at C1
  clear hD hn
  go_enter Tryz.func151, Tryz.ntmps151
  go_wp2_with fail
  refine C1.mono ?_
  rintro e w1 ⟨rfl, rfl⟩
  clear C1
  go_wp2
  go_ret
  exact ⟨rfl, rfl⟩
theorem Tb.live_putv {t : Tb} (n : Nat) (v : Int) (hl : (nth t.es n).live = true) : (t.putv n v).live = t.live := by
  show (t.es.set n _).length - deadN (t.es.set n _) = _
  rw [List.length_set, deadN_put t.es n ⟨(nth t.es n).live, (nth t.es n).hash, (nth t.es n).key, v, (nth t.es n).birth⟩ hl hl]
  rfl
theorem put7_yes {w : World} {g gi r h : Nat} {ev : Value} {t : Tb} {mv : Value} (hD : Dt w g gi r h ev t mv) (n : Nat) (v : Int) (hn : n < t.es.length) (hl : (nth t.es n).live = true) :
    Calls Tryz.prog 151 #[.pointer (some ⟨g, 0, none⟩), .int .i64 (n : Int), .int .i64 v] w fun e w' => e = .returned (.int .i64 0) ∧ Dt w' g gi r h ev (t.putv n v) mv ∧ Ex (fun k => ev.ownBlock = some k) w w' := by
  have C1 := trefuse_any (hD.hd.c 2 (by omega)) hD.es (n : Int)
  rw [show noE t (n : Int) = 0 from if_pos ⟨by omega, by omega, by rw [Int.toNat_natCast]; exact hl⟩] at C1
  obtain ⟨ae, cape, ge, hev, hae, hro⟩ := hD.es.open
  obtain ⟨rfl, hob, hfz⟩ := hae (by omega)
  have hle := hro.le
  have k2 : w.cell? ⟨g, 2, none⟩ = some ev := hD.hd.c 2 (by omega)
  subst hev
  have d3 := hro.c3 n hn
  have z3 := hfz (n * 5 + 3)
  have t1 : (n : Int) < (t.es.length : Int) := by omega
  obtain ⟨n1, n2, n3, n4⟩ := hD.ap ge hob
  have hoth : ∀ j, j ≠ ge → (w.setCell ⟨ge, n * 5 + 3, none⟩ (.int .i64 v)).heap[j]? = w.heap[j]? := fun j hj => Below.heap_setCell _ _ _ _ hj
  have HRT : Hid (Dt (w.setCell ⟨ge, n * 5 + 3, none⟩ (.int .i64 v)) g gi r h (.slice (some ⟨ge, 0, none⟩) t.es.length cape) (t.putv n v) mv) := by
    refine ⟨(hD.hd.same (hoth g (fun e => n1 e.symm))).congr (fun j hj => ?_), Es.put rfl hD.es n 3 hn (by decide) (.int .i64 v) _ rfl rfl, hD.cl.same (hoth gi (fun e => n2 e.symm)) (hoth r (fun e => n3 e.symm)) (hoth h (fun e => n4 e.symm)), hD.ap, hD.ne, hD.mp⟩
    have h1 := Tb.live_putv n v hl
    have : j = 0 ∨ j = 1 ∨ j = 2 ∨ j = 3 ∨ j = 4 ∨ j = 5 ∨ j = 6 := by omega
    rcases this with rfl | rfl | rfl | rfl | rfl | rfl | rfl
    · rfl
    · rfl
    · rfl
    · show Value.int .i64 (((t.putv n v).live : Nat) : Int) = Value.int .i64 ((t.live : Nat) : Int)
      rw [h1]
    · rfl
    · rfl
    · rfl
  have HEX : Hid (Ex (fun k => (Value.slice (some ⟨ge, 0, none⟩) t.es.length cape).ownBlock = some k) w (w.setCell ⟨ge, n * 5 + 3, none⟩ (.int .i64 v))) := (Ex.refl (fun k => (Value.slice (some ⟨ge, 0, none⟩) t.es.length cape).ownBlock = some k) w).setCell (p := ⟨ge, n * 5 + 3, none⟩) (fun _ => rfl) _
  clear hD hro hae hfz hoth hob
  go_enter Tryz.func151, Tryz.ntmps151
  go_wp2_with fail
  refine C1.mono ?_
  rintro e w1 ⟨rfl, rfl⟩
  clear C1
  go_wp2
  go_ret
  exact ⟨rfl, HRT.out, HEX.out⟩
set_option maxRecDepth 100000 in
theorem at7_no {w : World} {g gi r h : Nat} {ev : Value} {t : Tb} {mv : Value} (hD : Dt w g gi r h ev t mv) (n : Int) (hn : ¬ t.has n) :
    Calls Tryz.prog 84 #[.pointer (some ⟨g, 0, none⟩), .int .i64 n] w fun e w' => e = .returned (.tuple #[.agg #[.bool false, .int .i64 0, .int .i64 0, .int .i64 0, .int .i64 0], .int .i64 7]) ∧ Below w.heap.size w w' := by
  obtain ⟨w1, hw1⟩ : ∃ y, w.alloc (.cells #[.bool false, .int .i64 0, .int .i64 0, .int .i64 0, .int .i64 0] 62) = y := ⟨_, rfl⟩
  have hB1 : Below w.heap.size w w1 := by rw [← hw1]; exact (Below.refl _ w).alloc (Nat.le_refl _) _
  have hX1 : Blk w1 w.heap.size 5 (fun j => #[Value.bool false, .int .i64 0, .int .i64 0, .int .i64 0, .int .i64 0].getD j .nilFunc) := by rw [← hw1]; exact Blk.new w _ _
  have hD1 := hD.below hB1
  have C1 := trefuse_any (hD1.hd.c 2 (by omega)) hD1.es n
  rw [show noE t n = 7 from if_neg hn] at C1
  have a0 : w1.cell? ⟨w.heap.size, 0, none⟩ = some (.bool false) := hX1.c 0 (by omega)
  have a1 : w1.cell? ⟨w.heap.size, 1, none⟩ = some (.int .i64 0) := hX1.c 1 (by omega)
  have a2 : w1.cell? ⟨w.heap.size, 2, none⟩ = some (.int .i64 0) := hX1.c 2 (by omega)
  have a3 : w1.cell? ⟨w.heap.size, 3, none⟩ = some (.int .i64 0) := hX1.c 3 (by omega)
  have a4 : w1.cell? ⟨w.heap.size, 4, none⟩ = some (.int .i64 0) := hX1.c 4 (by omega)
  have z0 := hX1.z 0
  have z1 := hX1.z 1
  have z2 := hX1.z 2
  have z3 := hX1.z 3
  have z4 := hX1.z 4
  have HW := Lib.hid hw1
  have HX1 := Lib.hid hX1
  have HB1 := Lib.hid hB1
  clear hw1 hX1 hB1 hD hD1 hn
  go_enter Tryz.func84, Tryz.ntmps84
  go_wp2_with fail
  rw [HW.out]
  refine C1.mono ?_
  rintro e w2 ⟨rfl, rfl⟩
  clear C1
  have HR := Lib.hid (((((HX1.out.put 0 (.bool false)).put 1 (.int .i64 0)).put 2 (.int .i64 0)).put 3 (.int .i64 0)).put 4 (.int .i64 0))
  have HBB : Hid (Below w.heap.size w (((((w2.setCell ⟨w.heap.size, 0, none⟩ (.bool false)).setCell ⟨w.heap.size, 1, none⟩ (.int .i64 0)).setCell ⟨w.heap.size, 2, none⟩ (.int .i64 0)).setCell ⟨w.heap.size, 3, none⟩ (.int .i64 0)).setCell ⟨w.heap.size, 4, none⟩ (.int .i64 0))) := ((((HB1.out.setCell (p := ⟨w.heap.size, 0, none⟩) (Nat.le_refl _) _).setCell (p := ⟨w.heap.size, 1, none⟩) (Nat.le_refl _) _).setCell (p := ⟨w.heap.size, 2, none⟩) (Nat.le_refl _) _).setCell (p := ⟨w.heap.size, 3, none⟩) (Nat.le_refl _) _).setCell (p := ⟨w.heap.size, 4, none⟩) (Nat.le_refl _) _
  go_wp2_with fail
  first
    | (generalize World.setCell (World.setCell (World.setCell (World.setCell (World.setCell w2 _ _) _ _) _ _) _ _) _ _ = w3 at *
       have p0 : w3.cell? ⟨w.heap.size, 0, none⟩ = some (.bool false) := HR.out.c 0 (by omega)
       have p1 : w3.cell? ⟨w.heap.size, 1, none⟩ = some (.int .i64 0) := HR.out.c 1 (by omega)
       have p2 : w3.cell? ⟨w.heap.size, 2, none⟩ = some (.int .i64 0) := HR.out.c 2 (by omega)
       have p3 : w3.cell? ⟨w.heap.size, 3, none⟩ = some (.int .i64 0) := HR.out.c 3 (by omega)
       have p4 : w3.cell? ⟨w.heap.size, 4, none⟩ = some (.int .i64 0) := HR.out.c 4 (by omega)
       refine bodyPost_ret (v := .tuple #[.agg #[.bool false, .int .i64 0, .int .i64 0, .int .i64 0, .int .i64 0], .int .i64 7]) ?_ rfl ⟨rfl, HBB.out⟩
       simp [results, Tryz.results84, go_sem, p0, p1, p2, p3, p4]
       done)
    | (refine bodyPost_ret (v := .tuple #[.agg #[.bool false, .int .i64 0, .int .i64 0, .int .i64 0, .int .i64 0], .int .i64 7]) ?_ rfl ⟨rfl, HB1.out⟩
       simp [results, Tryz.results84, go_sem, a0, a1, a2, a3, a4]
       done)
/-- A Seeker that has ended. -/
theorem hasEnded_over {w : World} {s : Nat} (x0 : w.cell? ⟨s, 0, none⟩ = some (.pointer none)) :
    Calls Tryz.prog 131 #[.pointer (some ⟨s, 0, none⟩)] w fun e w' => e = .returned (.bool true) ∧ Below w.heap.size w w' := by
  go_enter Tryz.func131, Tryz.ntmps131
  go_wp2_with fail
  go_quiet (fail)
  go_wp2
  go_ret
  exact ⟨rfl, rfl, rfl, rfl, Nat.le_refl _, fun _ _ => rfl⟩
theorem hasEnded_turn {w : World} {s g tu tn : Nat} (x0 : w.cell? ⟨s, 0, none⟩ = some (.pointer (some ⟨g, 0, none⟩))) (x1 : w.cell? ⟨s, 1, none⟩ = some (.int .i64 (tu : Int))) (k6 : w.cell? ⟨g, 6, none⟩ = some (.int .i64 (tn : Int))) (hne : tu < tn) :
    Calls Tryz.prog 131 #[.pointer (some ⟨s, 0, none⟩)] w fun e w' => e = .returned (.bool true) ∧ Below w.heap.size w w' := by
  have tq : ((tu : Int) == (tn : Int)) = false := by rw [beq_eq_false_iff_ne]; omega
  have tq2 : ((tu : Int) != (tn : Int)) = true := by rw [bne_iff_ne]; omega
  go_enter Tryz.func131, Tryz.ntmps131
  go_wp2_with fail
  go_region_held3 (fun V => V.cell? ⟨s, 0, none⟩ = some (.pointer (some ⟨g, 0, none⟩)) ∧ V.cell? ⟨s, 1, none⟩ = some (.int .i64 (tu : Int)) ∧ V.cell? ⟨g, 6, none⟩ = some (.int .i64 (tn : Int)))
    (first | exact ⟨x0, x1, k6⟩ | fail) (fail)
  go_wp2
  go_ret
  exact ⟨rfl, (Below.refl _ w).drew⟩
theorem next7_end {w : World} {s : Nat} (CE : Calls Tryz.prog 131 #[.pointer (some ⟨s, 0, none⟩)] w fun e w' => e = .returned (.bool true) ∧ Below w.heap.size w w') :
    Calls Tryz.prog 102 #[.pointer (some ⟨s, 0, none⟩)] w fun e w' => e = .returned (.tuple #[.int .i64 (-1), .bool false]) ∧ Below w.heap.size w w' := by
  go_enter Tryz.func102, Tryz.ntmps102
  go_wp2_with fail
  refine CE.mono ?_
  rintro e w1 ⟨rfl, hb⟩
  clear CE
  go_wp2
  go_ret2
  exact ⟨rfl, hb⟩
end Go.Proofs.YtooneobnfepncaaGreat
