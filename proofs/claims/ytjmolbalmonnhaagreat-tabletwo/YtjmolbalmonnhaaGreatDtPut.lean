/-
  Put; At where it refuses; Clear; Next of a Seeker that has ended.
-/
import Derived.Test.YtjmolbalmonnhaaGreatDtNext2
namespace Go.Proofs.YtjmolbalmonnhaaGreat
open Go.RowKit Go.WideShapes

theorem put7_no {w : World} {g gi r h : Nat} {ev : Value} {t : Tb} {mv : Value} (hD : Dt w g gi r h ev t mv) (n v : Int) (hn : ¬ t.has n) :
    Calls Tryz.prog 38 #[.pointer (some ⟨g, 0, none⟩), .int .i64 n, .int .i64 v] w fun e w' => e = .returned (.int .i64 7) ∧ w' = w := by
  have C1 := trefuse_any (hD.hd.c 2 (by omega)) hD.es n
  rw [show noE t n = 7 from if_neg hn] at C1
  clear hD hn
  go_enter Tryz.func38, Tryz.ntmps38
  go_wp2_with fail
  refine C1.mono ?_
  rintro e w1 ⟨rfl, rfl⟩
  clear C1
  go_wp2
  go_ret
  exact ⟨rfl, rfl⟩
theorem Tb.live_putv {t : Tb} (n : Nat) (v : Int) (hl : (nth t.es n).live = true) : (t.putv n v).live = t.live := by
  show (t.es.set n _).length - deadN (t.es.set n _) = _
  rw [List.length_set, deadN_put t.es n ⟨(nth t.es n).live, (nth t.es n).hash, (nth t.es n).key, v, (nth t.es n).birth⟩ hl hl]
  rfl
theorem put7_yes {w : World} {g gi r h : Nat} {ev : Value} {t : Tb} {mv : Value} (hD : Dt w g gi r h ev t mv) (n : Nat) (v : Int) (hn : n < t.es.length) (hl : (nth t.es n).live = true) :
    Calls Tryz.prog 38 #[.pointer (some ⟨g, 0, none⟩), .int .i64 (n : Int), .int .i64 v] w fun e w' => e = .returned (.int .i64 0) ∧ Dt w' g gi r h ev (t.putv n v) mv ∧ Ex (fun k => ev.ownBlock = some k) w w' := by
  have C1 := trefuse_any (hD.hd.c 2 (by omega)) hD.es (n : Int)
  rw [show noE t (n : Int) = 0 from if_pos ⟨by omega, by omega, by rw [Int.toNat_natCast]; exact hl⟩] at C1
  obtain ⟨ae, cape, ge, hev, hae, hro⟩ := hD.es.open
  obtain ⟨rfl, hob, hfz⟩ := hae (by omega)
  have hle := hro.le
  have k2 : w.cell? ⟨g, 2, none⟩ = some ev := hD.hd.c 2 (by omega)
  subst hev
  have d3 := hro.c3 n hn
  have z3 := hfz (n * 5 + 3)
  have t1 : (n : Int) < (t.es.length : Int) := by omega
  obtain ⟨n1, n2, n3, n4⟩ := hD.ap ge hob
  have hoth : ∀ j, j ≠ ge → (w.setCell ⟨ge, n * 5 + 3, none⟩ (.int .i64 v)).heap[j]? = w.heap[j]? := fun j hj => Below.heap_setCell _ _ _ _ hj
  have HRT : Hid (Dt (w.setCell ⟨ge, n * 5 + 3, none⟩ (.int .i64 v)) g gi r h (.slice (some ⟨ge, 0, none⟩) t.es.length cape) (t.putv n v) mv) := by
    refine ⟨(hD.hd.same (hoth g (fun e => n1 e.symm))).congr (fun j hj => ?_), Es.put rfl hD.es n 3 hn (by decide) (.int .i64 v) _ rfl rfl, hD.cl.same (hoth gi (fun e => n2 e.symm)) (hoth r (fun e => n3 e.symm)) (hoth h (fun e => n4 e.symm)), hD.ap, hD.ne, hD.mp⟩
    have h1 := Tb.live_putv n v hl
    have : j = 0 ∨ j = 1 ∨ j = 2 ∨ j = 3 ∨ j = 4 ∨ j = 5 ∨ j = 6 := by omega
    rcases this with rfl | rfl | rfl | rfl | rfl | rfl | rfl
    · rfl
    · rfl
    · rfl
    · show Value.int .i64 (((t.putv n v).live : Nat) : Int) = Value.int .i64 ((t.live : Nat) : Int)
      rw [h1]
    · rfl
    · rfl
    · rfl
  have HEX : Hid (Ex (fun k => (Value.slice (some ⟨ge, 0, none⟩) t.es.length cape).ownBlock = some k) w (w.setCell ⟨ge, n * 5 + 3, none⟩ (.int .i64 v))) := (Ex.refl (fun k => (Value.slice (some ⟨ge, 0, none⟩) t.es.length cape).ownBlock = some k) w).setCell (p := ⟨ge, n * 5 + 3, none⟩) (fun _ => rfl) _
  clear hD hro hae hfz hoth hob
  go_enter Tryz.func38, Tryz.ntmps38
  go_wp2_with fail
  refine C1.mono ?_
  rintro e w1 ⟨rfl, rfl⟩
  clear C1
  go_wp2
  go_ret
  exact ⟨rfl, HRT.out, HEX.out⟩
set_option maxRecDepth 100000 in
theorem at7_no {w : World} {g gi r h : Nat} {ev : Value} {t : Tb} {mv : Value} (hD : Dt w g gi r h ev t mv) (n : Int) (hn : ¬ t.has n) :
    Calls Tryz.prog 42 #[.pointer (some ⟨g, 0, none⟩), .int .i64 n] w fun e w' => e = .returned (.tuple #[.agg #[.bool false, .int .i64 0, .int .i64 0, .int .i64 0, .int .i64 0], .int .i64 7]) ∧ Below w.heap.size w w' := by
  obtain ⟨w1, hw1⟩ : ∃ y, w.alloc (.cells #[.bool false, .int .i64 0, .int .i64 0, .int .i64 0, .int .i64 0] 96) = y := ⟨_, rfl⟩
  have hB1 : Below w.heap.size w w1 := by rw [← hw1]; exact (Below.refl _ w).alloc (Nat.le_refl _) _
  have hX1 : Blk w1 w.heap.size 5 (fun j => #[Value.bool false, .int .i64 0, .int .i64 0, .int .i64 0, .int .i64 0].getD j .nilFunc) := by rw [← hw1]; exact Blk.new w _ _
  have hD1 := hD.below hB1
  have C1 := trefuse_any (hD1.hd.c 2 (by omega)) hD1.es n
  rw [show noE t n = 7 from if_neg hn] at C1
  have a0 : w1.cell? ⟨w.heap.size, 0, none⟩ = some (.bool false) := hX1.c 0 (by omega)
  have a1 : w1.cell? ⟨w.heap.size, 1, none⟩ = some (.int .i64 0) := hX1.c 1 (by omega)
  have a2 : w1.cell? ⟨w.heap.size, 2, none⟩ = some (.int .i64 0) := hX1.c 2 (by omega)
  have a3 : w1.cell? ⟨w.heap.size, 3, none⟩ = some (.int .i64 0) := hX1.c 3 (by omega)
  have a4 : w1.cell? ⟨w.heap.size, 4, none⟩ = some (.int .i64 0) := hX1.c 4 (by omega)
  have z0 := hX1.z 0
  have z1 := hX1.z 1
  have z2 := hX1.z 2
  have z3 := hX1.z 3
  have z4 := hX1.z 4
  have HW := Lib.hid hw1
  have HX1 := Lib.hid hX1
  have HB1 := Lib.hid hB1
  clear hw1 hX1 hB1 hD hD1 hn
  go_enter Tryz.func42, Tryz.ntmps42
  go_wp2_with fail
  rw [HW.out]
  refine C1.mono ?_
  rintro e w2 ⟨rfl, rfl⟩
  clear C1
  have HR := Lib.hid (((((HX1.out.put 0 (.bool false)).put 1 (.int .i64 0)).put 2 (.int .i64 0)).put 3 (.int .i64 0)).put 4 (.int .i64 0))
  have HBB : Hid (Below w.heap.size w (((((w2.setCell ⟨w.heap.size, 0, none⟩ (.bool false)).setCell ⟨w.heap.size, 1, none⟩ (.int .i64 0)).setCell ⟨w.heap.size, 2, none⟩ (.int .i64 0)).setCell ⟨w.heap.size, 3, none⟩ (.int .i64 0)).setCell ⟨w.heap.size, 4, none⟩ (.int .i64 0))) := ((((HB1.out.setCell (p := ⟨w.heap.size, 0, none⟩) (Nat.le_refl _) _).setCell (p := ⟨w.heap.size, 1, none⟩) (Nat.le_refl _) _).setCell (p := ⟨w.heap.size, 2, none⟩) (Nat.le_refl _) _).setCell (p := ⟨w.heap.size, 3, none⟩) (Nat.le_refl _) _).setCell (p := ⟨w.heap.size, 4, none⟩) (Nat.le_refl _) _
  go_wp2_with fail
  first
    | (generalize World.setCell (World.setCell (World.setCell (World.setCell (World.setCell w2 _ _) _ _) _ _) _ _) _ _ = w3 at *
       have p0 : w3.cell? ⟨w.heap.size, 0, none⟩ = some (.bool false) := HR.out.c 0 (by omega)
       have p1 : w3.cell? ⟨w.heap.size, 1, none⟩ = some (.int .i64 0) := HR.out.c 1 (by omega)
       have p2 : w3.cell? ⟨w.heap.size, 2, none⟩ = some (.int .i64 0) := HR.out.c 2 (by omega)
       have p3 : w3.cell? ⟨w.heap.size, 3, none⟩ = some (.int .i64 0) := HR.out.c 3 (by omega)
       have p4 : w3.cell? ⟨w.heap.size, 4, none⟩ = some (.int .i64 0) := HR.out.c 4 (by omega)
       refine bodyPost_ret (v := .tuple #[.agg #[.bool false, .int .i64 0, .int .i64 0, .int .i64 0, .int .i64 0], .int .i64 7]) ?_ rfl ⟨rfl, HBB.out⟩
       simp [results, Tryz.results42, go_sem, p0, p1, p2, p3, p4]
       done)
    | (refine bodyPost_ret (v := .tuple #[.agg #[.bool false, .int .i64 0, .int .i64 0, .int .i64 0, .int .i64 0], .int .i64 7]) ?_ rfl ⟨rfl, HB1.out⟩
       simp [results, Tryz.results42, go_sem, a0, a1, a2, a3, a4]
       done)
theorem Tb.live_clear (t : Tb) : t.clear.live = 0 := rfl
set_option maxRecDepth 100000 in
set_option maxHeartbeats 4000000 in
theorem clear7_any {w : World} {g gi r h : Nat} {ev : Value} {t : Tb} {mv : Value} {M : Int → Int → World → Prop} {a b : Int} (hD : Dt w g gi r h ev t mv) (hMo : MtOk mv M) (hM : M a b w) (hm : t.made ≤ 1000000) (ha : 0 ≤ a ∧ a ≤ 1000000000) (ht : t.turn ≤ 1000000) :
    Calls Tryz.prog 44 #[.pointer (some ⟨g, 0, none⟩)] w fun e w' => e = .returned (.tuple #[]) ∧ ∃ gi' r' h' ev', Ad w g gi r h ev mv M (a + 1) b t.clear w' gi' r' h' ev' := by
  have k1 : w.cell? ⟨g, 1, none⟩ = some (.pointer (some ⟨gi, 0, none⟩)) := hD.hd.c 1 (by omega)
  have CR := ready_yes k1
  have k2 : w.cell? ⟨g, 2, none⟩ = some ev := hD.hd.c 2 (by omega)
  have k3 : w.cell? ⟨g, 3, none⟩ = some (.int .i64 (t.live : Int)) := hD.hd.c 3 (by omega)
  have k6 : w.cell? ⟨g, 6, none⟩ = some (.int .i64 (t.turn : Int)) := hD.hd.c 6 (by omega)
  have z2 := hD.hd.z 2
  have z3 := hD.hd.z 3
  have z6 := hD.hd.z 6
  have e6 : IntKind.i64.wrap ((t.turn : Int) + 1) = (t.turn : Int) + 1 := i64_small (by omega) (by omega)
  have lg := hD.hd.lt (by omega)
  obtain ⟨w2, hw2⟩ : ∃ y, ((w.setCell ⟨g, 2, none⟩ (.slice none 0 0)).setCell ⟨g, 3, none⟩ (.int .i64 0)).setCell ⟨g, 6, none⟩ (.int .i64 ((t.turn : Int) + 1)) = y := ⟨_, rfl⟩
  have hB2 : Blk w2 g 7 (fun x => if x = 6 then .int .i64 ((t.turn : Int) + 1) else if x = 3 then .int .i64 0 else if x = 2 then .slice none 0 0 else dF mv gi ev t x) := by rw [← hw2]; exact ((hD.hd.put 2 _).put 3 _).put 6 _
  have hX2 : Ex (fun j => dX g gi r h ev j ∨ mB mv j) w w2 := by rw [← hw2]; exact (((Ex.refl _ w).setCell (p := ⟨g, 2, none⟩) (fun _ => .inl (.inl rfl)) _).setCell (p := ⟨g, 3, none⟩) (fun _ => .inl (.inl rfl)) _).setCell (p := ⟨g, 6, none⟩) (fun _ => .inl (.inl rfl)) _
  have hM2 : M a b w2 := hMo.same a b w _ hM fun k hk => by
    have := (hD.mp k hk).1
    rw [← hw2, Below.heap_setCell _ _ _ _ this, Below.heap_setCell _ _ _ _ this, Below.heap_setCell _ _ _ _ this]
  have C1 := makeIndex_any (L := 3) (made := t.made) (es := []) ⟨rfl, by decide, by decide⟩ hB2 rfl rfl rfl (Es.nil w2) hMo hM2 (fun k hk => by cases hk) (fun k hk => (hD.mp k hk).1) (fun n hn => by simp at hn) (by simp) hm ha (by simp)
  have hlm := hMo.lt a b w
  have HM := Lib.hid hM
  have HMP := Lib.hid hD.mp
  have HX2 := Lib.hid hX2
  have HW2 := Lib.hid hw2
  clear hD hMo hM hB2 hM2 hX2 hw2
  go_enter Tryz.func44, Tryz.ntmps44
  go_wp2_with fail
  refine CR.mono ?_
  rintro e w1 ⟨rfl, rfl⟩
  clear CR
  go_wp2_with fail
  rw [HW2.out]
  refine C1.mono ?_
  rintro e w3 ⟨rfl, gi', r', h', hgi, hr, hh, hI⟩
  have hs2 : w1.heap.size ≤ w2.heap.size := HX2.out.size
  have HD : Hid (Ad w1 g gi r h ev mv M (a + 1) b t.clear w3 gi' r' h' (.slice none 0 0)) := by
    refine ⟨⟨hI.hd.congr (fun j hj => ?_), hI.row, hI.cl, (fun k hk => by cases hk), ⟨by omega, by omega, by omega⟩, fun k hk => ?_⟩, hI.m, fun j hj => ?_, HX2.out.next hI.ex (fun k hk h => h.elim (fun e => .inl (.inl e)) .inr)⟩
    · have : j = 0 ∨ j = 1 ∨ j = 2 ∨ j = 3 ∨ j = 4 ∨ j = 5 ∨ j = 6 := by omega
      rcases this with rfl | rfl | rfl | rfl | rfl | rfl | rfl
      · rfl
      · rfl
      · rfl
      · rfl
      · rfl
      · show Value.int .i64 (((t.made + 1 : Nat)) : Int) = Value.int .i64 ((t.made : Int) + 1)
        rw [Int.natCast_add]
        rfl
      · show Value.int .i64 (((t.turn + 1 : Nat)) : Int) = Value.int .i64 ((t.turn : Int) + 1)
        rw [Int.natCast_add]
        rfl
    · have := hlm k HM.out hk
      exact ⟨(HMP.out k hk).1, by omega, by omega, by omega, by simp [Value.ownBlock]⟩
    · rcases hj with rfl | rfl | rfl | rfl | hj
      · exact .inl (.inl rfl)
      · exact .inr (by omega)
      · exact .inr (by omega)
      · exact .inr (by omega)
      · cases hj
  clear C1 hI
  go_wp2
  go_end0
  exact ⟨rfl, gi', r', h', _, HD.out⟩
/-- A Seeker that has ended. -/
theorem hasEnded_over {w : World} {s : Nat} (x0 : w.cell? ⟨s, 0, none⟩ = some (.pointer none)) :
    Calls Tryz.prog 86 #[.pointer (some ⟨s, 0, none⟩)] w fun e w' => e = .returned (.bool true) ∧ Below w.heap.size w w' := by
  go_enter Tryz.func86, Tryz.ntmps86
  go_wp2_with fail
  go_quiet (fail)
  go_wp2
  go_ret
  exact ⟨rfl, rfl, rfl, rfl, Nat.le_refl _, fun _ _ => rfl⟩
theorem hasEnded_turn {w : World} {s g tu tn : Nat} (x0 : w.cell? ⟨s, 0, none⟩ = some (.pointer (some ⟨g, 0, none⟩))) (x1 : w.cell? ⟨s, 1, none⟩ = some (.int .i64 (tu : Int))) (k6 : w.cell? ⟨g, 6, none⟩ = some (.int .i64 (tn : Int))) (hne : tu < tn) :
    Calls Tryz.prog 86 #[.pointer (some ⟨s, 0, none⟩)] w fun e w' => e = .returned (.bool true) ∧ Below w.heap.size w w' := by
  have tq : ((tu : Int) == (tn : Int)) = false := by rw [beq_eq_false_iff_ne]; omega
  have tq2 : ((tu : Int) != (tn : Int)) = true := by rw [bne_iff_ne]; omega
  go_enter Tryz.func86, Tryz.ntmps86
  go_wp2_with fail
  go_region_held3 (fun V => V.cell? ⟨s, 0, none⟩ = some (.pointer (some ⟨g, 0, none⟩)) ∧ V.cell? ⟨s, 1, none⟩ = some (.int .i64 (tu : Int)) ∧ V.cell? ⟨g, 6, none⟩ = some (.int .i64 (tn : Int)))
    (first | exact ⟨x0, x1, k6⟩ | fail) (fail)
  go_wp2
  go_ret
  exact ⟨rfl, (Below.refl _ w).drew⟩
theorem next7_end {w : World} {s : Nat} (CE : Calls Tryz.prog 86 #[.pointer (some ⟨s, 0, none⟩)] w fun e w' => e = .returned (.bool true) ∧ Below w.heap.size w w') :
    Calls Tryz.prog 48 #[.pointer (some ⟨s, 0, none⟩)] w fun e w' => e = .returned (.tuple #[.int .i64 (-1), .bool false]) ∧ Below w.heap.size w w' := by
  go_enter Tryz.func48, Tryz.ntmps48
  go_wp2_with fail
  refine CE.mono ?_
  rintro e w1 ⟨rfl, hb⟩
  clear CE
  go_wp2
  go_ret2
  exact ⟨rfl, hb⟩
end Go.Proofs.YtjmolbalmonnhaaGreat
