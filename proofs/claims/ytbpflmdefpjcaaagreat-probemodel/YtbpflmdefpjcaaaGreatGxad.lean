/-
  Put; At where it refuses; Next of a Seeker that has ended.
  Kill.
  shown: the entries, the dead ones without anything.
  Rows of bytes that a call has made.
  Copies of the rows of three widths.
  All of cells.
  each of the rows of three widths, where a range over a function goes through it.
  Rows of entries and of ints as the laws read them; the laws' entries and sight.
  Sight.
  Copy.
-/
import Derived.Test.YtbpflmdefpjcaaaGreatGxac
import Derived.Test.YtbpflmdefpjcaaaGreatGxab
import Derived.Deep.RegionHeld3
import Derived.Deep.CutRange
import Derived.Test.YtbpflmdefpjcaaaGreatGxaa
import Derived.OwnWalkIn
import Derived.TacticsInMore
import Derived.LoopNIn
import Derived.LoopIn
namespace Go.Proofs.YtbpflmdefpjcaaaGreat
open Go.RowKit Go.WideShapes

theorem put7_no {w : World} {g gi r h : Nat} {ev : Value} {t : Tb} {mv : Value} (hD : Dt w g gi r h ev t mv) (n v : Int) (hn : ¬ t.has n) :
    Calls Tryz.prog 69 #[.pointer (some ⟨g, 0, none⟩), .int .i64 n, .int .i64 v] w fun e w' => e = .returned (.int .i64 7) ∧ w' = w := by
  have C1 := trefuse_any (hD.hd.c 2 (by omega)) hD.es n
  rw [show noE t n = 7 from if_neg hn] at C1
  clear hD hn
  go_enter Tryz.func69, Tryz.ntmps69
  go_wp2_with fail
  refine C1.mono ?_
  rintro e w1 ⟨rfl, rfl⟩
  clear C1
  go_wp2
  go_ret
  exact ⟨rfl, rfl⟩
theorem Tb.live_putv {t : Tb} (n : Nat) (v : Int) (hl : (nth t.es n).live = true) : (t.putv n v).live = t.live := by
  show (t.es.set n _).length - deadN (t.es.set n _) = _
  rw [List.length_set, deadN_put t.es n ⟨(nth t.es n).live, (nth t.es n).hash, (nth t.es n).key, v, (nth t.es n).birth⟩ hl hl]
  rfl
theorem put7_yes {w : World} {g gi r h : Nat} {ev : Value} {t : Tb} {mv : Value} (hD : Dt w g gi r h ev t mv) (n : Nat) (v : Int) (hn : n < t.es.length) (hl : (nth t.es n).live = true) :
    Calls Tryz.prog 69 #[.pointer (some ⟨g, 0, none⟩), .int .i64 (n : Int), .int .i64 v] w fun e w' => e = .returned (.int .i64 0) ∧ Dt w' g gi r h ev (t.putv n v) mv ∧ Ex (fun k => ev.ownBlock = some k) w w' := by
  have C1 := trefuse_any (hD.hd.c 2 (by omega)) hD.es (n : Int)
  rw [show noE t (n : Int) = 0 from if_pos ⟨by omega, by omega, by rw [Int.toNat_natCast]; exact hl⟩] at C1
  obtain ⟨ae, cape, ge, hev, hae, hro⟩ := hD.es.open
  obtain ⟨rfl, hob, hfz⟩ := hae (by omega)
  have hle := hro.le
  have k2 : w.cell? ⟨g, 2, none⟩ = some ev := hD.hd.c 2 (by omega)
  subst hev
  have d3 := hro.c3 n hn
  have z3 := hfz (n * 5 + 3)
  have t1 : (n : Int) < (t.es.length : Int) := by omega
  obtain ⟨n1, n2, n3, n4⟩ := hD.ap ge hob
  have hoth : ∀ j, j ≠ ge → (w.setCell ⟨ge, n * 5 + 3, none⟩ (.int .i64 v)).heap[j]? = w.heap[j]? := fun j hj => Below.heap_setCell _ _ _ _ hj
  have HRT : Hid (Dt (w.setCell ⟨ge, n * 5 + 3, none⟩ (.int .i64 v)) g gi r h (.slice (some ⟨ge, 0, none⟩) t.es.length cape) (t.putv n v) mv) := by
    refine ⟨(hD.hd.same (hoth g (fun e => n1 e.symm))).congr (fun j hj => ?_), Es.put rfl hD.es n 3 hn (by decide) (.int .i64 v) _ rfl rfl, hD.cl.same (hoth gi (fun e => n2 e.symm)) (hoth r (fun e => n3 e.symm)) (hoth h (fun e => n4 e.symm)), hD.ap, hD.ne, hD.mp⟩
    have h1 := Tb.live_putv n v hl
    have : j = 0 ∨ j = 1 ∨ j = 2 ∨ j = 3 ∨ j = 4 ∨ j = 5 ∨ j = 6 := by omega
    rcases this with rfl | rfl | rfl | rfl | rfl | rfl | rfl
    · rfl
    · rfl
    · rfl
    · show Value.int .i64 (((t.putv n v).live : Nat) : Int) = Value.int .i64 ((t.live : Nat) : Int)
      rw [h1]
    · rfl
    · rfl
    · rfl
  have HEX : Hid (Ex (fun k => (Value.slice (some ⟨ge, 0, none⟩) t.es.length cape).ownBlock = some k) w (w.setCell ⟨ge, n * 5 + 3, none⟩ (.int .i64 v))) := (Ex.refl (fun k => (Value.slice (some ⟨ge, 0, none⟩) t.es.length cape).ownBlock = some k) w).setCell (p := ⟨ge, n * 5 + 3, none⟩) (fun _ => rfl) _
  clear hD hro hae hfz hoth hob
  go_enter Tryz.func69, Tryz.ntmps69
  go_wp2_with fail
  refine C1.mono ?_
  rintro e w1 ⟨rfl, rfl⟩
  clear C1
  go_wp2
  go_ret
  exact ⟨rfl, HRT.out, HEX.out⟩
set_option maxRecDepth 100000 in
theorem at7_no {w : World} {g gi r h : Nat} {ev : Value} {t : Tb} {mv : Value} (hD : Dt w g gi r h ev t mv) (n : Int) (hn : ¬ t.has n) :
    Calls Tryz.prog 43 #[.pointer (some ⟨g, 0, none⟩), .int .i64 n] w fun e w' => e = .returned (.tuple #[.agg #[.bool false, .int .i64 0, .int .i64 0, .int .i64 0, .int .i64 0], .int .i64 7]) ∧ Below w.heap.size w w' := by
  obtain ⟨w1, hw1⟩ : ∃ y, w.alloc (.cells #[.bool false, .int .i64 0, .int .i64 0, .int .i64 0, .int .i64 0] 69) = y := ⟨_, rfl⟩
  have hB1 : Below w.heap.size w w1 := by rw [← hw1]; exact (Below.refl _ w).alloc (Nat.le_refl _) _
  have hX1 : Blk w1 w.heap.size 5 (fun j => #[Value.bool false, .int .i64 0, .int .i64 0, .int .i64 0, .int .i64 0].getD j .nilFunc) := by rw [← hw1]; exact Blk.new w _ _
  have hD1 := hD.below hB1
  have C1 := trefuse_any (hD1.hd.c 2 (by omega)) hD1.es n
  rw [show noE t n = 7 from if_neg hn] at C1
  have a0 : w1.cell? ⟨w.heap.size, 0, none⟩ = some (.bool false) := hX1.c 0 (by omega)
  have a1 : w1.cell? ⟨w.heap.size, 1, none⟩ = some (.int .i64 0) := hX1.c 1 (by omega)
  have a2 : w1.cell? ⟨w.heap.size, 2, none⟩ = some (.int .i64 0) := hX1.c 2 (by omega)
  have a3 : w1.cell? ⟨w.heap.size, 3, none⟩ = some (.int .i64 0) := hX1.c 3 (by omega)
  have a4 : w1.cell? ⟨w.heap.size, 4, none⟩ = some (.int .i64 0) := hX1.c 4 (by omega)
  have z0 := hX1.z 0
  have z1 := hX1.z 1
  have z2 := hX1.z 2
  have z3 := hX1.z 3
  have z4 := hX1.z 4
  have HW := Lib.hid hw1
  have HX1 := Lib.hid hX1
  have HB1 := Lib.hid hB1
  clear hw1 hX1 hB1 hD hD1 hn
  go_enter Tryz.func43, Tryz.ntmps43
  go_wp2_with fail
  rw [HW.out]
  refine C1.mono ?_
  rintro e w2 ⟨rfl, rfl⟩
  clear C1
  have HR := Lib.hid (((((HX1.out.put 0 (.bool false)).put 1 (.int .i64 0)).put 2 (.int .i64 0)).put 3 (.int .i64 0)).put 4 (.int .i64 0))
  have HBB : Hid (Below w.heap.size w (((((w2.setCell ⟨w.heap.size, 0, none⟩ (.bool false)).setCell ⟨w.heap.size, 1, none⟩ (.int .i64 0)).setCell ⟨w.heap.size, 2, none⟩ (.int .i64 0)).setCell ⟨w.heap.size, 3, none⟩ (.int .i64 0)).setCell ⟨w.heap.size, 4, none⟩ (.int .i64 0))) := ((((HB1.out.setCell (p := ⟨w.heap.size, 0, none⟩) (Nat.le_refl _) _).setCell (p := ⟨w.heap.size, 1, none⟩) (Nat.le_refl _) _).setCell (p := ⟨w.heap.size, 2, none⟩) (Nat.le_refl _) _).setCell (p := ⟨w.heap.size, 3, none⟩) (Nat.le_refl _) _).setCell (p := ⟨w.heap.size, 4, none⟩) (Nat.le_refl _) _
  go_wp2_with fail
  first
    | (generalize World.setCell (World.setCell (World.setCell (World.setCell (World.setCell w2 _ _) _ _) _ _) _ _) _ _ = w3 at *
       have p0 : w3.cell? ⟨w.heap.size, 0, none⟩ = some (.bool false) := HR.out.c 0 (by omega)
       have p1 : w3.cell? ⟨w.heap.size, 1, none⟩ = some (.int .i64 0) := HR.out.c 1 (by omega)
       have p2 : w3.cell? ⟨w.heap.size, 2, none⟩ = some (.int .i64 0) := HR.out.c 2 (by omega)
       have p3 : w3.cell? ⟨w.heap.size, 3, none⟩ = some (.int .i64 0) := HR.out.c 3 (by omega)
       have p4 : w3.cell? ⟨w.heap.size, 4, none⟩ = some (.int .i64 0) := HR.out.c 4 (by omega)
       refine bodyPost_ret (v := .tuple #[.agg #[.bool false, .int .i64 0, .int .i64 0, .int .i64 0, .int .i64 0], .int .i64 7]) ?_ rfl ⟨rfl, HBB.out⟩
       simp [results, Tryz.results43, go_sem, p0, p1, p2, p3, p4]
       done)
    | (refine bodyPost_ret (v := .tuple #[.agg #[.bool false, .int .i64 0, .int .i64 0, .int .i64 0, .int .i64 0], .int .i64 7]) ?_ rfl ⟨rfl, HB1.out⟩
       simp [results, Tryz.results43, go_sem, a0, a1, a2, a3, a4]
       done)
/-- A Seeker that has ended. -/
theorem hasEnded_over {w : World} {s : Nat} (x0 : w.cell? ⟨s, 0, none⟩ = some (.pointer none)) :
    Calls Tryz.prog 59 #[.pointer (some ⟨s, 0, none⟩)] w fun e w' => e = .returned (.bool true) ∧ Below w.heap.size w w' := by
  go_enter Tryz.func59, Tryz.ntmps59
  go_wp2_with fail
  go_quiet (fail)
  go_wp2
  go_ret
  exact ⟨rfl, rfl, rfl, rfl, Nat.le_refl _, fun _ _ => rfl⟩
theorem hasEnded_turn {w : World} {s g tu tn : Nat} (x0 : w.cell? ⟨s, 0, none⟩ = some (.pointer (some ⟨g, 0, none⟩))) (x1 : w.cell? ⟨s, 1, none⟩ = some (.int .i64 (tu : Int))) (k6 : w.cell? ⟨g, 6, none⟩ = some (.int .i64 (tn : Int))) (hne : tu < tn) :
    Calls Tryz.prog 59 #[.pointer (some ⟨s, 0, none⟩)] w fun e w' => e = .returned (.bool true) ∧ Below w.heap.size w w' := by
  have tq : ((tu : Int) == (tn : Int)) = false := by rw [beq_eq_false_iff_ne]; omega
  have tq2 : ((tu : Int) != (tn : Int)) = true := by rw [bne_iff_ne]; omega
  go_enter Tryz.func59, Tryz.ntmps59
  go_wp2_with fail
  go_region_held3 (fun V => V.cell? ⟨s, 0, none⟩ = some (.pointer (some ⟨g, 0, none⟩)) ∧ V.cell? ⟨s, 1, none⟩ = some (.int .i64 (tu : Int)) ∧ V.cell? ⟨g, 6, none⟩ = some (.int .i64 (tn : Int)))
    (first | exact ⟨x0, x1, k6⟩ | fail) (fail)
  go_wp2
  go_ret
  exact ⟨rfl, (Below.refl _ w).drew⟩
theorem next7_end {w : World} {s : Nat} (CE : Calls Tryz.prog 59 #[.pointer (some ⟨s, 0, none⟩)] w fun e w' => e = .returned (.bool true) ∧ Below w.heap.size w w') :
    Calls Tryz.prog 42 #[.pointer (some ⟨s, 0, none⟩)] w fun e w' => e = .returned (.tuple #[.int .i64 (-1), .bool false]) ∧ Below w.heap.size w w' := by
  go_enter Tryz.func42, Tryz.ntmps42
  go_wp2_with fail
  refine CE.mono ?_
  rintro e w1 ⟨rfl, hb⟩
  clear CE
  go_wp2
  go_ret2
  exact ⟨rfl, hb⟩
end Go.Proofs.YtbpflmdefpjcaaaGreat
namespace Go.Proofs.YtbpflmdefpjcaaaGreat
open Go.RowKit Go.WideShapes

theorem isS_some {es : List En} {L : Nat} {c : Nat → Int} (h : Inv es L c) {n : Nat} (hn : n < es.length) (hl : (nth es n).live = true) : ∃ i, i < 2 ^ L + 13 ∧ IsS c (n : Int) (uw (nth es n).hash) L i := by
  obtain ⟨p, hp⟩ := h.pos n hn hl
  obtain ⟨i, h1, h2⟩ := trl_all (uw (nth es n).hash) L (trl (uw (nth es n).hash) L p) (uw_lt _) (trl_lt _ _ _)
  obtain ⟨j, h3, h4, h5⟩ := least (P := fun i => c (trl (uw (nth es n).hash) L i) = (n : Int)) i (by show c _ = _; rw [h2]; exact hp.1)
  exact ⟨j, by omega, h4, h5⟩
theorem kill_no {w : World} {g gi r h : Nat} {ev : Value} {t : Tb} {mv : Value} (hD : Dt w g gi r h ev t mv) (n : Int) (hn : ¬ t.has n) :
    Calls Tryz.prog 71 #[.pointer (some ⟨g, 0, none⟩), .int .i64 n] w fun e w' => e = .returned (.int .i64 7) ∧ w' = w := by
  have C1 := trefuse_any (hD.hd.c 2 (by omega)) hD.es n
  rw [show noE t n = 7 from if_neg hn] at C1
  clear hD hn
  go_enter Tryz.func71, Tryz.ntmps71
  go_wp2_with fail
  refine C1.mono ?_
  rintro e w1 ⟨rfl, rfl⟩
  clear C1
  go_wp2
  go_ret
  exact ⟨rfl, rfl⟩
theorem drew_cell (W : World) (a : Addr) : W.drew.cell? a = W.cell? a := rfl
theorem drew_heap (W : World) (k : Nat) : W.drew.heap[k]? = W.heap[k]? := rfl
/-- The world behind Kill's stores. -/
def dKillW (w : World) (g ge n : Nat) (t : Tb) : World := (((goneW w ge n (nth t.es n).birth).drew).setCell ⟨g, 3, none⟩ (.int .i64 ((t.live : Int) - 1))).setCell ⟨g, 6, none⟩ (.int .i64 ((t.turn : Int) + 1))
theorem dkill_fin {w w3 : World} {g gi r h : Nat} {t : Tb} {mv : Value} {ge cape n x : Nat} (hD : Dt w g gi r h (.slice (some ⟨ge, 0, none⟩) t.es.length cape) t mv) (hO : t.Ok) (hn : n < t.es.length) (hl : (nth t.es n).live = true) (hx : x < 2 ^ t.L) (hcx : t.c x = (n : Int)) (hC : Cl w3 gi r h t.L (2 ^ t.L) (upd t.c x (-2))) (hb : But h w w3) :
    Blk (goneW w3 ge n (nth t.es n).birth) g 7 (dF mv gi (.slice (some ⟨ge, 0, none⟩) t.es.length cape) t) ∧ Dt (dKillW w3 g ge n t) g gi r h (.slice (some ⟨ge, 0, none⟩) t.es.length cape) (t.kill n) mv ∧ Ex (dX g gi r h (.slice (some ⟨ge, 0, none⟩) t.es.length cape)) w (dKillW w3 g ge n t) := by
  have hap := hD.ap ge rfl
  have lg := hD.hd.lt (by omega)
  have lge := hD.es.lt ge rfl
  have hB3 := hD.hd.same (hb.block g lg hD.ne.2.2)
  have hE3 : Es w3 (.slice (some ⟨ge, 0, none⟩) t.es.length cape) t.es := hD.es.same fun k hk => by cases hk; exact hb.block ge lge hap.2.2.2
  have hbz := goneW_but w3 ge n (nth t.es n).birth
  have hsz := hb.size
  have hB4 := hB3.same (hbz.block g (by omega) (fun e => hap.1 e.symm))
  have hE4 := hE3.goner n hn (nth t.es n).birth
  obtain ⟨l1, l2, l3⟩ := hD.cl.lt
  have hC4 : Cl (goneW w3 ge n (nth t.es n).birth) gi r h t.L (2 ^ t.L) (upd t.c x (-2)) := hC.same (hbz.block _ (by omega) (fun e => hap.2.1 e.symm)) (hbz.block _ (by omega) (fun e => hap.2.2.1 e.symm)) (hbz.block _ (by omega) (fun e => hap.2.2.2 e.symm))
  have o5 : ∀ j, j ≠ g → (dKillW w3 g ge n t).heap[j]? = (goneW w3 ge n (nth t.es n).birth).heap[j]? := fun j hj => by unfold dKillW; rw [Below.heap_setCell _ _ _ _ hj, Below.heap_setCell _ _ _ _ hj, drew_heap]
  refine ⟨hB4, ⟨?_, ?_, ?_, hD.ap, hD.ne, hD.mp⟩, ?_⟩
  · unfold dKillW
    refine (((hB4.same (w' := (goneW w3 ge n (nth t.es n).birth).drew) (drew_heap _ _)).put 3 _).put 6 _).congr fun j hj => ?_
    have : j = 0 ∨ j = 1 ∨ j = 2 ∨ j = 3 ∨ j = 4 ∨ j = 5 ∨ j = 6 := by omega
    rcases this with rfl | rfl | rfl | rfl | rfl | rfl | rfl
    · rfl
    · rfl
    · rfl
    · show Value.int .i64 (((t.kill n).live : Nat) : Int) = Value.int .i64 ((t.live : Int) - 1)
      rw [Tb.live_kill n hl, Int.natCast_sub (Tb.live_pos n hl)]
      rfl
    · rfl
    · rfl
    · show Value.int .i64 (((t.turn + 1 : Nat)) : Int) = Value.int .i64 ((t.turn : Int) + 1)
      rw [Int.natCast_add]
      rfl
  · exact hE4.same fun k hk => by cases hk; exact o5 _ hap.1
  · exact (hC4.same (o5 _ (fun e => hD.ne.1 e.symm)) (o5 _ (fun e => hD.ne.2.1 e.symm)) (o5 _ (fun e => hD.ne.2.2 e.symm))).congr (killc_upd hO.inv n hx hcx)
  · unfold dKillW
    refine (((hb.ex.mono (fun k _ hk => .inr (.inr (.inr (.inl hk))))).next hbz.ex (fun k _ hk => .inr (.inr (.inr (.inr (by rw [hk]; rfl)))))).drew.setCell (p := ⟨g, 3, none⟩) (fun _ => .inl rfl) _).setCell (p := ⟨g, 6, none⟩) (fun _ => .inl rfl) _
set_option maxRecDepth 100000 in
set_option maxHeartbeats 4000000 in
theorem kill_yes {w : World} {g gi r h : Nat} {ev : Value} {t : Tb} {mv : Value} (hD : Dt w g gi r h ev t mv) (hO : t.Ok) (n : Nat) (hn : n < t.es.length) (hl : (nth t.es n).live = true) (ht : t.turn ≤ 1000000) :
    Calls Tryz.prog 71 #[.pointer (some ⟨g, 0, none⟩), .int .i64 (n : Int)] w fun e w' => e = .returned (.int .i64 0) ∧ Dt w' g gi r h ev (t.kill n) mv ∧ Ex (dX g gi r h ev) w w' := by
  have C1 := trefuse_any (hD.hd.c 2 (by omega)) hD.es (n : Int)
  rw [show noE t (n : Int) = 0 from if_pos ⟨by omega, by omega, by rw [Int.toNat_natCast]; exact hl⟩] at C1
  obtain ⟨ae, cape, ge, hev, hae, hro⟩ := hD.es.open
  obtain ⟨rfl, _, hfz⟩ := hae (by omega)
  have hcap := hro.le
  subst hev
  obtain ⟨i, hi, hF⟩ := isS_some hO.inv hn hl
  have k1 : w.cell? ⟨g, 1, none⟩ = some (.pointer (some ⟨gi, 0, none⟩)) := hD.hd.c 1 (by omega)
  have k2 : w.cell? ⟨g, 2, none⟩ = some (.slice (some ⟨ge, 0, none⟩) t.es.length cape) := hD.hd.c 2 (by omega)
  have ke := hro.c1 n hn
  have hx := trl_lt (uw (nth t.es n).hash) t.L i
  have HCX := Lib.hid hF.1
  have CF : Hid (∀ V, Below w.heap.size w V → Calls Tryz.prog 81 #[.pointer (some ⟨g, 0, none⟩), .int .i64 (nth t.es n).hash, .int .i64 (n : Int)] V fun e w' => e = .returned (.int .i64 ((trl (uw (nth t.es n).hash) t.L i : Nat) : Int)) ∧ Below V.heap.size V w') := fun V hV => find_any ((hV.cell (p := ⟨g, 1, none⟩) (lt_of_cell k1)).trans k1) (hD.cl.below hV) _ _ hF hi
  have hmy : may (2 ^ t.L) (-2) = true := by unfold may; simp; omega
  have CS : Hid (∀ V, Below w.heap.size w V → Calls Tryz.prog 80 #[.pointer (some ⟨gi, 0, none⟩), .int .i64 ((trl (uw (nth t.es n).hash) t.L i : Nat) : Int), .int .i64 (-2)] V fun e w' => e = .returned (.int .i64 0) ∧ Cl w' gi r h t.L (2 ^ t.L) (upd t.c (trl (uw (nth t.es n).hash) t.L i) (-2)) ∧ But h w w') := fun V hV => (setM_yes (hD.cl.below hV) _ (-2) hx hmy).mono fun e w' ⟨h1, h2⟩ => ⟨h1, by rw [h2]; exact (hD.cl.below hV).put _ hx _ (by omega), by rw [h2]; exact (but_of hV h).setCell _ _⟩
  have hlg := lt_of_cell k1
  have hle := lt_of_cell ke
  have hgh := hD.ne.2.2
  have heh := (hD.ap ge rfl).2.2.2
  have HD := Lib.hid hD
  have HO := Lib.hid hO
  have HAP : Hid (ge ≠ g) := (hD.ap ge rfl).1
  have hB0 : Below w.heap.size w w.drew := (Below.refl _ w).drew
  have t0 : (n : Int) < (t.es.length : Int) := by omega
  clear hD hO hF hmy hro hae hfz
  generalize trl (uw (nth t.es n).hash) t.L i = x at *
  go_enter Tryz.func71, Tryz.ntmps71
  go_wp2_with fail
  refine C1.mono ?_
  rintro e w1 ⟨rfl, rfl⟩
  clear C1
  go_wp2_with fail
  go_region_held3 (fun V => V.cell? ⟨g, 1, none⟩ = some (.pointer (some ⟨gi, 0, none⟩)) ∧ V.cell? ⟨g, 2, none⟩ = some (.slice (some ⟨ge, 0, none⟩) t.es.length cape) ∧ V.cell? ⟨ge, n * 5 + 1, none⟩ = some (.int .i64 (nth t.es n).hash))
    (first | exact ⟨k1, k2, ke⟩ | exact ⟨q1, q2, qe⟩ | exact ⟨p1, p2, pe⟩ | fail)
    (first | (go_at_call 81; refine (CF.out _ hB0).mono ?_; rintro e w2 ⟨rfl, hB2⟩; have hBW := hB0.trans hB2; have q1 := (hBW.cell (p := ⟨g, 1, none⟩) hlg).trans k1; have q2 := (hBW.cell (p := ⟨g, 2, none⟩) hlg).trans k2; have qe := (hBW.cell (p := ⟨ge, n * 5 + 1, none⟩) hle).trans ke) | (go_at_call 80; refine (CS.out _ hBW).mono ?_; rintro e w3 ⟨rfl, hC3, hb3⟩; have p1 := (hb3.cell (p := ⟨g, 1, none⟩) hlg hgh).trans k1; have p2 := (hb3.cell (p := ⟨g, 2, none⟩) hlg hgh).trans k2; have pe := (hb3.cell (p := ⟨ge, n * 5 + 1, none⟩) hle heh).trans ke) | fail)
  obtain ⟨hB4, hDk, hEx⟩ := dkill_fin HD.out HO.out hn hl hx HCX.out hC3 hb3
  have hE3 : Es w3 (.slice (some ⟨ge, 0, none⟩) t.es.length cape) t.es := HD.out.es.same fun k hk => by cases hk; exact hb3.block ge hle heh
  obtain ⟨_, _, _, hv', hae', hro'⟩ := hE3.open
  cases hv'
  obtain ⟨hge', _, hfz'⟩ := hae' (by omega)
  cases hge'
  have e0 := hro'.c0 n hn
  have e1 := hro'.c1 n hn
  have e2 := hro'.c2 n hn
  have e3 := hro'.c3 n hn
  have e4 := hro'.c4 n hn
  have z0 := hfz' (n * 5)
  have z1 := hfz' (n * 5 + 1)
  have z2 := hfz' (n * 5 + 2)
  have z3 := hfz' (n * 5 + 3)
  have z4 := hfz' (n * 5 + 4)
  have x3 : (goneW w3 ge n (nth t.es n).birth).drew.cell? ⟨g, 3, none⟩ = some (.int .i64 (t.live : Int)) := (hB4.same (drew_heap _ _)).c 3 (by omega)
  have x6 : (goneW w3 ge n (nth t.es n).birth).drew.cell? ⟨g, 6, none⟩ = some (.int .i64 (t.turn : Int)) := (hB4.same (drew_heap _ _)).c 6 (by omega)
  have y3 : (goneW w3 ge n (nth t.es n).birth).drew.frozen? ⟨g, 3, none⟩ = false := (hB4.same (drew_heap _ _)).z 3
  have y6 : (goneW w3 ge n (nth t.es n).birth).drew.frozen? ⟨g, 6, none⟩ = false := (hB4.same (drew_heap _ _)).z 6
  have hlp := Tb.live_pos n hl
  have hlv1 := t.live_le
  have hsm : t.es.length ≤ 100000 := Nat.le_trans HO.out.few HO.out.all
  have e3' : IntKind.i64.wrap ((t.live : Int) - 1) = (t.live : Int) - 1 := i64_small (by omega) (by omega)
  have e6' : IntKind.i64.wrap ((t.turn : Int) + 1) = (t.turn : Int) + 1 := i64_small (by omega) (by omega)
  have HR : Hid (Dt (dKillW w3 g ge n t) g gi r h (.slice (some ⟨ge, 0, none⟩) t.es.length cape) (t.kill n) mv ∧ Ex (dX g gi r h (.slice (some ⟨ge, 0, none⟩) t.es.length cape)) w1 (dKillW w3 g ge n t)) := ⟨hDk, hEx⟩
  clear hB4 hDk hEx hE3 hro' hae' hfz' hC3 hb3 pe qe ke q1 q2 p1 k1 k2
  unfold dKillW goneW at HR
  unfold goneW at x3 x6 y3 y6
  have gm : ge ≠ g := HAP.out
  have p2d : w3.drew.cell? ⟨g, 2, none⟩ = some (.slice (some ⟨ge, 0, none⟩) t.es.length cape) := p2
  have e4d : w3.drew.cell? ⟨ge, n * 5 + 4, none⟩ = some (.int .i64 (nth t.es n).birth) := e4
  generalize (nth t.es n).birth = bb at *
  have HS : Hid ((((((w3.setCell ⟨ge, n * 5, none⟩ (.bool false)).setCell ⟨ge, n * 5 + 1, none⟩ (.int .i64 0)).setCell ⟨ge, n * 5 + 2, none⟩ (.int .i64 0)).setCell ⟨ge, n * 5 + 3, none⟩ (.int .i64 0)).setCell ⟨ge, n * 5 + 4, none⟩ (.int .i64 bb)).drew.cell? ⟨g, 2, none⟩ = some (.slice (some ⟨ge, 0, none⟩) t.es.length cape) ∧ (((((w3.setCell ⟨ge, n * 5, none⟩ (.bool false)).setCell ⟨ge, n * 5 + 1, none⟩ (.int .i64 0)).setCell ⟨ge, n * 5 + 2, none⟩ (.int .i64 0)).setCell ⟨ge, n * 5 + 3, none⟩ (.int .i64 0)).setCell ⟨ge, n * 5 + 4, none⟩ (.int .i64 bb)).drew.cell? ⟨ge, n * 5 + 4, none⟩ = some (.int .i64 bb)) := by
    have o : ∀ (U : World) (j k : Nat) (x : Value), j ≠ k → (U.setCell ⟨ge, j, none⟩ x).cell? ⟨ge, k, none⟩ = U.cell? ⟨ge, k, none⟩ := fun U j k x hjk => World.cell?_setCell_other _ _ _ _ (by intro he; injection he with a b; omega)
    have o2 : ∀ (U : World) (j : Nat) (x : Value), (U.setCell ⟨ge, j, none⟩ x).cell? ⟨g, 2, none⟩ = U.cell? ⟨g, 2, none⟩ := fun U j x => World.cell?_setCell_other _ _ _ _ (by intro he; injection he with a b; exact gm a)
    refine ⟨by rw [drew_cell, o2, o2, o2, o2, o2]; exact p2, (drew_cell _ _).trans (World.cell?_setCell_same' _ _ _ ?_)⟩
    rw [o _ _ _ _ (by omega), o _ _ _ _ (by omega), o _ _ _ _ (by omega), o _ _ _ _ (by omega), e4]
    rfl
  go_wp2_with fail
  go_region_held3 (fun V => V.cell? ⟨g, 2, none⟩ = some (.slice (some ⟨ge, 0, none⟩) t.es.length cape) ∧ V.cell? ⟨ge, n * 5 + 4, none⟩ = some (.int .i64 bb))
    (first | with_reducible exact ⟨p2d, e4d⟩ | with_reducible exact ⟨p2, e4⟩ | with_reducible exact HS.out | fail)
    (fail)
  clear HS p2d e4d p2 e0 e1 e2 e3 e4
  generalize World.drew (World.setCell (World.setCell (World.setCell (World.setCell (World.setCell w3 _ _) _ _) _ _) _ _) _ _) = w5 at *
  go_wp2
  go_ret
  exact ⟨rfl, HR.out⟩
end Go.Proofs.YtbpflmdefpjcaaaGreat
namespace Go.Proofs.YtbpflmdefpjcaaaGreat
open Go.RowKit Go.WideShapes

/-- The first k as they are told. -/
def shk (es : List En) (k : Nat) : List En := (List.range es.length).map fun i => if i < k then (nth es i).shown else nth es i
theorem shk_len (es : List En) (k : Nat) : (shk es k).length = es.length := by simp [shk]
theorem shk_nth (es : List En) (k i : Nat) (hi : i < es.length) : nth (shk es k) i = if i < k then (nth es i).shown else nth es i := by
  conv => lhs; unfold nth
  rw [List.getD_eq_getElem?_getD]
  simp [shk, hi]
theorem nth_ext {a b : List En} (hl : a.length = b.length) (h : ∀ i, i < a.length → nth a i = nth b i) : a = b := by
  apply List.ext_getElem hl
  intro i h1 h2
  have := h i h1
  unfold nth at this
  rw [List.getD_eq_getElem?_getD, List.getD_eq_getElem?_getD, List.getElem?_eq_getElem h1, List.getElem?_eq_getElem h2] at this
  exact this
theorem shk_zero (es : List En) : shk es 0 = es := nth_ext (shk_len _ _) fun i hi => by rw [shk_len] at hi; rw [shk_nth _ _ _ hi, if_neg (Nat.not_lt_zero _)]
theorem shk_all (es : List En) : shk es es.length = shw es := nth_ext (by rw [shk_len, shw_len]) fun i hi => by rw [shk_len] at hi; rw [shk_nth _ _ _ hi, if_pos hi, nth_shw]
theorem shk_live (es : List En) (k : Nat) (hl : (nth es k).live = true) : shk es (k + 1) = shk es k := nth_ext (by rw [shk_len, shk_len]) fun i hi => by
  rw [shk_len] at hi
  rw [shk_nth _ _ _ hi, shk_nth _ _ _ hi]
  by_cases e : i = k
  · subst e
    rw [if_pos (by omega), if_neg (by omega), En.shown_live hl]
  · by_cases h2 : i < k
    · rw [if_pos h2, if_pos (by omega)]
    · rw [if_neg h2, if_neg (by omega)]
theorem shk_dead (es : List En) (k : Nat) (hk : k < es.length) (hl : (nth es k).live = false) : (shk es k).set k En.zero = shk es (k + 1) := nth_ext (by rw [List.length_set, shk_len, shk_len]) fun i hi => by
  rw [List.length_set, shk_len] at hi
  rw [nth_set (by rw [shk_len]; exact hk), shk_nth _ _ _ hi, shk_nth _ _ _ hi]
  by_cases e : i = k
  · subst e
    rw [if_pos rfl, if_pos (by omega), En.shown_dead hl]
  · rw [if_neg e]
    by_cases h2 : i < k
    · rw [if_pos h2, if_pos (by omega)]
    · rw [if_neg h2, if_neg (by omega)]
theorem Es.from {B : Nat} {w : World} {v : Value} {es : List En} (h : Es w v es) (hg : ∀ k, v.ownBlock = some k → B ≤ k) : EsB B w v es := by
  refine ⟨h.1, ?_⟩
  rcases h.2 with h0 | ⟨g, cap, cur, e, h1, h2⟩
  · exact .inl h0
  · exact .inr ⟨g, cap, cur, e, hg g (by rw [e]; rfl), h2⟩
set_option maxRecDepth 100000 in
set_option maxHeartbeats 4000000 in
theorem shown_any {w : World} {g : Nat} {ev : Value} {es : List En} (k2 : w.cell? ⟨g, 2, none⟩ = some ev) (hE : Es w ev es) (hlen : es.length ≤ 100000) :
    Calls Tryz.prog 49 #[.pointer (some ⟨g, 0, none⟩)] w fun e w' => ∃ v, e = .returned v ∧ EsB w.heap.size w' v (shw es) ∧ Below w.heap.size w w' := by
  have C1 := copied_any k2 hE hlen
  clear hE k2
  go_enter Tryz.func49, Tryz.ntmps49
  go_wp2_with fail
  refine C1.mono ?_
  rintro e w1 ⟨cv, rfl, hE1, hB1⟩
  clear C1
  obtain ⟨ae, cape, ge, hev, hae, hro⟩ := hE1.es.open
  have hcap := hro.le
  subst hev
  have hge := hE1.ge
  have HAE : Hid (0 < es.length → ae = some ⟨ge, 0, none⟩ ∧ w.heap.size ≤ ge) := fun h => ⟨(hae h).1, hge ge (hae h).2.1⟩
  have HGE : Hid (∀ k, (Value.slice ae es.length cape).ownBlock = some k → w.heap.size ≤ k) := hge
  have HE1 : Hid (Es w1 (.slice ae es.length cape) (shk es 0)) := by rw [shk_zero]; exact hE1.es
  clear hE1 hae hro hge
  go_wp2_with fail
  go_loopw [9, 4] (fun iv _ wr => ∃ k : Nat, k ≤ es.length ∧ iv = .int .i64 (k : Int) ∧ Hid (Es wr (.slice ae es.length cape) (shk es k)) ∧ Below w.heap.size w wr) (fun iv _ _ => es.length - (intOf iv).toNat)
  case atStart => exact ⟨0, Nat.zero_le _, rfl, HE1, hB1⟩
  case round =>
    clear HE1 hB1
    obtain ⟨k, hk, rfl, HE, hB⟩ := hrel
    by_cases hlt : k < es.length
    · have tk : (k : Int) < (es.length : Int) := by omega
      obtain ⟨hae, hobk⟩ := HAE.out (by omega)
      subst hae
      have hE := HE.out
      rw [← shk_len es k] at hE
      obtain ⟨_, _, _, hv', hae', hro'⟩ := hE.open
      cases hv'
      obtain ⟨hge', _, hfz'⟩ := hae' (by rw [shk_len]; omega)
      cases hge'
      have hlk : k < (shk es k).length := by rw [shk_len]; exact hlt
      have e0 := hro'.c0 k hlk
      have e1 := hro'.c1 k hlk
      have e2 := hro'.c2 k hlk
      have e3 := hro'.c3 k hlk
      have e4 := hro'.c4 k hlk
      have z0 := hfz' (k * 5)
      have z1 := hfz' (k * 5 + 1)
      have z2 := hfz' (k * 5 + 2)
      have z3 := hfz' (k * 5 + 3)
      have z4 := hfz' (k * 5 + 4)
      have hnk : nth (shk es k) k = nth es k := by rw [shk_nth _ _ _ hlt, if_neg (Nat.lt_irrefl _)]
      rw [hnk] at e0 e1 e2 e3 e4
      by_cases hl : (nth es k).live = true
      · have HN : Hid (Es wr (.slice (some ⟨ge, 0, none⟩) es.length cape) (shk es (k + 1))) := by rw [shk_live es k hl]; exact HE.out
        rw [hl] at e0
        clear hE hro' hae' hfz' hnk hl hlk
        go_wp2_with fail
        go_roundw
        case rel => exact ⟨k + 1, by omega, by go_num, HN, hB⟩
        case measure => simp [intOf]; omega
      · have hlf : (nth es k).live = false := by simpa using hl
        have HN : Hid (Es (zeroW wr ge k) (.slice (some ⟨ge, 0, none⟩) es.length cape) (shk es (k + 1))) := by
          have := hE.zero k hlk
          rw [shk_dead es k hlt hlf, shk_len] at this
          exact this
        have HNB : Hid (Below w.heap.size w (zeroW wr ge k)) := hB.trans ((zeroW_but wr ge k).below hobk hB.size)
        rw [hlf] at e0
        clear hE hro' hae' hfz' hnk hl hlf hlk
        generalize (nth es k).hash = y1 at *
        generalize (nth es k).key = y2 at *
        generalize (nth es k).value = y3 at *
        generalize (nth es k).birth = y4 at *
        unfold zeroW at HN HNB
        go_wp2_with fail
        go_roundw
        case rel => exact ⟨k + 1, by omega, by go_num, HN, HNB.out⟩
        case measure => simp [intOf]; omega
    · obtain rfl : k = es.length := by omega
      have tk : ¬ (es.length : Int) < (es.length : Int) := by omega
      go_wp2
      go_ret
      refine ⟨_, rfl, Es.from ?_ HGE.out, hB⟩
      have := HE.out
      rw [shk_all] at this
      exact this
end Go.Proofs.YtbpflmdefpjcaaaGreat
namespace Go.Proofs.YtbpflmdefpjcaaaGreat
open Go.RowKit Go.WideShapes

theorem Tryz.infoByte : (Tryz.prog.info? 5).map (fun i => (i.zero, i.size, i.bytes)) = some (some (.int .u8 0), 1, 1) := by kernel_rfl
/-- The first m of these bytes, in a row of one's own. -/
def bl (m : Nat) (g : Nat → Int) : List Value := (List.range m).map fun j => Value.int .u8 (g j)
theorem bl_len (m : Nat) (g : Nat → Int) : (bl m g).length = m := by simp [bl]
theorem bl_succ (m : Nat) (g : Nat → Int) : bl (m + 1) g = bl m g ++ [Value.int .u8 (g m)] := by simp [bl, List.range_succ]
theorem bl_get (m : Nat) (g : Nat → Int) (j : Nat) (hj : j < m) : (bl m g)[j]? = some (.int .u8 (g j)) := by simp [bl, hj]
def Byt (B : Nat) (w : World) (v : Value) (m : Nat) (g : Nat → Int) : Prop := w.ownsRow B 5 1 v m (bl m g)
theorem Byt.nil (B : Nat) (w : World) (g : Nat → Int) : Byt B w (.slice none 0 0) 0 g := ⟨rfl, Or.inl ⟨rfl, rfl⟩⟩
theorem Byt.snoc {B : Nat} {w : World} {v : Value} {m : Nat} {g : Nat → Int} {x : Int} (h : w.ownsRow B 5 1 v (m + 1) (bl m g ++ [Value.int .u8 x])) (e : x = g m) : Byt B w v (m + 1) g := by
  unfold Byt
  rw [bl_succ, ← e]
  exact h
theorem new_one (w : World) (x : Value) (t : TypeId) : ∀ j u, [x][j]? = some u → (w.alloc (.cells #[x] t)).cell? (Addr.add ⟨w.heap.size, 0, none⟩ j) = some u := by
  intro j u hj
  match j, hj with
  | 0, hj => rw [WideShapes.add_plain, World.cell?_alloc_at _ _ _ _ rfl]; simpa using hj
  | j + 1, hj => simp at hj
theorem below_grown {B n : Nat} {w wr w1 : World} {v : Value} {xs : List Value} {o : Obj} {t : TypeId} (hb : Below B w wr) (hB : B ≤ w.heap.size) (hown : wr.ownsRow B t 1 v n xs) (hg : (wr.alloc o).grownBy w1 v.ownBlock) : Below B w w1 := by
  refine (hb.alloc (Nat.le_trans hB hb.size) o).grown hg (by simp; have := hb.size; omega) (fun k e => ?_)
  rcases hown.2 with ⟨rfl, _⟩ | ⟨g, cap, cur, rfl, h1, _⟩
  · cases e
  · simp [Value.ownBlock] at e
    omega
/-- Byte j of cells of W bytes. -/
def bt (W : Nat) (f : Nat → Int) (j : Nat) : Int := f (j / W) / 256 ^ (j % W) % 256
theorem bt_at (W i k : Nat) (f : Nat → Int) (hk : k < W) : bt W f (i * W + k) = f i / 256 ^ k % 256 := by
  unfold bt
  rw [Nat.mul_comm i W, Nat.mul_add_div (by omega), Nat.div_eq_of_lt hk, Nat.add_zero, Nat.mul_add_mod, Nat.mod_eq_of_lt hk]
end Go.Proofs.YtbpflmdefpjcaaaGreat
namespace Go.Proofs.YtbpflmdefpjcaaaGreat
open Go.RowKit Go.WideShapes

/-- The first n of these numbers, in a row. -/
def nl (k : IntKind) (n : Nat) (f : Nat → Int) : List Value := (List.range n).map fun j => Value.int k (f j)
theorem nl_len (k : IntKind) (n : Nat) (f : Nat → Int) : (nl k n f).length = n := by simp [nl]
theorem nl_get (k : IntKind) (n : Nat) (f : Nat → Int) (j : Nat) (hj : j < n) : (nl k n f)[j]? = some (.int k (f j)) := by simp [nl, hj]
theorem nl_cells {w : World} {h n : Nat} {k : IntKind} {f : Nat → Int} (hc : ∀ j, j < n → w.cell? ⟨h, j, none⟩ = some (.int k (f j))) : ∀ j u, (nl k n f)[j]? = some u → w.cell? (Addr.add ⟨h, 0, none⟩ j) = some u := by
  intro j u hj
  by_cases hlt : j < n
  · rw [nl_get _ _ _ _ hlt] at hj
    rw [WideShapes.add_plain, Nat.zero_add, hc j hlt, hj]
  · rw [List.getElem?_eq_none (by rw [nl_len]; omega)] at hj
    simp at hj
/-- What a copy is. -/
structure Cpy (w w' : World) (g S cap : Nat) (k : IntKind) (f : Nat → Int) : Prop where
  ge : w.heap.size ≤ g
  le : S ≤ cap
  hc : ∀ j, j < S → w'.cell? ⟨g, j, none⟩ = some (.int k (f j))
  hz : ∀ j, w'.frozen? ⟨g, j, none⟩ = false
  b : Below w.heap.size w w'
theorem cpy_of {w w2 : World} {t : TypeId} {k : IntKind} {v : Value} {S B : Nat} {f : Nat → Int} (hS : 0 < S) (hB : B = w.heap.size) (h : w2.ownsRow B t 1 v (0 + S) ([] ++ nl k S f)) (hg : (w.alloc (.cells #[] t)).grownBy w2 (some B)) :
    ∃ g cap, v = .slice (some ⟨g, 0, none⟩) S cap ∧ Cpy w w2 g S cap k f := by
  subst hB
  rw [Nat.zero_add, List.nil_append] at h
  rcases h.2 with ⟨_, h0⟩ | ⟨g, cap, cur, rfl, h1, h2, h3, _⟩
  · omega
  · refine ⟨g, cap, rfl, h1, h3, fun j hj => ?_, fun j => h.frozenAt j, ?_⟩
    · rw [h.cellAt j (by omega), nl_get _ _ _ _ hj]
    · exact (((Below.refl _ w).alloc (Nat.le_refl _) _).grown hg (by simp) (fun k e => by simp at e; omega))
theorem rw_copy {w w2 : World} {g S cap W : Nat} {k : IntKind} {f : Nat → Int} {ty : TypeId} (h : Cpy w w2 g S cap k f) (hS0 : 0 < S) : Rw (w2.alloc (.cells #[.int .i64 (W : Int), .slice (some ⟨g, 0, none⟩) S cap] ty)) w2.heap.size g k W S cap f := by
  have e : (w2.alloc (.cells #[.int .i64 (W : Int), .slice (some ⟨g, 0, none⟩) S cap] ty)).heap[g]? = w2.heap[g]? := Below.heap_alloc _ _ _ (lt_of_cell (h.hc 0 hS0))
  exact ⟨by rw [World.cell?_alloc_at _ _ _ _ rfl]; rfl, by rw [World.cell?_alloc_at _ _ _ _ rfl]; rfl, h.le, fun j hj => (World.cell?_of_block (a := ⟨g, j, none⟩) e).trans (h.hc j hj), fun j => (World.frozen?_of_block (a := ⟨g, j, none⟩) e).trans (h.hz j)⟩

set_option maxRecDepth 100000 in
set_option maxHeartbeats 2000000 in
theorem clone8 {w : World} {h S cap : Nat} {f : Nat → Int} (hc : ∀ j, j < S → w.cell? ⟨h, j, none⟩ = some (.int .i8 (f j))) (hS0 : 0 < S) (hS : S ≤ 1048576) :
    Calls Tryz.prog 127 #[.slice (some ⟨h, 0, none⟩) S cap] w fun e w' => ∃ g cap', e = .returned (.slice (some ⟨g, 0, none⟩) S cap') ∧ Cpy w w' g S cap' .i8 f := by
  obtain ⟨i0, hi, hz0, hz1, hz2⟩ := info_parts Tryz.info8
  have hn : ∀ w h S cap, (binOp .eql 125 (.slice (some ⟨h, 0, none⟩) S cap) (.slice none 0 0)).run Tryz.prog w = .ok (.bool false) w := fun _ _ _ _ => by kernel_rfl
  have HN : Hid (∀ j u, (nl .i8 S f)[j]? = some u → (w.alloc (.cells #[] 189)).cell? (Addr.add ⟨h, 0, none⟩ j) = some u) := nl_cells fun j hj => ((Below.refl _ w).alloc (Nat.le_refl _) _).cell (p := ⟨h, j, none⟩) (lt_of_cell (hc j hj)) |>.trans (hc j hj)
  clear hc
  go_enter Tryz.func127, Tryz.ntmps127
  go_wp2_with (at_builtin; refine wpList_append_own _ rfl _ _ 125 rfl w.heap.size 189 i0 (.int .i8 0) 1 1 Tryz.underlying125 hi hz0 hz1 hz2 rfl (by decide) _ _ [] rfl (World.ownsRow_lit w #[] 0 (Nat.le_refl _) (by decide) rfl) ⟨h, 0, none⟩ S cap (nl .i8 S f) rfl (by rw [nl_len, Nat.mul_one]) HN.out (by intro u hu; simp [nl] at hu; obtain ⟨j, _, rfl⟩ := hu; rfl) (by unfold maxLen; omega) (by omega) (by simp) ?_; intro v' w2 hown2 hgrow _; obtain ⟨g, cap', ev, hCp⟩ := cpy_of hS0 rfl hown2 hgrow; subst ev; clear hgrow hown2)
  go_ret
  exact ⟨_, _, rfl, hCp⟩
set_option maxRecDepth 100000 in
set_option maxHeartbeats 2000000 in
theorem copied8 {w : World} {r h W S cap : Nat} {f : Nat → Int} (hR : Rw w r h .i8 W S cap f) (hS0 : 0 < S) (hS : S ≤ 1048576) :
    Calls Tryz.prog 122 #[.pointer (some ⟨r, 0, none⟩)] w fun e w' => ∃ r' h' cap', e = .returned (.iface 124 (.pointer (some ⟨r', 0, none⟩))) ∧ w.heap.size ≤ r' ∧ w.heap.size ≤ h' ∧ Rw w' r' h' .i8 W S cap' f ∧ Below w.heap.size w w' := by
  have h0 := hR.r0
  have h1 := hR.r1
  have CC := clone8 (w := w.drew) (cap := cap) hR.hc hS0 hS
  have l1 := lt_of_cell h0
  clear hR
  go_enter Tryz.func122, Tryz.ntmps122
  go_wp2_with fail
  go_region_held3 (fun V => V.cell? ⟨r, 0, none⟩ = some (.int .i64 (W : Int)) ∧ V.cell? ⟨r, 1, none⟩ = some (.slice (some ⟨h, 0, none⟩) S cap))
    (first | exact ⟨h0, h1⟩ | exact ⟨q0, q1⟩ | exact ⟨(HB.out.cell (p := ⟨r, 0, none⟩) l1).trans h0, (HB.out.cell (p := ⟨r, 1, none⟩) l1).trans h1⟩ | fail)
    (first | (go_at_call 127; refine CC.mono ?_; rintro e w2 ⟨g, cap', rfl, hCp⟩; have hb2 : Below w.heap.size w w2 := ((Below.refl _ w).drew).trans hCp.b; have q0 := (hb2.cell (p := ⟨r, 0, none⟩) l1).trans h0; have q1 := (hb2.cell (p := ⟨r, 1, none⟩) l1).trans h1; have HB := Lib.hid (hb2.alloc hb2.size (.cells #[.int .i64 (W : Int), .slice (some ⟨g, 0, none⟩) S cap'] 127))) | fail)
  go_wp2
  go_ret
  exact ⟨_, _, _, rfl, hb2.size, hCp.ge, rw_copy hCp hS0, HB.out⟩
set_option maxRecDepth 100000 in
set_option maxHeartbeats 2000000 in
theorem clone16 {w : World} {h S cap : Nat} {f : Nat → Int} (hc : ∀ j, j < S → w.cell? ⟨h, j, none⟩ = some (.int .i16 (f j))) (hS0 : 0 < S) (hS : S ≤ 1048576) :
    Calls Tryz.prog 134 #[.slice (some ⟨h, 0, none⟩) S cap] w fun e w' => ∃ g cap', e = .returned (.slice (some ⟨g, 0, none⟩) S cap') ∧ Cpy w w' g S cap' .i16 f := by
  obtain ⟨i0, hi, hz0, hz1, hz2⟩ := info_parts Tryz.info16
  have hn : ∀ w h S cap, (binOp .eql 129 (.slice (some ⟨h, 0, none⟩) S cap) (.slice none 0 0)).run Tryz.prog w = .ok (.bool false) w := fun _ _ _ _ => by kernel_rfl
  have HN : Hid (∀ j u, (nl .i16 S f)[j]? = some u → (w.alloc (.cells #[] 191)).cell? (Addr.add ⟨h, 0, none⟩ j) = some u) := nl_cells fun j hj => ((Below.refl _ w).alloc (Nat.le_refl _) _).cell (p := ⟨h, j, none⟩) (lt_of_cell (hc j hj)) |>.trans (hc j hj)
  clear hc
  go_enter Tryz.func134, Tryz.ntmps134
  go_wp2_with (at_builtin; refine wpList_append_own _ rfl _ _ 129 rfl w.heap.size 191 i0 (.int .i16 0) 1 2 Tryz.underlying129 hi hz0 hz1 hz2 rfl (by decide) _ _ [] rfl (World.ownsRow_lit w #[] 0 (Nat.le_refl _) (by decide) rfl) ⟨h, 0, none⟩ S cap (nl .i16 S f) rfl (by rw [nl_len, Nat.mul_one]) HN.out (by intro u hu; simp [nl] at hu; obtain ⟨j, _, rfl⟩ := hu; rfl) (by unfold maxLen; omega) (by omega) (by simp) ?_; intro v' w2 hown2 hgrow _; obtain ⟨g, cap', ev, hCp⟩ := cpy_of hS0 rfl hown2 hgrow; subst ev; clear hgrow hown2)
  go_ret
  exact ⟨_, _, rfl, hCp⟩
set_option maxRecDepth 100000 in
set_option maxHeartbeats 2000000 in
theorem copied16 {w : World} {r h W S cap : Nat} {f : Nat → Int} (hR : Rw w r h .i16 W S cap f) (hS0 : 0 < S) (hS : S ≤ 1048576) :
    Calls Tryz.prog 129 #[.pointer (some ⟨r, 0, none⟩)] w fun e w' => ∃ r' h' cap', e = .returned (.iface 128 (.pointer (some ⟨r', 0, none⟩))) ∧ w.heap.size ≤ r' ∧ w.heap.size ≤ h' ∧ Rw w' r' h' .i16 W S cap' f ∧ Below w.heap.size w w' := by
  have h0 := hR.r0
  have h1 := hR.r1
  have CC := clone16 (w := w.drew) (cap := cap) hR.hc hS0 hS
  have l1 := lt_of_cell h0
  clear hR
  go_enter Tryz.func129, Tryz.ntmps129
  go_wp2_with fail
  go_region_held3 (fun V => V.cell? ⟨r, 0, none⟩ = some (.int .i64 (W : Int)) ∧ V.cell? ⟨r, 1, none⟩ = some (.slice (some ⟨h, 0, none⟩) S cap))
    (first | exact ⟨h0, h1⟩ | exact ⟨q0, q1⟩ | exact ⟨(HB.out.cell (p := ⟨r, 0, none⟩) l1).trans h0, (HB.out.cell (p := ⟨r, 1, none⟩) l1).trans h1⟩ | fail)
    (first | (go_at_call 134; refine CC.mono ?_; rintro e w2 ⟨g, cap', rfl, hCp⟩; have hb2 : Below w.heap.size w w2 := ((Below.refl _ w).drew).trans hCp.b; have q0 := (hb2.cell (p := ⟨r, 0, none⟩) l1).trans h0; have q1 := (hb2.cell (p := ⟨r, 1, none⟩) l1).trans h1; have HB := Lib.hid (hb2.alloc hb2.size (.cells #[.int .i64 (W : Int), .slice (some ⟨g, 0, none⟩) S cap'] 131))) | fail)
  go_wp2
  go_ret
  exact ⟨_, _, _, rfl, hb2.size, hCp.ge, rw_copy hCp hS0, HB.out⟩
set_option maxRecDepth 100000 in
set_option maxHeartbeats 2000000 in
theorem clone32 {w : World} {h S cap : Nat} {f : Nat → Int} (hc : ∀ j, j < S → w.cell? ⟨h, j, none⟩ = some (.int .i32 (f j))) (hS0 : 0 < S) (hS : S ≤ 1048576) :
    Calls Tryz.prog 141 #[.slice (some ⟨h, 0, none⟩) S cap] w fun e w' => ∃ g cap', e = .returned (.slice (some ⟨g, 0, none⟩) S cap') ∧ Cpy w w' g S cap' .i32 f := by
  obtain ⟨i0, hi, hz0, hz1, hz2⟩ := info_parts Tryz.info32
  have hn : ∀ w h S cap, (binOp .eql 133 (.slice (some ⟨h, 0, none⟩) S cap) (.slice none 0 0)).run Tryz.prog w = .ok (.bool false) w := fun _ _ _ _ => by kernel_rfl
  have HN : Hid (∀ j u, (nl .i32 S f)[j]? = some u → (w.alloc (.cells #[] 21)).cell? (Addr.add ⟨h, 0, none⟩ j) = some u) := nl_cells fun j hj => ((Below.refl _ w).alloc (Nat.le_refl _) _).cell (p := ⟨h, j, none⟩) (lt_of_cell (hc j hj)) |>.trans (hc j hj)
  clear hc
  go_enter Tryz.func141, Tryz.ntmps141
  go_wp2_with (at_builtin; refine wpList_append_own _ rfl _ _ 133 rfl w.heap.size 21 i0 (.int .i32 0) 1 4 Tryz.underlying133 hi hz0 hz1 hz2 rfl (by decide) _ _ [] rfl (World.ownsRow_lit w #[] 0 (Nat.le_refl _) (by decide) rfl) ⟨h, 0, none⟩ S cap (nl .i32 S f) rfl (by rw [nl_len, Nat.mul_one]) HN.out (by intro u hu; simp [nl] at hu; obtain ⟨j, _, rfl⟩ := hu; rfl) (by unfold maxLen; omega) (by omega) (by simp) ?_; intro v' w2 hown2 hgrow _; obtain ⟨g, cap', ev, hCp⟩ := cpy_of hS0 rfl hown2 hgrow; subst ev; clear hgrow hown2)
  go_ret
  exact ⟨_, _, rfl, hCp⟩
set_option maxRecDepth 100000 in
set_option maxHeartbeats 2000000 in
theorem copied32 {w : World} {r h W S cap : Nat} {f : Nat → Int} (hR : Rw w r h .i32 W S cap f) (hS0 : 0 < S) (hS : S ≤ 1048576) :
    Calls Tryz.prog 136 #[.pointer (some ⟨r, 0, none⟩)] w fun e w' => ∃ r' h' cap', e = .returned (.iface 132 (.pointer (some ⟨r', 0, none⟩))) ∧ w.heap.size ≤ r' ∧ w.heap.size ≤ h' ∧ Rw w' r' h' .i32 W S cap' f ∧ Below w.heap.size w w' := by
  have h0 := hR.r0
  have h1 := hR.r1
  have CC := clone32 (w := w.drew) (cap := cap) hR.hc hS0 hS
  have l1 := lt_of_cell h0
  clear hR
  go_enter Tryz.func136, Tryz.ntmps136
  go_wp2_with fail
  go_region_held3 (fun V => V.cell? ⟨r, 0, none⟩ = some (.int .i64 (W : Int)) ∧ V.cell? ⟨r, 1, none⟩ = some (.slice (some ⟨h, 0, none⟩) S cap))
    (first | exact ⟨h0, h1⟩ | exact ⟨q0, q1⟩ | exact ⟨(HB.out.cell (p := ⟨r, 0, none⟩) l1).trans h0, (HB.out.cell (p := ⟨r, 1, none⟩) l1).trans h1⟩ | fail)
    (first | (go_at_call 141; refine CC.mono ?_; rintro e w2 ⟨g, cap', rfl, hCp⟩; have hb2 : Below w.heap.size w w2 := ((Below.refl _ w).drew).trans hCp.b; have q0 := (hb2.cell (p := ⟨r, 0, none⟩) l1).trans h0; have q1 := (hb2.cell (p := ⟨r, 1, none⟩) l1).trans h1; have HB := Lib.hid (hb2.alloc hb2.size (.cells #[.int .i64 (W : Int), .slice (some ⟨g, 0, none⟩) S cap'] 135))) | fail)
  go_wp2
  go_ret
  exact ⟨_, _, _, rfl, hb2.size, hCp.ge, rw_copy hCp hS0, HB.out⟩
theorem row_copied {w : World} {r h W S cap L : Nat} {f : Nat → Int} (hR : Rw w r h (kd L) W S cap f) (hS0 : 0 < S) (hS : S ≤ 1048576) :
    Calls Tryz.prog (copiedF L) #[.pointer (some ⟨r, 0, none⟩)] w fun e w' => ∃ r' h' cap', e = .returned (.iface (rty L) (.pointer (some ⟨r', 0, none⟩))) ∧ w.heap.size ≤ r' ∧ w.heap.size ≤ h' ∧ Rw w' r' h' (kd L) W S cap' f ∧ Below w.heap.size w w' := by
  rcases L_cases L with h1 | ⟨h1, h2⟩ | ⟨h1, h2⟩
  · rw [show kd L = .i8 by simp [kd, h1]] at hR ⊢
    rw [show copiedF L = 122 by simp [copiedF, h1], show rty L = 124 by simp [rty, h1]]
    exact copied8 hR hS0 hS
  · rw [show kd L = .i16 by simp [kd, h1, h2]] at hR ⊢
    rw [show copiedF L = 129 by simp [copiedF, h1, h2], show rty L = 128 by simp [rty, h1, h2]]
    exact copied16 hR hS0 hS
  · rw [show kd L = .i32 by simp [kd, h1, h2]] at hR ⊢
    rw [show copiedF L = 136 by simp [copiedF, h1, h2], show rty L = 132 by simp [rty, h1, h2]]
    exact copied32 hR hS0 hS
end Go.Proofs.YtbpflmdefpjcaaaGreat
namespace Go.Proofs.YtbpflmdefpjcaaaGreat
open Go.RowKit Go.WideShapes

/-- What All hands out: a copy's each. -/
def itv (L r : Nat) : Value := .func (.method "lexicon/cells.each") #[.iface (rty L) (.pointer (some ⟨r, 0, none⟩))] #[]
theorem allM_any {w : World} {g r h L S : Nat} {f : Nat → Int} (hC : Cl w g r h L S f) : Calls Tryz.prog 46 #[.pointer (some ⟨g, 0, none⟩)] w fun e w' => ∃ r' h' cap', e = .returned (itv L r') ∧ w.heap.size ≤ r' ∧ w.heap.size ≤ h' ∧ Rw w' r' h' (kd L) (wd L) S cap' f ∧ Below w.heap.size w w' := by
  have C1 := isNone_cl hC
  have C2 := row_copied hC.rw (by have := hC.sz.pos; omega) hC.sz.most
  have h1 := hC.c1
  have hm := fun w => m_copied L (some ⟨r, 0, none⟩) w
  have he := e_copied L
  have hmf : ∀ (fn : Fn) (first cap : Array Value) (w : World), (Instr.makeFunc fn first cap).run Tryz.prog w = .ok (.func fn first cap) w := fun _ _ _ _ => rfl
  unfold itv
  clear hC
  generalize copiedF L = Y at *
  generalize rty L = T at *
  generalize kd L = K0 at *
  generalize wd L = W0 at *
  go_enter Tryz.func46, Tryz.ntmps46
  go_wp2_with fail
  refine C1.mono ?_
  rintro e w1 ⟨rfl, rfl⟩
  clear C1
  go_wp2_with fail
  refine C2.mono ?_
  rintro e w2 ⟨r', h', cap', rfl, h2, h3, hR, hB⟩
  clear C2
  go_wp2
  go_ret
  exact ⟨_, _, _, rfl, h2, h3, hR, hB⟩
end Go.Proofs.YtbpflmdefpjcaaaGreat
namespace Go.Proofs.YtbpflmdefpjcaaaGreat
open Go.RowKit Go.WideShapes
attribute [local go_sem] Oper.semAt_some

set_option maxRecDepth 100000 in
set_option maxHeartbeats 4000000 in
theorem seq8 {w : World} {r h W S cap : Nat} {f : Nat → Int} (hR : Rw w r h .i8 W S cap f) (hS : S ≤ 1048576) (hf : ∀ i, i < S → -2147483648 ≤ f i ∧ f i < 2147483648) (hlr : r < w.heap.size) :
    SeqAt Tryz.prog 123 (fun l => #[.pointer (some ⟨r, 0, none⟩), .func (.yield l) #[] #[]]) (fun i => #[.int .i64 (i : Int), .int .i64 (f i)]) S (fun V => ∀ j, j < S → V.cell? ⟨h, j, none⟩ = some (.int .i8 (f j))) w := by
  intro l J Jx W0 hB HJ0 HJX0 HK0 hY0 J0
  have HJ := Lib.hid HJ0
  have HY := Lib.hid hY0
  have h1 := (hB.cell (p := ⟨r, 1, none⟩) hlr).trans hR.r1
  have h5 := hR.le
  have HK := Lib.hid HK0
  have HF := Lib.hid hf
  clear hR hf HJ0 HJX0 hY0 HK0
  refine callsIn_of_wp Tryz.func123 rfl trivial ?_ rfl
  simp only [Tryz.ntmps123, List.size_toArray, List.length_cons, List.length_nil, Nat.reduceAdd, Nat.reduceSub, Array.replicate_succ, Array.replicate_zero, List.push_toArray, List.append_toArray, List.nil_append, List.cons_append]
  gi_wp2_with fail
  gi_loopw [11] (fun iv wr => ∃ k : Nat, k ≤ S ∧ iv = .int .i64 (k : Int) ∧ J k wr) (fun iv _ => S - (intOf iv).toNat)
  case atStart => exact ⟨0, Nat.zero_le _, rfl, J0⟩
  case round =>
    obtain ⟨k, hk, rfl, hJ⟩ := hrel
    by_cases hlt : k < S
    · have t1 : (k : Int) < (S : Int) := by omega
      have h2 := HK.out k wr hJ k hlt
      have h3 := HF.out k hlt
      obtain ⟨fn, tmps, assign, body, hy, hR⟩ := HY.out k wr hlt hJ
      have h4 : IntKind.i64.wrap (f k) = f k := i64_small (by omega) (by omega)
      clear h3
      generalize f k = v at h2 h4 hy hR
      gi_wp2_with fail
      refine ⟨rfl, hR.mono ?_⟩
      clear hR hy
      rintro e w5 (⟨rfl, hJ5, _⟩ | ⟨rfl, hX5⟩)
      · gi_wp2_with fail
        go_roundw
        case rel => exact ⟨k + 1, by omega, by go_num, hJ5⟩
        case measure => simp [intOf]; omega
      · gi_wp2
        refine bodyPost_ret (v := .tuple #[]) (by simp [results, Tryz.results123, go_sem]) rfl ?_
        exact ⟨⟨_, rfl⟩, .inr ⟨k, hlt, hX5⟩⟩
    · obtain rfl : k = S := by omega
      have t1 : ¬ (k : Int) < (k : Int) := by omega
      gi_wp2
      go_end0
      exact ⟨⟨_, rfl⟩, .inl hJ⟩
set_option maxRecDepth 100000 in
set_option maxHeartbeats 4000000 in
theorem seq16 {w : World} {r h W S cap : Nat} {f : Nat → Int} (hR : Rw w r h .i16 W S cap f) (hS : S ≤ 1048576) (hf : ∀ i, i < S → -2147483648 ≤ f i ∧ f i < 2147483648) (hlr : r < w.heap.size) :
    SeqAt Tryz.prog 130 (fun l => #[.pointer (some ⟨r, 0, none⟩), .func (.yield l) #[] #[]]) (fun i => #[.int .i64 (i : Int), .int .i64 (f i)]) S (fun V => ∀ j, j < S → V.cell? ⟨h, j, none⟩ = some (.int .i16 (f j))) w := by
  intro l J Jx W0 hB HJ0 HJX0 HK0 hY0 J0
  have HJ := Lib.hid HJ0
  have HY := Lib.hid hY0
  have h1 := (hB.cell (p := ⟨r, 1, none⟩) hlr).trans hR.r1
  have h5 := hR.le
  have HK := Lib.hid HK0
  have HF := Lib.hid hf
  clear hR hf HJ0 HJX0 hY0 HK0
  refine callsIn_of_wp Tryz.func130 rfl trivial ?_ rfl
  simp only [Tryz.ntmps130, List.size_toArray, List.length_cons, List.length_nil, Nat.reduceAdd, Nat.reduceSub, Array.replicate_succ, Array.replicate_zero, List.push_toArray, List.append_toArray, List.nil_append, List.cons_append]
  gi_wp2_with fail
  gi_loopw [11] (fun iv wr => ∃ k : Nat, k ≤ S ∧ iv = .int .i64 (k : Int) ∧ J k wr) (fun iv _ => S - (intOf iv).toNat)
  case atStart => exact ⟨0, Nat.zero_le _, rfl, J0⟩
  case round =>
    obtain ⟨k, hk, rfl, hJ⟩ := hrel
    by_cases hlt : k < S
    · have t1 : (k : Int) < (S : Int) := by omega
      have h2 := HK.out k wr hJ k hlt
      have h3 := HF.out k hlt
      obtain ⟨fn, tmps, assign, body, hy, hR⟩ := HY.out k wr hlt hJ
      have h4 : IntKind.i64.wrap (f k) = f k := i64_small (by omega) (by omega)
      clear h3
      generalize f k = v at h2 h4 hy hR
      gi_wp2_with fail
      refine ⟨rfl, hR.mono ?_⟩
      clear hR hy
      rintro e w5 (⟨rfl, hJ5, _⟩ | ⟨rfl, hX5⟩)
      · gi_wp2_with fail
        go_roundw
        case rel => exact ⟨k + 1, by omega, by go_num, hJ5⟩
        case measure => simp [intOf]; omega
      · gi_wp2
        refine bodyPost_ret (v := .tuple #[]) (by simp [results, Tryz.results130, go_sem]) rfl ?_
        exact ⟨⟨_, rfl⟩, .inr ⟨k, hlt, hX5⟩⟩
    · obtain rfl : k = S := by omega
      have t1 : ¬ (k : Int) < (k : Int) := by omega
      gi_wp2
      go_end0
      exact ⟨⟨_, rfl⟩, .inl hJ⟩
set_option maxRecDepth 100000 in
set_option maxHeartbeats 4000000 in
theorem seq32 {w : World} {r h W S cap : Nat} {f : Nat → Int} (hR : Rw w r h .i32 W S cap f) (hS : S ≤ 1048576) (hf : ∀ i, i < S → -2147483648 ≤ f i ∧ f i < 2147483648) (hlr : r < w.heap.size) :
    SeqAt Tryz.prog 137 (fun l => #[.pointer (some ⟨r, 0, none⟩), .func (.yield l) #[] #[]]) (fun i => #[.int .i64 (i : Int), .int .i64 (f i)]) S (fun V => ∀ j, j < S → V.cell? ⟨h, j, none⟩ = some (.int .i32 (f j))) w := by
  intro l J Jx W0 hB HJ0 HJX0 HK0 hY0 J0
  have HJ := Lib.hid HJ0
  have HY := Lib.hid hY0
  have h1 := (hB.cell (p := ⟨r, 1, none⟩) hlr).trans hR.r1
  have h5 := hR.le
  have HK := Lib.hid HK0
  have HF := Lib.hid hf
  clear hR hf HJ0 HJX0 hY0 HK0
  refine callsIn_of_wp Tryz.func137 rfl trivial ?_ rfl
  simp only [Tryz.ntmps137, List.size_toArray, List.length_cons, List.length_nil, Nat.reduceAdd, Nat.reduceSub, Array.replicate_succ, Array.replicate_zero, List.push_toArray, List.append_toArray, List.nil_append, List.cons_append]
  gi_wp2_with fail
  gi_loopw [11] (fun iv wr => ∃ k : Nat, k ≤ S ∧ iv = .int .i64 (k : Int) ∧ J k wr) (fun iv _ => S - (intOf iv).toNat)
  case atStart => exact ⟨0, Nat.zero_le _, rfl, J0⟩
  case round =>
    obtain ⟨k, hk, rfl, hJ⟩ := hrel
    by_cases hlt : k < S
    · have t1 : (k : Int) < (S : Int) := by omega
      have h2 := HK.out k wr hJ k hlt
      have h3 := HF.out k hlt
      obtain ⟨fn, tmps, assign, body, hy, hR⟩ := HY.out k wr hlt hJ
      have h4 : IntKind.i64.wrap (f k) = f k := i64_small (by omega) (by omega)
      clear h3
      generalize f k = v at h2 h4 hy hR
      gi_wp2_with fail
      refine ⟨rfl, hR.mono ?_⟩
      clear hR hy
      rintro e w5 (⟨rfl, hJ5, _⟩ | ⟨rfl, hX5⟩)
      · gi_wp2_with fail
        go_roundw
        case rel => exact ⟨k + 1, by omega, by go_num, hJ5⟩
        case measure => simp [intOf]; omega
      · gi_wp2
        refine bodyPost_ret (v := .tuple #[]) (by simp [results, Tryz.results137, go_sem]) rfl ?_
        exact ⟨⟨_, rfl⟩, .inr ⟨k, hlt, hX5⟩⟩
    · obtain rfl : k = S := by omega
      have t1 : ¬ (k : Int) < (k : Int) := by omega
      gi_wp2
      go_end0
      exact ⟨⟨_, rfl⟩, .inl hJ⟩
theorem row_seq {w : World} {r h W S cap L : Nat} {f : Nat → Int} (hR : Rw w r h (kd L) W S cap f) (hS : S ≤ 1048576) (hf : ∀ i, i < S → -2147483648 ≤ f i ∧ f i < 2147483648) (hlr : r < w.heap.size) :
    SeqAt Tryz.prog (eachF L) (fun l => #[.pointer (some ⟨r, 0, none⟩), .func (.yield l) #[] #[]]) (fun i => #[.int .i64 (i : Int), .int .i64 (f i)]) S (fun V => ∀ j, j < S → V.cell? ⟨h, j, none⟩ = some (.int (kd L) (f j))) w := by
  rcases L_cases L with h1 | ⟨h1, h2⟩ | ⟨h1, h2⟩
  · rw [show kd L = .i8 by simp [kd, h1]] at hR ⊢
    rw [show eachF L = 123 by simp [eachF, h1]]
    exact seq8 hR hS hf hlr
  · rw [show kd L = .i16 by simp [kd, h1, h2]] at hR ⊢
    rw [show eachF L = 130 by simp [eachF, h1, h2]]
    exact seq16 hR hS hf hlr
  · rw [show kd L = .i32 by simp [kd, h1, h2]] at hR ⊢
    rw [show eachF L = 137 by simp [eachF, h1, h2]]
    exact seq32 hR hS hf hlr
end Go.Proofs.YtbpflmdefpjcaaaGreat
namespace Go.Proofs.YtbpflmdefpjcaaaGreat
open Go.RowKit Go.WideShapes

/-- Entries in a slice. -/
def SlE (w : World) (a : Option Addr) (n cap : Nat) (es : List En) : Prop := n = es.length ∧ n ≤ cap ∧ ∃ ge, (0 < n → a = some ⟨ge, 0, none⟩ ∧ ge < w.heap.size) ∧ Ro w ge n cap es
theorem Es.sl {w : World} {v : Value} {es : List En} (h : Es w v es) : ∃ a cap, v = .slice a es.length cap ∧ SlE w a es.length cap es := by
  obtain ⟨a, cap, ge, e, hp, hr⟩ := h.open
  exact ⟨a, cap, e, rfl, hr.le, ge, fun h0 => ⟨(hp h0).1, h.lt ge (hp h0).2.1⟩, hr⟩
theorem SlE.below {w w' : World} {a : Option Addr} {n cap : Nat} {es : List En} (h : SlE w a n cap es) (hb : Below w.heap.size w w') : SlE w' a n cap es := by
  obtain ⟨h1, h2, ge, h3, h4⟩ := h
  refine ⟨h1, h2, ge, fun h0 => ⟨(h3 h0).1, Nat.lt_of_lt_of_le (h3 h0).2 hb.size⟩, ?_⟩
  have key : ∀ n', n' < n → ∀ o, w'.cell? ⟨ge, o, none⟩ = w.cell? ⟨ge, o, none⟩ := fun n' hn o => hb.cell (p := ⟨ge, o, none⟩) (h3 (by omega)).2
  exact ⟨h4.le, fun n hn => (key n hn _).trans (h4.c0 n hn), fun n hn => (key n hn _).trans (h4.c1 n hn), fun n hn => (key n hn _).trans (h4.c2 n hn), fun n hn => (key n hn _).trans (h4.c3 n hn), fun n hn => (key n hn _).trans (h4.c4 n hn)⟩
/-- Ints in a slice. -/
def SlN (w : World) (a : Option Addr) (n cap : Nat) (f : Nat → Int) : Prop := n ≤ cap ∧ ∃ b, (0 < n → a = some ⟨b, 0, none⟩ ∧ b < w.heap.size) ∧ ∀ j, j < n → w.cell? ⟨b, j, none⟩ = some (.int .i64 (f j))
theorem SlN.below {w w' : World} {a : Option Addr} {n cap : Nat} {f : Nat → Int} (h : SlN w a n cap f) (hb : Below w.heap.size w w') : SlN w' a n cap f := by
  obtain ⟨h2, b, h3, h4⟩ := h
  exact ⟨h2, b, fun h0 => ⟨(h3 h0).1, Nat.lt_of_lt_of_le (h3 h0).2 hb.size⟩, fun j hj => (hb.cell (p := ⟨b, j, none⟩) (h3 (by omega)).2).trans (h4 j hj)⟩
/-- What Sight tells. -/
def siV (log width : Int) (ca : Option Addr) (cn cc : Nat) (ea : Option Addr) (en ec : Nat) (live births made : Int) : Value :=
  .agg #[.int .i64 log, .int .i64 width, .slice ca cn cc, .slice ea en ec, .int .i64 live, .int .i64 births, .int .i64 made]
/-- The first n of these ints. -/
def il (n : Nat) (f : Nat → Int) : List Value := (List.range n).map fun j => Value.int .i64 (f j)
theorem il_len (n : Nat) (f : Nat → Int) : (il n f).length = n := by simp [il]
theorem il_get (n : Nat) (f : Nat → Int) (j : Nat) (hj : j < n) : (il n f)[j]? = some (.int .i64 (f j)) := by simp [il, hj]
theorem il_one (n : Nat) (f : Nat → Int) : ∀ u ∈ il n f, u.oneCell' = true := by
  intro u hu
  simp [il] at hu
  obtain ⟨j, _, rfl⟩ := hu
  rfl
theorem own_sln {B : Nat} {w : World} {v : Value} {n : Nat} {f : Nat → Int} (h : w.ownsRow B 3 1 v n (il n f)) : ∃ a cap, v = .slice a n cap ∧ SlN w a n cap f := by
  rcases h.2 with ⟨rfl, rfl⟩ | ⟨g, cap, cur, rfl, _, hh, hc, _⟩
  · exact ⟨none, 0, rfl, Nat.le_refl _, 0, fun h => by omega, fun j h => by omega⟩
  · exact ⟨_, cap, rfl, hc, g, fun _ => ⟨rfl, (Array.getElem?_eq_some_iff.1 hh).1⟩, fun j hj => by rw [h.cellAt j (by omega), il_get _ _ _ hj]⟩
theorem SlN.same {w w' : World} {a : Option Addr} {n cap B : Nat} {f : Nat → Int} (h : w.ownsRow B 3 1 (.slice a n cap) n (il n f)) (e : ∀ k, B ≤ k → k < w.heap.size → w'.heap[k]? = w.heap[k]?) (hs : w.heap.size ≤ w'.heap.size) : SlN w' a n cap f := by
  rcases h.2 with ⟨h1, h2⟩ | ⟨g, cap', cur, h1, hg, hh, hc, _⟩
  · cases h1; exact ⟨Nat.le_refl _, 0, fun h => by omega, fun j h => by omega⟩
  · cases h1
    have lg := (Array.getElem?_eq_some_iff.1 hh).1
    exact ⟨hc, g, fun _ => ⟨rfl, by omega⟩, fun j hj => (World.cell?_of_block (a := ⟨g, j, none⟩) (e g hg lg)).trans (by rw [h.cellAt j (by omega), il_get _ _ _ hj])⟩
end Go.Proofs.YtbpflmdefpjcaaaGreat
namespace Go.Proofs.YtbpflmdefpjcaaaGreat
open Go.RowKit Go.WideShapes
attribute [local go_sem] Oper.semAt_some

/-- Ints in a block of their own. -/
def Row1 (w : World) (h S : Nat) (f : Nat → Int) : Prop := w.heap[h]? = some (.cells (il S f).toArray 3 (0, 0))
theorem Row1.cell {w : World} {h S : Nat} {f : Nat → Int} (x : Row1 w h S f) (j : Nat) (hj : j < S) : w.cell? ⟨h, j, none⟩ = some (.int .i64 (f j)) := by
  unfold Row1 at x
  simp [World.cell?, x, il, hj]
theorem Row1.free {w : World} {h S : Nat} {f : Nat → Int} (x : Row1 w h S f) (j : Nat) : w.frozen? ⟨h, j, none⟩ = false := by
  unfold Row1 at x
  simp [World.frozen?, x]
theorem Row1.same {w w' : World} {h S : Nat} {f : Nat → Int} (x : Row1 w h S f) (e : w'.heap[h]? = w.heap[h]?) : Row1 w' h S f := e.trans x
theorem Row1.lt {w : World} {h S : Nat} {f : Nat → Int} (x : Row1 w h S f) : h < w.heap.size := (Array.getElem?_eq_some_iff.1 x).1
theorem il_upd (S : Nat) (f : Nat → Int) (i : Nat) (v : Int) : (il S f).toArray.setIfInBounds i (.int .i64 v) = (il S (upd f i v)).toArray := by
  apply Array.ext
  · simp [il]
  · intro j h1 h2
    simp [il] at h1
    by_cases e : j = i
    · subst e
      simp [il, upd]
    · have e' : ¬ i = j := fun x => e x.symm
      simp [il, upd, e, e']
theorem Row1.put {w : World} {h S : Nat} {f : Nat → Int} (x : Row1 w h S f) (i : Nat) (v : Int) : Row1 (w.setCell ⟨h, i, none⟩ (.int .i64 v)) h S (upd f i v) := by
  unfold Row1
  rw [setCell_eq_setRow w h i _ _ _ _ x, setRow_heap w h _ _ _ _ x, il_upd]
theorem Row1.own {w : World} {h S B : Nat} {f : Nat → Int} (x : Row1 w h S f) (hB : B ≤ h) (hS : S ≤ maxLen) : w.ownsRow B 3 1 (.slice (some ⟨h, 0, none⟩) S S) S (il S f) :=
  ⟨by rw [il_len, Nat.mul_one], .inr ⟨h, S, _, rfl, hB, x, Nat.le_refl _, hS, by simp [il_len], by simp; exact List.take_of_length_le (by rw [il_len]; exact Nat.le_refl _)⟩⟩
theorem row1_made {w : World} {B h S : Nat} (x : w.ownsRow B 3 1 (.slice (some ⟨h, 0, none⟩) S S) S (madeCells (Value.int .i64 0).cells (S * 1)).toList) : Row1 w h S (fun _ => 0) := by
  rcases x.2 with ⟨e, _⟩ | ⟨g, cap, cur, e, h1, h2, h3, h4, h5, h6⟩
  · cases e
  cases e
  have hc : cur = (il S (fun _ => 0)).toArray := by
    have h7 : cur.toList = (madeCells (Value.int .i64 0).cells (S * 1)).toList := by rw [← h6, List.take_of_length_le (by rw [Array.length_toList, h5]; exact Nat.le_refl _)]
    apply Array.toList_inj.1
    rw [h7]
    apply List.ext_getElem?
    intro j
    by_cases hj : j < S
    · simp [madeCells, il, Value.cells, hj, Nat.mod_one]
    · simp [madeCells, il, Value.cells, hj, Nat.mod_one]
  unfold Row1
  rw [h2, hc]
theorem Row1.congr {w : World} {h S : Nat} {f f' : Nat → Int} (x : Row1 w h S f) (e : ∀ j, j < S → f' j = f j) : Row1 w h S f' := by
  unfold Row1 at x ⊢
  rw [x]
  have : il S f = il S f' := by
    unfold il
    apply List.map_congr_left
    intro j hj
    rw [e j (List.mem_range.1 hj)]
  rw [this]
theorem each_dl (L r l : Nat) (W : World) : (invoke (.fn (.method "lexicon/cells.each") #[]) #[.iface (rty L) (.pointer (some ⟨r, 0, none⟩)), .func (.yield l) #[] #[]]).run Tryz.prog W = .ok (.enter (eachF L) #[.pointer (some ⟨r, 0, none⟩), .func (.yield l) #[] #[]]) W := by
  have hm := fun w => m_each L (some ⟨r, 0, none⟩) w
  have he := e_each L
  simp [invoke, callMethod, go_sem, hm, he]
/-- What Sight tells of t, in new rows. -/
structure SgV (B : Nat) (w : World) (t : Tb) (hc : Nat) (ev' : Value) : Prop where
  row : Row1 w hc (2 ^ t.L) t.c
  es : EsB B w ev' (shw t.es)
  hB : B ≤ hc
  ne : ev'.ownBlock ≠ some hc
def sgV (t : Tb) (hc : Nat) (ev' : Value) : Value := .agg #[.int .i64 (t.L : Int), .int .i64 (wd t.L : Int), .slice (some ⟨hc, 0, none⟩) (2 ^ t.L) (2 ^ t.L), ev', .int .i64 (t.live : Int), .int .i64 (t.births : Int), .int .i64 (t.made : Int)]
def zS : Nat → Value
  | 2 => .slice none 0 0
  | 3 => .slice none 0 0
  | _ => .int .i64 0
/-- Seven cells set. -/
def put7 (w : World) (R : Nat) (v0 v1 v2 v3 v4 v5 v6 : Value) : World := ((((((w.setCell ⟨R, 0, none⟩ v0).setCell ⟨R, 1, none⟩ v1).setCell ⟨R, 2, none⟩ v2).setCell ⟨R, 3, none⟩ v3).setCell ⟨R, 4, none⟩ v4).setCell ⟨R, 5, none⟩ v5).setCell ⟨R, 6, none⟩ v6
theorem put7_other (w : World) (R : Nat) (v0 v1 v2 v3 v4 v5 v6 : Value) (k : Nat) (hk : k ≠ R) : (put7 w R v0 v1 v2 v3 v4 v5 v6).heap[k]? = w.heap[k]? := by
  unfold put7
  rw [Below.heap_setCell _ _ _ _ hk, Below.heap_setCell _ _ _ _ hk, Below.heap_setCell _ _ _ _ hk, Below.heap_setCell _ _ _ _ hk, Below.heap_setCell _ _ _ _ hk, Below.heap_setCell _ _ _ _ hk, Below.heap_setCell _ _ _ _ hk]
theorem put7_size (w : World) (R : Nat) (v0 v1 v2 v3 v4 v5 v6 : Value) : (put7 w R v0 v1 v2 v3 v4 v5 v6).heap.size = w.heap.size := by unfold put7; simp
theorem put7_below {B : Nat} {a w : World} (h : Below B a w) (R : Nat) (hR : B ≤ R) (v0 v1 v2 v3 v4 v5 v6 : Value) : Below B a (put7 w R v0 v1 v2 v3 v4 v5 v6) := by
  unfold put7
  exact ((((((h.setCell (p := ⟨R, 0, none⟩) hR _).setCell (p := ⟨R, 1, none⟩) hR _).setCell (p := ⟨R, 2, none⟩) hR _).setCell (p := ⟨R, 3, none⟩) hR _).setCell (p := ⟨R, 4, none⟩) hR _).setCell (p := ⟨R, 5, none⟩) hR _).setCell (p := ⟨R, 6, none⟩) hR _
theorem put7_blk {w : World} {R : Nat} {F : Nat → Value} (h : Blk w R 7 F) (v0 v1 v2 v3 v4 v5 v6 : Value) : Blk (put7 w R v0 v1 v2 v3 v4 v5 v6) R 7 (fun j => [v0, v1, v2, v3, v4, v5, v6].getD j .nilFunc) := by
  unfold put7
  refine (((((((h.put 0 v0).put 1 v1).put 2 v2).put 3 v3).put 4 v4).put 5 v5).put 6 v6).congr fun j hj => ?_
  have : j = 0 ∨ j = 1 ∨ j = 2 ∨ j = 3 ∨ j = 4 ∨ j = 5 ∨ j = 6 := by omega
  rcases this with rfl | rfl | rfl | rfl | rfl | rfl | rfl <;> rfl
theorem Tryz.infoI : (Tryz.prog.info? 3).map (fun i => (i.zero, i.size, i.bytes)) = some (some (.int .i64 0), 1, 8) := by kernel_rfl
set_option maxRecDepth 100000 in
set_option maxHeartbeats 4000000 in
theorem dsight_any {w : World} {g gi r h : Nat} {ev : Value} {t : Tb} {mv : Value} (hD : Dt w g gi r h ev t mv) (hlen : t.es.length ≤ 100000) :
    Calls Tryz.prog 31 #[.pointer (some ⟨g, 0, none⟩)] w fun e w' => ∃ hc ev', e = .returned (sgV t hc ev') ∧ SgV w.heap.size w' t hc ev' ∧ Below w.heap.size w w' := by
  obtain ⟨i0, hi, hz0, hz1, hz2⟩ := info_parts Tryz.infoI
  have hlg := hD.hd.lt (by omega)
  have hSz := hD.cl.sz
  have hm := hSz.most
  have hpos := hSz.pos
  obtain ⟨w1, hw1⟩ : ∃ x, w.alloc (.cells #[.int .i64 0, .int .i64 0, .slice none 0 0, .slice none 0 0, .int .i64 0, .int .i64 0, .int .i64 0] 64) = x := ⟨_, rfl⟩
  have hB1 : Below w.heap.size w w1 := by rw [← hw1]; exact (Below.refl _ w).alloc (Nat.le_refl _) _
  have hR1 : Blk w1 w.heap.size 7 zS := by
    rw [← hw1]
    refine (Blk.new w _ _).congr fun j hj => ?_
    have : j = 0 ∨ j = 1 ∨ j = 2 ∨ j = 3 ∨ j = 4 ∨ j = 5 ∨ j = 6 := by simp at hj; omega
    rcases this with rfl | rfl | rfl | rfl | rfl | rfl | rfl <;> rfl
  have hs1 : w1.heap.size = w.heap.size + 1 := by rw [← hw1]; simp
  have hD1 := hD.below hB1
  have k1 : w1.cell? ⟨g, 1, none⟩ = some (.pointer (some ⟨gi, 0, none⟩)) := hD1.hd.c 1 (by omega)
  have CR := ready_yes k1
  have CS := sizeM_any hD1.cl
  obtain ⟨S, hSS⟩ : ∃ S, 2 ^ t.L = S := ⟨_, rfl⟩
  rw [hSS] at CS hm hpos
  obtain ⟨w3, hmk, hown3, hgrow3⟩ := run_makeSlice_full (P := Tryz.prog) w1 w.heap.size 30 3 i0 (.int .i64 0) 1 Tryz.underlying30 hi hz0 hz1 .i64 .i64 S (by omega) (by rw [hz2]; omega) (by unfold maxLen; omega) (by omega)
  have hB3 : Below w1.heap.size w1 w3 := (Below.refl _ w1).grown hgrow3 (Nat.le_refl _) (fun k e => by cases e)
  have hRow3 : Row1 w3 w1.heap.size S (fun _ => 0) := row1_made hown3
  rw [hs1] at hmk hRow3
  have hs3 := hB3.size
  have hl3 := hRow3.lt
  obtain ⟨w4, hw4⟩ : ∃ x, w3.alloc (.cells #[.slice (some ⟨w.heap.size + 1, 0, none⟩) S S] 30) = x := ⟨_, rfl⟩
  have hB34 : Below w3.heap.size w3 w4 := by rw [← hw4]; exact (Below.refl _ w3).alloc (Nat.le_refl _) _
  have hs4 : w4.heap.size = w3.heap.size + 1 := by rw [← hw4]; simp
  have hb4 : w4.cell? ⟨w3.heap.size, 0, none⟩ = some (.slice (some ⟨w.heap.size + 1, 0, none⟩) S S) := by rw [← hw4]; exact cell_alloc_new _ _ _ _ rfl
  have hB4 : Below w.heap.size w w4 := hB1.trans ((hB3.trans (hB34.mono hs3)).mono (by omega))
  have hR4 : Blk w4 w.heap.size 7 zS := hR1.same (((hB34.block _ (by omega)).trans (hB3.block _ (by omega))))
  have hRow4 : Row1 w4 (w.heap.size + 1) S (fun _ => 0) := hRow3.same (hB34.block _ hl3)
  have hD4 := hD.below hB4
  have k4 : w4.cell? ⟨g, 1, none⟩ = some (.pointer (some ⟨gi, 0, none⟩)) := hD4.hd.c 1 (by omega)
  have k4r : (w3.alloc (.cells #[.slice (some ⟨w.heap.size + 1, 0, none⟩) S S] 30)).cell? ⟨g, 1, none⟩ = some (.pointer (some ⟨gi, 0, none⟩)) := by rw [hw4]; exact k4
  have CA := allM_any hD4.cl
  rw [hSS] at CA
  have HD := Lib.hid hD
  have HW1 := Lib.hid hw1
  have HW4 := Lib.hid hw4
  have HSS := Lib.hid hSS
  have HB4 := Lib.hid hB4
  have HR4 := Lib.hid hR4
  have HRow4 := Lib.hid hRow4
  clear hw1 hD1 hR1 hD hw4 hD4 hR4 hRow4 hRow3 hown3 hgrow3 hB4 hSS
  refine callsIn_wide.1 (callsIn_of_wp_marks (n := 0) Tryz.func31 rfl trivial ?_ rfl)
  simp only [Tryz.ntmps31, List.size_toArray, List.length_cons, List.length_nil, Nat.reduceAdd, Nat.reduceSub, Array.replicate_succ, Array.replicate_zero, List.push_toArray, List.append_toArray, List.nil_append, List.cons_append]
  gi_wp2_with fail
  rw [HW1.out]
  refine ⟨trivial, rfl, (callsIn_wide.2 CR).mono ?_⟩
  rintro e w2 ⟨rfl, rfl⟩
  clear CR
  gi_wp2_with fail
  refine ⟨trivial, rfl, (callsIn_wide.2 CS).mono ?_⟩
  rintro e w2 ⟨rfl, rfl⟩
  clear CS
  gi_wp2_with fail
  rw [HW4.out]
  refine ⟨trivial, rfl, (callsIn_wide.2 CA).mono ?_⟩
  rintro e w5 ⟨r', h', cap', rfl, hr', hh', hRw5, hB5⟩
  clear CA
  unfold itv
  have hs5 := hB5.size
  obtain ⟨hlr5, hlh5⟩ := hRw5.lt (by omega)
  have hints : ∀ i, i < S → -2147483648 ≤ t.c i ∧ t.c i < 2147483648 := fun i hi => HD.out.cl.ints i (by rw [HSS.out]; exact hi)
  have HSQ := Lib.hid (row_seq hRw5 hm hints hlr5)
  have HRC := Lib.hid hRw5.hc
  have hI0 : Below w.heap.size w w5 ∧ w5.cell? ⟨w3.heap.size, 0, none⟩ = some (.slice (some ⟨w.heap.size + 1, 0, none⟩) S S) ∧ Row1 w5 (w.heap.size + 1) S (mix 0 t.c (fun _ => 0)) ∧ Blk w5 w.heap.size 7 zS ∧ ∀ j, j < S → w5.cell? ⟨h', j, none⟩ = some (.int (kd t.L) (t.c j)) :=
    ⟨HB4.out.trans (hB5.mono (by omega)), (hB5.cell (p := ⟨w3.heap.size, 0, none⟩) (by show w3.heap.size < _; omega)).trans hb4, (HRow4.out.same (hB5.block _ (by omega))).congr (fun j _ => by simp [mix]), HR4.out.same (hB5.block _ (by omega)), HRC.out⟩
  have HI0 := Lib.hid hI0
  clear hI0 hints hRw5 k4 k4r hmk k1
  gi_wp2_with fail
  refine wpIn_range_at (gf := eachF t.L) (args := fun l => #[.pointer (some ⟨r', 0, none⟩), .func (.yield l) #[] #[]]) (fun l => ⟨.fn (.method "lexicon/cells.each") #[], #[.iface (rty t.L) (.pointer (some ⟨r', 0, none⟩)), .func (.yield l) #[] #[]]⟩)
    (fun l W => by simp [resolve, Deferred.ofValue, go_sem, Act.eval]) (fun l W => each_dl t.L r' l W) HSQ.out (fun _ => rfl)
    (fun k W => Below w.heap.size w W ∧ W.cell? ⟨w3.heap.size, 0, none⟩ = some (.slice (some ⟨w.heap.size + 1, 0, none⟩) S S) ∧ Row1 W (w.heap.size + 1) S (mix k t.c (fun _ => 0)) ∧ Blk W w.heap.size 7 zS ∧ ∀ j, j < S → W.cell? ⟨h', j, none⟩ = some (.int (kd t.L) (t.c j)))
    (fun _ _ _ => False) ?hI (fun _ _ _ _ h _ => h) (fun k W h => h.2.2.2.2) HI0.out
    (fun k => { tmps := #[.pointer (some ⟨g, 0, none⟩), undef, .pointer (some ⟨w.heap.size, 0, none⟩), .pointer (some ⟨w3.heap.size, 0, none⟩), .int .i64 (k : Int), .int .i64 (t.c k), .pointer (some ⟨g, 0, none⟩), .bool false, undef, .pointer (some ⟨g, 0, none⟩), .tuple #[], .pointer (some ⟨g, 0, none⟩), .pointer (some ⟨g, 0, none⟩), .pointer (some ⟨g, 1, none⟩), .pointer (some ⟨gi, 0, none⟩), .int .i64 (S : Int), .slice (some ⟨w.heap.size + 1, 0, none⟩) S S, .pointer (some ⟨g, 0, none⟩), .pointer (some ⟨g, 0, none⟩), .pointer (some ⟨g, 1, none⟩), .pointer (some ⟨gi, 0, none⟩), .func (.method "lexicon/cells.each") #[.iface (rty t.L) (.pointer (some ⟨r', 0, none⟩))] #[], .int .i64 (k : Int), .int .i64 (t.c k), undef, undef, undef, undef, undef, undef, undef, undef, undef, undef, undef, undef, undef, undef, undef, undef, undef, undef, undef, undef, undef, undef, undef, undef, undef, undef, undef, undef, undef, undef], defers := [] }) ?assign ?body ?done (fun _ _ _ _ h _ => h.elim)
  case hI =>
    rintro k A A' ⟨x1, x2, x3, x4, x5⟩ hb
    exact ⟨x1.trans (hb.mono (by omega)), (hb.cell (p := ⟨w3.heap.size, 0, none⟩) (by show w3.heap.size < _; omega)).trans x2, x3.same (hb.block _ (by omega)), x4.same (hb.block _ (by omega)), fun j hj => (hb.cell (p := ⟨h', j, none⟩) hlh5).trans (x5 j hj)⟩
  case assign =>
    intro l k W K hK
    gi_wp2
    exact hK
  case body =>
    rintro l k W hk ⟨x1, x2, x3, x4, x5⟩
    have c1 := x3.cell k hk
    have z1 := x3.free k
    have t1 : (k : Int) < (S : Int) := by omega
    have HX : Hid (Since w5.heap.size W (W.setCell ⟨w.heap.size + 1, k, none⟩ (.int .i64 (t.c k))) ∧ Below w.heap.size w (W.setCell ⟨w.heap.size + 1, k, none⟩ (.int .i64 (t.c k))) ∧ (W.setCell ⟨w.heap.size + 1, k, none⟩ (.int .i64 (t.c k))).cell? ⟨w3.heap.size, 0, none⟩ = some (.slice (some ⟨w.heap.size + 1, 0, none⟩) S S) ∧ Row1 (W.setCell ⟨w.heap.size + 1, k, none⟩ (.int .i64 (t.c k))) (w.heap.size + 1) S (mix (k + 1) t.c (fun _ => 0)) ∧ Blk (W.setCell ⟨w.heap.size + 1, k, none⟩ (.int .i64 (t.c k))) w.heap.size 7 zS ∧ ∀ j, j < S → (W.setCell ⟨w.heap.size + 1, k, none⟩ (.int .i64 (t.c k))).cell? ⟨h', j, none⟩ = some (.int (kd t.L) (t.c j))) := by
      refine ⟨(Since.refl _ _).setCell (p := ⟨w.heap.size + 1, k, none⟩) (by show w.heap.size + 1 < _; omega) _, x1.setCell (p := ⟨w.heap.size + 1, k, none⟩) (by show w.heap.size ≤ w.heap.size + 1; omega) _, ?_, ?_, x4.same (Below.heap_setCell _ _ _ _ (by show w.heap.size ≠ w.heap.size + 1; omega)), fun j hj => ?_⟩
      · rw [World.cell?_setCell_other _ _ _ _ (by intro he; injection he with h1 h2; omega)]
        exact x2
      · rw [← mix_upd]
        exact x3.put k (t.c k)
      · rw [World.cell?_setCell_other _ _ _ _ (by intro he; injection he with h1 h2; omega)]
        exact x5 j hj
    clear x1 x3 x4 x5
    generalize t.c k = v at *
    gi_wp2
    exact HX.out
  case done =>
    rintro W ⟨x1, x2, x3, x4, _⟩ hK
    have hDW := HD.out.below x1
    have hRow : Row1 W (w.heap.size + 1) S t.c := x3.congr fun j hj => by simp [mix, hj]
    have y0 : W.cell? ⟨g, 1, none⟩ = some (.pointer (some ⟨gi, 0, none⟩)) := hDW.hd.c 1 (by omega)
    have y3 : W.cell? ⟨g, 3, none⟩ = some (.int .i64 (t.live : Int)) := hDW.hd.c 3 (by omega)
    have y4 : W.cell? ⟨g, 4, none⟩ = some (.int .i64 (t.births : Int)) := hDW.hd.c 4 (by omega)
    have y5 : W.cell? ⟨g, 5, none⟩ = some (.int .i64 (t.made : Int)) := hDW.hd.c 5 (by omega)
    have CLg : Hid (∀ V, Below W.heap.size W V → Calls Tryz.prog 47 #[.pointer (some ⟨gi, 0, none⟩)] V fun e w' => e = .returned (.int .i64 (t.L : Int)) ∧ w' = V) := fun V hV => log_any (hDW.cl.below hV)
    have CWd : Hid (∀ V, Below W.heap.size W V → Calls Tryz.prog 48 #[.pointer (some ⟨gi, 0, none⟩)] V fun e w' => e = .returned (.int .i64 (wd t.L : Int)) ∧ w' = V) := fun V hV => widthM_any (hDW.cl.below hV)
    have CCp := shown_any (w := W.drew) (g := g) (hDW.hd.c 2 (by omega)) (hDW.es.same fun _ _ => rfl) hlen
    have hsW := x1.size
    have hsW5 : w5.heap.size < W.heap.size := (Array.getElem?_eq_some_iff.1 hK).1
    have hB0 : Below W.heap.size W W.drew := (Below.refl _ W).drew
    have lgW : g < W.heap.size := by omega
    have HX1 := Lib.hid x1
    have HX4 := Lib.hid x4
    have HROW := Lib.hid hRow
    clear x3 x4 hDW hRow
    have d0 : W.drew.cell? ⟨g, 1, none⟩ = some (.pointer (some ⟨gi, 0, none⟩)) := y0
    have d3 : W.drew.cell? ⟨g, 3, none⟩ = some (.int .i64 (t.live : Int)) := y3
    have d4 : W.drew.cell? ⟨g, 4, none⟩ = some (.int .i64 (t.births : Int)) := y4
    have d5 : W.drew.cell? ⟨g, 5, none⟩ = some (.int .i64 (t.made : Int)) := y5
    have d2 : W.drew.cell? ⟨w3.heap.size, 0, none⟩ = some (.slice (some ⟨w.heap.size + 1, 0, none⟩) S S) := x2
    generalize hWd : wd t.L = Wd at *
    have HWD := Lib.hid hWd
    clear hWd
    gi_wp2_with fail
    refine (wpIn_wide (n := 0)).2 ?_
    go_region_held3 (fun V => V.cell? ⟨g, 1, none⟩ = some (.pointer (some ⟨gi, 0, none⟩)) ∧ V.cell? ⟨g, 3, none⟩ = some (.int .i64 (t.live : Int)) ∧ V.cell? ⟨g, 4, none⟩ = some (.int .i64 (t.births : Int)) ∧ V.cell? ⟨g, 5, none⟩ = some (.int .i64 (t.made : Int)) ∧ V.cell? ⟨w3.heap.size, 0, none⟩ = some (.slice (some ⟨w.heap.size + 1, 0, none⟩) S S))
      (first | with_reducible exact ⟨d0, d3, d4, d5, d2⟩ | with_reducible exact ⟨y0, y3, y4, y5, x2⟩ | with_reducible exact ⟨q0, q3, q4, q5, q2⟩ | with_reducible exact HP.out _ _ _ _ _ _ _ | fail)
      (first | (go_at_call 47; refine (CLg.out _ (by first | exact hB0 | exact hBV)).mono ?_; rintro e v2 ⟨rfl, rfl⟩) | (go_at_call 48; refine (CWd.out _ (by first | exact hB0 | exact hBV)).mono ?_; rintro e v2 ⟨rfl, rfl⟩) | (go_at_call 49; refine CCp.mono ?_; rintro e V ⟨cv, rfl, hEs, hBV0⟩; obtain ⟨ca, cc, hcv⟩ := ownsRow_shape hEs; rw [shw_len] at hcv; subst hcv; have hBV := hB0.trans hBV0; have HEs := Lib.hid hEs; clear hEs; have hBl := HX4.out.same (hBV.block _ (by omega)); have a0 := hBl.c 0 (by omega); have a1 := hBl.c 1 (by omega); have a2 := hBl.c 2 (by omega); have a3 := hBl.c 3 (by omega); have a4 := hBl.c 4 (by omega); have a5 := hBl.c 5 (by omega); have a6 := hBl.c 6 (by omega); have z0 := hBl.z 0; have z1 := hBl.z 1; have z2 := hBl.z 2; have z3 := hBl.z 3; have z4 := hBl.z 4; have z5 := hBl.z 5; have z6 := hBl.z 6; have HBl := Lib.hid hBl; clear hBl; have q0 := (hBV.cell (p := ⟨g, 1, none⟩) lgW).trans y0; have q3 := (hBV.cell (p := ⟨g, 3, none⟩) lgW).trans y3; have q4 := (hBV.cell (p := ⟨g, 4, none⟩) lgW).trans y4; have q5 := (hBV.cell (p := ⟨g, 5, none⟩) lgW).trans y5; have q2 := (hBV.cell (p := ⟨w3.heap.size, 0, none⟩) (by show w3.heap.size < _; omega)).trans x2; have HP : Hid (∀ v0 v1 v2 v3 v4 v5 v6, (((((((V.setCell ⟨w.heap.size, 0, none⟩ v0).setCell ⟨w.heap.size, 1, none⟩ v1).setCell ⟨w.heap.size, 2, none⟩ v2).setCell ⟨w.heap.size, 3, none⟩ v3).setCell ⟨w.heap.size, 4, none⟩ v4).setCell ⟨w.heap.size, 5, none⟩ v5).setCell ⟨w.heap.size, 6, none⟩ v6).cell? ⟨g, 1, none⟩ = some (.pointer (some ⟨gi, 0, none⟩)) ∧ (((((((V.setCell ⟨w.heap.size, 0, none⟩ v0).setCell ⟨w.heap.size, 1, none⟩ v1).setCell ⟨w.heap.size, 2, none⟩ v2).setCell ⟨w.heap.size, 3, none⟩ v3).setCell ⟨w.heap.size, 4, none⟩ v4).setCell ⟨w.heap.size, 5, none⟩ v5).setCell ⟨w.heap.size, 6, none⟩ v6).cell? ⟨g, 3, none⟩ = some (.int .i64 (t.live : Int)) ∧ (((((((V.setCell ⟨w.heap.size, 0, none⟩ v0).setCell ⟨w.heap.size, 1, none⟩ v1).setCell ⟨w.heap.size, 2, none⟩ v2).setCell ⟨w.heap.size, 3, none⟩ v3).setCell ⟨w.heap.size, 4, none⟩ v4).setCell ⟨w.heap.size, 5, none⟩ v5).setCell ⟨w.heap.size, 6, none⟩ v6).cell? ⟨g, 4, none⟩ = some (.int .i64 (t.births : Int)) ∧ (((((((V.setCell ⟨w.heap.size, 0, none⟩ v0).setCell ⟨w.heap.size, 1, none⟩ v1).setCell ⟨w.heap.size, 2, none⟩ v2).setCell ⟨w.heap.size, 3, none⟩ v3).setCell ⟨w.heap.size, 4, none⟩ v4).setCell ⟨w.heap.size, 5, none⟩ v5).setCell ⟨w.heap.size, 6, none⟩ v6).cell? ⟨g, 5, none⟩ = some (.int .i64 (t.made : Int)) ∧ (((((((V.setCell ⟨w.heap.size, 0, none⟩ v0).setCell ⟨w.heap.size, 1, none⟩ v1).setCell ⟨w.heap.size, 2, none⟩ v2).setCell ⟨w.heap.size, 3, none⟩ v3).setCell ⟨w.heap.size, 4, none⟩ v4).setCell ⟨w.heap.size, 5, none⟩ v5).setCell ⟨w.heap.size, 6, none⟩ v6).cell? ⟨w3.heap.size, 0, none⟩ = some (.slice (some ⟨w.heap.size + 1, 0, none⟩) S S)) := (fun v0 v1 v2 v3 v4 v5 v6 => ⟨(World.cell?_of_block (a := ⟨g, 1, none⟩) (put7_other V w.heap.size v0 v1 v2 v3 v4 v5 v6 g (by omega))).trans q0, (World.cell?_of_block (a := ⟨g, 3, none⟩) (put7_other V w.heap.size v0 v1 v2 v3 v4 v5 v6 g (by omega))).trans q3, (World.cell?_of_block (a := ⟨g, 4, none⟩) (put7_other V w.heap.size v0 v1 v2 v3 v4 v5 v6 g (by omega))).trans q4, (World.cell?_of_block (a := ⟨g, 5, none⟩) (put7_other V w.heap.size v0 v1 v2 v3 v4 v5 v6 g (by omega))).trans q5, (World.cell?_of_block (a := ⟨w3.heap.size, 0, none⟩) (put7_other V w.heap.size v0 v1 v2 v3 v4 v5 v6 w3.heap.size (by omega))).trans q2⟩)) | fail)
    have hge : ∀ k, (Value.slice ca t.es.length cc).ownBlock = some k → W.heap.size ≤ k := HEs.out.ge
    have hVs := hBV.size
    have HA9 := Lib.hid (put7_blk HBl.out (.int .i64 (t.L : Int)) (.int .i64 (Wd : Int)) (.slice (some ⟨w.heap.size + 1, 0, none⟩) S S) (.slice ca t.es.length cc) (.int .i64 (t.live : Int)) (.int .i64 (t.births : Int)) (.int .i64 (t.made : Int)))
    have HB9 : Hid (Below w.heap.size w (put7 V w.heap.size (.int .i64 (t.L : Int)) (.int .i64 (Wd : Int)) (.slice (some ⟨w.heap.size + 1, 0, none⟩) S S) (.slice ca t.es.length cc) (.int .i64 (t.live : Int)) (.int .i64 (t.births : Int)) (.int .i64 (t.made : Int)))) := put7_below (HX1.out.trans (hBV.mono hsW)) _ (Nat.le_refl _) _ _ _ _ _ _ _
    have HR9 : Hid (Row1 (put7 V w.heap.size (.int .i64 (t.L : Int)) (.int .i64 (Wd : Int)) (.slice (some ⟨w.heap.size + 1, 0, none⟩) S S) (.slice ca t.es.length cc) (.int .i64 (t.live : Int)) (.int .i64 (t.births : Int)) (.int .i64 (t.made : Int))) (w.heap.size + 1) S t.c) := HROW.out.same ((put7_other _ _ _ _ _ _ _ _ _ _ (by omega)).trans (hBV.block _ (by omega)))
    have HE9 : Hid (EsB W.heap.size (put7 V w.heap.size (.int .i64 (t.L : Int)) (.int .i64 (Wd : Int)) (.slice (some ⟨w.heap.size + 1, 0, none⟩) S S) (.slice ca t.es.length cc) (.int .i64 (t.live : Int)) (.int .i64 (t.births : Int)) (.int .i64 (t.made : Int))) (.slice ca t.es.length cc) (shw t.es)) := by
      refine ⟨HEs.out.1, ?_⟩
      rcases HEs.out.2 with h0 | ⟨g9, cap9, cur9, e9, h1, h2, h3⟩
      · exact .inl h0
      · exact .inr ⟨g9, cap9, cur9, e9, h1, (put7_other _ _ _ _ _ _ _ _ _ _ (by have : W.heap.size ≤ g9 := h1; omega)).trans h2, h3⟩
    have HD9 : Hid ((put7 V w.heap.size (.int .i64 (t.L : Int)) (.int .i64 (Wd : Int)) (.slice (some ⟨w.heap.size + 1, 0, none⟩) S S) (.slice ca t.es.length cc) (.int .i64 (t.live : Int)) (.int .i64 (t.births : Int)) (.int .i64 (t.made : Int))).heap[w5.heap.size]? = some (.deferred (some []))) := (put7_other _ _ _ _ _ _ _ _ _ _ (by omega)).trans ((hBV.block _ hsW5).trans hK)
    clear HEs HBl HP q0 q3 q4 q5 q2 a0 a1 a2 a3 a4 a5 a6 z0 z1 z2 z3 z4 z5 z6 y0 y3 y4 y5 d0 d3 d4 d5 d2 x2 CCp
    unfold put7 at HA9 HB9 HR9 HE9 HD9
    generalize World.setCell (World.setCell (World.setCell (World.setCell (World.setCell (World.setCell (World.setCell V _ _) _ _) _ _) _ _) _ _) _ _) _ _ = w9 at *
    go_wp2_with fail
    gi_wp2
    have p : ∀ j, j < 7 → (w9.putObj w5.heap.size (.deferred none)).cell? ⟨w.heap.size, j, none⟩ = some ([.int .i64 (t.L : Int), .int .i64 (Wd : Int), .slice (some ⟨w.heap.size + 1, 0, none⟩) S S, .slice ca t.es.length cc, .int .i64 (t.live : Int), .int .i64 (t.births : Int), .int .i64 (t.made : Int)].getD j .nilFunc) := fun j hj => (World.cell?_of_block (a := ⟨w.heap.size, j, none⟩) (World.putObj_heap_other (by show w.heap.size ≠ _; omega))).trans (HA9.out.c j hj)
    have p0 := p 0 (by omega)
    have p1 := p 1 (by omega)
    have p2 := p 2 (by omega)
    have p3 := p 3 (by omega)
    have p4 := p 4 (by omega)
    have p5 := p 5 (by omega)
    have p6 := p 6 (by omega)
    refine ⟨by simp, .inl ⟨_, _, rfl, run_takeDeferred HD9.out, ?_⟩⟩
    refine ⟨sgV t (w.heap.size + 1) (.slice ca t.es.length cc), ?_, w.heap.size + 1, .slice ca t.es.length cc, rfl, ⟨?_, ?_, by omega, ?_⟩, HB9.out.trans (below_put (by omega))⟩
    · simp at p0 p1 p2 p3 p4 p5 p6
      unfold sgV
      rw [HSS.out, HWD.out]
      simp [results, Tryz.results31, go_sem, p0, p1, p2, p3, p4, p5, p6]
    · rw [HSS.out]
      exact HR9.out.same (World.putObj_heap_other (by omega))
    · refine ⟨HE9.out.1, ?_⟩
      rcases HE9.out.2 with h0 | ⟨g9, cap9, cur9, e9, h1, h2, h3⟩
      · exact .inl h0
      · exact .inr ⟨g9, cap9, cur9, e9, by omega, (World.putObj_heap_other (by omega)).trans h2, h3⟩
    · intro e
      have := hge _ e
      omega
end Go.Proofs.YtbpflmdefpjcaaaGreat
namespace Go.Proofs.YtbpflmdefpjcaaaGreat
open Go.RowKit Go.WideShapes

/-- The first k with births of their own. -/
def reb (es : List En) (k : Nat) : List En := (List.range es.length).map fun i => if i < k then ⟨(nth es i).live, (nth es i).hash, (nth es i).key, (nth es i).value, (i : Int)⟩ else nth es i
theorem reb_len (es : List En) (k : Nat) : (reb es k).length = es.length := by simp [reb]
theorem reb_nth (es : List En) (k i : Nat) (hi : i < es.length) : nth (reb es k) i = if i < k then ⟨(nth es i).live, (nth es i).hash, (nth es i).key, (nth es i).value, (i : Int)⟩ else nth es i := by
  conv => lhs; unfold nth
  rw [List.getD_eq_getElem?_getD]
  simp [reb, hi]
theorem ext_nth {a b : List En} (hl : a.length = b.length) (h : ∀ i, i < a.length → nth a i = nth b i) : a = b := by
  apply List.ext_getElem hl
  intro i h1 h2
  have := h i h1
  unfold nth at this
  rw [List.getD_eq_getElem?_getD, List.getD_eq_getElem?_getD, List.getElem?_eq_getElem h1, List.getElem?_eq_getElem h2] at this
  exact this
theorem reb_zero (es : List En) : reb es 0 = es := ext_nth (reb_len _ _) fun i hi => by rw [reb_len] at hi; rw [reb_nth _ _ _ hi, if_neg (Nat.not_lt_zero _)]
theorem reb_set (es : List En) (k : Nat) (hk : k < es.length) : (reb es k).set k ⟨(nth es k).live, (nth es k).hash, (nth es k).key, (nth es k).value, (k : Int)⟩ = reb es (k + 1) := by
  refine ext_nth (by rw [List.length_set, reb_len, reb_len]) fun i hi => ?_
  rw [List.length_set, reb_len] at hi
  rw [nth_set (by rw [reb_len]; exact hk), reb_nth _ _ _ hi, reb_nth _ _ _ hi]
  by_cases e : i = k
  · subst e
    rw [if_pos rfl, if_pos (by omega)]
  · rw [if_neg e]
    by_cases h2 : i < k
    · rw [if_pos h2, if_pos (by omega)]
    · rw [if_neg h2, if_neg (by omega)]
/-- The log of a copy's index. -/
def cplog (n : Nat) : Nat := logF ((3 * n + 1) / 2) 20 3
/-- A copy. -/
noncomputable def Tb.cp (t : Tb) : Tb := ⟨reb (liveL t.es) (liveL t.es).length, cplog (liveL t.es).length, layN (reb (liveL t.es) (liveL t.es).length) (cplog (liveL t.es).length) (liveL t.es).length, (liveL t.es).length, 1, 0⟩
theorem cplog_ok {n : Nat} (hn : n ≤ 100000) : 3 ≤ cplog n ∧ cplog n ≤ 20 ∧ n ≤ rm (2 ^ cplog n) := by
  obtain ⟨a1, a2, a3, a4⟩ := logF_step ((3 * n + 1) / 2) 20 3 (Nat.le_trans (by omega : (3 * n + 1) / 2 ≤ 2 ^ 20) (by decide))
  refine ⟨a2, ?_, ?_⟩
  · rcases Nat.lt_or_ge 20 (cplog n) with e | e
    · have h1 := a4 20 (by omega) e
      have h2 : (2 : Nat) ^ 20 = 1048576 := by decide
      omega
    · exact e
  · have : (3 * n + 1) / 2 ≤ 2 ^ cplog n := Nat.le_of_not_lt a3
    unfold rm
    omega
theorem reb_live {es : List En} (h : ∀ n, n < es.length → (nth es n).live = true) (k n : Nat) (hn : n < es.length) : (nth (reb es k) n).live = true := by
  rw [reb_nth _ _ _ hn]
  split
  · exact h n hn
  · exact h n hn
theorem Tb.Ok.cp {t : Tb} (h : t.Ok) : t.cp.Ok := by
  have hl : (liveL t.es).length ≤ 100000 := by have := liveL_len t.es; have := h.few; have := h.all; omega
  obtain ⟨h1, h2, h3⟩ := cplog_ok hl
  refine ⟨?_, ⟨h1, h2⟩, by show (reb _ _).length ≤ (liveL t.es).length; rw [reb_len]; exact Nat.le_refl _, hl⟩
  have := layN_inv (reb (liveL t.es) (liveL t.es).length) (cplog (liveL t.es).length) (fun n hn => reb_live (fun n hn => liveL_nth _ n hn) _ n (by rwa [reb_len] at hn)) (by rw [reb_len]; exact h3) (liveL t.es).length (by rw [reb_len]; exact Nat.le_refl _)
  rw [List.take_of_length_le (by rw [reb_len]; exact Nat.le_refl _)] at this
  exact this
theorem Tb.cp_live (t : Tb) : t.cp.live = (liveL t.es).length := by
  rw [Tb.live_eq]
  show (liveL (reb (liveL t.es) (liveL t.es).length)).length = _
  have h1 := liveL_len (reb (liveL t.es) (liveL t.es).length)
  rw [deadN_live _ (fun e he => by
    obtain ⟨n, hn, hx⟩ : ∃ n, n < (reb (liveL t.es) (liveL t.es).length).length ∧ nth (reb (liveL t.es) (liveL t.es).length) n = e := by
      obtain ⟨n, hn, he⟩ := List.getElem_of_mem he
      exact ⟨n, hn, by unfold nth; rw [List.getD_eq_getElem?_getD, List.getElem?_eq_getElem hn, Option.getD_some, he]⟩
    rw [← hx]
    exact reb_live (fun n hn => liveL_nth _ n hn) _ n (by rwa [reb_len] at hn)), reb_len] at h1
  omega
/-- The head of a copy under way. -/
def cF (mv ev : Value) (l b : Nat) : Nat → Value
  | 0 => mv
  | 1 => .pointer none
  | 2 => ev
  | 3 => .int .i64 (l : Int)
  | 4 => .int .i64 (b : Int)
  | _ => .int .i64 0
end Go.Proofs.YtbpflmdefpjcaaaGreat
