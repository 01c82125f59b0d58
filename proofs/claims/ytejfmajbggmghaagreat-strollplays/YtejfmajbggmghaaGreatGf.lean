/-
  Put; At where it refuses; Next of a Seeker that has ended.
  Kill.
-/
import Derived.Test.YtejfmajbggmghaaGreatGe
import Derived.Test.YtejfmajbggmghaaGreatGd
namespace Go.Proofs.YtejfmajbggmghaaGreat
open Go.RowKit Go.WideShapes

theorem put7_no {w : World} {g gi r h : Nat} {ev : Value} {t : Tb} {mv : Value} (hD : Dt w g gi r h ev t mv) (n v : Int) (hn : ¬ t.has n) :
    Calls Tryz.prog 89 #[.pointer (some ⟨g, 0, none⟩), .int .i64 n, .int .i64 v] w fun e w' => e = .returned (.int .i64 7) ∧ w' = w := by
  have C1 := trefuse_any (hD.hd.c 2 (by omega)) hD.es n
  rw [show noE t n = 7 from if_neg hn] at C1
  clear hD hn
  go_enter Tryz.func89, Tryz.ntmps89
  go_wp2_with fail
  refine C1.mono ?_
  rintro e w1 ⟨rfl, rfl⟩
  clear C1
  go_wp2
  go_ret
  exact ⟨rfl, rfl⟩
theorem Tb.live_putv {t : Tb} (n : Nat) (v : Int) (hl : (nth t.es n).live = true) : (t.putv n v).live = t.live := by
  show (t.es.set n _).length - deadN (t.es.set n _) = _
  rw [List.length_set, deadN_put t.es n ⟨(nth t.es n).live, (nth t.es n).hash, (nth t.es n).key, v, (nth t.es n).birth⟩ hl hl]
  rfl
theorem put7_yes {w : World} {g gi r h : Nat} {ev : Value} {t : Tb} {mv : Value} (hD : Dt w g gi r h ev t mv) (n : Nat) (v : Int) (hn : n < t.es.length) (hl : (nth t.es n).live = true) :
    Calls Tryz.prog 89 #[.pointer (some ⟨g, 0, none⟩), .int .i64 (n : Int), .int .i64 v] w fun e w' => e = .returned (.int .i64 0) ∧ Dt w' g gi r h ev (t.putv n v) mv ∧ Ex (fun k => ev.ownBlock = some k) w w' := by
  have C1 := trefuse_any (hD.hd.c 2 (by omega)) hD.es (n : Int)
  rw [show noE t (n : Int) = 0 from if_pos ⟨by omega, by omega, by rw [Int.toNat_natCast]; exact hl⟩] at C1
  obtain ⟨ae, cape, ge, hev, hae, hro⟩ := hD.es.open
  obtain ⟨rfl, hob, hfz⟩ := hae (by omega)
  have hle := hro.le
  have k2 : w.cell? ⟨g, 2, none⟩ = some ev := hD.hd.c 2 (by omega)
  subst hev
  have d3 := hro.c3 n hn
  have z3 := hfz (n * 5 + 3)
  have t1 : (n : Int) < (t.es.length : Int) := by omega
  obtain ⟨n1, n2, n3, n4⟩ := hD.ap ge hob
  have hoth : ∀ j, j ≠ ge → (w.setCell ⟨ge, n * 5 + 3, none⟩ (.int .i64 v)).heap[j]? = w.heap[j]? := fun j hj => Below.heap_setCell _ _ _ _ hj
  have HRT : Hid (Dt (w.setCell ⟨ge, n * 5 + 3, none⟩ (.int .i64 v)) g gi r h (.slice (some ⟨ge, 0, none⟩) t.es.length cape) (t.putv n v) mv) := by
    refine ⟨(hD.hd.same (hoth g (fun e => n1 e.symm))).congr (fun j hj => ?_), Es.put rfl hD.es n 3 hn (by decide) (.int .i64 v) _ rfl rfl, hD.cl.same (hoth gi (fun e => n2 e.symm)) (hoth r (fun e => n3 e.symm)) (hoth h (fun e => n4 e.symm)), hD.ap, hD.ne, hD.mp⟩
    have h1 := Tb.live_putv n v hl
    have : j = 0 ∨ j = 1 ∨ j = 2 ∨ j = 3 ∨ j = 4 ∨ j = 5 ∨ j = 6 := by omega
    rcases this with rfl | rfl | rfl | rfl | rfl | rfl | rfl
    · rfl
    · rfl
    · rfl
    · show Value.int .i64 (((t.putv n v).live : Nat) : Int) = Value.int .i64 ((t.live : Nat) : Int)
      rw [h1]
    · rfl
    · rfl
    · rfl
  have HEX : Hid (Ex (fun k => (Value.slice (some ⟨ge, 0, none⟩) t.es.length cape).ownBlock = some k) w (w.setCell ⟨ge, n * 5 + 3, none⟩ (.int .i64 v))) := (Ex.refl (fun k => (Value.slice (some ⟨ge, 0, none⟩) t.es.length cape).ownBlock = some k) w).setCell (p := ⟨ge, n * 5 + 3, none⟩) (fun _ => rfl) _
  clear hD hro hae hfz hoth hob
  go_enter Tryz.func89, Tryz.ntmps89
  go_wp2_with fail
  refine C1.mono ?_
  rintro e w1 ⟨rfl, rfl⟩
  clear C1
  go_wp2
  go_ret
  exact ⟨rfl, HRT.out, HEX.out⟩
set_option maxRecDepth 100000 in
theorem at7_no {w : World} {g gi r h : Nat} {ev : Value} {t : Tb} {mv : Value} (hD : Dt w g gi r h ev t mv) (n : Int) (hn : ¬ t.has n) :
    Calls Tryz.prog 60 #[.pointer (some ⟨g, 0, none⟩), .int .i64 n] w fun e w' => e = .returned (.tuple #[.agg #[.bool false, .int .i64 0, .int .i64 0, .int .i64 0, .int .i64 0], .int .i64 7]) ∧ Below w.heap.size w w' := by
  obtain ⟨w1, hw1⟩ : ∃ y, w.alloc (.cells #[.bool false, .int .i64 0, .int .i64 0, .int .i64 0, .int .i64 0] 48) = y := ⟨_, rfl⟩
  have hB1 : Below w.heap.size w w1 := by rw [← hw1]; exact (Below.refl _ w).alloc (Nat.le_refl _) _
  have hX1 : Blk w1 w.heap.size 5 (fun j => #[Value.bool false, .int .i64 0, .int .i64 0, .int .i64 0, .int .i64 0].getD j .nilFunc) := by rw [← hw1]; exact Blk.new w _ _
  have hD1 := hD.below hB1
  have C1 := trefuse_any (hD1.hd.c 2 (by omega)) hD1.es n
  rw [show noE t n = 7 from if_neg hn] at C1
  have a0 : w1.cell? ⟨w.heap.size, 0, none⟩ = some (.bool false) := hX1.c 0 (by omega)
  have a1 : w1.cell? ⟨w.heap.size, 1, none⟩ = some (.int .i64 0) := hX1.c 1 (by omega)
  have a2 : w1.cell? ⟨w.heap.size, 2, none⟩ = some (.int .i64 0) := hX1.c 2 (by omega)
  have a3 : w1.cell? ⟨w.heap.size, 3, none⟩ = some (.int .i64 0) := hX1.c 3 (by omega)
  have a4 : w1.cell? ⟨w.heap.size, 4, none⟩ = some (.int .i64 0) := hX1.c 4 (by omega)
  have z0 := hX1.z 0
  have z1 := hX1.z 1
  have z2 := hX1.z 2
  have z3 := hX1.z 3
  have z4 := hX1.z 4
  have HW := Lib.hid hw1
  have HX1 := Lib.hid hX1
  have HB1 := Lib.hid hB1
  clear hw1 hX1 hB1 hD hD1 hn
  go_enter Tryz.func60, Tryz.ntmps60
  go_wp2_with fail
  rw [HW.out]
  refine C1.mono ?_
  rintro e w2 ⟨rfl, rfl⟩
  clear C1
  have HR := Lib.hid (((((HX1.out.put 0 (.bool false)).put 1 (.int .i64 0)).put 2 (.int .i64 0)).put 3 (.int .i64 0)).put 4 (.int .i64 0))
  have HBB : Hid (Below w.heap.size w (((((w2.setCell ⟨w.heap.size, 0, none⟩ (.bool false)).setCell ⟨w.heap.size, 1, none⟩ (.int .i64 0)).setCell ⟨w.heap.size, 2, none⟩ (.int .i64 0)).setCell ⟨w.heap.size, 3, none⟩ (.int .i64 0)).setCell ⟨w.heap.size, 4, none⟩ (.int .i64 0))) := ((((HB1.out.setCell (p := ⟨w.heap.size, 0, none⟩) (Nat.le_refl _) _).setCell (p := ⟨w.heap.size, 1, none⟩) (Nat.le_refl _) _).setCell (p := ⟨w.heap.size, 2, none⟩) (Nat.le_refl _) _).setCell (p := ⟨w.heap.size, 3, none⟩) (Nat.le_refl _) _).setCell (p := ⟨w.heap.size, 4, none⟩) (Nat.le_refl _) _
  go_wp2_with fail
  first
    | (generalize World.setCell (World.setCell (World.setCell (World.setCell (World.setCell w2 _ _) _ _) _ _) _ _) _ _ = w3 at *
       have p0 : w3.cell? ⟨w.heap.size, 0, none⟩ = some (.bool false) := HR.out.c 0 (by omega)
       have p1 : w3.cell? ⟨w.heap.size, 1, none⟩ = some (.int .i64 0) := HR.out.c 1 (by omega)
       have p2 : w3.cell? ⟨w.heap.size, 2, none⟩ = some (.int .i64 0) := HR.out.c 2 (by omega)
       have p3 : w3.cell? ⟨w.heap.size, 3, none⟩ = some (.int .i64 0) := HR.out.c 3 (by omega)
       have p4 : w3.cell? ⟨w.heap.size, 4, none⟩ = some (.int .i64 0) := HR.out.c 4 (by omega)
       refine bodyPost_ret (v := .tuple #[.agg #[.bool false, .int .i64 0, .int .i64 0, .int .i64 0, .int .i64 0], .int .i64 7]) ?_ rfl ⟨rfl, HBB.out⟩
       simp [results, Tryz.results60, go_sem, p0, p1, p2, p3, p4]
       done)
    | (refine bodyPost_ret (v := .tuple #[.agg #[.bool false, .int .i64 0, .int .i64 0, .int .i64 0, .int .i64 0], .int .i64 7]) ?_ rfl ⟨rfl, HB1.out⟩
       simp [results, Tryz.results60, go_sem, a0, a1, a2, a3, a4]
       done)
/-- A Seeker that has ended. -/
theorem hasEnded_over {w : World} {s : Nat} (x0 : w.cell? ⟨s, 0, none⟩ = some (.pointer none)) :
    Calls Tryz.prog 75 #[.pointer (some ⟨s, 0, none⟩)] w fun e w' => e = .returned (.bool true) ∧ Below w.heap.size w w' := by
  go_enter Tryz.func75, Tryz.ntmps75
  go_wp2_with fail
  go_quiet (fail)
  go_wp2
  go_ret
  exact ⟨rfl, rfl, rfl, rfl, Nat.le_refl _, fun _ _ => rfl⟩
theorem hasEnded_turn {w : World} {s g tu tn : Nat} (x0 : w.cell? ⟨s, 0, none⟩ = some (.pointer (some ⟨g, 0, none⟩))) (x1 : w.cell? ⟨s, 1, none⟩ = some (.int .i64 (tu : Int))) (k6 : w.cell? ⟨g, 6, none⟩ = some (.int .i64 (tn : Int))) (hne : tu < tn) :
    Calls Tryz.prog 75 #[.pointer (some ⟨s, 0, none⟩)] w fun e w' => e = .returned (.bool true) ∧ Below w.heap.size w w' := by
  have tq : ((tu : Int) == (tn : Int)) = false := by rw [beq_eq_false_iff_ne]; omega
  have tq2 : ((tu : Int) != (tn : Int)) = true := by rw [bne_iff_ne]; omega
  go_enter Tryz.func75, Tryz.ntmps75
  go_wp2_with fail
  go_region_held3 (fun V => V.cell? ⟨s, 0, none⟩ = some (.pointer (some ⟨g, 0, none⟩)) ∧ V.cell? ⟨s, 1, none⟩ = some (.int .i64 (tu : Int)) ∧ V.cell? ⟨g, 6, none⟩ = some (.int .i64 (tn : Int)))
    (first | exact ⟨x0, x1, k6⟩ | fail) (fail)
  go_wp2
  go_ret
  exact ⟨rfl, (Below.refl _ w).drew⟩
theorem next7_end {w : World} {s : Nat} (CE : Calls Tryz.prog 75 #[.pointer (some ⟨s, 0, none⟩)] w fun e w' => e = .returned (.bool true) ∧ Below w.heap.size w w') :
    Calls Tryz.prog 59 #[.pointer (some ⟨s, 0, none⟩)] w fun e w' => e = .returned (.tuple #[.int .i64 (-1), .bool false]) ∧ Below w.heap.size w w' := by
  go_enter Tryz.func59, Tryz.ntmps59
  go_wp2_with fail
  refine CE.mono ?_
  rintro e w1 ⟨rfl, hb⟩
  clear CE
  go_wp2
  go_ret2
  exact ⟨rfl, hb⟩
end Go.Proofs.YtejfmajbggmghaaGreat
namespace Go.Proofs.YtejfmajbggmghaaGreat
open Go.RowKit Go.WideShapes

theorem isS_some {es : List En} {L : Nat} {c : Nat → Int} (h : Inv es L c) {n : Nat} (hn : n < es.length) (hl : (nth es n).live = true) : ∃ i, i < 2 ^ L + 13 ∧ IsS c (n : Int) (uw (nth es n).hash) L i := by
  obtain ⟨p, hp⟩ := h.pos n hn hl
  obtain ⟨i, h1, h2⟩ := trl_all (uw (nth es n).hash) L (trl (uw (nth es n).hash) L p) (uw_lt _) (trl_lt _ _ _)
  obtain ⟨j, h3, h4, h5⟩ := least (P := fun i => c (trl (uw (nth es n).hash) L i) = (n : Int)) i (by show c _ = _; rw [h2]; exact hp.1)
  exact ⟨j, by omega, h4, h5⟩
theorem kill_no {w : World} {g gi r h : Nat} {ev : Value} {t : Tb} {mv : Value} (hD : Dt w g gi r h ev t mv) (n : Int) (hn : ¬ t.has n) :
    Calls Tryz.prog 67 #[.pointer (some ⟨g, 0, none⟩), .int .i64 n] w fun e w' => e = .returned (.int .i64 7) ∧ w' = w := by
  have C1 := trefuse_any (hD.hd.c 2 (by omega)) hD.es n
  rw [show noE t n = 7 from if_neg hn] at C1
  clear hD hn
  go_enter Tryz.func67, Tryz.ntmps67
  go_wp2_with fail
  refine C1.mono ?_
  rintro e w1 ⟨rfl, rfl⟩
  clear C1
  go_wp2
  go_ret
  exact ⟨rfl, rfl⟩
theorem drew_cell (W : World) (a : Addr) : W.drew.cell? a = W.cell? a := rfl
theorem drew_heap (W : World) (k : Nat) : W.drew.heap[k]? = W.heap[k]? := rfl
/-- The world behind Kill's stores. -/
def dKillW (w : World) (g ge n : Nat) (t : Tb) : World := (((goneW w ge n (nth t.es n).birth).drew).setCell ⟨g, 3, none⟩ (.int .i64 ((t.live : Int) - 1))).setCell ⟨g, 6, none⟩ (.int .i64 ((t.turn : Int) + 1))
theorem dkill_fin {w w3 : World} {g gi r h : Nat} {t : Tb} {mv : Value} {ge cape n x : Nat} (hD : Dt w g gi r h (.slice (some ⟨ge, 0, none⟩) t.es.length cape) t mv) (hO : t.Ok) (hn : n < t.es.length) (hl : (nth t.es n).live = true) (hx : x < 2 ^ t.L) (hcx : t.c x = (n : Int)) (hC : Cl w3 gi r h t.L (2 ^ t.L) (upd t.c x (-2))) (hb : But h w w3) :
    Blk (goneW w3 ge n (nth t.es n).birth) g 7 (dF mv gi (.slice (some ⟨ge, 0, none⟩) t.es.length cape) t) ∧ Dt (dKillW w3 g ge n t) g gi r h (.slice (some ⟨ge, 0, none⟩) t.es.length cape) (t.kill n) mv ∧ Ex (dX g gi r h (.slice (some ⟨ge, 0, none⟩) t.es.length cape)) w (dKillW w3 g ge n t) := by
  have hap := hD.ap ge rfl
  have lg := hD.hd.lt (by omega)
  have lge := hD.es.lt ge rfl
  have hB3 := hD.hd.same (hb.block g lg hD.ne.2.2)
  have hE3 : Es w3 (.slice (some ⟨ge, 0, none⟩) t.es.length cape) t.es := hD.es.same fun k hk => by cases hk; exact hb.block ge lge hap.2.2.2
  have hbz := goneW_but w3 ge n (nth t.es n).birth
  have hsz := hb.size
  have hB4 := hB3.same (hbz.block g (by omega) (fun e => hap.1 e.symm))
  have hE4 := hE3.goner n hn (nth t.es n).birth
  obtain ⟨l1, l2, l3⟩ := hD.cl.lt
  have hC4 : Cl (goneW w3 ge n (nth t.es n).birth) gi r h t.L (2 ^ t.L) (upd t.c x (-2)) := hC.same (hbz.block _ (by omega) (fun e => hap.2.1 e.symm)) (hbz.block _ (by omega) (fun e => hap.2.2.1 e.symm)) (hbz.block _ (by omega) (fun e => hap.2.2.2 e.symm))
  have o5 : ∀ j, j ≠ g → (dKillW w3 g ge n t).heap[j]? = (goneW w3 ge n (nth t.es n).birth).heap[j]? := fun j hj => by unfold dKillW; rw [Below.heap_setCell _ _ _ _ hj, Below.heap_setCell _ _ _ _ hj, drew_heap]
  refine ⟨hB4, ⟨?_, ?_, ?_, hD.ap, hD.ne, hD.mp⟩, ?_⟩
  · unfold dKillW
    refine (((hB4.same (w' := (goneW w3 ge n (nth t.es n).birth).drew) (drew_heap _ _)).put 3 _).put 6 _).congr fun j hj => ?_
    have : j = 0 ∨ j = 1 ∨ j = 2 ∨ j = 3 ∨ j = 4 ∨ j = 5 ∨ j = 6 := by omega
    rcases this with rfl | rfl | rfl | rfl | rfl | rfl | rfl
    · rfl
    · rfl
    · rfl
    · show Value.int .i64 (((t.kill n).live : Nat) : Int) = Value.int .i64 ((t.live : Int) - 1)
      rw [Tb.live_kill n hl, Int.natCast_sub (Tb.live_pos n hl)]
      rfl
    · rfl
    · rfl
    · show Value.int .i64 (((t.turn + 1 : Nat)) : Int) = Value.int .i64 ((t.turn : Int) + 1)
      rw [Int.natCast_add]
      rfl
  · exact hE4.same fun k hk => by cases hk; exact o5 _ hap.1
  · exact (hC4.same (o5 _ (fun e => hD.ne.1 e.symm)) (o5 _ (fun e => hD.ne.2.1 e.symm)) (o5 _ (fun e => hD.ne.2.2 e.symm))).congr (killc_upd hO.inv n hx hcx)
  · unfold dKillW
    refine (((hb.ex.mono (fun k _ hk => .inr (.inr (.inr (.inl hk))))).next hbz.ex (fun k _ hk => .inr (.inr (.inr (.inr (by rw [hk]; rfl)))))).drew.setCell (p := ⟨g, 3, none⟩) (fun _ => .inl rfl) _).setCell (p := ⟨g, 6, none⟩) (fun _ => .inl rfl) _
set_option maxRecDepth 100000 in
set_option maxHeartbeats 4000000 in
theorem kill_yes {w : World} {g gi r h : Nat} {ev : Value} {t : Tb} {mv : Value} (hD : Dt w g gi r h ev t mv) (hO : t.Ok) (n : Nat) (hn : n < t.es.length) (hl : (nth t.es n).live = true) (ht : t.turn ≤ 1000000) :
    Calls Tryz.prog 67 #[.pointer (some ⟨g, 0, none⟩), .int .i64 (n : Int)] w fun e w' => e = .returned (.int .i64 0) ∧ Dt w' g gi r h ev (t.kill n) mv ∧ Ex (dX g gi r h ev) w w' := by
  have C1 := trefuse_any (hD.hd.c 2 (by omega)) hD.es (n : Int)
  rw [show noE t (n : Int) = 0 from if_pos ⟨by omega, by omega, by rw [Int.toNat_natCast]; exact hl⟩] at C1
  obtain ⟨ae, cape, ge, hev, hae, hro⟩ := hD.es.open
  obtain ⟨rfl, _, hfz⟩ := hae (by omega)
  have hcap := hro.le
  subst hev
  obtain ⟨i, hi, hF⟩ := isS_some hO.inv hn hl
  have k1 : w.cell? ⟨g, 1, none⟩ = some (.pointer (some ⟨gi, 0, none⟩)) := hD.hd.c 1 (by omega)
  have k2 : w.cell? ⟨g, 2, none⟩ = some (.slice (some ⟨ge, 0, none⟩) t.es.length cape) := hD.hd.c 2 (by omega)
  have ke := hro.c1 n hn
  have hx := trl_lt (uw (nth t.es n).hash) t.L i
  have HCX := Lib.hid hF.1
  have CF : Hid (∀ V, Below w.heap.size w V → Calls Tryz.prog 87 #[.pointer (some ⟨g, 0, none⟩), .int .i64 (nth t.es n).hash, .int .i64 (n : Int)] V fun e w' => e = .returned (.int .i64 ((trl (uw (nth t.es n).hash) t.L i : Nat) : Int)) ∧ Below V.heap.size V w') := fun V hV => find_any ((hV.cell (p := ⟨g, 1, none⟩) (lt_of_cell k1)).trans k1) (hD.cl.below hV) _ _ hF hi
  have hmy : may (2 ^ t.L) (-2) = true := by unfold may; simp; omega
  have CS : Hid (∀ V, Below w.heap.size w V → Calls Tryz.prog 86 #[.pointer (some ⟨gi, 0, none⟩), .int .i64 ((trl (uw (nth t.es n).hash) t.L i : Nat) : Int), .int .i64 (-2)] V fun e w' => e = .returned (.int .i64 0) ∧ Cl w' gi r h t.L (2 ^ t.L) (upd t.c (trl (uw (nth t.es n).hash) t.L i) (-2)) ∧ But h w w') := fun V hV => (setM_yes (hD.cl.below hV) _ (-2) hx hmy).mono fun e w' ⟨h1, h2⟩ => ⟨h1, by rw [h2]; exact (hD.cl.below hV).put _ hx _ (by omega), by rw [h2]; exact (but_of hV h).setCell _ _⟩
  have hlg := lt_of_cell k1
  have hle := lt_of_cell ke
  have hgh := hD.ne.2.2
  have heh := (hD.ap ge rfl).2.2.2
  have HD := Lib.hid hD
  have HO := Lib.hid hO
  have HAP : Hid (ge ≠ g) := (hD.ap ge rfl).1
  have hB0 : Below w.heap.size w w.drew := (Below.refl _ w).drew
  have t0 : (n : Int) < (t.es.length : Int) := by omega
  clear hD hO hF hmy hro hae hfz
  generalize trl (uw (nth t.es n).hash) t.L i = x at *
  go_enter Tryz.func67, Tryz.ntmps67
  go_wp2_with fail
  refine C1.mono ?_
  rintro e w1 ⟨rfl, rfl⟩
  clear C1
  go_wp2_with fail
  go_region_held3 (fun V => V.cell? ⟨g, 1, none⟩ = some (.pointer (some ⟨gi, 0, none⟩)) ∧ V.cell? ⟨g, 2, none⟩ = some (.slice (some ⟨ge, 0, none⟩) t.es.length cape) ∧ V.cell? ⟨ge, n * 5 + 1, none⟩ = some (.int .i64 (nth t.es n).hash))
    (first | exact ⟨k1, k2, ke⟩ | exact ⟨q1, q2, qe⟩ | exact ⟨p1, p2, pe⟩ | fail)
    (first | (go_at_call 87; refine (CF.out _ hB0).mono ?_; rintro e w2 ⟨rfl, hB2⟩; have hBW := hB0.trans hB2; have q1 := (hBW.cell (p := ⟨g, 1, none⟩) hlg).trans k1; have q2 := (hBW.cell (p := ⟨g, 2, none⟩) hlg).trans k2; have qe := (hBW.cell (p := ⟨ge, n * 5 + 1, none⟩) hle).trans ke) | (go_at_call 86; refine (CS.out _ hBW).mono ?_; rintro e w3 ⟨rfl, hC3, hb3⟩; have p1 := (hb3.cell (p := ⟨g, 1, none⟩) hlg hgh).trans k1; have p2 := (hb3.cell (p := ⟨g, 2, none⟩) hlg hgh).trans k2; have pe := (hb3.cell (p := ⟨ge, n * 5 + 1, none⟩) hle heh).trans ke) | fail)
  obtain ⟨hB4, hDk, hEx⟩ := dkill_fin HD.out HO.out hn hl hx HCX.out hC3 hb3
  have hE3 : Es w3 (.slice (some ⟨ge, 0, none⟩) t.es.length cape) t.es := HD.out.es.same fun k hk => by cases hk; exact hb3.block ge hle heh
  obtain ⟨_, _, _, hv', hae', hro'⟩ := hE3.open
  cases hv'
  obtain ⟨hge', _, hfz'⟩ := hae' (by omega)
  cases hge'
  have e0 := hro'.c0 n hn
  have e1 := hro'.c1 n hn
  have e2 := hro'.c2 n hn
  have e3 := hro'.c3 n hn
  have e4 := hro'.c4 n hn
  have z0 := hfz' (n * 5)
  have z1 := hfz' (n * 5 + 1)
  have z2 := hfz' (n * 5 + 2)
  have z3 := hfz' (n * 5 + 3)
  have z4 := hfz' (n * 5 + 4)
  have x3 : (goneW w3 ge n (nth t.es n).birth).drew.cell? ⟨g, 3, none⟩ = some (.int .i64 (t.live : Int)) := (hB4.same (drew_heap _ _)).c 3 (by omega)
  have x6 : (goneW w3 ge n (nth t.es n).birth).drew.cell? ⟨g, 6, none⟩ = some (.int .i64 (t.turn : Int)) := (hB4.same (drew_heap _ _)).c 6 (by omega)
  have y3 : (goneW w3 ge n (nth t.es n).birth).drew.frozen? ⟨g, 3, none⟩ = false := (hB4.same (drew_heap _ _)).z 3
  have y6 : (goneW w3 ge n (nth t.es n).birth).drew.frozen? ⟨g, 6, none⟩ = false := (hB4.same (drew_heap _ _)).z 6
  have hlp := Tb.live_pos n hl
  have hlv1 := t.live_le
  have hsm : t.es.length ≤ 100000 := Nat.le_trans HO.out.few HO.out.all
  have e3' : IntKind.i64.wrap ((t.live : Int) - 1) = (t.live : Int) - 1 := i64_small (by omega) (by omega)
  have e6' : IntKind.i64.wrap ((t.turn : Int) + 1) = (t.turn : Int) + 1 := i64_small (by omega) (by omega)
  have HR : Hid (Dt (dKillW w3 g ge n t) g gi r h (.slice (some ⟨ge, 0, none⟩) t.es.length cape) (t.kill n) mv ∧ Ex (dX g gi r h (.slice (some ⟨ge, 0, none⟩) t.es.length cape)) w1 (dKillW w3 g ge n t)) := ⟨hDk, hEx⟩
  clear hB4 hDk hEx hE3 hro' hae' hfz' hC3 hb3 pe qe ke q1 q2 p1 k1 k2
  unfold dKillW goneW at HR
  unfold goneW at x3 x6 y3 y6
  have gm : ge ≠ g := HAP.out
  have p2d : w3.drew.cell? ⟨g, 2, none⟩ = some (.slice (some ⟨ge, 0, none⟩) t.es.length cape) := p2
  have e4d : w3.drew.cell? ⟨ge, n * 5 + 4, none⟩ = some (.int .i64 (nth t.es n).birth) := e4
  generalize (nth t.es n).birth = bb at *
  have HS : Hid ((((((w3.setCell ⟨ge, n * 5, none⟩ (.bool false)).setCell ⟨ge, n * 5 + 1, none⟩ (.int .i64 0)).setCell ⟨ge, n * 5 + 2, none⟩ (.int .i64 0)).setCell ⟨ge, n * 5 + 3, none⟩ (.int .i64 0)).setCell ⟨ge, n * 5 + 4, none⟩ (.int .i64 bb)).drew.cell? ⟨g, 2, none⟩ = some (.slice (some ⟨ge, 0, none⟩) t.es.length cape) ∧ (((((w3.setCell ⟨ge, n * 5, none⟩ (.bool false)).setCell ⟨ge, n * 5 + 1, none⟩ (.int .i64 0)).setCell ⟨ge, n * 5 + 2, none⟩ (.int .i64 0)).setCell ⟨ge, n * 5 + 3, none⟩ (.int .i64 0)).setCell ⟨ge, n * 5 + 4, none⟩ (.int .i64 bb)).drew.cell? ⟨ge, n * 5 + 4, none⟩ = some (.int .i64 bb)) := by
    have o : ∀ (U : World) (j k : Nat) (x : Value), j ≠ k → (U.setCell ⟨ge, j, none⟩ x).cell? ⟨ge, k, none⟩ = U.cell? ⟨ge, k, none⟩ := fun U j k x hjk => World.cell?_setCell_other _ _ _ _ (by intro he; injection he with a b; omega)
    have o2 : ∀ (U : World) (j : Nat) (x : Value), (U.setCell ⟨ge, j, none⟩ x).cell? ⟨g, 2, none⟩ = U.cell? ⟨g, 2, none⟩ := fun U j x => World.cell?_setCell_other _ _ _ _ (by intro he; injection he with a b; exact gm a)
    refine ⟨by rw [drew_cell, o2, o2, o2, o2, o2]; exact p2, (drew_cell _ _).trans (World.cell?_setCell_same' _ _ _ ?_)⟩
    rw [o _ _ _ _ (by omega), o _ _ _ _ (by omega), o _ _ _ _ (by omega), o _ _ _ _ (by omega), e4]
    rfl
  go_wp2_with fail
  go_region_held3 (fun V => V.cell? ⟨g, 2, none⟩ = some (.slice (some ⟨ge, 0, none⟩) t.es.length cape) ∧ V.cell? ⟨ge, n * 5 + 4, none⟩ = some (.int .i64 bb))
    (first | with_reducible exact ⟨p2d, e4d⟩ | with_reducible exact ⟨p2, e4⟩ | with_reducible exact HS.out | fail)
    (fail)
  clear HS p2d e4d p2 e0 e1 e2 e3 e4
  generalize World.drew (World.setCell (World.setCell (World.setCell (World.setCell (World.setCell w3 _ _) _ _) _ _) _ _) _ _) = w5 at *
  go_wp2
  go_ret
  exact ⟨rfl, HR.out⟩
end Go.Proofs.YtejfmajbggmghaaGreat
