/-
  Kill.
-/
import Derived.Test.YtooneobnfepncaaGreatDtTell
namespace Go.Proofs.YtooneobnfepncaaGreat
open Go.RowKit Go.WideShapes

theorem isS_some {es : List En} {L : Nat} {c : Nat → Int} (h : Inv es L c) {n : Nat} (hn : n < es.length) (hl : (nth es n).live = true) : ∃ i, i < 2 ^ L + 13 ∧ IsS c (n : Int) (uw (nth es n).hash) L i := by
  obtain ⟨p, hp⟩ := h.pos n hn hl
  obtain ⟨i, h1, h2⟩ := trl_all (uw (nth es n).hash) L (trl (uw (nth es n).hash) L p) (uw_lt _) (trl_lt _ _ _)
  obtain ⟨j, h3, h4, h5⟩ := least (P := fun i => c (trl (uw (nth es n).hash) L i) = (n : Int)) i (by show c _ = _; rw [h2]; exact hp.1)
  exact ⟨j, by omega, h4, h5⟩
theorem kill_no {w : World} {g gi r h : Nat} {ev : Value} {t : Tb} {mv : Value} (hD : Dt w g gi r h ev t mv) (n : Int) (hn : ¬ t.has n) :
    Calls Tryz.prog 85 #[.pointer (some ⟨g, 0, none⟩), .int .i64 n] w fun e w' => e = .returned (.int .i64 7) ∧ w' = w := by
  have C1 := trefuse_any (hD.hd.c 2 (by omega)) hD.es n
  rw [show noE t n = 7 from if_neg hn] at C1
  clear hD hn
  go_enter Tryz.func85, Tryz.ntmps85
  go_wp2_with fail
  refine C1.mono ?_
  rintro e w1 ⟨rfl, rfl⟩
  clear C1
  go_wp2
  go_ret
  exact ⟨rfl, rfl⟩
theorem drew_cell (W : World) (a : Addr) : W.drew.cell? a = W.cell? a := rfl
theorem drew_heap (W : World) (k : Nat) : W.drew.heap[k]? = W.heap[k]? := rfl
/-- The world behind Kill's stores. -/
def dKillW (w : World) (g ge n : Nat) (t : Tb) : World := (((goneW w ge n (nth t.es n).birth).drew).setCell ⟨g, 3, none⟩ (.int .i64 ((t.live : Int) - 1))).setCell ⟨g, 6, none⟩ (.int .i64 ((t.turn : Int) + 1))
theorem dkill_fin {w w3 : World} {g gi r h : Nat} {t : Tb} {mv : Value} {ge cape n x : Nat} (hD : Dt w g gi r h (.slice (some ⟨ge, 0, none⟩) t.es.length cape) t mv) (hO : t.Ok) (hn : n < t.es.length) (hl : (nth t.es n).live = true) (hx : x < 2 ^ t.L) (hcx : t.c x = (n : Int)) (hC : Cl w3 gi r h t.L (2 ^ t.L) (upd t.c x (-2))) (hb : But h w w3) :
    Blk (goneW w3 ge n (nth t.es n).birth) g 7 (dF mv gi (.slice (some ⟨ge, 0, none⟩) t.es.length cape) t) ∧ Dt (dKillW w3 g ge n t) g gi r h (.slice (some ⟨ge, 0, none⟩) t.es.length cape) (t.kill n) mv ∧ Ex (dX g gi r h (.slice (some ⟨ge, 0, none⟩) t.es.length cape)) w (dKillW w3 g ge n t) := by
  have hap := hD.ap ge rfl
  have lg := hD.hd.lt (by omega)
  have lge := hD.es.lt ge rfl
  have hB3 := hD.hd.same (hb.block g lg hD.ne.2.2)
  have hE3 : Es w3 (.slice (some ⟨ge, 0, none⟩) t.es.length cape) t.es := hD.es.same fun k hk => by cases hk; exact hb.block ge lge hap.2.2.2
  have hbz := goneW_but w3 ge n (nth t.es n).birth
  have hsz := hb.size
  have hB4 := hB3.same (hbz.block g (by omega) (fun e => hap.1 e.symm))
  have hE4 := hE3.goner n hn (nth t.es n).birth
  obtain ⟨l1, l2, l3⟩ := hD.cl.lt
  have hC4 : Cl (goneW w3 ge n (nth t.es n).birth) gi r h t.L (2 ^ t.L) (upd t.c x (-2)) := hC.same (hbz.block _ (by omega) (fun e => hap.2.1 e.symm)) (hbz.block _ (by omega) (fun e => hap.2.2.1 e.symm)) (hbz.block _ (by omega) (fun e => hap.2.2.2 e.symm))
  have o5 : ∀ j, j ≠ g → (dKillW w3 g ge n t).heap[j]? = (goneW w3 ge n (nth t.es n).birth).heap[j]? := fun j hj => by unfold dKillW; rw [Below.heap_setCell _ _ _ _ hj, Below.heap_setCell _ _ _ _ hj, drew_heap]
  refine ⟨hB4, ⟨?_, ?_, ?_, hD.ap, hD.ne, hD.mp⟩, ?_⟩
  · unfold dKillW
    refine (((hB4.same (w' := (goneW w3 ge n (nth t.es n).birth).drew) (drew_heap _ _)).put 3 _).put 6 _).congr fun j hj => ?_
    have : j = 0 ∨ j = 1 ∨ j = 2 ∨ j = 3 ∨ j = 4 ∨ j = 5 ∨ j = 6 := by omega
    rcases this with rfl | rfl | rfl | rfl | rfl | rfl | rfl
    · rfl
    · rfl
    · rfl
    · show Value.int .i64 (((t.kill n).live : Nat) : Int) = Value.int .i64 ((t.live : Int) - 1)
      rw [Tb.live_kill n hl, Int.natCast_sub (Tb.live_pos n hl)]
      rfl
    · rfl
    · rfl
    · show Value.int .i64 (((t.turn + 1 : Nat)) : Int) = Value.int .i64 ((t.turn : Int) + 1)
      rw [Int.natCast_add]
      rfl
  · exact hE4.same fun k hk => by cases hk; exact o5 _ hap.1
  · exact (hC4.same (o5 _ (fun e => hD.ne.1 e.symm)) (o5 _ (fun e => hD.ne.2.1 e.symm)) (o5 _ (fun e => hD.ne.2.2 e.symm))).congr (killc_upd hO.inv n hx hcx)
  · unfold dKillW
    refine (((hb.ex.mono (fun k _ hk => .inr (.inr (.inr (.inl hk))))).next hbz.ex (fun k _ hk => .inr (.inr (.inr (.inr (by rw [hk]; rfl)))))).drew.setCell (p := ⟨g, 3, none⟩) (fun _ => .inl rfl) _).setCell (p := ⟨g, 6, none⟩) (fun _ => .inl rfl) _
set_option maxRecDepth 100000 in
set_option maxHeartbeats 4000000 in
theorem kill_yes {w : World} {g gi r h : Nat} {ev : Value} {t : Tb} {mv : Value} (hD : Dt w g gi r h ev t mv) (hO : t.Ok) (n : Nat) (hn : n < t.es.length) (hl : (nth t.es n).live = true) (ht : t.turn ≤ 1000000) :
    Calls Tryz.prog 85 #[.pointer (some ⟨g, 0, none⟩), .int .i64 (n : Int)] w fun e w' => e = .returned (.int .i64 0) ∧ Dt w' g gi r h ev (t.kill n) mv ∧ Ex (dX g gi r h ev) w w' := by
  have C1 := trefuse_any (hD.hd.c 2 (by omega)) hD.es (n : Int)
  rw [show noE t (n : Int) = 0 from if_pos ⟨by omega, by omega, by rw [Int.toNat_natCast]; exact hl⟩] at C1
  obtain ⟨ae, cape, ge, hev, hae, hro⟩ := hD.es.open
  obtain ⟨rfl, _, hfz⟩ := hae (by omega)
  have hcap := hro.le
  subst hev
  obtain ⟨i, hi, hF⟩ := isS_some hO.inv hn hl
  have k1 : w.cell? ⟨g, 1, none⟩ = some (.pointer (some ⟨gi, 0, none⟩)) := hD.hd.c 1 (by omega)
  have k2 : w.cell? ⟨g, 2, none⟩ = some (.slice (some ⟨ge, 0, none⟩) t.es.length cape) := hD.hd.c 2 (by omega)
  have ke := hro.c1 n hn
  have hx := trl_lt (uw (nth t.es n).hash) t.L i
  have HCX := Lib.hid hF.1
  have CF : Hid (∀ V, Below w.heap.size w V → Calls Tryz.prog 122 #[.pointer (some ⟨g, 0, none⟩), .int .i64 (nth t.es n).hash, .int .i64 (n : Int)] V fun e w' => e = .returned (.int .i64 ((trl (uw (nth t.es n).hash) t.L i : Nat) : Int)) ∧ Below V.heap.size V w') := fun V hV => find_any ((hV.cell (p := ⟨g, 1, none⟩) (lt_of_cell k1)).trans k1) (hD.cl.below hV) _ _ hF hi
  have hmy : may (2 ^ t.L) (-2) = true := by unfold may; simp; omega
  have CS : Hid (∀ V, Below w.heap.size w V → Calls Tryz.prog 121 #[.pointer (some ⟨gi, 0, none⟩), .int .i64 ((trl (uw (nth t.es n).hash) t.L i : Nat) : Int), .int .i64 (-2)] V fun e w' => e = .returned (.int .i64 0) ∧ Cl w' gi r h t.L (2 ^ t.L) (upd t.c (trl (uw (nth t.es n).hash) t.L i) (-2)) ∧ But h w w') := fun V hV => (setM_yes (hD.cl.below hV) _ (-2) hx hmy).mono fun e w' ⟨h1, h2⟩ => ⟨h1, by rw [h2]; exact (hD.cl.below hV).put _ hx _ (by omega), by rw [h2]; exact (but_of hV h).setCell _ _⟩
  have hlg := lt_of_cell k1
  have hle := lt_of_cell ke
  have hgh := hD.ne.2.2
  have heh := (hD.ap ge rfl).2.2.2
  have HD := Lib.hid hD
  have HO := Lib.hid hO
  have HAP : Hid (ge ≠ g) := (hD.ap ge rfl).1
  have hB0 : Below w.heap.size w w.drew := (Below.refl _ w).drew
  have t0 : (n : Int) < (t.es.length : Int) := by omega
  clear hD hO hF hmy hro hae hfz
  generalize trl (uw (nth t.es n).hash) t.L i = x at *
  go_enter Tryz.func85, Tryz.ntmps85
  go_wp2_with fail
  refine C1.mono ?_
  rintro e w1 ⟨rfl, rfl⟩
  clear C1
  go_wp2_with fail
  go_region_held3 (fun V => V.cell? ⟨g, 1, none⟩ = some (.pointer (some ⟨gi, 0, none⟩)) ∧ V.cell? ⟨g, 2, none⟩ = some (.slice (some ⟨ge, 0, none⟩) t.es.length cape) ∧ V.cell? ⟨ge, n * 5 + 1, none⟩ = some (.int .i64 (nth t.es n).hash))
    (first | exact ⟨k1, k2, ke⟩ | exact ⟨q1, q2, qe⟩ | exact ⟨p1, p2, pe⟩ | fail)
    (first | (go_at_call 122; refine (CF.out _ hB0).mono ?_; rintro e w2 ⟨rfl, hB2⟩; have hBW := hB0.trans hB2; have q1 := (hBW.cell (p := ⟨g, 1, none⟩) hlg).trans k1; have q2 := (hBW.cell (p := ⟨g, 2, none⟩) hlg).trans k2; have qe := (hBW.cell (p := ⟨ge, n * 5 + 1, none⟩) hle).trans ke) | (go_at_call 121; refine (CS.out _ hBW).mono ?_; rintro e w3 ⟨rfl, hC3, hb3⟩; have p1 := (hb3.cell (p := ⟨g, 1, none⟩) hlg hgh).trans k1; have p2 := (hb3.cell (p := ⟨g, 2, none⟩) hlg hgh).trans k2; have pe := (hb3.cell (p := ⟨ge, n * 5 + 1, none⟩) hle heh).trans ke) | fail)
  obtain ⟨hB4, hDk, hEx⟩ := dkill_fin HD.out HO.out hn hl hx HCX.out hC3 hb3
  have hE3 : Es w3 (.slice (some ⟨ge, 0, none⟩) t.es.length cape) t.es := HD.out.es.same fun k hk => by cases hk; exact hb3.block ge hle heh
  obtain ⟨_, _, _, hv', hae', hro'⟩ := hE3.open
  cases hv'
  obtain ⟨hge', _, hfz'⟩ := hae' (by omega)
  cases hge'
  have e0 := hro'.c0 n hn
  have e1 := hro'.c1 n hn
  have e2 := hro'.c2 n hn
  have e3 := hro'.c3 n hn
  have e4 := hro'.c4 n hn
  have z0 := hfz' (n * 5)
  have z1 := hfz' (n * 5 + 1)
  have z2 := hfz' (n * 5 + 2)
  have z3 := hfz' (n * 5 + 3)
  have z4 := hfz' (n * 5 + 4)
  have x3 : (goneW w3 ge n (nth t.es n).birth).drew.cell? ⟨g, 3, none⟩ = some (.int .i64 (t.live : Int)) := (hB4.same (drew_heap _ _)).c 3 (by omega)
  have x6 : (goneW w3 ge n (nth t.es n).birth).drew.cell? ⟨g, 6, none⟩ = some (.int .i64 (t.turn : Int)) := (hB4.same (drew_heap _ _)).c 6 (by omega)
  have y3 : (goneW w3 ge n (nth t.es n).birth).drew.frozen? ⟨g, 3, none⟩ = false := (hB4.same (drew_heap _ _)).z 3
  have y6 : (goneW w3 ge n (nth t.es n).birth).drew.frozen? ⟨g, 6, none⟩ = false := (hB4.same (drew_heap _ _)).z 6
  have hlp := Tb.live_pos n hl
  have hlv1 := t.live_le
  have hsm : t.es.length ≤ 100000 := Nat.le_trans HO.out.few HO.out.all
  have e3' : IntKind.i64.wrap ((t.live : Int) - 1) = (t.live : Int) - 1 := i64_small (by omega) (by omega)
  have e6' : IntKind.i64.wrap ((t.turn : Int) + 1) = (t.turn : Int) + 1 := i64_small (by omega) (by omega)
  have HR : Hid (Dt (dKillW w3 g ge n t) g gi r h (.slice (some ⟨ge, 0, none⟩) t.es.length cape) (t.kill n) mv ∧ Ex (dX g gi r h (.slice (some ⟨ge, 0, none⟩) t.es.length cape)) w1 (dKillW w3 g ge n t)) := ⟨hDk, hEx⟩
  clear hB4 hDk hEx hE3 hro' hae' hfz' hC3 hb3 pe qe ke q1 q2 p1 k1 k2
  unfold dKillW goneW at HR
  unfold goneW at x3 x6 y3 y6
  have gm : ge ≠ g := HAP.out
  have p2d : w3.drew.cell? ⟨g, 2, none⟩ = some (.slice (some ⟨ge, 0, none⟩) t.es.length cape) := p2
  have e4d : w3.drew.cell? ⟨ge, n * 5 + 4, none⟩ = some (.int .i64 (nth t.es n).birth) := e4
  generalize (nth t.es n).birth = bb at *
  have HS : Hid ((((((w3.setCell ⟨ge, n * 5, none⟩ (.bool false)).setCell ⟨ge, n * 5 + 1, none⟩ (.int .i64 0)).setCell ⟨ge, n * 5 + 2, none⟩ (.int .i64 0)).setCell ⟨ge, n * 5 + 3, none⟩ (.int .i64 0)).setCell ⟨ge, n * 5 + 4, none⟩ (.int .i64 bb)).drew.cell? ⟨g, 2, none⟩ = some (.slice (some ⟨ge, 0, none⟩) t.es.length cape) ∧ (((((w3.setCell ⟨ge, n * 5, none⟩ (.bool false)).setCell ⟨ge, n * 5 + 1, none⟩ (.int .i64 0)).setCell ⟨ge, n * 5 + 2, none⟩ (.int .i64 0)).setCell ⟨ge, n * 5 + 3, none⟩ (.int .i64 0)).setCell ⟨ge, n * 5 + 4, none⟩ (.int .i64 bb)).drew.cell? ⟨ge, n * 5 + 4, none⟩ = some (.int .i64 bb)) := by
    have o : ∀ (U : World) (j k : Nat) (x : Value), j ≠ k → (U.setCell ⟨ge, j, none⟩ x).cell? ⟨ge, k, none⟩ = U.cell? ⟨ge, k, none⟩ := fun U j k x hjk => World.cell?_setCell_other _ _ _ _ (by intro he; injection he with a b; omega)
    have o2 : ∀ (U : World) (j : Nat) (x : Value), (U.setCell ⟨ge, j, none⟩ x).cell? ⟨g, 2, none⟩ = U.cell? ⟨g, 2, none⟩ := fun U j x => World.cell?_setCell_other _ _ _ _ (by intro he; injection he with a b; exact gm a)
    refine ⟨by rw [drew_cell, o2, o2, o2, o2, o2]; exact p2, (drew_cell _ _).trans (World.cell?_setCell_same' _ _ _ ?_)⟩
    rw [o _ _ _ _ (by omega), o _ _ _ _ (by omega), o _ _ _ _ (by omega), o _ _ _ _ (by omega), e4]
    rfl
  go_wp2_with fail
  go_region_held3 (fun V => V.cell? ⟨g, 2, none⟩ = some (.slice (some ⟨ge, 0, none⟩) t.es.length cape) ∧ V.cell? ⟨ge, n * 5 + 4, none⟩ = some (.int .i64 bb))
    (first | with_reducible exact ⟨p2d, e4d⟩ | with_reducible exact ⟨p2, e4⟩ | with_reducible exact HS.out | fail)
    (fail)
  clear HS p2d e4d p2 e0 e1 e2 e3 e4
  generalize World.drew (World.setCell (World.setCell (World.setCell (World.setCell (World.setCell w3 _ _) _ _) _ _) _ _) _ _) = w5 at *
  go_wp2
  go_ret
  exact ⟨rfl, HR.out⟩
end Go.Proofs.YtooneobnfepncaaGreat
