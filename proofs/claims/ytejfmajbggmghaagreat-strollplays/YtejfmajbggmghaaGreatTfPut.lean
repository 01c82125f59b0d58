/-
  The reference's Put, Kill, At, Clear.
-/
import Derived.Test.YtejfmajbggmghaaGreatTfAdd
namespace Go.Proofs.YtejfmajbggmghaaGreat
open Go.RowKit Go.WideShapes

theorem rthere_no {w : World} {g : Nat} {ev : Value} {q : Nat} {t : Tb} {mv : Value} (hR : Rt w g ev q t mv) (n : Int) (hn : ¬ (0 ≤ n ∧ n < (t.es.length : Int))) :
    Calls Tryz.prog 88 #[.pointer (some ⟨g, 0, none⟩), .int .i64 n] w fun e w' => e = .returned (.bool false) ∧ w' = w := by
  have f0 : w.cell? ⟨g, 0, none⟩ = some ev := hR.hd.c 0 (by omega)
  obtain ⟨ae, cape, ge, ev1, _, _⟩ := hR.es.open
  subst ev1
  clear hR
  by_cases h0 : 0 ≤ n
  case' pos => have h1 : ¬ n < (t.es.length : Int) := by omega
  all_goals
    clear hn
    go_enter Tryz.func88, Tryz.ntmps88
    go_wp2
    go_ret
    exact ⟨rfl, rfl⟩
theorem rthere_yes {w : World} {g : Nat} {ev : Value} {q : Nat} {t : Tb} {mv : Value} (hR : Rt w g ev q t mv) (n : Nat) (hn : n < t.es.length) :
    Calls Tryz.prog 88 #[.pointer (some ⟨g, 0, none⟩), .int .i64 (n : Int)] w fun e w' => e = .returned (.bool (nth t.es n).live) ∧ w' = w := by
  have f0 : w.cell? ⟨g, 0, none⟩ = some ev := hR.hd.c 0 (by omega)
  obtain ⟨ae, cape, ge, ev1, hp, hro⟩ := hR.es.open
  obtain ⟨rfl, _, _⟩ := hp (by omega)
  subst ev1
  have d0 := hro.c0 n hn
  have hle := hro.le
  have t1 : (n : Int) < (t.es.length : Int) := by omega
  clear hR hro hp
  generalize (nth t.es n).live = b at *
  go_enter Tryz.func88, Tryz.ntmps88
  go_wp2
  go_ret
  exact ⟨rfl, rfl⟩
/-- Whether a call on that entry goes. -/
theorem has_cases (t : Tb) (n : Int) : (∃ m : Nat, n = (m : Int) ∧ m < t.es.length ∧ (nth t.es m).live = true) ∨ (¬ t.has n) := by
  by_cases h : t.has n
  · exact .inl ⟨n.toNat, by have := h.1; omega, by have := h.1; have := h.2.1; omega, h.2.2⟩
  · exact .inr h
theorem rthere_has {w : World} {g : Nat} {ev : Value} {q : Nat} {t : Tb} {mv : Value} (hR : Rt w g ev q t mv) (n : Int) (hn : ¬ t.has n) :
    Calls Tryz.prog 88 #[.pointer (some ⟨g, 0, none⟩), .int .i64 n] w fun e w' => e = .returned (.bool false) ∧ w' = w := by
  by_cases h : 0 ≤ n ∧ n < (t.es.length : Int)
  · obtain ⟨m, rfl⟩ : ∃ m : Nat, n = (m : Int) := ⟨n.toNat, by omega⟩
    have h1 := rthere_yes hR m (by omega)
    have h2 : (nth t.es m).live = false := by
      cases e : (nth t.es m).live with
      | false => rfl
      | true => exact absurd ⟨h.1, h.2, by simpa using e⟩ hn
    rwa [h2] at h1
  · exact rthere_no hR n h
theorem rput_no {w : World} {g : Nat} {ev : Value} {q : Nat} {t : Tb} {mv : Value} (hR : Rt w g ev q t mv) (n v : Int) (hn : ¬ t.has n) :
    Calls Tryz.prog 82 #[.pointer (some ⟨g, 0, none⟩), .int .i64 n, .int .i64 v] w fun e w' => e = .returned (.int .i64 7) ∧ w' = w := by
  have C1 := rthere_has hR n hn
  clear hR hn
  go_enter Tryz.func82, Tryz.ntmps82
  go_wp2_with fail
  refine C1.mono ?_
  rintro e w1 ⟨rfl, rfl⟩
  clear C1
  go_wp2
  go_ret
  exact ⟨rfl, rfl⟩
theorem rput_yes {w : World} {g : Nat} {ev : Value} {q : Nat} {t : Tb} {mv : Value} (hR : Rt w g ev q t mv) (n : Nat) (v : Int) (hn : n < t.es.length) (hl : (nth t.es n).live = true) :
    Calls Tryz.prog 82 #[.pointer (some ⟨g, 0, none⟩), .int .i64 (n : Int), .int .i64 v] w fun e w' => e = .returned (.int .i64 0) ∧ Rt w' g ev q (t.putv n v) mv ∧ Ex (fun k => ev.ownBlock = some k) w w' := by
  have C1 := rthere_yes hR n hn
  rw [hl] at C1
  have f0 : w.cell? ⟨g, 0, none⟩ = some ev := hR.hd.c 0 (by omega)
  obtain ⟨ae, cape, ge, ev1, hp, hro⟩ := hR.es.open
  obtain ⟨rfl, hob, hfz⟩ := hp (by omega)
  subst ev1
  have d3 := hro.c3 n hn
  have z3 := hfz (n * 5 + 3)
  have hle := hro.le
  have t1 : (n : Int) < (t.es.length : Int) := by omega
  obtain ⟨hng, hnq⟩ := hR.ap ge hob
  have hoth : ∀ j, j ≠ ge → (w.setCell ⟨ge, n * 5 + 3, none⟩ (.int .i64 v)).heap[j]? = w.heap[j]? := fun j hj => Below.heap_setCell _ _ _ _ hj
  have HRT : Hid (Rt (w.setCell ⟨ge, n * 5 + 3, none⟩ (.int .i64 v)) g (.slice (some ⟨ge, 0, none⟩) t.es.length cape) q (t.putv n v) mv) := by
    refine ⟨(hR.hd.same (hoth g (fun e => hng e.symm))).congr (fun j hj => ?_), Es.put rfl hR.es n 3 hn (by decide) (.int .i64 v) _ rfl rfl, hR.rf.same (hoth q (fun e => hnq e.symm)), hR.ap, hR.sz, hR.mp⟩
    have h1 : (t.putv n v).live = t.live := by
      show (t.es.set n _).length - deadN (t.es.set n _) = _
      rw [List.length_set, deadN_put t.es n ⟨(nth t.es n).live, (nth t.es n).hash, (nth t.es n).key, v, (nth t.es n).birth⟩ hl hl]
      rfl
    have : j = 0 ∨ j = 1 ∨ j = 2 ∨ j = 3 ∨ j = 4 ∨ j = 5 ∨ j = 6 ∨ j = 7 := by omega
    rcases this with rfl | rfl | rfl | rfl | rfl | rfl | rfl | rfl
    · rfl
    · rfl
    · rfl
    · show Value.int .i64 (((t.putv n v).live : Nat) : Int) = Value.int .i64 ((t.live : Nat) : Int)
      rw [h1]
    · rfl
    · rfl
    · rfl
    · rfl
  have HEX : Hid (Ex (fun k => (Value.slice (some ⟨ge, 0, none⟩) t.es.length cape).ownBlock = some k) w (w.setCell ⟨ge, n * 5 + 3, none⟩ (.int .i64 v))) := (Ex.refl (fun k => (Value.slice (some ⟨ge, 0, none⟩) t.es.length cape).ownBlock = some k) w).setCell (p := ⟨ge, n * 5 + 3, none⟩) (fun _ => rfl) _
  clear hR hro hp hfz hoth hob
  go_enter Tryz.func82, Tryz.ntmps82
  go_wp2_with fail
  refine C1.mono ?_
  rintro e w1 ⟨rfl, rfl⟩
  clear C1
  go_wp2
  go_ret
  exact ⟨rfl, HRT.out, HEX.out⟩
/-- An entry as one value. -/
def enV (e : En) : Value := .agg #[.bool e.live, .int .i64 e.hash, .int .i64 e.key, .int .i64 e.value, .int .i64 e.birth]
theorem mix_skip (k : Nat) (l f : Nat → Int) (h : l k = f k) : mix (k + 1) l f = mix k l f := by
  funext x
  unfold mix
  by_cases e : x = k
  · subst e
    rw [if_pos (by omega), if_neg (by omega), h]
  · by_cases h2 : x < k
    · rw [if_pos h2, if_pos (by omega)]
    · rw [if_neg h2, if_neg (by omega)]
theorem rkill_no {w : World} {g : Nat} {ev : Value} {q : Nat} {t : Tb} {mv : Value} (hR : Rt w g ev q t mv) (n : Int) (hn : ¬ t.has n) :
    Calls Tryz.prog 68 #[.pointer (some ⟨g, 0, none⟩), .int .i64 n] w fun e w' => e = .returned (.int .i64 7) ∧ w' = w := by
  have C1 := rthere_has hR n hn
  clear hR hn
  go_enter Tryz.func68, Tryz.ntmps68
  go_wp2_with fail
  refine C1.mono ?_
  rintro e w1 ⟨rfl, rfl⟩
  clear C1
  go_wp2
  go_ret
  exact ⟨rfl, rfl⟩
/-- The five stores and the two counts of Kill. -/
def killW (w : World) (g ge n : Nat) (t : Tb) : World :=
  ((((((w.setCell ⟨ge, n * 5, none⟩ (.bool false)).setCell ⟨ge, n * 5 + 1, none⟩ (.int .i64 0)).setCell ⟨ge, n * 5 + 2, none⟩ (.int .i64 0)).setCell ⟨ge, n * 5 + 3, none⟩ (.int .i64 0)).setCell ⟨ge, n * 5 + 4, none⟩ (.int .i64 0)).setCell ⟨g, 3, none⟩ (.int .i64 ((t.live : Int) - 1))).setCell ⟨g, 6, none⟩ (.int .i64 ((t.turn : Int) + 1))
theorem kill_fin {w : World} {g : Nat} {q : Nat} {t : Tb} {mv : Value} {ge cape n : Nat} (hR : Rt w g (.slice (some ⟨ge, 0, none⟩) t.es.length cape) q { t with c := killc t.c n } mv) (hn : n < t.es.length) (hl : (nth t.es n).live = true) :
    Rt (killW w g ge n t) g (.slice (some ⟨ge, 0, none⟩) t.es.length cape) q (t.killz n) mv ∧ Ex (fun k => k = g ∨ k = ge) w (killW w g ge n t) := by
  obtain ⟨hng, hnq⟩ := hR.ap ge rfl
  have hgq := hR.gq
  have hlv := Tb.live_killz n hl
  have hlp := Tb.live_pos n hl
  constructor
  · have e0 : Es (w.setCell ⟨ge, n * 5 + 0, none⟩ (.bool false)) (.slice (some ⟨ge, 0, none⟩) t.es.length cape) (t.es.set n ⟨false, (nth t.es n).hash, (nth t.es n).key, (nth t.es n).value, (nth t.es n).birth⟩) := Es.put rfl hR.es n 0 hn (by decide) (.bool false) _ rfl rfl
    have sh : ∀ (es : List En) (e : En), n < es.length → nth (es.set n e) n = e := fun es e h => by rw [nth_set h, if_pos rfl]
    have e1 := Es.put (by simp) e0 n 1 (by simpa using hn) (by decide) (.int .i64 0) ⟨false, 0, (nth t.es n).key, (nth t.es n).value, (nth t.es n).birth⟩ (by rw [sh _ _ hn]; rfl) rfl
    rw [List.set_set] at e1
    have e2 := Es.put (by simp) e1 n 2 (by simpa using hn) (by decide) (.int .i64 0) ⟨false, 0, 0, (nth t.es n).value, (nth t.es n).birth⟩ (by rw [sh _ _ hn]; rfl) rfl
    rw [List.set_set] at e2
    have e3 := Es.put (by simp) e2 n 3 (by simpa using hn) (by decide) (.int .i64 0) ⟨false, 0, 0, 0, (nth t.es n).birth⟩ (by rw [sh _ _ hn]; rfl) rfl
    rw [List.set_set] at e3
    have e4 := Es.put (by simp) e3 n 4 (by simpa using hn) (by decide) (.int .i64 0) En.zero (by rw [sh _ _ hn]; rfl) rfl
    rw [List.set_set, Nat.add_zero] at e4
    have h5 : ∀ j, j ≠ ge → (((((w.setCell ⟨ge, n * 5, none⟩ (.bool false)).setCell ⟨ge, n * 5 + 1, none⟩ (.int .i64 0)).setCell ⟨ge, n * 5 + 2, none⟩ (.int .i64 0)).setCell ⟨ge, n * 5 + 3, none⟩ (.int .i64 0)).setCell ⟨ge, n * 5 + 4, none⟩ (.int .i64 0)).heap[j]? = w.heap[j]? := fun j hj => by
      rw [Below.heap_setCell _ _ _ _ hj, Below.heap_setCell _ _ _ _ hj, Below.heap_setCell _ _ _ _ hj, Below.heap_setCell _ _ _ _ hj, Below.heap_setCell _ _ _ _ hj]
    have hB5 := hR.hd.same (h5 g (fun e => hng e.symm))
    have hR5 := hR.rf.same (h5 q (fun e => hnq e.symm))
    unfold killW
    generalize World.setCell (World.setCell (World.setCell (World.setCell (World.setCell w _ _) _ _) _ _) _ _) _ _ = w5 at *
    have h7 : ∀ j, j ≠ g → ((w5.setCell ⟨g, 3, none⟩ (.int .i64 ((t.live : Int) - 1))).setCell ⟨g, 6, none⟩ (.int .i64 ((t.turn : Int) + 1))).heap[j]? = w5.heap[j]? := fun j hj => by
      rw [Below.heap_setCell _ _ _ _ hj, Below.heap_setCell _ _ _ _ hj]
    refine ⟨((hB5.put 3 (.int .i64 ((t.live : Int) - 1))).put 6 (.int .i64 ((t.turn : Int) + 1))).congr (fun j hj => ?_), e4.same (fun j hj => h7 j (by cases hj; exact hng)), hR5.same (h7 q (fun e => hgq e.symm)), hR.ap, hR.sz, hR.mp⟩
    have : j = 0 ∨ j = 1 ∨ j = 2 ∨ j = 3 ∨ j = 4 ∨ j = 5 ∨ j = 6 ∨ j = 7 := by omega
    rcases this with rfl | rfl | rfl | rfl | rfl | rfl | rfl | rfl
    · rfl
    · rfl
    · rfl
    · show Value.int .i64 (((t.killz n).live : Nat) : Int) = Value.int .i64 ((t.live : Int) - 1)
      rw [hlv, Int.natCast_sub hlp]
      rfl
    · rfl
    · rfl
    · show Value.int .i64 (((t.turn + 1 : Nat)) : Int) = Value.int .i64 ((t.turn : Int) + 1)
      rw [Int.natCast_add]
      rfl
    · rfl
  · unfold killW
    exact (((((((Ex.refl (fun k => k = g ∨ k = ge) w).setCell (p := ⟨ge, n * 5, none⟩) (fun _ => .inr rfl) _).setCell (p := ⟨ge, n * 5 + 1, none⟩) (fun _ => .inr rfl) _).setCell (p := ⟨ge, n * 5 + 2, none⟩) (fun _ => .inr rfl) _).setCell (p := ⟨ge, n * 5 + 3, none⟩) (fun _ => .inr rfl) _).setCell (p := ⟨ge, n * 5 + 4, none⟩) (fun _ => .inr rfl) _).setCell (p := ⟨g, 3, none⟩) (fun _ => .inl rfl) _).setCell (p := ⟨g, 6, none⟩) (fun _ => .inl rfl) _
set_option maxRecDepth 100000 in
set_option maxHeartbeats 4000000 in
theorem rkill_yes {w : World} {g : Nat} {ev : Value} {q : Nat} {t : Tb} {mv : Value} (hR : Rt w g ev q t mv) (n : Nat) (hn : n < t.es.length) (hl : (nth t.es n).live = true) (hlen : t.es.length ≤ 100000) (ht : t.turn ≤ 1000000) :
    Calls Tryz.prog 68 #[.pointer (some ⟨g, 0, none⟩), .int .i64 (n : Int)] w fun e w' => e = .returned (.int .i64 0) ∧ Rt w' g ev q (t.killz n) mv ∧ Ex (fun k => k = g ∨ k = q ∨ ev.ownBlock = some k) w w' := by
  have C1 := rthere_yes hR n hn
  rw [hl] at C1
  have lg := hR.hd.lt (by omega)
  have hgq := hR.gq
  have hP : 2 ^ t.L ≤ 1048576 := Nat.le_trans (Nat.pow_le_pow_right (n := 2) (by decide) hR.sz.2) (by decide)
  have HRT := Lib.hid hR
  have HR0 : Hid (Rf w q (2 ^ t.L) (mix 0 (killc t.c n) t.c)) := hR.rf.congr fun j _ => by unfold mix; rw [if_neg (by omega)]
  obtain ⟨ae, cape, ge, ev1, hp, hro⟩ := hR.es.open
  obtain ⟨rfl, hob, hfz⟩ := hp (by omega)
  have hle := hro.le
  subst ev1
  clear hR hro hp hfz
  go_enter Tryz.func68, Tryz.ntmps68
  go_wp2_with fail
  refine C1.mono ?_
  rintro e w1 ⟨rfl, rfl⟩
  clear C1
  generalize hS : 2 ^ t.L = S at *
  have HS := Lib.hid hS
  clear hS
  go_wp2_with fail
  go_loopw [5] (fun iv wr => ∃ k : Nat, k ≤ S ∧ iv = .int .i64 (k : Int) ∧ Rf wr q S (mix k (killc t.c n) t.c) ∧ But q w1 wr) (fun iv _ => S - (intOf iv).toNat)
  case atStart => exact ⟨0, Nat.zero_le _, rfl, HR0.out, But.refl _ _⟩
  case round =>
    clear HR0
    obtain ⟨k, hk, rfl, hRk, hBk⟩ := hrel
    have hBz := HRT.out.hd.same (hBk.block g lg hgq)
    have k2 : wr.cell? ⟨g, 2, none⟩ = some (.slice (some ⟨q, 0, none⟩) S S) := by rw [← HS.out]; exact hBz.c 2 (by omega)
    by_cases hlt : k < S
    · have t1 : (k : Int) < (S : Int) := by omega
      have d1 := hRk.hc k hlt
      have d2 := hRk.hz k
      have hmk : mix k (killc t.c n) t.c k = t.c k := by unfold mix; rw [if_neg (by omega)]
      rw [hmk] at d1
      by_cases he : t.c k = (n : Int)
      · have hkc : killc t.c n k = -2 := by unfold killc; rw [if_pos he]
        have HP := Lib.hid (hRk.put k hlt (killc t.c n k))
        rw [mix_upd, hkc] at HP
        have HPB := Lib.hid (hBk.setCell k (.int .i64 (-2)))
        rw [he] at d1
        have t3 : ((n : Int) == (n : Int)) = true := by simp
        clear he hkc hmk hRk hBk hBz
        go_wp2_with fail
        go_roundw
        case rel => exact ⟨k + 1, by omega, by go_num, HP.out, HPB.out⟩
        case measure => simp [intOf]; omega
      · have hkc : killc t.c n k = t.c k := by unfold killc; rw [if_neg he]
        have HP : Hid (Rf wr q S (mix (k + 1) (killc t.c n) t.c)) := by
          show Rf _ _ _ _
          rw [mix_skip _ _ _ hkc]
          exact hRk
        have t3 : (t.c k == (n : Int)) = false := by simp [he]
        generalize t.c k = y at d1 t3
        clear he hkc hmk hRk hBz
        go_wp2_with fail
        go_roundw
        case rel => exact ⟨k + 1, by omega, by go_num, HP.out, hBk⟩
        case measure => simp [intOf]; omega
    · have t1 : ¬ (k : Int) < (S : Int) := by omega
      obtain rfl : k = S := by omega
      have hRT := HRT.out
      have hng := (hRT.ap ge hob).2
      have hRt2 : Rt wr g (.slice (some ⟨ge, 0, none⟩) t.es.length cape) q { t with c := killc t.c n } mv := ⟨hBz, hRT.es.same (fun j hj => hBk.block j (hRT.es.lt j hj) ((hRT.ap j hj).2)), by show Rf wr q (2 ^ t.L) (killc t.c n); rw [HS.out]; exact hRk.congr (fun j hj => by unfold mix; rw [if_pos hj]), hRT.ap, hRT.sz, hRT.mp⟩
      obtain ⟨hF, hX⟩ := kill_fin hRt2 hn hl
      obtain ⟨ae', cape', ge', ev', hp', hro'⟩ := hRt2.es.open
      cases ev'
      obtain ⟨ea, _, hfz'⟩ := hp' (by show 0 < t.es.length; omega)
      cases ea
      have f0 : wr.cell? ⟨g, 0, none⟩ = some (.slice (some ⟨ge, 0, none⟩) t.es.length cape) := hBz.c 0 (by omega)
      have f3 : wr.cell? ⟨g, 3, none⟩ = some (.int .i64 (t.live : Int)) := hBz.c 3 (by omega)
      have f6 : wr.cell? ⟨g, 6, none⟩ = some (.int .i64 (t.turn : Int)) := hBz.c 6 (by omega)
      have z3 := hBz.z 3
      have z6 := hBz.z 6
      have d0 := hro'.c0 n hn
      have d1 := hro'.c1 n hn
      have d2 := hro'.c2 n hn
      have d3 := hro'.c3 n hn
      have d4 := hro'.c4 n hn
      have y0 := hfz' (n * 5)
      have y1 := hfz' (n * 5 + 1)
      have y2 := hfz' (n * 5 + 2)
      have y3 := hfz' (n * 5 + 3)
      have y4 := hfz' (n * 5 + 4)
      have t2 : (n : Int) < (t.es.length : Int) := by omega
      have hlp := Tb.live_pos n hl
      have hll := t.live_le
      have e1 : IntKind.i64.wrap ((t.live : Int) - 1) = (t.live : Int) - 1 := i64_small (by omega) (by omega)
      have e2 : IntKind.i64.wrap ((t.turn : Int) + 1) = (t.turn : Int) + 1 := i64_small (by omega) (by omega)
      have hgg : ge ≠ g := (hRT.ap ge hob).1
      have HFF := Lib.hid hF
      have HXX : Hid (Ex (fun k => k = g ∨ k = q ∨ (Value.slice (some ⟨ge, 0, none⟩) t.es.length cape).ownBlock = some k) w1 (killW wr g ge n t)) := (hBk.ex.mono (fun _ _ h => .inr (.inl h))).next hX (fun j _ h => h.elim (fun x => .inl x) (fun x => .inr (.inr (by rw [x]; rfl))))
      clear hF hX hRt2 hro' hp' hfz' hBz hBk hRk hRT
      unfold killW at *
      generalize (nth t.es n).live = x0 at d0
      generalize nth { t with c := killc t.c n }.es n = xx at *
      go_wp2_with fail
      go_ret
      exact ⟨rfl, HFF.out, HXX.out.mono (fun j _ h => by simpa [Value.ownBlock] using h)⟩
set_option maxRecDepth 100000 in
set_option maxHeartbeats 4000000 in
theorem rclear_any {w : World} {g : Nat} {ev : Value} {q : Nat} {t : Tb} {mv : Value} {a b c d : Int} (hR : Rt w g ev q t mv) (hM : Ms w mv a b c d) (hm : t.made ≤ 1000000) (ha : 0 ≤ a ∧ a ≤ 1000000000) (ht : t.turn ≤ 1000000) :
    Calls Tryz.prog 39 #[.pointer (some ⟨g, 0, none⟩)] w fun e w' => e = .returned (.tuple #[]) ∧ ∃ q', w.heap.size ≤ q' ∧ Rt w' g (.slice none 0 0) q' t.clear mv ∧ Ms w' mv (a + 1) b c d ∧ Ex (fun k => k = g ∨ mB mv k) w w' := by
  have hB := hR.hd
  have f0 := hB.c 0 (by omega)
  have f3 := hB.c 3 (by omega)
  have f6 : w.cell? ⟨g, 6, none⟩ = some (.int .i64 (t.turn : Int)) := hB.c 6 (by omega)
  have z0 := hB.z 0
  have z3 := hB.z 3
  have z6 := hB.z 6
  have e2 : IntKind.i64.wrap ((t.turn : Int) + 1) = (t.turn : Int) + 1 := i64_small (by omega) (by omega)
  have hlm := hM.lt
  have hB3 := ((hB.put 0 (.slice none 0 0)).put 3 (.int .i64 0)).put 6 (.int .i64 ((t.turn : Int) + 1))
  have hoth : ∀ j, j ≠ g → (((w.setCell ⟨g, 0, none⟩ (.slice none 0 0)).setCell ⟨g, 3, none⟩ (.int .i64 0)).setCell ⟨g, 6, none⟩ (.int .i64 ((t.turn : Int) + 1))).heap[j]? = w.heap[j]? := fun j hj => by
    rw [Below.heap_setCell _ _ _ _ hj, Below.heap_setCell _ _ _ _ hj, Below.heap_setCell _ _ _ _ hj]
  have hX : Ex (fun k => k = g ∨ mB mv k) w (((w.setCell ⟨g, 0, none⟩ (.slice none 0 0)).setCell ⟨g, 3, none⟩ (.int .i64 0)).setCell ⟨g, 6, none⟩ (.int .i64 ((t.turn : Int) + 1))) := (((Ex.refl (fun k => k = g ∨ mB mv k) w).setCell (p := ⟨g, 0, none⟩) (fun _ => .inl rfl) _).setCell (p := ⟨g, 3, none⟩) (fun _ => .inl rfl) _).setCell (p := ⟨g, 6, none⟩) (fun _ => .inl rfl) _
  have C1 := rindex_any (L := 3) (made := t.made) ⟨rfl, by decide, by decide⟩ hB3 rfl rfl (hM.same fun k hk => hoth k (hR.mp k hk).1) (fun k hk => (hR.mp k hk).1) hm ha
  have C1' : Calls Tryz.prog 31 #[.pointer (some ⟨g, 0, none⟩), .int .i64 3] (((w.setCell ⟨g, 0, none⟩ (.slice none 0 0)).setCell ⟨g, 3, none⟩ (.int .i64 0)).setCell ⟨g, 6, none⟩ (.int .i64 ((t.turn : Int) + 1))) _ := C1
  have HX := Lib.hid hX
  have HMP := Lib.hid hR.mp
  have hge := hR.hd.lt (by omega)
  have hsz : (((w.setCell ⟨g, 0, none⟩ (.slice none 0 0)).setCell ⟨g, 3, none⟩ (.int .i64 0)).setCell ⟨g, 6, none⟩ (.int .i64 ((t.turn : Int) + 1))).heap.size = w.heap.size := by simp
  clear C1 hB3 hoth hX hR hB hM
  go_enter Tryz.func39, Tryz.ntmps39
  go_upto_region 3 with fail
  generalize World.setCell (World.setCell (World.setCell w _ _) _ _) _ _ = w3 at *
  go_wp2_with fail
  refine C1'.mono ?_
  rintro e w4 ⟨rfl, q', hq', hB4, hR4, hM4, hX4⟩
  clear C1'
  have HR : Hid (Rt w4 g (.slice none 0 0) q' t.clear mv) := ⟨hB4.congr (fun j hj => by
      have : j = 0 ∨ j = 1 ∨ j = 2 ∨ j = 3 ∨ j = 4 ∨ j = 5 ∨ j = 6 ∨ j = 7 := by omega
      rcases this with rfl | rfl | rfl | rfl | rfl | rfl | rfl | rfl
      · rfl
      · rfl
      · rfl
      · rfl
      · rfl
      · show Value.int .i64 (((t.made + 1 : Nat)) : Int) = Value.int .i64 ((t.made : Int) + 1)
        rw [Int.natCast_add]
        rfl
      · show Value.int .i64 (((t.turn + 1 : Nat)) : Int) = Value.int .i64 ((t.turn : Int) + 1)
        rw [Int.natCast_add]
        rfl
      · rfl), Es.nil _, hR4, (fun k hk => by cases hk), (by show 3 ≤ 3 ∧ 3 ≤ 20; omega), fun k hk => ⟨(HMP.out k hk).1, by have := hlm k hk; omega, by simp [Value.ownBlock]⟩⟩
  have HXX := Lib.hid (HX.out.next hX4 (fun k _ h => h))
  have HM := Lib.hid hM4
  clear hB4 hR4 hM4 hX4
  go_wp2
  go_end0
  exact ⟨rfl, q', by omega, HR.out, HM.out, HXX.out⟩
end Go.Proofs.YtejfmajbggmghaaGreat
