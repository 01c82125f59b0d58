/-
  lay, makeIndex, logOf.
-/
import Derived.Test.YtdjabdmnknlaeaaGreatDtMem
import Derived.Deep.RegionHeld3
namespace Go.Proofs.YtdjabdmnknlaeaaGreat
open Go.RowKit Go.WideShapes

set_option maxRecDepth 100000 in
set_option maxHeartbeats 4000000 in
theorem lay_any {w : World} {g gi r h L ge len cap n : Nat} {c : Nat → Int} {u : Int} (k1 : w.cell? ⟨g, 1, none⟩ = some (.pointer (some ⟨gi, 0, none⟩))) (k2 : w.cell? ⟨g, 2, none⟩ = some (.slice (some ⟨ge, 0, none⟩) len cap)) (ke : w.cell? ⟨ge, n * 5 + 1, none⟩ = some (.int .i64 u))
    (hC : Cl w gi r h L (2 ^ L) c) (hgh : g ≠ h) (heh : ge ≠ h) (hn : n < len) (hr : n < rm (2 ^ L)) {i : Nat} (hF : IsF c (uw u) L i) (hi : i < 2 ^ L + 13) :
    Calls Tryz.prog 16 #[.pointer (some ⟨g, 0, none⟩), .int .i64 (n : Int)] w fun e w' => e = .returned (.tuple #[]) ∧ Cl w' gi r h L (2 ^ L) (upd c (trl (uw u) L i) (n : Int)) ∧ But h w w' := by
  have CF : Hid (∀ V, Below w.heap.size w V → Calls Tryz.prog 46 #[.pointer (some ⟨g, 0, none⟩), .int .i64 u, .int .i64 (-1)] V fun e w' => e = .returned (.int .i64 ((trl (uw u) L i : Nat) : Int)) ∧ Below V.heap.size V w') := fun V hV => find_any ((hV.cell (p := ⟨g, 1, none⟩) (lt_of_cell k1)).trans k1) (hC.below hV) u (-1) hF hi
  have hmy : may (2 ^ L) (n : Int) = true := by unfold may; simp; omega
  have CS : Hid (∀ V, Below w.heap.size w V → Calls Tryz.prog 45 #[.pointer (some ⟨gi, 0, none⟩), .int .i64 ((trl (uw u) L i : Nat) : Int), .int .i64 (n : Int)] V fun e w' => e = .returned (.int .i64 0) ∧ Cl w' gi r h L (2 ^ L) (upd c (trl (uw u) L i) (n : Int)) ∧ But h w w') := fun V hV => (setM_yes (hC.below hV) (trl (uw u) L i) (n : Int) (trl_lt _ _ _) hmy).mono fun e w' ⟨h1, h2⟩ => ⟨h1, by rw [h2]; exact (hC.below hV).put _ (trl_lt _ _ _) _ (by omega), by rw [h2]; exact (but_of hV h).setCell _ _⟩
  have hlg := lt_of_cell k1
  have hle := lt_of_cell ke
  have hB0 : Below w.heap.size w w.drew := (Below.refl _ w).drew
  clear hC hF hmy
  generalize trl (uw u) L i = x at CF CS ⊢
  have t0 : (n : Int) < (len : Int) := by omega
  go_enter Tryz.func16, Tryz.ntmps16
  go_region_held3 (fun V => V.cell? ⟨g, 1, none⟩ = some (.pointer (some ⟨gi, 0, none⟩)) ∧ V.cell? ⟨g, 2, none⟩ = some (.slice (some ⟨ge, 0, none⟩) len cap) ∧ V.cell? ⟨ge, n * 5 + 1, none⟩ = some (.int .i64 u))
    (first | exact ⟨k1, k2, ke⟩ | exact ⟨q1, q2, qe⟩ | exact ⟨p1, p2, pe⟩ | fail)
    (first | (go_at_call 46; refine (CF.out _ hB0).mono ?_; rintro e w2 ⟨rfl, hB2⟩; have hBW := hB0.trans hB2; have q1 := (hBW.cell (p := ⟨g, 1, none⟩) hlg).trans k1; have q2 := (hBW.cell (p := ⟨g, 2, none⟩) hlg).trans k2; have qe := (hBW.cell (p := ⟨ge, n * 5 + 1, none⟩) hle).trans ke)
           | (go_at_call 45; refine (CS.out _ hBW).mono ?_; rintro e w3 ⟨rfl, hC3, hb3⟩; have p1 := (hb3.cell (p := ⟨g, 1, none⟩) hlg hgh).trans k1; have p2 := (hb3.cell (p := ⟨g, 2, none⟩) hlg hgh).trans k2; have pe := (hb3.cell (p := ⟨ge, n * 5 + 1, none⟩) hle heh).trans ke) | fail)
  go_wp2
  go_end0
  exact ⟨rfl, hC3, hb3⟩
/-- The least log from l on, within so many, for which 2 ^ log is n or more. -/
def logF (n : Nat) : Nat → Nat → Nat
  | 0, l => l
  | f + 1, l => if 2 ^ l < n then logF n f (l + 1) else l
theorem logF_glog (n : Nat) : ∀ f l, logF (3 * n) f l = glogF n f l := by
  intro f
  induction f with
  | zero => intro l; rfl
  | succ f ih => intro l; rw [logF, glogF, ih]
theorem logF_step (n : Nat) : ∀ f l, 2 ^ (l + f) ≥ n → logF n f l ≤ l + f ∧ l ≤ logF n f l ∧ ¬ 2 ^ logF n f l < n ∧ ∀ j, l ≤ j → j < logF n f l → 2 ^ j < n := by
  intro f
  induction f with
  | zero => intro l h; simp only [logF]; exact ⟨by omega, by omega, by simpa using h, fun j h1 h2 => by omega⟩
  | succ f ih =>
    intro l h
    rw [logF]
    by_cases e : 2 ^ l < n
    · rw [if_pos e]
      obtain ⟨h1, h2, h3, h4⟩ := ih (l + 1) (by rw [show l + 1 + f = l + (f + 1) by omega]; exact h)
      refine ⟨by omega, by omega, h3, fun j h5 h6 => ?_⟩
      rcases Nat.lt_or_ge l j with x | x
      · exact h4 j (by omega) h6
      · rw [show j = l by omega]; exact e
    · rw [if_neg e]
      exact ⟨by omega, by omega, e, fun j h1 h2 => by omega⟩
theorem logF_eq {n l : Nat} (hn : n ≤ 1000000) (h3 : 3 ≤ l) (h1 : ¬ 2 ^ l < n) (h2 : ∀ j, 3 ≤ j → j < l → 2 ^ j < n) : logF n 20 3 = l := by
  obtain ⟨a1, a2, a3, a4⟩ := logF_step n 20 3 (Nat.le_trans (by omega : n ≤ 2 ^ 20) (by decide))
  rcases Nat.lt_trichotomy (logF n 20 3) l with e | e | e
  · exact absurd (h2 _ a2 e) a3
  · exact e
  · exact absurd (a4 l h3 e) h1
set_option maxHeartbeats 1000000 in
theorem logOf_any (n : Nat) (hn : n ≤ 1000000) (w : World) : Calls Tryz.prog 43 #[.int .i64 (n : Int)] w fun e w' => e = .returned (.int .i64 ((logF n 20 3 : Nat) : Int)) ∧ w' = w := by
  go_enter Tryz.func43, Tryz.ntmps43
  go_wp2
  go_loopw [3] (fun lv wr => ∃ l : Nat, 3 ≤ l ∧ l ≤ 20 ∧ lv = .int .i64 (l : Int) ∧ (∀ j, 3 ≤ j → j < l → 2 ^ j < n) ∧ wr = w) (fun lv _ => 21 - (intOf lv).toNat)
  case atStart => exact ⟨3, by omega, by omega, rfl, fun j h1 h2 => absurd h2 (by omega), rfl⟩
  case round =>
    obtain ⟨l, hl3, hl20, rfl, hlj, rfl⟩ := hrel
    have hP : 2 ^ l ≤ 1048576 := Nat.le_trans (Nat.pow_le_pow_right (n := 2) (by decide) hl20) (by decide)
    have e1 : IntKind.i64.wrap ((2 : Int) ^ l) = ((2 ^ l : Nat) : Int) := by
      rw [show ((2 : Int) ^ l) = ((2 ^ l : Nat) : Int) by push_cast; rfl]
      generalize 2 ^ l = P at hP
      exact i64_small (by omega) (by omega)
    have HLJ := Lib.hid hlj
    clear hlj
    by_cases hc : 2 ^ l < n
    · have hl19 : l < 20 := by
        rcases Nat.lt_or_ge l 20 with z | z
        · exact z
        · have h20' : (2 : Nat) ^ 20 = 1048576 := by decide
          rw [show l = 20 by omega] at hc
          omega
      have HL2 : Hid (∀ j, 3 ≤ j → j < l + 1 → 2 ^ j < n) := fun j h1 h2 => by
        rcases Nat.lt_or_ge j l with z | z
        · exact HLJ.out j h1 z
        · rw [show j = l by omega]; exact hc
      generalize 2 ^ l = P at e1 hP hc
      have hc' : (P : Int) < (n : Int) := by omega
      go_wp2
      go_roundw
      case rel => exact ⟨l + 1, by omega, by omega, by go_num, HL2.out, by first | rfl | trivial⟩
      case measure => simp [intOf]; omega
    · have HG := Lib.hid (logF_eq hn hl3 hc HLJ.out)
      generalize 2 ^ l = P at e1 hP hc
      have hc' : ¬ (P : Int) < (n : Int) := by omega
      go_wp2
      go_ret
      exact ⟨by rw [HG.out]; rfl, rfl⟩
/-- The head of a table, its index turned. -/
def setD (F : Nat → Value) (gi made : Nat) : Nat → Value
  | 1 => .pointer (some ⟨gi, 0, none⟩)
  | 5 => .int .i64 ((made : Int) + 1)
  | j => F j
/-- What makeIndex leaves. -/
structure Mi (w : World) (g : Nat) (F : Nat → Value) (L made : Nat) (es : List En) (ev : Value) (mv : Value) (M : Int → Int → World → Prop) (a b : Int) (gi r h k : Nat) (w' : World) : Prop where
  hd : Blk w' g 7 (setD F gi made)
  row : Es w' ev es
  cl : Cl w' gi r h L (2 ^ L) (layN es L k)
  m : M (a + 1) b w'
  ex : Ex (fun k => k = g ∨ mB mv k) w w'
set_option maxRecDepth 100000 in
set_option maxHeartbeats 4000000 in
theorem makeIndex_any {w : World} {g L made : Nat} {F : Nat → Value} {es : List En} {ev mv : Value} {M : Int → Int → World → Prop} {a b : Int} (hS : Sz L (2 ^ L)) (hB : Blk w g 7 F) (f0 : F 0 = mv) (f2 : F 2 = ev) (f5 : F 5 = .int .i64 (made : Int)) (hE : Es w ev es) (hMo : MtOk mv M) (hM : M a b w)
    (hge : ∀ k, ev.ownBlock = some k → k ≠ g ∧ ¬ mB mv k) (hgm : ∀ k, mB mv k → k ≠ g) (hl : ∀ n, n < es.length → (nth es n).live = true) (hr : es.length ≤ rm (2 ^ L)) (hm : made ≤ 1000000) (ha : 0 ≤ a ∧ a ≤ 1000000000) (hlen : es.length ≤ 100000) :
    Calls Tryz.prog 41 #[.pointer (some ⟨g, 0, none⟩), .int .i64 (L : Int)] w fun e w' => e = .returned (.tuple #[]) ∧ ∃ gi r h, w.heap.size ≤ gi ∧ w.heap.size ≤ r ∧ w.heap.size ≤ h ∧ Mi w g F L made es ev mv M a b gi r h es.length w' := by
  have C1 := new_any hS w
  have hlg := hB.lt (by omega)
  obtain ⟨ae, cape, ge, hev, hae, hro⟩ := hE.open
  have HB := Lib.hid hB
  have HE := Lib.hid hE
  have HMO := Lib.hid hMo
  have HM := Lib.hid hM
  have HGE := Lib.hid hge
  have HGM := Lib.hid hgm
  have HL := Lib.hid hl
  have HA := Lib.hid hae
  have HRO := Lib.hid hro
  have HEV := Lib.hid hev
  have e5 : IntKind.i64.wrap ((made : Int) + 1) = (made : Int) + 1 := i64_small (by omega) (by omega)
  clear hB hE hMo hM hge hgm hl hae hro hev
  go_enter Tryz.func41, Tryz.ntmps41
  go_wp2_with fail
  refine C1.mono ?_
  rintro e w1 ⟨gi, r, h, rfl, hgi, hr', hh, hC1, hB1⟩
  clear C1
  have hK1 := HB.out.same (hB1.block g hlg)
  have x1 : w1.cell? ⟨g, 1, none⟩ = some (F 1) := hK1.c 1 (by omega)
  have x5 : w1.cell? ⟨g, 5, none⟩ = some (.int .i64 (made : Int)) := by rw [hK1.c 5 (by omega), f5]
  have x0 : w1.cell? ⟨g, 0, none⟩ = some mv := by rw [hK1.c 0 (by omega), f0]
  have z1 := hK1.z 1
  have z5 := hK1.z 5
  have hK2 := (hK1.put 1 (.pointer (some ⟨gi, 0, none⟩))).put 5 (.int .i64 ((made : Int) + 1))
  have hEx2 : Ex (fun k => k = g ∨ mB mv k) w ((w1.setCell ⟨g, 1, none⟩ (.pointer (some ⟨gi, 0, none⟩))).setCell ⟨g, 5, none⟩ (.int .i64 ((made : Int) + 1))) := ((ex_of hB1).setCell (p := ⟨g, 1, none⟩) (fun _ => .inl rfl) _).setCell (p := ⟨g, 5, none⟩) (fun _ => .inl rfl) _
  have hC2 : Cl ((w1.setCell ⟨g, 1, none⟩ (.pointer (some ⟨gi, 0, none⟩))).setCell ⟨g, 5, none⟩ (.int .i64 ((made : Int) + 1))) gi r h L (2 ^ L) (fun _ => -1) := by
    have o : ∀ k, k ≠ g → ((w1.setCell ⟨g, 1, none⟩ (.pointer (some ⟨gi, 0, none⟩))).setCell ⟨g, 5, none⟩ (.int .i64 ((made : Int) + 1))).heap[k]? = w1.heap[k]? := fun k hk => (Below.heap_setCell _ _ _ _ hk).trans (Below.heap_setCell _ _ _ _ hk)
    exact hC1.same (o _ (by omega)) (o _ (by omega)) (o _ (by omega))
  have HK2 := Lib.hid hK2
  have HEX2 := Lib.hid hEx2
  have HC2 := Lib.hid hC2
  have hM2 : M a b ((w1.setCell ⟨g, 1, none⟩ (.pointer (some ⟨gi, 0, none⟩))).setCell ⟨g, 5, none⟩ (.int .i64 ((made : Int) + 1))) := HMO.out.same a b w _ HM.out fun k hk => ((Below.heap_setCell _ _ _ _ (HGM.out k hk)).trans (Below.heap_setCell _ _ _ _ (HGM.out k hk))).trans (hB1.block k (HMO.out.lt a b w k HM.out hk))
  clear hK1 hK2 hEx2 hC2 hC1
  go_wp2_with fail
  generalize World.setCell (World.setCell w1 _ _) _ _ = w2 at *
  clear x0 x1 x5 z1 z5
  refine (HMO.out.tick a b w2 ha.1 ha.2 hM2).mono ?_
  rintro e w3 ⟨rfl, hM3, hX3⟩
  have hsz2 : w.heap.size ≤ w2.heap.size := HEX2.out.size
  have hC3 : Cl w3 gi r h L (2 ^ L) (fun _ => -1) := by
    obtain ⟨y1, y2, y3⟩ := HC2.out.lt
    have hfr : ∀ k, w.heap.size ≤ k → ¬ mB mv k := fun k hk hm => by have := HMO.out.lt a b w k HM.out hm; omega
    exact HC2.out.same (hX3.block _ y1 (hfr _ hgi)) (hX3.block _ y2 (hfr _ hr')) (hX3.block _ y3 (hfr _ hh))
  have hEx3 : Ex (fun k => k = g ∨ mB mv k) w w3 := HEX2.out.next hX3 fun k _ hk => .inr hk
  have hE3 : Es w3 ev es := HE.out.same fun k hk => hEx3.block k (HE.out.lt k hk) fun hx => hx.elim (HGE.out k hk).1 (HGE.out k hk).2
  have hK3 : Blk w3 g 7 (setD F gi made) := (HK2.out.same (hX3.block g (HK2.out.lt (by omega)) fun hx => HGM.out g hx rfl)).congr fun j hj => by
    have : j = 0 ∨ j = 1 ∨ j = 2 ∨ j = 3 ∨ j = 4 ∨ j = 5 ∨ j = 6 := by omega
    rcases this with rfl | rfl | rfl | rfl | rfl | rfl | rfl <;> rfl
  have hI3 : Mi w g F L made es ev mv M a b gi r h 0 w3 := ⟨hK3, hE3, hC3, hM3, hEx3⟩
  have y2 : w3.cell? ⟨g, 2, none⟩ = some (.slice ae es.length cape) := by rw [hK3.c 2 (by omega), ← HEV.out]; exact congrArg some f2
  have HI3 := Lib.hid hI3
  clear hI3 hK3 hE3 hEx3 hC3 hM3 hX3 hM2 HK2 HEX2 HC2
  go_wp2_with fail
  go_loopw [30, 4] (fun iv uv wr => ∃ k : Nat, k ≤ es.length ∧ iv = .int .i64 (k : Int) ∧ Mi w g F L made es ev mv M a b gi r h k wr) (fun iv _ _ => es.length - (intOf iv).toNat)
  case atStart => exact ⟨0, by omega, rfl, HI3.out⟩
  case round =>
    obtain ⟨k, hk, rfl, hI⟩ := hrel
    have HI := Lib.hid hI
    clear hI
    by_cases hlt : k < es.length
    · have t1 : (k : Int) < (es.length : Int) := by omega
      obtain ⟨rfl, hown, _⟩ := HA.out (by omega)
      have hI := HI.out
      have hinv := layN_inv es L HL.out hr k hk
      obtain ⟨i, hi, hif⟩ := hinv.first (nth es k).hash
      obtain ⟨a', cap', ge', hv', hae', hro'⟩ := hI.row.open
      rw [HEV.out] at hv'
      cases hv'
      obtain ⟨hge1, hge2, _⟩ := hae' (by omega)
      cases hge1
      have hgne := HGE.out ge (by rw [HEV.out]; rfl)
      have hme : ge < w.heap.size := HE.out.lt ge (by rw [HEV.out]; rfl)
      have q1 : wr.cell? ⟨g, 1, none⟩ = some (.pointer (some ⟨gi, 0, none⟩)) := hI.hd.c 1 (by omega)
      have q2 : wr.cell? ⟨g, 2, none⟩ = some (.slice (some ⟨ge, 0, none⟩) es.length cape) := by rw [hI.hd.c 2 (by omega), ← HEV.out]; exact congrArg some f2
      have CL := lay_any q1 q2 (hro'.c1 k hlt) hI.cl (by omega) (by omega) hlt (by omega) hif hi
      have HLN : Hid (upd (layN es L k) (trl (uw (nth es k).hash) L i) (k : Int) = layN es L (k + 1)) := by
        show _ = _
        rw [layN, layc, fidx_eq hif]
      rw [HLN.out] at CL
      have HN : Hid (∀ w', Cl w' gi r h L (2 ^ L) (layN es L (k + 1)) → But h wr w' → Mi w g F L made es ev mv M a b gi r h (k + 1) w') := fun w' hC' hb' =>
        ⟨hI.hd.same (hb'.block g (hI.hd.lt (by omega)) (by omega)), hI.row.same (fun k' hk' => hb'.block k' (hI.row.lt k' hk') (by have := HE.out.lt k' hk'; omega)), hC', HMO.out.same _ _ wr w' hI.m (fun k' hk' => hb'.block k' (HMO.out.lt _ _ _ _ hI.m hk') (by have := HMO.out.lt _ _ _ _ HM.out hk'; omega)), hI.ex.next hb'.ex (fun k' h1 h2 => by omega)⟩
      clear hI hinv hif hi hro' hae' hge2 HLN q1 q2
      go_wp2_with fail
      refine CL.mono ?_
      rintro e w4 ⟨rfl, hC4, hb4⟩
      clear CL
      go_wp2_with fail
      go_roundw
      case rel => exact ⟨k + 1, by omega, by go_num, HN.out _ hC4 hb4⟩
      case measure => simp [intOf]; omega
    · obtain rfl : k = es.length := by omega
      have t1 : ¬ ((es.length : Int) < (es.length : Int)) := by omega
      go_wp2
      go_end0
      exact ⟨rfl, gi, hgi, r, hr', h, hh, HI.out⟩
end Go.Proofs.YtdjabdmnknlaeaaGreat
