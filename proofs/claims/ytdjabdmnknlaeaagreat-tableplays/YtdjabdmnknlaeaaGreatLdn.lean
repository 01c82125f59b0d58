/-
  What a table of adds and kills holds. No program.
  A meter that is none; number; awake.
  awake.
  A nil meter's Visit.
-/
import Derived.Test.YtdjabdmnknlaeaaGreatTbModel
import Derived.Test.YtdjabdmnknlaeaaGreatSgt
import Derived.Test.YtdjabdmnknlaeaaGreatDtb
import Derived.Defers
namespace Go.Proofs.YtdjabdmnknlaeaaGreat

theorem liveL_liveL (es : List En) : liveL (liveL es) = liveL es := by
  induction es with
  | nil => rfl
  | cons e r ih =>
    by_cases h : e.live = true
    · rw [liveL, if_pos h, liveL, if_pos h, ih]
    · rw [liveL, if_neg h, ih]
theorem split_nth {es : List En} {n : Nat} (h : n < es.length) : es = es.take n ++ nth es n :: es.drop (n + 1) := by
  have : nth es n = es[n] := by unfold nth; rw [List.getD_eq_getElem?_getD, List.getElem?_eq_getElem h, Option.getD_some]
  rw [this, ← List.drop_eq_getElem_cons h, List.take_append_drop]
theorem liveL_set {es : List En} {n : Nat} (h : n < es.length) (z : En) (hz : z.live = false) : liveL (es.set n z) = liveL (es.take n) ++ liveL (es.drop (n + 1)) := by
  rw [List.set_eq_take_append_cons_drop, if_pos h, liveL_app, liveL, if_neg (by rw [hz]; decide)]
theorem liveL_cut {es : List En} {n : Nat} (h : n < es.length) (hl : (nth es n).live = true) : liveL es = liveL (es.take n) ++ nth es n :: liveL (es.drop (n + 1)) := by
  conv => lhs; rw [split_nth h]
  rw [liveL_app, liveL, if_pos hl]
theorem nth_mid (A B : List En) (x : En) : nth (A ++ x :: B) A.length = x := by
  unfold nth
  simp
theorem nth_index {es : List En} {e : En} (h : e ∈ es) : ∃ n, n < es.length ∧ nth es n = e := by
  obtain ⟨n, hn, he⟩ := List.getElem_of_mem h
  exact ⟨n, hn, by unfold nth; rw [List.getD_eq_getElem?_getD, List.getElem?_eq_getElem hn, Option.getD_some, he]⟩
theorem mem_liveL {es : List En} {e : En} (h : e ∈ liveL es) : e ∈ es := by
  induction es with
  | nil => simp [liveL] at h
  | cons x r ih =>
    rw [liveL] at h
    by_cases hx : x.live = true
    · rw [if_pos hx] at h
      rcases List.mem_cons.1 h with rfl | h
      · exact List.mem_cons_self ..
      · exact List.mem_cons_of_mem _ (ih h)
    · rw [if_neg hx] at h
      exact List.mem_cons_of_mem _ (ih h)
/-- A table that holds ws, behind i adds. -/
structure Ld (t : Tb) (ws : List En) (i : Nat) : Prop where
  ok : t.Ok
  eq : liveL t.es = ws
  bi : t.births = i
  lo : ∀ a, a < ws.length → 0 ≤ (nth ws a).birth ∧ (nth ws a).birth < (i : Int)
  up : ∀ a b, a < b → b < ws.length → (nth ws a).birth < (nth ws b).birth
  md : t.made ≤ i + 1
  tu : t.turn ≤ 2 * i
theorem Ld.live {t : Tb} {ws : List En} {i : Nat} (h : Ld t ws i) (a : Nat) (ha : a < ws.length) : (nth ws a).live = true := by
  have := h.eq
  subst this
  exact liveL_nth _ _ ha
theorem Ld.len {t : Tb} {ws : List En} {i : Nat} (h : Ld t ws i) : ws.length ≤ i := by
  have h1 := liveL_len t.es
  have h2 := h.ok.few
  have h3 := h.bi
  rw [h.eq] at h1
  omega
theorem Ld.new {t : Tb} (h1 : t = ⟨[], 3, fun _ => -1, 0, 1, 0⟩) : Ld t [] 0 := by
  subst h1
  exact ⟨⟨Inv.nil 3, by show 3 ≤ 3 ∧ 3 ≤ 20; omega, Nat.le_refl _, by show 0 ≤ 100000; omega⟩, rfl, rfl, fun a ha => absurd ha (Nat.not_lt_zero _), fun a b _ hb => absurd hb (Nat.not_lt_zero _), by show 1 ≤ 0 + 1; omega, Nat.le_refl _⟩
theorem Tb.add_es (t : Tb) (u k v : Int) : liveL (t.add u k v).es = liveL t.es ++ [⟨true, u, k, v, (t.births : Int)⟩] := by
  unfold Tb.add
  by_cases h : t.es.length < rm (2 ^ t.L)
  · rw [if_pos h]
    show liveL (t.es ++ [_]) = _
    rw [liveL_app]
    rfl
  · rw [if_neg h]
    show liveL (liveL t.es ++ [_]) = _
    rw [liveL_app, liveL_liveL]
    rfl
theorem Tb.add_last (t : Tb) (u k v : Int) : (t.add u k v).es ≠ [] ∧ nth (t.add u k v).es ((t.add u k v).es.length - 1) = ⟨true, u, k, v, (t.births : Int)⟩ := by
  unfold Tb.add
  by_cases h : t.es.length < rm (2 ^ t.L)
  · rw [if_pos h]
    refine ⟨by show t.es ++ [_] ≠ []; simp, ?_⟩
    show nth (t.es ++ [_]) ((t.es ++ [_]).length - 1) = _
    rw [List.length_append]
    exact nth_app_eq _ _
  · rw [if_neg h]
    refine ⟨by show liveL t.es ++ [_] ≠ []; simp, ?_⟩
    show nth (liveL t.es ++ [_]) ((liveL t.es ++ [_]).length - 1) = _
    rw [List.length_append]
    exact nth_app_eq _ _
theorem Tb.add_rest (t : Tb) (u k v : Int) : (t.add u k v).births = t.births + 1 ∧ (t.add u k v).made ≤ t.made + 1 ∧ t.made ≤ (t.add u k v).made ∧ (t.add u k v).turn = t.turn + 1 := by
  unfold Tb.add
  by_cases h : t.es.length < rm (2 ^ t.L)
  · rw [if_pos h]
    exact ⟨rfl, by show t.made ≤ t.made + 1; omega, Nat.le_refl _, rfl⟩
  · rw [if_neg h]
    exact ⟨rfl, Nat.le_refl _, by show t.made ≤ t.made + 1; omega, rfl⟩
theorem Ld.add {t : Tb} {ws : List En} {i : Nat} (h : Ld t ws i) (hi : i < 100000) (u k v : Int) : Ld (t.add u k v) (ws ++ [⟨true, u, k, v, (i : Int)⟩]) (i + 1) := by
  obtain ⟨r1, r2, _, r3⟩ := t.add_rest u k v
  have hb := h.bi
  have hm := h.md
  have ht := h.tu
  refine ⟨h.ok.add u k v (by omega), ?_, by omega, fun a ha => ?_, fun a b hab hbl => ?_, by omega, by omega⟩
  · rw [t.add_es, h.eq, hb]
  · rw [List.length_append] at ha
    rcases Nat.lt_or_ge a ws.length with z | z
    · rw [nth_app_lt z]
      have := h.lo a z
      omega
    · rw [show a = ws.length by simp at ha; omega, nth_app_eq]
      show 0 ≤ (i : Int) ∧ (i : Int) < _
      omega
  · rw [List.length_append] at hbl
    rcases Nat.lt_or_ge b ws.length with z | z
    · rw [nth_app_lt z, nth_app_lt (by omega)]
      exact h.up a b hab z
    · have hb' : b = ws.length := by simp at hbl; omega
      subst hb'
      rw [nth_app_eq, nth_app_lt hab]
      exact (h.lo a hab).2
/-- One of them is killed. -/
theorem Ld.kill {t : Tb} {ws : List En} {i : Nat} (h : Ld t ws i) {k : Nat} (hk : k < ws.length) : ∃ n, n < t.es.length ∧ nth t.es n = nth ws k ∧ (nth t.es n).live = true ∧ (∀ m, m < n → nth t.es m ≠ nth ws k) ∧ (t.turn + 1 ≤ 2 * i → Ld (t.kill n) (ws.take k ++ ws.drop (k + 1)) i) := by
  have hmem : nth ws k ∈ t.es := by
    have h1 := h.eq
    subst h1
    exact mem_liveL (nth_mem hk)
  obtain ⟨n0, hn0, hx0⟩ := nth_index hmem
  have key : ∃ n, n ≤ n0 ∧ nth t.es n = nth ws k ∧ ∀ m, m < n → nth t.es m ≠ nth ws k := least (P := fun n => nth t.es n = nth ws k) n0 hx0
  obtain ⟨n, hn, hx, hmin⟩ := key
  have hnl : n < t.es.length := by omega
  have hl : (nth t.es n).live = true := by rw [hx]; exact h.live k hk
  have hcut := liveL_cut hnl hl
  rw [h.eq] at hcut
  have hp : (liveL (t.es.take n)).length = k := by
    have hpl : (liveL (t.es.take n)).length < ws.length := by rw [hcut]; simp
    have hpx : nth ws (liveL (t.es.take n)).length = nth ws k := by
      conv => lhs; rw [hcut]
      rw [nth_mid, hx]
    rcases Nat.lt_trichotomy (liveL (t.es.take n)).length k with z | z | z
    · have := h.up _ _ z hk
      rw [hpx] at this
      omega
    · exact z
    · have := h.up _ _ z hpl
      rw [hpx] at this
      omega
  refine ⟨n, hnl, hx, hl, hmin, fun htu => ?_⟩
  have hA : ws.take k = liveL (t.es.take n) := by rw [hcut, ← hp]; simp
  have hB : ws.drop (k + 1) = liveL (t.es.drop (n + 1)) := by
    rw [hcut, ← hp, show (liveL (t.es.take n)).length + 1 = (liveL (t.es.take n) ++ [nth t.es n]).length by simp, show liveL (t.es.take n) ++ nth t.es n :: liveL (t.es.drop (n + 1)) = (liveL (t.es.take n) ++ [nth t.es n]) ++ liveL (t.es.drop (n + 1)) by simp, List.drop_left]
  have hget : ∀ a, a < (ws.take k ++ ws.drop (k + 1)).length → nth (ws.take k ++ ws.drop (k + 1)) a = nth ws (if a < k then a else a + 1) ∧ (if a < k then a else a + 1) < ws.length := by
    intro a ha
    have hlk : (ws.take k).length = k := by rw [List.length_take]; omega
    rw [List.length_append, hlk, List.length_drop] at ha
    unfold nth
    rw [List.getD_eq_getElem?_getD, List.getD_eq_getElem?_getD]
    by_cases e : a < k
    · rw [if_pos e, List.getElem?_append_left (by omega), List.getElem?_take, if_pos e]
      exact ⟨rfl, by omega⟩
    · rw [if_neg e, List.getElem?_append_right (by omega), hlk, List.getElem?_drop, show k + 1 + (a - k) = a + 1 by omega]
      exact ⟨rfl, by omega⟩
  refine ⟨h.ok.kill n hnl hl, ?_, h.bi, fun a ha => ?_, fun a b hab hb => ?_, h.md, htu⟩
  · show liveL (t.es.set n (En.gone (nth t.es n).birth)) = _
    rw [liveL_set hnl _ rfl, hA, hB]
  · obtain ⟨h1, h2⟩ := hget a ha
    rw [h1]
    exact h.lo _ h2
  · obtain ⟨h1, h2⟩ := hget a (by omega)
    obtain ⟨h3, h4⟩ := hget b hb
    rw [h1, h3]
    refine h.up _ _ ?_ h4
    by_cases e : b < k
    · rw [if_pos (by omega), if_pos e]; exact hab
    · rw [if_neg e]
      split <;> omega
end Go.Proofs.YtdjabdmnknlaeaaGreat
namespace Go.Proofs.YtdjabdmnknlaeaaGreat
open Go.RowKit Go.WideShapes

set_option maxRecDepth 100000 in
set_option maxHeartbeats 1600000 in
theorem ncount_nil (k n : Int) (w : World) :
    Calls Tryz.prog 76 #[.pointer none, .int .i64 k, .int .i64 n] w fun e w' => e = .returned (.tuple #[]) ∧ w' = w := by
  go_enter_defers Tryz.func76, Tryz.ntmps76
  go_wp2_with fail
  exact ⟨_, results_none rfl _ _ _, rfl, rfl⟩
theorem ntable_nil (w : World) : Calls Tryz.prog 65 #[.pointer none] w fun e w' => e = .returned (.tuple #[]) ∧ w' = w := by
  go_enter Tryz.func65, Tryz.ntmps65
  go_wp2_with fail
  refine (ncount_nil 0 1 w).mono ?_
  rintro e w' ⟨rfl, rfl⟩
  go_wp2
  go_end0
  exact ⟨rfl, rfl⟩
/-- A meter that is none. -/
def noM : Int → Int → World → Prop := fun _ _ _ => True
theorem mtOk_nil : MtOk (.pointer none) noM :=
  ⟨fun a b w _ _ _ => (ntable_nil w).mono fun e w' ⟨h1, h2⟩ => ⟨h1, trivial, by rw [h2]; exact Ex.refl _ _⟩, fun _ _ _ _ _ _ => trivial, fun a b w k _ h => by cases h⟩
/-- An entry as a value. -/
def lnV (e : En) : Value := .agg #[.bool e.live, .int .i64 e.hash, .int .i64 e.key, .int .i64 e.value, .int .i64 e.birth]
/-- Two entries that are the same. -/
def enE (x y : En) : Bool := x.live == y.live && (x.hash == y.hash && (x.key == y.key && (x.value == y.value && x.birth == y.birth)))
theorem enE_iff (x y : En) : enE x y = true ↔ x = y := by
  cases x; cases y
  simp [enE]
theorem en_eq (x y : En) (w : World) : (binOp .eql 60 (lnV x) (lnV y)).run Tryz.prog w = .ok (.bool (enE x y)) w := by
  unfold lnV enE
  have hu : Tryz.prog.underlying 60 = some (.struct (Tryz.prog.fieldsOf 60)) := by kernel_rfl
  have hp : Tryz.prog.stoodInHeld 60 = false := by kernel_rfl
  rw [run_eql_struct, run_equalIn_agg w 9999 _ _ _ hu hp]
  have hF : (Tryz.prog.fieldsOf 60).toList = [⟨"Live", 4, 0, false, "", "", 0⟩, ⟨"Hash", 3, 1, false, "", "", 8⟩, ⟨"Key", 3, 2, false, "", "", 16⟩, ⟨"Value", 3, 3, false, "", "", 24⟩, ⟨"Birth", 3, 4, false, "", "", 32⟩] := by kernel_rfl
  rw [hF]
  by_cases h0 : x.live = y.live
  · by_cases h1 : x.hash = y.hash
    · by_cases h2 : x.key = y.key
      · by_cases h3 : x.value = y.value
        · by_cases h4 : x.birth = y.birth
          · simp [Op.eqFields, go_sem, h0, h1, h2, h3, h4]
          · simp [Op.eqFields, go_sem, h0, h1, h2, h3, h4]
        · simp [Op.eqFields, go_sem, h0, h1, h2, h3]
      · simp [Op.eqFields, go_sem, h0, h1, h2]
    · simp [Op.eqFields, go_sem, h0, h1]
  · simp [Op.eqFields, go_sem, h0]
theorem sg_field (v0 v1 v2 v4 v5 v6 : Value) (a : Option Addr) (n c : Nat) (w : World) : (Instr.field 36 (.agg #[v0, v1, v2, .slice a n c, v4, v5, v6]) 3).run Tryz.prog w = .ok (.slice a n c) w := by kernel_rfl
end Go.Proofs.YtdjabdmnknlaeaaGreat
namespace Go.Proofs.YtdjabdmnknlaeaaGreat
open Go.RowKit Go.WideShapes

theorem uw5 : uw 5 = 5 := by
  unfold uw
  rw [IntKind.wrap_u64]
  decide
/-- What awake looks at. -/
theorem awake_tb : ((Tb.new.add 5 10 20).add 5 11 21).c 5 = 0 ∧ ((Tb.new.add 5 10 20).add 5 11 21).c 2 = 1 ∧ ((Tb.new.add 5 10 20).add 5 11 21).L = 3 ∧ (Tb.new.add 5 10 20).es.length = 1 ∧ ((Tb.new.add 5 10 20).add 5 11 21).es.length = 2 := by
  have t0 : trl 5 3 0 = 5 := by decide
  have t1 : trl 5 3 1 = 2 := by decide
  have h1 : Tb.new.add 5 10 20 = Tb.new.push 5 10 20 := by unfold Tb.add; rw [if_pos (by show 0 < rm (2 ^ 3); decide)]
  have f0 : IsF (fun _ => -1) (uw 5) 3 0 := ⟨rfl, fun j hj => absurd hj (Nat.not_lt_zero _)⟩
  have c1 : (Tb.new.push 5 10 20).c = upd (fun _ => -1) 5 0 := by
    show layc (fun _ => -1) 3 5 0 = _
    unfold layc
    rw [fidx_eq f0, uw5, t0]
    rfl
  have h2 : (Tb.new.push 5 10 20).add 5 11 21 = (Tb.new.push 5 10 20).push 5 11 21 := by unfold Tb.add; rw [if_pos (by show 1 < rm (2 ^ 3); decide)]
  have f1 : IsF (upd (fun _ => -1) 5 0) (uw 5) 3 1 := by
    refine ⟨by rw [uw5, t1]; rfl, fun j hj => ?_⟩
    rw [show j = 0 by omega, uw5, t0]
    decide
  have c2 : ((Tb.new.push 5 10 20).push 5 11 21).c = upd (upd (fun _ => -1) 5 0) 2 1 := by
    show layc (Tb.new.push 5 10 20).c 3 5 1 = _
    rw [c1]
    unfold layc
    rw [fidx_eq f1, uw5, t1]
    rfl
  rw [h1, h2, c2]
  exact ⟨rfl, rfl, rfl, rfl, rfl⟩
set_option maxRecDepth 100000 in
set_option maxHeartbeats 4000000 in
theorem awake7_any (w : World) : Calls Tryz.prog 4 #[] w fun e w' => e = .returned (.bool true) ∧ Below w.heap.size w w' := by
  have CN := new7_any (w := w) (pm := none) (a := 0) (b := 0) mtOk_nil trivial (by decide)
  obtain ⟨c5, c2, hL, hl1, hl2⟩ := awake_tb
  have ho0 := Tb.new_ok
  have r1 := Tb.new.add_rest 5 10 20
  have ho1 : (Tb.new.add 5 10 20).Ok := ho0.add 5 10 20 (by show 0 < 100000; decide)
  have hb1 : (Tb.new.add 5 10 20).births = 1 := r1.1
  have hm1 : (Tb.new.add 5 10 20).made ≤ 2 := r1.2.1
  have ht1 : (Tb.new.add 5 10 20).turn = 1 := r1.2.2.2
  have HO0 := Lib.hid ho0
  have HO1 := Lib.hid ho1
  clear ho0 ho1 r1
  generalize hT2 : (Tb.new.add 5 10 20).add 5 11 21 = T2 at *
  generalize hT1 : Tb.new.add 5 10 20 = T1 at *
  have HT1 := Lib.hid hT1
  have HT2 := Lib.hid hT2
  clear hT1 hT2
  go_enter Tryz.func4, Tryz.ntmps4
  go_wp2_with fail
  refine CN.mono ?_
  rintro e w1 ⟨g, gi, r, h, rfl, hg, hgi, hr, hh, hD1, _, hX1⟩
  clear CN
  have hB1 : Below w.heap.size w w1 := hX1.below (fun k hk => by cases hk) (Nat.le_refl _)
  have CA := add_any hD1 HO0.out mtOk_nil (a := 0) (b := 0) trivial (by show 1 ≤ 1000000; decide) (by decide) (by show 0 ≤ 1000000; decide) (by show 0 < 100000; decide) 5 10 20
  rw [HT1.out, hl1] at CA
  go_wp2_with fail
  refine CA.mono ?_
  rintro e w2 ⟨rfl, gi2, r2, h2, ev2, hA⟩
  clear CA
  have hF2 : ∀ j, dX g gi2 r2 h2 ev2 j → w.heap.size ≤ j := fun j hj => by
    rcases hA.fx j hj with (rfl | rfl | rfl | rfl | hj) | hj
    · exact hg
    · exact hgi
    · exact hr
    · exact hh
    · cases hj
    · have := hB1.size; omega
  have hB2 : Below w.heap.size w w2 := hB1.trans (hA.ex.below (fun k hk => by
    rcases hk with (rfl | rfl | rfl | rfl | hj) | hj
    · exact hg
    · exact hgi
    · exact hr
    · exact hh
    · cases hj
    · cases hj) hB1.size)
  have CB := add_any hA.dt HO1.out mtOk_nil (a := 0) (b := 0) trivial (by omega) (by decide) (by omega) (by omega) 5 11 21
  rw [HT2.out, hl2] at CB
  clear hA hD1 hX1
  go_wp2_with fail
  refine CB.mono ?_
  rintro e w3 ⟨rfl, gi3, r3, h3, ev3, hA⟩
  clear CB
  have hB3 : Below w.heap.size w w3 := hB2.trans (hA.ex.below (fun k hk => by
    rcases hk with hj | hj
    · exact hF2 k hj
    · cases hj) hB2.size)
  have CS := dsight_any hA.dt (by omega)
  clear hA
  go_wp2_with fail
  refine CS.mono ?_
  rintro e w4 ⟨hc, ev', rfl, hSg, hB4⟩
  clear CS
  unfold sgV
  obtain ⟨ae, cape, ge, hev, _, _⟩ := hSg.es.es.open
  subst hev
  have hrow := hSg.row
  rw [hL] at hrow
  have d5 := hrow.cell 5 (by decide)
  have d2 := hrow.cell 2 (by decide)
  rw [c5] at d5
  rw [c2] at d2
  have lhc := hrow.lt
  have e5 := (cell_alloc_old w4 (.cells #[.int .i64 (T2.L : Int), .int .i64 (wd T2.L : Int), .slice (some ⟨hc, 0, none⟩) 8 8, .slice ae T2.es.length cape, .int .i64 (T2.live : Int), .int .i64 (T2.births : Int), .int .i64 (T2.made : Int)] 36) hc 5 lhc).trans d5
  have e2 := (cell_alloc_old w4 (.cells #[.int .i64 (T2.L : Int), .int .i64 (wd T2.L : Int), .slice (some ⟨hc, 0, none⟩) 8 8, .slice ae T2.es.length cape, .int .i64 (T2.live : Int), .int .i64 (T2.births : Int), .int .i64 (T2.made : Int)] 36) hc 2 lhc).trans d2
  have HB : Hid (∀ o, Below w.heap.size w (w4.alloc o)) := fun o => (hB3.trans (hB4.mono hB3.size)).alloc (Nat.le_trans hB3.size hB4.size) o
  have hp8 : (2 : Nat) ^ T2.L = 8 := by rw [hL]
  rw [hp8]
  have HL := Lib.hid hL
  clear hSg hrow hL c5 c2 hp8 hB4 hB3 hB2 hB1
  go_wp2
  go_ret
  exact ⟨rfl, HB.out _⟩
end Go.Proofs.YtdjabdmnknlaeaaGreat
namespace Go.Proofs.YtdjabdmnknlaeaaGreat
open Go.RowKit Go.WideShapes

theorem nvisit_nil (n : Int) (w : World) : Calls Tryz.prog 73 #[.pointer none, .int .i64 n] w fun e w' => e = .returned (.tuple #[]) ∧ w' = w := by
  go_enter Tryz.func73, Tryz.ntmps73
  go_wp2_with fail
  refine (ncount_nil 1 n w).mono ?_
  rintro e w' ⟨rfl, rfl⟩
  go_wp2
  go_end0
  exact ⟨rfl, rfl⟩
theorem mvOk_nil : MvOk (.pointer none) noM := fun a b w _ _ _ => (nvisit_nil 1 w).mono fun e w' ⟨h1, h2⟩ => ⟨h1, trivial, by rw [h2]; exact Ex.refl _ _⟩
end Go.Proofs.YtdjabdmnknlaeaaGreat
