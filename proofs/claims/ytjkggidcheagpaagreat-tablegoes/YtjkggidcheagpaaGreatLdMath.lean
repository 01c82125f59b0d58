/-
  What a table of adds and kills holds. No program.
-/
import Derived.Test.YtjkggidcheagpaaGreatBas
namespace Go.Proofs.YtjkggidcheagpaaGreat

theorem liveL_liveL (es : List En) : liveL (liveL es) = liveL es := by
  induction es with
  | nil => rfl
  | cons e r ih =>
    by_cases h : e.live = true
    · rw [liveL, if_pos h, liveL, if_pos h, ih]
    · rw [liveL, if_neg h, ih]
theorem split_nth {es : List En} {n : Nat} (h : n < es.length) : es = es.take n ++ nth es n :: es.drop (n + 1) := by
  have : nth es n = es[n] := by unfold nth; rw [List.getD_eq_getElem?_getD, List.getElem?_eq_getElem h, Option.getD_some]
  rw [this, ← List.drop_eq_getElem_cons h, List.take_append_drop]
theorem liveL_set {es : List En} {n : Nat} (h : n < es.length) (z : En) (hz : z.live = false) : liveL (es.set n z) = liveL (es.take n) ++ liveL (es.drop (n + 1)) := by
  rw [List.set_eq_take_append_cons_drop, if_pos h, liveL_app, liveL, if_neg (by rw [hz]; decide)]
theorem liveL_cut {es : List En} {n : Nat} (h : n < es.length) (hl : (nth es n).live = true) : liveL es = liveL (es.take n) ++ nth es n :: liveL (es.drop (n + 1)) := by
  conv => lhs; rw [split_nth h]
  rw [liveL_app, liveL, if_pos hl]
theorem nth_mid (A B : List En) (x : En) : nth (A ++ x :: B) A.length = x := by
  unfold nth
  simp
theorem nth_index {es : List En} {e : En} (h : e ∈ es) : ∃ n, n < es.length ∧ nth es n = e := by
  obtain ⟨n, hn, he⟩ := List.getElem_of_mem h
  exact ⟨n, hn, by unfold nth; rw [List.getD_eq_getElem?_getD, List.getElem?_eq_getElem hn, Option.getD_some, he]⟩
theorem mem_liveL {es : List En} {e : En} (h : e ∈ liveL es) : e ∈ es := by
  induction es with
  | nil => simp [liveL] at h
  | cons x r ih =>
    rw [liveL] at h
    by_cases hx : x.live = true
    · rw [if_pos hx] at h
      rcases List.mem_cons.1 h with rfl | h
      · exact List.mem_cons_self ..
      · exact List.mem_cons_of_mem _ (ih h)
    · rw [if_neg hx] at h
      exact List.mem_cons_of_mem _ (ih h)
/-- A table that holds ws, behind i adds. -/
structure Ld (t : Tb) (ws : List En) (i : Nat) : Prop where
  ok : t.Ok
  eq : liveL t.es = ws
  bi : t.births = i
  lo : ∀ a, a < ws.length → 0 ≤ (nth ws a).birth ∧ (nth ws a).birth < (i : Int)
  up : ∀ a b, a < b → b < ws.length → (nth ws a).birth < (nth ws b).birth
  md : t.made ≤ i + 1
  tu : t.turn ≤ 2 * i
theorem Ld.live {t : Tb} {ws : List En} {i : Nat} (h : Ld t ws i) (a : Nat) (ha : a < ws.length) : (nth ws a).live = true := by
  have := h.eq
  subst this
  exact liveL_nth _ _ ha
theorem Ld.len {t : Tb} {ws : List En} {i : Nat} (h : Ld t ws i) : ws.length ≤ i := by
  have h1 := liveL_len t.es
  have h2 := h.ok.few
  have h3 := h.bi
  rw [h.eq] at h1
  omega
theorem Ld.new {t : Tb} (h1 : t = ⟨[], 3, fun _ => -1, 0, 1, 0⟩) : Ld t [] 0 := by
  subst h1
  exact ⟨⟨Inv.nil 3, by show 3 ≤ 3 ∧ 3 ≤ 20; omega, Nat.le_refl _, by show 0 ≤ 100000; omega⟩, rfl, rfl, fun a ha => absurd ha (Nat.not_lt_zero _), fun a b _ hb => absurd hb (Nat.not_lt_zero _), by show 1 ≤ 0 + 1; omega, Nat.le_refl _⟩
theorem Tb.add_es (t : Tb) (u k v : Int) : liveL (t.add u k v).es = liveL t.es ++ [⟨true, u, k, v, (t.births : Int)⟩] := by
  unfold Tb.add
  by_cases h : t.es.length < rm (2 ^ t.L)
  · rw [if_pos h]
    show liveL (t.es ++ [_]) = _
    rw [liveL_app]
    rfl
  · rw [if_neg h]
    show liveL (liveL t.es ++ [_]) = _
    rw [liveL_app, liveL_liveL]
    rfl
theorem Tb.add_last (t : Tb) (u k v : Int) : (t.add u k v).es ≠ [] ∧ nth (t.add u k v).es ((t.add u k v).es.length - 1) = ⟨true, u, k, v, (t.births : Int)⟩ := by
  unfold Tb.add
  by_cases h : t.es.length < rm (2 ^ t.L)
  · rw [if_pos h]
    refine ⟨by show t.es ++ [_] ≠ []; simp, ?_⟩
    show nth (t.es ++ [_]) ((t.es ++ [_]).length - 1) = _
    rw [List.length_append]
    exact nth_app_eq _ _
  · rw [if_neg h]
    refine ⟨by show liveL t.es ++ [_] ≠ []; simp, ?_⟩
    show nth (liveL t.es ++ [_]) ((liveL t.es ++ [_]).length - 1) = _
    rw [List.length_append]
    exact nth_app_eq _ _
theorem Tb.add_rest (t : Tb) (u k v : Int) : (t.add u k v).births = t.births + 1 ∧ (t.add u k v).made ≤ t.made + 1 ∧ t.made ≤ (t.add u k v).made ∧ (t.add u k v).turn = t.turn + 1 := by
  unfold Tb.add
  by_cases h : t.es.length < rm (2 ^ t.L)
  · rw [if_pos h]
    exact ⟨rfl, by show t.made ≤ t.made + 1; omega, Nat.le_refl _, rfl⟩
  · rw [if_neg h]
    exact ⟨rfl, Nat.le_refl _, by show t.made ≤ t.made + 1; omega, rfl⟩
theorem Ld.add {t : Tb} {ws : List En} {i : Nat} (h : Ld t ws i) (hi : i < 100000) (u k v : Int) : Ld (t.add u k v) (ws ++ [⟨true, u, k, v, (i : Int)⟩]) (i + 1) := by
  obtain ⟨r1, r2, _, r3⟩ := t.add_rest u k v
  have hb := h.bi
  have hm := h.md
  have ht := h.tu
  refine ⟨h.ok.add u k v (by omega), ?_, by omega, fun a ha => ?_, fun a b hab hbl => ?_, by omega, by omega⟩
  · rw [t.add_es, h.eq, hb]
  · rw [List.length_append] at ha
    rcases Nat.lt_or_ge a ws.length with z | z
    · rw [nth_app_lt z]
      have := h.lo a z
      omega
    · rw [show a = ws.length by simp at ha; omega, nth_app_eq]
      show 0 ≤ (i : Int) ∧ (i : Int) < _
      omega
  · rw [List.length_append] at hbl
    rcases Nat.lt_or_ge b ws.length with z | z
    · rw [nth_app_lt z, nth_app_lt (by omega)]
      exact h.up a b hab z
    · have hb' : b = ws.length := by simp at hbl; omega
      subst hb'
      rw [nth_app_eq, nth_app_lt hab]
      exact (h.lo a hab).2
/-- One of them is killed. -/
theorem Ld.kill {t : Tb} {ws : List En} {i : Nat} (h : Ld t ws i) {k : Nat} (hk : k < ws.length) : ∃ n, n < t.es.length ∧ nth t.es n = nth ws k ∧ (nth t.es n).live = true ∧ (∀ m, m < n → nth t.es m ≠ nth ws k) ∧ (t.turn + 1 ≤ 2 * i → Ld (t.kill n) (ws.take k ++ ws.drop (k + 1)) i) := by
  have hmem : nth ws k ∈ t.es := by
    have h1 := h.eq
    subst h1
    exact mem_liveL (nth_mem hk)
  obtain ⟨n0, hn0, hx0⟩ := nth_index hmem
  have key : ∃ n, n ≤ n0 ∧ nth t.es n = nth ws k ∧ ∀ m, m < n → nth t.es m ≠ nth ws k := least (P := fun n => nth t.es n = nth ws k) n0 hx0
  obtain ⟨n, hn, hx, hmin⟩ := key
  have hnl : n < t.es.length := by omega
  have hl : (nth t.es n).live = true := by rw [hx]; exact h.live k hk
  have hcut := liveL_cut hnl hl
  rw [h.eq] at hcut
  have hp : (liveL (t.es.take n)).length = k := by
    have hpl : (liveL (t.es.take n)).length < ws.length := by rw [hcut]; simp
    have hpx : nth ws (liveL (t.es.take n)).length = nth ws k := by
      conv => lhs; rw [hcut]
      rw [nth_mid, hx]
    rcases Nat.lt_trichotomy (liveL (t.es.take n)).length k with z | z | z
    · have := h.up _ _ z hk
      rw [hpx] at this
      omega
    · exact z
    · have := h.up _ _ z hpl
      rw [hpx] at this
      omega
  refine ⟨n, hnl, hx, hl, hmin, fun htu => ?_⟩
  have hA : ws.take k = liveL (t.es.take n) := by rw [hcut, ← hp]; simp
  have hB : ws.drop (k + 1) = liveL (t.es.drop (n + 1)) := by
    rw [hcut, ← hp, show (liveL (t.es.take n)).length + 1 = (liveL (t.es.take n) ++ [nth t.es n]).length by simp, show liveL (t.es.take n) ++ nth t.es n :: liveL (t.es.drop (n + 1)) = (liveL (t.es.take n) ++ [nth t.es n]) ++ liveL (t.es.drop (n + 1)) by simp, List.drop_left]
  have hget : ∀ a, a < (ws.take k ++ ws.drop (k + 1)).length → nth (ws.take k ++ ws.drop (k + 1)) a = nth ws (if a < k then a else a + 1) ∧ (if a < k then a else a + 1) < ws.length := by
    intro a ha
    have hlk : (ws.take k).length = k := by rw [List.length_take]; omega
    rw [List.length_append, hlk, List.length_drop] at ha
    unfold nth
    rw [List.getD_eq_getElem?_getD, List.getD_eq_getElem?_getD]
    by_cases e : a < k
    · rw [if_pos e, List.getElem?_append_left (by omega), List.getElem?_take, if_pos e]
      exact ⟨rfl, by omega⟩
    · rw [if_neg e, List.getElem?_append_right (by omega), hlk, List.getElem?_drop, show k + 1 + (a - k) = a + 1 by omega]
      exact ⟨rfl, by omega⟩
  refine ⟨h.ok.kill n hnl hl, ?_, h.bi, fun a ha => ?_, fun a b hab hb => ?_, h.md, htu⟩
  · show liveL (t.es.set n (En.gone (nth t.es n).birth)) = _
    rw [liveL_set hnl _ rfl, hA, hB]
  · obtain ⟨h1, h2⟩ := hget a ha
    rw [h1]
    exact h.lo _ h2
  · obtain ⟨h1, h2⟩ := hget a (by omega)
    obtain ⟨h3, h4⟩ := hget b hb
    rw [h1, h3]
    refine h.up _ _ ?_ h4
    by_cases e : b < k
    · rw [if_pos (by omega), if_pos e]; exact hab
    · rw [if_neg e]
      split <;> omega
end Go.Proofs.YtjkggidcheagpaaGreat
