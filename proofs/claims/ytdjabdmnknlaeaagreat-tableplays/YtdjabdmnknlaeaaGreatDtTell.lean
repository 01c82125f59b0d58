/-
  copied, refuse.
-/
import Derived.Test.YtdjabdmnknlaeaaGreatDtAdd
import Derived.Laws.OwnMore
namespace Go.Proofs.YtdjabdmnknlaeaaGreat
open Go.RowKit Go.WideShapes

theorem copy_out {w : World} {gd n B : Nat} {ys : List Value} {ev : Value} {es : List En} (hd : w.ownsRow B 60 5 (.slice (some ⟨gd, 0, none⟩) n n) n ys) (hE : Es w ev es) (hn : es.length = n) :
    ∃ w2, (∀ ty, (Builtin.copy_ #[34, 34] ty #[.slice (some ⟨gd, 0, none⟩) n n, ev]).run Tryz.prog w = .ok (goInt (n : Nat)) w2) ∧ EsB B w2 (.slice (some ⟨gd, 0, none⟩) n n) es ∧ But gd w w2 := by
  subst hn
  rcases hd.2 with ⟨e, _⟩ | ⟨g', cap', cur, e, h1, h2, h3, h4, h5, h6⟩
  · cases e
  cases e
  by_cases h0 : es.length = 0
  · have hes : es = [] := List.eq_nil_of_length_eq_zero h0
    refine ⟨w, fun ty => ?_, ?_, But.refl _ _⟩
    · obtain ⟨ae, cape, ge, hev, _, _⟩ := hE.open
      rw [hev, h0]
      exact run_copy_wide0 w _ _ ty 60 5 _ _ _ _ _ _ Tryz.underlying34 Tryz.infoEn5 (by simp)
    · refine ⟨by rw [enl_len], .inr ⟨gd, es.length, cur, rfl, h1, h2, h3, h4, h5, ?_⟩⟩
      subst hes
      simp [enl]
  · have hE' := hE
    obtain ⟨ae, cape, ge, hev, hae, hro⟩ := hE.open
    obtain ⟨rfl, _, _⟩ := hae (by omega)
    subst hev
    have hE0 : w.ownsRow 0 60 5 (.slice (some ⟨ge, 0, none⟩) es.length cape) es.length (enl es) := hE'
    have hcs := enl_len es
    have hmin : Nat.min es.length es.length = es.length := Nat.min_self _
    refine ⟨w.setRow gd (cur.toList.take 0 ++ enl es ++ cur.toList.drop (0 + (enl es).length)).toArray, fun ty => ?_, ?_, but_setRow _ _ _⟩
    · have := run_copy_wide (P := Tryz.prog) w 34 34 ty 60 5 gd 0 es.length es.length ⟨ge, 0, none⟩ es.length cape cur 60 (enl es) Tryz.underlying34 Tryz.infoEn5 h2 (by rw [hcs, hmin]) ?_ (by rw [hcs, h5]; omega) (enl_one _)
      · rw [hmin] at this
        exact this
      · intro j v hj
        have hjl : j < es.length * 5 := by rw [← hcs]; exact (List.getElem?_eq_some_iff.1 hj).1
        rw [WideShapes.add_plain, Nat.zero_add, hE0.cellAt j hjl]
        exact hj
    · refine ⟨by rw [enl_len], .inr ⟨gd, es.length, _, rfl, h1, setRow_heap w gd _ _ _ _ h2, Nat.le_refl _, h4, ?_, ?_⟩⟩
      · simp [hcs, h5]
      · have hdr : cur.toList.drop (0 + (enl es).length) = [] := List.drop_eq_nil_of_le (by rw [hcs, Array.length_toList, h5]; omega)
        rw [hdr]
        simp [← hcs]
set_option maxRecDepth 100000 in
set_option maxHeartbeats 2000000 in
theorem copied_any {w : World} {g : Nat} {ev : Value} {es : List En} (k2 : w.cell? ⟨g, 2, none⟩ = some ev) (hE : Es w ev es) (hlen : es.length ≤ 100000) :
    Calls Tryz.prog 51 #[.pointer (some ⟨g, 0, none⟩)] w fun e w' => ∃ v, e = .returned v ∧ EsB w.heap.size w' v es ∧ Below w.heap.size w w' := by
  obtain ⟨i0, hi, hz0, hz1, hz2⟩ := info_parts Tryz.infoEn
  obtain ⟨ae, cape, ge, hev, hae, hro⟩ := hE.open
  have hcap := hro.le
  subst hev
  have HE := Lib.hid hE
  have hlg := lt_of_cell k2
  clear hE hro hae
  have HC : Hid (∀ (w3 : World) (ys : List Value), Below w.heap.size w w3 → w3.ownsRow w.heap.size 60 5 (.slice (some ⟨w.heap.size, 0, none⟩) es.length es.length) es.length ys → ∃ w4, (∀ ty, (Builtin.copy_ #[34, 34] ty #[.slice (some ⟨w.heap.size, 0, none⟩) es.length es.length, .slice ae es.length cape]).run Tryz.prog w3 = .ok (goInt (es.length : Nat)) w4) ∧ EsB w.heap.size w4 (.slice (some ⟨w.heap.size, 0, none⟩) es.length es.length) es ∧ Below w.heap.size w w4) := fun w3 ys hb hown => by
    obtain ⟨w4, h1, h2, h3⟩ := copy_out hown (HE.out.same fun k hk => hb.block k (HE.out.lt k hk)) rfl
    exact ⟨w4, h1, h2, hb.trans (h3.below (Nat.le_refl _) hb.size)⟩
  go_enter Tryz.func51, Tryz.ntmps51
  go_wp2_with (first | (at_make; refine wpList_make_full _ rfl _ _ 34 rfl w.heap.size 60 i0 (.agg #[.bool false, .int .i64 0, .int .i64 0, .int .i64 0, .int .i64 0]) 5 Tryz.underlying34 hi hz0 hz1 .i64 .i64 _ _ es.length rfl rfl (by omega) (by omega) (by rw [hz2]; omega) (by unfold maxLen; omega) (Nat.le_refl _) ?_; intro w3 hown3 hgrow3; have hb3 : Below w.heap.size w w3 := (Below.refl _ w).grown hgrow3 (Nat.le_refl _) (fun k e => by cases e); have y2 := (hb3.cell (p := ⟨g, 2, none⟩) hlg).trans k2; obtain ⟨w4, HR4, HE4, HB4⟩ : ∃ w4, (∀ ty, (Builtin.copy_ #[34, 34] ty #[.slice (some ⟨w.heap.size, 0, none⟩) es.length es.length, .slice ae es.length cape]).run Tryz.prog w3 = .ok (goInt (es.length : Nat)) w4) ∧ Hid (EsB w.heap.size w4 (.slice (some ⟨w.heap.size, 0, none⟩) es.length es.length) es) ∧ Hid (Below w.heap.size w w4) := HC.out w3 _ hb3 hown3) | fail)
  go_ret
  exact ⟨_, rfl, HE4.out, HB4.out⟩
/-- Why there is no live entry of that number. -/
noncomputable def noE (t : Tb) (n : Int) : Int := @ite Int (t.has n) (Classical.propDecidable _) 0 7
theorem Tb.has_nat {t : Tb} {n : Int} (h : t.has n) : ∃ m : Nat, n = (m : Int) ∧ m < t.es.length ∧ (nth t.es m).live = true := ⟨n.toNat, by have := h.1; omega, by have := h.1; have := h.2.1; omega, h.2.2⟩
set_option maxRecDepth 100000 in
set_option maxHeartbeats 2000000 in
theorem trefuse_any {w : World} {g : Nat} {ev : Value} {t : Tb} (k2 : w.cell? ⟨g, 2, none⟩ = some ev) (hE : Es w ev t.es) (n : Int) :
    Calls Tryz.prog 56 #[.pointer (some ⟨g, 0, none⟩), .int .i64 n] w fun e w' => e = .returned (.int .i64 (noE t n)) ∧ w' = w := by
  obtain ⟨ae, cape, ge, hev, hae, hro⟩ := hE.open
  have hcap := hro.le
  subst hev
  by_cases h0 : n < 0
  · have e0 : noE t n = 7 := if_neg (fun h => by have := h.1; omega)
    rw [e0]
    clear hE hro hae e0
    go_enter Tryz.func56, Tryz.ntmps56
    go_wp2
    go_ret
    exact ⟨rfl, rfl⟩
  · by_cases h1 : n < (t.es.length : Int)
    · obtain ⟨m, rfl⟩ : ∃ m : Nat, n = (m : Int) := ⟨n.toNat, by omega⟩
      have hm : m < t.es.length := by omega
      obtain ⟨rfl, _, _⟩ := hae (by omega)
      have c0 := hro.c0 m hm
      have t1 : ¬ ((t.es.length : Int) ≤ (m : Int)) := by omega
      by_cases hl : (nth t.es m).live = true
      · have e0 : noE t (m : Int) = 0 := if_pos ⟨by omega, by omega, by rw [Int.toNat_natCast]; exact hl⟩
        rw [e0]
        rw [hl] at c0
        clear hE hro hae e0 hl
        go_enter Tryz.func56, Tryz.ntmps56
        go_wp2
        go_ret
        exact ⟨rfl, rfl⟩
      · have hlf : (nth t.es m).live = false := by simpa using hl
        have e0 : noE t (m : Int) = 7 := if_neg (fun h => hl (by have := h.2.2; rwa [Int.toNat_natCast] at this))
        rw [e0]
        rw [hlf] at c0
        clear hE hro hae e0 hl hlf
        go_enter Tryz.func56, Tryz.ntmps56
        go_wp2
        go_ret
        exact ⟨rfl, rfl⟩
    · have t1 : (t.es.length : Int) ≤ n := by omega
      have e0 : noE t n = 7 := if_neg (fun h => by have := h.2.1; omega)
      rw [e0]
      clear hE hro hae e0
      go_enter Tryz.func56, Tryz.ntmps56
      go_wp2
      go_ret
      exact ⟨rfl, rfl⟩
theorem len_any {w : World} {g : Nat} {n : Int} (k3 : w.cell? ⟨g, 3, none⟩ = some (.int .i64 n)) :
    Calls Tryz.prog 11 #[.pointer (some ⟨g, 0, none⟩)] w fun e w' => e = .returned (.int .i64 n) ∧ w' = w := by
  go_enter Tryz.func11, Tryz.ntmps11
  go_wp2
  go_ret
  exact ⟨rfl, rfl⟩
end Go.Proofs.YtdjabdmnknlaeaaGreat
