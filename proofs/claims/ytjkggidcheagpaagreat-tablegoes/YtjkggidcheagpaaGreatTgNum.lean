/-
  The reference's All and Numbers, of any row of entries; the live entries' numbers.
-/
import Derived.Test.YtjkggidcheagpaaGreatTfTell
import Derived.Test.YtjkggidcheagpaaGreatLdMath
import Derived.Test.YtjkggidcheagpaaGreatStRow
namespace Go.Proofs.YtjkggidcheagpaaGreat
open Go.RowKit Go.WideShapes

/-- The numbers of the live ones of the first i entries. -/
def lvn (es : List En) : Nat → List Int
  | 0 => []
  | i + 1 => lvn es i ++ if (nth es i).live = true then [(i : Int)] else []
theorem lvn_len (es : List En) : ∀ i, i ≤ es.length → (lvn es i).length = (liveL (es.take i)).length
  | 0, _ => by simp [lvn, liveL]
  | i + 1, h => by
    rw [lvn, List.length_append, lvn_len es i (by omega), liveL_take h]
    by_cases hl : (nth es i).live = true
    · simp [hl]
    · simp [hl]
theorem lvn_all (es : List En) : (lvn es es.length).length = (liveL es).length := by
  rw [lvn_len es _ (Nat.le_refl _), List.take_length]
theorem lvn_le (es : List En) : ∀ {i j : Nat}, i ≤ j → ∃ r, lvn es j = lvn es i ++ r := by
  intro i j h
  induction j with
  | zero => exact ⟨[], by rw [show i = 0 by omega]; simp⟩
  | succ j ih =>
    rcases Nat.lt_or_ge i (j + 1) with y | y
    · obtain ⟨r, hr⟩ := ih (by omega)
      exact ⟨r ++ _, by rw [lvn, hr, List.append_assoc]⟩
    · exact ⟨[], by rw [show i = j + 1 by omega]; simp⟩
theorem lvn_at (es : List En) {i j : Nat} (hij : i < j) (hl : (nth es i).live = true) : (lvn es j)[(lvn es i).length]? = some (i : Int) ∧ (lvn es i).length < (lvn es j).length ∧ (lvn es (i + 1)).length = (lvn es i).length + 1 := by
  obtain ⟨r, hr⟩ := lvn_le es (i := i + 1) (j := j) hij
  have h1 : lvn es (i + 1) = lvn es i ++ [(i : Int)] := by rw [lvn, if_pos hl]
  rw [h1, List.append_assoc] at hr
  rw [hr, h1]
  simp
theorem lvn_dead (es : List En) {i : Nat} (hl : (nth es i).live = false) : lvn es (i + 1) = lvn es i := by
  rw [lvn, hl]
  simp
theorem live_at {es : List En} {i : Nat} (hi : i < es.length) (hl : (nth es i).live = true) : nth (liveL es) (lvn es i).length = nth es i := by
  rw [lvn_len es i (by omega), liveL_cut hi hl]
  exact nth_mid _ _ _
set_option maxRecDepth 100000 in
set_option maxHeartbeats 4000000 in
theorem rlive0 {w : World} {g : Nat} {ev : Value} {es : List En} (h0 : w.cell? ⟨g, 0, none⟩ = some ev) (hE0 : Es w ev es) (hn : es.length ≤ 100000) :
    Calls Tryz.prog 24 #[.pointer (some ⟨g, 0, none⟩)] w fun e w' => ∃ v, e = .returned v ∧ EsB w.heap.size w' v (liveL es) ∧ Below w.heap.size w w' := by
  obtain ⟨i0, hi, hz0, hz1, hz2⟩ := info_parts Tryz.infoEn
  obtain ⟨ae, cape, ge, ev1, hpe, hro⟩ := hE0.open
  have hcape := hro.le
  have HRO : Hid (0 < es.length → ae = some ⟨ge, 0, none⟩ ∧ ge < w.heap.size ∧ Ro w ge es.length cape es) := fun h0 => ⟨(hpe h0).1, hE0.lt ge (hpe h0).2.1, hro⟩
  have lg := lt_of_cell h0
  subst ev1
  have H0 := Lib.hid h0
  clear h0 hE0 hro hpe
  go_enter Tryz.func24, Tryz.ntmps24
  go_wp2_with fail
  go_loopw [3, 4] (fun lv iv wr => ∃ k : Nat, k ≤ es.length ∧ iv = .int .i64 (k : Int) ∧ EsB w.heap.size wr lv (liveL (es.take k)) ∧ Below w.heap.size w wr) (fun _ iv _ => es.length - (intOf iv).toNat)
  case atStart => exact ⟨0, Nat.zero_le _, rfl, ⟨rfl, Or.inl ⟨rfl, rfl⟩⟩, Below.refl _ _⟩
  case round =>
    obtain ⟨k, hk, rfl, hE, hB⟩ := hrel
    have f0 : wr.cell? ⟨g, 0, none⟩ = some (.slice ae es.length cape) := (hB.cell (p := ⟨g, 0, none⟩) lg).trans H0.out
    by_cases hlt : k < es.length
    · have t1 : (k : Int) < (es.length : Int) := by omega
      obtain ⟨ea, lge, hro⟩ := HRO.out (by omega)
      subst ea
      have key : ∀ o, wr.cell? ⟨ge, o, none⟩ = w.cell? ⟨ge, o, none⟩ := fun o => hB.cell (p := ⟨ge, o, none⟩) lge
      have d0 := (key _).trans (hro.c0 k hlt)
      have d1 := (key _).trans (hro.c1 k hlt)
      have d2 := (key _).trans (hro.c2 k hlt)
      have d3 := (key _).trans (hro.c3 k hlt)
      have d4 := (key _).trans (hro.c4 k hlt)
      have HTK := Lib.hid (liveL_take hlt)
      clear hro key
      cases hlive : (nth es k).live with
      | true =>
        have hown : wr.ownsRow w.heap.size 66 5 u3 (liveL (es.take k)).length (enl (liveL (es.take k))) := hE
        have hlk : (liveL (es.take k)).length ≤ k := by have := liveL_len (es.take k); rw [List.length_take] at this; omega
        have FIN : Hid (∀ (v' : Value) (w5 : World), w5.ownsRow w.heap.size 66 5 v' ((liveL (es.take k)).length + 1) (enl (liveL (es.take k)) ++ enc5 (nth es k)) → EsB w.heap.size w5 v' (liveL (es.take (k + 1)))) := fun v' w5 h5 => by
          rw [HTK.out, if_pos hlive]
          exact EsB.snoc h5
        have NF : Hid (∀ j u, (enc5 (nth es k))[j]? = some u → (wr.alloc (.cells #[.bool (nth es k).live, .int .i64 (nth es k).hash, .int .i64 (nth es k).key, .int .i64 (nth es k).value, .int .i64 (nth es k).birth] 66)).cell? (Addr.add ⟨wr.heap.size, 0, none⟩ j) = some u) := new_five _ _ _
        have HE5 : Hid ((enc5 (nth es k)).length = 5 ∧ ∀ u ∈ enc5 (nth es k), u.oneCell' = true) := ⟨rfl, fun u hu => enl_one [nth es k] u (by simpa [enl] using hu)⟩
        have HRL : Hid ((enl (liveL (es.take k))).length = (liveL (es.take k)).length * 5) := enl_len _
        rw [hlive] at d0 NF
        have hsz := hB.size
        clear hE
        generalize enc5 (nth es k) = E5 at FIN NF HE5
        generalize enl (liveL (es.take k)) = R at hown FIN HRL
        generalize (liveL (es.take k)).length = m at hown FIN hlk HRL
        generalize (nth es k).hash = x1 at *
        generalize (nth es k).key = x2 at *
        generalize (nth es k).value = x3 at *
        generalize (nth es k).birth = x4 at *
        clear hlive HTK
        go_wp2_with (at_builtin; refine wpList_append_own _ rfl _ _ 37 rfl w.heap.size 66 i0 (.agg #[.bool false, .int .i64 0, .int .i64 0, .int .i64 0, .int .i64 0]) 5 40 Tryz.underlying37 hi hz0 hz1 hz2 rfl (by decide) _ _ _ rfl (World.ownsRow.alloc hown _) ⟨wr.heap.size, 0, none⟩ 1 1 E5 rfl HE5.out.1 NF.out HE5.out.2 (by unfold maxLen; omega) (by omega) (by simp; omega) ?_; intro v' w5 hown2 hgrow _; have hI2 := Lib.hid (FIN.out v' w5 hown2); have hb5 := below_grown5 hB (Nat.le_refl _) hown hgrow; clear hgrow hown2)
        go_roundw
        case rel => exact ⟨k + 1, by omega, by go_num, hI2.out, hb5⟩
        case measure => simp [intOf]; omega
      | false =>
        rw [hlive] at d0
        have HE : Hid (EsB w.heap.size wr u3 (liveL (es.take (k + 1)))) := by
          show EsB _ _ _ _
          rw [HTK.out, if_neg (by rw [hlive]; simp)]
          exact hE
        clear hE hlive HTK
        go_wp2_with fail
        go_roundw
        case rel => exact ⟨k + 1, by omega, by go_num, HE.out, hB⟩
        case measure => simp [intOf]; omega
    · have t1 : ¬ (k : Int) < (es.length : Int) := by omega
      obtain rfl : k = es.length := by omega
      rw [List.take_length] at hE
      go_wp2
      go_ret
      exact ⟨_, rfl, hE, hB⟩
set_option maxRecDepth 100000 in
set_option maxHeartbeats 4000000 in
theorem rnumbers0 {w : World} {g : Nat} {ev : Value} {es : List En} (h0 : w.cell? ⟨g, 0, none⟩ = some ev) (hE0 : Es w ev es) (hn : es.length ≤ 100000) :
    Calls Tryz.prog 26 #[.pointer (some ⟨g, 0, none⟩)] w fun e w' => ∃ v, e = .returned v ∧ IntsR w.heap.size w' v (lvn es es.length) ∧ Below w.heap.size w w' := by
  obtain ⟨i0, hi, hz0, hz1, hz2⟩ := info_parts Tryz.infoN
  obtain ⟨ae, cape, ge, ev1, hpe, hro⟩ := hE0.open
  have hcape := hro.le
  have HRO : Hid (0 < es.length → ae = some ⟨ge, 0, none⟩ ∧ ge < w.heap.size ∧ Ro w ge es.length cape es) := fun h0 => ⟨(hpe h0).1, hE0.lt ge (hpe h0).2.1, hro⟩
  have lg := lt_of_cell h0
  subst ev1
  have H0 := Lib.hid h0
  clear h0 hE0 hro hpe
  go_enter Tryz.func26, Tryz.ntmps26
  go_wp2_with fail
  go_loopw [3, 4] (fun lv iv wr => ∃ k : Nat, k ≤ es.length ∧ iv = .int .i64 (k : Int) ∧ IntsR w.heap.size wr lv (lvn es k) ∧ Below w.heap.size w wr) (fun _ iv _ => es.length - (intOf iv).toNat)
  case atStart => exact ⟨0, Nat.zero_le _, rfl, IntsR.nil _ _, Below.refl _ _⟩
  case round =>
    obtain ⟨k, hk, rfl, hE, hB⟩ := hrel
    have f0 : wr.cell? ⟨g, 0, none⟩ = some (.slice ae es.length cape) := (hB.cell (p := ⟨g, 0, none⟩) lg).trans H0.out
    by_cases hlt : k < es.length
    · have t1 : (k : Int) < (es.length : Int) := by omega
      obtain ⟨ea, lge, hro⟩ := HRO.out (by omega)
      subst ea
      have d0 := (hB.cell (p := ⟨ge, k * 5, none⟩) lge).trans (hro.c0 k hlt)
      clear hro
      cases hlive : (nth es k).live with
      | true =>
        have hown : wr.ownsRow w.heap.size 3 1 u3 (lvn es k).length ((lvn es k).map fun x : Int => Value.int .i64 x) := hE
        have hlk : (lvn es k).length ≤ k := by
          have h1 := lvn_len es k (by omega)
          have := liveL_len (es.take k)
          rw [List.length_take] at this
          omega
        have HS : Hid (lvn es (k + 1) = lvn es k ++ [(k : Int)]) := by
          show _ = _
          rw [lvn, hlive]
          simp
        rw [hlive] at d0
        have hsz := hB.size
        clear hE hlive
        go_wp2_with (at_builtin; refine wpList_append_own _ rfl _ _ 38 rfl w.heap.size 3 i0 (.int .i64 0) 1 8 Tryz.underlying38 hi hz0 hz1 hz2 rfl (by decide) _ _ _ rfl (World.ownsRow.alloc hown _) ⟨wr.heap.size, 0, none⟩ 1 1 [.int .i64 (k : Int)] rfl rfl (newR_one _ _ _) (fun u hu => by simp at hu; subst hu; rfl) (by unfold maxLen; omega) (by omega) (by simp; omega) ?_; intro v' w5 hown2 hgrow _; have hI2 := Lib.hid (intsR_snoc hown2); have hb5 := belowR_grown hB (Nat.le_refl _) hown hgrow; clear hgrow hown2)
        go_roundw
        case rel => exact ⟨k + 1, by omega, by go_num, by rw [HS.out]; exact hI2.out, hb5⟩
        case measure => simp [intOf]; omega
      | false =>
        rw [hlive] at d0
        have HE : Hid (IntsR w.heap.size wr u3 (lvn es (k + 1))) := by
          show IntsR _ _ _ _
          rw [lvn_dead es hlive]
          exact hE
        clear hE hlive
        go_wp2_with fail
        go_roundw
        case rel => exact ⟨k + 1, by omega, by go_num, HE.out, hB⟩
        case measure => simp [intOf]; omega
    · have t1 : ¬ (k : Int) < (es.length : Int) := by omega
      obtain rfl : k = es.length := by omega
      go_wp2
      go_ret
      exact ⟨_, rfl, hE, hB⟩
end Go.Proofs.YtjkggidcheagpaaGreat
