/-
  shown: the entries, the dead ones without anything.
-/
import Derived.Test.YtooneobnfepncaaGreatDtTell
namespace Go.Proofs.YtooneobnfepncaaGreat
open Go.RowKit Go.WideShapes

/-- The first k as they are told. -/
def shk (es : List En) (k : Nat) : List En := (List.range es.length).map fun i => if i < k then (nth es i).shown else nth es i
theorem shk_len (es : List En) (k : Nat) : (shk es k).length = es.length := by simp [shk]
theorem shk_nth (es : List En) (k i : Nat) (hi : i < es.length) : nth (shk es k) i = if i < k then (nth es i).shown else nth es i := by
  conv => lhs; unfold nth
  rw [List.getD_eq_getElem?_getD]
  simp [shk, hi]
theorem nth_ext {a b : List En} (hl : a.length = b.length) (h : ∀ i, i < a.length → nth a i = nth b i) : a = b := by
  apply List.ext_getElem hl
  intro i h1 h2
  have := h i h1
  unfold nth at this
  rw [List.getD_eq_getElem?_getD, List.getD_eq_getElem?_getD, List.getElem?_eq_getElem h1, List.getElem?_eq_getElem h2] at this
  exact this
theorem shk_zero (es : List En) : shk es 0 = es := nth_ext (shk_len _ _) fun i hi => by rw [shk_len] at hi; rw [shk_nth _ _ _ hi, if_neg (Nat.not_lt_zero _)]
theorem shk_all (es : List En) : shk es es.length = shw es := nth_ext (by rw [shk_len, shw_len]) fun i hi => by rw [shk_len] at hi; rw [shk_nth _ _ _ hi, if_pos hi, nth_shw]
theorem shk_live (es : List En) (k : Nat) (hl : (nth es k).live = true) : shk es (k + 1) = shk es k := nth_ext (by rw [shk_len, shk_len]) fun i hi => by
  rw [shk_len] at hi
  rw [shk_nth _ _ _ hi, shk_nth _ _ _ hi]
  by_cases e : i = k
  · subst e
    rw [if_pos (by omega), if_neg (by omega), En.shown_live hl]
  · by_cases h2 : i < k
    · rw [if_pos h2, if_pos (by omega)]
    · rw [if_neg h2, if_neg (by omega)]
theorem shk_dead (es : List En) (k : Nat) (hk : k < es.length) (hl : (nth es k).live = false) : (shk es k).set k En.zero = shk es (k + 1) := nth_ext (by rw [List.length_set, shk_len, shk_len]) fun i hi => by
  rw [List.length_set, shk_len] at hi
  rw [nth_set (by rw [shk_len]; exact hk), shk_nth _ _ _ hi, shk_nth _ _ _ hi]
  by_cases e : i = k
  · subst e
    rw [if_pos rfl, if_pos (by omega), En.shown_dead hl]
  · rw [if_neg e]
    by_cases h2 : i < k
    · rw [if_pos h2, if_pos (by omega)]
    · rw [if_neg h2, if_neg (by omega)]
theorem Es.from {B : Nat} {w : World} {v : Value} {es : List En} (h : Es w v es) (hg : ∀ k, v.ownBlock = some k → B ≤ k) : EsB B w v es := by
  refine ⟨h.1, ?_⟩
  rcases h.2 with h0 | ⟨g, cap, cur, e, h1, h2⟩
  · exact .inl h0
  · exact .inr ⟨g, cap, cur, e, hg g (by rw [e]; rfl), h2⟩
set_option maxRecDepth 100000 in
set_option maxHeartbeats 4000000 in
theorem shown_any {w : World} {g : Nat} {ev : Value} {es : List En} (k2 : w.cell? ⟨g, 2, none⟩ = some ev) (hE : Es w ev es) (hlen : es.length ≤ 100000) :
    Calls Tryz.prog 99 #[.pointer (some ⟨g, 0, none⟩)] w fun e w' => ∃ v, e = .returned v ∧ EsB w.heap.size w' v (shw es) ∧ Below w.heap.size w w' := by
  have C1 := copied_any k2 hE hlen
  clear hE k2
  go_enter Tryz.func99, Tryz.ntmps99
  go_wp2_with fail
  refine C1.mono ?_
  rintro e w1 ⟨cv, rfl, hE1, hB1⟩
  clear C1
  obtain ⟨ae, cape, ge, hev, hae, hro⟩ := hE1.es.open
  have hcap := hro.le
  subst hev
  have hge := hE1.ge
  have HAE : Hid (0 < es.length → ae = some ⟨ge, 0, none⟩ ∧ w.heap.size ≤ ge) := fun h => ⟨(hae h).1, hge ge (hae h).2.1⟩
  have HGE : Hid (∀ k, (Value.slice ae es.length cape).ownBlock = some k → w.heap.size ≤ k) := hge
  have HE1 : Hid (Es w1 (.slice ae es.length cape) (shk es 0)) := by rw [shk_zero]; exact hE1.es
  clear hE1 hae hro hge
  go_wp2_with fail
  go_loopw [9, 4] (fun iv _ wr => ∃ k : Nat, k ≤ es.length ∧ iv = .int .i64 (k : Int) ∧ Hid (Es wr (.slice ae es.length cape) (shk es k)) ∧ Below w.heap.size w wr) (fun iv _ _ => es.length - (intOf iv).toNat)
  case atStart => exact ⟨0, Nat.zero_le _, rfl, HE1, hB1⟩
  case round =>
    clear HE1 hB1
    obtain ⟨k, hk, rfl, HE, hB⟩ := hrel
    by_cases hlt : k < es.length
    · have tk : (k : Int) < (es.length : Int) := by omega
      obtain ⟨hae, hobk⟩ := HAE.out (by omega)
      subst hae
      have hE := HE.out
      rw [← shk_len es k] at hE
      obtain ⟨_, _, _, hv', hae', hro'⟩ := hE.open
      cases hv'
      obtain ⟨hge', _, hfz'⟩ := hae' (by rw [shk_len]; omega)
      cases hge'
      have hlk : k < (shk es k).length := by rw [shk_len]; exact hlt
      have e0 := hro'.c0 k hlk
      have e1 := hro'.c1 k hlk
      have e2 := hro'.c2 k hlk
      have e3 := hro'.c3 k hlk
      have e4 := hro'.c4 k hlk
      have z0 := hfz' (k * 5)
      have z1 := hfz' (k * 5 + 1)
      have z2 := hfz' (k * 5 + 2)
      have z3 := hfz' (k * 5 + 3)
      have z4 := hfz' (k * 5 + 4)
      have hnk : nth (shk es k) k = nth es k := by rw [shk_nth _ _ _ hlt, if_neg (Nat.lt_irrefl _)]
      rw [hnk] at e0 e1 e2 e3 e4
      by_cases hl : (nth es k).live = true
      · have HN : Hid (Es wr (.slice (some ⟨ge, 0, none⟩) es.length cape) (shk es (k + 1))) := by rw [shk_live es k hl]; exact HE.out
        rw [hl] at e0
        clear hE hro' hae' hfz' hnk hl hlk
        go_wp2_with fail
        go_roundw
        case rel => exact ⟨k + 1, by omega, by go_num, HN, hB⟩
        case measure => simp [intOf]; omega
      · have hlf : (nth es k).live = false := by simpa using hl
        have HN : Hid (Es (zeroW wr ge k) (.slice (some ⟨ge, 0, none⟩) es.length cape) (shk es (k + 1))) := by
          have := hE.zero k hlk
          rw [shk_dead es k hlt hlf, shk_len] at this
          exact this
        have HNB : Hid (Below w.heap.size w (zeroW wr ge k)) := hB.trans ((zeroW_but wr ge k).below hobk hB.size)
        rw [hlf] at e0
        clear hE hro' hae' hfz' hnk hl hlf hlk
        generalize (nth es k).hash = y1 at *
        generalize (nth es k).key = y2 at *
        generalize (nth es k).value = y3 at *
        generalize (nth es k).birth = y4 at *
        unfold zeroW at HN HNB
        go_wp2_with fail
        go_roundw
        case rel => exact ⟨k + 1, by omega, by go_num, HN, HNB.out⟩
        case measure => simp [intOf]; omega
    · obtain rfl : k = es.length := by omega
      have tk : ¬ (es.length : Int) < (es.length : Int) := by omega
      go_wp2
      go_ret
      refine ⟨_, rfl, Es.from ?_ HGE.out, hB⟩
      have := HE.out
      rw [shk_all] at this
      exact this
end Go.Proofs.YtooneobnfepncaaGreat
