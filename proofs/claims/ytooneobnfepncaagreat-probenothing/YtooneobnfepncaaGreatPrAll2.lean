/-
  table.All; the places of the live entries.
-/
import Derived.Test.YtooneobnfepncaaGreatPrAll
import Derived.Test.YtooneobnfepncaaGreatLdMath
namespace Go.Proofs.YtooneobnfepncaaGreat
open Go.RowKit Go.WideShapes

set_option maxRecDepth 100000 in
theorem all7_new {w : World} {g : Nat} {ev : Value} {es : List En} (k2 : w.cell? ⟨g, 2, none⟩ = some ev) (hE : Es w ev es) (hlen : es.length ≤ 100000) :
    Calls Tryz.prog 46 #[.pointer (some ⟨g, 0, none⟩)] w fun e w' => ∃ b v, e = .returned (.func (.func 94) #[] #[.pointer (some ⟨b, 0, none⟩)]) ∧ w.heap.size ≤ b ∧ b < w'.heap.size ∧ w'.cell? ⟨b, 0, none⟩ = some v ∧ EsB w.heap.size w' v es ∧ v.ownBlock ≠ some b ∧ Below w.heap.size w w' := by
  have hmf : ∀ (fn : Fn) (first cap : Array Value) (w : World), (Instr.makeFunc fn first cap).run Tryz.prog w = .ok (.func fn first cap) w := fun _ _ _ _ => rfl
  have C1 := copied_any k2 hE hlen
  clear k2 hE
  go_enter Tryz.func46, Tryz.ntmps46
  go_wp2_with fail
  refine C1.mono ?_
  rintro e w1 ⟨v, rfl, hE1, hB1⟩
  clear C1
  obtain ⟨a, cap, ge, hv, _⟩ := hE1.es.open
  obtain ⟨w2, hw2⟩ : ∃ y, w1.alloc (.cells #[v] 69) = y := ⟨_, rfl⟩
  have hb2 : Below w1.heap.size w1 w2 := by rw [← hw2]; exact (Below.refl _ w1).alloc (Nat.le_refl _) _
  have hl2 : w1.heap.size < w2.heap.size := by rw [← hw2]; simp
  have hc2 : w2.cell? ⟨w1.heap.size, 0, none⟩ = some v := by rw [← hw2]; exact cell_alloc_new _ _ _ _ rfl
  have hE2 : EsB w.heap.size w2 v es := by
    refine ⟨hE1.1, ?_⟩
    rcases hE1.2 with h0 | ⟨g, cap, cur, e, h1, h2, h3⟩
    · exact .inl h0
    · exact .inr ⟨g, cap, cur, e, h1, (hb2.block g (hE1.es.lt g (by rw [e]; rfl))).trans h2, h3⟩
  have HR : Hid (w.heap.size ≤ w1.heap.size ∧ w1.heap.size < w2.heap.size ∧ w2.cell? ⟨w1.heap.size, 0, none⟩ = some v ∧ EsB w.heap.size w2 v es ∧ v.ownBlock ≠ some w1.heap.size ∧ Below w.heap.size w w2) :=
    ⟨hB1.size, hl2, hc2, hE2, fun h => by have := hE1.es.lt _ h; omega, hB1.trans (hb2.mono hB1.size)⟩
  have HW2 := Lib.hid hw2
  subst hv
  clear hw2 hb2 hl2 hc2 hE2 hE1 hB1
  go_wp2_with fail
  rw [HW2.out]
  go_ret
  exact ⟨_, _, by simp, HR.out⟩
theorem cntL_live {es : List En} : ∀ {i : Nat}, i ≤ es.length → cntL es i = (liveL (es.take i)).length := by
  intro i
  induction i with
  | zero => intro _; simp [cntL, liveL]
  | succ i ih =>
    intro h
    rw [liveL_take (by omega), cntL, ih (by omega)]
    by_cases hl : (nth es i).live = true
    · rw [if_pos hl, if_pos hl]; simp
    · rw [if_neg hl, if_neg hl]; rfl
theorem cntL_all (es : List En) : cntL es es.length = (liveL es).length := by rw [cntL_live (Nat.le_refl _), List.take_length]
theorem nth_live {es : List En} {i : Nat} (hi : i < es.length) (hl : (nth es i).live = true) : nth (liveL es) (cntL es i) = nth es i := by
  rw [cntL_live (by omega), liveL_cut hi hl]
  exact nth_mid _ _ _
theorem cntL_inj {es : List En} {i j : Nat} (hi : (nth es i).live = true) (hj : (nth es j).live = true) (h : cntL es i = cntL es j) : i = j := by
  have key : ∀ {a b : Nat}, (nth es a).live = true → a < b → cntL es a < cntL es b := fun {a b} ha hab => by
    have h1 := cntL_le es (i := a + 1) (j := b) hab
    have h2 : cntL es (a + 1) = cntL es a + if (nth es a).live = true then 1 else 0 := rfl
    rw [if_pos ha] at h2
    omega
  rcases Nat.lt_trichotomy i j with y | y | y
  · have := key hi y; omega
  · exact y
  · have := key hj y; omega
theorem cntL_onto {es : List En} {k : Nat} : ∀ {n : Nat}, k < cntL es n → ∃ i, i < n ∧ (nth es i).live = true ∧ cntL es i = k := by
  intro n
  induction n with
  | zero => intro h; exact absurd h (Nat.not_lt_zero _)
  | succ n ih =>
    intro h
    rw [cntL] at h
    by_cases hk : k < cntL es n
    · obtain ⟨i, h1, h2, h3⟩ := ih hk
      exact ⟨i, by omega, h2, h3⟩
    · by_cases hl : (nth es n).live = true
      · rw [if_pos hl] at h
        exact ⟨n, by omega, hl, by omega⟩
      · rw [if_neg hl] at h
        omega
/-- The places of the live entries. -/
theorem places (es : List En) : ∃ px : Nat → Nat, (∀ i, i < es.length → (nth es i).live = true → px (cntL es i) = i) ∧ ∀ k, k < (liveL es).length → px k < es.length ∧ nth es (px k) = nth (liveL es) k := by
  classical
  refine ⟨fun k => if h : ∃ i, i < es.length ∧ (nth es i).live = true ∧ cntL es i = k then Classical.choose h else 0, fun i hi hl => ?_, fun k hk => ?_⟩
  · have h : ∃ j, j < es.length ∧ (nth es j).live = true ∧ cntL es j = cntL es i := ⟨i, hi, hl, rfl⟩
    simp only [dif_pos h]
    have := Classical.choose_spec h
    exact cntL_inj this.2.1 hl this.2.2
  · rw [← cntL_all] at hk
    have h := cntL_onto hk
    simp only [dif_pos h]
    have hs := Classical.choose_spec h
    refine ⟨hs.1, ?_⟩
    have := nth_live hs.1 hs.2.1
    rw [hs.2.2] at this
    exact this.symm
end Go.Proofs.YtooneobnfepncaaGreat
