/-
  The reference's calls: Is, Get, Set, Free, Add.
-/
import Derived.Test.YtmeljhnmpopkhaaSlRef
namespace Go.Proofs.Ytmeljhnmpopkhaa
open Go.RowKit Go.WideShapes

theorem rowS_len {w : World} {B : Nat} {e : TypeId} {size n k cap g : Nat} {xs : List Value} (h : w.ownsRow B e size (.slice (some ⟨g, 0, none⟩) k cap) n xs) : k = n := by
  rcases h.2 with ⟨e, _⟩ | ⟨g', cap', cur, e, _⟩
  · cases e
  · cases e
    rfl
theorem ris_any {w : World} {q : Nat} {ss : List So} {lv tv : Value} {vs : List Value} {Z : Nat → Prop} (h : Rq w q ss lv tv vs Z) (i : Int) : Calls Try.prog 30 #[.pointer (some ⟨q, 0, none⟩), .int .i64 i] w fun e w' => e = .returned (.bool (isT ss i)) ∧ w' = w := by
  obtain ⟨la, lc, rfl⟩ := ownsS_shape h.row
  have c0 := h.c0
  have c1 := h.c1
  by_cases hi : 0 ≤ i
  · by_cases hl : i < (ss.length : Int)
    · obtain ⟨k, rfl⟩ : ∃ k : Nat, i = (k : Int) := ⟨i.toNat, by omega⟩
      rw [isT_nat ss k (by omega)]
      obtain ⟨t, tc, rfl, _⟩ := ownsS_some h.tk (by omega)
      have r0 := (h.tcell k (by omega)).2
      clear h
      generalize (nts ss k).taken = b at *
      go_enter Try.func30, Try.ntmps30
      go_wp2
      go_ret
      exact ⟨rfl, rfl⟩
    · rw [isT_no (by omega)]
      have t1 : (i < (ss.length : Int)) = False := by simp; omega
      clear h
      go_enter Try.func30, Try.ntmps30
      go_wp2
      go_ret
      exact ⟨rfl, rfl⟩
  · rw [isT_no (by omega)]
    have t1 : (0 ≤ i) = False := by simp; omega
    clear h
    go_enter Try.func30, Try.ntmps30
    go_wp2
    go_ret
    exact ⟨rfl, rfl⟩
theorem rget_sl {w : World} {q : Nat} {ss : List So} {lv tv : Value} {vs : List Value} {Z : Nat → Prop} (h : Rq w q ss lv tv vs Z) (i : Int) : Calls Try.prog 20 #[.pointer (some ⟨q, 0, none⟩), .int .i64 i] w fun e w' => ∃ v, e = .returned (.tuple #[v, .bool (isT ss i)]) ∧ w' = w ∧ ((v = .slice none 0 0 ∧ getS ss i = 0) ∨ ∃ b, v = .slice (some ⟨b, 0, none⟩) 1 1 ∧ w.cell? ⟨b, 0, none⟩ = some (.int .i64 (getS ss i))) := by
  have C := ris_any h i
  by_cases ht : isT ss i = true
  · obtain ⟨k, rfl, hk, hx⟩ := isT_ex ht
    obtain ⟨r, rc, rfl, _⟩ := ownsS_some h.row (by omega)
    obtain ⟨b, hZ, hv, hc⟩ := h.val k hk hx
    have c0 := h.c0
    have r0 : w.cell? ⟨r, k, none⟩ = some (.slice (some ⟨b, 0, none⟩) 1 1) := by rw [h.row.cellAt k (by omega)]; exact hv
    have t1 : (k : Int) < (ss.length : Int) := by omega
    have t2 : (0 : Int) ≤ (k : Int) := by omega
    have eg : getS ss (k : Int) = (nts ss k).has := by unfold getS; rw [if_pos ht]; simp
    rw [eg]
    rw [ht] at C ⊢
    have HC := Lib.hid hc
    clear h eg ht hx hv hc
    go_enter Try.func20, Try.ntmps20
    go_wp2_with fail
    refine C.mono ?_
    rintro e w1 ⟨rfl, rfl⟩
    clear C
    go_wp2
    go_ret2
    exact ⟨_, rfl, rfl, Or.inr ⟨b, rfl, HC.out⟩⟩
  · have ht : isT ss i = false := by simpa using ht
    have eg : getS ss i = 0 := by unfold getS; rw [ht]; simp
    rw [eg]
    rw [ht] at C ⊢
    clear h eg ht
    go_enter Try.func20, Try.ntmps20
    go_wp2_with fail
    refine C.mono ?_
    rintro e w1 ⟨rfl, rfl⟩
    clear C
    go_wp2
    go_ret2
    exact ⟨_, rfl, rfl, Or.inl ⟨rfl, by first | rfl | trivial⟩⟩
/-- A list of one's own is laid into a taken slot. -/
theorem Rq.put1 {w : World} {q r N c b : Nat} {ss : List So} {tv : Value} {vs : List Value} {Z : Nat → Prop} {x : Int} (h : Rq w q ss (.slice (some ⟨r, 0, none⟩) N c) tv vs Z) (k : Nat) (hk : k < ss.length) (ht : (nts ss k).taken = true) (hb : w.cell? ⟨b, 0, none⟩ = some (.int .i64 x)) (hbr : b ≠ r) (hZ : ∀ j, Z j → j ≠ r) :
    Rq (w.setCell ⟨r, k, none⟩ (.slice (some ⟨b, 0, none⟩) 1 1)) q (ss.set k ⟨true, x⟩) (.slice (some ⟨r, 0, none⟩) N c) tv (vs.set k (.slice (some ⟨b, 0, none⟩) 1 1)) (fun j => Z j ∨ j = b) := by
  have hqr : q ≠ r := fun e => h.nr (by rw [e]; rfl)
  obtain rfl := rowS_len h.row
  have hfar : ∀ g o, g ≠ r → (w.setCell ⟨r, k, none⟩ (.slice (some ⟨b, 0, none⟩) 1 1)).cell? ⟨g, o, none⟩ = w.cell? ⟨g, o, none⟩ := fun g o e => World.cell?_of_block (a := ⟨g, o, none⟩) (setCell_blk e)
  have hvl : vs.length = ss.length := by have := h.row.1; omega
  refine ⟨(hfar q 0 hqr).trans h.c0, (hfar q 1 hqr).trans h.c1, fun j => by rw [World.frozen?_setCell]; exact h.z j, ?_, ?_, fun i hi hti => ?_, h.nr, h.nt, h.ne, by simpa using h.sm, fun u hu => by rcases List.mem_or_eq_of_mem_set hu with e | e; exact h.one u e; rw [e]; rfl⟩
  · rw [List.length_set]
    exact (h.row.stored k _).1
  · rw [List.length_set, tkv_set, show (tkv ss).set k (.bool true) = tkv ss from ?_]
    · exact ownsS_same h.tk (fun j hj => setCell_blk (fun e => h.ne j (by rw [e]; rfl) hj))
    · apply List.ext_getElem?
      intro j
      rw [List.getElem?_set]
      by_cases e : k = j
      · subst e
        rw [if_pos rfl, if_pos (by rw [tkv_len]; exact hk), tkv_get ss k hk, ht]
      · rw [if_neg e]
  · rw [nts_set hk] at hti ⊢
    by_cases e : i = k
    · rw [if_pos e]
      exact ⟨b, Or.inr rfl, by rw [e]; simp [hvl, hk], (hfar b 0 hbr).trans hb⟩
    · rw [if_neg e] at hti ⊢
      obtain ⟨b', hZ', hv, hc⟩ := h.val i (by simpa using hi) hti
      exact ⟨b', Or.inl hZ', by rw [List.getElem?_set, if_neg (fun h => e h.symm)]; exact hv, (hfar b' 0 (hZ b' hZ')).trans hc⟩
theorem rset_sl {w : World} {q b : Nat} {ss : List So} {Y Z : Nat → Prop} {x : Int} (h : RqV w q ss Y Z) (i : Int) (hb : w.cell? ⟨b, 0, none⟩ = some (.int .i64 x)) (hbY : ¬ Y b) : Calls Try.prog 22 #[.pointer (some ⟨q, 0, none⟩), .int .i64 i, .slice (some ⟨b, 0, none⟩) 1 1] w fun e w' => e = .returned (.bool (isT ss i)) ∧ RqV w' q (setS ss i x) Y (fun k => Z k ∨ k = b) ∧ Ex Y w w' := by
  obtain ⟨lv, tv, vs, h, hY, hYs, hZs, hZY⟩ := h
  have C := ris_any h i
  have hbl : b < w.heap.size := lt_of_cell hb
  by_cases ht : isT ss i = true
  · obtain ⟨k, rfl, hk, hx⟩ := isT_ex ht
    obtain ⟨r, rc, rfl, _⟩ := ownsS_some h.row (by omega)
    have c0 := h.c0
    have hYr := hY r (Or.inr (Or.inl rfl))
    have hP := h.put1 k hk hx hb (fun e => hbY (by rw [e]; exact hYr)) (fun j hj e => hZY j hj (by rw [e]; exact hYr))
    have hlt : k < vs.length := by have := h.row.1; omega
    have r0 : ∃ v, w.cell? ⟨r, k, none⟩ = some v := ⟨vs[k], by rw [h.row.cellAt k (by omega), List.getElem?_eq_getElem hlt]⟩
    obtain ⟨v0, r0⟩ := r0
    have z0 : w.frozen? ⟨r, k, none⟩ = false := h.row.frozenAt k
    have t1 : (k : Int) < (ss.length : Int) := by omega
    have t2 : (0 : Int) ≤ (k : Int) := by omega
    have es : setS ss (k : Int) x = ss.set k ⟨true, x⟩ := by unfold setS; rw [if_pos ht]; simp
    rw [es]
    rw [ht] at C ⊢
    have HP := Lib.hid hP
    clear h es ht hx hP
    go_enter Try.func22, Try.ntmps22
    go_wp2_with fail
    refine C.mono ?_
    rintro e w1 ⟨rfl, rfl⟩
    clear C
    go_wp2
    go_ret
    refine ⟨rfl, ⟨_, _, _, HP.out, hY, fun k hk => by simpa [World.setCell] using hYs k hk, fun k hk => ?_, fun k hk => ?_⟩, Ex.setCell (X := Y) (Ex.refl Y w1) (fun _ => hYr) _⟩
    · rcases hk with hk | hk
      · simpa [World.setCell] using hZs k hk
      · rw [hk]; simpa [World.setCell] using hbl
    · rcases hk with hk | hk
      · exact hZY k hk
      · rw [hk]; exact hbY
  · have ht : isT ss i = false := by simpa using ht
    have es : setS ss i x = ss := by unfold setS; rw [ht]; simp
    rw [es]
    rw [ht] at C ⊢
    have HR := Lib.hid h
    clear h es ht
    go_enter Try.func22, Try.ntmps22
    go_wp2_with fail
    refine C.mono ?_
    rintro e w1 ⟨rfl, rfl⟩
    clear C
    go_wp2
    go_ret
    have h := HR.out
    refine ⟨rfl, ⟨lv, tv, vs, ⟨h.c0, h.c1, h.z, h.row, h.tk, fun i hi hti => ?_, h.nr, h.nt, h.ne, h.sm, h.one⟩, hY, hYs, fun k hk => ?_, fun k hk => ?_⟩, Ex.refl _ _⟩
    · obtain ⟨b', h1, h2, h3⟩ := h.val i hi hti
      exact ⟨b', Or.inl h1, h2, h3⟩
    · rcases hk with hk | hk
      · exact hZs k hk
      · rw [hk]; exact hbl
    · rcases hk with hk | hk
      · exact hZY k hk
      · rw [hk]; exact hbY
end Go.Proofs.Ytmeljhnmpopkhaa
