/-
  All of slots.
-/
import Derived.Test.YtmeljhnmpopkhaaSlGoes2
namespace Go.Proofs.Ytmeljhnmpopkhaa
open Go.RowKit Go.WideShapes

theorem eq_nil_some (w : World) (r n c : Nat) : (binOp .eql 26 (.slice (some ⟨r, 0, none⟩) n c) (.slice none 0 0)).run Try.prog w = .ok (.bool false) w := by kernel_rfl
theorem eq_nil_none (w : World) : (binOp .eql 26 (.slice none 0 0) (.slice none 0 0)).run Try.prog w = .ok (.bool true) w := by kernel_rfl
theorem clone_none (w : World) : Calls Try.prog 24 #[.slice none 0 0] w fun e w' => e = .returned (.slice none 0 0) ∧ w' = w := by
  have hnn := eq_nil_none
  have hns := eq_nil_some
  go_enter Try.func24, Try.ntmps24
  go_wp2
  go_ret
  exact ⟨rfl, rfl⟩
set_option maxRecDepth 100000 in
theorem clone_some {w : World} {r n cap : Nat} {ss : List So} (h : Sr2 w (.slice (some ⟨r, 0, none⟩) n cap) ss) (hs : ss.length ≤ 100000) : Calls Try.prog 24 #[.slice (some ⟨r, 0, none⟩) n cap] w fun e w' => ∃ v, e = .returned v ∧ w'.ownsRow w.heap.size 60 2 v ss.length (sol ss) ∧ Below w.heap.size w w' := by
  obtain ⟨i0, hi, hz0, hz1, hz2⟩ := info_parts Try.infoSo
  obtain rfl := h.len
  have hrl : r < w.heap.size := (World.ownsRow.lt h r rfl).2
  have HC : Hid (∀ t j u, (sol ss)[j]? = some u → (w.alloc (.cells #[] t)).cell? (Addr.add ⟨r, 0, none⟩ j) = some u) := fun t j u hu => by
    have h0 : w.ownsRow 0 60 2 (.slice (some ⟨r, 0, none⟩) ss.length cap) ss.length (sol ss) := h
    rw [WideShapes.add_plain, Nat.zero_add, World.cell?_of_block (Below.heap_alloc _ _ _ hrl)]
    have hj := (List.getElem?_eq_some_iff.1 hu).1
    rw [sol_len] at hj
    rw [h0.cellAt j hj]
    exact hu
  have hsl : (sol ss).length = ss.length * 2 := sol_len ss
  have ho := sol_one ss
  have HL := Lib.hid hsl
  have HO := Lib.hid ho
  clear h hsl ho
  have hnn := eq_nil_none
  have hns := eq_nil_some
  go_enter Try.func24, Try.ntmps24
  go_wp2_with (at_builtin; refine wpListS_append_own rfl _ _ 26 rfl w.heap.size 60 i0 (.agg #[.bool false, .int .i64 0]) 2 16 Try.underlying26 hi hz0 hz1 hz2 rfl (by decide) _ _ [] rfl (World.ownsRow_lit w #[] 0 (Nat.le_refl _) (by decide) rfl) ⟨r, 0, none⟩ ss.length cap (sol ss) rfl HL.out (HC.out _) HO.out (by unfold maxLen; omega) (by omega) (by simp) ?_)
  intro v' w5 hown2 hgrow hat
  have hB : Below w.heap.size w w5 := by
    have hsz : (w.alloc (.cells #[] 60)).heap.size = w.heap.size + 1 := by simp
    refine ⟨hgrow.os, hgrow.tape, hgrow.output, by have := hgrow.size; omega, fun k hk => (hgrow.block k (by omega) (fun e => ?_)).trans (Below.heap_alloc _ _ _ hk)⟩
    injection e with e
    simp at e
    omega
  have HB := Lib.hid hB
  have HW := Lib.hid hown2
  clear hown2 hgrow hat hB
  go_wp2
  go_ret
  exact ⟨_, rfl, by simpa using HW.out, HB.out⟩
set_option maxRecDepth 100000 in
theorem all_any {w : World} {g : Nat} {ss : List So} {X : Nat → Prop} (h : SlV w g ss X) : Calls Try.prog 13 #[.pointer (some ⟨g, 0, none⟩)] w fun e w' => e = .returned (itV w.heap.size) ∧ (∃ rv, w'.cell? ⟨w.heap.size, 0, none⟩ = some rv ∧ Rd2 w' rv ss ∧ ∀ k, rv.ownBlock = some k → w.heap.size ≤ k) ∧ Below w.heap.size w w' := by
  obtain ⟨rv, fv, n, f, h, hx, hX⟩ := h
  have hbA : Below w.heap.size w (w.alloc (.cells #[.slice none 0 0] 26)) := (Below.refl _ w).alloc (Nat.le_refl _) _
  have hA := h.same (fun k hk => hbA.block k (hX k (hx k hk)))
  have c0 := hA.c0
  have cn : (w.alloc (.cells #[.slice none 0 0] 26)).cell? ⟨w.heap.size, 0, none⟩ = some (.slice none 0 0) := by rw [World.cell?_alloc_at _ _ _ _ rfl]; rfl
  have zn : (w.alloc (.cells #[.slice none 0 0] 26)).frozen? ⟨w.heap.size, 0, none⟩ = false := World.frozen?_alloc_at _ _ _ _ rfl
  have hsz : (w.alloc (.cells #[.slice none 0 0] 26)).heap.size = w.heap.size + 1 := by simp
  have C : Calls Try.prog 24 #[rv] (w.alloc (.cells #[.slice none 0 0] 26)) fun e w' => ∃ v, e = .returned v ∧ w'.ownsRow (w.heap.size + 1) 60 2 v ss.length (sol ss) ∧ Below (w.heap.size + 1) (w.alloc (.cells #[.slice none 0 0] 26)) w' := by
    rcases hA.row.2 with ⟨rfl, hl⟩ | ⟨r, cap, cur, rfl, _⟩
    · refine (clone_none _).mono ?_
      rintro e w' ⟨rfl, rfl⟩
      exact ⟨_, rfl, ⟨hA.row.1, Or.inl ⟨rfl, hl⟩⟩, Below.refl _ _⟩
    · have := clone_some hA.row hA.sm
      rw [hsz] at this
      exact this
  have HBA := Lib.hid hbA
  clear h hA hx hX hbA
  go_enter Try.func13, Try.ntmps13
  go_wp2_with fail
  refine C.mono ?_
  rintro e w1 ⟨v, rfl, hv, hb⟩
  clear C
  obtain ⟨va, vc, rfl⟩ := ownsS_shape hv
  have c1 : w1.cell? ⟨w.heap.size, 0, none⟩ = some (.slice none 0 0) := (World.cell?_of_block (a := ⟨w.heap.size, 0, none⟩) (hb.block w.heap.size (by omega))).trans cn
  have z1 : w1.frozen? ⟨w.heap.size, 0, none⟩ = false := (World.frozen?_of_block (a := ⟨w.heap.size, 0, none⟩) (hb.block w.heap.size (by omega))).trans zn
  have HV := Lib.hid hv
  have HB := Lib.hid hb
  clear hv hb cn zn
  go_wp2
  go_ret
  have hne : ∀ k, (Value.slice va ss.length vc).ownBlock = some k → k ≠ w.heap.size := fun k hk => by have := (World.ownsRow.lt HV.out k hk).1; omega
  have hb1 : Below w.heap.size w w1 := HBA.out.trans (HB.out.mono (by omega))
  refine ⟨rfl, ⟨.slice va ss.length vc, setCell_hit c1, ⟨_, ownsS_same HV.out (fun k hk => setCell_blk (hne k hk))⟩, fun k hk => by have := (World.ownsRow.lt HV.out k hk).1; omega⟩, ?_⟩
  exact hb1.trans ((Ex.setCell (X := fun k => k = w.heap.size) (p := ⟨w.heap.size, 0, none⟩) (Ex.refl _ w1) (fun _ => rfl) _).below (fun k hk => by omega) hb1.size)
end Go.Proofs.Ytmeljhnmpopkhaa
