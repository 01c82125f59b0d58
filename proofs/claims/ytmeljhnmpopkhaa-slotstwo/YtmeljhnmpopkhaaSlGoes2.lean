/-
  goes: its walk.
-/
import Derived.Test.YtmeljhnmpopkhaaSlGoes
namespace Go.Proofs.Ytmeljhnmpopkhaa
open Go.RowKit Go.WideShapes

set_option maxRecDepth 100000 in
theorem goes_any {w : World} {q t : Nat} {stop : Int} {rv : Value} {ss : List So} {Y Z : Nat → Prop} (ht : w.cell? ⟨t, 0, none⟩ = some rv) (hr : Rd2 w rv ss) (hq : RqV w q ss Y Z) :
    Calls Try.prog 14 #[itV t, .pointer (some ⟨q, 0, none⟩), .int .i64 stop] w fun e w' => e = .returned (.bool true) ∧ Below w.heap.size w w' := by
  obtain ⟨lv, tv, vs, hq, hY, hYs, hZs, hZY⟩ := hq
  obtain ⟨w0, hw0⟩ : ∃ y, (w.alloc (.cells #[.pointer (some ⟨q, 0, none⟩)] 31)).alloc (.cells #[.int .i64 stop] 3) = y := ⟨_, rfl⟩
  have hb0 : Below w.heap.size w w0 := by rw [← hw0]; exact ((Below.refl _ w).alloc (Nat.le_refl _) _).alloc (by simp) _
  have hs0 : w0.heap.size = w.heap.size + 2 := by rw [← hw0]; simp
  have hA0 : w0.cell? ⟨w.heap.size, 0, none⟩ = some (.pointer (some ⟨q, 0, none⟩)) := by
    rw [← hw0, World.cell?_of_block (Below.heap_alloc _ _ _ (by simp)), World.cell?_alloc_at _ _ _ _ rfl]
    rfl
  have hA1 : w0.cell? ⟨w.heap.size + 1, 0, none⟩ = some (.int .i64 stop) := by
    rw [← hw0, World.cell?_alloc_at _ _ _ _ (by simp)]
    rfl
  have hq0 : Rq w0 q ss lv tv vs Z := hq.same (fun k hk => hb0.block k (by rcases hk with hk | hk; exact hYs k (hY k hk); exact hZs k hk))
  have CR := rall_any hq0
  have htl := lt_of_cell ht
  have HQ := Lib.hid hq0
  have HT := Lib.hid ht
  have HRD := Lib.hid hr
  have HY := Lib.hid hY
  have HYs := Lib.hid hYs
  have HZs := Lib.hid hZs
  have HB0 := Lib.hid hb0
  clear hq ht hr hY hYs hZs hZY hq0 hb0
  go_enter Try.func14, Try.ntmps14
  unfold itV
  go_upto_region 1 with fail
  go_wp2_with fail
  refine CR.mono ?_
  rintro e w1 ⟨lval, rfl, hL, hb1⟩
  clear CR hw0
  obtain ⟨la, lc, rfl⟩ := ownsS_shape hL
  have hsz1 := hb1.size
  have hw := (hb1.cell (lt_of_cell hA0)).trans hA0
  have hs := (hb1.cell (lt_of_cell hA1)).trans hA1
  obtain ⟨w2, hw2⟩ : ∃ y, (((w1.alloc (.cells #[.slice la (ixp ss ss.length).length lc] 27)).alloc (.cells #[.int .i64 0] 3)).alloc (.cells #[.bool true] 4)).alloc (.cells #[.bool false] 4) = y := ⟨_, rfl⟩
  have hG : Gs w2 w.heap.size w1.heap.size q stop (.slice la (ixp ss ss.length).length lc) 0 false := by rw [← hw2]; exact gs_new hw hs
  have hB : Below w1.heap.size w1 w2 := by rw [← hw2]; exact ((((Below.refl _ w1).alloc (Nat.le_refl _) _).alloc (by simp) _).alloc (by simp; omega) _).alloc (by simp; omega) _
  have hbA : Below w.heap.size w w2 := (HB0.out.trans (hb1.mono (by omega))).trans (hB.mono (by omega))
  have hq2 : Rq w2 q ss lv tv vs Z := HQ.out.same (fun k hk => by
    have hk0 : k < w.heap.size := by
      rcases hk with hk | hk
      · exact HYs.out k (HY.out k hk)
      · exact HZs.out k hk
    rw [hbA.block k hk0, HB0.out.block k hk0])
  have ht2 : w2.cell? ⟨t, 0, none⟩ = some rv := (hbA.cell htl).trans HT.out
  have hr2 : Rd2 w2 rv ss := HRD.out.keep (fun k _ hk => hbA.block k hk)
  have hl2 : IntsR 0 w2 (.slice la (ixp ss ss.length).length lc) (ixp ss ss.length) := ownsS_same (IntsR.base hL) (fun k hk => hB.block k (World.ownsRow.lt hL k hk).2)
  have hz2 : w.heap.size ≤ w2.heap.size := hbA.size
  have C1 := all1_goes hG (by omega) ht2 hr2 hq2 hl2 (fun k hk => by
    have hk1 : w1.heap.size < k := by rcases hk with e | e | e <;> omega
    refine ⟨by omega, fun e => ?_, fun e => ?_, fun e => ?_, fun e => ?_⟩
    · obtain ⟨B, hB⟩ := HRD.out
      have := (World.ownsRow.lt hB k e).2
      omega
    · have := HYs.out k (HY.out k e)
      omega
    · have := HZs.out k e
      omega
    · have := (World.ownsRow.lt hL k e).2
      omega) (fun k hk => by have := HZs.out k hk; omega)
  unfold yiV at C1
  have HBA := Lib.hid hbA
  have hw1l : w.heap.size + 2 ≤ w1.heap.size := by omega
  have HW2 := Lib.hid hw2
  clear hG hB hL hw hs hb1 hA0 hA1 hq2 ht2 hr2 hl2 hbA hw2
  go_upto_region 5 with fail
  rw [HW2.out]
  go_wp2_with fail
  refine C1.mono ?_
  rintro e w3 ⟨rfl, hE3, m, over, hG3, hor⟩
  clear C1 HW2
  have HE3 : Hid (Below w.heap.size w w3) := HBA.out.trans (hE3.below (fun k hk => by rcases hk with e | e | e <;> omega) hz2)
  have k1 := hG3.cs
  have k2 := hG3.cl
  have k3 := hG3.cn
  have k4 := hG3.ck
  clear hE3 hG3
  rcases hor with ⟨rfl, rfl⟩ | ⟨rfl, hst, hm⟩
  · by_cases hst : (((ixp ss ss.length).length : Int) = stop) ∧ 0 < stop
    · obtain ⟨e1, e2⟩ := hst
      have e3 : ((((ixp ss ss.length).length : Nat) : Int) == stop) = true := by simp [e1]
      generalize (ixp ss ss.length).length = n at *
      go_wp2
      go_ret
      exact ⟨rfl, HE3.out⟩
    · generalize (ixp ss ss.length).length = n at *
      by_cases e1 : (n : Int) = stop
      · have e2 : (0 < stop) = False := by simp; omega
        have e3 : ((n : Int) == stop) = true := by simp [e1]
        go_wp2
        go_ret
        exact ⟨by first | rfl | simp, HE3.out⟩
      · have e3 : ((n : Int) == stop) = false := by simp [e1]
        have e4 : ((n : Int) = stop) = False := by simp [e1]
        go_wp2
        go_ret
        exact ⟨by first | rfl | simp, HE3.out⟩
  · generalize (ixp ss ss.length).length = n at *
    have e2 : 0 < stop := by omega
    have e3 : ((m : Int) == stop) = true := by simp [hst]
    go_wp2
    go_ret
    exact ⟨by first | rfl | simp, HE3.out⟩
end Go.Proofs.Ytmeljhnmpopkhaa
