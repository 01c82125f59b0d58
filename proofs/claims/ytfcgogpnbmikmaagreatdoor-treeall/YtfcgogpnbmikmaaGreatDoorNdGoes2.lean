/-
  TreeAll: the law's goes.
-/
import Derived.Test.YtfcgogpnbmikmaaGreatDoorNdAll1
namespace Go.Proofs.YtfcgogpnbmikmaaGreatDoor
open Go.RowKit Go.WideShapes
namespace Nd
open Lx

theorem new1 (w : World) (v : Value) (T : TypeId) : (w.alloc (.cells #[v] T)).cell? ⟨w.heap.size, 0, none⟩ = some v ∧ (w.alloc (.cells #[v] T)).frozen? ⟨w.heap.size, 0, none⟩ = false ∧ (w.alloc (.cells #[v] T)).heap.size = w.heap.size + 1 ∧ Below w.heap.size w (w.alloc (.cells #[v] T)) := by
  have h := Blk.new w #[v] T
  exact ⟨h.c 0 (by simp), h.z 0, by simp, (Below.refl _ w).alloc (Nat.le_refl _) _⟩
theorem fr_keep {w w' : World} {b : Nat} (h : w.frozen? ⟨b, 0, none⟩ = false) (hb : Below w.heap.size w w') (hl : b < w.heap.size) : w'.frozen? ⟨b, 0, none⟩ = false := (World.frozen?_of_block (a := ⟨b, 0, none⟩) (hb.block b hl)).trans h
set_option maxRecDepth 100000 in
set_option maxHeartbeats 4000000 in
theorem goes_any {W : World} {q lb ab n lc ac : Nat} {stop : Int} {t : Tr} {x y : Nv} {L M : List (Nat × Nv)} {ok ok' : Nat → Prop}
    (hq : At W q 0 y) (hM : Fl W ok' t y 0 M) (hRM : Rd W ok' t y) (hL : Fl W ok t x 0 L) (hRL : Rd W ok t x) (hl : ∀ j p, L[j]? = some p → At W lb (j * 6) p.2 ∧ W.cell? ⟨ab, j, none⟩ = some (.int .i64 (p.1 : Int)))
    (hn : n = L.length) (hn2 : n ≤ 1000) (hwt : wt t ≤ 3000) (hX : ∀ b, (ok b ∨ ok' b ∨ b = lb ∨ b = ab ∨ b = q) → b < W.heap.size) :
    Calls Tryz.prog 21 #[.func (.func 34) #[] #[.pointer (some ⟨q, 0, none⟩)], .slice (some ⟨lb, 0, none⟩) n lc, .slice (some ⟨ab, 0, none⟩) n ac, .int .i64 stop] W fun e w' => e = .returned (.bool true) ∧ Below W.heap.size W w' := by
  have hn1 : 1 ≤ n := by rw [hn]; exact hL.pos
  obtain ⟨A1, hA1⟩ : ∃ V, W.alloc (.cells #[.slice (some ⟨lb, 0, none⟩) n lc] 25) = V := ⟨_, rfl⟩
  obtain ⟨A2, hA2⟩ : ∃ V, A1.alloc (.cells #[.slice (some ⟨ab, 0, none⟩) n ac] 37) = V := ⟨_, rfl⟩
  obtain ⟨A3, hA3⟩ : ∃ V, A2.alloc (.cells #[.int .i64 stop] 3) = V := ⟨_, rfl⟩
  obtain ⟨A4, hA4⟩ : ∃ V, A3.alloc (.cells #[.int .i64 0] 3) = V := ⟨_, rfl⟩
  obtain ⟨A5, hA5⟩ : ∃ V, A4.alloc (.cells #[.bool true] 4) = V := ⟨_, rfl⟩
  obtain ⟨A6, hA6⟩ : ∃ V, A5.alloc (.cells #[.bool false] 4) = V := ⟨_, rfl⟩
  obtain ⟨c1, z1, s1, b1⟩ := new1 W (.slice (some ⟨lb, 0, none⟩) n lc) 25
  obtain ⟨c2, z2, s2, b2⟩ := new1 A1 (.slice (some ⟨ab, 0, none⟩) n ac) 37
  obtain ⟨c3, z3, s3, b3⟩ := new1 A2 (.int .i64 stop) 3
  obtain ⟨c4, z4, s4, b4⟩ := new1 A3 (.int .i64 0) 3
  obtain ⟨c5, z5, s5, b5⟩ := new1 A4 (.bool true) 4
  obtain ⟨c6, z6, s6, b6⟩ := new1 A5 (.bool false) 4
  rw [hA1] at c1 z1 s1 b1
  rw [hA2] at c2 z2 s2 b2
  rw [hA3] at c3 z3 s3 b3
  rw [hA4] at c4 z4 s4 b4
  rw [hA5] at c5 z5 s5 b5
  rw [hA6] at c6 z6 s6 b6
  have k56 := b6
  have k46 : Below A4.heap.size A4 A6 := b5.trans (b6.mono (by omega))
  have k36 : Below A3.heap.size A3 A6 := b4.trans (k46.mono (by omega))
  have k26 : Below A2.heap.size A2 A6 := b3.trans (k36.mono (by omega))
  have k16 : Below A1.heap.size A1 A6 := b2.trans (k26.mono (by omega))
  have k06 : Below W.heap.size W A6 := b1.trans (k16.mono (by omega))
  have hG : Gb A6 W.heap.size (.slice (some ⟨lb, 0, none⟩) n lc) (.slice (some ⟨ab, 0, none⟩) n ac) stop 0 false := by
    have d1 : A1.heap.size = W.heap.size + 1 := s1
    have d2 : A2.heap.size = W.heap.size + 2 := by omega
    have d3 : A3.heap.size = W.heap.size + 3 := by omega
    have d4 : A4.heap.size = W.heap.size + 4 := by omega
    have d5 : A5.heap.size = W.heap.size + 5 := by omega
    rw [d1] at c2
    rw [d2] at c3
    rw [d3] at c4 z4
    rw [d4] at c5 z5
    rw [d5] at c6 z6
    exact ⟨cell_keep c1 k16, cell_keep c2 k26, cell_keep c3 k36, cell_keep c4 k46, cell_keep c5 k56, c6, fr_keep z4 k46 (by omega), fr_keep z5 k56 (by omega), z6⟩
  have C := all1_goes hG (hq.below k06) (hM.same (fun b hb => k06.block b (hX b (Or.inr (Or.inl hb))))) (hRM.same (fun b hb => k06.block b (hX b (Or.inr (Or.inl hb))))) (hL.same (fun b hb => k06.block b (hX b (Or.inl hb)))) (hRL.same (fun b hb => k06.block b (hX b (Or.inl hb)))) (fun j p hp => ⟨(hl j p hp).1.below k06, cell_keep (hl j p hp).2 k06⟩) hn hn2 hwt
    (fun b hb => by have h := hX b hb; exact ⟨by have := k06.size; omega, by unfold GX; omega⟩)
  have HB := Lib.hid k06
  have HD := Lib.hid (show A1.heap.size = W.heap.size + 1 ∧ A2.heap.size = W.heap.size + 2 ∧ A3.heap.size = W.heap.size + 3 ∧ A4.heap.size = W.heap.size + 4 ∧ A5.heap.size = W.heap.size + 5 by omega)
  clear hq hM hRM hL hRL hl hwt hX c1 c2 c3 c4 c5 c6 z1 z2 z3 z4 z5 z6 s1 s2 s3 s4 s5 s6 b1 b2 b3 b4 b5 b6 k06 k16 k26 k36 k46 k56 hG hn
  have HW : Hid ((((((W.alloc (.cells #[.slice (some ⟨lb, 0, none⟩) n lc] 25)).alloc (.cells #[.slice (some ⟨ab, 0, none⟩) n ac] 37)).alloc (.cells #[.int .i64 stop] 3)).alloc (.cells #[.int .i64 0] 3)).alloc (.cells #[.bool true] 4)).alloc (.cells #[.bool false] 4) = A6) := by
    show _ = _
    rw [hA1, hA2, hA3, hA4, hA5, hA6]
  clear hA1 hA2 hA3 hA4 hA5 hA6 HD
  unfold yiV at C
  go_enter Tryz.func21, Tryz.ntmps21
  go_wp2_with fail
  rw [HW.out]
  refine C.mono ?_
  rintro e w1 ⟨rfl, hE, m, ov, hG, hmo⟩
  have q0 := hG.l
  have q2 := hG.s
  have q3 := hG.n
  have q4 := hG.k
  have HE := Lib.hid hE
  clear C HW hE hG
  by_cases hst : (m : Int) = stop
  · have hpos : 0 < stop := by omega
    clear hmo
    go_wp2_with fail
    go_ret
    exact ⟨rfl, HB.out.trans (HE.out.below (fun k hk => by unfold GX at hk; omega) HB.out.size)⟩
  · have hmn : m = n := by
      rcases hmo with h | h
      · exact h.2
      · exact absurd h.2.1 hst
    subst hmn
    clear hmo
    go_wp2_with fail
    go_ret
    exact ⟨rfl, HB.out.trans (HE.out.below (fun k hk => by unfold GX at hk; omega) HB.out.size)⟩
end Nd
end Go.Proofs.YtfcgogpnbmikmaaGreatDoor
