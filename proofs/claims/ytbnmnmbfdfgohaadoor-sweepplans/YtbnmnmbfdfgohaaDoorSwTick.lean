/-
  Plans: Tick, Count.
-/
import Derived.Test.YtbnmnmbfdfgohaaDoorSwAwake
import Derived.BigRegion
import Derived.RegionTactic
import Derived.Deep.QuietTactic
import Derived.BigQuiet
namespace Go.Proofs.YtbnmnmbfdfgohaaDoor
open Go.RowKit Go.WideShapes

/-- A plan in memory, in blocks of X: what it has counted, what is still to come. -/
structure Pl (w : World) (X : Nat → Prop) (b : Nat) (c : Nat) (P : List Int) : Prop where
  xb : X b
  c0 : w.cell? ⟨b, 0, none⟩ = some (.int .i64 (c : Int))
  z : ∀ j, w.frozen? ⟨b, j, none⟩ = false
  c1 : ∃ a cp, w.cell? ⟨b, 1, none⟩ = some (.slice a P.length cp) ∧ P.length ≤ cp ∧ ∃ g o, (0 < P.length → a = some ⟨g, o, none⟩ ∧ g ≠ b ∧ g < w.heap.size ∧ X g) ∧ ∀ j, j < P.length → w.cell? ⟨g, o + j, none⟩ = some (.int .i64 (P[j]?.getD 0))
theorem Pl.below {w w' : World} {X : Nat → Prop} {b c : Nat} {P : List Int} (h : Pl w X b c P) (e : ∀ k, k < w.heap.size → X k → w'.heap[k]? = w.heap[k]?) (hs : w.heap.size ≤ w'.heap.size) : Pl w' X b c P := by
  have hb := e b (lt_of_cell h.c0) h.xb
  obtain ⟨a, cp, h1, h2, g, o, h3, h4⟩ := h.c1
  refine ⟨h.xb, (World.cell?_of_block (a := ⟨b, 0, none⟩) hb).trans h.c0, fun j => (World.frozen?_of_block (a := ⟨b, j, none⟩) hb).trans (h.z j), a, cp, (World.cell?_of_block (a := ⟨b, 1, none⟩) hb).trans h1, h2, g, o, fun h0 => ⟨(h3 h0).1, (h3 h0).2.1, Nat.lt_of_lt_of_le (h3 h0).2.2.1 hs, (h3 h0).2.2.2⟩, fun j hj => ?_⟩
  obtain ⟨ha, _, hg, hX⟩ := h3 (by omega)
  exact (World.cell?_of_block (a := ⟨g, o + j, none⟩) (e g hg hX)).trans (h4 j hj)
theorem Pl.keep {w w' : World} {X Y : Nat → Prop} {b c : Nat} {P : List Int} (h : Pl w X b c P) (x : Ex Y w w') (d : ∀ k, X k → ¬ Y k) : Pl w' X b c P := h.below (fun k hk hX => x.block k hk (d k hX)) x.size
theorem heap_drewN (w : World) (m : Nat) : (w.drewN m).heap = w.heap := by
  induction m with
  | zero => rfl
  | succ m ih => exact ih
theorem Pl.heap {w w' : World} {X : Nat → Prop} {b c : Nat} {P : List Int} (h : Pl w X b c P) (e : w'.heap = w.heap) : Pl w' X b c P := h.below (fun k _ _ => by rw [e]) (by rw [e]; exact Nat.le_refl _)
theorem ex_drewN {X : Nat → Prop} {w w' : World} (h : Ex X w w') (m : Nat) : Ex X w (w'.drewN m) := by
  induction m with
  | zero => exact h
  | succ m ih => exact ih.drew
theorem tick_nil (w : World) : Calls Tryd.prog 21 #[.pointer none] w fun e w' => e = .returned (.bool false) ∧ w' = w := by
  go_enter Tryd.func21, Tryd.ntmps21
  go_wp2
  go_ret
  exact ⟨rfl, rfl⟩
theorem count_nil (w : World) : Calls Tryd.prog 22 #[.pointer none] w fun e w' => e = .returned (.int .i64 0) ∧ w' = w := by
  go_enter Tryd.func22, Tryd.ntmps22
  go_wp2
  go_ret
  exact ⟨rfl, rfl⟩
theorem count_pl {w : World} {X : Nat → Prop} {b c : Nat} {P : List Int} (h : Pl w X b c P) : Calls Tryd.prog 22 #[.pointer (some ⟨b, 0, none⟩)] w fun e w' => e = .returned (.int .i64 (c : Int)) ∧ w' = w := by
  have c0 := h.c0
  clear h
  go_enter Tryd.func22, Tryd.ntmps22
  go_wp2
  go_ret
  exact ⟨rfl, rfl⟩
set_option maxRecDepth 100000 in
theorem tick_none {w : World} {X : Nat → Prop} {b c : Nat} (h : Pl w X b c []) (hc : c ≤ 1000000) : Calls Tryd.prog 21 #[.pointer (some ⟨b, 0, none⟩)] w fun e w' => e = .returned (.bool false) ∧ Pl w' X b (c + 1) [] ∧ Ex (fun k => k = b) w w' := by
  obtain ⟨a, cp, h1, h2, g, o, h3, h4⟩ := h.c1
  have c0 := h.c0
  have z0 := h.z 0
  have e1 : IntKind.i64.wrap ((c : Int) + 1) = ((c + 1 : Nat) : Int) := by rw [i64_small (by omega) (by omega)]; omega
  have HP : Hid (Pl (w.setCell ⟨b, 0, none⟩ (.int .i64 ((c + 1 : Nat) : Int))) X b (c + 1) []) := by
    refine ⟨h.xb, setCell_hit c0, fun j => by rw [World.frozen?_setCell]; exact h.z j, a, cp, (setCell_ne (by omega)).trans h1, h2, 0, 0, fun h => absurd h (by simp), fun j h => absurd h (by simp)⟩
  have d1 : (w.setCell ⟨b, 0, none⟩ (.int .i64 ((c + 1 : Nat) : Int))).cell? ⟨b, 1, none⟩ = some (.slice a 0 cp) := (setCell_ne (by omega)).trans h1
  have HE : Hid (Ex (fun k => k = b) w (w.setCell ⟨b, 0, none⟩ (.int .i64 ((c + 1 : Nat) : Int)))) := Ex.setCell (X := fun k => k = b) (p := ⟨b, 0, none⟩) (Ex.refl _ w) (fun _ => rfl) _
  clear h h1 h2 h3 h4
  generalize hc1 : c + 1 = c1 at *
  go_enter Tryd.func21, Tryd.ntmps21
  go_wp2_with fail
  obtain ⟨w1, hw1⟩ : ∃ w1, w.setCell ⟨b, 0, none⟩ (.int .i64 (c1 : Int)) = w1 := ⟨_, rfl⟩
  rw [hw1] at HP HE d1 ⊢
  clear hw1
  go_quiet (fail)
  go_wp2
  go_ret
  exact ⟨rfl, HP.out.heap (heap_drewN _ _), ex_drewN HE.out _⟩
set_option maxRecDepth 100000 in
theorem tick_some {w : World} {X : Nat → Prop} {b c : Nat} {x : Int} {P : List Int} (h : Pl w X b c (x :: P)) (hc : c ≤ 1000000) (hl : P.length ≤ 1000000) : Calls Tryd.prog 21 #[.pointer (some ⟨b, 0, none⟩)] w fun e w' => e = .returned (.bool (decide (x = ((c + 1 : Nat) : Int)))) ∧ Pl w' X b (c + 1) (if x = ((c + 1 : Nat) : Int) then P else x :: P) ∧ Ex (fun k => k = b) w w' := by
  obtain ⟨a, cp, h1, h2, g, o, h3, h4⟩ := h.c1
  obtain ⟨rfl, hgb, hgl, hgX⟩ := h3 (by simp)
  have hXb := h.xb
  have hx := h4 0 (by simp)
  simp only [List.getElem?_cons_zero, Option.getD_some, Nat.add_zero] at hx
  have hcells : ∀ j, j < P.length → w.cell? ⟨g, o + 1 + j, none⟩ = some (.int .i64 (P[j]?.getD 0)) := fun j hj => by
    have := h4 (j + 1) (by simp; omega)
    rw [show o + 1 + j = o + (j + 1) by omega, this]
    simp
  rw [List.length_cons] at h1 h2
  have c0 := h.c0
  have z0 := h.z 0
  have z1 := h.z 1
  have hz := h.z
  have e1 : IntKind.i64.wrap ((c : Int) + 1) = ((c + 1 : Nat) : Int) := by rw [i64_small (by omega) (by omega)]; omega
  obtain ⟨w1, hw1⟩ : ∃ w1, w.setCell ⟨b, 0, none⟩ (.int .i64 ((c + 1 : Nat) : Int)) = w1 := ⟨_, rfl⟩
  have d0 : w1.cell? ⟨b, 0, none⟩ = some (.int .i64 ((c + 1 : Nat) : Int)) := by rw [← hw1]; exact setCell_hit c0
  have d1 : w1.cell? ⟨b, 1, none⟩ = some (.slice (some ⟨g, o, none⟩) (P.length + 1) cp) := by rw [← hw1]; exact (setCell_ne (by omega)).trans h1
  have dx : w1.cell? ⟨g, o, none⟩ = some (.int .i64 x) := by rw [← hw1]; exact (World.cell?_of_block (a := ⟨g, o, none⟩) (setCell_blk hgb)).trans hx
  have f1 : w1.frozen? ⟨b, 1, none⟩ = false := by rw [← hw1, World.frozen?_setCell]; exact z1
  have HE : Hid (Ex (fun k => k = b) w w1) := by
    show Ex _ _ _
    rw [← hw1]
    exact Ex.setCell (X := fun k => k = b) (p := ⟨b, 0, none⟩) (Ex.refl _ w) (fun _ => rfl) _
  have HP1 : Hid (Pl w1 X b (c + 1) (x :: P)) := by
    refine ⟨hXb, d0, fun j => by rw [← hw1, World.frozen?_setCell]; exact hz j, some ⟨g, o, none⟩, cp, d1, by rw [List.length_cons]; exact h2, g, o, fun _ => ⟨rfl, hgb, by rw [← hw1]; simpa [World.setCell] using hgl, hgX⟩, fun j hj => ?_⟩
    rw [← hw1]
    exact (World.cell?_of_block (a := ⟨g, o + j, none⟩) (setCell_blk hgb)).trans (h4 j hj)
  have HP2 : Hid (∀ V : World, V.heap = w1.heap → Pl (V.setCell ⟨b, 1, none⟩ (.slice (some ⟨g, o + 1, none⟩) P.length (cp - 1))) X b (c + 1) P) := fun V hV => by
    have hc : ∀ a : Addr, V.cell? a = w1.cell? a := fun a => World.cell?_of_block (a := a) (by rw [hV])
    have hf : ∀ a : Addr, V.frozen? a = w1.frozen? a := fun a => World.frozen?_of_block (a := a) (by rw [hV])
    refine ⟨hXb, (setCell_ne (by omega)).trans ((hc _).trans d0), fun j => by rw [World.frozen?_setCell, hf, ← hw1, World.frozen?_setCell]; exact hz j, some ⟨g, o + 1, none⟩, cp - 1, setCell_hit ((hc _).trans d1), by omega, g, o + 1, fun _ => ⟨rfl, hgb, ?_, hgX⟩, fun j hj => ?_⟩
    · have : w1.heap.size = w.heap.size := by rw [← hw1]; simp [World.setCell]
      simp only [World.setCell, Array.size_modify, hV, this]
      first | exact hgl | (simpa [World.setCell, hV, this] using hgl)
    · refine (World.cell?_of_block (a := ⟨g, o + 1 + j, none⟩) (setCell_blk hgb)).trans ((hc _).trans ?_)
      rw [← hw1]
      exact (World.cell?_of_block (a := ⟨g, o + 1 + j, none⟩) (setCell_blk hgb)).trans (hcells j hj)
  have HP3 : Hid (∀ V : World, V.heap = w1.heap → P.length = 0 → Pl (V.setCell ⟨b, 1, none⟩ (.slice (some ⟨g, o, none⟩) P.length 0)) X b (c + 1) P) := fun V hV h0 => by
    have hc : ∀ a : Addr, V.cell? a = w1.cell? a := fun a => World.cell?_of_block (a := a) (by rw [hV])
    have hf : ∀ a : Addr, V.frozen? a = w1.frozen? a := fun a => World.frozen?_of_block (a := a) (by rw [hV])
    exact ⟨hXb, (setCell_ne (by omega)).trans ((hc _).trans d0), fun j => by rw [World.frozen?_setCell, hf, ← hw1, World.frozen?_setCell]; exact hz j, some ⟨g, o, none⟩, 0, setCell_hit ((hc _).trans d1), by omega, 0, 0, fun h => absurd h (by omega), fun j h => absurd h (by omega)⟩
  have HW1 := Lib.hid hw1
  have t0 : (((P.length + 1 : Nat) : Int) == 0) = false := by simp; omega
  have t1 : (0 : Int) < ((P.length + 1 : Nat) : Int) := by omega
  have t2 : (1 : Int) ≤ ((P.length + 1 : Nat) : Int) := by omega
  have t3 : ((P.length + 1 : Nat) : Int) ≤ (cp : Int) := by omega
  clear h h1 h3 h4 hx hcells hz hw1
  generalize hn : P.length = n at *
  by_cases hxc : x = ((c + 1 : Nat) : Int)
  · rw [if_pos hxc, decide_eq_true hxc]
    have tx : (x != ((c + 1 : Nat) : Int)) = false := by simp [hxc]
    clear hxc
    generalize hc1 : c + 1 = c1 at *
    generalize hn1 : n + 1 = n1 at *
    go_enter Tryd.func21, Tryd.ntmps21
    go_wp2_with fail
    rw [HW1.out]
    go_quiet (fail)
    obtain ⟨V, hV⟩ : ∃ V, w1.drewN nq = V := ⟨_, rfl⟩
    have hVh : V.heap = w1.heap := by rw [← hV]; exact heap_drewN _ _
    have v1 : V.cell? ⟨b, 1, none⟩ = some (.slice (some ⟨g, o, none⟩) n1 cp) := (World.cell?_of_block (a := ⟨b, 1, none⟩) (by rw [hVh])).trans d1
    have vz : V.frozen? ⟨b, 1, none⟩ = false := (World.frozen?_of_block (a := ⟨b, 1, none⟩) (by rw [hVh])).trans f1
    have HPV := Lib.hid (HP2.out V hVh)
    have HPV3 := Lib.hid (HP3.out V hVh)
    have HEV : Hid (Ex (fun k => k = b) w V) := by
      show Ex _ _ _
      rw [← hV]
      exact ex_drewN HE.out _
    rw [hV]
    clear hVh hV d1 f1 HP2 HP3 HE HP1 HW1 d0 dx
    by_cases hcp : cp - 1 = 0
    · have h3 := HPV3.out (by omega)
      rw [show n = n1 - 1 by omega] at h3
      have H3 := Lib.hid h3
      clear h3
      go_wp2
      go_ret
      exact ⟨rfl, H3.out, HEV.out.setCell (p := ⟨b, 1, none⟩) (fun _ => rfl) _⟩
    · have h3 := HPV.out
      rw [show n = n1 - 1 by omega] at h3
      have H3 := Lib.hid h3
      clear h3
      go_wp2
      go_ret
      exact ⟨rfl, H3.out, HEV.out.setCell (p := ⟨b, 1, none⟩) (fun _ => rfl) _⟩
  · rw [if_neg hxc, decide_eq_false hxc]
    have tx : (x != ((c + 1 : Nat) : Int)) = true := by rw [bne_iff_ne]; exact hxc
    clear hxc
    generalize hc1 : c + 1 = c1 at *
    generalize hn1 : n + 1 = n1 at *
    go_enter Tryd.func21, Tryd.ntmps21
    go_wp2_with fail
    rw [HW1.out]
    go_quiet (fail)
    go_wp2
    go_ret
    exact ⟨rfl, HP1.out.heap (heap_drewN _ _), ex_drewN HE.out _⟩
end Go.Proofs.YtbnmnmbfdfgohaaDoor
