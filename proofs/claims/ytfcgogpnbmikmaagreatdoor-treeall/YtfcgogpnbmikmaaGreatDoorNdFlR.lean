/-
  The nodes of a tree are trees that can be read.
-/
import Derived.Test.YtfcgogpnbmikmaaGreatDoorNdAll
namespace Go.Proofs.YtfcgogpnbmikmaaGreatDoor
open Go.RowKit Go.WideShapes
namespace Nd
open Lx

theorem At.inj {w : World} {b o : Nat} {x y : Nv} (h : At w b o x) (k : At w b o y) : x = y := by
  have e0 := h.c0.symm.trans k.c0
  have e1 := h.c1.symm.trans k.c1
  have e2 := h.c2.symm.trans k.c2
  have e3 := h.c3.symm.trans k.c3
  have e4 := h.c4.symm.trans k.c4
  have e5 := h.c5.symm.trans k.c5
  obtain ⟨x0, x1, x2, x3, x4, x5⟩ := x
  obtain ⟨y0, y1, y2, y3, y4, y5⟩ := y
  simp at e0 e1 e2 e3 e4 e5
  subst e0 e1 e2 e3 e4 e5
  rfl
theorem mem_cat {α : Type} {Ls : Nat → List α} {p : α} : ∀ {n : Nat}, p ∈ cat n Ls → ∃ i, i < n ∧ p ∈ Ls i
  | 0, h => by simp [cat] at h
  | n + 1, h => by
    rcases List.mem_append.1 h with h | h
    · obtain ⟨i, hi, hp⟩ := mem_cat h
      exact ⟨i, by omega, hp⟩
    · exact ⟨n, by omega, h⟩
theorem fl_rd {w : World} {ok : Nat → Prop} : ∀ (t : Tr) (x : Nv) (d : Nat) (L : List (Nat × Nv)), Fl w ok t x d L → Rd w ok t x → ∀ p ∈ L, ∃ t', Rd w ok t' p.2 ∧ wt t' ≤ wt t := by
  intro t
  induction t with
  | no => exact fun _ _ _ _ h => h.elim
  | mk k a s neg mg n kid ih =>
    intro x d L hF hR p hp
    cases hF with
    | @mk _ _ _ _ _ _ _ _ _ ka kc b off ys Ls hk hm h3 hAt hFl =>
      rcases List.mem_cons.1 hp with rfl | hp
      · exact ⟨_, hR, Nat.le_refl _⟩
      · obtain ⟨i, hi, hpi⟩ := mem_cat hp
        obtain ⟨_, _, _, _, _, ka', kc', hk', _, b', off', h8, ys', h9⟩ := hR
        rw [hk] at hk'
        injection hk' with e1 _ _
        have q1 := (h3 (by omega)).1
        have q2 := (h8 (by omega)).1
        rw [e1, q2] at q1
        injection q1 with q1
        injection q1 with q3 q4 _
        subst q3
        subst q4
        have hy := (hAt i hi).inj (h9 i hi).1
        obtain ⟨t', h1, h2⟩ := ih i (ys i) (d + 1) (Ls i) (hFl i hi) (hy ▸ (h9 i hi).2) p hpi
        refine ⟨t', h1, Nat.le_trans h2 ?_⟩
        have := sm_get (fun i => wt (kid i)) hi
        simp only [wt]
        omega
end Nd
end Go.Proofs.YtfcgogpnbmikmaaGreatDoor
