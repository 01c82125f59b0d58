/-
  The nodes of a tree as trees, in their order; what is written while a tree is gone through.
-/
import Derived.Test.YtfcgogpnbmikmaaGreatDoorNdFlR
namespace Go.Proofs.YtfcgogpnbmikmaaGreatDoor
open Go.RowKit Go.WideShapes
namespace Nd
open Lx

/-- Two lists, place by place. -/
inductive A2 {α β : Type} (R : α → β → Prop) : List α → List β → Prop
  | nil : A2 R [] []
  | cons {a : α} {b : β} {l : List α} {m : List β} : R a b → A2 R l m → A2 R (a :: l) (b :: m)
theorem A2.append {α β : Type} {R : α → β → Prop} {l l' : List α} {m m' : List β} (h : A2 R l m) (k : A2 R l' m') : A2 R (l ++ l') (m ++ m') := by
  induction h with
  | nil => exact k
  | cons h1 _ ih => exact .cons h1 ih
theorem A2.cat {α β : Type} {R : α → β → Prop} {Ls : Nat → List α} {Ms : Nat → List β} : ∀ {n : Nat}, (∀ i, i < n → A2 R (Ls i) (Ms i)) → A2 R (cat n Ls) (cat n Ms)
  | 0, _ => .nil
  | n + 1, h => (A2.cat (fun i hi => h i (by omega))).append (h n (by omega))
theorem A2.mono {α β : Type} {R S : α → β → Prop} (e : ∀ a b, R a b → S a b) {l : List α} {m : List β} (h : A2 R l m) : A2 S l m := by
  induction h with
  | nil => exact .nil
  | cons h1 _ ih => exact .cons (e _ _ h1) ih
theorem A2.len {α β : Type} {R : α → β → Prop} {l : List α} {m : List β} (h : A2 R l m) : l.length = m.length := by
  induction h with
  | nil => rfl
  | cons _ _ ih => simp [ih]
theorem A2.get {α β : Type} {R : α → β → Prop} {l : List α} {m : List β} (h : A2 R l m) : ∀ {j : Nat} {p : α}, l[j]? = some p → ∃ q, m[j]? = some q ∧ R p q := by
  induction h with
  | nil => intro j p hp; simp at hp
  | @cons a b l m h1 _ ih =>
    intro j p hp
    cases j with
    | zero =>
      simp at hp
      exact ⟨b, rfl, hp ▸ h1⟩
    | succ j =>
      obtain ⟨q, h2, h3⟩ := ih (j := j) (p := p) (by simpa using hp)
      exact ⟨q, by simpa using h2, h3⟩
/-- The nodes of a tree as trees. -/
def ft : Tr → Nat → List (Nat × Tr)
  | .mk k a s neg mg n kid, d => (d, .mk k a s neg mg n kid) :: cat n (fun i => ft (kid i) (d + 1))
  | .no, _ => []
theorem ft_fl {w : World} {ok : Nat → Prop} : ∀ (t : Tr) (x : Nv) (d : Nat) (L : List (Nat × Nv)), Fl w ok t x d L → Rd w ok t x → A2 (fun p q => p.1 = q.1 ∧ Rd w ok q.2 p.2 ∧ wt q.2 ≤ wt t) L (ft t d) := by
  intro t
  induction t with
  | no => exact fun _ _ _ _ h => h.elim
  | mk k a s neg mg n kid ih =>
    intro x d L hF hR
    cases hF with
    | @mk _ _ _ _ _ _ _ _ _ ka kc b off ys Ls hk hm h3 hAt hFl =>
      have hR' := hR
      obtain ⟨_, _, _, _, _, ka', kc', hk', _, b', off', h8, ys', h9⟩ := hR
      refine .cons ⟨rfl, hR', Nat.le_refl _⟩ (A2.cat (fun i hi => ?_))
      rw [hk] at hk'
      injection hk' with e1 _ _
      have q1 := (h3 (by omega)).1
      have q2 := (h8 (by omega)).1
      rw [e1, q2] at q1
      injection q1 with q1
      injection q1 with q3 q4 _
      subst q3
      subst q4
      have hy := (hAt i hi).inj (h9 i hi).1
      refine (ih i (ys i) (d + 1) (Ls i) (hFl i hi) (hy ▸ (h9 i hi).2)).mono ?_
      rintro p q ⟨g1, g2, g3⟩
      refine ⟨g1, g2, Nat.le_trans g3 ?_⟩
      have := sm_get (fun i => wt (kid i)) hi
      simp only [wt]
      omega
/-- Two ways through one tree. -/
theorem two_fl {w : World} {ok ok' : Nat → Prop} {t : Tr} {x y : Nv} {d : Nat} {L M : List (Nat × Nv)} (hF : Fl w ok t x d L) (hR : Rd w ok t x) (hG : Fl w ok' t y d M) (hS : Rd w ok' t y) :
    L.length = M.length ∧ ∀ (j : Nat) (p q : Nat × Nv), L[j]? = some p → M[j]? = some q → p.1 = q.1 ∧ ∃ t', Rd w ok t' p.2 ∧ Rd w ok' t' q.2 ∧ wt t' ≤ wt t := by
  have h1 := ft_fl t x d L hF hR
  have h2 := ft_fl t y d M hG hS
  refine ⟨h1.len.trans h2.len.symm, fun j p q hp hq => ?_⟩
  obtain ⟨u, hu, a1, a2, a3⟩ := h1.get hp
  obtain ⟨v, hv, b1, b2, b3⟩ := h2.get hq
  have e := Option.some.inj (hu.symm.trans hv)
  subst e
  exact ⟨a1.trans b1.symm, u.2, a2, b2, a3⟩
theorem cat_len {α : Type} {Ls : Nat → List α} {f : Nat → Nat} : ∀ {n : Nat}, (∀ i, i < n → (Ls i).length ≤ f i) → (cat n Ls).length ≤ sm n f
  | 0, _ => Nat.le_refl _
  | n + 1, h => by
    have h1 := cat_len (n := n) (Ls := Ls) (f := f) (fun i hi => h i (by omega))
    have h2 := h n (by omega)
    simp only [cat, sm, List.length_append]
    omega
theorem fl_len {w : World} {ok : Nat → Prop} {t : Tr} {x : Nv} {d : Nat} {L : List (Nat × Nv)} (h : Fl w ok t x d L) : L.length ≤ wt t := by
  induction h with
  | @mk k a s neg mg n kid x d ka kc b off ys Ls _ _ _ _ _ ih =>
    have h1 := cat_len (f := fun i => wt (kid i)) ih
    simp only [List.length_cons, wt]
    omega
/-- All blocks but those of X as they were. -/
structure Ey (X : Nat → Prop) (w w' : World) : Prop where
  os : w'.os = w.os
  tape : w'.tape = w.tape
  output : w'.output = w.output
  size : w.heap.size ≤ w'.heap.size
  block : ∀ k, k < w.heap.size → ¬ X k → w'.heap[k]? = w.heap[k]?
theorem Ey.refl (X : Nat → Prop) (w : World) : Ey X w w := ⟨rfl, rfl, rfl, Nat.le_refl _, fun _ _ _ => rfl⟩
theorem Ey.trans {X : Nat → Prop} {a b c : World} (x : Ey X a b) (y : Ey X b c) : Ey X a c :=
  ⟨y.os.trans x.os, y.tape.trans x.tape, y.output.trans x.output, Nat.le_trans x.size y.size, fun i hi h => (y.block i (Nat.lt_of_lt_of_le hi x.size) h).trans (x.block i hi h)⟩
theorem ey_of {X : Nat → Prop} {B : Nat} {w w' : World} (x : Below B w w') (hB : ∀ k, k < w.heap.size → ¬ X k → k < B) : Ey X w w' := ⟨x.os, x.tape, x.output, x.size, fun k hk h => x.block k (hB k hk h)⟩
theorem Ey.setCell {X : Nat → Prop} {a w : World} (x : Ey X a w) {b i : Nat} (h : X b) (v : Value) : Ey X a (w.setCell ⟨b, i, none⟩ v) :=
  ⟨x.os, x.tape, x.output, Nat.le_trans x.size (by simp), fun k hk hx => (setCell_blk (fun e => hx (by rw [e]; exact h))).trans (x.block k hk hx)⟩
theorem Ey.below {X : Nat → Prop} {B : Nat} {w w' : World} (x : Ey X w w') (h : ∀ k, X k → B ≤ k) (hB : B ≤ w.heap.size) : Below B w w' :=
  ⟨x.os, x.tape, x.output, x.size, fun k hk => x.block k (by omega) (fun hx => by have := h k hx; omega)⟩
end Nd
end Go.Proofs.YtfcgogpnbmikmaaGreatDoor
