/-
  The law's slots and the document's, laid.
-/
import Derived.Test.YtbnmnmbfdfgohaaDoorSwLaw1
namespace Go.Proofs.YtbnmnmbfdfgohaaDoor
open Go.RowKit Go.WideShapes

/-- A list of ints that can be read, in a block of P. -/
def Lp (w : World) (P : Nat → Prop) (a : Option Addr) (n c : Nat) (l : List Int) : Prop := n = l.length ∧ n ≤ c ∧ (∀ x ∈ l, -9223372036854775808 ≤ x ∧ x ≤ 9223372036854775807) ∧ ∃ b off, (0 < n → a = some ⟨b, off, none⟩ ∧ P b) ∧ ∀ j, j < n → w.cell? ⟨b, off + j, none⟩ = some (.int .i64 (l[j]?.getD 0))
theorem Lp.lz {w : World} {P : Nat → Prop} {B : Nat} {a : Option Addr} {n c : Nat} {l : List Int} (h : Lp w P a n c l) (hb : ∀ k, P k → k < B) : Lz w B a n c l := by
  obtain ⟨h1, h2, h3, b, off, h4, h5⟩ := h
  exact ⟨h1, h2, h3, b, off, fun h => ⟨(h4 h).1, hb b (h4 h).2⟩, h5⟩
theorem Lp.keep {w w' : World} {P P' : Nat → Prop} {a : Option Addr} {n c : Nat} {l : List Int} (h : Lp w P a n c l) (e : ∀ k, P k → w'.heap[k]? = w.heap[k]?) (hp : ∀ k, P k → P' k) : Lp w' P' a n c l := by
  obtain ⟨h1, h2, h3, b, off, h4, h5⟩ := h
  exact ⟨h1, h2, h3, b, off, fun h => ⟨(h4 h).1, hp b (h4 h).2⟩, fun j hj => (World.cell?_of_block (a := ⟨b, off + j, none⟩) (e b (h4 (by omega)).2)).trans (h5 j hj)⟩
/-- Slots and the document's slots in memory. -/
structure Ld (w : World) (B g q : Nat) (ss rs : List So) (X Y Z : Nat → Prop) : Prop where
  sl : SlV w g ss X
  rq : RqV w q rs Y B
  ls : ∀ k, (nts ss k).taken = true → Lp w Z (nts ss k).has.a (nts ss k).has.n (nts ss k).has.c (nts ss k).has.l ∧ (nts ss k).has.l.length ≤ 60
  lr : ∀ k, (nts rs k).taken = true → (nts rs k).has.l.length ≤ 60
  z : ∀ k, Z k → k < w.heap.size ∧ ¬ X k ∧ ¬ Y k
  xy : ∀ k, X k → ¬ Y k
  xb : ∀ k, X k → B ≤ k
def LdV (w : World) (B g q : Nat) (ss rs : List So) : Prop := ∃ X Y Z, Ld w B g q ss rs X Y Z
theorem SlV.top {w : World} {g : Nat} {ss : List So} {X : Nat → Prop} (h : SlV w g ss X) : ∀ k, X k → k < w.heap.size := by
  obtain ⟨_, _, _, _, _, _, hx⟩ := h
  exact hx
theorem RqV.top {w : World} {q : Nat} {ss : List So} {Y : Nat → Prop} {B : Nat} (h : RqV w q ss Y B) : (∀ k, Y k → B ≤ k ∧ k < w.heap.size) ∧ B ≤ w.heap.size := by
  obtain ⟨_, _, _, _, _, h1, h2⟩ := h
  exact ⟨h1, h2⟩
theorem Ld.below {w w' : World} {B g q : Nat} {ss rs : List So} {X Y Z : Nat → Prop} (h : Ld w B g q ss rs X Y Z) (hb : Below w.heap.size w w') : Ld w' B g q ss rs X Y Z :=
  ⟨h.sl.keep (Y := fun _ => False) (ex_of hb) (fun _ _ h => h), h.rq.keep (X := fun _ => False) (ex_of hb) (fun _ h => h.elim), fun k hk => ⟨(h.ls k hk).1.keep (fun q hq => hb.block q (h.z q hq).1) (fun _ h => h), (h.ls k hk).2⟩, h.lr, fun k hk => ⟨Nat.lt_of_lt_of_le (h.z k hk).1 hb.size, (h.z k hk).2⟩, h.xy, h.xb⟩
/-- The slots are turned: what is taken then was so before. -/
theorem Ld.slots {w w' : World} {B g q : Nat} {ss ss' rs : List So} {X X' Y Z : Nat → Prop} (h : Ld w B g q ss rs X Y Z) (hs : SlV w' g ss' X') (hx' : ∀ k, X' k → X k ∨ w.heap.size ≤ k) (x : Ex X w w') (ht : ∀ k, (nts ss' k).taken = true → nts ss' k = nts ss k) : Ld w' B g q ss' rs X' Y Z := by
  refine ⟨hs, h.rq.keep x (fun k hk => ⟨h.xy k hk, h.xb k hk⟩), fun k hk => ?_, h.lr, fun k hk => ⟨Nat.lt_of_lt_of_le (h.z k hk).1 x.size, fun hx => ?_, (h.z k hk).2.2⟩, fun k hk hy => ?_, fun k hk => ?_⟩
  · have e := ht k hk
    rw [e] at hk ⊢
    exact ⟨(h.ls k hk).1.keep (fun q hq => x.block q (h.z q hq).1 (h.z q hq).2.1) (fun _ h => h), (h.ls k hk).2⟩
  · rcases hx' k hx with hx | hx
    · exact (h.z k hk).2.1 hx
    · have := (h.z k hk).1; omega
  · rcases hx' k hk with hx | hx
    · exact h.xy k hx hy
    · have := (h.rq.top.1 k hy).2; omega
  · rcases hx' k hk with hx | hx
    · exact h.xb k hx
    · exact Nat.le_trans h.rq.top.2 hx
/-- The document's slots are turned. -/
theorem Ld.refs {w w' : World} {B g q : Nat} {ss rs rs' : List So} {X Y Y' Z : Nat → Prop} (h : Ld w B g q ss rs X Y Z) (hs : RqV w' q rs' Y' B) (hy' : ∀ k, Y' k → Y k ∨ w.heap.size ≤ k) (x : Ex Y w w') (ht : ∀ k, (nts rs' k).taken = true → (nts rs' k).has.l.length ≤ 60) : Ld w' B g q ss rs' X Y' Z := by
  refine ⟨h.sl.keep x (fun k hk hy => h.xy k hk hy), hs, fun k hk => ⟨(h.ls k hk).1.keep (fun q hq => x.block q (h.z q hq).1 (h.z q hq).2.2) (fun _ h => h), (h.ls k hk).2⟩, ht, fun k hk => ⟨Nat.lt_of_lt_of_le (h.z k hk).1 x.size, (h.z k hk).2.1, fun hy => ?_⟩, fun k hk hy => ?_, h.xb⟩
  · rcases hy' k hy with hy | hy
    · exact (h.z k hk).2.2 hy
    · have := (h.z k hk).1; omega
  · rcases hy' k hy with hy | hy
    · exact h.xy k hk hy
    · have := h.sl.top k hk; omega
theorem freeS_kept (ss : List So) (i : Int) (k : Nat) (h : (nts (freeS ss i) k).taken = true) : nts (freeS ss i) k = nts ss k := by
  by_cases e : (k : Int) = i
  · subst e
    unfold freeS at h ⊢
    by_cases ht : isT ss (k : Int) = true
    · rw [if_pos ht] at h
      obtain ⟨q, e, hq, _⟩ := isT_ex ht
      obtain rfl : k = q := by omega
      rw [Int.toNat_natCast, nts_set hq, if_pos rfl] at h
      cases h
    · rw [if_neg ht]
  · exact freeS_other ss i k e
theorem Ld.lss {w : World} {B g q : Nat} {ss rs : List So} {X Y Z : Nat → Prop} (h : Ld w B g q ss rs X Y Z) : Lss w w.heap.size ss := fun k hk => ⟨(h.ls k hk).1.lz (fun k hk => (h.z k hk).1), by have := (h.ls k hk).2; omega⟩
theorem ldfree_any {w : World} {B g q : Nat} {ss rs : List So} (h : LdV w B g q ss rs) (i : Int) : Calls Tryd.prog 26 #[.pointer (some ⟨g, 0, none⟩), .int .i64 i] w fun e w' => e = .returned (.bool (isT ss i)) ∧ LdV w' B g q (freeS ss i) rs ∧ Below B w w' := by
  obtain ⟨X, Y, Z, h⟩ := h
  refine (free_sl h.sl i).mono ?_
  rintro e w' ⟨rfl, h1, h2⟩
  refine ⟨rfl, ⟨_, Y, Z, h.slots h1 (fun k hk => ?_) h2 (freeS_kept ss i)⟩, h2.below h.xb h.rq.top.2⟩
  rcases hk with hk | hk
  · exact Or.inl hk
  · exact Or.inr hk.1
theorem ldrfree_any {w : World} {B g q : Nat} {ss rs : List So} (h : LdV w B g q ss rs) (i : Int) : Calls Tryd.prog 27 #[.pointer (some ⟨q, 0, none⟩), .int .i64 i] w fun e w' => e = .returned (.bool (isT rs i)) ∧ LdV w' B g q ss (freeS rs i) ∧ Below B w w' := by
  obtain ⟨X, Y, Z, h⟩ := h
  refine (rfree_sl h.rq i).mono ?_
  rintro e w' ⟨rfl, h1, h2⟩
  refine ⟨rfl, ⟨X, Y, Z, h.refs h1 (fun k hk => Or.inl hk) h2 (fun k hk => ?_)⟩, h2.below (fun k hk => (h.rq.top.1 k hk).1) h.rq.top.2⟩
  have e := freeS_kept rs i k hk
  rw [e] at hk ⊢
  exact h.lr k hk
/-- What a copied list is. -/
structure Cp (w w' : World) (v : Value) (l : List Int) : Prop where
  ow : IntsR w.heap.size w' v l
  be : Below w.heap.size w w'
theorem Cp.lp {w w' : World} {v : Value} {l : List Int} (h : Cp w w' v l) (hb : ∀ x ∈ l, -9223372036854775808 ≤ x ∧ x ≤ 9223372036854775807) : ∃ x : Sh, v = .slice x.a x.n x.c ∧ x.l = l ∧ x.n = l.length ∧ Lp w' (fun k => w.heap.size ≤ k ∧ k < w'.heap.size) x.a x.n x.c l := by
  obtain ⟨a, cap, g, hv, hc, ho⟩ := h.ow.open
  refine ⟨⟨a, l.length, cap, l⟩, hv, rfl, rfl, rfl, hc, hb, g, 0, fun h0 => ⟨(ho h0).1, (ho h0).2.2.1, (ho h0).2.1⟩, fun j hj => ?_⟩
  have := (ho (by simp only at hj; omega)).2.2.2.c j hj
  rw [Nat.zero_add]
  exact this
/-- A slot more. -/
theorem Ld.more {w w1 w2 : World} {B g q : Nat} {ss rs : List So} {X Y Z : Nat → Prop} {x : Sh} (h : Ld w B g q ss rs X Y Z) (hb : Below w.heap.size w w1) (hl : Lp w1 (fun k => w.heap.size ≤ k ∧ k < w1.heap.size) x.a x.n x.c x.l) (hx : x.l.length ≤ 60) (hs : SlV w2 g (ss ++ [⟨true, x⟩]) (gX X w1 w2)) (he : Ex X w1 w2) :
    ∃ Z', Ld w2 B g q (ss ++ [⟨true, x⟩]) rs (gX X w1 w2) Y Z' := by
  have h1 := h.below hb
  refine ⟨fun k => Z k ∨ (w.heap.size ≤ k ∧ k < w1.heap.size), hs, h1.rq.keep he (fun k hk => ⟨h.xy k hk, h.xb k hk⟩), fun k hk => ?_, h.lr, fun k hk => ⟨?_, fun hx => ?_, fun hy => ?_⟩, fun k hk hy => ?_, fun k hk => ?_⟩
  · by_cases e : k < ss.length
    · rw [nts_app ss _ k e] at hk ⊢
      exact ⟨(h1.ls k hk).1.keep (fun q hq => he.block q (h1.z q hq).1 (h1.z q hq).2.1) (fun _ h => Or.inl h), (h1.ls k hk).2⟩
    · by_cases e2 : k = ss.length
      · subst e2
        rw [nts_new]
        exact ⟨hl.keep (fun q hq => he.block q hq.2 (fun hX => by have := h.sl.top q hX; omega)) (fun _ h => Or.inr h), hx⟩
      · have : nts (ss ++ [⟨true, x⟩]) k = ⟨false, Sh.nil⟩ := by
          unfold nts
          rw [List.getD_eq_getElem?_getD, List.getElem?_eq_none (by simp; omega)]
          rfl
        rw [this] at hk
        cases hk
  · rcases hk with hk | hk
    · exact Nat.lt_of_lt_of_le (h1.z k hk).1 he.size
    · exact Nat.lt_of_lt_of_le hk.2 he.size
  · rcases hx with hx | hx
    · rcases hk with hk | hk
      · exact (h.z k hk).2.1 hx
      · have := h.sl.top k hx; omega
    · rcases hk with hk | hk
      · have := (h1.z k hk).1; omega
      · omega
  · rcases hk with hk | hk
    · exact (h.z k hk).2.2 hy
    · have := (h.rq.top.1 k hy).2; omega
  · rcases hk with hk | hk
    · exact h.xy k hk hy
    · have := (h1.rq.top.1 k hy).2; omega
  · rcases hk with hk | hk
    · exact h.xb k hk
    · have := h1.rq.top.2; omega
end Go.Proofs.YtbnmnmbfdfgohaaDoor
