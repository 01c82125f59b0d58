/-
  Decimal digits, the lowest first, as bytes. No program, no world.
-/
import Derived.Test.YteplmnnpmekngabRev
import Derived.Laws.BytesArg
namespace Go.Proofs.Yteplmnnpmekngab
open Go.RowKit

def dval : List Nat → Nat
  | [] => 0
  | d :: ds => (d - 48) + 10 * dval ds
def okd (ts : List Nat) : Prop := ∀ d ∈ ts, 48 ≤ d ∧ d ≤ 57
theorem okd_nil : okd [] := fun _ h => by cases h
theorem okd_cons {x : Nat} {xs : List Nat} : okd (x :: xs) ↔ (48 ≤ x ∧ x ≤ 57) ∧ okd xs := by simp [okd]
theorem okd_append {xs ys : List Nat} : okd (xs ++ ys) ↔ okd xs ∧ okd ys := by
  simp only [okd, List.mem_append]
  exact ⟨fun h => ⟨fun x hx => h x (Or.inl hx), fun x hx => h x (Or.inr hx)⟩, fun h x hx => hx.elim (h.1 x) (h.2 x)⟩
theorem okd_take {xs : List Nat} (h : okd xs) (k : Nat) : okd (xs.take k) := fun x hx => h x (List.mem_of_mem_take hx)
theorem dval_append (xs ys : List Nat) : dval (xs ++ ys) = dval xs + 10 ^ xs.length * dval ys := by
  induction xs with
  | nil => simp [dval]
  | cons x xs ih => simp only [List.cons_append, dval, List.length_cons]; rw [ih, Nat.mul_add, Nat.pow_succ, Nat.mul_comm (10 ^ xs.length) 10, Nat.mul_assoc]; omega
theorem okd_dg9 (j p : Nat) : okd (dg9 j p) := by
  induction j generalizing p with
  | zero => exact okd_nil
  | succ j ih => exact okd_cons.2 ⟨by omega, ih _⟩
theorem dval_dg9 (j p : Nat) : dval (dg9 j p) = p % 10 ^ j := by
  induction j generalizing p with
  | zero => simp [dg9, dval, Nat.mod_one]
  | succ j ih =>
    simp only [dg9, dval]
    rw [ih, Nat.pow_succ, Nat.mul_comm (10 ^ j) 10, Nat.mod_mul]
    omega
theorem okd_dgs (ps : List Nat) : okd (dgs ps) := by
  induction ps with
  | nil => exact okd_nil
  | cons p ps ih => simp only [dgs, List.flatMap_cons]; exact okd_append.2 ⟨okd_dg9 _ _, ih⟩
/-- The value of pieces below 10^9, the lowest first. -/
def pval : List Nat → Nat
  | [] => 0
  | p :: ps => p + 1000000000 * pval ps
theorem pval_snoc (ps : List Nat) (p : Nat) : pval (ps ++ [p]) = pval ps + 1000000000 ^ ps.length * p := by
  induction ps with
  | nil => simp [pval]
  | cons q ps ih => simp only [List.cons_append, pval, List.length_cons]; rw [ih, Nat.mul_add, Nat.pow_succ, Nat.mul_comm (1000000000 ^ ps.length) 1000000000, Nat.mul_assoc]; omega
theorem dval_dgs (ps : List Nat) (h : ∀ p ∈ ps, p < 1000000000) : dval (dgs ps) = pval ps := by
  induction ps with
  | nil => rfl
  | cons p ps ih =>
    have e : dgs (p :: ps) = dg9 9 p ++ dgs ps := by simp [dgs]
    rw [e, dval_append, dval_dg9, dg9_length, ih (fun q hq => h q (List.mem_cons_of_mem _ hq))]
    have := h p (List.mem_cons_self ..)
    rw [Nat.mod_eq_of_lt (by simpa using this)]
    simp [pval]
theorem pow9 (k : Nat) : (1000000000 : Nat) ^ k = 10 ^ (9 * k) := by
  rw [Nat.pow_mul]
/-- The digits of a number, without noughts at the end: one and only one. -/
def IsDec (ts : List Nat) (n : Nat) : Prop := okd ts ∧ dval ts = n ∧ (ts.length = 0 ∨ ts[ts.length - 1]?.getD 0 ≠ 48)
theorem dval_top {ts : List Nat} (h : okd ts) (h0 : ts.length = 0 ∨ ts[ts.length - 1]?.getD 0 ≠ 48) (hn : ts ≠ []) : 0 < dval ts := by
  obtain ⟨k, hk⟩ : ∃ k, ts.length = k + 1 := ⟨ts.length - 1, by have := List.length_pos_iff.2 hn; omega⟩
  have hlt : k < ts.length := by omega
  have e : ts = ts.take k ++ [ts[k]?.getD 0] := by
    have := take_succ_get ts k hlt
    rwa [← hk, List.take_length] at this
  rw [e, dval_append]
  rcases h0 with h0 | h0
  · omega
  · rw [hk] at h0
    simp only [Nat.add_sub_cancel] at h0
    have hr : 48 ≤ ts[k]?.getD 0 := by rw [List.getElem?_eq_getElem hlt]; exact (h _ (List.getElem_mem hlt)).1
    have hp : 0 < 10 ^ (ts.take k).length := Nat.pow_pos (by omega)
    have : 0 < 10 ^ (ts.take k).length * dval [ts[k]?.getD 0] := Nat.mul_pos hp (by simp [dval]; omega)
    omega
theorem IsDec.unique {ts us : List Nat} {n : Nat} (h : IsDec ts n) (k : IsDec us n) : ts = us := by
  induction ts generalizing us n with
  | nil =>
    obtain ⟨_, h2, _⟩ := h
    simp only [dval] at h2
    refine Decidable.byContradiction fun hne => ?_
    have := dval_top k.1 k.2.2 (fun e => hne e.symm)
    rw [k.2.1] at this
    omega
  | cons t ts ih =>
    cases us with
    | nil =>
      have := dval_top h.1 h.2.2 (by simp)
      rw [h.2.1, ← k.2.1] at this
      simp [dval] at this
    | cons u us =>
      have h1 := h.2.1
      have k1 := k.2.1
      simp only [dval] at h1 k1
      have ht := (okd_cons.1 h.1).1
      have hu := (okd_cons.1 k.1).1
      obtain rfl : t = u := by omega
      have last : ∀ {x : Nat} {xs : List Nat}, ((x :: xs).length = 0 ∨ (x :: xs)[(x :: xs).length - 1]?.getD 0 ≠ 48) → (xs.length = 0 ∨ xs[xs.length - 1]?.getD 0 ≠ 48) := by
        intro x xs hx
        cases xs with
        | nil => exact Or.inl rfl
        | cons y ys => right; rcases hx with hx | hx; · simp at hx
                       · simpa using hx
      rw [ih ⟨(okd_cons.1 h.1).2, rfl, last h.2.2⟩ ⟨(okd_cons.1 k.1).2, by omega, last k.2.2⟩]
/-- A number below 0 or not, as bytes in the order in which they are written. -/
def decBytes (neg : Bool) (ts : List Nat) : List Nat := (if neg then [45] else []) ++ ts.reverse
/-- A text of these bytes. -/
def textOf (bs : List Nat) : Value := .string (strOfNums (bs.map fun x : Nat => (x : Int)))
end Go.Proofs.Yteplmnnpmekngab
